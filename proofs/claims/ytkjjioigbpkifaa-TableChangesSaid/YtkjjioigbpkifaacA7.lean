/- The functions of layer 11, Ez. Conditions: none. -/
import Derived.Test.YtkjjioigbpkifaacA6
namespace Go.Proofs.Ytkjjioigbpkifaa
open Go Go.RowKit
set_option linter.unusedVariables false
set_option linter.unusedSimpArgs false
set_option maxRecDepth 20000
noncomputable def CB (p0 : Int × (Int × Int × Int × Int) × (Int × Int × Int × Int)) (p1 : Int × (Int × Int × Int × Int) × (Int × Int × Int × Int)) (x10 : Int) : (Int × Int × Int × Int × Int × Int × Int × Int × Int × Int) → Option ((Int × Int × Int × Int × Int × Int × Int × Int × Int × Int) ⊕ ((Int × Int × Int × Int × Int × Int × Int × Int) ⊕ ((Int × Int × Int × Int × Int × Int × Int × Int × Int) ⊕ ((Int × Int × Int × Int × Int × Int × Int × Int) ⊕ ((Int × (Int × Int × Int × Int) × (Int × Int × Int × Int)) × Bool)))))
  | (x27, x28, x29, x30, x31, x32, x33, x34, x35, x36) => (if x28 < 8 then ((ix ([p1.2.2.1, p1.2.2.2.1, p1.2.2.2.2.1, p1.2.2.2.2.2] : List Int) x10).bind fun x38 => (CR x38 x28).bind fun x39 => (if x39 = 1 then (ix ([p0.2.2.1, p0.2.2.2.1, p0.2.2.2.2.1, p0.2.2.2.2.2] : List Int) x10).bind fun x40 => (CR x40 x28).bind fun x41 => (if x41 = 1 then (ix ([p0.2.1.1, p0.2.1.2.1, p0.2.1.2.2.1, p0.2.1.2.2.2] : List Int) x10).bind fun x42 => (CR x42 x28).bind fun x43 => (ix ([p1.2.1.1, p1.2.1.2.1, p1.2.1.2.2.1, p1.2.1.2.2.2] : List Int) x10).bind fun x44 => (CR x44 x28).bind fun x45 => some (decide (x43 ≠ x45)) else some false) else some false)).bind fun x37 => (if x37 = true then some (.inr (.inr (.inr (.inr ((0, (0, 0, 0, 0), (0, 0, 0, 0)), false))))) else (((ix ([p1.2.2.1, p1.2.2.2.1, p1.2.2.2.2.1, p1.2.2.2.2.2] : List Int) x10).bind fun x55 => (CR x55 x28).bind fun x56 => (if x56 = 1 then (ix ([p0.2.2.1, p0.2.2.2.1, p0.2.2.2.2.1, p0.2.2.2.2.2] : List Int) x10).bind fun x57 => (CR x57 x28).bind fun x58 => some (decide (x58 = 0)) else some false)).bind fun x54 => (if x54 = true then (ix ([x33, x34, x35, x36] : List Int) x10).bind fun x59 => (ix ([x33, x34, x35, x36] : List Int) x10).bind fun x60 => (ix ([x29, x30, x31, x32] : List Int) x10).bind fun x61 => (ix ([p1.2.1.1, p1.2.1.2.1, p1.2.1.2.2.1, p1.2.1.2.2.2] : List Int) x10).bind fun x62 => (CR x62 x28).bind fun x63 => (ix ([x29, x30, x31, x32] : List Int) x10).bind fun x64 => some ((if x10 = 0 then BT (x61 + (BT (x27 * x63))) else x29), (if x10 = 1 then BT (x61 + (BT (x27 * x63))) else x30), (if x10 = 2 then BT (x61 + (BT (x27 * x63))) else x31), (if x10 = 3 then BT (x61 + (BT (x27 * x63))) else x32), (if x10 = 0 then BT (x59 + x27) else x33), (if x10 = 1 then BT (x59 + x27) else x34), (if x10 = 2 then BT (x59 + x27) else x35), (if x10 = 3 then BT (x59 + x27) else x36)) else some (x29, x30, x31, x32, x33, x34, x35, x36))).bind fun (x46, x47, x48, x49, x50, x51, x52, x53) => some (.inl (BT (x27 * 2), BT (x28 + 1), x46, x47, x48, x49, x50, x51, x52, x53))) else some (.inr (.inl (x29, x30, x31, x32, x33, x34, x35, x36))))
noncomputable def D6 (p0 : Int × (Int × Int × Int × Int) × (Int × Int × Int × Int)) (p1 : Int × (Int × Int × Int × Int) × (Int × Int × Int × Int)) : (Int × Int × Int × Int × Int × Int × Int × Int × Int) → Option ((Int × Int × Int × Int × Int × Int × Int × Int × Int) ⊕ ((Int × Int × Int × Int × Int × Int × Int × Int) ⊕ ((Int × (Int × Int × Int × Int) × (Int × Int × Int × Int)) × Bool)))
  | (x10, x11, x12, x13, x14, x15, x16, x17, x18) => (if x10 < 4 then FB (A9 (CB p0 p1 x10) (1, 0, x11, x12, x13, x14, x15, x16, x17, x18)) fun (x19, x20, x21, x22, x23, x24, x25, x26) => some (.inl (BT (x10 + 1), x19, x20, x21, x22, x23, x24, x25, x26)) else some (.inr (.inl (x11, x12, x13, x14, x15, x16, x17, x18))))
noncomputable def Gx (p0 : Int × (Int × Int × Int × Int) × (Int × Int × Int × Int)) (p1 : Int × (Int × Int × Int × Int) × (Int × Int × Int × Int)) : Option ((Int × (Int × Int × Int × Int) × (Int × Int × Int × Int)) × Bool) := (if p0.1 = (-1) then some p1.1 else some p0.1).bind fun x1 => (if (decide (p1.1 ≠ (-1)) && decide (x1 ≠ p1.1)) = true then some ((0, (0, 0, 0, 0), (0, 0, 0, 0)), false) else FB (A9 (D6 p0 p1) (0, p0.2.1.1, p0.2.1.2.1, p0.2.1.2.2.1, p0.2.1.2.2.2, p0.2.2.1, p0.2.2.2.1, p0.2.2.2.2.1, p0.2.2.2.2.2)) fun (x2, x3, x4, x5, x6, x7, x8, x9) => some ((x1, (x2, x3, x4, x5), (x6, x7, x8, x9)), true))
theorem KS (Y : Nat → Prop) (w0 : World)  (p0 : Int × (Int × Int × Int × Int) × (Int × Int × Int × Int)) (p1 : Int × (Int × Int × Int × Int) × (Int × Int × Int × Int)) (r : (Int × (Int × Int × Int × Int) × (Int × Int × Int × Int)) × Bool) (H : Gx p0 p1 = some r)  :
    Calls Try.prog 82 #[.agg #[.int .i64 p0.1, .int .i64 p0.2.1.1, .int .i64 p0.2.1.2.1, .int .i64 p0.2.1.2.2.1, .int .i64 p0.2.1.2.2.2, .int .i64 p0.2.2.1, .int .i64 p0.2.2.2.1, .int .i64 p0.2.2.2.2.1, .int .i64 p0.2.2.2.2.2], .agg #[.int .i64 p1.1, .int .i64 p1.2.1.1, .int .i64 p1.2.1.2.1, .int .i64 p1.2.1.2.2.1, .int .i64 p1.2.1.2.2.2, .int .i64 p1.2.2.1, .int .i64 p1.2.2.2.1, .int .i64 p1.2.2.2.2.1, .int .i64 p1.2.2.2.2.2]] w0 fun e w' => e = .returned (.tuple #[.agg #[.int .i64 r.1.1, .int .i64 r.1.2.1.1, .int .i64 r.1.2.1.2.1, .int .i64 r.1.2.1.2.2.1, .int .i64 r.1.2.1.2.2.2, .int .i64 r.1.2.2.1, .int .i64 r.1.2.2.2.1, .int .i64 r.1.2.2.2.2.1, .int .i64 r.1.2.2.2.2.2], .bool r.2]) ∧ Below w0.heap.size w0 w' := by
 refine enter Try.func82 Aa Try.ntmps82 Aa fun a F => ?_
 have W := Stw.start Y w0
 unfold Gx at H
 refine Al (Ae ?_)
 refine BS (cs := [.int .i64 p0.1, .int .i64 p0.2.1.1, .int .i64 p0.2.1.2.1, .int .i64 p0.2.1.2.2.1, .int .i64 p0.2.1.2.2.2, .int .i64 p0.2.2.1, .int .i64 p0.2.2.2.1, .int .i64 p0.2.2.2.2.1, .int .i64 p0.2.2.2.2.2]) F W Aa Aa Aa fun b1 a w F W => ?_
 refine BS (cs := [.int .i64 p1.1, .int .i64 p1.2.1.1, .int .i64 p1.2.1.2.1, .int .i64 p1.2.1.2.2.1, .int .i64 p1.2.1.2.2.2, .int .i64 p1.2.2.1, .int .i64 p1.2.2.2.1, .int .i64 p1.2.2.2.2.1, .int .i64 p1.2.2.2.2.2]) F W Aa Aa Aa fun b2 a w F W => ?_
 refine Cf (cs := [.int .i64 0, .int .i64 0, .int .i64 0, .int .i64 0, .int .i64 0, .int .i64 0, .int .i64 0, .int .i64 0, .int .i64 0]) F W Aa Ny Aa fun b3 a w F W => ?_
 refine ls F W Aa (Ag F Aa).q fun a w F W => ?_
 refine Af (Ad (Al (Ae ?_)))
 refine ls F W Aa (Aq (v := Value.agg #[.int .i64 p0.1, .int .i64 p0.2.1.1, .int .i64 p0.2.1.2.1, .int .i64 p0.2.1.2.2.1, .int .i64 p0.2.1.2.2.2, .int .i64 p0.2.2.1, .int .i64 p0.2.2.2.1, .int .i64 p0.2.2.2.2.1, .int .i64 p0.2.2.2.2.2]) 2 F Aa Aa Dk Aa).q fun a w F W => ?_
 refine Cf (cs := [.int .i64 0, .int .i64 0, .int .i64 0, .int .i64 0, .int .i64 0, .int .i64 0, .int .i64 0, .int .i64 0, .int .i64 0]) F W Aa Ny Aa fun b4 a w F W => ?_
 refine BA (vs := [.int .i64 p0.1, .int .i64 p0.2.1.1, .int .i64 p0.2.1.2.1, .int .i64 p0.2.1.2.2.1, .int .i64 p0.2.1.2.2.2, .int .i64 p0.2.2.1, .int .i64 p0.2.2.2.1, .int .i64 p0.2.2.2.2.1, .int .i64 p0.2.2.2.2.2]) (M' := [(b4, [.int .i64 p0.1, .int .i64 p0.2.1.1, .int .i64 p0.2.1.2.1, .int .i64 p0.2.1.2.2.1, .int .i64 p0.2.1.2.2.2, .int .i64 p0.2.2.1, .int .i64 p0.2.2.2.1, .int .i64 p0.2.2.2.2.1, .int .i64 p0.2.2.2.2.2]), (b3, [.int .i64 0, .int .i64 0, .int .i64 0, .int .i64 0, .int .i64 0, .int .i64 0, .int .i64 0, .int .i64 0, .int .i64 0]), (b2, [.int .i64 p1.1, .int .i64 p1.2.1.1, .int .i64 p1.2.1.2.1, .int .i64 p1.2.1.2.2.1, .int .i64 p1.2.1.2.2.2, .int .i64 p1.2.2.1, .int .i64 p1.2.2.2.1, .int .i64 p1.2.2.2.2.1, .int .i64 p1.2.2.2.2.2]), (b1, [.int .i64 p0.1, .int .i64 p0.2.1.1, .int .i64 p0.2.1.2.1, .int .i64 p0.2.1.2.2.1, .int .i64 p0.2.1.2.2.2, .int .i64 p0.2.2.1, .int .i64 p0.2.2.2.1, .int .i64 p0.2.2.2.2.1, .int .i64 p0.2.2.2.2.2])]) 0 F W Aa Aa Aa Dk Aa Aa Aa Aa Aa fun w W => ?_
 refine Af (Ad ?_)
 obtain ⟨o1, G1, K1⟩ := Ap H
 refine AF (fun a w => ∃ x1 : Int, some (x1) = some o1 ∧ Fr 112 [] [(2, .pointer (some ⟨b1, 0, none⟩)), (3, .pointer (some ⟨b2, 0, none⟩)), (4, .pointer (some ⟨b3, 0, none⟩)), (5, .bool false), (6, .pointer (some ⟨b4, 0, none⟩))] a ∧ Stw ⟨Y, [], w0⟩ [(b4, [.int .i64 x1, .int .i64 p0.2.1.1, .int .i64 p0.2.1.2.1, .int .i64 p0.2.1.2.2.1, .int .i64 p0.2.1.2.2.2, .int .i64 p0.2.2.1, .int .i64 p0.2.2.2.1, .int .i64 p0.2.2.2.2.1, .int .i64 p0.2.2.2.2.2]), (b3, [.int .i64 0, .int .i64 0, .int .i64 0, .int .i64 0, .int .i64 0, .int .i64 0, .int .i64 0, .int .i64 0, .int .i64 0]), (b2, [.int .i64 p1.1, .int .i64 p1.2.1.1, .int .i64 p1.2.1.2.1, .int .i64 p1.2.1.2.2.1, .int .i64 p1.2.1.2.2.2, .int .i64 p1.2.2.1, .int .i64 p1.2.2.2.1, .int .i64 p1.2.2.2.2.1, .int .i64 p1.2.2.2.2.2]), (b1, [.int .i64 p0.1, .int .i64 p0.2.1.1, .int .i64 p0.2.1.2.1, .int .i64 p0.2.1.2.2.1, .int .i64 p0.2.1.2.2.2, .int .i64 p0.2.2.1, .int .i64 p0.2.2.2.1, .int .i64 p0.2.2.2.2.1, .int .i64 p0.2.2.2.2.2])] [] w) ?_ ?_
 ·
  have H := G1
  clear G1 K1
  refine Al (Ae ?_)
  refine ls F W Aa (Aj Cd Aa Aa Aa T3 F Aa 0 Aa).q fun a w F W => ?_
  refine ls F W Aa (Aq (v := Value.int .i64 p0.1) 3 F Aa Aa T3 Aa).q fun a w F W => ?_
  refine ls F W Aa (BB F Aa Aa).q fun a w F W => ?_
  refine Af (Ad ?_)
  refine AA F Aa (fun hb => ?_) fun hb => ?_
  ·
   have H := AH (Bj hb) H
   rw [hb] at F
   clear hb
   refine Ae ?_
   refine ls F W Aa (Aj Cd Aa Aa Aa T3 F Aa 0 Aa).q fun a w F W => ?_
   refine ls F W Aa (Aq (v := Value.int .i64 p1.1) 2 F Aa Aa T3 Aa).q fun a w F W => ?_
   refine ls F W Aa (Aj Cd Aa Aa Aa T3 F Aa 0 Aa).q fun a w F W => ?_
   refine BA (vs := [.int .i64 p1.1]) (M' := [(b4, [.int .i64 p1.1, .int .i64 p0.2.1.1, .int .i64 p0.2.1.2.1, .int .i64 p0.2.1.2.2.1, .int .i64 p0.2.1.2.2.2, .int .i64 p0.2.2.1, .int .i64 p0.2.2.2.1, .int .i64 p0.2.2.2.2.1, .int .i64 p0.2.2.2.2.2]), (b3, [.int .i64 0, .int .i64 0, .int .i64 0, .int .i64 0, .int .i64 0, .int .i64 0, .int .i64 0, .int .i64 0, .int .i64 0]), (b2, [.int .i64 p1.1, .int .i64 p1.2.1.1, .int .i64 p1.2.1.2.1, .int .i64 p1.2.1.2.2.1, .int .i64 p1.2.1.2.2.2, .int .i64 p1.2.2.1, .int .i64 p1.2.2.2.1, .int .i64 p1.2.2.2.2.1, .int .i64 p1.2.2.2.2.2]), (b1, [.int .i64 p0.1, .int .i64 p0.2.1.1, .int .i64 p0.2.1.2.1, .int .i64 p0.2.1.2.2.1, .int .i64 p0.2.1.2.2.2, .int .i64 p0.2.2.1, .int .i64 p0.2.2.2.1, .int .i64 p0.2.2.2.2.1, .int .i64 p0.2.2.2.2.2])]) 0 F W Aa Aa Aa T3 Aa Aa Aa Aa Aa fun w W => ?_
   refine Af (Ad ?_)
   have W := W.frontM (i := 3) Aa Aa
   have W := W.frontM (i := 3) Aa Aa
   have W := W.frontM (i := 3) Aa Aa
   have W := W.frontM (i := 3) Aa Aa
   exact ⟨_, H, F.re ⟨rfl, Aa, Aa, Aa, Aa, trivial⟩, W⟩
  have H := AG (Bi hb) H
  rw [hb] at F
  clear hb
  refine Ax (Ad ?_)
  have W := W.frontM (i := 3) Aa Aa
  have W := W.frontM (i := 3) Aa Aa
  have W := W.frontM (i := 3) Aa Aa
  have W := W.frontM (i := 3) Aa Aa
  exact ⟨_, H, F.re ⟨rfl, Aa, Aa, Aa, Aa, trivial⟩, W⟩
 rintro a w ⟨x1, hj, F, W⟩
 have hj := AJ hj
 subst hj
 have H := K1
 clear G1 K1
 refine Al ?_
 refine AF (fun a w => Fr 112 [] [(2, .pointer (some ⟨b1, 0, none⟩)), (3, .pointer (some ⟨b2, 0, none⟩)), (4, .pointer (some ⟨b3, 0, none⟩)), (5, .bool false), (6, .pointer (some ⟨b4, 0, none⟩)), (26, .bool (decide (p1.1 ≠ (-1)) && decide (x1 ≠ p1.1)))] a ∧ Stw ⟨Y, [], w0⟩ [(b4, [.int .i64 x1, .int .i64 p0.2.1.1, .int .i64 p0.2.1.2.1, .int .i64 p0.2.1.2.2.1, .int .i64 p0.2.1.2.2.2, .int .i64 p0.2.2.1, .int .i64 p0.2.2.2.1, .int .i64 p0.2.2.2.2.1, .int .i64 p0.2.2.2.2.2]), (b3, [.int .i64 0, .int .i64 0, .int .i64 0, .int .i64 0, .int .i64 0, .int .i64 0, .int .i64 0, .int .i64 0, .int .i64 0]), (b2, [.int .i64 p1.1, .int .i64 p1.2.1.1, .int .i64 p1.2.1.2.1, .int .i64 p1.2.1.2.2.1, .int .i64 p1.2.1.2.2.2, .int .i64 p1.2.2.1, .int .i64 p1.2.2.2.1, .int .i64 p1.2.2.2.2.1, .int .i64 p1.2.2.2.2.2]), (b1, [.int .i64 p0.1, .int .i64 p0.2.1.1, .int .i64 p0.2.1.2.1, .int .i64 p0.2.1.2.2.1, .int .i64 p0.2.1.2.2.2, .int .i64 p0.2.2.1, .int .i64 p0.2.2.2.1, .int .i64 p0.2.2.2.2.1, .int .i64 p0.2.2.2.2.2])] [] w) ?_ ?_
 ·
  refine Ae ?_
  refine ls F W Aa (Aj Cd Aa Aa Aa T3 F Aa 0 Aa).q fun a w F W => ?_
  refine ls F W Aa (Aq (v := Value.int .i64 p1.1) 2 F Aa Aa T3 Aa).q fun a w F W => ?_
  refine ls F W Aa (D3 F Aa Aa).q fun a w F W => ?_
  refine ls F W Aa (Ah F Aa).q fun a w F W => ?_
  rcases Bool.eq_false_or_eq_true (decide (p1.1 ≠ (-1))) with hb0 | hb0
  ·
   rw [hb0] at F
   refine AE F W (Ai F Aa Aa Aa Aa) Aa (Ao Aa) (Aj Cd Aa Aa Aa T3 F Aa 0 Aa).q fun a w F W => ?_
   refine AE F W (Ai F Aa Aa Aa Aa) Aa (Ao Aa) (Aq (v := Value.int .i64 x1) 0 F Aa Aa T3 Aa).q fun a w F W => ?_
   refine AE F W (Ai F Aa Aa Aa Aa) Aa (Ao Aa) (Aj Cd Aa Aa Aa T3 F Aa 0 Aa).q fun a w F W => ?_
   refine AE F W (Ai F Aa Aa Aa Aa) Aa (Ao Aa) (Aq (v := Value.int .i64 p1.1) 2 F Aa Aa T3 Aa).q fun a w F W => ?_
   refine AE F W (Ai F Aa Aa Aa Aa) Aa (Ao Aa) (D3 F Aa Aa).q fun a w F W => ?_
   refine ls F W Aa (Az F Aa Aa Aa).q fun a w F W => ?_
   refine Af (Ad ?_)
   exact ⟨F.re ⟨rfl, Aa, Aa, Aa, Aa, (by show some (Value.bool (decide (x1 ≠ p1.1))) = some (Value.bool (decide (p1.1 ≠ (-1)) && decide (x1 ≠ p1.1))); try rw [hb0]; all_goals simp only [Bool.not_true, Bool.not_false, Bool.true_and, Bool.false_and, Bool.true_or, Bool.false_or, Bool.and_true, Bool.or_false, cond_true, cond_false]), trivial⟩, W⟩
  rw [hb0] at F
  iterate 5 refine CD F Aa Aa Aa Aa Aa Aa Aa fun a F => ?_
  refine ls F W Aa (Au F Aa Aa Aa).q fun a w F W => ?_
  refine Af (Ad ?_)
  exact ⟨F.re ⟨rfl, Aa, Aa, Aa, Aa, (by show some (Value.bool false) = some (Value.bool (decide (p1.1 ≠ (-1)) && decide (x1 ≠ p1.1))); try rw [hb0]; all_goals simp only [Bool.not_true, Bool.not_false, Bool.true_and, Bool.false_and, Bool.true_or, Bool.false_or, Bool.and_true, Bool.or_false, cond_true, cond_false]), trivial⟩, W⟩
 rintro a w ⟨F, W⟩
 refine AA F Aa (fun hb => ?_) fun hb => ?_
 ·
  have H := AH hb H
  rw [hb] at F
  clear hb
  refine Al (Ae ?_)
  refine ls F W Aa (Dp (v := Value.agg #[.int .i64 0, .int .i64 0, .int .i64 0, .int .i64 0, .int .i64 0, .int .i64 0, .int .i64 0, .int .i64 0, .int .i64 0]) Oz F Aa Aa Aa).q fun a w F W => ?_
  refine BA (vs := [.int .i64 0, .int .i64 0, .int .i64 0, .int .i64 0, .int .i64 0, .int .i64 0, .int .i64 0, .int .i64 0, .int .i64 0]) (M' := [(b4, [.int .i64 x1, .int .i64 p0.2.1.1, .int .i64 p0.2.1.2.1, .int .i64 p0.2.1.2.2.1, .int .i64 p0.2.1.2.2.2, .int .i64 p0.2.2.1, .int .i64 p0.2.2.2.1, .int .i64 p0.2.2.2.2.1, .int .i64 p0.2.2.2.2.2]), (b3, [.int .i64 0, .int .i64 0, .int .i64 0, .int .i64 0, .int .i64 0, .int .i64 0, .int .i64 0, .int .i64 0, .int .i64 0]), (b2, [.int .i64 p1.1, .int .i64 p1.2.1.1, .int .i64 p1.2.1.2.1, .int .i64 p1.2.1.2.2.1, .int .i64 p1.2.1.2.2.2, .int .i64 p1.2.2.1, .int .i64 p1.2.2.2.1, .int .i64 p1.2.2.2.2.1, .int .i64 p1.2.2.2.2.2]), (b1, [.int .i64 p0.1, .int .i64 p0.2.1.1, .int .i64 p0.2.1.2.1, .int .i64 p0.2.1.2.2.1, .int .i64 p0.2.1.2.2.2, .int .i64 p0.2.2.1, .int .i64 p0.2.2.2.1, .int .i64 p0.2.2.2.2.1, .int .i64 p0.2.2.2.2.2])]) 1 F W Aa Aa Aa Dk Aa Aa Aa Aa Aa fun w W => ?_
  refine ls F W Aa (Ag F Aa).q fun a w F W => ?_
  refine Af (Ad (Ay (AD ?_)))
  have H := AJ H
  subst H
  refine CW (.inl Aa) F W Aa (DQ 1 F Aa Aa Dk Aa) (Av F Aa) ?_
  exact ⟨rfl, W.done⟩
 have H := AG (by rw [hb]; decide) H
 rw [hb] at F
 clear hb
 refine Ax (Ad ?_)
 obtain ⟨o2, G2, K2, L2⟩ := Ih H
 refine AF (fun a w => ∃ x2 : Int, ∃ x3 : Int, ∃ x4 : Int, ∃ x5 : Int, ∃ x6 : Int, ∃ x7 : Int, ∃ x8 : Int, ∃ x9 : Int, some (Sum.inl (x2, x3, x4, x5, x6, x7, x8, x9)) = some o2 ∧ Fr 112 [] [(4, .pointer (some ⟨b3, 0, none⟩)), (5, .bool false), (6, .pointer (some ⟨b4, 0, none⟩))] a ∧ Stw ⟨Y, [], w0⟩ [(b4, [.int .i64 x1, .int .i64 x2, .int .i64 x3, .int .i64 x4, .int .i64 x5, .int .i64 x6, .int .i64 x7, .int .i64 x8, .int .i64 x9]), (b3, [.int .i64 0, .int .i64 0, .int .i64 0, .int .i64 0, .int .i64 0, .int .i64 0, .int .i64 0, .int .i64 0, .int .i64 0]), (b2, [.int .i64 p1.1, .int .i64 p1.2.1.1, .int .i64 p1.2.1.2.1, .int .i64 p1.2.1.2.2.1, .int .i64 p1.2.1.2.2.2, .int .i64 p1.2.2.1, .int .i64 p1.2.2.2.1, .int .i64 p1.2.2.2.2.1, .int .i64 p1.2.2.2.2.2]), (b1, [.int .i64 p0.1, .int .i64 p0.2.1.1, .int .i64 p0.2.1.2.1, .int .i64 p0.2.1.2.2.1, .int .i64 p0.2.1.2.2.2, .int .i64 p0.2.2.1, .int .i64 p0.2.2.2.1, .int .i64 p0.2.2.2.2.1, .int .i64 p0.2.2.2.2.2])] [] w) ?_ ?_
 ·
  have H := G2
  clear G2 K2
  refine Al (Ae ?_)
  refine ls F W Aa (Ag F Aa).q fun a w F W => ?_
  refine Af (Ad (AC ?_))
  have W := W.frontM (i := 3) Aa Aa
  have W := W.frontM (i := 3) Aa Aa
  have W := W.frontM (i := 3) Aa Aa
  have W := W.frontM (i := 3) Aa Aa
  refine Bz H (fun s a w => Fr 112 [] [(2, .pointer (some ⟨b1, 0, none⟩)), (3, .pointer (some ⟨b2, 0, none⟩)), (4, .pointer (some ⟨b3, 0, none⟩)), (5, .bool false), (6, .pointer (some ⟨b4, 0, none⟩)), (7, .int .i64 s.1)] a ∧ Stw ⟨Y, [], w0⟩ [(b4, [.int .i64 x1, .int .i64 s.2.1, .int .i64 s.2.2.1, .int .i64 s.2.2.2.1, .int .i64 s.2.2.2.2.1, .int .i64 s.2.2.2.2.2.1, .int .i64 s.2.2.2.2.2.2.1, .int .i64 s.2.2.2.2.2.2.2.1, .int .i64 s.2.2.2.2.2.2.2.2]), (b3, [.int .i64 0, .int .i64 0, .int .i64 0, .int .i64 0, .int .i64 0, .int .i64 0, .int .i64 0, .int .i64 0, .int .i64 0]), (b2, [.int .i64 p1.1, .int .i64 p1.2.1.1, .int .i64 p1.2.1.2.1, .int .i64 p1.2.1.2.2.1, .int .i64 p1.2.1.2.2.2, .int .i64 p1.2.2.1, .int .i64 p1.2.2.2.1, .int .i64 p1.2.2.2.2.1, .int .i64 p1.2.2.2.2.2]), (b1, [.int .i64 p0.1, .int .i64 p0.2.1.1, .int .i64 p0.2.1.2.1, .int .i64 p0.2.1.2.2.1, .int .i64 p0.2.1.2.2.2, .int .i64 p0.2.2.1, .int .i64 p0.2.2.2.1, .int .i64 p0.2.2.2.2.1, .int .i64 p0.2.2.2.2.2])] [] w) ⟨F.re ⟨rfl, Aa, Aa, Aa, Aa, Aa, trivial⟩, W⟩ fun s o a w H L3 hR => ?_
  obtain ⟨x10, x11, x12, x13, x14, x15, x16, x17, x18⟩ := s
  obtain ⟨F, W⟩ := hR
  have F : Fr 112 [] [(2, .pointer (some ⟨b1, 0, none⟩)), (3, .pointer (some ⟨b2, 0, none⟩)), (4, .pointer (some ⟨b3, 0, none⟩)), (5, .bool false), (6, .pointer (some ⟨b4, 0, none⟩)), (7, .int .i64 x10)] a := F
  have W : Stw ⟨Y, [], w0⟩ [(b4, [.int .i64 x1, .int .i64 x11, .int .i64 x12, .int .i64 x13, .int .i64 x14, .int .i64 x15, .int .i64 x16, .int .i64 x17, .int .i64 x18]), (b3, [.int .i64 0, .int .i64 0, .int .i64 0, .int .i64 0, .int .i64 0, .int .i64 0, .int .i64 0, .int .i64 0, .int .i64 0]), (b2, [.int .i64 p1.1, .int .i64 p1.2.1.1, .int .i64 p1.2.1.2.1, .int .i64 p1.2.1.2.2.1, .int .i64 p1.2.1.2.2.2, .int .i64 p1.2.2.1, .int .i64 p1.2.2.2.1, .int .i64 p1.2.2.2.2.1, .int .i64 p1.2.2.2.2.2]), (b1, [.int .i64 p0.1, .int .i64 p0.2.1.1, .int .i64 p0.2.1.2.1, .int .i64 p0.2.1.2.2.1, .int .i64 p0.2.1.2.2.2, .int .i64 p0.2.2.1, .int .i64 p0.2.2.2.1, .int .i64 p0.2.2.2.2.1, .int .i64 p0.2.2.2.2.2])] [] w := W
  rw [D6] at H
  refine Al (Al (Ae ?_))
  refine ls F W Aa (Ah F Aa).q fun a w F W => ?_
  refine ls F W Aa (BI F Aa Aa).q fun a w F W => ?_
  refine Af (Ad ?_)
  refine AA F Aa (fun hb => ?_) fun hb => ?_
  ·
   have H := AH (Bj hb) H
   rw [hb] at F
   clear hb
   refine Ax (Ad ?_)
   obtain ⟨o4, G4, K4, L4⟩ := Ih H
   refine AF (fun a w => ∃ x19 : Int, ∃ x20 : Int, ∃ x21 : Int, ∃ x22 : Int, ∃ x23 : Int, ∃ x24 : Int, ∃ x25 : Int, ∃ x26 : Int, some (Sum.inl (x19, x20, x21, x22, x23, x24, x25, x26)) = some o4 ∧ Fr 112 [] [(2, .pointer (some ⟨b1, 0, none⟩)), (3, .pointer (some ⟨b2, 0, none⟩)), (4, .pointer (some ⟨b3, 0, none⟩)), (5, .bool false), (6, .pointer (some ⟨b4, 0, none⟩)), (7, .int .i64 x10)] a ∧ Stw ⟨Y, [], w0⟩ [(b4, [.int .i64 x1, .int .i64 x19, .int .i64 x20, .int .i64 x21, .int .i64 x22, .int .i64 x23, .int .i64 x24, .int .i64 x25, .int .i64 x26]), (b3, [.int .i64 0, .int .i64 0, .int .i64 0, .int .i64 0, .int .i64 0, .int .i64 0, .int .i64 0, .int .i64 0, .int .i64 0]), (b2, [.int .i64 p1.1, .int .i64 p1.2.1.1, .int .i64 p1.2.1.2.1, .int .i64 p1.2.1.2.2.1, .int .i64 p1.2.1.2.2.2, .int .i64 p1.2.2.1, .int .i64 p1.2.2.2.1, .int .i64 p1.2.2.2.2.1, .int .i64 p1.2.2.2.2.2]), (b1, [.int .i64 p0.1, .int .i64 p0.2.1.1, .int .i64 p0.2.1.2.1, .int .i64 p0.2.1.2.2.1, .int .i64 p0.2.1.2.2.2, .int .i64 p0.2.2.1, .int .i64 p0.2.2.2.1, .int .i64 p0.2.2.2.2.1, .int .i64 p0.2.2.2.2.2])] [] w) ?_ ?_
   ·
    have H := G4
    clear G4 K4
    refine AC (Al (Ae ?_))
    refine ls F W Aa (Ag F Aa).q fun a w F W => ?_
    refine Af (Ad (Al (Ae ?_)))
    refine ls F W Aa (Ag F Aa).q fun a w F W => ?_
    refine Af (Ad (AC ?_))
    have W := W.frontM (i := 3) Aa Aa
    have W := W.frontM (i := 3) Aa Aa
    have W := W.frontM (i := 3) Aa Aa
    have W := W.frontM (i := 3) Aa Aa
    refine Bz H (fun s a w => Fr 112 [] [(2, .pointer (some ⟨b1, 0, none⟩)), (3, .pointer (some ⟨b2, 0, none⟩)), (4, .pointer (some ⟨b3, 0, none⟩)), (5, .bool false), (6, .pointer (some ⟨b4, 0, none⟩)), (7, .int .i64 x10), (8, .int .i64 s.1), (9, .int .i64 s.2.1)] a ∧ Stw ⟨Y, [], w0⟩ [(b4, [.int .i64 x1, .int .i64 s.2.2.1, .int .i64 s.2.2.2.1, .int .i64 s.2.2.2.2.1, .int .i64 s.2.2.2.2.2.1, .int .i64 s.2.2.2.2.2.2.1, .int .i64 s.2.2.2.2.2.2.2.1, .int .i64 s.2.2.2.2.2.2.2.2.1, .int .i64 s.2.2.2.2.2.2.2.2.2]), (b3, [.int .i64 0, .int .i64 0, .int .i64 0, .int .i64 0, .int .i64 0, .int .i64 0, .int .i64 0, .int .i64 0, .int .i64 0]), (b2, [.int .i64 p1.1, .int .i64 p1.2.1.1, .int .i64 p1.2.1.2.1, .int .i64 p1.2.1.2.2.1, .int .i64 p1.2.1.2.2.2, .int .i64 p1.2.2.1, .int .i64 p1.2.2.2.1, .int .i64 p1.2.2.2.2.1, .int .i64 p1.2.2.2.2.2]), (b1, [.int .i64 p0.1, .int .i64 p0.2.1.1, .int .i64 p0.2.1.2.1, .int .i64 p0.2.1.2.2.1, .int .i64 p0.2.1.2.2.2, .int .i64 p0.2.2.1, .int .i64 p0.2.2.2.1, .int .i64 p0.2.2.2.2.1, .int .i64 p0.2.2.2.2.2])] [] w) ⟨F.re ⟨rfl, Aa, Aa, Aa, Aa, Aa, Aa, Aa, trivial⟩, W⟩ fun s o a w H L5 hR => ?_
    obtain ⟨x27, x28, x29, x30, x31, x32, x33, x34, x35, x36⟩ := s
    obtain ⟨F, W⟩ := hR
    have F : Fr 112 [] [(2, .pointer (some ⟨b1, 0, none⟩)), (3, .pointer (some ⟨b2, 0, none⟩)), (4, .pointer (some ⟨b3, 0, none⟩)), (5, .bool false), (6, .pointer (some ⟨b4, 0, none⟩)), (7, .int .i64 x10), (8, .int .i64 x27), (9, .int .i64 x28)] a := F
    have W : Stw ⟨Y, [], w0⟩ [(b4, [.int .i64 x1, .int .i64 x29, .int .i64 x30, .int .i64 x31, .int .i64 x32, .int .i64 x33, .int .i64 x34, .int .i64 x35, .int .i64 x36]), (b3, [.int .i64 0, .int .i64 0, .int .i64 0, .int .i64 0, .int .i64 0, .int .i64 0, .int .i64 0, .int .i64 0, .int .i64 0]), (b2, [.int .i64 p1.1, .int .i64 p1.2.1.1, .int .i64 p1.2.1.2.1, .int .i64 p1.2.1.2.2.1, .int .i64 p1.2.1.2.2.2, .int .i64 p1.2.2.1, .int .i64 p1.2.2.2.1, .int .i64 p1.2.2.2.2.1, .int .i64 p1.2.2.2.2.2]), (b1, [.int .i64 p0.1, .int .i64 p0.2.1.1, .int .i64 p0.2.1.2.1, .int .i64 p0.2.1.2.2.1, .int .i64 p0.2.1.2.2.2, .int .i64 p0.2.2.1, .int .i64 p0.2.2.2.1, .int .i64 p0.2.2.2.2.1, .int .i64 p0.2.2.2.2.2])] [] w := W
    rw [CB] at H
    refine Al (Al (Ae ?_))
    refine ls F W Aa (Ah F Aa).q fun a w F W => ?_
    refine ls F W Aa (BI F Aa Aa).q fun a w F W => ?_
    refine Af (Ad ?_)
    refine AA F Aa (fun hb => ?_) fun hb => ?_
    ·
     have H := AH (Bj hb) H
     rw [hb] at F
     clear hb
     refine Ax (Ad (Al (AC (Al ?_))))
     obtain ⟨o6, G6, K6⟩ := Ap H
     refine AF (fun a w => ∃ x37 : Bool, some (x37) = some o6 ∧ Fr 112 [] [(2, .pointer (some ⟨b1, 0, none⟩)), (3, .pointer (some ⟨b2, 0, none⟩)), (4, .pointer (some ⟨b3, 0, none⟩)), (5, .bool false), (6, .pointer (some ⟨b4, 0, none⟩)), (7, .int .i64 x10), (8, .int .i64 x27), (9, .int .i64 x28), (66, .bool x37)] a ∧ Stw ⟨Y, [], w0⟩ [(b4, [.int .i64 x1, .int .i64 x29, .int .i64 x30, .int .i64 x31, .int .i64 x32, .int .i64 x33, .int .i64 x34, .int .i64 x35, .int .i64 x36]), (b3, [.int .i64 0, .int .i64 0, .int .i64 0, .int .i64 0, .int .i64 0, .int .i64 0, .int .i64 0, .int .i64 0, .int .i64 0]), (b2, [.int .i64 p1.1, .int .i64 p1.2.1.1, .int .i64 p1.2.1.2.1, .int .i64 p1.2.1.2.2.1, .int .i64 p1.2.1.2.2.2, .int .i64 p1.2.2.1, .int .i64 p1.2.2.2.1, .int .i64 p1.2.2.2.2.1, .int .i64 p1.2.2.2.2.2]), (b1, [.int .i64 p0.1, .int .i64 p0.2.1.1, .int .i64 p0.2.1.2.1, .int .i64 p0.2.1.2.2.1, .int .i64 p0.2.1.2.2.2, .int .i64 p0.2.2.1, .int .i64 p0.2.2.2.1, .int .i64 p0.2.2.2.2.1, .int .i64 p0.2.2.2.2.2])] [] w) ?_ ?_
     ·
      have H := G6
      clear G6 K6
      refine Co W MO (by kernel_rfl) ?_
      refine qs F Aa (Ah F Aa).q fun a F => ?_
      refine qs F Aa (Aj Cd Aa Aa Aa FR F Aa 5 Aa).q fun a F => ?_
      obtain ⟨x38, h1, H⟩ := Ap H
      refine qs F Aa (Bd (5 + (x10).toNat * 1) C9 F Aa Aa Aa h1 Aa).q fun a F => ?_
      refine qs F Aa (Aq (v := Value.int .i64 x38) 2 F Aa Aa T3 (BJ (base := 5) (m := 4) (l := [p1.2.2.1, p1.2.2.2.1, p1.2.2.2.2.1, p1.2.2.2.2.2]) (enc := Value.int .i64) Aa h1)).q fun a F => ?_
      refine qs F Aa (Ah F Aa).q fun a F => ?_
      obtain ⟨x39, h2, H⟩ := Ap H
      refine qs F Aa (AR (v := Value.int .i64 x39) F LL Aa (fun w W => CK any w x38 x28 _ h2)) fun a F => ?_
      refine qs F Aa (BB F Aa Aa).q fun a F => ?_
      refine qs F Aa (Ah F Aa).q fun a F => ?_
      rcases Bool.eq_false_or_eq_true (decide (x39 = 1)) with hb | hb
      ·
       have H := AH (Bj hb) H
       rw [hb] at F
       clear hb
       refine Bh F (Ai F Aa Aa Aa Aa) Aa (Ao Aa) (Ah F Aa).q fun a F => ?_
       refine Bh F (Ai F Aa Aa Aa Aa) Aa (Ao Aa) (Aj Cd Aa Aa Aa FR F Aa 5 Aa).q fun a F => ?_
       obtain ⟨x40, h3, H⟩ := Ap H
       refine Bh F (Ai F Aa Aa Aa Aa) Aa (Ao Aa) (Bd (5 + (x10).toNat * 1) C9 F Aa Aa Aa h3 Aa).q fun a F => ?_
       refine Bh F (Ai F Aa Aa Aa Aa) Aa (Ao Aa) (Aq (v := Value.int .i64 x40) 3 F Aa Aa T3 (BJ (base := 5) (m := 4) (l := [p0.2.2.1, p0.2.2.2.1, p0.2.2.2.2.1, p0.2.2.2.2.2]) (enc := Value.int .i64) Aa h3)).q fun a F => ?_
       refine Bh F (Ai F Aa Aa Aa Aa) Aa (Ao Aa) (Ah F Aa).q fun a F => ?_
       obtain ⟨x41, h4, H⟩ := Ap H
       refine Bh F (Ai F Aa Aa Aa Aa) Aa (Ao Aa) (AR (v := Value.int .i64 x41) F LL Aa (fun w W => CK any w x40 x28 _ h4)) fun a F => ?_
       refine Bh F (Ai F Aa Aa Aa Aa) Aa (Ao Aa) (BB F Aa Aa).q fun a F => ?_
       refine qs F Aa (Az F Aa Aa Aa).q fun a F => ?_
       refine qs F Aa (Ah F Aa).q fun a F => ?_
       rcases Bool.eq_false_or_eq_true (decide (x41 = 1)) with hb | hb
       ·
        have H := AH (Bj hb) H
        rw [hb] at F
        clear hb
        refine Bh F (Ai F Aa Aa Aa Aa) Aa (Ao Aa) (Ah F Aa).q fun a F => ?_
        refine Bh F (Ai F Aa Aa Aa Aa) Aa (Ao Aa) (Aj Cd Aa Aa Aa FR F Aa 1 Aa).q fun a F => ?_
        obtain ⟨x42, h5, H⟩ := Ap H
        refine Bh F (Ai F Aa Aa Aa Aa) Aa (Ao Aa) (Bd (1 + (x10).toNat * 1) C9 F Aa Aa Aa h5 Aa).q fun a F => ?_
        refine Bh F (Ai F Aa Aa Aa Aa) Aa (Ao Aa) (Aq (v := Value.int .i64 x42) 3 F Aa Aa T3 (BJ (base := 1) (m := 4) (l := [p0.2.1.1, p0.2.1.2.1, p0.2.1.2.2.1, p0.2.1.2.2.2]) (enc := Value.int .i64) Aa h5)).q fun a F => ?_
        refine Bh F (Ai F Aa Aa Aa Aa) Aa (Ao Aa) (Ah F Aa).q fun a F => ?_
        obtain ⟨x43, h6, H⟩ := Ap H
        refine Bh F (Ai F Aa Aa Aa Aa) Aa (Ao Aa) (AR (v := Value.int .i64 x43) F LL Aa (fun w W => CK any w x42 x28 _ h6)) fun a F => ?_
        refine Bh F (Ai F Aa Aa Aa Aa) Aa (Ao Aa) (Ah F Aa).q fun a F => ?_
        refine Bh F (Ai F Aa Aa Aa Aa) Aa (Ao Aa) (Aj Cd Aa Aa Aa FR F Aa 1 Aa).q fun a F => ?_
        obtain ⟨x44, h7, H⟩ := Ap H
        refine Bh F (Ai F Aa Aa Aa Aa) Aa (Ao Aa) (Bd (1 + (x10).toNat * 1) C9 F Aa Aa Aa h7 Aa).q fun a F => ?_
        refine Bh F (Ai F Aa Aa Aa Aa) Aa (Ao Aa) (Aq (v := Value.int .i64 x44) 2 F Aa Aa T3 (BJ (base := 1) (m := 4) (l := [p1.2.1.1, p1.2.1.2.1, p1.2.1.2.2.1, p1.2.1.2.2.2]) (enc := Value.int .i64) Aa h7)).q fun a F => ?_
        refine Bh F (Ai F Aa Aa Aa Aa) Aa (Ao Aa) (Ah F Aa).q fun a F => ?_
        obtain ⟨x45, h8, H⟩ := Ap H
        refine Bh F (Ai F Aa Aa Aa Aa) Aa (Ao Aa) (AR (v := Value.int .i64 x45) F LL Aa (fun w W => CK any w x44 x28 _ h8)) fun a F => ?_
        refine Bh F (Ai F Aa Aa Aa Aa) Aa (Ao Aa) (D3 F Aa Aa).q fun a F => ?_
        refine qs F Aa (Az F Aa Aa Aa).q fun a F => ?_
        refine A4 fun w W => ?_
        refine Ad ?_
        have W := W.frontM (i := 3) Aa Aa
        have W := W.frontM (i := 3) Aa Aa
        have W := W.frontM (i := 3) Aa Aa
        have W := W.frontM (i := 3) Aa Aa
        exact ⟨_, H, F.re ⟨rfl, Aa, Aa, Aa, Aa, Aa, Aa, Aa, Aa, trivial⟩, W⟩
       have H := AG (Bi hb) H
       rw [hb] at F
       clear hb
       iterate 13 refine BK F (Bq F Aa Aa Aa Aa Aa) Aa Aa fun a F => ?_
       refine qs F Aa (Au F Aa Aa Aa).q fun a F => ?_
       refine A4 fun w W => ?_
       refine Ad ?_
       have W := W.frontM (i := 3) Aa Aa
       have W := W.frontM (i := 3) Aa Aa
       have W := W.frontM (i := 3) Aa Aa
       have W := W.frontM (i := 3) Aa Aa
       exact ⟨_, H, F.re ⟨rfl, Aa, Aa, Aa, Aa, Aa, Aa, Aa, Aa, trivial⟩, W⟩
      have H := AG (Bi hb) H
      rw [hb] at F
      clear hb
      iterate 7 refine BK F (Bq F Aa Aa Aa Aa Aa) Aa Aa fun a F => ?_
      refine qs F Aa (Au F Aa Aa Aa).q fun a F => ?_
      refine qs F Aa (Ah F Aa).q fun a F => ?_
      iterate 13 refine BK F (Bq F Aa Aa Aa Aa Aa) Aa Aa fun a F => ?_
      refine qs F Aa (Au F Aa Aa Aa).q fun a F => ?_
      refine A4 fun w W => ?_
      refine Ad ?_
      have W := W.frontM (i := 3) Aa Aa
      have W := W.frontM (i := 3) Aa Aa
      have W := W.frontM (i := 3) Aa Aa
      have W := W.frontM (i := 3) Aa Aa
      exact ⟨_, H, F.re ⟨rfl, Aa, Aa, Aa, Aa, Aa, Aa, Aa, Aa, trivial⟩, W⟩
     rintro a w ⟨x37, hj, F, W⟩
     have hj := AJ hj
     subst hj
     have H := K6
     clear G6 K6
     refine AA F Aa (fun hb => ?_) fun hb => ?_
     ·
      have H := AH hb H
      rw [hb] at F
      clear hb
      refine Al (Ae ?_)
      refine ls F W Aa (Dp (v := Value.agg #[.int .i64 0, .int .i64 0, .int .i64 0, .int .i64 0, .int .i64 0, .int .i64 0, .int .i64 0, .int .i64 0, .int .i64 0]) Oz F Aa Aa Aa).q fun a w F W => ?_
      refine BA (vs := [.int .i64 0, .int .i64 0, .int .i64 0, .int .i64 0, .int .i64 0, .int .i64 0, .int .i64 0, .int .i64 0, .int .i64 0]) (M' := [(b4, [.int .i64 x1, .int .i64 x29, .int .i64 x30, .int .i64 x31, .int .i64 x32, .int .i64 x33, .int .i64 x34, .int .i64 x35, .int .i64 x36]), (b3, [.int .i64 0, .int .i64 0, .int .i64 0, .int .i64 0, .int .i64 0, .int .i64 0, .int .i64 0, .int .i64 0, .int .i64 0]), (b2, [.int .i64 p1.1, .int .i64 p1.2.1.1, .int .i64 p1.2.1.2.1, .int .i64 p1.2.1.2.2.1, .int .i64 p1.2.1.2.2.2, .int .i64 p1.2.2.1, .int .i64 p1.2.2.2.1, .int .i64 p1.2.2.2.2.1, .int .i64 p1.2.2.2.2.2]), (b1, [.int .i64 p0.1, .int .i64 p0.2.1.1, .int .i64 p0.2.1.2.1, .int .i64 p0.2.1.2.2.1, .int .i64 p0.2.1.2.2.2, .int .i64 p0.2.2.1, .int .i64 p0.2.2.2.1, .int .i64 p0.2.2.2.2.1, .int .i64 p0.2.2.2.2.2])]) 1 F W Aa Aa Aa Dk Aa Aa Aa Aa Aa fun w W => ?_
      refine ls F W Aa (Ag F Aa).q fun a w F W => ?_
      refine Af (Ad (Ay (AD (AK ?_))))
      iterate 2 refine AD ?_
      iterate 2 refine AK ?_
      iterate 2 refine AD ?_
      refine AK (AD ?_)
      have H := L5 _ H
      have H := L4 _ H
      have H := L3 _ H
      have H := L2 _ H
      have H := AJ H
      subst H
      refine CW (.inl Aa) F W Aa (DQ 1 F Aa Aa Dk Aa) (Av F Aa) ?_
      exact ⟨rfl, W.done⟩
     have H := AG (by rw [hb]; decide) H
     rw [hb] at F
     clear hb
     refine Ax (Ad ?_)
     obtain ⟨o7, G7, K7⟩ := Ap H
     refine AF (fun a w => ∃ x46 : Int, ∃ x47 : Int, ∃ x48 : Int, ∃ x49 : Int, ∃ x50 : Int, ∃ x51 : Int, ∃ x52 : Int, ∃ x53 : Int, some ((x46, x47, x48, x49, x50, x51, x52, x53)) = some o7 ∧ Fr 112 [] [(2, .pointer (some ⟨b1, 0, none⟩)), (3, .pointer (some ⟨b2, 0, none⟩)), (4, .pointer (some ⟨b3, 0, none⟩)), (5, .bool false), (6, .pointer (some ⟨b4, 0, none⟩)), (7, .int .i64 x10), (8, .int .i64 x27), (9, .int .i64 x28)] a ∧ Stw ⟨Y, [], w0⟩ [(b4, [.int .i64 x1, .int .i64 x46, .int .i64 x47, .int .i64 x48, .int .i64 x49, .int .i64 x50, .int .i64 x51, .int .i64 x52, .int .i64 x53]), (b3, [.int .i64 0, .int .i64 0, .int .i64 0, .int .i64 0, .int .i64 0, .int .i64 0, .int .i64 0, .int .i64 0, .int .i64 0]), (b2, [.int .i64 p1.1, .int .i64 p1.2.1.1, .int .i64 p1.2.1.2.1, .int .i64 p1.2.1.2.2.1, .int .i64 p1.2.1.2.2.2, .int .i64 p1.2.2.1, .int .i64 p1.2.2.2.1, .int .i64 p1.2.2.2.2.1, .int .i64 p1.2.2.2.2.2]), (b1, [.int .i64 p0.1, .int .i64 p0.2.1.1, .int .i64 p0.2.1.2.1, .int .i64 p0.2.1.2.2.1, .int .i64 p0.2.1.2.2.2, .int .i64 p0.2.2.1, .int .i64 p0.2.2.2.1, .int .i64 p0.2.2.2.2.1, .int .i64 p0.2.2.2.2.2])] [] w) ?_ ?_
     ·
      have H := G7
      clear G7 K7
      obtain ⟨o8, G8, K8⟩ := Ap H
      refine AF (fun a w => ∃ x54 : Bool, some (x54) = some o8 ∧ Fr 112 [] [(2, .pointer (some ⟨b1, 0, none⟩)), (3, .pointer (some ⟨b2, 0, none⟩)), (4, .pointer (some ⟨b3, 0, none⟩)), (5, .bool false), (6, .pointer (some ⟨b4, 0, none⟩)), (7, .int .i64 x10), (8, .int .i64 x27), (9, .int .i64 x28), (83, .bool x54)] a ∧ Stw ⟨Y, [], w0⟩ [(b4, [.int .i64 x1, .int .i64 x29, .int .i64 x30, .int .i64 x31, .int .i64 x32, .int .i64 x33, .int .i64 x34, .int .i64 x35, .int .i64 x36]), (b3, [.int .i64 0, .int .i64 0, .int .i64 0, .int .i64 0, .int .i64 0, .int .i64 0, .int .i64 0, .int .i64 0, .int .i64 0]), (b2, [.int .i64 p1.1, .int .i64 p1.2.1.1, .int .i64 p1.2.1.2.1, .int .i64 p1.2.1.2.2.1, .int .i64 p1.2.1.2.2.2, .int .i64 p1.2.2.1, .int .i64 p1.2.2.2.1, .int .i64 p1.2.2.2.2.1, .int .i64 p1.2.2.2.2.2]), (b1, [.int .i64 p0.1, .int .i64 p0.2.1.1, .int .i64 p0.2.1.2.1, .int .i64 p0.2.1.2.2.1, .int .i64 p0.2.1.2.2.2, .int .i64 p0.2.2.1, .int .i64 p0.2.2.2.1, .int .i64 p0.2.2.2.2.1, .int .i64 p0.2.2.2.2.2])] [] w) ?_ ?_
      ·
       have H := G8
       clear G8 K8
       refine Ae ?_
       refine ls F W Aa (Ah F Aa).q fun a w F W => ?_
       refine ls F W Aa (Aj Cd Aa Aa Aa FR F Aa 5 Aa).q fun a w F W => ?_
       obtain ⟨x55, h9, H⟩ := Ap H
       refine ls F W Aa (Bd (5 + (x10).toNat * 1) C9 F Aa Aa Aa h9 Aa).q fun a w F W => ?_
       refine ls F W Aa (Aq (v := Value.int .i64 x55) 2 F Aa Aa T3 (BJ (base := 5) (m := 4) (l := [p1.2.2.1, p1.2.2.2.1, p1.2.2.2.2.1, p1.2.2.2.2.2]) (enc := Value.int .i64) Aa h9)).q fun a w F W => ?_
       refine ls F W Aa (Ah F Aa).q fun a w F W => ?_
       obtain ⟨x56, h10, H⟩ := Ap H
       refine ls F W Aa (AR (v := Value.int .i64 x56) F LL Aa (fun w W => CK any w x55 x28 _ h10)) fun a w F W => ?_
       refine ls F W Aa (BB F Aa Aa).q fun a w F W => ?_
       refine ls F W Aa (Ah F Aa).q fun a w F W => ?_
       rcases Bool.eq_false_or_eq_true (decide (x56 = 1)) with hb | hb
       ·
        have H := AH (Bj hb) H
        rw [hb] at F
        clear hb
        refine AE F W (Ai F Aa Aa Aa Aa) Aa (Ao Aa) (Ah F Aa).q fun a w F W => ?_
        refine AE F W (Ai F Aa Aa Aa Aa) Aa (Ao Aa) (Aj Cd Aa Aa Aa FR F Aa 5 Aa).q fun a w F W => ?_
        obtain ⟨x57, h11, H⟩ := Ap H
        refine AE F W (Ai F Aa Aa Aa Aa) Aa (Ao Aa) (Bd (5 + (x10).toNat * 1) C9 F Aa Aa Aa h11 Aa).q fun a w F W => ?_
        refine AE F W (Ai F Aa Aa Aa Aa) Aa (Ao Aa) (Aq (v := Value.int .i64 x57) 3 F Aa Aa T3 (BJ (base := 5) (m := 4) (l := [p0.2.2.1, p0.2.2.2.1, p0.2.2.2.2.1, p0.2.2.2.2.2]) (enc := Value.int .i64) Aa h11)).q fun a w F W => ?_
        refine AE F W (Ai F Aa Aa Aa Aa) Aa (Ao Aa) (Ah F Aa).q fun a w F W => ?_
        refine Gr (Ai F Aa Aa Aa Aa) ?_
        obtain ⟨x58, h12, H⟩ := Ap H
        refine ls F W Aa (AR (v := Value.int .i64 x58) F LL Aa (fun w W => CK any w x57 x28 _ h12)) fun a w F W => ?_
        refine AE F W (Ai F Aa Aa Aa Aa) Aa (Ao Aa) (BB F Aa Aa).q fun a w F W => ?_
        refine ls F W Aa (Az F Aa Aa Aa).q fun a w F W => ?_
        refine Af (Ad ?_)
        have W := W.frontM (i := 3) Aa Aa
        have W := W.frontM (i := 3) Aa Aa
        have W := W.frontM (i := 3) Aa Aa
        have W := W.frontM (i := 3) Aa Aa
        exact ⟨_, H, F.re ⟨rfl, Aa, Aa, Aa, Aa, Aa, Aa, Aa, Aa, trivial⟩, W⟩
       have H := AG (Bi hb) H
       rw [hb] at F
       clear hb
       iterate 7 refine CD F Aa Aa Aa Aa Aa Aa Aa fun a F => ?_
       refine ls F W Aa (Au F Aa Aa Aa).q fun a w F W => ?_
       refine Af (Ad ?_)
       have W := W.frontM (i := 3) Aa Aa
       have W := W.frontM (i := 3) Aa Aa
       have W := W.frontM (i := 3) Aa Aa
       have W := W.frontM (i := 3) Aa Aa
       exact ⟨_, H, F.re ⟨rfl, Aa, Aa, Aa, Aa, Aa, Aa, Aa, Aa, trivial⟩, W⟩
      rintro a w ⟨x54, hj, F, W⟩
      have hj := AJ hj
      subst hj
      have H := K8
      clear G8 K8
      refine AA F Aa (fun hb => ?_) fun hb => ?_
      ·
       have H := AH hb H
       rw [hb] at F
       clear hb
       refine Al (Ae ?_)
       iterate 2 refine ls F W Aa (Ah F Aa).q fun a w F W => ?_
       refine ls F W Aa (Aj Cd Aa Aa Aa FR F Aa 5 Aa).q fun a w F W => ?_
       obtain ⟨x59, h13, H⟩ := Ap H
       refine ls F W Aa (Bd (5 + (x10).toNat * 1) C9 F Aa Aa Aa h13 Aa).q fun a w F W => ?_
       refine ls F W Aa (Aq (v := Value.int .i64 x59) 0 F Aa Aa T3 (BJ (base := 5) (m := 4) (l := [x33, x34, x35, x36]) (enc := Value.int .i64) Aa h13)).q fun a w F W => ?_
       refine ls F W Aa (Ah F Aa).q fun a w F W => ?_
       refine ls F W Aa (B6 F Aa Aa Aa).q fun a w F W => ?_
       refine ls F W Aa (Aj Cd Aa Aa Aa FR F Aa 5 Aa).q fun a w F W => ?_
       obtain ⟨x60, h14, H⟩ := Ap H
       refine ls F W Aa (Bd (5 + (x10).toNat * 1) C9 F Aa Aa Aa h14 Aa).q fun a w F W => ?_
       refine Dz (o := 5) (m := 4) (i := x10) (l := ([x33, x34, x35, x36] : List Int)) (x := x60) (cs := [.int .i64 x1, .int .i64 x29, .int .i64 x30, .int .i64 x31, .int .i64 x32, .int .i64 x33, .int .i64 x34, .int .i64 x35, .int .i64 x36]) (cs' := [.int .i64 x1, .int .i64 x29, .int .i64 x30, .int .i64 x31, .int .i64 x32, .int .i64 (if x10 = 0 then BT (x59 + x27) else x33), .int .i64 (if x10 = 1 then BT (x59 + x27) else x34), .int .i64 (if x10 = 2 then BT (x59 + x27) else x35), .int .i64 (if x10 = 3 then BT (x59 + x27) else x36)]) 0 F W Aa Aa Aa T3 Aa Aa Aa Aa h14 (by intro k hk hn; rw [hk]; match k, hn with | 0, _ => rfl | 1, _ => rfl | 2, _ => rfl | 3, _ => rfl | (z + 4), h => exact absurd h (by omega)) fun w W => ?_
       have W : Stw ⟨Y, [], w0⟩ [(b4, [.int .i64 x1, .int .i64 x29, .int .i64 x30, .int .i64 x31, .int .i64 x32, .int .i64 (if x10 = 0 then BT (x59 + x27) else x33), .int .i64 (if x10 = 1 then BT (x59 + x27) else x34), .int .i64 (if x10 = 2 then BT (x59 + x27) else x35), .int .i64 (if x10 = 3 then BT (x59 + x27) else x36)]), (b3, [.int .i64 0, .int .i64 0, .int .i64 0, .int .i64 0, .int .i64 0, .int .i64 0, .int .i64 0, .int .i64 0, .int .i64 0]), (b2, [.int .i64 p1.1, .int .i64 p1.2.1.1, .int .i64 p1.2.1.2.1, .int .i64 p1.2.1.2.2.1, .int .i64 p1.2.1.2.2.2, .int .i64 p1.2.2.1, .int .i64 p1.2.2.2.1, .int .i64 p1.2.2.2.2.1, .int .i64 p1.2.2.2.2.2]), (b1, [.int .i64 p0.1, .int .i64 p0.2.1.1, .int .i64 p0.2.1.2.1, .int .i64 p0.2.1.2.2.1, .int .i64 p0.2.1.2.2.2, .int .i64 p0.2.2.1, .int .i64 p0.2.2.2.1, .int .i64 p0.2.2.2.2.1, .int .i64 p0.2.2.2.2.2])] [] w := W
       refine Af (Ad ?_)
       refine GA 16 W MO (by kernel_rfl) ?_
       iterate 2 refine qs F Aa (Ah F Aa).q fun a F => ?_
       refine qs F Aa (Aj Cd Aa Aa Aa FR F Aa 1 Aa).q fun a F => ?_
       obtain ⟨x61, h15, H⟩ := Ap H
       refine qs F Aa (Bd (1 + (x10).toNat * 1) C9 F Aa Aa Aa h15 Aa).q fun a F => ?_
       refine qs F Aa (Aq (v := Value.int .i64 x61) 0 F Aa Aa T3 (BJ (base := 1) (m := 4) (l := [x29, x30, x31, x32]) (enc := Value.int .i64) Aa h15)).q fun a F => ?_
       iterate 2 refine qs F Aa (Ah F Aa).q fun a F => ?_
       refine qs F Aa (Aj Cd Aa Aa Aa FR F Aa 1 Aa).q fun a F => ?_
       obtain ⟨x62, h16, H⟩ := Ap H
       refine qs F Aa (Bd (1 + (x10).toNat * 1) C9 F Aa Aa Aa h16 Aa).q fun a F => ?_
       refine qs F Aa (Aq (v := Value.int .i64 x62) 2 F Aa Aa T3 (BJ (base := 1) (m := 4) (l := [p1.2.1.1, p1.2.1.2.1, p1.2.1.2.2.1, p1.2.1.2.2.2]) (enc := Value.int .i64) Aa h16)).q fun a F => ?_
       refine qs F Aa (Ah F Aa).q fun a F => ?_
       obtain ⟨x63, h17, H⟩ := Ap H
       refine qs F Aa (AR (v := Value.int .i64 x63) F LL Aa (fun w W => CK any w x62 x28 _ h17)) fun a F => ?_
       refine qs F Aa (NG F Aa Aa Aa).q fun a F => ?_
       refine qs F Aa (B6 F Aa Aa Aa).q fun a F => ?_
       refine qs F Aa (Aj Cd Aa Aa Aa FR F Aa 1 Aa).q fun a F => ?_
       obtain ⟨x64, h18, H⟩ := Ap H
       refine qs F Aa (Bd (1 + (x10).toNat * 1) C9 F Aa Aa Aa h18 Aa).q fun a F => ?_
       refine A4 fun w W => ?_
       refine Dz (o := 1) (m := 4) (i := x10) (l := ([x29, x30, x31, x32] : List Int)) (x := x64) (cs := [.int .i64 x1, .int .i64 x29, .int .i64 x30, .int .i64 x31, .int .i64 x32, .int .i64 (if x10 = 0 then BT (x59 + x27) else x33), .int .i64 (if x10 = 1 then BT (x59 + x27) else x34), .int .i64 (if x10 = 2 then BT (x59 + x27) else x35), .int .i64 (if x10 = 3 then BT (x59 + x27) else x36)]) (cs' := [.int .i64 x1, .int .i64 (if x10 = 0 then BT (x61 + (BT (x27 * x63))) else x29), .int .i64 (if x10 = 1 then BT (x61 + (BT (x27 * x63))) else x30), .int .i64 (if x10 = 2 then BT (x61 + (BT (x27 * x63))) else x31), .int .i64 (if x10 = 3 then BT (x61 + (BT (x27 * x63))) else x32), .int .i64 (if x10 = 0 then BT (x59 + x27) else x33), .int .i64 (if x10 = 1 then BT (x59 + x27) else x34), .int .i64 (if x10 = 2 then BT (x59 + x27) else x35), .int .i64 (if x10 = 3 then BT (x59 + x27) else x36)]) 0 F W Aa Aa Aa T3 Aa Aa Aa Aa h18 (by intro k hk hn; rw [hk]; match k, hn with | 0, _ => rfl | 1, _ => rfl | 2, _ => rfl | 3, _ => rfl | (z + 4), h => exact absurd h (by omega)) fun w W => ?_
       have W : Stw ⟨Y, [], w0⟩ [(b4, [.int .i64 x1, .int .i64 (if x10 = 0 then BT (x61 + (BT (x27 * x63))) else x29), .int .i64 (if x10 = 1 then BT (x61 + (BT (x27 * x63))) else x30), .int .i64 (if x10 = 2 then BT (x61 + (BT (x27 * x63))) else x31), .int .i64 (if x10 = 3 then BT (x61 + (BT (x27 * x63))) else x32), .int .i64 (if x10 = 0 then BT (x59 + x27) else x33), .int .i64 (if x10 = 1 then BT (x59 + x27) else x34), .int .i64 (if x10 = 2 then BT (x59 + x27) else x35), .int .i64 (if x10 = 3 then BT (x59 + x27) else x36)]), (b3, [.int .i64 0, .int .i64 0, .int .i64 0, .int .i64 0, .int .i64 0, .int .i64 0, .int .i64 0, .int .i64 0, .int .i64 0]), (b2, [.int .i64 p1.1, .int .i64 p1.2.1.1, .int .i64 p1.2.1.2.1, .int .i64 p1.2.1.2.2.1, .int .i64 p1.2.1.2.2.2, .int .i64 p1.2.2.1, .int .i64 p1.2.2.2.1, .int .i64 p1.2.2.2.2.1, .int .i64 p1.2.2.2.2.2]), (b1, [.int .i64 p0.1, .int .i64 p0.2.1.1, .int .i64 p0.2.1.2.1, .int .i64 p0.2.1.2.2.1, .int .i64 p0.2.1.2.2.2, .int .i64 p0.2.2.1, .int .i64 p0.2.2.2.1, .int .i64 p0.2.2.2.2.1, .int .i64 p0.2.2.2.2.2])] [] w := W
       refine Af (Ad ?_)
       have W := W.frontM (i := 3) Aa Aa
       have W := W.frontM (i := 3) Aa Aa
       have W := W.frontM (i := 3) Aa Aa
       have W := W.frontM (i := 3) Aa Aa
       exact ⟨_, _, _, _, _, _, _, _, H, F.re ⟨rfl, Aa, Aa, Aa, Aa, Aa, Aa, Aa, trivial⟩, W⟩
      have H := AG (by rw [hb]; decide) H
      rw [hb] at F
      clear hb
      refine Ax (Ad ?_)
      have W := W.frontM (i := 3) Aa Aa
      have W := W.frontM (i := 3) Aa Aa
      have W := W.frontM (i := 3) Aa Aa
      have W := W.frontM (i := 3) Aa Aa
      exact ⟨_, _, _, _, _, _, _, _, H, F.re ⟨rfl, Aa, Aa, Aa, Aa, Aa, Aa, Aa, trivial⟩, W⟩
     rintro a w ⟨x46, x47, x48, x49, x50, x51, x52, x53, hj, F, W⟩
     have hj := AJ hj
     subst hj
     have H := K7
     clear G7 K7
     refine Ae ?_
     refine ls F W Aa (Ah F Aa).q fun a w F W => ?_
     refine ls F W Aa (NG F Aa Aa Aa).q fun a w F W => ?_
     refine ls F W Aa (Ag F Aa).q fun a w F W => ?_
     refine Af (A1 (Ad (Ae ?_)))
     refine ls F W Aa (Ah F Aa).q fun a w F W => ?_
     refine ls F W Aa (B6 F Aa Aa Aa).q fun a w F W => ?_
     refine ls F W Aa (Ag F Aa).q fun a w F W => ?_
     refine Af (Ad ?_)
     have W := W.frontM (i := 3) Aa Aa
     have W := W.frontM (i := 3) Aa Aa
     have W := W.frontM (i := 3) Aa Aa
     have W := W.frontM (i := 3) Aa Aa
     exact ⟨_, H, F.re ⟨rfl, Aa, Aa, Aa, Aa, Aa, Aa, Aa, trivial⟩, W⟩
    have H := AG (Bi hb) H
    rw [hb] at F
    clear hb
    refine Bu ?_
    iterate 2 refine BX ?_
    refine Br (A1 (Ad ?_))
    have W := W.frontM (i := 3) Aa Aa
    have W := W.frontM (i := 3) Aa Aa
    have W := W.frontM (i := 3) Aa Aa
    have W := W.frontM (i := 3) Aa Aa
    have H := L5 _ H
    exact ⟨_, _, _, _, _, _, _, _, H, F.re ⟨rfl, Aa, Aa, Aa, Aa, Aa, trivial⟩, W⟩
   rintro a w ⟨x19, x20, x21, x22, x23, x24, x25, x26, hj, F, W⟩
   have H := K4 _ hj
   clear hj G4 K4 L4
   refine Ae ?_
   refine ls F W Aa (Ah F Aa).q fun a w F W => ?_
   refine ls F W Aa (B6 F Aa Aa Aa).q fun a w F W => ?_
   refine ls F W Aa (Ag F Aa).q fun a w F W => ?_
   refine Af (Ad ?_)
   have W := W.frontM (i := 3) Aa Aa
   have W := W.frontM (i := 3) Aa Aa
   have W := W.frontM (i := 3) Aa Aa
   have W := W.frontM (i := 3) Aa Aa
   exact ⟨_, H, F.re ⟨rfl, Aa, Aa, Aa, Aa, Aa, trivial⟩, W⟩
  have H := AG (Bi hb) H
  rw [hb] at F
  clear hb
  refine Bu ?_
  iterate 2 refine BX ?_
  refine Br (Ad ?_)
  have W := W.frontM (i := 3) Aa Aa
  have W := W.frontM (i := 3) Aa Aa
  have W := W.frontM (i := 3) Aa Aa
  have W := W.frontM (i := 3) Aa Aa
  have H := L3 _ H
  exact ⟨_, _, _, _, _, _, _, _, H, F.re ⟨rfl, Aa, Aa, trivial⟩, W⟩
 rintro a w ⟨x2, x3, x4, x5, x6, x7, x8, x9, hj, F, W⟩
 have H := K2 _ hj
 clear hj G2 K2 L2
 refine Al (Ae ?_)
 refine ls F W Aa (Aq (v := Value.agg #[.int .i64 x1, .int .i64 x2, .int .i64 x3, .int .i64 x4, .int .i64 x5, .int .i64 x6, .int .i64 x7, .int .i64 x8, .int .i64 x9]) 0 F Aa Aa Dk Aa).q fun a w F W => ?_
 refine BA (vs := [.int .i64 x1, .int .i64 x2, .int .i64 x3, .int .i64 x4, .int .i64 x5, .int .i64 x6, .int .i64 x7, .int .i64 x8, .int .i64 x9]) (M' := [(b4, [.int .i64 x1, .int .i64 x2, .int .i64 x3, .int .i64 x4, .int .i64 x5, .int .i64 x6, .int .i64 x7, .int .i64 x8, .int .i64 x9]), (b3, [.int .i64 x1, .int .i64 x2, .int .i64 x3, .int .i64 x4, .int .i64 x5, .int .i64 x6, .int .i64 x7, .int .i64 x8, .int .i64 x9]), (b2, [.int .i64 p1.1, .int .i64 p1.2.1.1, .int .i64 p1.2.1.2.1, .int .i64 p1.2.1.2.2.1, .int .i64 p1.2.1.2.2.2, .int .i64 p1.2.2.1, .int .i64 p1.2.2.2.1, .int .i64 p1.2.2.2.2.1, .int .i64 p1.2.2.2.2.2]), (b1, [.int .i64 p0.1, .int .i64 p0.2.1.1, .int .i64 p0.2.1.2.1, .int .i64 p0.2.1.2.2.1, .int .i64 p0.2.1.2.2.2, .int .i64 p0.2.2.1, .int .i64 p0.2.2.2.1, .int .i64 p0.2.2.2.2.1, .int .i64 p0.2.2.2.2.2])]) 1 F W Aa Aa Aa Dk Aa Aa Aa Aa Aa fun w W => ?_
 refine ls F W Aa (Ag F Aa).q fun a w F W => ?_
 refine Af (Ad (Ay ?_))
 have H := AJ H
 subst H
 refine CW (.inl Aa) F W Aa (DQ 1 F Aa Aa Dk Aa) (Av F Aa) ?_
 exact ⟨rfl, W.done⟩
theorem P9 : Has Try.prog 82 := ⟨fun args w => An Try.func82 rfl (by decide) args w⟩
noncomputable def Ek (p0 : Int × (Int × (Int × Int × Int × Int) × (Int × Int × Int × Int)) × (List (Int × Int × Int))) (p1 : Int × (Int × (Int × Int × Int × Int) × (Int × Int × Int × Int)) × (List (Int × Int × Int))) : Option Bool := (if (decide (p0.1 ≠ p1.1) || decide (p0.2.1.1 = p1.2.1.1 ∧ p0.2.1.2.1.1 = p1.2.1.2.1.1 ∧ p0.2.1.2.1.2.1 = p1.2.1.2.1.2.1 ∧ p0.2.1.2.1.2.2.1 = p1.2.1.2.1.2.2.1 ∧ p0.2.1.2.1.2.2.2 = p1.2.1.2.1.2.2.2 ∧ p0.2.1.2.2.1 = p1.2.1.2.2.1 ∧ p0.2.1.2.2.2.1 = p1.2.1.2.2.2.1 ∧ p0.2.1.2.2.2.2.1 = p1.2.1.2.2.2.2.1 ∧ p0.2.1.2.2.2.2.2 = p1.2.1.2.2.2.2.2)) = true then some false else (Gx p0.2.1 p1.2.1).bind fun x1 => some x1.2)
theorem IA (Y : Nat → Prop) (w0 : World) (v1 : Value) (v2 : Value) (p0 : Int × (Int × (Int × Int × Int × Int) × (Int × Int × Int × Int)) × (List (Int × Int × Int))) (p1 : Int × (Int × (Int × Int × Int × Int) × (Int × Int × Int × Int)) × (List (Int × Int × Int))) (r : Bool) (H : Ek p0 p1 = some r) (h_v1 : Sl w0 (NX []) BD v1 p0.2.2) (h_v2 : Sl w0 (NX []) BD v2 p1.2.2) :
    Calls Try.prog 67 #[.agg #[.int .i64 p0.1, .int .i64 p0.2.1.1, .int .i64 p0.2.1.2.1.1, .int .i64 p0.2.1.2.1.2.1, .int .i64 p0.2.1.2.1.2.2.1, .int .i64 p0.2.1.2.1.2.2.2, .int .i64 p0.2.1.2.2.1, .int .i64 p0.2.1.2.2.2.1, .int .i64 p0.2.1.2.2.2.2.1, .int .i64 p0.2.1.2.2.2.2.2, v1], .agg #[.int .i64 p1.1, .int .i64 p1.2.1.1, .int .i64 p1.2.1.2.1.1, .int .i64 p1.2.1.2.1.2.1, .int .i64 p1.2.1.2.1.2.2.1, .int .i64 p1.2.1.2.1.2.2.2, .int .i64 p1.2.1.2.2.1, .int .i64 p1.2.1.2.2.2.1, .int .i64 p1.2.1.2.2.2.2.1, .int .i64 p1.2.1.2.2.2.2.2, v2]] w0 fun e w' => e = .returned (.bool r) ∧ Below w0.heap.size w0 w' := by
 refine enter Try.func67 Aa Try.ntmps67 Aa fun a F => ?_
 have W := Stw.start Y w0
 unfold Ek at H
 refine Al (Ae ?_)
 refine BS (cs := [.int .i64 p0.1, .int .i64 p0.2.1.1, .int .i64 p0.2.1.2.1.1, .int .i64 p0.2.1.2.1.2.1, .int .i64 p0.2.1.2.1.2.2.1, .int .i64 p0.2.1.2.1.2.2.2, .int .i64 p0.2.1.2.2.1, .int .i64 p0.2.1.2.2.2.1, .int .i64 p0.2.1.2.2.2.2.1, .int .i64 p0.2.1.2.2.2.2.2, v1]) F W Aa Aa Aa fun b1 a w F W => ?_
 refine BS (cs := [.int .i64 p1.1, .int .i64 p1.2.1.1, .int .i64 p1.2.1.2.1.1, .int .i64 p1.2.1.2.1.2.1, .int .i64 p1.2.1.2.1.2.2.1, .int .i64 p1.2.1.2.1.2.2.2, .int .i64 p1.2.1.2.2.1, .int .i64 p1.2.1.2.2.2.1, .int .i64 p1.2.1.2.2.2.2.1, .int .i64 p1.2.1.2.2.2.2.2, v2]) F W Aa Aa Aa fun b2 a w F W => ?_
 refine ls F W Aa (Ag F Aa).q fun a w F W => ?_
 refine Af (Ad (Al ?_))
 refine AF (fun a w => Fr 28 [] [(2, .pointer (some ⟨b1, 0, none⟩)), (3, .pointer (some ⟨b2, 0, none⟩)), (4, .bool false), (18, .bool (decide (p0.1 ≠ p1.1) || decide (p0.2.1.1 = p1.2.1.1 ∧ p0.2.1.2.1.1 = p1.2.1.2.1.1 ∧ p0.2.1.2.1.2.1 = p1.2.1.2.1.2.1 ∧ p0.2.1.2.1.2.2.1 = p1.2.1.2.1.2.2.1 ∧ p0.2.1.2.1.2.2.2 = p1.2.1.2.1.2.2.2 ∧ p0.2.1.2.2.1 = p1.2.1.2.2.1 ∧ p0.2.1.2.2.2.1 = p1.2.1.2.2.2.1 ∧ p0.2.1.2.2.2.2.1 = p1.2.1.2.2.2.2.1 ∧ p0.2.1.2.2.2.2.2 = p1.2.1.2.2.2.2.2)))] a ∧ Stw ⟨Y, [], w0⟩ [(b2, [.int .i64 p1.1, .int .i64 p1.2.1.1, .int .i64 p1.2.1.2.1.1, .int .i64 p1.2.1.2.1.2.1, .int .i64 p1.2.1.2.1.2.2.1, .int .i64 p1.2.1.2.1.2.2.2, .int .i64 p1.2.1.2.2.1, .int .i64 p1.2.1.2.2.2.1, .int .i64 p1.2.1.2.2.2.2.1, .int .i64 p1.2.1.2.2.2.2.2, v2]), (b1, [.int .i64 p0.1, .int .i64 p0.2.1.1, .int .i64 p0.2.1.2.1.1, .int .i64 p0.2.1.2.1.2.1, .int .i64 p0.2.1.2.1.2.2.1, .int .i64 p0.2.1.2.1.2.2.2, .int .i64 p0.2.1.2.2.1, .int .i64 p0.2.1.2.2.2.1, .int .i64 p0.2.1.2.2.2.2.1, .int .i64 p0.2.1.2.2.2.2.2, v1])] [] w) ?_ ?_
 ·
  refine Ae ?_
  refine ls F W Aa (Aj Ci Aa Aa Aa T3 F Aa 0 Aa).q fun a w F W => ?_
  refine ls F W Aa (Aq (v := Value.int .i64 p0.1) 1 F Aa Aa T3 Aa).q fun a w F W => ?_
  refine ls F W Aa (Aj Ci Aa Aa Aa T3 F Aa 0 Aa).q fun a w F W => ?_
  refine ls F W Aa (Aq (v := Value.int .i64 p1.1) 0 F Aa Aa T3 Aa).q fun a w F W => ?_
  refine ls F W Aa (D3 F Aa Aa).q fun a w F W => ?_
  refine ls F W Aa (Ah F Aa).q fun a w F W => ?_
  rcases Bool.eq_false_or_eq_true (decide (p0.1 ≠ p1.1)) with hb0 | hb0
  ·
   rw [hb0] at F
   iterate 5 refine CD F Aa Aa Aa Aa Aa Aa Aa fun a F => ?_
   refine ls F W Aa (Az F Aa Aa Aa).q fun a w F W => ?_
   refine Af (Ad ?_)
   exact ⟨F.re ⟨rfl, Aa, Aa, (by show some (Value.bool true) = some (Value.bool (decide (p0.1 ≠ p1.1) || decide (p0.2.1.1 = p1.2.1.1 ∧ p0.2.1.2.1.1 = p1.2.1.2.1.1 ∧ p0.2.1.2.1.2.1 = p1.2.1.2.1.2.1 ∧ p0.2.1.2.1.2.2.1 = p1.2.1.2.1.2.2.1 ∧ p0.2.1.2.1.2.2.2 = p1.2.1.2.1.2.2.2 ∧ p0.2.1.2.2.1 = p1.2.1.2.2.1 ∧ p0.2.1.2.2.2.1 = p1.2.1.2.2.2.1 ∧ p0.2.1.2.2.2.2.1 = p1.2.1.2.2.2.2.1 ∧ p0.2.1.2.2.2.2.2 = p1.2.1.2.2.2.2.2))); try rw [hb0]; all_goals simp only [Bool.not_true, Bool.not_false, Bool.true_and, Bool.false_and, Bool.true_or, Bool.false_or, Bool.and_true, Bool.or_false, cond_true, cond_false]), trivial⟩, W⟩
  rw [hb0] at F
  refine AE F W (Ai F Aa Aa Aa Aa) Aa (Ao Aa) (Aj Ci Aa Aa Aa Dk F Aa 1 Aa).q fun a w F W => ?_
  refine AE F W (Ai F Aa Aa Aa Aa) Aa (Ao Aa) (Aq (v := Value.agg #[.int .i64 p0.2.1.1, .int .i64 p0.2.1.2.1.1, .int .i64 p0.2.1.2.1.2.1, .int .i64 p0.2.1.2.1.2.2.1, .int .i64 p0.2.1.2.1.2.2.2, .int .i64 p0.2.1.2.2.1, .int .i64 p0.2.1.2.2.2.1, .int .i64 p0.2.1.2.2.2.2.1, .int .i64 p0.2.1.2.2.2.2.2]) 1 F Aa Aa Dk Aa).q fun a w F W => ?_
  refine AE F W (Ai F Aa Aa Aa Aa) Aa (Ao Aa) (Aj Ci Aa Aa Aa Dk F Aa 1 Aa).q fun a w F W => ?_
  refine AE F W (Ai F Aa Aa Aa Aa) Aa (Ao Aa) (Aq (v := Value.agg #[.int .i64 p1.2.1.1, .int .i64 p1.2.1.2.1.1, .int .i64 p1.2.1.2.1.2.1, .int .i64 p1.2.1.2.1.2.2.1, .int .i64 p1.2.1.2.1.2.2.2, .int .i64 p1.2.1.2.2.1, .int .i64 p1.2.1.2.2.2.1, .int .i64 p1.2.1.2.2.2.2.1, .int .i64 p1.2.1.2.2.2.2.2]) 0 F Aa Aa Dk Aa).q fun a w F W => ?_
  refine AE F W (Ai F Aa Aa Aa Aa) Aa (Ao Aa) (KE (t := decide (p0.2.1.1 = p1.2.1.1 ∧ p0.2.1.2.1.1 = p1.2.1.2.1.1 ∧ p0.2.1.2.1.2.1 = p1.2.1.2.1.2.1 ∧ p0.2.1.2.1.2.2.1 = p1.2.1.2.1.2.2.1 ∧ p0.2.1.2.1.2.2.2 = p1.2.1.2.1.2.2.2 ∧ p0.2.1.2.2.1 = p1.2.1.2.2.1 ∧ p0.2.1.2.2.2.1 = p1.2.1.2.2.2.1 ∧ p0.2.1.2.2.2.2.1 = p1.2.1.2.2.2.2.1 ∧ p0.2.1.2.2.2.2.2 = p1.2.1.2.2.2.2.2)) On (Ok _ _ _ _ _ _ _ _ _ _ _ _ _ _ _ _ _ _) F Aa Aa).q fun a w F W => ?_
  refine ls F W Aa (Au F Aa Aa Aa).q fun a w F W => ?_
  refine Af (Ad ?_)
  exact ⟨F.re ⟨rfl, Aa, Aa, (by show some (Value.bool (decide (p0.2.1.1 = p1.2.1.1 ∧ p0.2.1.2.1.1 = p1.2.1.2.1.1 ∧ p0.2.1.2.1.2.1 = p1.2.1.2.1.2.1 ∧ p0.2.1.2.1.2.2.1 = p1.2.1.2.1.2.2.1 ∧ p0.2.1.2.1.2.2.2 = p1.2.1.2.1.2.2.2 ∧ p0.2.1.2.2.1 = p1.2.1.2.2.1 ∧ p0.2.1.2.2.2.1 = p1.2.1.2.2.2.1 ∧ p0.2.1.2.2.2.2.1 = p1.2.1.2.2.2.2.1 ∧ p0.2.1.2.2.2.2.2 = p1.2.1.2.2.2.2.2))) = some (Value.bool (decide (p0.1 ≠ p1.1) || decide (p0.2.1.1 = p1.2.1.1 ∧ p0.2.1.2.1.1 = p1.2.1.2.1.1 ∧ p0.2.1.2.1.2.1 = p1.2.1.2.1.2.1 ∧ p0.2.1.2.1.2.2.1 = p1.2.1.2.1.2.2.1 ∧ p0.2.1.2.1.2.2.2 = p1.2.1.2.1.2.2.2 ∧ p0.2.1.2.2.1 = p1.2.1.2.2.1 ∧ p0.2.1.2.2.2.1 = p1.2.1.2.2.2.1 ∧ p0.2.1.2.2.2.2.1 = p1.2.1.2.2.2.2.1 ∧ p0.2.1.2.2.2.2.2 = p1.2.1.2.2.2.2.2))); try rw [hb0]; all_goals simp only [Bool.not_true, Bool.not_false, Bool.true_and, Bool.false_and, Bool.true_or, Bool.false_or, Bool.and_true, Bool.or_false, cond_true, cond_false]), trivial⟩, W⟩
 rintro a w ⟨F, W⟩
 refine AA F Aa (fun hb => ?_) fun hb => ?_
 ·
  have H := AH hb H
  rw [hb] at F
  clear hb
  refine Al (Ae ?_)
  refine ls F W Aa (Ag F Aa).q fun a w F W => ?_
  refine Af (Ad (Ay (AD ?_)))
  have H := AJ H
  subst H
  refine AL (.inl Aa) F W Aa (Av F Aa) ?_
  exact ⟨rfl, W.done⟩
 have H := AG (by rw [hb]; decide) H
 rw [hb] at F
 clear hb
 refine Ax (Ad (Al (Ae ?_)))
 refine ls F W Aa (Aj Ci Aa Aa Aa Dk F Aa 1 Aa).q fun a w F W => ?_
 refine ls F W Aa (Aq (v := Value.agg #[.int .i64 p0.2.1.1, .int .i64 p0.2.1.2.1.1, .int .i64 p0.2.1.2.1.2.1, .int .i64 p0.2.1.2.1.2.2.1, .int .i64 p0.2.1.2.1.2.2.2, .int .i64 p0.2.1.2.2.1, .int .i64 p0.2.1.2.2.2.1, .int .i64 p0.2.1.2.2.2.2.1, .int .i64 p0.2.1.2.2.2.2.2]) 1 F Aa Aa Dk Aa).q fun a w F W => ?_
 refine ls F W Aa (Aj Ci Aa Aa Aa Dk F Aa 1 Aa).q fun a w F W => ?_
 refine ls F W Aa (Aq (v := Value.agg #[.int .i64 p1.2.1.1, .int .i64 p1.2.1.2.1.1, .int .i64 p1.2.1.2.1.2.1, .int .i64 p1.2.1.2.1.2.2.1, .int .i64 p1.2.1.2.1.2.2.2, .int .i64 p1.2.1.2.2.1, .int .i64 p1.2.1.2.2.2.1, .int .i64 p1.2.1.2.2.2.2.1, .int .i64 p1.2.1.2.2.2.2.2]) 0 F Aa Aa Dk Aa).q fun a w F W => ?_
 obtain ⟨x1, h1, H⟩ := Ap H
 refine ls F W Aa (AR (v := Value.tuple #[.agg #[.int .i64 x1.1.1, .int .i64 x1.1.2.1.1, .int .i64 x1.1.2.1.2.1, .int .i64 x1.1.2.1.2.2.1, .int .i64 x1.1.2.1.2.2.2, .int .i64 x1.1.2.2.1, .int .i64 x1.1.2.2.2.1, .int .i64 x1.1.2.2.2.2.1, .int .i64 x1.1.2.2.2.2.2], .bool x1.2]) F P9 Aa (fun w W => KS any w p0.2.1 p1.2.1 _ h1)) fun a w F W => ?_
 refine ls F W Aa (Ah F Aa).q fun a w F W => ?_
 refine ls F W Aa (Bk (v := Value.agg #[.int .i64 x1.1.1, .int .i64 x1.1.2.1.1, .int .i64 x1.1.2.1.2.1, .int .i64 x1.1.2.1.2.2.1, .int .i64 x1.1.2.1.2.2.2, .int .i64 x1.1.2.2.1, .int .i64 x1.1.2.2.2.1, .int .i64 x1.1.2.2.2.2.1, .int .i64 x1.1.2.2.2.2.2]) F Aa Aa).q fun a w F W => ?_
 refine ls F W Aa (Bk (v := Value.bool x1.2) F Aa Aa).q fun a w F W => ?_
 refine Cf (cs := [.int .i64 0, .int .i64 0, .int .i64 0, .int .i64 0, .int .i64 0, .int .i64 0, .int .i64 0, .int .i64 0, .int .i64 0]) F W Aa Ny Aa fun b3 a w F W => ?_
 refine BA (vs := [.int .i64 x1.1.1, .int .i64 x1.1.2.1.1, .int .i64 x1.1.2.1.2.1, .int .i64 x1.1.2.1.2.2.1, .int .i64 x1.1.2.1.2.2.2, .int .i64 x1.1.2.2.1, .int .i64 x1.1.2.2.2.1, .int .i64 x1.1.2.2.2.2.1, .int .i64 x1.1.2.2.2.2.2]) (M' := [(b3, [.int .i64 x1.1.1, .int .i64 x1.1.2.1.1, .int .i64 x1.1.2.1.2.1, .int .i64 x1.1.2.1.2.2.1, .int .i64 x1.1.2.1.2.2.2, .int .i64 x1.1.2.2.1, .int .i64 x1.1.2.2.2.1, .int .i64 x1.1.2.2.2.2.1, .int .i64 x1.1.2.2.2.2.2]), (b2, [.int .i64 p1.1, .int .i64 p1.2.1.1, .int .i64 p1.2.1.2.1.1, .int .i64 p1.2.1.2.1.2.1, .int .i64 p1.2.1.2.1.2.2.1, .int .i64 p1.2.1.2.1.2.2.2, .int .i64 p1.2.1.2.2.1, .int .i64 p1.2.1.2.2.2.1, .int .i64 p1.2.1.2.2.2.2.1, .int .i64 p1.2.1.2.2.2.2.2, v2]), (b1, [.int .i64 p0.1, .int .i64 p0.2.1.1, .int .i64 p0.2.1.2.1.1, .int .i64 p0.2.1.2.1.2.1, .int .i64 p0.2.1.2.1.2.2.1, .int .i64 p0.2.1.2.1.2.2.2, .int .i64 p0.2.1.2.2.1, .int .i64 p0.2.1.2.2.2.1, .int .i64 p0.2.1.2.2.2.2.1, .int .i64 p0.2.1.2.2.2.2.2, v1])]) 0 F W Aa Aa Aa Dk Aa Aa Aa Aa Aa fun w W => ?_
 refine ls F W Aa (Ag F Aa).q fun a w F W => ?_
 refine Af (Ad (Al (Ae ?_)))
 refine ls F W Aa (Ah F Aa).q fun a w F W => ?_
 refine ls F W Aa (Ag F Aa).q fun a w F W => ?_
 refine Af (Ad (Ay ?_))
 have H := AJ H
 subst H
 refine AL (.inl Aa) F W Aa (Av F Aa) ?_
 exact ⟨rfl, W.done⟩
theorem PM : Has Try.prog 67 := ⟨fun args w => An Try.func67 rfl (by decide) args w⟩
noncomputable def EK (p0 : Int × (Int × Int × Int × Int) × (Int × Int × Int × Int)) (p1 : Int × (Int × Int × Int × Int) × (Int × Int × Int × Int)) (x1 : Int) : Int → Option (Int ⊕ (Unit ⊕ (Int ⊕ (Unit ⊕ Bool))))
  | x2 => (if x2 < 8 then ((ix ([p1.2.2.1, p1.2.2.2.1, p1.2.2.2.2.1, p1.2.2.2.2.2] : List Int) x1).bind fun x4 => (CR x4 x2).bind fun x5 => (if x5 = 1 then (ix ([p0.2.2.1, p0.2.2.2.1, p0.2.2.2.2.1, p0.2.2.2.2.2] : List Int) x1).bind fun x6 => (CR x6 x2).bind fun x7 => (if x7 = 0 then some true else (ix ([p0.2.1.1, p0.2.1.2.1, p0.2.1.2.2.1, p0.2.1.2.2.2] : List Int) x1).bind fun x8 => (CR x8 x2).bind fun x9 => (ix ([p1.2.1.1, p1.2.1.2.1, p1.2.1.2.2.1, p1.2.1.2.2.2] : List Int) x1).bind fun x10 => (CR x10 x2).bind fun x11 => some (decide (x9 ≠ x11))) else some false)).bind fun x3 => (if x3 = true then some (.inr (.inr (.inr (.inr false)))) else some (.inl (BT (x2 + 1)))) else some (.inr (.inl ())))
noncomputable def EJ (p0 : Int × (Int × Int × Int × Int) × (Int × Int × Int × Int)) (p1 : Int × (Int × Int × Int × Int) × (Int × Int × Int × Int)) : Int → Option (Int ⊕ (Unit ⊕ Bool))
  | x1 => (if x1 < 4 then FB (A9 (EK p0 p1 x1) 0) fun _ => some (.inl (BT (x1 + 1))) else some (.inr (.inl ())))
noncomputable def Fo (p0 : Int × (Int × Int × Int × Int) × (Int × Int × Int × Int)) (p1 : Int × (Int × Int × Int × Int) × (Int × Int × Int × Int)) : Option Bool := (if (decide (p1.1 ≠ (-1)) && decide (p0.1 ≠ p1.1)) = true then some false else FB (A9 (EJ p0 p1) 0) fun _ => some true)
theorem JZ (Y : Nat → Prop) (w0 : World)  (p0 : Int × (Int × Int × Int × Int) × (Int × Int × Int × Int)) (p1 : Int × (Int × Int × Int × Int) × (Int × Int × Int × Int)) (r : Bool) (H : Fo p0 p1 = some r)  :
    Calls Try.prog 69 #[.agg #[.int .i64 p0.1, .int .i64 p0.2.1.1, .int .i64 p0.2.1.2.1, .int .i64 p0.2.1.2.2.1, .int .i64 p0.2.1.2.2.2, .int .i64 p0.2.2.1, .int .i64 p0.2.2.2.1, .int .i64 p0.2.2.2.2.1, .int .i64 p0.2.2.2.2.2], .agg #[.int .i64 p1.1, .int .i64 p1.2.1.1, .int .i64 p1.2.1.2.1, .int .i64 p1.2.1.2.2.1, .int .i64 p1.2.1.2.2.2, .int .i64 p1.2.2.1, .int .i64 p1.2.2.2.1, .int .i64 p1.2.2.2.2.1, .int .i64 p1.2.2.2.2.2]] w0 fun e w' => e = .returned (.bool r) ∧ Below w0.heap.size w0 w' := by
 refine enter Try.func69 Aa Try.ntmps69 Aa fun a F => ?_
 have W := Stw.start Y w0
 unfold Fo at H
 refine Al (Ae ?_)
 refine BS (cs := [.int .i64 p0.1, .int .i64 p0.2.1.1, .int .i64 p0.2.1.2.1, .int .i64 p0.2.1.2.2.1, .int .i64 p0.2.1.2.2.2, .int .i64 p0.2.2.1, .int .i64 p0.2.2.2.1, .int .i64 p0.2.2.2.2.1, .int .i64 p0.2.2.2.2.2]) F W Aa Aa Aa fun b1 a w F W => ?_
 refine BS (cs := [.int .i64 p1.1, .int .i64 p1.2.1.1, .int .i64 p1.2.1.2.1, .int .i64 p1.2.1.2.2.1, .int .i64 p1.2.1.2.2.2, .int .i64 p1.2.2.1, .int .i64 p1.2.2.2.1, .int .i64 p1.2.2.2.2.1, .int .i64 p1.2.2.2.2.2]) F W Aa Aa Aa fun b2 a w F W => ?_
 refine ls F W Aa (Ag F Aa).q fun a w F W => ?_
 refine Af (Ad (Al ?_))
 refine AF (fun a w => Fr 56 [] [(2, .pointer (some ⟨b1, 0, none⟩)), (3, .pointer (some ⟨b2, 0, none⟩)), (4, .bool false), (16, .bool (decide (p1.1 ≠ (-1)) && decide (p0.1 ≠ p1.1)))] a ∧ Stw ⟨Y, [], w0⟩ [(b2, [.int .i64 p1.1, .int .i64 p1.2.1.1, .int .i64 p1.2.1.2.1, .int .i64 p1.2.1.2.2.1, .int .i64 p1.2.1.2.2.2, .int .i64 p1.2.2.1, .int .i64 p1.2.2.2.1, .int .i64 p1.2.2.2.2.1, .int .i64 p1.2.2.2.2.2]), (b1, [.int .i64 p0.1, .int .i64 p0.2.1.1, .int .i64 p0.2.1.2.1, .int .i64 p0.2.1.2.2.1, .int .i64 p0.2.1.2.2.2, .int .i64 p0.2.2.1, .int .i64 p0.2.2.2.1, .int .i64 p0.2.2.2.2.1, .int .i64 p0.2.2.2.2.2])] [] w) ?_ ?_
 ·
  refine Ae ?_
  refine ls F W Aa (Aj Cd Aa Aa Aa T3 F Aa 0 Aa).q fun a w F W => ?_
  refine ls F W Aa (Aq (v := Value.int .i64 p1.1) 0 F Aa Aa T3 Aa).q fun a w F W => ?_
  refine ls F W Aa (D3 F Aa Aa).q fun a w F W => ?_
  refine ls F W Aa (Ah F Aa).q fun a w F W => ?_
  rcases Bool.eq_false_or_eq_true (decide (p1.1 ≠ (-1))) with hb0 | hb0
  ·
   rw [hb0] at F
   refine AE F W (Ai F Aa Aa Aa Aa) Aa (Ao Aa) (Aj Cd Aa Aa Aa T3 F Aa 0 Aa).q fun a w F W => ?_
   refine AE F W (Ai F Aa Aa Aa Aa) Aa (Ao Aa) (Aq (v := Value.int .i64 p0.1) 1 F Aa Aa T3 Aa).q fun a w F W => ?_
   refine AE F W (Ai F Aa Aa Aa Aa) Aa (Ao Aa) (Aj Cd Aa Aa Aa T3 F Aa 0 Aa).q fun a w F W => ?_
   refine AE F W (Ai F Aa Aa Aa Aa) Aa (Ao Aa) (Aq (v := Value.int .i64 p1.1) 0 F Aa Aa T3 Aa).q fun a w F W => ?_
   refine AE F W (Ai F Aa Aa Aa Aa) Aa (Ao Aa) (D3 F Aa Aa).q fun a w F W => ?_
   refine ls F W Aa (Az F Aa Aa Aa).q fun a w F W => ?_
   refine Af (Ad ?_)
   exact ⟨F.re ⟨rfl, Aa, Aa, (by show some (Value.bool (decide (p0.1 ≠ p1.1))) = some (Value.bool (decide (p1.1 ≠ (-1)) && decide (p0.1 ≠ p1.1))); try rw [hb0]; all_goals simp only [Bool.not_true, Bool.not_false, Bool.true_and, Bool.false_and, Bool.true_or, Bool.false_or, Bool.and_true, Bool.or_false, cond_true, cond_false]), trivial⟩, W⟩
  rw [hb0] at F
  iterate 5 refine CD F Aa Aa Aa Aa Aa Aa Aa fun a F => ?_
  refine ls F W Aa (Au F Aa Aa Aa).q fun a w F W => ?_
  refine Af (Ad ?_)
  exact ⟨F.re ⟨rfl, Aa, Aa, (by show some (Value.bool false) = some (Value.bool (decide (p1.1 ≠ (-1)) && decide (p0.1 ≠ p1.1))); try rw [hb0]; all_goals simp only [Bool.not_true, Bool.not_false, Bool.true_and, Bool.false_and, Bool.true_or, Bool.false_or, Bool.and_true, Bool.or_false, cond_true, cond_false]), trivial⟩, W⟩
 rintro a w ⟨F, W⟩
 refine AA F Aa (fun hb => ?_) fun hb => ?_
 ·
  have H := AH hb H
  rw [hb] at F
  clear hb
  refine Al (Ae ?_)
  refine ls F W Aa (Ag F Aa).q fun a w F W => ?_
  refine Af (Ad (Ay (AD ?_)))
  have H := AJ H
  subst H
  refine AL (.inl Aa) F W Aa (Av F Aa) ?_
  exact ⟨rfl, W.done⟩
 have H := AG (by rw [hb]; decide) H
 rw [hb] at F
 clear hb
 refine Ax (Ad ?_)
 obtain ⟨o1, G1, K1, L1⟩ := Ih H
 refine AF (fun a w => some (Sum.inl ()) = some o1 ∧ Fr 56 [] [(4, .bool false)] a ∧ Stw ⟨Y, [], w0⟩ [(b2, [.int .i64 p1.1, .int .i64 p1.2.1.1, .int .i64 p1.2.1.2.1, .int .i64 p1.2.1.2.2.1, .int .i64 p1.2.1.2.2.2, .int .i64 p1.2.2.1, .int .i64 p1.2.2.2.1, .int .i64 p1.2.2.2.2.1, .int .i64 p1.2.2.2.2.2]), (b1, [.int .i64 p0.1, .int .i64 p0.2.1.1, .int .i64 p0.2.1.2.1, .int .i64 p0.2.1.2.2.1, .int .i64 p0.2.1.2.2.2, .int .i64 p0.2.2.1, .int .i64 p0.2.2.2.1, .int .i64 p0.2.2.2.2.1, .int .i64 p0.2.2.2.2.2])] [] w) ?_ ?_
 ·
  have H := G1
  clear G1 K1
  refine Al (Ae ?_)
  refine ls F W Aa (Ag F Aa).q fun a w F W => ?_
  refine Af (Ad (AC ?_))
  have W := W.frontM (i := 1) Aa Aa
  have W := W.frontM (i := 1) Aa Aa
  refine Bz H (fun s a w => Fr 56 [] [(2, .pointer (some ⟨b1, 0, none⟩)), (3, .pointer (some ⟨b2, 0, none⟩)), (4, .bool false), (5, .int .i64 s)] a ∧ Stw ⟨Y, [], w0⟩ [(b2, [.int .i64 p1.1, .int .i64 p1.2.1.1, .int .i64 p1.2.1.2.1, .int .i64 p1.2.1.2.2.1, .int .i64 p1.2.1.2.2.2, .int .i64 p1.2.2.1, .int .i64 p1.2.2.2.1, .int .i64 p1.2.2.2.2.1, .int .i64 p1.2.2.2.2.2]), (b1, [.int .i64 p0.1, .int .i64 p0.2.1.1, .int .i64 p0.2.1.2.1, .int .i64 p0.2.1.2.2.1, .int .i64 p0.2.1.2.2.2, .int .i64 p0.2.2.1, .int .i64 p0.2.2.2.1, .int .i64 p0.2.2.2.2.1, .int .i64 p0.2.2.2.2.2])] [] w) ⟨F.re ⟨rfl, Aa, Aa, Aa, trivial⟩, W⟩ fun s o a w H L2 hR => ?_
  obtain ⟨x1, rfl⟩ : ∃ x, x = s := ⟨s, rfl⟩
  obtain ⟨F, W⟩ := hR
  have F : Fr 56 [] [(2, .pointer (some ⟨b1, 0, none⟩)), (3, .pointer (some ⟨b2, 0, none⟩)), (4, .bool false), (5, .int .i64 x1)] a := F
  have W : Stw ⟨Y, [], w0⟩ [(b2, [.int .i64 p1.1, .int .i64 p1.2.1.1, .int .i64 p1.2.1.2.1, .int .i64 p1.2.1.2.2.1, .int .i64 p1.2.1.2.2.2, .int .i64 p1.2.2.1, .int .i64 p1.2.2.2.1, .int .i64 p1.2.2.2.2.1, .int .i64 p1.2.2.2.2.2]), (b1, [.int .i64 p0.1, .int .i64 p0.2.1.1, .int .i64 p0.2.1.2.1, .int .i64 p0.2.1.2.2.1, .int .i64 p0.2.1.2.2.2, .int .i64 p0.2.2.1, .int .i64 p0.2.2.2.1, .int .i64 p0.2.2.2.2.1, .int .i64 p0.2.2.2.2.2])] [] w := W
  rw [EJ] at H
  refine Al (Al (Ae ?_))
  refine ls F W Aa (Ah F Aa).q fun a w F W => ?_
  refine ls F W Aa (BI F Aa Aa).q fun a w F W => ?_
  refine Af (Ad ?_)
  refine AA F Aa (fun hb => ?_) fun hb => ?_
  ·
   have H := AH (Bj hb) H
   rw [hb] at F
   clear hb
   refine Ax (Ad ?_)
   obtain ⟨o3, G3, K3, L3⟩ := Ih H
   refine AF (fun a w => some (Sum.inl ()) = some o3 ∧ Fr 56 [] [(2, .pointer (some ⟨b1, 0, none⟩)), (3, .pointer (some ⟨b2, 0, none⟩)), (4, .bool false), (5, .int .i64 x1)] a ∧ Stw ⟨Y, [], w0⟩ [(b2, [.int .i64 p1.1, .int .i64 p1.2.1.1, .int .i64 p1.2.1.2.1, .int .i64 p1.2.1.2.2.1, .int .i64 p1.2.1.2.2.2, .int .i64 p1.2.2.1, .int .i64 p1.2.2.2.1, .int .i64 p1.2.2.2.2.1, .int .i64 p1.2.2.2.2.2]), (b1, [.int .i64 p0.1, .int .i64 p0.2.1.1, .int .i64 p0.2.1.2.1, .int .i64 p0.2.1.2.2.1, .int .i64 p0.2.1.2.2.2, .int .i64 p0.2.2.1, .int .i64 p0.2.2.2.1, .int .i64 p0.2.2.2.2.1, .int .i64 p0.2.2.2.2.2])] [] w) ?_ ?_
   ·
    have H := G3
    clear G3 K3
    refine AC (Al (Ae ?_))
    refine ls F W Aa (Ag F Aa).q fun a w F W => ?_
    refine Af (Ad (AC ?_))
    have W := W.frontM (i := 1) Aa Aa
    have W := W.frontM (i := 1) Aa Aa
    refine Bz H (fun s a w => Fr 56 [] [(2, .pointer (some ⟨b1, 0, none⟩)), (3, .pointer (some ⟨b2, 0, none⟩)), (4, .bool false), (5, .int .i64 x1), (6, .int .i64 s)] a ∧ Stw ⟨Y, [], w0⟩ [(b2, [.int .i64 p1.1, .int .i64 p1.2.1.1, .int .i64 p1.2.1.2.1, .int .i64 p1.2.1.2.2.1, .int .i64 p1.2.1.2.2.2, .int .i64 p1.2.2.1, .int .i64 p1.2.2.2.1, .int .i64 p1.2.2.2.2.1, .int .i64 p1.2.2.2.2.2]), (b1, [.int .i64 p0.1, .int .i64 p0.2.1.1, .int .i64 p0.2.1.2.1, .int .i64 p0.2.1.2.2.1, .int .i64 p0.2.1.2.2.2, .int .i64 p0.2.2.1, .int .i64 p0.2.2.2.1, .int .i64 p0.2.2.2.2.1, .int .i64 p0.2.2.2.2.2])] [] w) ⟨F.re ⟨rfl, Aa, Aa, Aa, Aa, trivial⟩, W⟩ fun s o a w H L4 hR => ?_
    obtain ⟨x2, rfl⟩ : ∃ x, x = s := ⟨s, rfl⟩
    obtain ⟨F, W⟩ := hR
    have F : Fr 56 [] [(2, .pointer (some ⟨b1, 0, none⟩)), (3, .pointer (some ⟨b2, 0, none⟩)), (4, .bool false), (5, .int .i64 x1), (6, .int .i64 x2)] a := F
    have W : Stw ⟨Y, [], w0⟩ [(b2, [.int .i64 p1.1, .int .i64 p1.2.1.1, .int .i64 p1.2.1.2.1, .int .i64 p1.2.1.2.2.1, .int .i64 p1.2.1.2.2.2, .int .i64 p1.2.2.1, .int .i64 p1.2.2.2.1, .int .i64 p1.2.2.2.2.1, .int .i64 p1.2.2.2.2.2]), (b1, [.int .i64 p0.1, .int .i64 p0.2.1.1, .int .i64 p0.2.1.2.1, .int .i64 p0.2.1.2.2.1, .int .i64 p0.2.1.2.2.2, .int .i64 p0.2.2.1, .int .i64 p0.2.2.2.1, .int .i64 p0.2.2.2.2.1, .int .i64 p0.2.2.2.2.2])] [] w := W
    rw [EK] at H
    refine Al (Al (Ae ?_))
    refine ls F W Aa (Ah F Aa).q fun a w F W => ?_
    refine ls F W Aa (BI F Aa Aa).q fun a w F W => ?_
    refine Af (Ad ?_)
    refine AA F Aa (fun hb => ?_) fun hb => ?_
    ·
     have H := AH (Bj hb) H
     rw [hb] at F
     clear hb
     refine Ax (Ad (Al (AC ?_)))
     obtain ⟨o5, G5, K5⟩ := Ap H
     refine AF (fun a w => ∃ x3 : Bool, some (x3) = some o5 ∧ Fr 56 [] [(2, .pointer (some ⟨b1, 0, none⟩)), (3, .pointer (some ⟨b2, 0, none⟩)), (4, .bool false), (5, .int .i64 x1), (6, .int .i64 x2), (55, .bool x3)] a ∧ Stw ⟨Y, [], w0⟩ [(b2, [.int .i64 p1.1, .int .i64 p1.2.1.1, .int .i64 p1.2.1.2.1, .int .i64 p1.2.1.2.2.1, .int .i64 p1.2.1.2.2.2, .int .i64 p1.2.2.1, .int .i64 p1.2.2.2.1, .int .i64 p1.2.2.2.2.1, .int .i64 p1.2.2.2.2.2]), (b1, [.int .i64 p0.1, .int .i64 p0.2.1.1, .int .i64 p0.2.1.2.1, .int .i64 p0.2.1.2.2.1, .int .i64 p0.2.1.2.2.2, .int .i64 p0.2.2.1, .int .i64 p0.2.2.2.1, .int .i64 p0.2.2.2.2.1, .int .i64 p0.2.2.2.2.2])] [] w) ?_ ?_
     ·
      have H := G5
      clear G5 K5
      refine Co W MO (by kernel_rfl) ?_
      refine qs F Aa (Ah F Aa).q fun a F => ?_
      refine qs F Aa (Aj Cd Aa Aa Aa FR F Aa 5 Aa).q fun a F => ?_
      obtain ⟨x4, h1, H⟩ := Ap H
      refine qs F Aa (Bd (5 + (x1).toNat * 1) C9 F Aa Aa Aa h1 Aa).q fun a F => ?_
      refine qs F Aa (Aq (v := Value.int .i64 x4) 0 F Aa Aa T3 (BJ (base := 5) (m := 4) (l := [p1.2.2.1, p1.2.2.2.1, p1.2.2.2.2.1, p1.2.2.2.2.2]) (enc := Value.int .i64) Aa h1)).q fun a F => ?_
      refine qs F Aa (Ah F Aa).q fun a F => ?_
      obtain ⟨x5, h2, H⟩ := Ap H
      refine qs F Aa (AR (v := Value.int .i64 x5) F LL Aa (fun w W => CK any w x4 x2 _ h2)) fun a F => ?_
      refine qs F Aa (BB F Aa Aa).q fun a F => ?_
      refine qs F Aa (Ah F Aa).q fun a F => ?_
      rcases Bool.eq_false_or_eq_true (decide (x5 = 1)) with hb | hb
      ·
       have H := AH (Bj hb) H
       rw [hb] at F
       clear hb
       refine Bh F (Ai F Aa Aa Aa Aa) Aa (Ao Aa) (Ah F Aa).q fun a F => ?_
       refine Bh F (Ai F Aa Aa Aa Aa) Aa (Ao Aa) (Aj Cd Aa Aa Aa FR F Aa 5 Aa).q fun a F => ?_
       obtain ⟨x6, h3, H⟩ := Ap H
       refine Bh F (Ai F Aa Aa Aa Aa) Aa (Ao Aa) (Bd (5 + (x1).toNat * 1) C9 F Aa Aa Aa h3 Aa).q fun a F => ?_
       refine Bh F (Ai F Aa Aa Aa Aa) Aa (Ao Aa) (Aq (v := Value.int .i64 x6) 1 F Aa Aa T3 (BJ (base := 5) (m := 4) (l := [p0.2.2.1, p0.2.2.2.1, p0.2.2.2.2.1, p0.2.2.2.2.2]) (enc := Value.int .i64) Aa h3)).q fun a F => ?_
       refine Bh F (Ai F Aa Aa Aa Aa) Aa (Ao Aa) (Ah F Aa).q fun a F => ?_
       obtain ⟨x7, h4, H⟩ := Ap H
       refine Bh F (Ai F Aa Aa Aa Aa) Aa (Ao Aa) (AR (v := Value.int .i64 x7) F LL Aa (fun w W => CK any w x6 x2 _ h4)) fun a F => ?_
       refine Bh F (Ai F Aa Aa Aa Aa) Aa (Ao Aa) (BB F Aa Aa).q fun a F => ?_
       refine Bh F (Ai F Aa Aa Aa Aa) Aa (Ao Aa) (Ah F Aa).q fun a F => ?_
       rcases Bool.eq_false_or_eq_true (decide (x7 = 0)) with hb | hb
       ·
        have H := AH (Bj hb) H
        rw [hb] at F
        clear hb
        iterate 13 refine BK F (Bq F Aa Aa Aa Aa Aa) Aa Aa fun a F => ?_
        refine Bh F (Ai F Aa Aa Aa Aa) Aa (Ao Aa) (Az F Aa Aa Aa).q fun a F => ?_
        refine qs F Aa (Az F Aa Aa Aa).q fun a F => ?_
        refine A4 fun w W => ?_
        refine Ad ?_
        have W := W.frontM (i := 1) Aa Aa
        have W := W.frontM (i := 1) Aa Aa
        exact ⟨_, H, F.re ⟨rfl, Aa, Aa, Aa, Aa, Aa, trivial⟩, W⟩
       have H := AG (Bi hb) H
       rw [hb] at F
       clear hb
       refine Bh F (Ai F Aa Aa Aa Aa) Aa (Ao Aa) (Ah F Aa).q fun a F => ?_
       refine Bh F (Ai F Aa Aa Aa Aa) Aa (Ao Aa) (Aj Cd Aa Aa Aa FR F Aa 1 Aa).q fun a F => ?_
       obtain ⟨x8, h5, H⟩ := Ap H
       refine Bh F (Ai F Aa Aa Aa Aa) Aa (Ao Aa) (Bd (1 + (x1).toNat * 1) C9 F Aa Aa Aa h5 Aa).q fun a F => ?_
       refine Bh F (Ai F Aa Aa Aa Aa) Aa (Ao Aa) (Aq (v := Value.int .i64 x8) 1 F Aa Aa T3 (BJ (base := 1) (m := 4) (l := [p0.2.1.1, p0.2.1.2.1, p0.2.1.2.2.1, p0.2.1.2.2.2]) (enc := Value.int .i64) Aa h5)).q fun a F => ?_
       refine Bh F (Ai F Aa Aa Aa Aa) Aa (Ao Aa) (Ah F Aa).q fun a F => ?_
       obtain ⟨x9, h6, H⟩ := Ap H
       refine Bh F (Ai F Aa Aa Aa Aa) Aa (Ao Aa) (AR (v := Value.int .i64 x9) F LL Aa (fun w W => CK any w x8 x2 _ h6)) fun a F => ?_
       refine Bh F (Ai F Aa Aa Aa Aa) Aa (Ao Aa) (Ah F Aa).q fun a F => ?_
       refine Bh F (Ai F Aa Aa Aa Aa) Aa (Ao Aa) (Aj Cd Aa Aa Aa FR F Aa 1 Aa).q fun a F => ?_
       obtain ⟨x10, h7, H⟩ := Ap H
       refine Bh F (Ai F Aa Aa Aa Aa) Aa (Ao Aa) (Bd (1 + (x1).toNat * 1) C9 F Aa Aa Aa h7 Aa).q fun a F => ?_
       refine Bh F (Ai F Aa Aa Aa Aa) Aa (Ao Aa) (Aq (v := Value.int .i64 x10) 0 F Aa Aa T3 (BJ (base := 1) (m := 4) (l := [p1.2.1.1, p1.2.1.2.1, p1.2.1.2.2.1, p1.2.1.2.2.2]) (enc := Value.int .i64) Aa h7)).q fun a F => ?_
       refine Bh F (Ai F Aa Aa Aa Aa) Aa (Ao Aa) (Ah F Aa).q fun a F => ?_
       obtain ⟨x11, h8, H⟩ := Ap H
       refine Bh F (Ai F Aa Aa Aa Aa) Aa (Ao Aa) (AR (v := Value.int .i64 x11) F LL Aa (fun w W => CK any w x10 x2 _ h8)) fun a F => ?_
       refine Bh F (Ai F Aa Aa Aa Aa) Aa (Ao Aa) (D3 F Aa Aa).q fun a F => ?_
       refine Bh F (Ai F Aa Aa Aa Aa) Aa (Ao Aa) (Au F Aa Aa Aa).q fun a F => ?_
       refine qs F Aa (Az F Aa Aa Aa).q fun a F => ?_
       refine A4 fun w W => ?_
       refine Ad ?_
       have W := W.frontM (i := 1) Aa Aa
       have W := W.frontM (i := 1) Aa Aa
       exact ⟨_, H, F.re ⟨rfl, Aa, Aa, Aa, Aa, Aa, trivial⟩, W⟩
      have H := AG (Bi hb) H
      rw [hb] at F
      clear hb
      iterate 8 refine BK F (Bq F Aa Aa Aa Aa Aa) Aa Aa fun a F => ?_
      iterate 13 refine BK F (Ge F Aa Aa Aa Aa) Aa Aa fun a F => ?_
      refine BK F (Bq F Aa Aa Aa Aa Aa) Aa Aa fun a F => ?_
      refine qs F Aa (Au F Aa Aa Aa).q fun a F => ?_
      refine A4 fun w W => ?_
      refine Ad ?_
      have W := W.frontM (i := 1) Aa Aa
      have W := W.frontM (i := 1) Aa Aa
      exact ⟨_, H, F.re ⟨rfl, Aa, Aa, Aa, Aa, Aa, trivial⟩, W⟩
     rintro a w ⟨x3, hj, F, W⟩
     have hj := AJ hj
     subst hj
     have H := K5
     clear G5 K5
     refine AA F Aa (fun hb => ?_) fun hb => ?_
     ·
      have H := AH hb H
      rw [hb] at F
      clear hb
      refine Al (Ae ?_)
      refine ls F W Aa (Ag F Aa).q fun a w F W => ?_
      refine Af (Ad (Ay (AK ?_)))
      iterate 2 refine AD ?_
      iterate 2 refine AK ?_
      iterate 2 refine AD ?_
      refine AK (AD ?_)
      have H := L4 _ H
      have H := L3 _ H
      have H := L2 _ H
      have H := L1 _ H
      have H := AJ H
      subst H
      refine AL (.inl Aa) F W Aa (Av F Aa) ?_
      exact ⟨rfl, W.done⟩
     have H := AG (by rw [hb]; decide) H
     rw [hb] at F
     clear hb
     refine Ax (A1 (Ad (Ae ?_)))
     refine ls F W Aa (Ah F Aa).q fun a w F W => ?_
     refine ls F W Aa (B6 F Aa Aa Aa).q fun a w F W => ?_
     refine ls F W Aa (Ag F Aa).q fun a w F W => ?_
     refine Af (Ad ?_)
     have W := W.frontM (i := 1) Aa Aa
     have W := W.frontM (i := 1) Aa Aa
     exact ⟨_, H, F.re ⟨rfl, Aa, Aa, Aa, Aa, trivial⟩, W⟩
    have H := AG (Bi hb) H
    rw [hb] at F
    clear hb
    refine Bu ?_
    iterate 2 refine BX ?_
    refine Br (A1 (Ad ?_))
    have W := W.frontM (i := 1) Aa Aa
    have W := W.frontM (i := 1) Aa Aa
    have H := L4 _ H
    exact ⟨H, F.re ⟨rfl, Aa, Aa, Aa, trivial⟩, W⟩
   rintro a w ⟨hj, F, W⟩
   have H := K3 _ hj
   clear hj G3 K3 L3
   refine Ae ?_
   refine ls F W Aa (Ah F Aa).q fun a w F W => ?_
   refine ls F W Aa (B6 F Aa Aa Aa).q fun a w F W => ?_
   refine ls F W Aa (Ag F Aa).q fun a w F W => ?_
   refine Af (Ad ?_)
   have W := W.frontM (i := 1) Aa Aa
   have W := W.frontM (i := 1) Aa Aa
   exact ⟨_, H, F.re ⟨rfl, Aa, Aa, Aa, trivial⟩, W⟩
  have H := AG (Bi hb) H
  rw [hb] at F
  clear hb
  refine Bu ?_
  iterate 2 refine BX ?_
  refine Br (Ad ?_)
  have W := W.frontM (i := 1) Aa Aa
  have W := W.frontM (i := 1) Aa Aa
  have H := L2 _ H
  exact ⟨H, F.re ⟨rfl, trivial⟩, W⟩
 rintro a w ⟨hj, F, W⟩
 have H := K1 _ hj
 clear hj G1 K1 L1
 refine Al (Ae ?_)
 refine ls F W Aa (Ag F Aa).q fun a w F W => ?_
 refine Af (Ad (Ay ?_))
 have H := AJ H
 subst H
 refine AL (.inl Aa) F W Aa (Av F Aa) ?_
 exact ⟨rfl, W.done⟩
end Go.Proofs.Ytkjjioigbpkifaa
