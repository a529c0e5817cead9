/- The functions of layer 11, D5. Conditions: none. -/
import Derived.Test.YtkjjioigbpkifaadA8
namespace Go.Proofs.Ytkjjioigbpkifaa
open Go Go.RowKit
set_option linter.unusedVariables false
set_option linter.unusedSimpArgs false
set_option maxRecDepth 20000
set_option synthInstance.maxSize 1000
theorem Ob : Has Try.prog 71 := ⟨fun args w => An Try.func71 rfl (by decide) args w⟩
noncomputable def F6 (p0 : Int × (Int × (Int × Int × Int × Int) × (Int × Int × Int × Int)) × (List (Int × Int × Int))) (p1 : Int × (Int × (Int × Int × Int × Int) × (Int × Int × Int × Int)) × (List (Int × Int × Int))) : Option Bool := (if p0.1 = p1.1 then (if p0.2.1.1 = p1.2.1.1 ∧ p0.2.1.2.1.1 = p1.2.1.2.1.1 ∧ p0.2.1.2.1.2.1 = p1.2.1.2.1.2.1 ∧ p0.2.1.2.1.2.2.1 = p1.2.1.2.1.2.2.1 ∧ p0.2.1.2.1.2.2.2 = p1.2.1.2.1.2.2.2 ∧ p0.2.1.2.2.1 = p1.2.1.2.2.1 ∧ p0.2.1.2.2.2.1 = p1.2.1.2.2.2.1 ∧ p0.2.1.2.2.2.2.1 = p1.2.1.2.2.2.2.1 ∧ p0.2.1.2.2.2.2.2 = p1.2.1.2.2.2.2.2 then (FS p0.2.2 p1.2.2).bind fun x2 => some x2 else some false) else some false).bind fun x1 => some x1
theorem JG (Y : Nat → Prop) (w0 : World) (v1 : Value) (v2 : Value) (p0 : Int × (Int × (Int × Int × Int × Int) × (Int × Int × Int × Int)) × (List (Int × Int × Int))) (p1 : Int × (Int × (Int × Int × Int × Int) × (Int × Int × Int × Int)) × (List (Int × Int × Int))) (r : Bool) (H : F6 p0 p1 = some r) (h_v1 : Sl w0 (NX []) Br v1 p0.2.2) (h_v2 : Sl w0 (NX []) Br v2 p1.2.2) :
    Calls Try.prog 49 #[.agg #[.int .i64 p0.1, .int .i64 p0.2.1.1, .int .i64 p0.2.1.2.1.1, .int .i64 p0.2.1.2.1.2.1, .int .i64 p0.2.1.2.1.2.2.1, .int .i64 p0.2.1.2.1.2.2.2, .int .i64 p0.2.1.2.2.1, .int .i64 p0.2.1.2.2.2.1, .int .i64 p0.2.1.2.2.2.2.1, .int .i64 p0.2.1.2.2.2.2.2, v1], .agg #[.int .i64 p1.1, .int .i64 p1.2.1.1, .int .i64 p1.2.1.2.1.1, .int .i64 p1.2.1.2.1.2.1, .int .i64 p1.2.1.2.1.2.2.1, .int .i64 p1.2.1.2.1.2.2.2, .int .i64 p1.2.1.2.2.1, .int .i64 p1.2.1.2.2.2.1, .int .i64 p1.2.1.2.2.2.2.1, .int .i64 p1.2.1.2.2.2.2.2, v2]] w0 fun e w' => e = .returned (.bool r) ∧ Below w0.heap.size w0 w' := by
 refine enter Try.func49 Aa Try.ntmps49 Aa fun a F => ?_
 have W := Stw.start Y w0
 unfold F6 at H
 refine Ak (Ae ?_)
 refine B2 (cs := [.int .i64 p0.1, .int .i64 p0.2.1.1, .int .i64 p0.2.1.2.1.1, .int .i64 p0.2.1.2.1.2.1, .int .i64 p0.2.1.2.1.2.2.1, .int .i64 p0.2.1.2.1.2.2.2, .int .i64 p0.2.1.2.2.1, .int .i64 p0.2.1.2.2.2.1, .int .i64 p0.2.1.2.2.2.2.1, .int .i64 p0.2.1.2.2.2.2.2, v1]) F W Aa Aa Aa fun b1 a w F W => ?_
 refine B2 (cs := [.int .i64 p1.1, .int .i64 p1.2.1.1, .int .i64 p1.2.1.2.1.1, .int .i64 p1.2.1.2.1.2.1, .int .i64 p1.2.1.2.1.2.2.1, .int .i64 p1.2.1.2.1.2.2.2, .int .i64 p1.2.1.2.2.1, .int .i64 p1.2.1.2.2.2.1, .int .i64 p1.2.1.2.2.2.2.1, .int .i64 p1.2.1.2.2.2.2.2, v2]) F W Aa Aa Aa fun b2 a w F W => ?_
 refine ls F W Aa (Af F Aa).q fun a w F W => ?_
 refine Ag (Ad ?_)
 obtain ⟨o1, G1, K1⟩ := Aq H
 refine AY (fun a w => ∃ x1 : Bool, some (x1) = some o1 ∧ Fr 24 [] [(4, .bool x1)] a ∧ Stw ⟨Y, [], w0⟩ [(b2, [.int .i64 p1.1, .int .i64 p1.2.1.1, .int .i64 p1.2.1.2.1.1, .int .i64 p1.2.1.2.1.2.1, .int .i64 p1.2.1.2.1.2.2.1, .int .i64 p1.2.1.2.1.2.2.2, .int .i64 p1.2.1.2.2.1, .int .i64 p1.2.1.2.2.2.1, .int .i64 p1.2.1.2.2.2.2.1, .int .i64 p1.2.1.2.2.2.2.2, v2]), (b1, [.int .i64 p0.1, .int .i64 p0.2.1.1, .int .i64 p0.2.1.2.1.1, .int .i64 p0.2.1.2.1.2.1, .int .i64 p0.2.1.2.1.2.2.1, .int .i64 p0.2.1.2.1.2.2.2, .int .i64 p0.2.1.2.2.1, .int .i64 p0.2.1.2.2.2.1, .int .i64 p0.2.1.2.2.2.2.1, .int .i64 p0.2.1.2.2.2.2.2, v1])] [] w) ?_ ?_
 ·
  have H := G1
  clear G1 K1
  refine Ae ?_
  refine ls F W Aa (Al CA Aa Aa Aa T3 F Aa 0 Aa).q fun a w F W => ?_
  refine ls F W Aa (As (v := Value.int .i64 p0.1) 1 F Aa Aa T3 Aa).q fun a w F W => ?_
  refine ls F W Aa (Al CA Aa Aa Aa T3 F Aa 0 Aa).q fun a w F W => ?_
  refine ls F W Aa (As (v := Value.int .i64 p1.1) 0 F Aa Aa T3 Aa).q fun a w F W => ?_
  refine ls F W Aa (BJ F Aa Aa).q fun a w F W => ?_
  refine ls F W Aa (Ah F Aa).q fun a w F W => ?_
  rcases Bool.eq_false_or_eq_true (decide (p0.1 = p1.1)) with hb | hb
  ·
   have H := AU (Bd hb) H
   rw [hb] at F
   clear hb
   refine AD F W (Aj F Aa Aa Aa Aa) Aa (Ap Aa) (Al CA Aa Aa Aa El F Aa 1 Aa).q fun a w F W => ?_
   refine AD F W (Aj F Aa Aa Aa Aa) Aa (Ap Aa) (As (v := Value.agg #[.int .i64 p0.2.1.1, .int .i64 p0.2.1.2.1.1, .int .i64 p0.2.1.2.1.2.1, .int .i64 p0.2.1.2.1.2.2.1, .int .i64 p0.2.1.2.1.2.2.2, .int .i64 p0.2.1.2.2.1, .int .i64 p0.2.1.2.2.2.1, .int .i64 p0.2.1.2.2.2.2.1, .int .i64 p0.2.1.2.2.2.2.2]) 1 F Aa Aa El Aa).q fun a w F W => ?_
   refine AD F W (Aj F Aa Aa Aa Aa) Aa (Ap Aa) (Al CA Aa Aa Aa El F Aa 1 Aa).q fun a w F W => ?_
   refine AD F W (Aj F Aa Aa Aa Aa) Aa (Ap Aa) (As (v := Value.agg #[.int .i64 p1.2.1.1, .int .i64 p1.2.1.2.1.1, .int .i64 p1.2.1.2.1.2.1, .int .i64 p1.2.1.2.1.2.2.1, .int .i64 p1.2.1.2.1.2.2.2, .int .i64 p1.2.1.2.2.1, .int .i64 p1.2.1.2.2.2.1, .int .i64 p1.2.1.2.2.2.2.1, .int .i64 p1.2.1.2.2.2.2.2]) 0 F Aa Aa El Aa).q fun a w F W => ?_
   refine AD F W (Aj F Aa Aa Aa Aa) Aa (Ap Aa) (JS (t := decide (p0.2.1.1 = p1.2.1.1 ∧ p0.2.1.2.1.1 = p1.2.1.2.1.1 ∧ p0.2.1.2.1.2.1 = p1.2.1.2.1.2.1 ∧ p0.2.1.2.1.2.2.1 = p1.2.1.2.1.2.2.1 ∧ p0.2.1.2.1.2.2.2 = p1.2.1.2.1.2.2.2 ∧ p0.2.1.2.2.1 = p1.2.1.2.2.1 ∧ p0.2.1.2.2.2.1 = p1.2.1.2.2.2.1 ∧ p0.2.1.2.2.2.2.1 = p1.2.1.2.2.2.2.1 ∧ p0.2.1.2.2.2.2.2 = p1.2.1.2.2.2.2.2)) MI (MQ _ _ _ _ _ _ _ _ _ _ _ _ _ _ _ _ _ _) F Aa Aa).q fun a w F W => ?_
   refine ls F W Aa (Aw F Aa Aa Aa).q fun a w F W => ?_
   refine ls F W Aa (Ah F Aa).q fun a w F W => ?_
   rcases Bool.eq_false_or_eq_true (decide (p0.2.1.1 = p1.2.1.1 ∧ p0.2.1.2.1.1 = p1.2.1.2.1.1 ∧ p0.2.1.2.1.2.1 = p1.2.1.2.1.2.1 ∧ p0.2.1.2.1.2.2.1 = p1.2.1.2.1.2.2.1 ∧ p0.2.1.2.1.2.2.2 = p1.2.1.2.1.2.2.2 ∧ p0.2.1.2.2.1 = p1.2.1.2.2.1 ∧ p0.2.1.2.2.2.1 = p1.2.1.2.2.2.1 ∧ p0.2.1.2.2.2.2.1 = p1.2.1.2.2.2.2.1 ∧ p0.2.1.2.2.2.2.2 = p1.2.1.2.2.2.2.2)) with hb | hb
   ·
    have H := AU (Bd hb) H
    rw [hb] at F
    clear hb
    refine AD F W (Aj F Aa Aa Aa Aa) Aa (Ap Aa) (Al CA Aa Aa Aa Hv F Aa 10 Aa).q fun a w F W => ?_
    refine AD F W (Aj F Aa Aa Aa Aa) Aa (Ap Aa) (As (v := v1) 1 F Aa Aa Hv Aa).q fun a w F W => ?_
    refine AD F W (Aj F Aa Aa Aa Aa) Aa (Ap Aa) (Al CA Aa Aa Aa Hv F Aa 10 Aa).q fun a w F W => ?_
    refine AD F W (Aj F Aa Aa Aa Aa) Aa (Ap Aa) (As (v := v2) 0 F Aa Aa Hv Aa).q fun a w F W => ?_
    refine Gg (Aj F Aa Aa Aa Aa) ?_
    obtain ⟨x2, h1, H⟩ := Aq H
    refine ls F W Aa (A4 (v := Value.bool x2) F Ob Aa (fun w W => Jx any w (v1) (v2) p0.2.2 p1.2.2 _ h1 (((Av h_v1) : Dc _ _ _ _ _ _) w W).nx (((Av h_v2) : Dc _ _ _ _ _ _) w W).nx)) fun a w F W => ?_
    refine ls F W Aa (Aw F Aa Aa Aa).q fun a w F W => ?_
    refine ls F W Aa (Af F Aa).q fun a w F W => ?_
    refine Ag (Ad ?_)
    have W := W.frontM (i := 1) Aa Aa
    have W := W.frontM (i := 1) Aa Aa
    exact ⟨_, H, F.re ⟨rfl, trivial⟩, W⟩
   have H := AV (Be hb) H
   rw [hb] at F
   clear hb
   iterate 5 refine Ci F Aa Aa Aa Aa Aa Aa Aa fun a F => ?_
   refine ls F W Aa (Ao F Aa Aa Aa).q fun a w F W => ?_
   refine ls F W Aa (Af F Aa).q fun a w F W => ?_
   refine Ag (Ad ?_)
   have W := W.frontM (i := 1) Aa Aa
   have W := W.frontM (i := 1) Aa Aa
   exact ⟨_, H, F.re ⟨rfl, trivial⟩, W⟩
  have H := AV (Be hb) H
  rw [hb] at F
  clear hb
  iterate 5 refine Ci F Aa Aa Aa Aa Aa Aa Aa fun a F => ?_
  refine ls F W Aa (Ao F Aa Aa Aa).q fun a w F W => ?_
  refine ls F W Aa (Ah F Aa).q fun a w F W => ?_
  iterate 5 refine Ci F Aa Aa Aa Aa Aa Aa Aa fun a F => ?_
  refine ls F W Aa (Ao F Aa Aa Aa).q fun a w F W => ?_
  refine ls F W Aa (Af F Aa).q fun a w F W => ?_
  refine Ag (Ad ?_)
  have W := W.frontM (i := 1) Aa Aa
  have W := W.frontM (i := 1) Aa Aa
  exact ⟨_, H, F.re ⟨rfl, trivial⟩, W⟩
 rintro a w ⟨x1, hj, F, W⟩
 have hj := AZ hj
 subst hj
 have H := K1
 clear G1 K1
 refine Ay ?_
 have H := AZ H
 subst H
 refine AO (.inl Aa) F W Aa (Au F Aa) ?_
 exact ⟨rfl, W.done⟩
theorem NV : Has Try.prog 49 := ⟨fun args w => An Try.func49 rfl (by decide) args w⟩
noncomputable def DV (p0 : List (Int × (Int × (Int × Int × Int × Int) × (Int × Int × Int × Int)) × (List (Int × Int × Int)))) (p1 : List (Int × (Int × (Int × Int × Int × Int) × (Int × Int × Int × Int)) × (List (Int × Int × Int)))) : Int → Option (Int ⊕ (Unit ⊕ Bool))
  | x1 => (if x1 < (p0.length : Int) then (ix p0 x1).bind fun x2 => (ix p1 x1).bind fun x3 => (F6 x2 x3).bind fun x4 => (if (!x4) = true then some (.inr (.inr false)) else some (.inl (CG (x1 + 1)))) else some (.inr (.inl ())))
noncomputable def EM (p0 : List (Int × (Int × (Int × Int × Int × Int) × (Int × Int × Int × Int)) × (List (Int × Int × Int)))) (p1 : List (Int × (Int × (Int × Int × Int × Int) × (Int × Int × Int × Int)) × (List (Int × Int × Int)))) : Option Bool := (if (p0.length : Int) ≠ (p1.length : Int) then some false else FL (Bh (DV p0 p1) 0) fun _ => some true)
theorem G6 (Y : Nat → Prop) (w0 : World) (v1 : Value) (v2 : Value) (p0 : List (Int × (Int × (Int × Int × Int × Int) × (Int × Int × Int × Int)) × (List (Int × Int × Int)))) (p1 : List (Int × (Int × (Int × Int × Int × Int) × (Int × Int × Int × Int)) × (List (Int × Int × Int)))) (r : Bool) (H : EM p0 p1 = some r) (h_v1 : Sl w0 (NX []) A6 v1 p0) (h_v2 : Sl w0 (NX []) A6 v2 p1) :
    Calls Try.prog 21 #[v1, v2] w0 fun e w' => e = .returned (.bool r) ∧ Below w0.heap.size w0 w' := by
 refine enter Try.func21 Aa Try.ntmps21 Aa fun a F => ?_
 have W := Stw.start Y w0
 obtain ⟨v3, h1, h_v1⟩ := h_v1.ex Bo
 obtain ⟨v4, h2, h_v2⟩ := h_v2.ex Bo
 unfold EM at H
 refine Ak (Ae ?_)
 refine ls F W Aa (Af F Aa).q fun a w F W => ?_
 refine Ag (Ad (Ak (Ak (Ae ?_))))
 refine ls F W Aa (Ah F Aa).q fun a w F W => ?_
 refine ls F W Aa (B4 (r := A6) (l := p0) Em Aa F Aa (A7 Bo h1 (Av h_v1))).q fun a w F W => ?_
 refine ls F W Aa (Ah F Aa).q fun a w F W => ?_
 refine ls F W Aa (B4 (r := A6) (l := p1) Em Aa F Aa (A7 Bo h2 (Av h_v2))).q fun a w F W => ?_
 refine ls F W Aa (FM F Aa Aa).q fun a w F W => ?_
 refine Ag (Ad ?_)
 refine AA F Aa (fun hb => ?_) fun hb => ?_
 ·
  have H := AU (Bd hb) H
  rw [hb] at F
  clear hb
  refine Ak (Ae ?_)
  refine ls F W Aa (Af F Aa).q fun a w F W => ?_
  refine Ag (Ad (Ay (AC ?_)))
  have H := AZ H
  subst H
  refine AO (.inl Aa) F W Aa (Au F Aa) ?_
  exact ⟨rfl, W.done⟩
 have H := AV (Be hb) H
 rw [hb] at F
 clear hb
 refine Az (Ad ?_)
 obtain ⟨o1, G1, K1, L1⟩ := IA H
 refine AY (fun a w => some (Sum.inl ()) = some o1 ∧ Fr 27 [] [(4, .bool false)] a ∧ Stw ⟨Y, [], w0⟩ [] [] w) ?_ ?_
 ·
  have H := G1
  clear G1 K1
  refine Ak (Ae ?_)
  refine ls F W Aa (Af F Aa).q fun a w F W => ?_
  refine Ag (Ad (AB ?_))
  refine BU H (fun s a w => Fr 27 [] [(0, v1), (1, v2), (4, .bool false), (5, .int .i64 s)] a ∧ Stw ⟨Y, [], w0⟩ [] [] w) ⟨F.re ⟨rfl, Aa, Aa, Aa, trivial⟩, W⟩ fun s o a w H L2 hR => ?_
  obtain ⟨x1, rfl⟩ : ∃ x, x = s := ⟨s, rfl⟩
  obtain ⟨F, W⟩ := hR
  have F : Fr 27 [] [(0, v1), (1, v2), (4, .bool false), (5, .int .i64 x1)] a := F
  have W : Stw ⟨Y, [], w0⟩ [] [] w := W
  rw [DV] at H
  refine Ak (Ak (Ae ?_))
  iterate 2 refine ls F W Aa (Ah F Aa).q fun a w F W => ?_
  refine ls F W Aa (B4 (r := A6) (l := p0) Em Aa F Aa (A7 Bo h1 (Av h_v1))).q fun a w F W => ?_
  refine ls F W Aa (BS F Aa Aa).q fun a w F W => ?_
  refine Ag (Ad ?_)
  refine AA F Aa (fun hb => ?_) fun hb => ?_
  ·
   have H := AU (Bd hb) H
   rw [hb] at F
   clear hb
   refine Az (Ad (Ak (AB (Ak ?_))))
   refine DA W MO (by kernel_rfl) ?_
   iterate 2 refine qs F Aa (Ah F Aa).q fun a F => ?_
   obtain ⟨x2, h3, H⟩ := Aq H
   obtain ⟨v5, h4, h5⟩ := CO h1 h3
   have h6 : Cm v5 = [.int .i64 x2.1, .int .i64 x2.2.1.1, .int .i64 x2.2.1.2.1.1, .int .i64 x2.2.1.2.1.2.1, .int .i64 x2.2.1.2.1.2.2.1, .int .i64 x2.2.1.2.1.2.2.2, .int .i64 x2.2.1.2.2.1, .int .i64 x2.2.1.2.2.2.1, .int .i64 x2.2.1.2.2.2.2.1, .int .i64 x2.2.1.2.2.2.2.2, (v5.2.2.1)] := congrArg (fun q : Int × (Int × (Int × Int × Int × Int) × (Int × Int × Int × Int)) × (List (Int × Int × Int)) => ([.int .i64 q.1, .int .i64 q.2.1.1, .int .i64 q.2.1.2.1.1, .int .i64 q.2.1.2.1.2.1, .int .i64 q.2.1.2.1.2.2.1, .int .i64 q.2.1.2.1.2.2.2, .int .i64 q.2.1.2.2.1, .int .i64 q.2.1.2.2.2.1, .int .i64 q.2.1.2.2.2.2.1, .int .i64 q.2.1.2.2.2.2.2, (v5.2.2.1)] : List Value)) h5
   refine qs F Aa (Bl (r := C1) Fa F Aa Aa (Av h_v1) h4).q fun a F => ?_
   refine qs F Aa (Ba (y := Value.agg #[.int .i64 x2.1, .int .i64 x2.2.1.1, .int .i64 x2.2.1.2.1.1, .int .i64 x2.2.1.2.1.2.1, .int .i64 x2.2.1.2.1.2.2.1, .int .i64 x2.2.1.2.1.2.2.2, .int .i64 x2.2.1.2.2.1, .int .i64 x2.2.1.2.2.2.1, .int .i64 x2.2.1.2.2.2.2.1, .int .i64 x2.2.1.2.2.2.2.2, (v5.2.2.1)]) (j := 0) (i := x1) (enc := Cm) F Aa Aa (Av h_v1) h4 Es Da (by rw [h6]; rfl)).q fun a F => ?_
   iterate 2 refine qs F Aa (Ah F Aa).q fun a F => ?_
   obtain ⟨x3, h7, H⟩ := Aq H
   obtain ⟨v6, h8, h9⟩ := CO h2 h7
   have h10 : Cm v6 = [.int .i64 x3.1, .int .i64 x3.2.1.1, .int .i64 x3.2.1.2.1.1, .int .i64 x3.2.1.2.1.2.1, .int .i64 x3.2.1.2.1.2.2.1, .int .i64 x3.2.1.2.1.2.2.2, .int .i64 x3.2.1.2.2.1, .int .i64 x3.2.1.2.2.2.1, .int .i64 x3.2.1.2.2.2.2.1, .int .i64 x3.2.1.2.2.2.2.2, (v6.2.2.1)] := congrArg (fun q : Int × (Int × (Int × Int × Int × Int) × (Int × Int × Int × Int)) × (List (Int × Int × Int)) => ([.int .i64 q.1, .int .i64 q.2.1.1, .int .i64 q.2.1.2.1.1, .int .i64 q.2.1.2.1.2.1, .int .i64 q.2.1.2.1.2.2.1, .int .i64 q.2.1.2.1.2.2.2, .int .i64 q.2.1.2.2.1, .int .i64 q.2.1.2.2.2.1, .int .i64 q.2.1.2.2.2.2.1, .int .i64 q.2.1.2.2.2.2.2, (v6.2.2.1)] : List Value)) h9
   refine qs F Aa (Bl (r := C1) Fa F Aa Aa (Av h_v2) h8).q fun a F => ?_
   refine qs F Aa (Ba (y := Value.agg #[.int .i64 x3.1, .int .i64 x3.2.1.1, .int .i64 x3.2.1.2.1.1, .int .i64 x3.2.1.2.1.2.1, .int .i64 x3.2.1.2.1.2.2.1, .int .i64 x3.2.1.2.1.2.2.2, .int .i64 x3.2.1.2.2.1, .int .i64 x3.2.1.2.2.2.1, .int .i64 x3.2.1.2.2.2.2.1, .int .i64 x3.2.1.2.2.2.2.2, (v6.2.2.1)]) (j := 0) (i := x1) (enc := Cm) F Aa Aa (Av h_v2) h8 Es Da (by rw [h10]; rfl)).q fun a F => ?_
   obtain ⟨x4, h11, H⟩ := Aq H
   refine qs F Aa (A4 (v := Value.bool x4) F NV Aa (fun w W => JG any w ((v5.2.2.1)) ((v6.2.2.1)) x2 x3 _ h11 (((DN (Av h_v1) h4 (Bv.snd (Bv.snd Bv.here)) (congrArg (fun q : Int × (Int × (Int × Int × Int × Int) × (Int × Int × Int × Int)) × (List (Int × Int × Int)) => q.2.2) h5)) : Dc _ _ _ _ _ _) w W).nx (((DN (Av h_v2) h8 (Bv.snd (Bv.snd Bv.here)) (congrArg (fun q : Int × (Int × (Int × Int × Int × Int) × (Int × Int × Int × Int)) × (List (Int × Int × Int)) => q.2.2) h9)) : Dc _ _ _ _ _ _) w W).nx)) fun a F => ?_
   refine qs F Aa (F3 F Aa).q fun a F => ?_
   refine Bm fun w W => ?_
   refine Ad ?_
   refine AA F Aa (fun hb => ?_) fun hb => ?_
   ·
    have H := AU hb H
    rw [hb] at F
    clear hb
    refine Ak (Ae ?_)
    refine ls F W Aa (Af F Aa).q fun a w F W => ?_
    refine Ag (Ad (Ay (AW ?_)))
    iterate 2 refine AC ?_
    refine AW (AC ?_)
    have H := L2 _ H
    have H := L1 _ H
    have H := AZ H
    subst H
    refine AO (.inl Aa) F W Aa (Au F Aa) ?_
    exact ⟨rfl, W.done⟩
   have H := AV (by rw [hb]; decide) H
   rw [hb] at F
   clear hb
   refine Az (A5 (Ad (Ae ?_)))
   refine ls F W Aa (Ah F Aa).q fun a w F W => ?_
   refine ls F W Aa (Co F Aa Aa Aa).q fun a w F W => ?_
   refine ls F W Aa (Af F Aa).q fun a w F W => ?_
   refine Ag (Ad ?_)
   exact ⟨_, H, F.re ⟨rfl, Aa, Aa, Aa, trivial⟩, W⟩
  have H := AV (Be hb) H
  rw [hb] at F
  clear hb
  refine BV ?_
  iterate 2 refine Ce ?_
  refine BT (Ad ?_)
  have H := L2 _ H
  exact ⟨H, F.re ⟨rfl, trivial⟩, W⟩
 rintro a w ⟨hj, F, W⟩
 have H := K1 _ hj
 clear hj G1 K1 L1
 refine Ak (Ae ?_)
 refine ls F W Aa (Af F Aa).q fun a w F W => ?_
 refine Ag (Ad (Ay ?_))
 have H := AZ H
 subst H
 refine AO (.inl Aa) F W Aa (Au F Aa) ?_
 exact ⟨rfl, W.done⟩
theorem NO : Has Try.prog 21 := ⟨fun args w => An Try.func21 rfl (by decide) args w⟩
noncomputable def CM (p1 : List (Int × (Int × (Int × (Int × Int × Int × Int) × (Int × Int × Int × Int)) × (List (Int × Int × Int))) × Bool)) : Int → Option (Int ⊕ (Unit ⊕ Bool))
  | x5 => (if x5 < (p1.length : Int) then (ix p1 x5).bind fun x6 => (if 10 < (x6.2.1.2.2.length : Int) then (Dy).bind fun x7 => some (.inr (.inr x7)) else some (.inl (CG (x5 + 1)))) else some (.inr (.inl ())))
noncomputable def DC (p0 : List (Int × (Int × (Int × Int × Int × Int) × (Int × Int × Int × Int)) × (List (Int × Int × Int)))) (p1 : List (Int × (Int × (Int × (Int × Int × Int × Int) × (Int × Int × Int × Int)) × (List (Int × Int × Int))) × Bool)) (p2 : Int) (p3 : Int) (p4 : Int) : Option Bool := ((Ft p0).bind fun x2 => (if (!x2) = true then some true else (Fg p0 p2 p3).bind fun x3 => (if (!x3) = true then some true else (if 20 < (p1.length : Int) then some true else (if p4 < 0 then some true else some (decide ((p1.length : Int) < p4))))))).bind fun x1 => (if x1 = true then (Dy).bind fun x4 => some x4 else FL (Bh (CM p1) 0) fun _ => (CC p0 p1 p2 p3).bind fun x8 => (if x8.2.2 ≠ 0 then (if 0 ≤ x8.2.1 then (if x8.2.1 < (p1.length : Int) then (EM x8.1 p0).bind fun x10 => (if x10 = true then (Dy).bind fun x11 => some x11 else some false) else some false) else some false).bind fun x9 => some x9 else (Dd p1 0 p4).bind fun x12 => (CC p0 x12 p2 p3).bind fun x13 => (Dd p1 p4 (p1.length : Int)).bind fun x14 => (CC x13.1 x14 p2 p3).bind fun x15 => (if x8.2.1 = (-1) then (if x13.2.2 = 0 then (if x15.2.2 = 0 then (EM x8.1 x15.1).bind fun x17 => (if x17 = true then (Dy).bind fun x18 => some x18 else some false) else some false) else some false) else some false).bind fun x16 => some x16))
theorem Hq (Y : Nat → Prop) (w0 : World) (v1 : Value) (v2 : Value) (p0 : List (Int × (Int × (Int × Int × Int × Int) × (Int × Int × Int × Int)) × (List (Int × Int × Int)))) (p1 : List (Int × (Int × (Int × (Int × Int × Int × Int) × (Int × Int × Int × Int)) × (List (Int × Int × Int))) × Bool)) (p2 : Int) (p3 : Int) (p4 : Int) (r : Bool) (H : DC p0 p1 p2 p3 p4 = some r) (s_v1 : Sl w0 Y A6 v1 p0) (s_v2 : Sl w0 Y Jl v2 p1) :
    Calls Try.prog 5 #[v1, v2, .int .i64 p2, .int .i64 p3, .int .i64 p4] w0 fun e w' => e = .returned (.bool r) ∧ Below w0.heap.size w0 w' := by
 refine enter Try.func5 Aa Try.ntmps5 Aa fun a F => ?_
 have W := Stw.start Y w0
 obtain ⟨v3, h1, s_v1⟩ := s_v1.ex Bo
 obtain ⟨v4, h2, s_v2⟩ := s_v2.ex GV
 have h_v1 := W.nx s_v1
 have h_v2 := W.nx s_v2
 unfold DC at H
 refine Ak (Ae ?_)
 refine ls F W Aa (Af F Aa).q fun a w F W => ?_
 refine Ag (Ad (Ak ?_))
 obtain ⟨o1, G1, K1⟩ := Aq H
 refine AY (fun a w => ∃ x1 : Bool, some (x1) = some o1 ∧ Fr 129 [] [(0, v1), (1, v2), (2, .int .i64 p2), (3, .int .i64 p3), (4, .int .i64 p4), (10, .bool false), (45, .bool x1)] a ∧ Stw ⟨Y, [], w0⟩ [] [] w) ?_ ?_
 ·
  have H := G1
  clear G1 K1
  refine Ae ?_
  refine ls F W Aa (Ah F Aa).q fun a w F W => ?_
  obtain ⟨x2, h3, H⟩ := Aq H
  refine ls F W Aa (A4 (v := Value.bool x2) F H8 Aa (fun w W => I6 any w (v1) p0 _ h3 (((A7 Bo h1 (Av h_v1)) : Dc _ _ _ _ _ _) w W).nx)) fun a w F W => ?_
  refine ls F W Aa (F3 F Aa).q fun a w F W => ?_
  refine ls F W Aa (Ah F Aa).q fun a w F W => ?_
  rcases Bool.eq_false_or_eq_true (!x2) with hb | hb
  ·
   have H := AU hb H
   rw [hb] at F
   clear hb
   iterate 5 refine Ci F Aa Aa Aa Aa Aa Aa Aa fun a F => ?_
   refine ls F W Aa (Aw F Aa Aa Aa).q fun a w F W => ?_
   refine ls F W Aa (Ah F Aa).q fun a w F W => ?_
   iterate 3 refine Ci F Aa Aa Aa Aa Aa Aa Aa fun a F => ?_
   refine ls F W Aa (Aw F Aa Aa Aa).q fun a w F W => ?_
   refine ls F W Aa (Ah F Aa).q fun a w F W => ?_
   iterate 2 refine Ci F Aa Aa Aa Aa Aa Aa Aa fun a F => ?_
   refine ls F W Aa (Aw F Aa Aa Aa).q fun a w F W => ?_
   refine ls F W Aa (Ah F Aa).q fun a w F W => ?_
   iterate 4 refine Ci F Aa Aa Aa Aa Aa Aa Aa fun a F => ?_
   refine ls F W Aa (Aw F Aa Aa Aa).q fun a w F W => ?_
   refine Ag (Ad ?_)
   exact ⟨_, H, F.re ⟨rfl, Aa, Aa, Aa, Aa, Aa, Aa, trivial⟩, W⟩
  have H := AV (by rw [hb]; decide) H
  rw [hb] at F
  clear hb
  iterate 3 refine AD F W (Aj F Aa Aa Aa Aa) Aa (Ap Aa) (Ah F Aa).q fun a w F W => ?_
  refine Gg (Aj F Aa Aa Aa Aa) ?_
  obtain ⟨x3, h4, H⟩ := Aq H
  refine ls F W Aa (A4 (v := Value.bool x3) F N9 Aa (fun w W => I3 any w (v1) p0 p2 p3 _ h4 (((A7 Bo h1 (Av h_v1)) : Dc _ _ _ _ _ _) w W).nx)) fun a w F W => ?_
  refine AD F W (Aj F Aa Aa Aa Aa) Aa (Ap Aa) (F3 F Aa).q fun a w F W => ?_
  refine ls F W Aa (Ao F Aa Aa Aa).q fun a w F W => ?_
  refine ls F W Aa (Ah F Aa).q fun a w F W => ?_
  rcases Bool.eq_false_or_eq_true (!x3) with hb | hb
  ·
   have H := AU hb H
   rw [hb] at F
   clear hb
   iterate 3 refine Ci F Aa Aa Aa Aa Aa Aa Aa fun a F => ?_
   refine ls F W Aa (Aw F Aa Aa Aa).q fun a w F W => ?_
   refine ls F W Aa (Ah F Aa).q fun a w F W => ?_
   iterate 2 refine Ci F Aa Aa Aa Aa Aa Aa Aa fun a F => ?_
   refine ls F W Aa (Aw F Aa Aa Aa).q fun a w F W => ?_
   refine ls F W Aa (Ah F Aa).q fun a w F W => ?_
   iterate 4 refine Ci F Aa Aa Aa Aa Aa Aa Aa fun a F => ?_
   refine ls F W Aa (Aw F Aa Aa Aa).q fun a w F W => ?_
   refine Ag (Ad ?_)
   exact ⟨_, H, F.re ⟨rfl, Aa, Aa, Aa, Aa, Aa, Aa, trivial⟩, W⟩
  have H := AV (by rw [hb]; decide) H
  rw [hb] at F
  clear hb
  refine AD F W (Aj F Aa Aa Aa Aa) Aa (Ap Aa) (Ah F Aa).q fun a w F W => ?_
  refine AD F W (Aj F Aa Aa Aa Aa) Aa (Ap Aa) (B4 (r := Jl) (l := p1) J9 Aa F Aa (A7 GV h2 (Av h_v2))).q fun a w F W => ?_
  refine AD F W (Aj F Aa Aa Aa Aa) Aa (Ap Aa) (Fu F Aa Aa).q fun a w F W => ?_
  refine ls F W Aa (Ao F Aa Aa Aa).q fun a w F W => ?_
  refine ls F W Aa (Ah F Aa).q fun a w F W => ?_
  rcases Bool.eq_false_or_eq_true (decide (20 < (p1.length : Int))) with hb | hb
  ·
   have H := AU (Bd hb) H
   rw [hb] at F
   clear hb
   iterate 2 refine Ci F Aa Aa Aa Aa Aa Aa Aa fun a F => ?_
   refine ls F W Aa (Aw F Aa Aa Aa).q fun a w F W => ?_
   refine ls F W Aa (Ah F Aa).q fun a w F W => ?_
   iterate 4 refine Ci F Aa Aa Aa Aa Aa Aa Aa fun a F => ?_
   refine ls F W Aa (Aw F Aa Aa Aa).q fun a w F W => ?_
   refine Ag (Ad ?_)
   exact ⟨_, H, F.re ⟨rfl, Aa, Aa, Aa, Aa, Aa, Aa, trivial⟩, W⟩
  have H := AV (Be hb) H
  rw [hb] at F
  clear hb
  refine AD F W (Aj F Aa Aa Aa Aa) Aa (Ap Aa) (Ah F Aa).q fun a w F W => ?_
  refine AD F W (Aj F Aa Aa Aa Aa) Aa (Ap Aa) (BS F Aa Aa).q fun a w F W => ?_
  refine ls F W Aa (Ao F Aa Aa Aa).q fun a w F W => ?_
  refine ls F W Aa (Ah F Aa).q fun a w F W => ?_
  rcases Bool.eq_false_or_eq_true (decide (p4 < 0)) with hb | hb
  ·
   have H := AU (Bd hb) H
   rw [hb] at F
   clear hb
   iterate 4 refine Ci F Aa Aa Aa Aa Aa Aa Aa fun a F => ?_
   refine ls F W Aa (Aw F Aa Aa Aa).q fun a w F W => ?_
   refine Ag (Ad ?_)
   exact ⟨_, H, F.re ⟨rfl, Aa, Aa, Aa, Aa, Aa, Aa, trivial⟩, W⟩
  have H := AV (Be hb) H
  rw [hb] at F
  clear hb
  iterate 2 refine AD F W (Aj F Aa Aa Aa Aa) Aa (Ap Aa) (Ah F Aa).q fun a w F W => ?_
  refine AD F W (Aj F Aa Aa Aa Aa) Aa (Ap Aa) (B4 (r := Jl) (l := p1) J9 Aa F Aa (A7 GV h2 (Av h_v2))).q fun a w F W => ?_
  refine AD F W (Aj F Aa Aa Aa Aa) Aa (Ap Aa) (Fu F Aa Aa).q fun a w F W => ?_
  refine ls F W Aa (Ao F Aa Aa Aa).q fun a w F W => ?_
  refine Ag (Ad ?_)
  exact ⟨_, H, F.re ⟨rfl, Aa, Aa, Aa, Aa, Aa, Aa, trivial⟩, W⟩
 rintro a w ⟨x1, hj, F, W⟩
 have hj := AZ hj
 subst hj
 have H := K1
 clear G1 K1
 refine AA F Aa (fun hb => ?_) fun hb => ?_
 ·
  have H := AU hb H
  rw [hb] at F
  clear hb
  refine Ak (Ae ?_)
  obtain ⟨x4, h5, H⟩ := Aq H
  refine ls F W Aa (A4 (v := Value.bool x4) F H9 Aa (fun w W => E3 any w _ h5)) fun a w F W => ?_
  refine ls F W Aa (Af F Aa).q fun a w F W => ?_
  refine Ag (Ad (Ay (AC ?_)))
  have H := AZ H
  subst H
  refine AO (.inl Aa) F W Aa (Au F Aa) ?_
  exact ⟨rfl, W.done⟩
 have H := AV (by rw [hb]; decide) H
 rw [hb] at F
 clear hb
 refine Az (Ad ?_)
 obtain ⟨o2, G2, K2, L2⟩ := IA H
 refine AY (fun a w => some (Sum.inl ()) = some o2 ∧ Fr 129 [] [(0, v1), (1, v2), (2, .int .i64 p2), (3, .int .i64 p3), (4, .int .i64 p4), (10, .bool false)] a ∧ Stw ⟨Y, [], w0⟩ [] [] w) ?_ ?_
 ·
  have H := G2
  clear G2 K2
  refine Ak (Ae ?_)
  refine ls F W Aa (Af F Aa).q fun a w F W => ?_
  refine Ag (Ad (AB ?_))
  refine BU H (fun s a w => Fr 129 [] [(0, v1), (1, v2), (2, .int .i64 p2), (3, .int .i64 p3), (4, .int .i64 p4), (10, .bool false), (11, .int .i64 s)] a ∧ Stw ⟨Y, [], w0⟩ [] [] w) ⟨F.re ⟨rfl, Aa, Aa, Aa, Aa, Aa, Aa, trivial⟩, W⟩ fun s o a w H L3 hR => ?_
  obtain ⟨x5, rfl⟩ : ∃ x, x = s := ⟨s, rfl⟩
  obtain ⟨F, W⟩ := hR
  have F : Fr 129 [] [(0, v1), (1, v2), (2, .int .i64 p2), (3, .int .i64 p3), (4, .int .i64 p4), (10, .bool false), (11, .int .i64 x5)] a := F
  have W : Stw ⟨Y, [], w0⟩ [] [] w := W
  rw [CM] at H
  refine Ak (Ak (Ae ?_))
  iterate 2 refine ls F W Aa (Ah F Aa).q fun a w F W => ?_
  refine ls F W Aa (B4 (r := Jl) (l := p1) J9 Aa F Aa (A7 GV h2 (Av h_v2))).q fun a w F W => ?_
  refine ls F W Aa (BS F Aa Aa).q fun a w F W => ?_
  refine Ag (Ad ?_)
  refine AA F Aa (fun hb => ?_) fun hb => ?_
  ·
   have H := AU (Bd hb) H
   rw [hb] at F
   clear hb
   refine Az (Ad (Ak (AB (Ak (Ae ?_)))))
   iterate 2 refine ls F W Aa (Ah F Aa).q fun a w F W => ?_
   obtain ⟨x6, h6, H⟩ := Aq H
   obtain ⟨v5, h7, h8⟩ := CO h2 h6
   have h9 : KF v5 = [.int .i64 x6.1, .int .i64 x6.2.1.1, .int .i64 x6.2.1.2.1.1, .int .i64 x6.2.1.2.1.2.1.1, .int .i64 x6.2.1.2.1.2.1.2.1, .int .i64 x6.2.1.2.1.2.1.2.2.1, .int .i64 x6.2.1.2.1.2.1.2.2.2, .int .i64 x6.2.1.2.1.2.2.1, .int .i64 x6.2.1.2.1.2.2.2.1, .int .i64 x6.2.1.2.1.2.2.2.2.1, .int .i64 x6.2.1.2.1.2.2.2.2.2, (v5.2.1.2.2.1), .bool x6.2.2] := congrArg (fun q : Int × (Int × (Int × (Int × Int × Int × Int) × (Int × Int × Int × Int)) × (List (Int × Int × Int))) × Bool => ([.int .i64 q.1, .int .i64 q.2.1.1, .int .i64 q.2.1.2.1.1, .int .i64 q.2.1.2.1.2.1.1, .int .i64 q.2.1.2.1.2.1.2.1, .int .i64 q.2.1.2.1.2.1.2.2.1, .int .i64 q.2.1.2.1.2.1.2.2.2, .int .i64 q.2.1.2.1.2.2.1, .int .i64 q.2.1.2.1.2.2.2.1, .int .i64 q.2.1.2.1.2.2.2.2.1, .int .i64 q.2.1.2.1.2.2.2.2.2, (v5.2.1.2.2.1), .bool q.2.2] : List Value)) h8
   refine ls F W Aa (Bl (r := LE) MK F Aa Aa (Av h_v2) h7).q fun a w F W => ?_
   refine ls F W Aa (Al FB Aa Aa Aa Da F Aa (EI v2 + (x5).toNat * 13 + 1) Aa).q fun a w F W => ?_
   refine ls F W Aa (Al CA Aa Aa Aa Hv F Aa (EI v2 + (x5).toNat * 13 + 1 + 10) Aa).q fun a w F W => ?_
   refine ls F W Aa (Ba (y := (v5.2.1.2.2.1)) (j := 11) (i := x5) (enc := KF) F Aa Aa (Av h_v2) h7 MP Hv (by rw [h9]; rfl)).q fun a w F W => ?_
   refine ls F W Aa (B4 (r := Br) (l := x6.2.1.2.2) Hn Aa F Aa (DN (Av h_v2) h7 (Bv.snd (Bv.fst (Bv.snd (Bv.snd Bv.here)))) (congrArg (fun q : Int × (Int × (Int × (Int × Int × Int × Int) × (Int × Int × Int × Int)) × (List (Int × Int × Int))) × Bool => q.2.1.2.2) h8))).q fun a w F W => ?_
   refine ls F W Aa (Fu F Aa Aa).q fun a w F W => ?_
   refine Ag (Ad ?_)
   refine AA F Aa (fun hb => ?_) fun hb => ?_
   ·
    have H := AU (Bd hb) H
    rw [hb] at F
    clear hb
    refine Ak (Ae ?_)
    obtain ⟨x7, h10, H⟩ := Aq H
    refine ls F W Aa (A4 (v := Value.bool x7) F H9 Aa (fun w W => E3 any w _ h10)) fun a w F W => ?_
    refine ls F W Aa (Af F Aa).q fun a w F W => ?_
    refine Ag (Ad (Ay (AW ?_)))
    iterate 2 refine AC ?_
    refine AW (AC ?_)
    have H := L3 _ H
    have H := L2 _ H
    have H := AZ H
    subst H
    refine AO (.inl Aa) F W Aa (Au F Aa) ?_
    exact ⟨rfl, W.done⟩
   have H := AV (Be hb) H
   rw [hb] at F
   clear hb
   refine Az (A5 (Ad (Ae ?_)))
   refine ls F W Aa (Ah F Aa).q fun a w F W => ?_
   refine ls F W Aa (Co F Aa Aa Aa).q fun a w F W => ?_
   refine ls F W Aa (Af F Aa).q fun a w F W => ?_
   refine Ag (Ad ?_)
   exact ⟨_, H, F.re ⟨rfl, Aa, Aa, Aa, Aa, Aa, Aa, trivial⟩, W⟩
  have H := AV (Be hb) H
  rw [hb] at F
  clear hb
  refine BV ?_
  iterate 2 refine Ce ?_
  refine BT (Ad ?_)
  have H := L3 _ H
  exact ⟨H, F.re ⟨rfl, Aa, Aa, Aa, Aa, Aa, trivial⟩, W⟩
 rintro a w ⟨hj, F, W⟩
 have H := K2 _ hj
 clear hj G2 K2 L2
 refine Ak (Ae ?_)
 iterate 4 refine ls F W Aa (Ah F Aa).q fun a w F W => ?_
 obtain ⟨x8, h11, H⟩ := Aq H
 refine Bq (Ml := []) (Zl := []) (M := []) (Z := []) (β := Value) (rv := fun x => .tuple #[x, .int .i64 x8.2.1, .int .i64 x8.2.2]) (MM := fun x => []) (ZZ := fun x => [BP x A6 x8.1]) F W Nc Aa Aa (fun hL => EC _ w (v1) (v2) p0 p1 p2 p3 _ h11 (Sl.hide Bo h1 (W.old s_v1)) (Sl.hide GV h2 (W.old s_v2))) fun x a w F W => ?_
 obtain ⟨v6, rfl⟩ : ∃ y, y = x := ⟨x, rfl⟩
 have W : Stw ⟨Y, [], w0⟩ [] [BP v6 A6 x8.1] w := W
 refine ls F W Aa (Ah F Aa).q fun a w F W => ?_
 refine ls F W Aa (BH (v := v6) F Aa Aa).q fun a w F W => ?_
 refine ls F W Aa (BH (v := Value.int .i64 x8.2.1) F Aa Aa).q fun a w F W => ?_
 refine ls F W Aa (BH (v := Value.int .i64 x8.2.2) F Aa Aa).q fun a w F W => ?_
 iterate 3 refine ls F W Aa (Af F Aa).q fun a w F W => ?_
 refine Ag (Ad (Ak (Ak (Ae ?_))))
 refine ls F W Aa (Ah F Aa).q fun a w F W => ?_
 refine ls F W Aa (FM F Aa Aa).q fun a w F W => ?_
 refine Ag (Ad ?_)
 refine AA F Aa (fun hb => ?_) fun hb => ?_
 ·
  have H := AU (Bd hb) H
  rw [hb] at F
  clear hb
  obtain ⟨o4, G4, K4⟩ := Aq H
  refine AY (fun a w => ∃ x9 : Bool, some (x9) = some o4 ∧ Fr 129 [] [(0, v1), (1, v2), (2, .int .i64 p2), (3, .int .i64 p3), (4, .int .i64 p4), (10, .bool x9), (12, v6), (13, .int .i64 x8.2.1)] a ∧ Stw ⟨Y, [], w0⟩ [] [BP v6 A6 x8.1] w) ?_ ?_
  ·
   have H := G4
   clear G4 K4
   refine Ae ?_
   refine ls F W Aa (Ah F Aa).q fun a w F W => ?_
   refine ls F W Aa (Ez F Aa Aa).q fun a w F W => ?_
   refine ls F W Aa (Ah F Aa).q fun a w F W => ?_
   rcases Bool.eq_false_or_eq_true (decide (0 ≤ x8.2.1)) with hb | hb
   ·
    have H := AU (Bd hb) H
    rw [hb] at F
    clear hb
    iterate 2 refine AD F W (Aj F Aa Aa Aa Aa) Aa (Ap Aa) (Ah F Aa).q fun a w F W => ?_
    refine AD F W (Aj F Aa Aa Aa Aa) Aa (Ap Aa) (B4 (r := Jl) (l := p1) J9 Aa F Aa (A7 GV h2 (Av h_v2))).q fun a w F W => ?_
    refine AD F W (Aj F Aa Aa Aa Aa) Aa (Ap Aa) (BS F Aa Aa).q fun a w F W => ?_
    refine ls F W Aa (Aw F Aa Aa Aa).q fun a w F W => ?_
    refine ls F W Aa (Ah F Aa).q fun a w F W => ?_
    rcases Bool.eq_false_or_eq_true (decide (x8.2.1 < (p1.length : Int))) with hb | hb
    ·
     have H := AU (Bd hb) H
     rw [hb] at F
     clear hb
     iterate 2 refine AD F W (Aj F Aa Aa Aa Aa) Aa (Ap Aa) (Ah F Aa).q fun a w F W => ?_
     refine Gg (Aj F Aa Aa Aa Aa) ?_
     obtain ⟨x10, h12, H⟩ := Aq H
     refine ls F W Aa (A4 (v := Value.bool x10) F NO Aa (fun w W => G6 any w (v6) (v1) x8.1 p0 _ h12 (((CT 0 Aa) : Dc _ _ _ _ _ _) w W).nx (((A7 Bo h1 (Av h_v1)) : Dc _ _ _ _ _ _) w W).nx)) fun a w F W => ?_
     refine ls F W Aa (Aw F Aa Aa Aa).q fun a w F W => ?_
     refine ls F W Aa (Ah F Aa).q fun a w F W => ?_
     rcases Bool.eq_false_or_eq_true x10 with hb | hb
     ·
      have H := AU hb H
      rw [hb] at F
      clear hb
      refine Gg (Aj F Aa Aa Aa Aa) ?_
      obtain ⟨x11, h13, H⟩ := Aq H
      refine ls F W Aa (A4 (v := Value.bool x11) F H9 Aa (fun w W => E3 any w _ h13)) fun a w F W => ?_
      refine ls F W Aa (Aw F Aa Aa Aa).q fun a w F W => ?_
      refine ls F W Aa (Af F Aa).q fun a w F W => ?_
      refine Ag (Ad ?_)
      exact ⟨_, H, F.re ⟨rfl, Aa, Aa, Aa, Aa, Aa, Aa, Aa, trivial⟩, W⟩
     have H := AV (by rw [hb]; decide) H
     rw [hb] at F
     clear hb
     refine Ci F Aa Aa Aa Aa Aa Aa Aa fun a F => ?_
     refine ls F W Aa (Ao F Aa Aa Aa).q fun a w F W => ?_
     refine ls F W Aa (Af F Aa).q fun a w F W => ?_
     refine Ag (Ad ?_)
     exact ⟨_, H, F.re ⟨rfl, Aa, Aa, Aa, Aa, Aa, Aa, Aa, trivial⟩, W⟩
    have H := AV (Be hb) H
    rw [hb] at F
    clear hb
    iterate 3 refine Ci F Aa Aa Aa Aa Aa Aa Aa fun a F => ?_
    refine ls F W Aa (Ao F Aa Aa Aa).q fun a w F W => ?_
    refine ls F W Aa (Ah F Aa).q fun a w F W => ?_
    refine Ci F Aa Aa Aa Aa Aa Aa Aa fun a F => ?_
    refine ls F W Aa (Ao F Aa Aa Aa).q fun a w F W => ?_
    refine ls F W Aa (Af F Aa).q fun a w F W => ?_
    refine Ag (Ad ?_)
    exact ⟨_, H, F.re ⟨rfl, Aa, Aa, Aa, Aa, Aa, Aa, Aa, trivial⟩, W⟩
   have H := AV (Be hb) H
   rw [hb] at F
   clear hb
   iterate 4 refine Ci F Aa Aa Aa Aa Aa Aa Aa fun a F => ?_
   refine ls F W Aa (Ao F Aa Aa Aa).q fun a w F W => ?_
   refine ls F W Aa (Ah F Aa).q fun a w F W => ?_
   iterate 3 refine Ci F Aa Aa Aa Aa Aa Aa Aa fun a F => ?_
   refine ls F W Aa (Ao F Aa Aa Aa).q fun a w F W => ?_
   refine ls F W Aa (Ah F Aa).q fun a w F W => ?_
   refine Ci F Aa Aa Aa Aa Aa Aa Aa fun a F => ?_
   refine ls F W Aa (Ao F Aa Aa Aa).q fun a w F W => ?_
   refine ls F W Aa (Af F Aa).q fun a w F W => ?_
   refine Ag (Ad ?_)
   exact ⟨_, H, F.re ⟨rfl, Aa, Aa, Aa, Aa, Aa, Aa, Aa, trivial⟩, W⟩
  rintro a w ⟨x9, hj, F, W⟩
  have hj := AZ hj
  subst hj
  have H := K4
  clear G4 K4
  refine Ay (AC ?_)
  have H := AZ H
  subst H
  refine AO (.inl Aa) F W Aa (Au F Aa) ?_
  exact ⟨rfl, W.done⟩
 have H := AV (Be hb) H
 rw [hb] at F
 clear hb
 refine Az (Ad (Ak (Ae ?_)))
 iterate 3 refine ls F W Aa (Ah F Aa).q fun a w F W => ?_
 obtain ⟨x12, h14, H⟩ := Aq H
 obtain ⟨v7, h15, h16⟩ := GC h2 h14
 refine ls F W Aa (DL (r := Jl) MK F Aa Aa Aa (A7 GV h2 (Av h_v2)) h14).q fun a w F W => ?_
 iterate 2 refine ls F W Aa (Ah F Aa).q fun a w F W => ?_
 obtain ⟨x13, h17, H⟩ := Aq H
 refine Bq (Ml := []) (Zl := []) (M := []) (Z := [BP v6 A6 x8.1]) (β := Value) (rv := fun x => .tuple #[x, .int .i64 x13.2.1, .int .i64 x13.2.2]) (MM := fun x => []) (ZZ := fun x => [BP x A6 x13.1]) F W Nc Aa Aa (fun hL => EC _ w (v1) ((Cn v2 (0 : Int) p4 13)) p0 x12 p2 p3 _ h17 (Sl.hide Bo h1 (W.old s_v1)) (Sl.sub (Sl.hide GV h2 (W.old s_v2)) h14)) fun x a w F W => ?_
 obtain ⟨v8, rfl⟩ : ∃ y, y = x := ⟨x, rfl⟩
 have W : Stw ⟨Y, [], w0⟩ [] [BP v8 A6 x13.1, BP v6 A6 x8.1] w := W
 refine ls F W Aa (Ah F Aa).q fun a w F W => ?_
 refine ls F W Aa (BH (v := v8) F Aa Aa).q fun a w F W => ?_
 refine ls F W Aa (BH (v := Value.int .i64 x13.2.1) F Aa Aa).q fun a w F W => ?_
 refine ls F W Aa (BH (v := Value.int .i64 x13.2.2) F Aa Aa).q fun a w F W => ?_
 iterate 3 refine ls F W Aa (Af F Aa).q fun a w F W => ?_
 refine Ag (Ad (Ak (Ae ?_)))
 iterate 3 refine ls F W Aa (Ah F Aa).q fun a w F W => ?_
 obtain ⟨x14, h18, H⟩ := Aq H
 obtain ⟨v9, h19, h20⟩ := GC h2 h18
 refine ls F W Aa (DL (r := Jl) MK F Aa Aa Aa (A7 GV h2 (Av h_v2)) h18).q fun a w F W => ?_
 iterate 2 refine ls F W Aa (Ah F Aa).q fun a w F W => ?_
 obtain ⟨x15, h21, H⟩ := Aq H
 refine Bq (Ml := []) (Zl := []) (M := []) (Z := [BP v8 A6 x13.1, BP v6 A6 x8.1]) (β := Value) (rv := fun x => .tuple #[x, .int .i64 x15.2.1, .int .i64 x15.2.2]) (MM := fun x => []) (ZZ := fun x => [BP x A6 x15.1]) F W Nc Aa Aa (fun hL => EC _ w (v8) ((Cn v2 p4 (p1.length : Int) 13)) x13.1 x14 p2 p3 _ h21 (W.item (i := 0) Aa) (Sl.sub (Sl.hide GV h2 (W.old s_v2)) h18)) fun x a w F W => ?_
 obtain ⟨v10, rfl⟩ : ∃ y, y = x := ⟨x, rfl⟩
 have W : Stw ⟨Y, [], w0⟩ [] [BP v10 A6 x15.1, BP v8 A6 x13.1, BP v6 A6 x8.1] w := W
 refine ls F W Aa (Ah F Aa).q fun a w F W => ?_
 refine ls F W Aa (BH (v := v10) F Aa Aa).q fun a w F W => ?_
 refine ls F W Aa (BH (v := Value.int .i64 x15.2.1) F Aa Aa).q fun a w F W => ?_
 refine ls F W Aa (BH (v := Value.int .i64 x15.2.2) F Aa Aa).q fun a w F W => ?_
 iterate 3 refine ls F W Aa (Af F Aa).q fun a w F W => ?_
 refine Ag (Ad ?_)
 obtain ⟨o5, G5, K5⟩ := Aq H
 refine AY (fun a w => ∃ x16 : Bool, some (x16) = some o5 ∧ Fr 129 [] [(10, .bool x16)] a ∧ Stw ⟨Y, [], w0⟩ [] [] w) ?_ ?_
 ·
  have H := G5
  clear G5 K5
  refine Ae ?_
  refine ls F W Aa (Ah F Aa).q fun a w F W => ?_
  refine ls F W Aa (BJ F Aa Aa).q fun a w F W => ?_
  refine ls F W Aa (Ah F Aa).q fun a w F W => ?_
  rcases Bool.eq_false_or_eq_true (decide (x8.2.1 = (-1))) with hb | hb
  ·
   have H := AU (Bd hb) H
   rw [hb] at F
   clear hb
   refine AD F W (Aj F Aa Aa Aa Aa) Aa (Ap Aa) (Ah F Aa).q fun a w F W => ?_
   refine AD F W (Aj F Aa Aa Aa Aa) Aa (Ap Aa) (BJ F Aa Aa).q fun a w F W => ?_
   refine ls F W Aa (Aw F Aa Aa Aa).q fun a w F W => ?_
   refine ls F W Aa (Ah F Aa).q fun a w F W => ?_
   rcases Bool.eq_false_or_eq_true (decide (x13.2.2 = 0)) with hb | hb
   ·
    have H := AU (Bd hb) H
    rw [hb] at F
    clear hb
    refine AD F W (Aj F Aa Aa Aa Aa) Aa (Ap Aa) (Ah F Aa).q fun a w F W => ?_
    refine AD F W (Aj F Aa Aa Aa Aa) Aa (Ap Aa) (BJ F Aa Aa).q fun a w F W => ?_
    refine ls F W Aa (Aw F Aa Aa Aa).q fun a w F W => ?_
    refine ls F W Aa (Ah F Aa).q fun a w F W => ?_
    rcases Bool.eq_false_or_eq_true (decide (x15.2.2 = 0)) with hb | hb
    ·
     have H := AU (Bd hb) H
     rw [hb] at F
     clear hb
     iterate 2 refine AD F W (Aj F Aa Aa Aa Aa) Aa (Ap Aa) (Ah F Aa).q fun a w F W => ?_
     refine Gg (Aj F Aa Aa Aa Aa) ?_
     obtain ⟨x17, h22, H⟩ := Aq H
     refine ls F W Aa (A4 (v := Value.bool x17) F NO Aa (fun w W => G6 any w (v6) (v10) x8.1 x15.1 _ h22 (((CT 2 Aa) : Dc _ _ _ _ _ _) w W).nx (((CT 0 Aa) : Dc _ _ _ _ _ _) w W).nx)) fun a w F W => ?_
     refine ls F W Aa (Aw F Aa Aa Aa).q fun a w F W => ?_
     refine ls F W Aa (Ah F Aa).q fun a w F W => ?_
     rcases Bool.eq_false_or_eq_true x17 with hb | hb
     ·
      have H := AU hb H
      rw [hb] at F
      clear hb
      refine Gg (Aj F Aa Aa Aa Aa) ?_
      obtain ⟨x18, h23, H⟩ := Aq H
      refine ls F W Aa (A4 (v := Value.bool x18) F H9 Aa (fun w W => E3 any w _ h23)) fun a w F W => ?_
      refine ls F W Aa (Aw F Aa Aa Aa).q fun a w F W => ?_
      refine ls F W Aa (Af F Aa).q fun a w F W => ?_
      refine Ag (Ad ?_)
      have W := W.sub (M' := []) (Z' := []) (List.Sublist.refl _) (List.nil_sublist _)
      exact ⟨_, H, F.re ⟨rfl, trivial⟩, W⟩
     have H := AV (by rw [hb]; decide) H
     rw [hb] at F
     clear hb
     refine Ci F Aa Aa Aa Aa Aa Aa Aa fun a F => ?_
     refine ls F W Aa (Ao F Aa Aa Aa).q fun a w F W => ?_
     refine ls F W Aa (Af F Aa).q fun a w F W => ?_
     refine Ag (Ad ?_)
     have W := W.sub (M' := []) (Z' := []) (List.Sublist.refl _) (List.nil_sublist _)
     exact ⟨_, H, F.re ⟨rfl, trivial⟩, W⟩
    have H := AV (Be hb) H
    rw [hb] at F
    clear hb
    iterate 3 refine Ci F Aa Aa Aa Aa Aa Aa Aa fun a F => ?_
    refine ls F W Aa (Ao F Aa Aa Aa).q fun a w F W => ?_
    refine ls F W Aa (Ah F Aa).q fun a w F W => ?_
    refine Ci F Aa Aa Aa Aa Aa Aa Aa fun a F => ?_
    refine ls F W Aa (Ao F Aa Aa Aa).q fun a w F W => ?_
    refine ls F W Aa (Af F Aa).q fun a w F W => ?_
    refine Ag (Ad ?_)
    have W := W.sub (M' := []) (Z' := []) (List.Sublist.refl _) (List.nil_sublist _)
    exact ⟨_, H, F.re ⟨rfl, trivial⟩, W⟩
   have H := AV (Be hb) H
   rw [hb] at F
   clear hb
   iterate 2 refine Ci F Aa Aa Aa Aa Aa Aa Aa fun a F => ?_
   refine ls F W Aa (Ao F Aa Aa Aa).q fun a w F W => ?_
   refine ls F W Aa (Ah F Aa).q fun a w F W => ?_
   iterate 3 refine Ci F Aa Aa Aa Aa Aa Aa Aa fun a F => ?_
   refine ls F W Aa (Ao F Aa Aa Aa).q fun a w F W => ?_
   refine ls F W Aa (Ah F Aa).q fun a w F W => ?_
   refine Ci F Aa Aa Aa Aa Aa Aa Aa fun a F => ?_
   refine ls F W Aa (Ao F Aa Aa Aa).q fun a w F W => ?_
   refine ls F W Aa (Af F Aa).q fun a w F W => ?_
   refine Ag (Ad ?_)
   have W := W.sub (M' := []) (Z' := []) (List.Sublist.refl _) (List.nil_sublist _)
   exact ⟨_, H, F.re ⟨rfl, trivial⟩, W⟩
  have H := AV (Be hb) H
  rw [hb] at F
  clear hb
  iterate 2 refine Ci F Aa Aa Aa Aa Aa Aa Aa fun a F => ?_
  refine ls F W Aa (Ao F Aa Aa Aa).q fun a w F W => ?_
  refine ls F W Aa (Ah F Aa).q fun a w F W => ?_
  iterate 2 refine Ci F Aa Aa Aa Aa Aa Aa Aa fun a F => ?_
  refine ls F W Aa (Ao F Aa Aa Aa).q fun a w F W => ?_
  refine ls F W Aa (Ah F Aa).q fun a w F W => ?_
  iterate 3 refine Ci F Aa Aa Aa Aa Aa Aa Aa fun a F => ?_
  refine ls F W Aa (Ao F Aa Aa Aa).q fun a w F W => ?_
  refine ls F W Aa (Ah F Aa).q fun a w F W => ?_
  refine Ci F Aa Aa Aa Aa Aa Aa Aa fun a F => ?_
  refine ls F W Aa (Ao F Aa Aa Aa).q fun a w F W => ?_
  refine ls F W Aa (Af F Aa).q fun a w F W => ?_
  refine Ag (Ad ?_)
  have W := W.sub (M' := []) (Z' := []) (List.Sublist.refl _) (List.nil_sublist _)
  exact ⟨_, H, F.re ⟨rfl, trivial⟩, W⟩
 rintro a w ⟨x16, hj, F, W⟩
 have hj := AZ hj
 subst hj
 have H := K5
 clear G5 K5
 refine Ay ?_
 have H := AZ H
 subst H
 refine AO (.inl Aa) F W Aa (Au F Aa) ?_
 exact ⟨rfl, W.done⟩
end Go.Proofs.Ytkjjioigbpkifaa
