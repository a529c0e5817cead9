/- The functions of layer 11, Ez. Conditions: none. -/
import Derived.Test.YtkjjioigbpkifaacA8
namespace Go.Proofs.Ytkjjioigbpkifaa
open Go Go.RowKit
set_option linter.unusedVariables false
set_option linter.unusedSimpArgs false
set_option maxRecDepth 20000
set_option synthInstance.maxSize 1000
theorem PZ : Has Try.prog 71 := ⟨fun args w => An Try.func71 rfl (by decide) args w⟩
noncomputable def GF (p0 : Int × (Int × (Int × Int × Int × Int) × (Int × Int × Int × Int)) × (List (Int × Int × Int))) (p1 : Int × (Int × (Int × Int × Int × Int) × (Int × Int × Int × Int)) × (List (Int × Int × Int))) : Option Bool := (if p0.1 = p1.1 then (if p0.2.1.1 = p1.2.1.1 ∧ p0.2.1.2.1.1 = p1.2.1.2.1.1 ∧ p0.2.1.2.1.2.1 = p1.2.1.2.1.2.1 ∧ p0.2.1.2.1.2.2.1 = p1.2.1.2.1.2.2.1 ∧ p0.2.1.2.1.2.2.2 = p1.2.1.2.1.2.2.2 ∧ p0.2.1.2.2.1 = p1.2.1.2.2.1 ∧ p0.2.1.2.2.2.1 = p1.2.1.2.2.2.1 ∧ p0.2.1.2.2.2.2.1 = p1.2.1.2.2.2.2.1 ∧ p0.2.1.2.2.2.2.2 = p1.2.1.2.2.2.2.2 then (Gu p0.2.2 p1.2.2).bind fun x2 => some x2 else some false) else some false).bind fun x1 => some x1
theorem KV (Y : Nat → Prop) (w0 : World) (v1 : Value) (v2 : Value) (p0 : Int × (Int × (Int × Int × Int × Int) × (Int × Int × Int × Int)) × (List (Int × Int × Int))) (p1 : Int × (Int × (Int × Int × Int × Int) × (Int × Int × Int × Int)) × (List (Int × Int × Int))) (r : Bool) (H : GF p0 p1 = some r) (h_v1 : Sl w0 (NX []) BD v1 p0.2.2) (h_v2 : Sl w0 (NX []) BD v2 p1.2.2) :
    Calls Try.prog 49 #[.agg #[.int .i64 p0.1, .int .i64 p0.2.1.1, .int .i64 p0.2.1.2.1.1, .int .i64 p0.2.1.2.1.2.1, .int .i64 p0.2.1.2.1.2.2.1, .int .i64 p0.2.1.2.1.2.2.2, .int .i64 p0.2.1.2.2.1, .int .i64 p0.2.1.2.2.2.1, .int .i64 p0.2.1.2.2.2.2.1, .int .i64 p0.2.1.2.2.2.2.2, v1], .agg #[.int .i64 p1.1, .int .i64 p1.2.1.1, .int .i64 p1.2.1.2.1.1, .int .i64 p1.2.1.2.1.2.1, .int .i64 p1.2.1.2.1.2.2.1, .int .i64 p1.2.1.2.1.2.2.2, .int .i64 p1.2.1.2.2.1, .int .i64 p1.2.1.2.2.2.1, .int .i64 p1.2.1.2.2.2.2.1, .int .i64 p1.2.1.2.2.2.2.2, v2]] w0 fun e w' => e = .returned (.bool r) ∧ Below w0.heap.size w0 w' := by
 refine enter Try.func49 Aa Try.ntmps49 Aa fun a F => ?_
 have W := Stw.start Y w0
 unfold GF at H
 refine Al (Ae ?_)
 refine BS (cs := [.int .i64 p0.1, .int .i64 p0.2.1.1, .int .i64 p0.2.1.2.1.1, .int .i64 p0.2.1.2.1.2.1, .int .i64 p0.2.1.2.1.2.2.1, .int .i64 p0.2.1.2.1.2.2.2, .int .i64 p0.2.1.2.2.1, .int .i64 p0.2.1.2.2.2.1, .int .i64 p0.2.1.2.2.2.2.1, .int .i64 p0.2.1.2.2.2.2.2, v1]) F W Aa Aa Aa fun b1 a w F W => ?_
 refine BS (cs := [.int .i64 p1.1, .int .i64 p1.2.1.1, .int .i64 p1.2.1.2.1.1, .int .i64 p1.2.1.2.1.2.1, .int .i64 p1.2.1.2.1.2.2.1, .int .i64 p1.2.1.2.1.2.2.2, .int .i64 p1.2.1.2.2.1, .int .i64 p1.2.1.2.2.2.1, .int .i64 p1.2.1.2.2.2.2.1, .int .i64 p1.2.1.2.2.2.2.2, v2]) F W Aa Aa Aa fun b2 a w F W => ?_
 refine ls F W Aa (Ag F Aa).q fun a w F W => ?_
 refine Af (Ad ?_)
 obtain ⟨o1, G1, K1⟩ := Ap H
 refine AF (fun a w => ∃ x1 : Bool, some (x1) = some o1 ∧ Fr 24 [] [(4, .bool x1)] a ∧ Stw ⟨Y, [], w0⟩ [(b2, [.int .i64 p1.1, .int .i64 p1.2.1.1, .int .i64 p1.2.1.2.1.1, .int .i64 p1.2.1.2.1.2.1, .int .i64 p1.2.1.2.1.2.2.1, .int .i64 p1.2.1.2.1.2.2.2, .int .i64 p1.2.1.2.2.1, .int .i64 p1.2.1.2.2.2.1, .int .i64 p1.2.1.2.2.2.2.1, .int .i64 p1.2.1.2.2.2.2.2, v2]), (b1, [.int .i64 p0.1, .int .i64 p0.2.1.1, .int .i64 p0.2.1.2.1.1, .int .i64 p0.2.1.2.1.2.1, .int .i64 p0.2.1.2.1.2.2.1, .int .i64 p0.2.1.2.1.2.2.2, .int .i64 p0.2.1.2.2.1, .int .i64 p0.2.1.2.2.2.1, .int .i64 p0.2.1.2.2.2.2.1, .int .i64 p0.2.1.2.2.2.2.2, v1])] [] w) ?_ ?_
 ·
  have H := G1
  clear G1 K1
  refine Ae ?_
  refine ls F W Aa (Aj Ci Aa Aa Aa T3 F Aa 0 Aa).q fun a w F W => ?_
  refine ls F W Aa (Aq (v := Value.int .i64 p0.1) 1 F Aa Aa T3 Aa).q fun a w F W => ?_
  refine ls F W Aa (Aj Ci Aa Aa Aa T3 F Aa 0 Aa).q fun a w F W => ?_
  refine ls F W Aa (Aq (v := Value.int .i64 p1.1) 0 F Aa Aa T3 Aa).q fun a w F W => ?_
  refine ls F W Aa (BB F Aa Aa).q fun a w F W => ?_
  refine ls F W Aa (Ah F Aa).q fun a w F W => ?_
  rcases Bool.eq_false_or_eq_true (decide (p0.1 = p1.1)) with hb | hb
  ·
   have H := AH (Bj hb) H
   rw [hb] at F
   clear hb
   refine AE F W (Ai F Aa Aa Aa Aa) Aa (Ao Aa) (Aj Ci Aa Aa Aa Dk F Aa 1 Aa).q fun a w F W => ?_
   refine AE F W (Ai F Aa Aa Aa Aa) Aa (Ao Aa) (Aq (v := Value.agg #[.int .i64 p0.2.1.1, .int .i64 p0.2.1.2.1.1, .int .i64 p0.2.1.2.1.2.1, .int .i64 p0.2.1.2.1.2.2.1, .int .i64 p0.2.1.2.1.2.2.2, .int .i64 p0.2.1.2.2.1, .int .i64 p0.2.1.2.2.2.1, .int .i64 p0.2.1.2.2.2.2.1, .int .i64 p0.2.1.2.2.2.2.2]) 1 F Aa Aa Dk Aa).q fun a w F W => ?_
   refine AE F W (Ai F Aa Aa Aa Aa) Aa (Ao Aa) (Aj Ci Aa Aa Aa Dk F Aa 1 Aa).q fun a w F W => ?_
   refine AE F W (Ai F Aa Aa Aa Aa) Aa (Ao Aa) (Aq (v := Value.agg #[.int .i64 p1.2.1.1, .int .i64 p1.2.1.2.1.1, .int .i64 p1.2.1.2.1.2.1, .int .i64 p1.2.1.2.1.2.2.1, .int .i64 p1.2.1.2.1.2.2.2, .int .i64 p1.2.1.2.2.1, .int .i64 p1.2.1.2.2.2.1, .int .i64 p1.2.1.2.2.2.2.1, .int .i64 p1.2.1.2.2.2.2.2]) 0 F Aa Aa Dk Aa).q fun a w F W => ?_
   refine AE F W (Ai F Aa Aa Aa Aa) Aa (Ao Aa) (KE (t := decide (p0.2.1.1 = p1.2.1.1 ∧ p0.2.1.2.1.1 = p1.2.1.2.1.1 ∧ p0.2.1.2.1.2.1 = p1.2.1.2.1.2.1 ∧ p0.2.1.2.1.2.2.1 = p1.2.1.2.1.2.2.1 ∧ p0.2.1.2.1.2.2.2 = p1.2.1.2.1.2.2.2 ∧ p0.2.1.2.2.1 = p1.2.1.2.2.1 ∧ p0.2.1.2.2.2.1 = p1.2.1.2.2.2.1 ∧ p0.2.1.2.2.2.2.1 = p1.2.1.2.2.2.2.1 ∧ p0.2.1.2.2.2.2.2 = p1.2.1.2.2.2.2.2)) On (Ok _ _ _ _ _ _ _ _ _ _ _ _ _ _ _ _ _ _) F Aa Aa).q fun a w F W => ?_
   refine ls F W Aa (Az F Aa Aa Aa).q fun a w F W => ?_
   refine ls F W Aa (Ah F Aa).q fun a w F W => ?_
   rcases Bool.eq_false_or_eq_true (decide (p0.2.1.1 = p1.2.1.1 ∧ p0.2.1.2.1.1 = p1.2.1.2.1.1 ∧ p0.2.1.2.1.2.1 = p1.2.1.2.1.2.1 ∧ p0.2.1.2.1.2.2.1 = p1.2.1.2.1.2.2.1 ∧ p0.2.1.2.1.2.2.2 = p1.2.1.2.1.2.2.2 ∧ p0.2.1.2.2.1 = p1.2.1.2.2.1 ∧ p0.2.1.2.2.2.1 = p1.2.1.2.2.2.1 ∧ p0.2.1.2.2.2.2.1 = p1.2.1.2.2.2.2.1 ∧ p0.2.1.2.2.2.2.2 = p1.2.1.2.2.2.2.2)) with hb | hb
   ·
    have H := AH (Bj hb) H
    rw [hb] at F
    clear hb
    refine AE F W (Ai F Aa Aa Aa Aa) Aa (Ao Aa) (Aj Ci Aa Aa Aa HK F Aa 10 Aa).q fun a w F W => ?_
    refine AE F W (Ai F Aa Aa Aa Aa) Aa (Ao Aa) (Aq (v := v1) 1 F Aa Aa HK Aa).q fun a w F W => ?_
    refine AE F W (Ai F Aa Aa Aa Aa) Aa (Ao Aa) (Aj Ci Aa Aa Aa HK F Aa 10 Aa).q fun a w F W => ?_
    refine AE F W (Ai F Aa Aa Aa Aa) Aa (Ao Aa) (Aq (v := v2) 0 F Aa Aa HK Aa).q fun a w F W => ?_
    refine Gr (Ai F Aa Aa Aa Aa) ?_
    obtain ⟨x2, h1, H⟩ := Ap H
    refine ls F W Aa (AR (v := Value.bool x2) F PZ Aa (fun w W => KP any w (v1) (v2) p0.2.2 p1.2.2 _ h1 (((Aw h_v1) : C2 _ _ _ _ _ _) w W).nx (((Aw h_v2) : C2 _ _ _ _ _ _) w W).nx)) fun a w F W => ?_
    refine ls F W Aa (Az F Aa Aa Aa).q fun a w F W => ?_
    refine ls F W Aa (Ag F Aa).q fun a w F W => ?_
    refine Af (Ad ?_)
    have W := W.frontM (i := 1) Aa Aa
    have W := W.frontM (i := 1) Aa Aa
    exact ⟨_, H, F.re ⟨rfl, trivial⟩, W⟩
   have H := AG (Bi hb) H
   rw [hb] at F
   clear hb
   iterate 5 refine CD F Aa Aa Aa Aa Aa Aa Aa fun a F => ?_
   refine ls F W Aa (Au F Aa Aa Aa).q fun a w F W => ?_
   refine ls F W Aa (Ag F Aa).q fun a w F W => ?_
   refine Af (Ad ?_)
   have W := W.frontM (i := 1) Aa Aa
   have W := W.frontM (i := 1) Aa Aa
   exact ⟨_, H, F.re ⟨rfl, trivial⟩, W⟩
  have H := AG (Bi hb) H
  rw [hb] at F
  clear hb
  iterate 5 refine CD F Aa Aa Aa Aa Aa Aa Aa fun a F => ?_
  refine ls F W Aa (Au F Aa Aa Aa).q fun a w F W => ?_
  refine ls F W Aa (Ah F Aa).q fun a w F W => ?_
  iterate 5 refine CD F Aa Aa Aa Aa Aa Aa Aa fun a F => ?_
  refine ls F W Aa (Au F Aa Aa Aa).q fun a w F W => ?_
  refine ls F W Aa (Ag F Aa).q fun a w F W => ?_
  refine Af (Ad ?_)
  have W := W.frontM (i := 1) Aa Aa
  have W := W.frontM (i := 1) Aa Aa
  exact ⟨_, H, F.re ⟨rfl, trivial⟩, W⟩
 rintro a w ⟨x1, hj, F, W⟩
 have hj := AJ hj
 subst hj
 have H := K1
 clear G1 K1
 refine Ay ?_
 have H := AJ H
 subst H
 refine AL (.inl Aa) F W Aa (Av F Aa) ?_
 exact ⟨rfl, W.done⟩
theorem QB : Has Try.prog 49 := ⟨fun args w => An Try.func49 rfl (by decide) args w⟩
noncomputable def Ei (p0 : List (Int × (Int × (Int × Int × Int × Int) × (Int × Int × Int × Int)) × (List (Int × Int × Int)))) (p1 : List (Int × (Int × (Int × Int × Int × Int) × (Int × Int × Int × Int)) × (List (Int × Int × Int)))) : Int → Option (Int ⊕ (Unit ⊕ Bool))
  | x1 => (if x1 < (p0.length : Int) then (ix p0 x1).bind fun x2 => (ix p1 x1).bind fun x3 => (GF x2 x3).bind fun x4 => (if (!x4) = true then some (.inr (.inr false)) else some (.inl (BT (x1 + 1)))) else some (.inr (.inl ())))
noncomputable def Fd (p0 : List (Int × (Int × (Int × Int × Int × Int) × (Int × Int × Int × Int)) × (List (Int × Int × Int)))) (p1 : List (Int × (Int × (Int × Int × Int × Int) × (Int × Int × Int × Int)) × (List (Int × Int × Int)))) : Option Bool := (if (p0.length : Int) ≠ (p1.length : Int) then some false else FB (A9 (Ei p0 p1) 0) fun _ => some true)
theorem H4 (Y : Nat → Prop) (w0 : World) (v1 : Value) (v2 : Value) (p0 : List (Int × (Int × (Int × Int × Int × Int) × (Int × Int × Int × Int)) × (List (Int × Int × Int)))) (p1 : List (Int × (Int × (Int × Int × Int × Int) × (Int × Int × Int × Int)) × (List (Int × Int × Int)))) (r : Bool) (H : Fd p0 p1 = some r) (h_v1 : Sl w0 (NX []) AV v1 p0) (h_v2 : Sl w0 (NX []) AV v2 p1) :
    Calls Try.prog 21 #[v1, v2] w0 fun e w' => e = .returned (.bool r) ∧ Below w0.heap.size w0 w' := by
 refine enter Try.func21 Aa Try.ntmps21 Aa fun a F => ?_
 have W := Stw.start Y w0
 obtain ⟨v3, h1, h_v1⟩ := h_v1.ex Ba
 obtain ⟨v4, h2, h_v2⟩ := h_v2.ex Ba
 unfold Fd at H
 refine Al (Ae ?_)
 refine ls F W Aa (Ag F Aa).q fun a w F W => ?_
 refine Af (Ad (Al (Al (Ae ?_))))
 refine ls F W Aa (Ah F Aa).q fun a w F W => ?_
 refine ls F W Aa (B7 (r := AV) (l := p0) DW Aa F Aa (Bc Ba h1 (Aw h_v1))).q fun a w F W => ?_
 refine ls F W Aa (Ah F Aa).q fun a w F W => ?_
 refine ls F W Aa (B7 (r := AV) (l := p1) DW Aa F Aa (Bc Ba h2 (Aw h_v2))).q fun a w F W => ?_
 refine ls F W Aa (D3 F Aa Aa).q fun a w F W => ?_
 refine Af (Ad ?_)
 refine AA F Aa (fun hb => ?_) fun hb => ?_
 ·
  have H := AH (Bj hb) H
  rw [hb] at F
  clear hb
  refine Al (Ae ?_)
  refine ls F W Aa (Ag F Aa).q fun a w F W => ?_
  refine Af (Ad (Ay (AD ?_)))
  have H := AJ H
  subst H
  refine AL (.inl Aa) F W Aa (Av F Aa) ?_
  exact ⟨rfl, W.done⟩
 have H := AG (Bi hb) H
 rw [hb] at F
 clear hb
 refine Ax (Ad ?_)
 obtain ⟨o1, G1, K1, L1⟩ := Ih H
 refine AF (fun a w => some (Sum.inl ()) = some o1 ∧ Fr 27 [] [(4, .bool false)] a ∧ Stw ⟨Y, [], w0⟩ [] [] w) ?_ ?_
 ·
  have H := G1
  clear G1 K1
  refine Al (Ae ?_)
  refine ls F W Aa (Ag F Aa).q fun a w F W => ?_
  refine Af (Ad (AC ?_))
  refine Bz H (fun s a w => Fr 27 [] [(0, v1), (1, v2), (4, .bool false), (5, .int .i64 s)] a ∧ Stw ⟨Y, [], w0⟩ [] [] w) ⟨F.re ⟨rfl, Aa, Aa, Aa, trivial⟩, W⟩ fun s o a w H L2 hR => ?_
  obtain ⟨x1, rfl⟩ : ∃ x, x = s := ⟨s, rfl⟩
  obtain ⟨F, W⟩ := hR
  have F : Fr 27 [] [(0, v1), (1, v2), (4, .bool false), (5, .int .i64 x1)] a := F
  have W : Stw ⟨Y, [], w0⟩ [] [] w := W
  rw [Ei] at H
  refine Al (Al (Ae ?_))
  iterate 2 refine ls F W Aa (Ah F Aa).q fun a w F W => ?_
  refine ls F W Aa (B7 (r := AV) (l := p0) DW Aa F Aa (Bc Ba h1 (Aw h_v1))).q fun a w F W => ?_
  refine ls F W Aa (BI F Aa Aa).q fun a w F W => ?_
  refine Af (Ad ?_)
  refine AA F Aa (fun hb => ?_) fun hb => ?_
  ·
   have H := AH (Bj hb) H
   rw [hb] at F
   clear hb
   refine Ax (Ad (Al (AC (Al ?_))))
   refine Co W MO (by kernel_rfl) ?_
   iterate 2 refine qs F Aa (Ah F Aa).q fun a F => ?_
   obtain ⟨x2, h3, H⟩ := Ap H
   obtain ⟨v5, h4, h5⟩ := Ck h1 h3
   have h6 : B5 v5 = [.int .i64 x2.1, .int .i64 x2.2.1.1, .int .i64 x2.2.1.2.1.1, .int .i64 x2.2.1.2.1.2.1, .int .i64 x2.2.1.2.1.2.2.1, .int .i64 x2.2.1.2.1.2.2.2, .int .i64 x2.2.1.2.2.1, .int .i64 x2.2.1.2.2.2.1, .int .i64 x2.2.1.2.2.2.2.1, .int .i64 x2.2.1.2.2.2.2.2, (v5.2.2.1)] := congrArg (fun q : Int × (Int × (Int × Int × Int × Int) × (Int × Int × Int × Int)) × (List (Int × Int × Int)) => ([.int .i64 q.1, .int .i64 q.2.1.1, .int .i64 q.2.1.2.1.1, .int .i64 q.2.1.2.1.2.1, .int .i64 q.2.1.2.1.2.2.1, .int .i64 q.2.1.2.1.2.2.2, .int .i64 q.2.1.2.2.1, .int .i64 q.2.1.2.2.2.1, .int .i64 q.2.1.2.2.2.2.1, .int .i64 q.2.1.2.2.2.2.2, (v5.2.2.1)] : List Value)) h5
   refine qs F Aa (Bg (r := Cz) D7 F Aa Aa (Aw h_v1) h4).q fun a F => ?_
   refine qs F Aa (A0 (y := Value.agg #[.int .i64 x2.1, .int .i64 x2.2.1.1, .int .i64 x2.2.1.2.1.1, .int .i64 x2.2.1.2.1.2.1, .int .i64 x2.2.1.2.1.2.2.1, .int .i64 x2.2.1.2.1.2.2.2, .int .i64 x2.2.1.2.2.1, .int .i64 x2.2.1.2.2.2.1, .int .i64 x2.2.1.2.2.2.2.1, .int .i64 x2.2.1.2.2.2.2.2, (v5.2.2.1)]) (j := 0) (i := x1) (enc := B5) F Aa Aa (Aw h_v1) h4 DS CH (by rw [h6]; rfl)).q fun a F => ?_
   iterate 2 refine qs F Aa (Ah F Aa).q fun a F => ?_
   obtain ⟨x3, h7, H⟩ := Ap H
   obtain ⟨v6, h8, h9⟩ := Ck h2 h7
   have h10 : B5 v6 = [.int .i64 x3.1, .int .i64 x3.2.1.1, .int .i64 x3.2.1.2.1.1, .int .i64 x3.2.1.2.1.2.1, .int .i64 x3.2.1.2.1.2.2.1, .int .i64 x3.2.1.2.1.2.2.2, .int .i64 x3.2.1.2.2.1, .int .i64 x3.2.1.2.2.2.1, .int .i64 x3.2.1.2.2.2.2.1, .int .i64 x3.2.1.2.2.2.2.2, (v6.2.2.1)] := congrArg (fun q : Int × (Int × (Int × Int × Int × Int) × (Int × Int × Int × Int)) × (List (Int × Int × Int)) => ([.int .i64 q.1, .int .i64 q.2.1.1, .int .i64 q.2.1.2.1.1, .int .i64 q.2.1.2.1.2.1, .int .i64 q.2.1.2.1.2.2.1, .int .i64 q.2.1.2.1.2.2.2, .int .i64 q.2.1.2.2.1, .int .i64 q.2.1.2.2.2.1, .int .i64 q.2.1.2.2.2.2.1, .int .i64 q.2.1.2.2.2.2.2, (v6.2.2.1)] : List Value)) h9
   refine qs F Aa (Bg (r := Cz) D7 F Aa Aa (Aw h_v2) h8).q fun a F => ?_
   refine qs F Aa (A0 (y := Value.agg #[.int .i64 x3.1, .int .i64 x3.2.1.1, .int .i64 x3.2.1.2.1.1, .int .i64 x3.2.1.2.1.2.1, .int .i64 x3.2.1.2.1.2.2.1, .int .i64 x3.2.1.2.1.2.2.2, .int .i64 x3.2.1.2.2.1, .int .i64 x3.2.1.2.2.2.1, .int .i64 x3.2.1.2.2.2.2.1, .int .i64 x3.2.1.2.2.2.2.2, (v6.2.2.1)]) (j := 0) (i := x1) (enc := B5) F Aa Aa (Aw h_v2) h8 DS CH (by rw [h10]; rfl)).q fun a F => ?_
   obtain ⟨x4, h11, H⟩ := Ap H
   refine qs F Aa (AR (v := Value.bool x4) F QB Aa (fun w W => KV any w ((v5.2.2.1)) ((v6.2.2.1)) x2 x3 _ h11 (((CT (Aw h_v1) h4 (Bb.snd (Bb.snd Bb.here)) (congrArg (fun q : Int × (Int × (Int × Int × Int × Int) × (Int × Int × Int × Int)) × (List (Int × Int × Int)) => q.2.2) h5)) : C2 _ _ _ _ _ _) w W).nx (((CT (Aw h_v2) h8 (Bb.snd (Bb.snd Bb.here)) (congrArg (fun q : Int × (Int × (Int × Int × Int × Int) × (Int × Int × Int × Int)) × (List (Int × Int × Int)) => q.2.2) h9)) : C2 _ _ _ _ _ _) w W).nx)) fun a F => ?_
   refine qs F Aa (Ec F Aa).q fun a F => ?_
   refine A4 fun w W => ?_
   refine Ad ?_
   refine AA F Aa (fun hb => ?_) fun hb => ?_
   ·
    have H := AH hb H
    rw [hb] at F
    clear hb
    refine Al (Ae ?_)
    refine ls F W Aa (Ag F Aa).q fun a w F W => ?_
    refine Af (Ad (Ay (AK ?_)))
    iterate 2 refine AD ?_
    refine AK (AD ?_)
    have H := L2 _ H
    have H := L1 _ H
    have H := AJ H
    subst H
    refine AL (.inl Aa) F W Aa (Av F Aa) ?_
    exact ⟨rfl, W.done⟩
   have H := AG (by rw [hb]; decide) H
   rw [hb] at F
   clear hb
   refine Ax (A1 (Ad (Ae ?_)))
   refine ls F W Aa (Ah F Aa).q fun a w F W => ?_
   refine ls F W Aa (B6 F Aa Aa Aa).q fun a w F W => ?_
   refine ls F W Aa (Ag F Aa).q fun a w F W => ?_
   refine Af (Ad ?_)
   exact ⟨_, H, F.re ⟨rfl, Aa, Aa, Aa, trivial⟩, W⟩
  have H := AG (Bi hb) H
  rw [hb] at F
  clear hb
  refine Bu ?_
  iterate 2 refine BX ?_
  refine Br (Ad ?_)
  have H := L2 _ H
  exact ⟨H, F.re ⟨rfl, trivial⟩, W⟩
 rintro a w ⟨hj, F, W⟩
 have H := K1 _ hj
 clear hj G1 K1 L1
 refine Al (Ae ?_)
 refine ls F W Aa (Ag F Aa).q fun a w F W => ?_
 refine Af (Ad (Ay ?_))
 have H := AJ H
 subst H
 refine AL (.inl Aa) F W Aa (Av F Aa) ?_
 exact ⟨rfl, W.done⟩
theorem PF : Has Try.prog 21 := ⟨fun args w => An Try.func21 rfl (by decide) args w⟩
noncomputable def EU (p0 : List (Int × (Int × (Int × Int × Int × Int) × (Int × Int × Int × Int)) × (List (Int × Int × Int)))) (p1 : List (Int × (Int × (Int × (Int × Int × Int × Int) × (Int × Int × Int × Int)) × (List (Int × Int × Int))) × Bool)) (p2 : Int) (p3 : Int) : ((List (Int × (Int × (Int × Int × Int × Int) × (Int × Int × Int × Int)) × (List (Int × Int × Int)))) × Int) → Option (((List (Int × (Int × (Int × Int × Int × Int) × (Int × Int × Int × Int)) × (List (Int × Int × Int)))) × Int) ⊕ ((List (Int × (Int × (Int × Int × Int × Int) × (Int × Int × Int × Int)) × (List (Int × Int × Int)))) ⊕ ((List (Int × (Int × (Int × Int × Int × Int) × (Int × Int × Int × Int)) × (List (Int × Int × Int)))) × Int × Int)))
  | (x2, x3) => (if x3 < (p1.length : Int) then (ix p1 x3).bind fun x4 => (Ff x2 x4 p2 p3).bind fun x5 => (if x5.2 ≠ 0 then some (.inr (.inr (p0, x3, x5.2))) else some (.inl (x5.1, BT (x3 + 1)))) else some (.inr (.inl x2)))
noncomputable def GB (p0 : List (Int × (Int × (Int × Int × Int × Int) × (Int × Int × Int × Int)) × (List (Int × Int × Int)))) (p1 : List (Int × (Int × (Int × (Int × Int × Int × Int) × (Int × Int × Int × Int)) × (List (Int × Int × Int))) × Bool)) (p2 : Int) (p3 : Int) : Option ((List (Int × (Int × (Int × Int × Int × Int) × (Int × Int × Int × Int)) × (List (Int × Int × Int)))) × Int × Int) := FB (A9 (EU p0 p1 p2 p3) (p0, 0)) fun x1 => some (x1, (-1), 0)
theorem KK (Y : Nat → Prop) (w0 : World) (v1 : Value) (v2 : Value) (p0 : List (Int × (Int × (Int × Int × Int × Int) × (Int × Int × Int × Int)) × (List (Int × Int × Int)))) (p1 : List (Int × (Int × (Int × (Int × Int × Int × Int) × (Int × Int × Int × Int)) × (List (Int × Int × Int))) × Bool)) (p2 : Int) (p3 : Int) (r : (List (Int × (Int × (Int × Int × Int × Int) × (Int × Int × Int × Int)) × (List (Int × Int × Int)))) × Int × Int) (H : GB p0 p1 p2 p3 = some r) (s_v1 : Sl w0 Y AV v1 p0) (s_v2 : Sl w0 Y KJ v2 p1) :
    Calls Try.prog 23 #[v1, v2, .int .i64 p2, .int .i64 p3] w0 fun e w' => ∃ x : Value, e = .returned (.tuple #[x, .int .i64 r.2.1, .int .i64 r.2.2]) ∧ Stw ⟨Y, [], w0⟩ [] [BG (x) AV r.1] w' := by
 refine enter Try.func23 Aa Try.ntmps23 Aa fun a F => ?_
 have W := Stw.start Y w0
 obtain ⟨v3, h1, s_v1⟩ := s_v1.ex Ba
 obtain ⟨v4, h2, s_v2⟩ := s_v2.ex Jp
 have h_v1 := W.nx s_v1
 have h_v2 := W.nx s_v2
 unfold GB at H
 refine Al (Ae ?_)
 iterate 3 refine ls F W Aa (Ag F Aa).q fun a w F W => ?_
 refine Af (Ad (Al (Ae ?_)))
 refine ls F W Aa (Ah F Aa).q fun a w F W => ?_
 refine ls F W Aa (Ag F Aa).q fun a w F W => ?_
 refine Af (Ad ?_)
 obtain ⟨o1, G1, K1, L1⟩ := Ih H
 refine AF (fun a w => ∃ x1 : List (Int × (Int × (Int × Int × Int × Int) × (Int × Int × Int × Int)) × (List (Int × Int × Int))), ∃ v5 : Value, some (Sum.inl x1) = some o1 ∧ Fr 40 [] [(8, .slice none 0 0), (9, .int .i64 0), (10, .int .i64 0), (11, v5)] a ∧ Stw ⟨Y, [], w0⟩ [] [BG v5 AV x1] w) ?_ ?_
 ·
  have H := G1
  clear G1 K1
  refine Al (Ae ?_)
  refine ls F W Aa (Ag F Aa).q fun a w F W => ?_
  refine Af (Ad (AC ?_))
  have W := W.note (Sl.hide Ba h1 (W.old s_v1))
  refine Bz H (fun s a w => ∃ v6 : Value, Fr 40 [] [(0, v1), (1, v2), (2, .int .i64 p2), (3, .int .i64 p3), (8, .slice none 0 0), (9, .int .i64 0), (10, .int .i64 0), (11, v6), (12, .int .i64 s.2)] a ∧ Stw ⟨Y, [], w0⟩ [] [BG v6 AV s.1] w) ⟨(v1), F.re ⟨rfl, Aa, Aa, Aa, Aa, Aa, Aa, Aa, Aa, trivial⟩, W⟩ fun s o a w H L2 hR => ?_
  obtain ⟨x2, x3⟩ := s
  obtain ⟨v6, F, W⟩ := hR
  have F : Fr 40 [] [(0, v1), (1, v2), (2, .int .i64 p2), (3, .int .i64 p3), (8, .slice none 0 0), (9, .int .i64 0), (10, .int .i64 0), (11, v6), (12, .int .i64 x3)] a := F
  have W : Stw ⟨Y, [], w0⟩ [] [BG v6 AV x2] w := W
  rw [EU] at H
  refine Al (Al (Ae ?_))
  iterate 2 refine ls F W Aa (Ah F Aa).q fun a w F W => ?_
  refine ls F W Aa (B7 (r := KJ) (l := p1) MF Aa F Aa (Bc Jp h2 (Aw h_v2))).q fun a w F W => ?_
  refine ls F W Aa (BI F Aa Aa).q fun a w F W => ?_
  refine Af (Ad ?_)
  refine AA F Aa (fun hb => ?_) fun hb => ?_
  ·
   have H := AH (Bj hb) H
   rw [hb] at F
   clear hb
   refine Ax (Ad (Al (AC (Al ?_))))
   obtain ⟨v7, h3, W⟩ := W.exF Ba
   refine Ae ?_
   iterate 3 refine ls F W Aa (Ah F Aa).q fun a w F W => ?_
   obtain ⟨x4, h4, H⟩ := Ap H
   obtain ⟨v8, h5, h6⟩ := Ck h2 h4
   have h7 : I5 v8 = [.int .i64 x4.1, .int .i64 x4.2.1.1, .int .i64 x4.2.1.2.1.1, .int .i64 x4.2.1.2.1.2.1.1, .int .i64 x4.2.1.2.1.2.1.2.1, .int .i64 x4.2.1.2.1.2.1.2.2.1, .int .i64 x4.2.1.2.1.2.1.2.2.2, .int .i64 x4.2.1.2.1.2.2.1, .int .i64 x4.2.1.2.1.2.2.2.1, .int .i64 x4.2.1.2.1.2.2.2.2.1, .int .i64 x4.2.1.2.1.2.2.2.2.2, (v8.2.1.2.2.1), .bool x4.2.2] := congrArg (fun q : Int × (Int × (Int × (Int × Int × Int × Int) × (Int × Int × Int × Int)) × (List (Int × Int × Int))) × Bool => ([.int .i64 q.1, .int .i64 q.2.1.1, .int .i64 q.2.1.2.1.1, .int .i64 q.2.1.2.1.2.1.1, .int .i64 q.2.1.2.1.2.1.2.1, .int .i64 q.2.1.2.1.2.1.2.2.1, .int .i64 q.2.1.2.1.2.1.2.2.2, .int .i64 q.2.1.2.1.2.2.1, .int .i64 q.2.1.2.1.2.2.2.1, .int .i64 q.2.1.2.1.2.2.2.2.1, .int .i64 q.2.1.2.1.2.2.2.2.2, (v8.2.1.2.2.1), .bool q.2.2] : List Value)) h6
   refine ls F W Aa (Bg (r := KX) Oj F Aa Aa (Aw h_v2) h5).q fun a w F W => ?_
   refine ls F W Aa (A0 (y := Value.agg #[.int .i64 x4.1, .int .i64 x4.2.1.1, .int .i64 x4.2.1.2.1.1, .int .i64 x4.2.1.2.1.2.1.1, .int .i64 x4.2.1.2.1.2.1.2.1, .int .i64 x4.2.1.2.1.2.1.2.2.1, .int .i64 x4.2.1.2.1.2.1.2.2.2, .int .i64 x4.2.1.2.1.2.2.1, .int .i64 x4.2.1.2.1.2.2.2.1, .int .i64 x4.2.1.2.1.2.2.2.2.1, .int .i64 x4.2.1.2.1.2.2.2.2.2, (v8.2.1.2.2.1), .bool x4.2.2]) (j := 0) (i := x3) (enc := I5) F Aa Aa (Aw h_v2) h5 MI Na (by rw [h7]; rfl)).q fun a w F W => ?_
   iterate 2 refine ls F W Aa (Ah F Aa).q fun a w F W => ?_
   obtain ⟨x5, h8, H⟩ := Ap H
   refine Bp (Ml := []) (Zl := []) (M := []) (Z := [BG v6 Cz v7]) (β := Value) (rv := fun x => .tuple #[x, .int .i64 x5.2]) (MM := fun x => []) (ZZ := fun x => [BG x AV x5.1]) F W Pr Aa Aa (fun hL => H7 _ w (v6) ((v8.2.1.2.2.1)) x2 x4 p2 p3 _ h8 (Sl.hide Ba h3 (W.item (i := 0) Aa)) (Sl.at_ (W.old s_v2) h5 (Bb.snd (Bb.fst (Bb.snd (Bb.snd Bb.here)))) (congrArg (fun q : Int × (Int × (Int × (Int × Int × Int × Int) × (Int × Int × Int × Int)) × (List (Int × Int × Int))) × Bool => q.2.1.2.2) h6))) fun x a w F W => ?_
   obtain ⟨v9, rfl⟩ : ∃ y, y = x := ⟨x, rfl⟩
   have W : Stw ⟨Y, [], w0⟩ [] [BG v9 AV x5.1, BG v6 Cz v7] w := W
   refine ls F W Aa (Ah F Aa).q fun a w F W => ?_
   refine ls F W Aa (Bk (v := v9) F Aa Aa).q fun a w F W => ?_
   refine ls F W Aa (Bk (v := Value.int .i64 x5.2) F Aa Aa).q fun a w F W => ?_
   iterate 2 refine ls F W Aa (Ag F Aa).q fun a w F W => ?_
   refine Af (Ad (Al (Al (Ae ?_))))
   refine ls F W Aa (Ah F Aa).q fun a w F W => ?_
   refine ls F W Aa (D3 F Aa Aa).q fun a w F W => ?_
   refine Af (Ad ?_)
   refine AA F Aa (fun hb => ?_) fun hb => ?_
   ·
    have H := AH (Bj hb) H
    rw [hb] at F
    clear hb
    refine Al (Ae ?_)
    iterate 3 refine ls F W Aa (Ah F Aa).q fun a w F W => ?_
    iterate 3 refine ls F W Aa (Ag F Aa).q fun a w F W => ?_
    refine Af (Ad (Ay (AD (AK ?_))))
    iterate 2 refine AD ?_
    refine AK (AD ?_)
    have H := L2 _ H
    have H := L1 _ H
    have H := AJ H
    subst H
    refine Lw (.inl Aa) F W Aa (Av F Aa) (Av F Aa) (Av F Aa) ?_
    have W := W.note (Sl.hide Ba h1 (W.old s_v1))
    have W := W.sub (M' := []) (Z' := [BG v1 AV p0]) (List.Sublist.refl _) (List.Sublist.cons_cons _ (List.nil_sublist _))
    exact ⟨(v1), Aa, W⟩
   have H := AG (Bi hb) H
   rw [hb] at F
   clear hb
   refine Ax (Ad (Ae ?_))
   refine ls F W Aa (Ah F Aa).q fun a w F W => ?_
   refine ls F W Aa (Ag F Aa).q fun a w F W => ?_
   refine Af (A1 (Ad (Ae ?_)))
   refine ls F W Aa (Ah F Aa).q fun a w F W => ?_
   refine ls F W Aa (B6 F Aa Aa Aa).q fun a w F W => ?_
   refine ls F W Aa (Ag F Aa).q fun a w F W => ?_
   refine Af (Ad ?_)
   have W := W.sub (M' := []) (Z' := [BG v9 AV x5.1]) (List.Sublist.refl _) (List.Sublist.cons_cons _ (List.nil_sublist _))
   exact ⟨_, H, (v9), F.re ⟨rfl, Aa, Aa, Aa, Aa, Aa, Aa, Aa, Aa, trivial⟩, W⟩
  have H := AG (Bi hb) H
  rw [hb] at F
  clear hb
  refine Bu ?_
  iterate 2 refine BX ?_
  refine Br (Ad ?_)
  have H := L2 _ H
  exact ⟨_, (v6), H, F.re ⟨rfl, Aa, Aa, Aa, trivial⟩, W⟩
 rintro a w ⟨x1, v5, hj, F, W⟩
 have H := K1 _ hj
 clear hj G1 K1 L1
 refine Al (Ae ?_)
 refine ls F W Aa (Ah F Aa).q fun a w F W => ?_
 iterate 3 refine ls F W Aa (Ag F Aa).q fun a w F W => ?_
 refine Af (Ad (Ay ?_))
 have H := AJ H
 subst H
 refine Lw (.inl Aa) F W Aa (Av F Aa) (Av F Aa) (Av F Aa) ?_
 exact ⟨(v5), Aa, W⟩
theorem Qu : Has Try.prog 23 := ⟨fun args w => An Try.func23 rfl (by decide) args w⟩
noncomputable def CF (p0 : List (Int × (Int × (Int × Int × Int × Int) × (Int × Int × Int × Int)) × (List (Int × Int × Int)))) (p1 : List (Int × (Int × (Int × (Int × Int × Int × Int) × (Int × Int × Int × Int)) × (List (Int × Int × Int))) × Bool)) (p2 : Int) (p3 : Int) : Int → Option (Int ⊕ (Unit ⊕ Bool))
  | x5 => (if x5 < (p1.length : Int) then (ix p1 x5).bind fun x6 => (if 10 < (x6.2.1.2.2.length : Int) then (D4).bind fun x7 => some (.inr (.inr x7)) else (ix p1 x5).bind fun x8 => (C7 p0 x8 p2 p3).bind fun x9 => (ix p1 x5).bind fun x10 => (Ff p0 x10 p2 p3).bind fun x11 => ((Fd x9.1 x11.1).bind fun x13 => (if (!x13) = true then some true else (if x9.2 ≠ x11.2 then some true else (D8 x9.1 p2 p3).bind fun x14 => some (!x14)))).bind fun x12 => (if x12 = true then some (.inr (.inr false)) else some (.inl (BT (x5 + 1))))) else some (.inr (.inl ())))
noncomputable def C1 (p0 : List (Int × (Int × (Int × Int × Int × Int) × (Int × Int × Int × Int)) × (List (Int × Int × Int)))) (p1 : List (Int × (Int × (Int × (Int × Int × Int × Int) × (Int × Int × Int × Int)) × (List (Int × Int × Int))) × Bool)) (p2 : Int) (p3 : Int) : Option Bool := ((FX p0).bind fun x2 => (if (!x2) = true then some true else (F4 p0 p2 p3).bind fun x3 => (if (!x3) = true then some true else some (decide (20 < (p1.length : Int)))))).bind fun x1 => (if x1 = true then (D4).bind fun x4 => some x4 else FB (A9 (CF p0 p1 p2 p3) 0) fun _ => (Dw p0 p1 p2 p3).bind fun x15 => (GB p0 p1 p2 p3).bind fun x16 => ((Fd x15.1 x16.1).bind fun x18 => (if x18 = true then (if x15.2.1 = x16.2.1 then (if x15.2.2 = x16.2.2 then (D8 x15.1 p2 p3).bind fun x19 => (if x19 = true then (D4).bind fun x20 => some x20 else some false) else some false) else some false) else some false)).bind fun x17 => some x17)
theorem He (Y : Nat → Prop) (w0 : World) (v1 : Value) (v2 : Value) (p0 : List (Int × (Int × (Int × Int × Int × Int) × (Int × Int × Int × Int)) × (List (Int × Int × Int)))) (p1 : List (Int × (Int × (Int × (Int × Int × Int × Int) × (Int × Int × Int × Int)) × (List (Int × Int × Int))) × Bool)) (p2 : Int) (p3 : Int) (r : Bool) (H : C1 p0 p1 p2 p3 = some r) (s_v1 : Sl w0 Y AV v1 p0) (s_v2 : Sl w0 Y KJ v2 p1) :
    Calls Try.prog 4 #[v1, v2, .int .i64 p2, .int .i64 p3] w0 fun e w' => e = .returned (.bool r) ∧ Below w0.heap.size w0 w' := by
 refine enter Try.func4 Aa Try.ntmps4 Aa fun a F => ?_
 have W := Stw.start Y w0
 obtain ⟨v3, h1, s_v1⟩ := s_v1.ex Ba
 obtain ⟨v4, h2, s_v2⟩ := s_v2.ex Jp
 have h_v1 := W.nx s_v1
 have h_v2 := W.nx s_v2
 unfold C1 at H
 refine Al (Ae ?_)
 refine ls F W Aa (Ag F Aa).q fun a w F W => ?_
 refine Af (Ad (Al ?_))
 obtain ⟨o1, G1, K1⟩ := Ap H
 refine AF (fun a w => ∃ x1 : Bool, some (x1) = some o1 ∧ Fr 129 [] [(0, v1), (1, v2), (2, .int .i64 p2), (3, .int .i64 p3), (8, .bool false), (34, .bool x1)] a ∧ Stw ⟨Y, [], w0⟩ [] [] w) ?_ ?_
 ·
  have H := G1
  clear G1 K1
  refine Ae ?_
  refine ls F W Aa (Ah F Aa).q fun a w F W => ?_
  obtain ⟨x2, h3, H⟩ := Ap H
  refine ls F W Aa (AR (v := Value.bool x2) F H8 Aa (fun w W => KG any w (v1) p0 _ h3 (((Bc Ba h1 (Aw h_v1)) : C2 _ _ _ _ _ _) w W).nx)) fun a w F W => ?_
  refine ls F W Aa (Ec F Aa).q fun a w F W => ?_
  refine ls F W Aa (Ah F Aa).q fun a w F W => ?_
  rcases Bool.eq_false_or_eq_true (!x2) with hb | hb
  ·
   have H := AH hb H
   rw [hb] at F
   clear hb
   iterate 5 refine CD F Aa Aa Aa Aa Aa Aa Aa fun a F => ?_
   refine ls F W Aa (Az F Aa Aa Aa).q fun a w F W => ?_
   refine ls F W Aa (Ah F Aa).q fun a w F W => ?_
   iterate 3 refine CD F Aa Aa Aa Aa Aa Aa Aa fun a F => ?_
   refine ls F W Aa (Az F Aa Aa Aa).q fun a w F W => ?_
   refine Af (Ad ?_)
   exact ⟨_, H, F.re ⟨rfl, Aa, Aa, Aa, Aa, Aa, trivial⟩, W⟩
  have H := AG (by rw [hb]; decide) H
  rw [hb] at F
  clear hb
  iterate 3 refine AE F W (Ai F Aa Aa Aa Aa) Aa (Ao Aa) (Ah F Aa).q fun a w F W => ?_
  refine Gr (Ai F Aa Aa Aa Aa) ?_
  obtain ⟨x3, h4, H⟩ := Ap H
  refine ls F W Aa (AR (v := Value.bool x3) F P5 Aa (fun w W => Ks any w (v1) p0 p2 p3 _ h4 (((Bc Ba h1 (Aw h_v1)) : C2 _ _ _ _ _ _) w W).nx)) fun a w F W => ?_
  refine AE F W (Ai F Aa Aa Aa Aa) Aa (Ao Aa) (Ec F Aa).q fun a w F W => ?_
  refine ls F W Aa (Au F Aa Aa Aa).q fun a w F W => ?_
  refine ls F W Aa (Ah F Aa).q fun a w F W => ?_
  rcases Bool.eq_false_or_eq_true (!x3) with hb | hb
  ·
   have H := AH hb H
   rw [hb] at F
   clear hb
   iterate 3 refine CD F Aa Aa Aa Aa Aa Aa Aa fun a F => ?_
   refine ls F W Aa (Az F Aa Aa Aa).q fun a w F W => ?_
   refine Af (Ad ?_)
   exact ⟨_, H, F.re ⟨rfl, Aa, Aa, Aa, Aa, Aa, trivial⟩, W⟩
  have H := AG (by rw [hb]; decide) H
  rw [hb] at F
  clear hb
  refine AE F W (Ai F Aa Aa Aa Aa) Aa (Ao Aa) (Ah F Aa).q fun a w F W => ?_
  refine AE F W (Ai F Aa Aa Aa Aa) Aa (Ao Aa) (B7 (r := KJ) (l := p1) MF Aa F Aa (Bc Jp h2 (Aw h_v2))).q fun a w F W => ?_
  refine AE F W (Ai F Aa Aa Aa Aa) Aa (Ao Aa) (E3 F Aa Aa).q fun a w F W => ?_
  refine ls F W Aa (Au F Aa Aa Aa).q fun a w F W => ?_
  refine Af (Ad ?_)
  exact ⟨_, H, F.re ⟨rfl, Aa, Aa, Aa, Aa, Aa, trivial⟩, W⟩
 rintro a w ⟨x1, hj, F, W⟩
 have hj := AJ hj
 subst hj
 have H := K1
 clear G1 K1
 refine AA F Aa (fun hb => ?_) fun hb => ?_
 ·
  have H := AH hb H
  rw [hb] at F
  clear hb
  refine Al (Ae ?_)
  obtain ⟨x4, h5, H⟩ := Ap H
  refine ls F W Aa (AR (v := Value.bool x4) F H9 Aa (fun w W => GH any w _ h5)) fun a w F W => ?_
  refine ls F W Aa (Ag F Aa).q fun a w F W => ?_
  refine Af (Ad (Ay (AD ?_)))
  have H := AJ H
  subst H
  refine AL (.inl Aa) F W Aa (Av F Aa) ?_
  exact ⟨rfl, W.done⟩
 have H := AG (by rw [hb]; decide) H
 rw [hb] at F
 clear hb
 refine Ax (Ad ?_)
 obtain ⟨o2, G2, K2, L2⟩ := Ih H
 refine AF (fun a w => some (Sum.inl ()) = some o2 ∧ Fr 129 [] [(0, v1), (1, v2), (2, .int .i64 p2), (3, .int .i64 p3), (8, .bool false)] a ∧ Stw ⟨Y, [], w0⟩ [] [] w) ?_ ?_
 ·
  have H := G2
  clear G2 K2
  refine Al (Ae ?_)
  refine ls F W Aa (Ag F Aa).q fun a w F W => ?_
  refine Af (Ad (AC ?_))
  refine Bz H (fun s a w => Fr 129 [] [(0, v1), (1, v2), (2, .int .i64 p2), (3, .int .i64 p3), (8, .bool false), (9, .int .i64 s)] a ∧ Stw ⟨Y, [], w0⟩ [] [] w) ⟨F.re ⟨rfl, Aa, Aa, Aa, Aa, Aa, trivial⟩, W⟩ fun s o a w H L3 hR => ?_
  obtain ⟨x5, rfl⟩ : ∃ x, x = s := ⟨s, rfl⟩
  obtain ⟨F, W⟩ := hR
  have F : Fr 129 [] [(0, v1), (1, v2), (2, .int .i64 p2), (3, .int .i64 p3), (8, .bool false), (9, .int .i64 x5)] a := F
  have W : Stw ⟨Y, [], w0⟩ [] [] w := W
  rw [CF] at H
  refine Al (Al (Ae ?_))
  iterate 2 refine ls F W Aa (Ah F Aa).q fun a w F W => ?_
  refine ls F W Aa (B7 (r := KJ) (l := p1) MF Aa F Aa (Bc Jp h2 (Aw h_v2))).q fun a w F W => ?_
  refine ls F W Aa (BI F Aa Aa).q fun a w F W => ?_
  refine Af (Ad ?_)
  refine AA F Aa (fun hb => ?_) fun hb => ?_
  ·
   have H := AH (Bj hb) H
   rw [hb] at F
   clear hb
   refine Ax (Ad (Al (AC (Al (Al (Ae ?_))))))
   iterate 2 refine ls F W Aa (Ah F Aa).q fun a w F W => ?_
   obtain ⟨x6, h6, H⟩ := Ap H
   obtain ⟨v5, h7, h8⟩ := Ck h2 h6
   have h9 : I5 v5 = [.int .i64 x6.1, .int .i64 x6.2.1.1, .int .i64 x6.2.1.2.1.1, .int .i64 x6.2.1.2.1.2.1.1, .int .i64 x6.2.1.2.1.2.1.2.1, .int .i64 x6.2.1.2.1.2.1.2.2.1, .int .i64 x6.2.1.2.1.2.1.2.2.2, .int .i64 x6.2.1.2.1.2.2.1, .int .i64 x6.2.1.2.1.2.2.2.1, .int .i64 x6.2.1.2.1.2.2.2.2.1, .int .i64 x6.2.1.2.1.2.2.2.2.2, (v5.2.1.2.2.1), .bool x6.2.2] := congrArg (fun q : Int × (Int × (Int × (Int × Int × Int × Int) × (Int × Int × Int × Int)) × (List (Int × Int × Int))) × Bool => ([.int .i64 q.1, .int .i64 q.2.1.1, .int .i64 q.2.1.2.1.1, .int .i64 q.2.1.2.1.2.1.1, .int .i64 q.2.1.2.1.2.1.2.1, .int .i64 q.2.1.2.1.2.1.2.2.1, .int .i64 q.2.1.2.1.2.1.2.2.2, .int .i64 q.2.1.2.1.2.2.1, .int .i64 q.2.1.2.1.2.2.2.1, .int .i64 q.2.1.2.1.2.2.2.2.1, .int .i64 q.2.1.2.1.2.2.2.2.2, (v5.2.1.2.2.1), .bool q.2.2] : List Value)) h8
   refine ls F W Aa (Bg (r := KX) Oj F Aa Aa (Aw h_v2) h7).q fun a w F W => ?_
   refine ls F W Aa (Aj DX Aa Aa Aa CH F Aa (EM v2 + (x5).toNat * 13 + 1) Aa).q fun a w F W => ?_
   refine ls F W Aa (Aj Ci Aa Aa Aa HK F Aa (EM v2 + (x5).toNat * 13 + 1 + 10) Aa).q fun a w F W => ?_
   refine ls F W Aa (A0 (y := (v5.2.1.2.2.1)) (j := 11) (i := x5) (enc := I5) F Aa Aa (Aw h_v2) h7 MI HK (by rw [h9]; rfl)).q fun a w F W => ?_
   refine ls F W Aa (B7 (r := BD) (l := x6.2.1.2.2) In Aa F Aa (CT (Aw h_v2) h7 (Bb.snd (Bb.fst (Bb.snd (Bb.snd Bb.here)))) (congrArg (fun q : Int × (Int × (Int × (Int × Int × Int × Int) × (Int × Int × Int × Int)) × (List (Int × Int × Int))) × Bool => q.2.1.2.2) h8))).q fun a w F W => ?_
   refine ls F W Aa (E3 F Aa Aa).q fun a w F W => ?_
   refine Af (Ad ?_)
   refine AA F Aa (fun hb => ?_) fun hb => ?_
   ·
    have H := AH (Bj hb) H
    rw [hb] at F
    clear hb
    refine Al (Ae ?_)
    obtain ⟨x7, h10, H⟩ := Ap H
    refine ls F W Aa (AR (v := Value.bool x7) F H9 Aa (fun w W => GH any w _ h10)) fun a w F W => ?_
    refine ls F W Aa (Ag F Aa).q fun a w F W => ?_
    refine Af (Ad (Ay (AD (AK ?_))))
    iterate 2 refine AD ?_
    refine AK (AD ?_)
    have H := L3 _ H
    have H := L2 _ H
    have H := AJ H
    subst H
    refine AL (.inl Aa) F W Aa (Av F Aa) ?_
    exact ⟨rfl, W.done⟩
   have H := AG (Bi hb) H
   rw [hb] at F
   clear hb
   refine Ax (Ad (Al (Ae ?_)))
   iterate 3 refine ls F W Aa (Ah F Aa).q fun a w F W => ?_
   obtain ⟨x8, h11, H⟩ := Ap H
   obtain ⟨v6, h12, h13⟩ := Ck h2 h11
   have h14 : I5 v6 = [.int .i64 x8.1, .int .i64 x8.2.1.1, .int .i64 x8.2.1.2.1.1, .int .i64 x8.2.1.2.1.2.1.1, .int .i64 x8.2.1.2.1.2.1.2.1, .int .i64 x8.2.1.2.1.2.1.2.2.1, .int .i64 x8.2.1.2.1.2.1.2.2.2, .int .i64 x8.2.1.2.1.2.2.1, .int .i64 x8.2.1.2.1.2.2.2.1, .int .i64 x8.2.1.2.1.2.2.2.2.1, .int .i64 x8.2.1.2.1.2.2.2.2.2, (v6.2.1.2.2.1), .bool x8.2.2] := congrArg (fun q : Int × (Int × (Int × (Int × Int × Int × Int) × (Int × Int × Int × Int)) × (List (Int × Int × Int))) × Bool => ([.int .i64 q.1, .int .i64 q.2.1.1, .int .i64 q.2.1.2.1.1, .int .i64 q.2.1.2.1.2.1.1, .int .i64 q.2.1.2.1.2.1.2.1, .int .i64 q.2.1.2.1.2.1.2.2.1, .int .i64 q.2.1.2.1.2.1.2.2.2, .int .i64 q.2.1.2.1.2.2.1, .int .i64 q.2.1.2.1.2.2.2.1, .int .i64 q.2.1.2.1.2.2.2.2.1, .int .i64 q.2.1.2.1.2.2.2.2.2, (v6.2.1.2.2.1), .bool q.2.2] : List Value)) h13
   refine ls F W Aa (Bg (r := KX) Oj F Aa Aa (Aw h_v2) h12).q fun a w F W => ?_
   refine ls F W Aa (A0 (y := Value.agg #[.int .i64 x8.1, .int .i64 x8.2.1.1, .int .i64 x8.2.1.2.1.1, .int .i64 x8.2.1.2.1.2.1.1, .int .i64 x8.2.1.2.1.2.1.2.1, .int .i64 x8.2.1.2.1.2.1.2.2.1, .int .i64 x8.2.1.2.1.2.1.2.2.2, .int .i64 x8.2.1.2.1.2.2.1, .int .i64 x8.2.1.2.1.2.2.2.1, .int .i64 x8.2.1.2.1.2.2.2.2.1, .int .i64 x8.2.1.2.1.2.2.2.2.2, (v6.2.1.2.2.1), .bool x8.2.2]) (j := 0) (i := x5) (enc := I5) F Aa Aa (Aw h_v2) h12 MI Na (by rw [h14]; rfl)).q fun a w F W => ?_
   iterate 2 refine ls F W Aa (Ah F Aa).q fun a w F W => ?_
   obtain ⟨x9, h15, H⟩ := Ap H
   refine Bp (Ml := []) (Zl := []) (M := []) (Z := []) (β := Value) (rv := fun x => .tuple #[x, .int .i64 x9.2]) (MM := fun x => []) (ZZ := fun x => [BG x AV x9.1]) F W Pq Aa Aa (fun hL => GX _ w (v1) ((v6.2.1.2.2.1)) p0 x8 p2 p3 _ h15 (Sl.hide Ba h1 (W.old s_v1)) (Sl.at_ (W.old s_v2) h12 (Bb.snd (Bb.fst (Bb.snd (Bb.snd Bb.here)))) (congrArg (fun q : Int × (Int × (Int × (Int × Int × Int × Int) × (Int × Int × Int × Int)) × (List (Int × Int × Int))) × Bool => q.2.1.2.2) h13))) fun x a w F W => ?_
   obtain ⟨v7, rfl⟩ : ∃ y, y = x := ⟨x, rfl⟩
   have W : Stw ⟨Y, [], w0⟩ [] [BG v7 AV x9.1] w := W
   refine ls F W Aa (Ah F Aa).q fun a w F W => ?_
   refine ls F W Aa (Bk (v := v7) F Aa Aa).q fun a w F W => ?_
   refine ls F W Aa (Bk (v := Value.int .i64 x9.2) F Aa Aa).q fun a w F W => ?_
   iterate 2 refine ls F W Aa (Ag F Aa).q fun a w F W => ?_
   refine Af (Ad (Al ?_))
   obtain ⟨v8, h16, W⟩ := W.exF Ba
   refine Ae ?_
   iterate 3 refine ls F W Aa (Ah F Aa).q fun a w F W => ?_
   obtain ⟨x10, h17, H⟩ := Ap H
   obtain ⟨v9, h18, h19⟩ := Ck h2 h17
   have h20 : I5 v9 = [.int .i64 x10.1, .int .i64 x10.2.1.1, .int .i64 x10.2.1.2.1.1, .int .i64 x10.2.1.2.1.2.1.1, .int .i64 x10.2.1.2.1.2.1.2.1, .int .i64 x10.2.1.2.1.2.1.2.2.1, .int .i64 x10.2.1.2.1.2.1.2.2.2, .int .i64 x10.2.1.2.1.2.2.1, .int .i64 x10.2.1.2.1.2.2.2.1, .int .i64 x10.2.1.2.1.2.2.2.2.1, .int .i64 x10.2.1.2.1.2.2.2.2.2, (v9.2.1.2.2.1), .bool x10.2.2] := congrArg (fun q : Int × (Int × (Int × (Int × Int × Int × Int) × (Int × Int × Int × Int)) × (List (Int × Int × Int))) × Bool => ([.int .i64 q.1, .int .i64 q.2.1.1, .int .i64 q.2.1.2.1.1, .int .i64 q.2.1.2.1.2.1.1, .int .i64 q.2.1.2.1.2.1.2.1, .int .i64 q.2.1.2.1.2.1.2.2.1, .int .i64 q.2.1.2.1.2.1.2.2.2, .int .i64 q.2.1.2.1.2.2.1, .int .i64 q.2.1.2.1.2.2.2.1, .int .i64 q.2.1.2.1.2.2.2.2.1, .int .i64 q.2.1.2.1.2.2.2.2.2, (v9.2.1.2.2.1), .bool q.2.2] : List Value)) h19
   refine ls F W Aa (Bg (r := KX) Oj F Aa Aa (Aw h_v2) h18).q fun a w F W => ?_
   refine ls F W Aa (A0 (y := Value.agg #[.int .i64 x10.1, .int .i64 x10.2.1.1, .int .i64 x10.2.1.2.1.1, .int .i64 x10.2.1.2.1.2.1.1, .int .i64 x10.2.1.2.1.2.1.2.1, .int .i64 x10.2.1.2.1.2.1.2.2.1, .int .i64 x10.2.1.2.1.2.1.2.2.2, .int .i64 x10.2.1.2.1.2.2.1, .int .i64 x10.2.1.2.1.2.2.2.1, .int .i64 x10.2.1.2.1.2.2.2.2.1, .int .i64 x10.2.1.2.1.2.2.2.2.2, (v9.2.1.2.2.1), .bool x10.2.2]) (j := 0) (i := x5) (enc := I5) F Aa Aa (Aw h_v2) h18 MI Na (by rw [h20]; rfl)).q fun a w F W => ?_
   iterate 2 refine ls F W Aa (Ah F Aa).q fun a w F W => ?_
   obtain ⟨x11, h21, H⟩ := Ap H
   refine Bp (Ml := []) (Zl := []) (M := []) (Z := [BG v7 Cz v8]) (β := Value) (rv := fun x => .tuple #[x, .int .i64 x11.2]) (MM := fun x => []) (ZZ := fun x => [BG x AV x11.1]) F W Pr Aa Aa (fun hL => H7 _ w (v1) ((v9.2.1.2.2.1)) p0 x10 p2 p3 _ h21 (Sl.hide Ba h1 (W.old s_v1)) (Sl.at_ (W.old s_v2) h18 (Bb.snd (Bb.fst (Bb.snd (Bb.snd Bb.here)))) (congrArg (fun q : Int × (Int × (Int × (Int × Int × Int × Int) × (Int × Int × Int × Int)) × (List (Int × Int × Int))) × Bool => q.2.1.2.2) h19))) fun x a w F W => ?_
   obtain ⟨v10, rfl⟩ : ∃ y, y = x := ⟨x, rfl⟩
   have W : Stw ⟨Y, [], w0⟩ [] [BG v10 AV x11.1, BG v7 Cz v8] w := W
   refine ls F W Aa (Ah F Aa).q fun a w F W => ?_
   refine ls F W Aa (Bk (v := v10) F Aa Aa).q fun a w F W => ?_
   refine ls F W Aa (Bk (v := Value.int .i64 x11.2) F Aa Aa).q fun a w F W => ?_
   iterate 2 refine ls F W Aa (Ag F Aa).q fun a w F W => ?_
   refine Af (Ad ?_)
   obtain ⟨o4, G4, K4⟩ := Ap H
   refine AF (fun a w => ∃ x12 : Bool, some (x12) = some o4 ∧ Fr 129 [] [(0, v1), (1, v2), (2, .int .i64 p2), (3, .int .i64 p3), (8, .bool false), (9, .int .i64 x5), (88, .bool x12)] a ∧ Stw ⟨Y, [], w0⟩ [] [] w) ?_ ?_
   ·
    have H := G4
    clear G4 K4
    refine Ae ?_
    iterate 2 refine ls F W Aa (Ah F Aa).q fun a w F W => ?_
    obtain ⟨x13, h22, H⟩ := Ap H
    refine ls F W Aa (AR (v := Value.bool x13) F PF Aa (fun w W => H4 any w (v7) (v10) x9.1 x11.1 _ h22 (((Bc Ba h16 (CP 1 Aa)) : C2 _ _ _ _ _ _) w W).nx (((CP 0 Aa) : C2 _ _ _ _ _ _) w W).nx)) fun a w F W => ?_
    refine ls F W Aa (Ec F Aa).q fun a w F W => ?_
    refine ls F W Aa (Ah F Aa).q fun a w F W => ?_
    rcases Bool.eq_false_or_eq_true (!x13) with hb | hb
    ·
     have H := AH hb H
     rw [hb] at F
     clear hb
     iterate 3 refine CD F Aa Aa Aa Aa Aa Aa Aa fun a F => ?_
     refine ls F W Aa (Az F Aa Aa Aa).q fun a w F W => ?_
     refine ls F W Aa (Ah F Aa).q fun a w F W => ?_
     iterate 5 refine CD F Aa Aa Aa Aa Aa Aa Aa fun a F => ?_
     refine ls F W Aa (Az F Aa Aa Aa).q fun a w F W => ?_
     refine Af (Ad ?_)
     have W := W.sub (M' := []) (Z' := []) (List.Sublist.refl _) (List.nil_sublist _)
     exact ⟨_, H, F.re ⟨rfl, Aa, Aa, Aa, Aa, Aa, Aa, trivial⟩, W⟩
    have H := AG (by rw [hb]; decide) H
    rw [hb] at F
    clear hb
    iterate 2 refine AE F W (Ai F Aa Aa Aa Aa) Aa (Ao Aa) (Ah F Aa).q fun a w F W => ?_
    refine AE F W (Ai F Aa Aa Aa Aa) Aa (Ao Aa) (D3 F Aa Aa).q fun a w F W => ?_
    refine ls F W Aa (Au F Aa Aa Aa).q fun a w F W => ?_
    refine ls F W Aa (Ah F Aa).q fun a w F W => ?_
    rcases Bool.eq_false_or_eq_true (decide (x9.2 ≠ x11.2)) with hb | hb
    ·
     have H := AH (Bj hb) H
     rw [hb] at F
     clear hb
     iterate 5 refine CD F Aa Aa Aa Aa Aa Aa Aa fun a F => ?_
     refine ls F W Aa (Az F Aa Aa Aa).q fun a w F W => ?_
     refine Af (Ad ?_)
     have W := W.sub (M' := []) (Z' := []) (List.Sublist.refl _) (List.nil_sublist _)
     exact ⟨_, H, F.re ⟨rfl, Aa, Aa, Aa, Aa, Aa, Aa, trivial⟩, W⟩
    have H := AG (Bi hb) H
    rw [hb] at F
    clear hb
    iterate 3 refine AE F W (Ai F Aa Aa Aa Aa) Aa (Ao Aa) (Ah F Aa).q fun a w F W => ?_
    refine Gr (Ai F Aa Aa Aa Aa) ?_
    obtain ⟨x14, h23, H⟩ := Ap H
    refine ls F W Aa (AR (v := Value.bool x14) F Pj Aa (fun w W => GU any w (v7) x9.1 p2 p3 _ h23 (((Bc Ba h16 (CP 1 Aa)) : C2 _ _ _ _ _ _) w W).nx)) fun a w F W => ?_
    refine AE F W (Ai F Aa Aa Aa Aa) Aa (Ao Aa) (Ec F Aa).q fun a w F W => ?_
    refine ls F W Aa (Au F Aa Aa Aa).q fun a w F W => ?_
    refine Af (Ad ?_)
    have W := W.sub (M' := []) (Z' := []) (List.Sublist.refl _) (List.nil_sublist _)
    exact ⟨_, H, F.re ⟨rfl, Aa, Aa, Aa, Aa, Aa, Aa, trivial⟩, W⟩
   rintro a w ⟨x12, hj, F, W⟩
   have hj := AJ hj
   subst hj
   have H := K4
   clear G4 K4
   refine AA F Aa (fun hb => ?_) fun hb => ?_
   ·
    have H := AH hb H
    rw [hb] at F
    clear hb
    refine Al (Ae ?_)
    refine ls F W Aa (Ag F Aa).q fun a w F W => ?_
    refine Af (Ad (Ay (AK ?_)))
    iterate 2 refine AD ?_
    refine AK (AD ?_)
    have H := L3 _ H
    have H := L2 _ H
    have H := AJ H
    subst H
    refine AL (.inl Aa) F W Aa (Av F Aa) ?_
    exact ⟨rfl, W.done⟩
   have H := AG (by rw [hb]; decide) H
   rw [hb] at F
   clear hb
   refine Ax (A1 (Ad (Ae ?_)))
   refine ls F W Aa (Ah F Aa).q fun a w F W => ?_
   refine ls F W Aa (B6 F Aa Aa Aa).q fun a w F W => ?_
   refine ls F W Aa (Ag F Aa).q fun a w F W => ?_
   refine Af (Ad ?_)
   exact ⟨_, H, F.re ⟨rfl, Aa, Aa, Aa, Aa, Aa, trivial⟩, W⟩
  have H := AG (Bi hb) H
  rw [hb] at F
  clear hb
  refine Bu ?_
  iterate 2 refine BX ?_
  refine Br (Ad ?_)
  have H := L3 _ H
  exact ⟨H, F.re ⟨rfl, Aa, Aa, Aa, Aa, trivial⟩, W⟩
 rintro a w ⟨hj, F, W⟩
 have H := K2 _ hj
 clear hj G2 K2 L2
 refine Al (Ae ?_)
 iterate 4 refine ls F W Aa (Ah F Aa).q fun a w F W => ?_
 obtain ⟨x15, h24, H⟩ := Ap H
 refine Bp (Ml := []) (Zl := []) (M := []) (Z := []) (β := Value) (rv := fun x => .tuple #[x, .int .i64 x15.2.1, .int .i64 x15.2.2]) (MM := fun x => []) (ZZ := fun x => [BG x AV x15.1]) F W Pw Aa Aa (fun hL => Hv _ w (v1) (v2) p0 p1 p2 p3 _ h24 (Sl.hide Ba h1 (W.old s_v1)) (Sl.hide Jp h2 (W.old s_v2))) fun x a w F W => ?_
 obtain ⟨v11, rfl⟩ : ∃ y, y = x := ⟨x, rfl⟩
 have W : Stw ⟨Y, [], w0⟩ [] [BG v11 AV x15.1] w := W
 refine ls F W Aa (Ah F Aa).q fun a w F W => ?_
 refine ls F W Aa (Bk (v := v11) F Aa Aa).q fun a w F W => ?_
 refine ls F W Aa (Bk (v := Value.int .i64 x15.2.1) F Aa Aa).q fun a w F W => ?_
 refine ls F W Aa (Bk (v := Value.int .i64 x15.2.2) F Aa Aa).q fun a w F W => ?_
 iterate 3 refine ls F W Aa (Ag F Aa).q fun a w F W => ?_
 refine Af (Ad (Al (Ae ?_)))
 iterate 4 refine ls F W Aa (Ah F Aa).q fun a w F W => ?_
 obtain ⟨x16, h25, H⟩ := Ap H
 refine Bp (Ml := []) (Zl := []) (M := []) (Z := [BG v11 AV x15.1]) (β := Value) (rv := fun x => .tuple #[x, .int .i64 x16.2.1, .int .i64 x16.2.2]) (MM := fun x => []) (ZZ := fun x => [BG x AV x16.1]) F W Qu Aa Aa (fun hL => KK _ w (v1) (v2) p0 p1 p2 p3 _ h25 (Sl.hide Ba h1 (W.old s_v1)) (Sl.hide Jp h2 (W.old s_v2))) fun x a w F W => ?_
 obtain ⟨v12, rfl⟩ : ∃ y, y = x := ⟨x, rfl⟩
 have W : Stw ⟨Y, [], w0⟩ [] [BG v12 AV x16.1, BG v11 AV x15.1] w := W
 refine ls F W Aa (Ah F Aa).q fun a w F W => ?_
 refine ls F W Aa (Bk (v := v12) F Aa Aa).q fun a w F W => ?_
 refine ls F W Aa (Bk (v := Value.int .i64 x16.2.1) F Aa Aa).q fun a w F W => ?_
 refine ls F W Aa (Bk (v := Value.int .i64 x16.2.2) F Aa Aa).q fun a w F W => ?_
 iterate 3 refine ls F W Aa (Ag F Aa).q fun a w F W => ?_
 refine Af (Ad ?_)
 obtain ⟨o5, G5, K5⟩ := Ap H
 refine AF (fun a w => ∃ x17 : Bool, some (x17) = some o5 ∧ Fr 129 [] [(8, .bool x17)] a ∧ Stw ⟨Y, [], w0⟩ [] [] w) ?_ ?_
 ·
  have H := G5
  clear G5 K5
  refine Ae ?_
  iterate 2 refine ls F W Aa (Ah F Aa).q fun a w F W => ?_
  obtain ⟨x18, h26, H⟩ := Ap H
  refine ls F W Aa (AR (v := Value.bool x18) F PF Aa (fun w W => H4 any w (v11) (v12) x15.1 x16.1 _ h26 (((CP 1 Aa) : C2 _ _ _ _ _ _) w W).nx (((CP 0 Aa) : C2 _ _ _ _ _ _) w W).nx)) fun a w F W => ?_
  refine ls F W Aa (Ah F Aa).q fun a w F W => ?_
  rcases Bool.eq_false_or_eq_true x18 with hb | hb
  ·
   have H := AH hb H
   rw [hb] at F
   clear hb
   iterate 2 refine AE F W (Ai F Aa Aa Aa Aa) Aa (Ao Aa) (Ah F Aa).q fun a w F W => ?_
   refine AE F W (Ai F Aa Aa Aa Aa) Aa (Ao Aa) (BB F Aa Aa).q fun a w F W => ?_
   refine ls F W Aa (Az F Aa Aa Aa).q fun a w F W => ?_
   refine ls F W Aa (Ah F Aa).q fun a w F W => ?_
   rcases Bool.eq_false_or_eq_true (decide (x15.2.1 = x16.2.1)) with hb | hb
   ·
    have H := AH (Bj hb) H
    rw [hb] at F
    clear hb
    iterate 2 refine AE F W (Ai F Aa Aa Aa Aa) Aa (Ao Aa) (Ah F Aa).q fun a w F W => ?_
    refine AE F W (Ai F Aa Aa Aa Aa) Aa (Ao Aa) (BB F Aa Aa).q fun a w F W => ?_
    refine ls F W Aa (Az F Aa Aa Aa).q fun a w F W => ?_
    refine ls F W Aa (Ah F Aa).q fun a w F W => ?_
    rcases Bool.eq_false_or_eq_true (decide (x15.2.2 = x16.2.2)) with hb | hb
    ·
     have H := AH (Bj hb) H
     rw [hb] at F
     clear hb
     iterate 3 refine AE F W (Ai F Aa Aa Aa Aa) Aa (Ao Aa) (Ah F Aa).q fun a w F W => ?_
     refine Gr (Ai F Aa Aa Aa Aa) ?_
     obtain ⟨x19, h27, H⟩ := Ap H
     refine ls F W Aa (AR (v := Value.bool x19) F Pj Aa (fun w W => GU any w (v11) x15.1 p2 p3 _ h27 (((CP 1 Aa) : C2 _ _ _ _ _ _) w W).nx)) fun a w F W => ?_
     refine ls F W Aa (Az F Aa Aa Aa).q fun a w F W => ?_
     refine ls F W Aa (Ah F Aa).q fun a w F W => ?_
     rcases Bool.eq_false_or_eq_true x19 with hb | hb
     ·
      have H := AH hb H
      rw [hb] at F
      clear hb
      refine Gr (Ai F Aa Aa Aa Aa) ?_
      obtain ⟨x20, h28, H⟩ := Ap H
      refine ls F W Aa (AR (v := Value.bool x20) F H9 Aa (fun w W => GH any w _ h28)) fun a w F W => ?_
      refine ls F W Aa (Az F Aa Aa Aa).q fun a w F W => ?_
      refine ls F W Aa (Ag F Aa).q fun a w F W => ?_
      refine Af (Ad ?_)
      have W := W.sub (M' := []) (Z' := []) (List.Sublist.refl _) (List.nil_sublist _)
      exact ⟨_, H, F.re ⟨rfl, trivial⟩, W⟩
     have H := AG (by rw [hb]; decide) H
     rw [hb] at F
     clear hb
     refine CD F Aa Aa Aa Aa Aa Aa Aa fun a F => ?_
     refine ls F W Aa (Au F Aa Aa Aa).q fun a w F W => ?_
     refine ls F W Aa (Ag F Aa).q fun a w F W => ?_
     refine Af (Ad ?_)
     have W := W.sub (M' := []) (Z' := []) (List.Sublist.refl _) (List.nil_sublist _)
     exact ⟨_, H, F.re ⟨rfl, trivial⟩, W⟩
    have H := AG (Bi hb) H
    rw [hb] at F
    clear hb
    iterate 4 refine CD F Aa Aa Aa Aa Aa Aa Aa fun a F => ?_
    refine ls F W Aa (Au F Aa Aa Aa).q fun a w F W => ?_
    refine ls F W Aa (Ah F Aa).q fun a w F W => ?_
    refine CD F Aa Aa Aa Aa Aa Aa Aa fun a F => ?_
    refine ls F W Aa (Au F Aa Aa Aa).q fun a w F W => ?_
    refine ls F W Aa (Ag F Aa).q fun a w F W => ?_
    refine Af (Ad ?_)
    have W := W.sub (M' := []) (Z' := []) (List.Sublist.refl _) (List.nil_sublist _)
    exact ⟨_, H, F.re ⟨rfl, trivial⟩, W⟩
   have H := AG (Bi hb) H
   rw [hb] at F
   clear hb
   iterate 3 refine CD F Aa Aa Aa Aa Aa Aa Aa fun a F => ?_
   refine ls F W Aa (Au F Aa Aa Aa).q fun a w F W => ?_
   refine ls F W Aa (Ah F Aa).q fun a w F W => ?_
   iterate 4 refine CD F Aa Aa Aa Aa Aa Aa Aa fun a F => ?_
   refine ls F W Aa (Au F Aa Aa Aa).q fun a w F W => ?_
   refine ls F W Aa (Ah F Aa).q fun a w F W => ?_
   refine CD F Aa Aa Aa Aa Aa Aa Aa fun a F => ?_
   refine ls F W Aa (Au F Aa Aa Aa).q fun a w F W => ?_
   refine ls F W Aa (Ag F Aa).q fun a w F W => ?_
   refine Af (Ad ?_)
   have W := W.sub (M' := []) (Z' := []) (List.Sublist.refl _) (List.nil_sublist _)
   exact ⟨_, H, F.re ⟨rfl, trivial⟩, W⟩
  have H := AG (by rw [hb]; decide) H
  rw [hb] at F
  clear hb
  iterate 3 refine CD F Aa Aa Aa Aa Aa Aa Aa fun a F => ?_
  refine ls F W Aa (Au F Aa Aa Aa).q fun a w F W => ?_
  refine ls F W Aa (Ah F Aa).q fun a w F W => ?_
  iterate 3 refine CD F Aa Aa Aa Aa Aa Aa Aa fun a F => ?_
  refine ls F W Aa (Au F Aa Aa Aa).q fun a w F W => ?_
  refine ls F W Aa (Ah F Aa).q fun a w F W => ?_
  iterate 4 refine CD F Aa Aa Aa Aa Aa Aa Aa fun a F => ?_
  refine ls F W Aa (Au F Aa Aa Aa).q fun a w F W => ?_
  refine ls F W Aa (Ah F Aa).q fun a w F W => ?_
  refine CD F Aa Aa Aa Aa Aa Aa Aa fun a F => ?_
  refine ls F W Aa (Au F Aa Aa Aa).q fun a w F W => ?_
  refine ls F W Aa (Ag F Aa).q fun a w F W => ?_
  refine Af (Ad ?_)
  have W := W.sub (M' := []) (Z' := []) (List.Sublist.refl _) (List.nil_sublist _)
  exact ⟨_, H, F.re ⟨rfl, trivial⟩, W⟩
 rintro a w ⟨x17, hj, F, W⟩
 have hj := AJ hj
 subst hj
 have H := K5
 clear G5 K5
 refine Ay ?_
 have H := AJ H
 subst H
 refine AL (.inl Aa) F W Aa (Av F Aa) ?_
 exact ⟨rfl, W.done⟩
end Go.Proofs.Ytkjjioigbpkifaa
