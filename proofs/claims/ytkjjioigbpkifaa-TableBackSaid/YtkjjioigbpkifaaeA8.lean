/- The functions of layer 11, En. Conditions: none. -/
import Derived.Test.YtkjjioigbpkifaaeA7
namespace Go.Proofs.Ytkjjioigbpkifaa
open Go Go.RowKit
set_option linter.unusedVariables false
set_option linter.unusedSimpArgs false
set_option maxRecDepth 20000
set_option synthInstance.maxSize 1000
noncomputable def Fo (p0 : List (Int × Int × Int)) (p1 : List (Int × Int × Int)) : Int → Option (Int ⊕ (Unit ⊕ Bool))
  | x1 => (if x1 < (p0.length : Int) then (ix p0 x1).bind fun x2 => (ix p1 x1).bind fun x3 => (if (!(decide (x2.1 = x3.1 ∧ x2.2.1 = x3.2.1 ∧ x2.2.2 = x3.2.2))) = true then some (.inr (.inr false)) else some (.inl (CA (x1 + 1)))) else some (.inr (.inl ())))
noncomputable def Gp (p0 : List (Int × Int × Int)) (p1 : List (Int × Int × Int)) : Option Bool := (if (p0.length : Int) ≠ (p1.length : Int) then some false else Fp (Bk (Fo p0 p1) 0) fun _ => some true)
theorem Kg (Y : Nat → Prop) (w0 : World) (v1 : Value) (v2 : Value) (p0 : List (Int × Int × Int)) (p1 : List (Int × Int × Int)) (r : Bool) (H : Gp p0 p1 = some r) (h_v1 : Sl w0 (NX []) Bu v1 p0) (h_v2 : Sl w0 (NX []) Bu v2 p1) :
    Calls Try.prog 71 #[v1, v2] w0 fun e w' => e = .returned (.bool r) ∧ Below w0.heap.size w0 w' := by
 refine enter Try.func71 Aa Try.ntmps71 Aa fun a F => ?_
 have W := Stw.start Y w0
 unfold Gp at H
 refine Ak (Ae ?_)
 refine ls F W Aa (Ag F Aa).q fun a w F W => ?_
 refine Af (Ad (Ak (Ak (Ae ?_))))
 refine ls F W Aa (Ah F Aa).q fun a w F W => ?_
 refine ls F W Aa (B1 (r := Bu) (l := p0) Hs Aa F Aa (Au h_v1)).q fun a w F W => ?_
 refine ls F W Aa (Ah F Aa).q fun a w F W => ?_
 refine ls F W Aa (B1 (r := Bu) (l := p1) Hs Aa F Aa (Au h_v2)).q fun a w F W => ?_
 refine ls F W Aa (Eh F Aa Aa).q fun a w F W => ?_
 refine Af (Ad ?_)
 refine AA F Aa (fun hb => ?_) fun hb => ?_
 ·
  have H := AK (Bi hb) H
  rw [hb] at F
  clear hb
  refine Ak (Ae ?_)
  refine ls F W Aa (Ag F Aa).q fun a w F W => ?_
  refine Af (Ad (Ax (AD ?_)))
  have H := AL H
  subst H
  refine AF (.inl Aa) F W Aa (Av F Aa) ?_
  exact ⟨rfl, W.done⟩
 have H := AJ (Bh hb) H
 rw [hb] at F
 clear hb
 refine Ay (Ad ?_)
 obtain ⟨o1, G1, K1, L1⟩ := HZ H
 refine AH (fun a w => some (Sum.inl ()) = some o1 ∧ Fr 26 [] [(4, .bool false)] a ∧ Stw ⟨Y, [], w0⟩ [] [] w) ?_ ?_
 ·
  have H := G1
  clear G1 K1
  refine Ak (Ae ?_)
  refine ls F W Aa (Ag F Aa).q fun a w F W => ?_
  refine Af (Ad (AC ?_))
  refine Bz H (fun s a w => Fr 26 [] [(0, v1), (1, v2), (4, .bool false), (5, .int .i64 s)] a ∧ Stw ⟨Y, [], w0⟩ [] [] w) ⟨F.re ⟨rfl, Aa, Aa, Aa, trivial⟩, W⟩ fun s o a w H L2 hR => ?_
  obtain ⟨x1, rfl⟩ : ∃ x, x = s := ⟨s, rfl⟩
  obtain ⟨F, W⟩ := hR
  have F : Fr 26 [] [(0, v1), (1, v2), (4, .bool false), (5, .int .i64 x1)] a := F
  have W : Stw ⟨Y, [], w0⟩ [] [] w := W
  rw [Fo] at H
  refine Ak (Ak (Ae ?_))
  iterate 2 refine ls F W Aa (Ah F Aa).q fun a w F W => ?_
  refine ls F W Aa (B1 (r := Bu) (l := p0) Hs Aa F Aa (Au h_v1)).q fun a w F W => ?_
  refine ls F W Aa (BN F Aa Aa).q fun a w F W => ?_
  refine Af (Ad ?_)
  refine AA F Aa (fun hb => ?_) fun hb => ?_
  ·
   have H := AK (Bi hb) H
   rw [hb] at F
   clear hb
   refine Ay (Ad (Ak (AC (Ak ?_))))
   refine Ci W MO (by kernel_rfl) ?_
   iterate 2 refine qs F Aa (Ah F Aa).q fun a F => ?_
   obtain ⟨x2, h1, H⟩ := Ap H
   refine qs F Aa (Bd (r := Bu) Ke F Aa Aa (Au h_v1) h1).q fun a F => ?_
   refine qs F Aa (A1 (y := Value.agg #[.int .i64 x2.1, .int .i64 x2.2.1, .int .i64 x2.2.2]) (j := 0) (i := x1) F Aa Aa (Au h_v1) h1 KV.to Nd Aa).q fun a F => ?_
   iterate 2 refine qs F Aa (Ah F Aa).q fun a F => ?_
   obtain ⟨x3, h2, H⟩ := Ap H
   refine qs F Aa (Bd (r := Bu) Ke F Aa Aa (Au h_v2) h2).q fun a F => ?_
   refine qs F Aa (A1 (y := Value.agg #[.int .i64 x3.1, .int .i64 x3.2.1, .int .i64 x3.2.2]) (j := 0) (i := x1) F Aa Aa (Au h_v2) h2 KV.to Nd Aa).q fun a F => ?_
   refine qs F Aa (LR (t := decide (x2.1 = x3.1 ∧ x2.2.1 = x3.2.1 ∧ x2.2.2 = x3.2.2)) PE (Pu _ _ _ _ _ _) F Aa Aa).q fun a F => ?_
   refine A9 fun w W => ?_
   refine Ad ?_
   refine AA F Aa (fun hb => ?_) fun hb => ?_
   ·
    have H := AK hb H
    rw [hb] at F
    clear hb
    refine Ak (Ae ?_)
    refine ls F W Aa (Ag F Aa).q fun a w F W => ?_
    refine Af (Ad (Ax (AO ?_)))
    iterate 2 refine AD ?_
    refine AO (AD ?_)
    have H := L2 _ H
    have H := L1 _ H
    have H := AL H
    subst H
    refine AF (.inl Aa) F W Aa (Av F Aa) ?_
    exact ⟨rfl, W.done⟩
   have H := AJ (by rw [hb]; decide) H
   rw [hb] at F
   clear hb
   refine Ay (A5 (Ad (Ae ?_)))
   refine ls F W Aa (Ah F Aa).q fun a w F W => ?_
   refine ls F W Aa (B7 F Aa Aa Aa).q fun a w F W => ?_
   refine ls F W Aa (Ag F Aa).q fun a w F W => ?_
   refine Af (Ad ?_)
   exact ⟨_, H, F.re ⟨rfl, Aa, Aa, Aa, trivial⟩, W⟩
  have H := AJ (Bh hb) H
  rw [hb] at F
  clear hb
  refine Bw ?_
  iterate 2 refine B3 ?_
  refine Bx (Ad ?_)
  have H := L2 _ H
  exact ⟨H, F.re ⟨rfl, trivial⟩, W⟩
 rintro a w ⟨hj, F, W⟩
 have H := K1 _ hj
 clear hj G1 K1 L1
 refine Ak (Ae ?_)
 refine ls F W Aa (Ag F Aa).q fun a w F W => ?_
 refine Af (Ad (Ax ?_))
 have H := AL H
 subst H
 refine AF (.inl Aa) F W Aa (Av F Aa) ?_
 exact ⟨rfl, W.done⟩
end Go.Proofs.Ytkjjioigbpkifaa
