/- The functions of layer 11, D5. Conditions: none. -/
import Derived.Test.YtkjjioigbpkifaadA7
namespace Go.Proofs.Ytkjjioigbpkifaa
open Go Go.RowKit
set_option linter.unusedVariables false
set_option linter.unusedSimpArgs false
set_option maxRecDepth 20000
set_option synthInstance.maxSize 1000
noncomputable def E0 (p0 : List (Int × Int × Int)) (p1 : List (Int × Int × Int)) : Int → Option (Int ⊕ (Unit ⊕ Bool))
  | x1 => (if x1 < (p0.length : Int) then (ix p0 x1).bind fun x2 => (ix p1 x1).bind fun x3 => (if (!(decide (x2.1 = x3.1 ∧ x2.2.1 = x3.2.1 ∧ x2.2.2 = x3.2.2))) = true then some (.inr (.inr false)) else some (.inl (CG (x1 + 1)))) else some (.inr (.inl ())))
noncomputable def FS (p0 : List (Int × Int × Int)) (p1 : List (Int × Int × Int)) : Option Bool := (if (p0.length : Int) ≠ (p1.length : Int) then some false else FL (Bh (E0 p0 p1) 0) fun _ => some true)
theorem Jx (Y : Nat → Prop) (w0 : World) (v1 : Value) (v2 : Value) (p0 : List (Int × Int × Int)) (p1 : List (Int × Int × Int)) (r : Bool) (H : FS p0 p1 = some r) (h_v1 : Sl w0 (NX []) Br v1 p0) (h_v2 : Sl w0 (NX []) Br v2 p1) :
    Calls Try.prog 71 #[v1, v2] w0 fun e w' => e = .returned (.bool r) ∧ Below w0.heap.size w0 w' := by
 refine enter Try.func71 Aa Try.ntmps71 Aa fun a F => ?_
 have W := Stw.start Y w0
 unfold FS at H
 refine Ak (Ae ?_)
 refine ls F W Aa (Af F Aa).q fun a w F W => ?_
 refine Ag (Ad (Ak (Ak (Ae ?_))))
 refine ls F W Aa (Ah F Aa).q fun a w F W => ?_
 refine ls F W Aa (B4 (r := Br) (l := p0) Hn Aa F Aa (Av h_v1)).q fun a w F W => ?_
 refine ls F W Aa (Ah F Aa).q fun a w F W => ?_
 refine ls F W Aa (B4 (r := Br) (l := p1) Hn Aa F Aa (Av h_v2)).q fun a w F W => ?_
 refine ls F W Aa (FM F Aa Aa).q fun a w F W => ?_
 refine Ag (Ad ?_)
 refine AA F Aa (fun hb => ?_) fun hb => ?_
 ·
  have H := AU (Bd hb) H
  rw [hb] at F
  clear hb
  refine Ak (Ae ?_)
  refine ls F W Aa (Af F Aa).q fun a w F W => ?_
  refine Ag (Ad (Ay (AC ?_)))
  have H := AZ H
  subst H
  refine AO (.inl Aa) F W Aa (Au F Aa) ?_
  exact ⟨rfl, W.done⟩
 have H := AV (Be hb) H
 rw [hb] at F
 clear hb
 refine Az (Ad ?_)
 obtain ⟨o1, G1, K1, L1⟩ := IA H
 refine AY (fun a w => some (Sum.inl ()) = some o1 ∧ Fr 26 [] [(4, .bool false)] a ∧ Stw ⟨Y, [], w0⟩ [] [] w) ?_ ?_
 ·
  have H := G1
  clear G1 K1
  refine Ak (Ae ?_)
  refine ls F W Aa (Af F Aa).q fun a w F W => ?_
  refine Ag (Ad (AB ?_))
  refine BU H (fun s a w => Fr 26 [] [(0, v1), (1, v2), (4, .bool false), (5, .int .i64 s)] a ∧ Stw ⟨Y, [], w0⟩ [] [] w) ⟨F.re ⟨rfl, Aa, Aa, Aa, trivial⟩, W⟩ fun s o a w H L2 hR => ?_
  obtain ⟨x1, rfl⟩ : ∃ x, x = s := ⟨s, rfl⟩
  obtain ⟨F, W⟩ := hR
  have F : Fr 26 [] [(0, v1), (1, v2), (4, .bool false), (5, .int .i64 x1)] a := F
  have W : Stw ⟨Y, [], w0⟩ [] [] w := W
  rw [E0] at H
  refine Ak (Ak (Ae ?_))
  iterate 2 refine ls F W Aa (Ah F Aa).q fun a w F W => ?_
  refine ls F W Aa (B4 (r := Br) (l := p0) Hn Aa F Aa (Av h_v1)).q fun a w F W => ?_
  refine ls F W Aa (BS F Aa Aa).q fun a w F W => ?_
  refine Ag (Ad ?_)
  refine AA F Aa (fun hb => ?_) fun hb => ?_
  ·
   have H := AU (Bd hb) H
   rw [hb] at F
   clear hb
   refine Az (Ad (Ak (AB (Ak ?_))))
   refine DA W MO (by kernel_rfl) ?_
   iterate 2 refine qs F Aa (Ah F Aa).q fun a F => ?_
   obtain ⟨x2, h1, H⟩ := Aq H
   refine qs F Aa (Bl (r := Br) LK F Aa Aa (Av h_v1) h1).q fun a F => ?_
   refine qs F Aa (Ba (y := Value.agg #[.int .i64 x2.1, .int .i64 x2.2.1, .int .i64 x2.2.2]) (j := 0) (i := x1) F Aa Aa (Av h_v1) h1 LS.to LT Aa).q fun a F => ?_
   iterate 2 refine qs F Aa (Ah F Aa).q fun a F => ?_
   obtain ⟨x3, h2, H⟩ := Aq H
   refine qs F Aa (Bl (r := Br) LK F Aa Aa (Av h_v2) h2).q fun a F => ?_
   refine qs F Aa (Ba (y := Value.agg #[.int .i64 x3.1, .int .i64 x3.2.1, .int .i64 x3.2.2]) (j := 0) (i := x1) F Aa Aa (Av h_v2) h2 LS.to LT Aa).q fun a F => ?_
   refine qs F Aa (LW (t := decide (x2.1 = x3.1 ∧ x2.2.1 = x3.2.1 ∧ x2.2.2 = x3.2.2)) OA (Oe _ _ _ _ _ _) F Aa Aa).q fun a F => ?_
   refine Bm fun w W => ?_
   refine Ad ?_
   refine AA F Aa (fun hb => ?_) fun hb => ?_
   ·
    have H := AU hb H
    rw [hb] at F
    clear hb
    refine Ak (Ae ?_)
    refine ls F W Aa (Af F Aa).q fun a w F W => ?_
    refine Ag (Ad (Ay (AW ?_)))
    iterate 2 refine AC ?_
    refine AW (AC ?_)
    have H := L2 _ H
    have H := L1 _ H
    have H := AZ H
    subst H
    refine AO (.inl Aa) F W Aa (Au F Aa) ?_
    exact ⟨rfl, W.done⟩
   have H := AV (by rw [hb]; decide) H
   rw [hb] at F
   clear hb
   refine Az (A5 (Ad (Ae ?_)))
   refine ls F W Aa (Ah F Aa).q fun a w F W => ?_
   refine ls F W Aa (Co F Aa Aa Aa).q fun a w F W => ?_
   refine ls F W Aa (Af F Aa).q fun a w F W => ?_
   refine Ag (Ad ?_)
   exact ⟨_, H, F.re ⟨rfl, Aa, Aa, Aa, trivial⟩, W⟩
  have H := AV (Be hb) H
  rw [hb] at F
  clear hb
  refine BV ?_
  iterate 2 refine Ce ?_
  refine BT (Ad ?_)
  have H := L2 _ H
  exact ⟨H, F.re ⟨rfl, trivial⟩, W⟩
 rintro a w ⟨hj, F, W⟩
 have H := K1 _ hj
 clear hj G1 K1 L1
 refine Ak (Ae ?_)
 refine ls F W Aa (Af F Aa).q fun a w F W => ?_
 refine Ag (Ad (Ay ?_))
 have H := AZ H
 subst H
 refine AO (.inl Aa) F W Aa (Au F Aa) ?_
 exact ⟨rfl, W.done⟩
end Go.Proofs.Ytkjjioigbpkifaa
