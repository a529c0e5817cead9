/- The functions of layer 41, Ec. Conditions: none. -/
import Derived.Test.YtpmhmemmniiomaaDoorcA1
namespace Go.Proofs.YtpmhmemmniiomaaDoor
open Go Go.RowKit
set_option linter.unusedVariables false
set_option linter.unusedSimpArgs false
set_option maxRecDepth 20000
theorem IE : Has Tryd.prog 16 := ⟨fun args w => Ao Tryd.func16 rfl (by decide) args w⟩
noncomputable def BR (p0 : List (Int × Int × Int × Int × List Int × Int × Int × Int)) (p1 : List (Int × Int × Int × Int × List Int × Int × Int × Int)) : Int → Option (Int ⊕ (Unit ⊕ Bool))
  | x1 => (if x1 < (p0.length : Int) then (ix p0 x1).bind fun x2 => (ix p1 x1).bind fun x3 => (if x2.1 ≠ x3.1 then some true else (if x2.2.1 ≠ x3.2.1 then some true else (if x2.2.2.1 ≠ x3.2.2.1 then some true else (if x2.2.2.2.1 ≠ x3.2.2.2.1 then some true else (if x2.2.2.2.2.2.1 ≠ x3.2.2.2.2.2.1 then some true else (if x2.2.2.2.2.2.2.1 ≠ x3.2.2.2.2.2.2.1 then some true else (if x2.2.2.2.2.2.2.2 ≠ x3.2.2.2.2.2.2.2 then some true else (C3 x2.2.2.2.2.1 x3.2.2.2.2.1).bind fun x5 => some (!x5)))))))).bind fun x4 => (if x4 = true then some (.inr (.inr false)) else some (.inl (DS (x1 + 1)))) else some (.inr (.inl ())))
noncomputable def Cd (p0 : List (Int × Int × Int × Int × List Int × Int × Int × Int)) (p1 : List (Int × Int × Int × Int × List Int × Int × Int × Int)) : Option Bool := (if (p0.length : Int) ≠ (p1.length : Int) then some false else HY (AP (BR p0 p1) 0) fun _ => some true)
theorem DW (Y : Nat → Prop) (w0 : World) (v1 : Value) (v2 : Value) (p0 : List (Int × Int × Int × Int × List Int × Int × Int × Int)) (p1 : List (Int × Int × Int × Int × List Int × Int × Int × Int)) (r : Bool) (H : Cd p0 p1 = some r) (h_v1 : Sl w0 (NX []) Cf v1 p0) (h_v2 : Sl w0 (NX []) Cf v2 p1) :
    Calls Tryd.prog 8 #[v1, v2] w0 fun e w' => e = .returned (.bool r) ∧ Below w0.heap.size w0 w' := by
 refine enter Tryd.func8 Aa Tryd.ntmps8 Aa fun a F => ?_
 have W := Stw.start Y w0
 obtain ⟨v3, h1, h_v1⟩ := h_v1.ex Ce
 obtain ⟨v4, h2, h_v2⟩ := h_v2.ex Ce
 unfold Cd at H
 refine Ai (Ac ?_)
 refine ls F W Aa (Ah F Aa).q fun a w F W => ?_
 refine Ae (Ad (Ai (Ai (Ac ?_))))
 refine ls F W Aa (Ag F Aa).q fun a w F W => ?_
 refine ls F W Aa (BD (r := Cf) (l := p0) FQ Aa F Aa (A3 Ce h1 (Ax h_v1))).q fun a w F W => ?_
 refine ls F W Aa (Ag F Aa).q fun a w F W => ?_
 refine ls F W Aa (BD (r := Cf) (l := p1) FQ Aa F Aa (A3 Ce h2 (Ax h_v2))).q fun a w F W => ?_
 refine ls F W Aa (Cl F Aa Aa).q fun a w F W => ?_
 refine Ae (Ad ?_)
 refine AJ F Aa (fun hb => ?_) fun hb => ?_
 ·
  have H := A9 (Bj hb) H
  rw [hb] at F
  clear hb
  refine Ai (Ac ?_)
  refine ls F W Aa (Ah F Aa).q fun a w F W => ?_
  refine Ae (Ad (AQ (Bx ?_)))
  have H := Bf H
  subst H
  refine Bk (.inl Aa) F W Aa (AZ F Aa) ?_
  exact ⟨rfl, W.done⟩
 have H := A5 (Bi hb) H
 rw [hb] at F
 clear hb
 refine AC (Ad ?_)
 obtain ⟨o1, G1, K1, L1⟩ := Ih H
 refine Bq (fun a w => some (Sum.inl ()) = some o1 ∧ Fr 82 [] [(4, .bool false)] a ∧ Stw ⟨Y, [], w0⟩ [] [] w) ?_ ?_
 ·
  have H := G1
  clear G1 K1
  refine Ai (Ac ?_)
  refine ls F W Aa (Ah F Aa).q fun a w F W => ?_
  refine Ae (Ad (AG ?_))
  refine Cj H (fun s a w => Fr 82 [] [(0, v1), (1, v2), (4, .bool false), (5, .int .i64 s)] a ∧ Stw ⟨Y, [], w0⟩ [] [] w) ⟨F.re ⟨rfl, Aa, Aa, Aa, trivial⟩, W⟩ fun s o a w H L2 hR => ?_
  obtain ⟨x1, rfl⟩ : ∃ x, x = s := ⟨s, rfl⟩
  obtain ⟨F, W⟩ := hR
  have F : Fr 82 [] [(0, v1), (1, v2), (4, .bool false), (5, .int .i64 x1)] a := F
  have W : Stw ⟨Y, [], w0⟩ [] [] w := W
  rw [BR] at H
  refine Ai (Ai (Ac ?_))
  iterate 2 refine ls F W Aa (Ag F Aa).q fun a w F W => ?_
  refine ls F W Aa (BD (r := Cf) (l := p0) FQ Aa F Aa (A3 Ce h1 (Ax h_v1))).q fun a w F W => ?_
  refine ls F W Aa (Df F Aa Aa).q fun a w F W => ?_
  refine Ae (Ad ?_)
  refine AJ F Aa (fun hb => ?_) fun hb => ?_
  ·
   have H := A9 (Bj hb) H
   rw [hb] at F
   clear hb
   refine AC (Ad (Ai (AG (Ai ?_))))
   obtain ⟨x2, h3, H⟩ := Am H
   obtain ⟨v5, h4, h5⟩ := Cm h1 h3
   have h6 : EK v5 = [.int .i64 x2.1, .int .i64 x2.2.1, .int .i64 x2.2.2.1, .int .i64 x2.2.2.2.1, (v5.2.2.2.2.1.1), .int .i64 x2.2.2.2.2.2.1, .int .i64 x2.2.2.2.2.2.2.1, .int .i64 x2.2.2.2.2.2.2.2] := congrArg (fun q : Int × Int × Int × Int × List Int × Int × Int × Int => ([.int .i64 q.1, .int .i64 q.2.1, .int .i64 q.2.2.1, .int .i64 q.2.2.2.1, (v5.2.2.2.2.1.1), .int .i64 q.2.2.2.2.2.1, .int .i64 q.2.2.2.2.2.2.1, .int .i64 q.2.2.2.2.2.2.2] : List Value)) h5
   obtain ⟨x3, h7, H⟩ := Am H
   obtain ⟨v6, h8, h9⟩ := Cm h2 h7
   have h10 : EK v6 = [.int .i64 x3.1, .int .i64 x3.2.1, .int .i64 x3.2.2.1, .int .i64 x3.2.2.2.1, (v6.2.2.2.2.1.1), .int .i64 x3.2.2.2.2.2.1, .int .i64 x3.2.2.2.2.2.2.1, .int .i64 x3.2.2.2.2.2.2.2] := congrArg (fun q : Int × Int × Int × Int × List Int × Int × Int × Int => ([.int .i64 q.1, .int .i64 q.2.1, .int .i64 q.2.2.1, .int .i64 q.2.2.2.1, (v6.2.2.2.2.1.1), .int .i64 q.2.2.2.2.2.1, .int .i64 q.2.2.2.2.2.2.1, .int .i64 q.2.2.2.2.2.2.2] : List Value)) h9
   refine GN (fun a w => ∃ b1 : Nat, ∃ b2 : Nat, Fr 82 [] [(0, v1), (1, v2), (4, .bool false), (5, .int .i64 x1), (6, .pointer (some ⟨b1, 0, none⟩)), (7, .pointer (some ⟨b2, 0, none⟩)), (13, .int .i64 x1), (14, v1), (15, .int .i64 (p0.length : Int)), (16, .bool true), (19, v1), (20, .int .i64 x1), (21, .pointer (some ⟨Ds v1, Cg v1 + (x1).toNat * 8, none⟩)), (22, .agg #[.int .i64 x2.1, .int .i64 x2.2.1, .int .i64 x2.2.2.1, .int .i64 x2.2.2.2.1, (v5.2.2.2.2.1.1), .int .i64 x2.2.2.2.2.2.1, .int .i64 x2.2.2.2.2.2.2.1, .int .i64 x2.2.2.2.2.2.2.2]), (23, v2), (24, .int .i64 x1), (25, .pointer (some ⟨Ds v2, Cg v2 + (x1).toNat * 8, none⟩)), (26, .agg #[.int .i64 x3.1, .int .i64 x3.2.1, .int .i64 x3.2.2.1, .int .i64 x3.2.2.2.1, (v6.2.2.2.2.1.1), .int .i64 x3.2.2.2.2.2.1, .int .i64 x3.2.2.2.2.2.2.1, .int .i64 x3.2.2.2.2.2.2.2])] a ∧ Stw ⟨Y, [], w0⟩ [(b2, [.int .i64 x3.1, .int .i64 x3.2.1, .int .i64 x3.2.2.1, .int .i64 x3.2.2.2.1, (v6.2.2.2.2.1.1), .int .i64 x3.2.2.2.2.2.1, .int .i64 x3.2.2.2.2.2.2.1, .int .i64 x3.2.2.2.2.2.2.2]), (b1, [.int .i64 x2.1, .int .i64 x2.2.1, .int .i64 x2.2.2.1, .int .i64 x2.2.2.2.1, (v5.2.2.2.2.1.1), .int .i64 x2.2.2.2.2.2.1, .int .i64 x2.2.2.2.2.2.2.1, .int .i64 x2.2.2.2.2.2.2.2])] [] w) ?_ ?_
   ·
    refine GC (PT.st 0 (PT.st 1 (PT.st 2 (PT.st 3 (PT.st 4 (PT.st 5 (PT.st 6 (PT.st 7 (PT.alt 8 (PT.alt 9 (PT.alt 10 (PT.alt 11 PT.done PT.stop) PT.stop) PT.stop) (PT.alt 9 (PT.alt 8 (PT.alt 10 (PT.alt 11 PT.done PT.stop) PT.stop) PT.stop) PT.stop)))))))))) (CN ⟨Y, [], w0⟩ [] []) (fun ch a d v w h => by cases d <;> exact h) MO (by kernel_rfl) W (fun w W => ⟨_, _, W, As, As⟩) fun w W => ?_
    iterate 2 refine FJ (R := []) F Aa Aa (yC fun M Z hN hZ => Ag F Aa) Aa Aa fun a F => ?_
    refine FJ (R := []) F Aa Aa (yC fun M Z hN hZ => A0 (r := FX) GJ F Aa Aa (Ax h_v1) h4) Aa Aa fun a F => ?_
    refine FJ (R := []) F Aa Aa (yC fun M Z hN hZ => AD (y := Value.agg #[.int .i64 x2.1, .int .i64 x2.2.1, .int .i64 x2.2.2.1, .int .i64 x2.2.2.2.1, (v5.2.2.2.2.1.1), .int .i64 x2.2.2.2.2.2.1, .int .i64 x2.2.2.2.2.2.2.1, .int .i64 x2.2.2.2.2.2.2.2]) (j := 0) (i := x1) (enc := EK) F Aa Aa (Ax h_v1) h4 GK HE (by rw [h6]; rfl)) Aa Aa fun a F => ?_
    iterate 2 refine FJ (R := []) F Aa Aa (yC fun M Z hN hZ => Ag F Aa) Aa Aa fun a F => ?_
    refine FJ (R := []) F Aa Aa (yC fun M Z hN hZ => A0 (r := FX) GJ F Aa Aa (Ax h_v2) h8) Aa Aa fun a F => ?_
    refine FJ (R := []) F Aa Aa (yC fun M Z hN hZ => AD (y := Value.agg #[.int .i64 x3.1, .int .i64 x3.2.1, .int .i64 x3.2.2.1, .int .i64 x3.2.2.2.1, (v6.2.2.2.2.1.1), .int .i64 x3.2.2.2.2.2.1, .int .i64 x3.2.2.2.2.2.2.1, .int .i64 x3.2.2.2.2.2.2.2]) (j := 0) (i := x1) (enc := EK) F Aa Aa (Ax h_v2) h8 GK HE (by rw [h10]; rfl)) Aa Aa fun a F => ?_
    refine HB Aa ?_ ?_
    ·
     refine CG (cs := [.int .i64 0, .int .i64 0, .int .i64 0, .int .i64 0, .slice none 0 0, .int .i64 0, .int .i64 0, .int .i64 0]) F W Aa HL Aa fun b1 a w F W => ?_
     refine Ci (N2 := []) (NZ2 := []) (N3 := []) (NZ3 := []) W Aa Aa As As ?_
     refine ED Aa ?_
     refine CG (cs := [.int .i64 0, .int .i64 0, .int .i64 0, .int .i64 0, .slice none 0 0, .int .i64 0, .int .i64 0, .int .i64 0]) F W Aa HL Aa fun b2 a w F W => ?_
     refine Ci (N2 := []) (NZ2 := []) (N3 := []) (NZ3 := []) W Aa Aa As As ?_
     refine ED Aa ?_
     refine Cn (vs := [.int .i64 x2.1, .int .i64 x2.2.1, .int .i64 x2.2.2.1, .int .i64 x2.2.2.2.1, (v5.2.2.2.2.1.1), .int .i64 x2.2.2.2.2.2.1, .int .i64 x2.2.2.2.2.2.2.1, .int .i64 x2.2.2.2.2.2.2.2]) (M' := [(b2, [.int .i64 0, .int .i64 0, .int .i64 0, .int .i64 0, .slice none 0 0, .int .i64 0, .int .i64 0, .int .i64 0]), (b1, [.int .i64 x2.1, .int .i64 x2.2.1, .int .i64 x2.2.2.1, .int .i64 x2.2.2.2.1, (v5.2.2.2.2.1.1), .int .i64 x2.2.2.2.2.2.1, .int .i64 x2.2.2.2.2.2.2.1, .int .i64 x2.2.2.2.2.2.2.2])]) 1 F W Aa Aa Aa HE Aa Aa Aa (Al Aa (Al Aa (Al Aa (Al Aa (Al ((B9 (Ax h_v1) h4 (Aq.snd (Aq.snd (Aq.snd (Aq.snd (Aq.fst Aq.here))))) (congrArg (fun q : Int × Int × Int × Int × List Int × Int × Int × Int => q.2.2.2.2.1) h5)) _ W).one (Al Aa (Al Aa (Al Aa C4)))))))) Aa fun w W => ?_
     refine Ci (N2 := []) (NZ2 := []) (N3 := []) (NZ3 := []) W Aa Aa As As ?_
     refine ED Aa ?_
     refine Cn (vs := [.int .i64 x3.1, .int .i64 x3.2.1, .int .i64 x3.2.2.1, .int .i64 x3.2.2.2.1, (v6.2.2.2.2.1.1), .int .i64 x3.2.2.2.2.2.1, .int .i64 x3.2.2.2.2.2.2.1, .int .i64 x3.2.2.2.2.2.2.2]) (M' := [(b2, [.int .i64 x3.1, .int .i64 x3.2.1, .int .i64 x3.2.2.1, .int .i64 x3.2.2.2.1, (v6.2.2.2.2.1.1), .int .i64 x3.2.2.2.2.2.1, .int .i64 x3.2.2.2.2.2.2.1, .int .i64 x3.2.2.2.2.2.2.2]), (b1, [.int .i64 x2.1, .int .i64 x2.2.1, .int .i64 x2.2.2.1, .int .i64 x2.2.2.2.1, (v5.2.2.2.2.1.1), .int .i64 x2.2.2.2.2.2.1, .int .i64 x2.2.2.2.2.2.2.1, .int .i64 x2.2.2.2.2.2.2.2])]) 0 F W Aa Aa Aa HE Aa Aa Aa (Al Aa (Al Aa (Al Aa (Al Aa (Al ((B9 (Ax h_v2) h8 (Aq.snd (Aq.snd (Aq.snd (Aq.snd (Aq.fst Aq.here))))) (congrArg (fun q : Int × Int × Int × Int × List Int × Int × Int × Int => q.2.2.2.2.1) h9)) _ W).one (Al Aa (Al Aa (Al Aa C4)))))))) Aa fun w W => ?_
     refine Ci (N2 := []) (NZ2 := []) (N3 := []) (NZ3 := []) W Aa Aa As As ?_
     have W := W.frontM (i := 1) Aa Aa
     have W := W.frontM (i := 1) Aa Aa
     refine Gq ?_
     exact ⟨b1, b2, F.re ⟨rfl, Aa, Aa, Aa, Aa, Aa, Aa, Aa, Aa, Aa, Aa, Aa, Aa, Aa, Aa, Aa, Aa, Aa, trivial⟩, W⟩
    refine HB Aa ?_ ?_
    ·
     refine CG (cs := [.int .i64 0, .int .i64 0, .int .i64 0, .int .i64 0, .slice none 0 0, .int .i64 0, .int .i64 0, .int .i64 0]) F W Aa HL Aa fun b2 a w F W => ?_
     refine Ci (N2 := []) (NZ2 := []) (N3 := []) (NZ3 := []) W Aa Aa As As ?_
     refine ED Aa ?_
     refine CG (cs := [.int .i64 0, .int .i64 0, .int .i64 0, .int .i64 0, .slice none 0 0, .int .i64 0, .int .i64 0, .int .i64 0]) F W Aa HL Aa fun b1 a w F W => ?_
     refine Ci (N2 := []) (NZ2 := []) (N3 := []) (NZ3 := []) W Aa Aa As As ?_
     refine ED Aa ?_
     refine Cn (vs := [.int .i64 x2.1, .int .i64 x2.2.1, .int .i64 x2.2.2.1, .int .i64 x2.2.2.2.1, (v5.2.2.2.2.1.1), .int .i64 x2.2.2.2.2.2.1, .int .i64 x2.2.2.2.2.2.2.1, .int .i64 x2.2.2.2.2.2.2.2]) (M' := [(b1, [.int .i64 x2.1, .int .i64 x2.2.1, .int .i64 x2.2.2.1, .int .i64 x2.2.2.2.1, (v5.2.2.2.2.1.1), .int .i64 x2.2.2.2.2.2.1, .int .i64 x2.2.2.2.2.2.2.1, .int .i64 x2.2.2.2.2.2.2.2]), (b2, [.int .i64 0, .int .i64 0, .int .i64 0, .int .i64 0, .slice none 0 0, .int .i64 0, .int .i64 0, .int .i64 0])]) 0 F W Aa Aa Aa HE Aa Aa Aa (Al Aa (Al Aa (Al Aa (Al Aa (Al ((B9 (Ax h_v1) h4 (Aq.snd (Aq.snd (Aq.snd (Aq.snd (Aq.fst Aq.here))))) (congrArg (fun q : Int × Int × Int × Int × List Int × Int × Int × Int => q.2.2.2.2.1) h5)) _ W).one (Al Aa (Al Aa (Al Aa C4)))))))) Aa fun w W => ?_
     refine Ci (N2 := []) (NZ2 := []) (N3 := []) (NZ3 := []) W Aa Aa As As ?_
     refine ED Aa ?_
     refine Cn (vs := [.int .i64 x3.1, .int .i64 x3.2.1, .int .i64 x3.2.2.1, .int .i64 x3.2.2.2.1, (v6.2.2.2.2.1.1), .int .i64 x3.2.2.2.2.2.1, .int .i64 x3.2.2.2.2.2.2.1, .int .i64 x3.2.2.2.2.2.2.2]) (M' := [(b1, [.int .i64 x2.1, .int .i64 x2.2.1, .int .i64 x2.2.2.1, .int .i64 x2.2.2.2.1, (v5.2.2.2.2.1.1), .int .i64 x2.2.2.2.2.2.1, .int .i64 x2.2.2.2.2.2.2.1, .int .i64 x2.2.2.2.2.2.2.2]), (b2, [.int .i64 x3.1, .int .i64 x3.2.1, .int .i64 x3.2.2.1, .int .i64 x3.2.2.2.1, (v6.2.2.2.2.1.1), .int .i64 x3.2.2.2.2.2.1, .int .i64 x3.2.2.2.2.2.2.1, .int .i64 x3.2.2.2.2.2.2.2])]) 1 F W Aa Aa Aa HE Aa Aa Aa (Al Aa (Al Aa (Al Aa (Al Aa (Al ((B9 (Ax h_v2) h8 (Aq.snd (Aq.snd (Aq.snd (Aq.snd (Aq.fst Aq.here))))) (congrArg (fun q : Int × Int × Int × Int × List Int × Int × Int × Int => q.2.2.2.2.1) h9)) _ W).one (Al Aa (Al Aa (Al Aa C4)))))))) Aa fun w W => ?_
     refine Ci (N2 := []) (NZ2 := []) (N3 := []) (NZ3 := []) W Aa Aa As As ?_
     have W := W.frontM (i := 1) Aa Aa
     refine Gq ?_
     exact ⟨b1, b2, F.re ⟨rfl, Aa, Aa, Aa, Aa, Aa, Aa, Aa, Aa, Aa, Aa, Aa, Aa, Aa, Aa, Aa, Aa, Aa, trivial⟩, W⟩
    exact trivial
   rintro a w ⟨b1, b2, F, W⟩
   refine Ad ?_
   obtain ⟨o3, G3, K3⟩ := Am H
   refine Bq (fun a w => ∃ x4 : Bool, some (x4) = some o3 ∧ Fr 82 [] [(0, v1), (1, v2), (4, .bool false), (5, .int .i64 x1), (81, .bool x4)] a ∧ Stw ⟨Y, [], w0⟩ [(b2, [.int .i64 x3.1, .int .i64 x3.2.1, .int .i64 x3.2.2.1, .int .i64 x3.2.2.2.1, (v6.2.2.2.2.1.1), .int .i64 x3.2.2.2.2.2.1, .int .i64 x3.2.2.2.2.2.2.1, .int .i64 x3.2.2.2.2.2.2.2]), (b1, [.int .i64 x2.1, .int .i64 x2.2.1, .int .i64 x2.2.2.1, .int .i64 x2.2.2.2.1, (v5.2.2.2.2.1.1), .int .i64 x2.2.2.2.2.2.1, .int .i64 x2.2.2.2.2.2.2.1, .int .i64 x2.2.2.2.2.2.2.2])] [] w) ?_ ?_
   ·
    have H := G3
    clear G3 K3
    refine Ac ?_
    refine ls F W Aa (Ab CA Aa Aa Aa T3 F Aa 0 Aa).q fun a w F W => ?_
    refine ls F W Aa (Ap (v := Value.int .i64 x2.1) 1 F Aa Aa T3 Aa).q fun a w F W => ?_
    refine ls F W Aa (Ab CA Aa Aa Aa T3 F Aa 0 Aa).q fun a w F W => ?_
    refine ls F W Aa (Ap (v := Value.int .i64 x3.1) 0 F Aa Aa T3 Aa).q fun a w F W => ?_
    refine ls F W Aa (Cl F Aa Aa).q fun a w F W => ?_
    refine ls F W Aa (Ag F Aa).q fun a w F W => ?_
    rcases Bool.eq_false_or_eq_true (decide (x2.1 ≠ x3.1)) with hb | hb
    ·
     have H := A9 (Bj hb) H
     rw [hb] at F
     clear hb
     iterate 5 refine C1 F Aa Aa Aa Aa Aa Aa Aa fun a F => ?_
     refine ls F W Aa (Av F Aa Aa Aa).q fun a w F W => ?_
     refine ls F W Aa (Ag F Aa).q fun a w F W => ?_
     iterate 5 refine C1 F Aa Aa Aa Aa Aa Aa Aa fun a F => ?_
     refine ls F W Aa (Av F Aa Aa Aa).q fun a w F W => ?_
     refine ls F W Aa (Ag F Aa).q fun a w F W => ?_
     iterate 5 refine C1 F Aa Aa Aa Aa Aa Aa Aa fun a F => ?_
     refine ls F W Aa (Av F Aa Aa Aa).q fun a w F W => ?_
     refine ls F W Aa (Ag F Aa).q fun a w F W => ?_
     iterate 5 refine C1 F Aa Aa Aa Aa Aa Aa Aa fun a F => ?_
     refine ls F W Aa (Av F Aa Aa Aa).q fun a w F W => ?_
     refine ls F W Aa (Ag F Aa).q fun a w F W => ?_
     iterate 5 refine C1 F Aa Aa Aa Aa Aa Aa Aa fun a F => ?_
     refine ls F W Aa (Av F Aa Aa Aa).q fun a w F W => ?_
     refine ls F W Aa (Ag F Aa).q fun a w F W => ?_
     iterate 5 refine C1 F Aa Aa Aa Aa Aa Aa Aa fun a F => ?_
     refine ls F W Aa (Av F Aa Aa Aa).q fun a w F W => ?_
     refine ls F W Aa (Ag F Aa).q fun a w F W => ?_
     iterate 6 refine C1 F Aa Aa Aa Aa Aa Aa Aa fun a F => ?_
     refine ls F W Aa (Av F Aa Aa Aa).q fun a w F W => ?_
     refine Ae (Ad ?_)
     have W := W.frontM (i := 1) Aa Aa
     have W := W.frontM (i := 1) Aa Aa
     exact ⟨_, H, F.re ⟨rfl, Aa, Aa, Aa, Aa, trivial⟩, W⟩
    have H := A5 (Bi hb) H
    rw [hb] at F
    clear hb
    refine AK F W (Af F Aa Aa Aa Aa) Aa (Au Aa) (Ab CA Aa Aa Aa T3 F Aa 1 Aa).q fun a w F W => ?_
    refine AK F W (Af F Aa Aa Aa Aa) Aa (Au Aa) (Ap (v := Value.int .i64 x2.2.1) 1 F Aa Aa T3 Aa).q fun a w F W => ?_
    refine AK F W (Af F Aa Aa Aa Aa) Aa (Au Aa) (Ab CA Aa Aa Aa T3 F Aa 1 Aa).q fun a w F W => ?_
    refine AK F W (Af F Aa Aa Aa Aa) Aa (Au Aa) (Ap (v := Value.int .i64 x3.2.1) 0 F Aa Aa T3 Aa).q fun a w F W => ?_
    refine AK F W (Af F Aa Aa Aa Aa) Aa (Au Aa) (Cl F Aa Aa).q fun a w F W => ?_
    refine ls F W Aa (AN F Aa Aa Aa).q fun a w F W => ?_
    refine ls F W Aa (Ag F Aa).q fun a w F W => ?_
    rcases Bool.eq_false_or_eq_true (decide (x2.2.1 ≠ x3.2.1)) with hb | hb
    ·
     have H := A9 (Bj hb) H
     rw [hb] at F
     clear hb
     iterate 5 refine C1 F Aa Aa Aa Aa Aa Aa Aa fun a F => ?_
     refine ls F W Aa (Av F Aa Aa Aa).q fun a w F W => ?_
     refine ls F W Aa (Ag F Aa).q fun a w F W => ?_
     iterate 5 refine C1 F Aa Aa Aa Aa Aa Aa Aa fun a F => ?_
     refine ls F W Aa (Av F Aa Aa Aa).q fun a w F W => ?_
     refine ls F W Aa (Ag F Aa).q fun a w F W => ?_
     iterate 5 refine C1 F Aa Aa Aa Aa Aa Aa Aa fun a F => ?_
     refine ls F W Aa (Av F Aa Aa Aa).q fun a w F W => ?_
     refine ls F W Aa (Ag F Aa).q fun a w F W => ?_
     iterate 5 refine C1 F Aa Aa Aa Aa Aa Aa Aa fun a F => ?_
     refine ls F W Aa (Av F Aa Aa Aa).q fun a w F W => ?_
     refine ls F W Aa (Ag F Aa).q fun a w F W => ?_
     iterate 5 refine C1 F Aa Aa Aa Aa Aa Aa Aa fun a F => ?_
     refine ls F W Aa (Av F Aa Aa Aa).q fun a w F W => ?_
     refine ls F W Aa (Ag F Aa).q fun a w F W => ?_
     iterate 6 refine C1 F Aa Aa Aa Aa Aa Aa Aa fun a F => ?_
     refine ls F W Aa (Av F Aa Aa Aa).q fun a w F W => ?_
     refine Ae (Ad ?_)
     have W := W.frontM (i := 1) Aa Aa
     have W := W.frontM (i := 1) Aa Aa
     exact ⟨_, H, F.re ⟨rfl, Aa, Aa, Aa, Aa, trivial⟩, W⟩
    have H := A5 (Bi hb) H
    rw [hb] at F
    clear hb
    refine AK F W (Af F Aa Aa Aa Aa) Aa (Au Aa) (Ab CA Aa Aa Aa T3 F Aa 2 Aa).q fun a w F W => ?_
    refine AK F W (Af F Aa Aa Aa Aa) Aa (Au Aa) (Ap (v := Value.int .i64 x2.2.2.1) 1 F Aa Aa T3 Aa).q fun a w F W => ?_
    refine AK F W (Af F Aa Aa Aa Aa) Aa (Au Aa) (Ab CA Aa Aa Aa T3 F Aa 2 Aa).q fun a w F W => ?_
    refine AK F W (Af F Aa Aa Aa Aa) Aa (Au Aa) (Ap (v := Value.int .i64 x3.2.2.1) 0 F Aa Aa T3 Aa).q fun a w F W => ?_
    refine AK F W (Af F Aa Aa Aa Aa) Aa (Au Aa) (Cl F Aa Aa).q fun a w F W => ?_
    refine ls F W Aa (AN F Aa Aa Aa).q fun a w F W => ?_
    refine ls F W Aa (Ag F Aa).q fun a w F W => ?_
    rcases Bool.eq_false_or_eq_true (decide (x2.2.2.1 ≠ x3.2.2.1)) with hb | hb
    ·
     have H := A9 (Bj hb) H
     rw [hb] at F
     clear hb
     iterate 5 refine C1 F Aa Aa Aa Aa Aa Aa Aa fun a F => ?_
     refine ls F W Aa (Av F Aa Aa Aa).q fun a w F W => ?_
     refine ls F W Aa (Ag F Aa).q fun a w F W => ?_
     iterate 5 refine C1 F Aa Aa Aa Aa Aa Aa Aa fun a F => ?_
     refine ls F W Aa (Av F Aa Aa Aa).q fun a w F W => ?_
     refine ls F W Aa (Ag F Aa).q fun a w F W => ?_
     iterate 5 refine C1 F Aa Aa Aa Aa Aa Aa Aa fun a F => ?_
     refine ls F W Aa (Av F Aa Aa Aa).q fun a w F W => ?_
     refine ls F W Aa (Ag F Aa).q fun a w F W => ?_
     iterate 5 refine C1 F Aa Aa Aa Aa Aa Aa Aa fun a F => ?_
     refine ls F W Aa (Av F Aa Aa Aa).q fun a w F W => ?_
     refine ls F W Aa (Ag F Aa).q fun a w F W => ?_
     iterate 6 refine C1 F Aa Aa Aa Aa Aa Aa Aa fun a F => ?_
     refine ls F W Aa (Av F Aa Aa Aa).q fun a w F W => ?_
     refine Ae (Ad ?_)
     have W := W.frontM (i := 1) Aa Aa
     have W := W.frontM (i := 1) Aa Aa
     exact ⟨_, H, F.re ⟨rfl, Aa, Aa, Aa, Aa, trivial⟩, W⟩
    have H := A5 (Bi hb) H
    rw [hb] at F
    clear hb
    refine AK F W (Af F Aa Aa Aa Aa) Aa (Au Aa) (Ab CA Aa Aa Aa T3 F Aa 3 Aa).q fun a w F W => ?_
    refine AK F W (Af F Aa Aa Aa Aa) Aa (Au Aa) (Ap (v := Value.int .i64 x2.2.2.2.1) 1 F Aa Aa T3 Aa).q fun a w F W => ?_
    refine AK F W (Af F Aa Aa Aa Aa) Aa (Au Aa) (Ab CA Aa Aa Aa T3 F Aa 3 Aa).q fun a w F W => ?_
    refine AK F W (Af F Aa Aa Aa Aa) Aa (Au Aa) (Ap (v := Value.int .i64 x3.2.2.2.1) 0 F Aa Aa T3 Aa).q fun a w F W => ?_
    refine AK F W (Af F Aa Aa Aa Aa) Aa (Au Aa) (Cl F Aa Aa).q fun a w F W => ?_
    refine ls F W Aa (AN F Aa Aa Aa).q fun a w F W => ?_
    refine ls F W Aa (Ag F Aa).q fun a w F W => ?_
    rcases Bool.eq_false_or_eq_true (decide (x2.2.2.2.1 ≠ x3.2.2.2.1)) with hb | hb
    ·
     have H := A9 (Bj hb) H
     rw [hb] at F
     clear hb
     iterate 5 refine C1 F Aa Aa Aa Aa Aa Aa Aa fun a F => ?_
     refine ls F W Aa (Av F Aa Aa Aa).q fun a w F W => ?_
     refine ls F W Aa (Ag F Aa).q fun a w F W => ?_
     iterate 5 refine C1 F Aa Aa Aa Aa Aa Aa Aa fun a F => ?_
     refine ls F W Aa (Av F Aa Aa Aa).q fun a w F W => ?_
     refine ls F W Aa (Ag F Aa).q fun a w F W => ?_
     iterate 5 refine C1 F Aa Aa Aa Aa Aa Aa Aa fun a F => ?_
     refine ls F W Aa (Av F Aa Aa Aa).q fun a w F W => ?_
     refine ls F W Aa (Ag F Aa).q fun a w F W => ?_
     iterate 6 refine C1 F Aa Aa Aa Aa Aa Aa Aa fun a F => ?_
     refine ls F W Aa (Av F Aa Aa Aa).q fun a w F W => ?_
     refine Ae (Ad ?_)
     have W := W.frontM (i := 1) Aa Aa
     have W := W.frontM (i := 1) Aa Aa
     exact ⟨_, H, F.re ⟨rfl, Aa, Aa, Aa, Aa, trivial⟩, W⟩
    have H := A5 (Bi hb) H
    rw [hb] at F
    clear hb
    refine AK F W (Af F Aa Aa Aa Aa) Aa (Au Aa) (Ab CA Aa Aa Aa T3 F Aa 5 Aa).q fun a w F W => ?_
    refine AK F W (Af F Aa Aa Aa Aa) Aa (Au Aa) (Ap (v := Value.int .i64 x2.2.2.2.2.2.1) 1 F Aa Aa T3 Aa).q fun a w F W => ?_
    refine AK F W (Af F Aa Aa Aa Aa) Aa (Au Aa) (Ab CA Aa Aa Aa T3 F Aa 5 Aa).q fun a w F W => ?_
    refine AK F W (Af F Aa Aa Aa Aa) Aa (Au Aa) (Ap (v := Value.int .i64 x3.2.2.2.2.2.1) 0 F Aa Aa T3 Aa).q fun a w F W => ?_
    refine AK F W (Af F Aa Aa Aa Aa) Aa (Au Aa) (Cl F Aa Aa).q fun a w F W => ?_
    refine ls F W Aa (AN F Aa Aa Aa).q fun a w F W => ?_
    refine ls F W Aa (Ag F Aa).q fun a w F W => ?_
    rcases Bool.eq_false_or_eq_true (decide (x2.2.2.2.2.2.1 ≠ x3.2.2.2.2.2.1)) with hb | hb
    ·
     have H := A9 (Bj hb) H
     rw [hb] at F
     clear hb
     iterate 5 refine C1 F Aa Aa Aa Aa Aa Aa Aa fun a F => ?_
     refine ls F W Aa (Av F Aa Aa Aa).q fun a w F W => ?_
     refine ls F W Aa (Ag F Aa).q fun a w F W => ?_
     iterate 5 refine C1 F Aa Aa Aa Aa Aa Aa Aa fun a F => ?_
     refine ls F W Aa (Av F Aa Aa Aa).q fun a w F W => ?_
     refine ls F W Aa (Ag F Aa).q fun a w F W => ?_
     iterate 6 refine C1 F Aa Aa Aa Aa Aa Aa Aa fun a F => ?_
     refine ls F W Aa (Av F Aa Aa Aa).q fun a w F W => ?_
     refine Ae (Ad ?_)
     have W := W.frontM (i := 1) Aa Aa
     have W := W.frontM (i := 1) Aa Aa
     exact ⟨_, H, F.re ⟨rfl, Aa, Aa, Aa, Aa, trivial⟩, W⟩
    have H := A5 (Bi hb) H
    rw [hb] at F
    clear hb
    refine AK F W (Af F Aa Aa Aa Aa) Aa (Au Aa) (Ab CA Aa Aa Aa T3 F Aa 6 Aa).q fun a w F W => ?_
    refine AK F W (Af F Aa Aa Aa Aa) Aa (Au Aa) (Ap (v := Value.int .i64 x2.2.2.2.2.2.2.1) 1 F Aa Aa T3 Aa).q fun a w F W => ?_
    refine AK F W (Af F Aa Aa Aa Aa) Aa (Au Aa) (Ab CA Aa Aa Aa T3 F Aa 6 Aa).q fun a w F W => ?_
    refine AK F W (Af F Aa Aa Aa Aa) Aa (Au Aa) (Ap (v := Value.int .i64 x3.2.2.2.2.2.2.1) 0 F Aa Aa T3 Aa).q fun a w F W => ?_
    refine AK F W (Af F Aa Aa Aa Aa) Aa (Au Aa) (Cl F Aa Aa).q fun a w F W => ?_
    refine ls F W Aa (AN F Aa Aa Aa).q fun a w F W => ?_
    refine ls F W Aa (Ag F Aa).q fun a w F W => ?_
    rcases Bool.eq_false_or_eq_true (decide (x2.2.2.2.2.2.2.1 ≠ x3.2.2.2.2.2.2.1)) with hb | hb
    ·
     have H := A9 (Bj hb) H
     rw [hb] at F
     clear hb
     iterate 5 refine C1 F Aa Aa Aa Aa Aa Aa Aa fun a F => ?_
     refine ls F W Aa (Av F Aa Aa Aa).q fun a w F W => ?_
     refine ls F W Aa (Ag F Aa).q fun a w F W => ?_
     iterate 6 refine C1 F Aa Aa Aa Aa Aa Aa Aa fun a F => ?_
     refine ls F W Aa (Av F Aa Aa Aa).q fun a w F W => ?_
     refine Ae (Ad ?_)
     have W := W.frontM (i := 1) Aa Aa
     have W := W.frontM (i := 1) Aa Aa
     exact ⟨_, H, F.re ⟨rfl, Aa, Aa, Aa, Aa, trivial⟩, W⟩
    have H := A5 (Bi hb) H
    rw [hb] at F
    clear hb
    refine AK F W (Af F Aa Aa Aa Aa) Aa (Au Aa) (Ab CA Aa Aa Aa T3 F Aa 7 Aa).q fun a w F W => ?_
    refine AK F W (Af F Aa Aa Aa Aa) Aa (Au Aa) (Ap (v := Value.int .i64 x2.2.2.2.2.2.2.2) 1 F Aa Aa T3 Aa).q fun a w F W => ?_
    refine AK F W (Af F Aa Aa Aa Aa) Aa (Au Aa) (Ab CA Aa Aa Aa T3 F Aa 7 Aa).q fun a w F W => ?_
    refine AK F W (Af F Aa Aa Aa Aa) Aa (Au Aa) (Ap (v := Value.int .i64 x3.2.2.2.2.2.2.2) 0 F Aa Aa T3 Aa).q fun a w F W => ?_
    refine AK F W (Af F Aa Aa Aa Aa) Aa (Au Aa) (Cl F Aa Aa).q fun a w F W => ?_
    refine ls F W Aa (AN F Aa Aa Aa).q fun a w F W => ?_
    refine ls F W Aa (Ag F Aa).q fun a w F W => ?_
    rcases Bool.eq_false_or_eq_true (decide (x2.2.2.2.2.2.2.2 ≠ x3.2.2.2.2.2.2.2)) with hb | hb
    ·
     have H := A9 (Bj hb) H
     rw [hb] at F
     clear hb
     iterate 6 refine C1 F Aa Aa Aa Aa Aa Aa Aa fun a F => ?_
     refine ls F W Aa (Av F Aa Aa Aa).q fun a w F W => ?_
     refine Ae (Ad ?_)
     have W := W.frontM (i := 1) Aa Aa
     have W := W.frontM (i := 1) Aa Aa
     exact ⟨_, H, F.re ⟨rfl, Aa, Aa, Aa, Aa, trivial⟩, W⟩
    have H := A5 (Bi hb) H
    rw [hb] at F
    clear hb
    refine AK F W (Af F Aa Aa Aa Aa) Aa (Au Aa) (Ab CA Aa Aa Aa DU F Aa 4 Aa).q fun a w F W => ?_
    refine AK F W (Af F Aa Aa Aa Aa) Aa (Au Aa) (Ap (v := (v5.2.2.2.2.1.1)) 1 F Aa Aa DU Aa).q fun a w F W => ?_
    refine AK F W (Af F Aa Aa Aa Aa) Aa (Au Aa) (Ab CA Aa Aa Aa DU F Aa 4 Aa).q fun a w F W => ?_
    refine AK F W (Af F Aa Aa Aa Aa) Aa (Au Aa) (Ap (v := (v6.2.2.2.2.1.1)) 0 F Aa Aa DU Aa).q fun a w F W => ?_
    refine GO (Af F Aa Aa Aa Aa) ?_
    obtain ⟨x5, h11, H⟩ := Am H
    refine ls F W Aa (Bg (v := Value.bool x5) F IE Aa (fun w W => Fg any w ((v5.2.2.2.2.1.1)) ((v6.2.2.2.2.1.1)) x2.2.2.2.2.1 x3.2.2.2.2.1 _ h11 (((B9 (Ax h_v1) h4 (Aq.snd (Aq.snd (Aq.snd (Aq.snd (Aq.fst Aq.here))))) (congrArg (fun q : Int × Int × Int × Int × List Int × Int × Int × Int => q.2.2.2.2.1) h5)) : DF _ _ _ _ _ _) w W).nx (((B9 (Ax h_v2) h8 (Aq.snd (Aq.snd (Aq.snd (Aq.snd (Aq.fst Aq.here))))) (congrArg (fun q : Int × Int × Int × Int × List Int × Int × Int × Int => q.2.2.2.2.1) h9)) : DF _ _ _ _ _ _) w W).nx)) fun a w F W => ?_
    refine AK F W (Af F Aa Aa Aa Aa) Aa (Au Aa) (E3 F Aa).q fun a w F W => ?_
    refine ls F W Aa (AN F Aa Aa Aa).q fun a w F W => ?_
    refine Ae (Ad ?_)
    have W := W.frontM (i := 1) Aa Aa
    have W := W.frontM (i := 1) Aa Aa
    exact ⟨_, H, F.re ⟨rfl, Aa, Aa, Aa, Aa, trivial⟩, W⟩
   rintro a w ⟨x4, hj, F, W⟩
   have hj := Bf hj
   subst hj
   have H := K3
   clear G3 K3
   refine AJ F Aa (fun hb => ?_) fun hb => ?_
   ·
    have H := A9 hb H
    rw [hb] at F
    clear hb
    refine Ai (Ac ?_)
    refine ls F W Aa (Ah F Aa).q fun a w F W => ?_
    refine Ae (Ad (AQ (Cq ?_)))
    iterate 2 refine Bx ?_
    refine Cq (Bx ?_)
    have H := L2 _ H
    have H := L1 _ H
    have H := Bf H
    subst H
    refine Bk (.inl Aa) F W Aa (AZ F Aa) ?_
    exact ⟨rfl, W.done⟩
   have H := A5 (by rw [hb]; decide) H
   rw [hb] at F
   clear hb
   refine AC (AW (Ad (Ac ?_)))
   refine ls F W Aa (Ag F Aa).q fun a w F W => ?_
   refine ls F W Aa (Cy F Aa Aa Aa).q fun a w F W => ?_
   refine ls F W Aa (Ah F Aa).q fun a w F W => ?_
   refine Ae (Ad ?_)
   have W := W.sub (M' := []) (Z' := []) (List.nil_sublist _) (List.Sublist.refl _)
   exact ⟨_, H, F.re ⟨rfl, Aa, Aa, Aa, trivial⟩, W⟩
  have H := A5 (Bi hb) H
  rw [hb] at F
  clear hb
  refine Ck ?_
  iterate 2 refine CX ?_
  refine Co (Ad ?_)
  have H := L2 _ H
  exact ⟨H, F.re ⟨rfl, trivial⟩, W⟩
 rintro a w ⟨hj, F, W⟩
 have H := K1 _ hj
 clear hj G1 K1 L1
 refine Ai (Ac ?_)
 refine ls F W Aa (Ah F Aa).q fun a w F W => ?_
 refine Ae (Ad (AQ ?_))
 have H := Bf H
 subst H
 refine Bk (.inl Aa) F W Aa (AZ F Aa) ?_
 exact ⟨rfl, W.done⟩
theorem H8 : Has Tryd.prog 8 := ⟨fun args w => Ao Tryd.func8 rfl (by decide) args w⟩
end Go.Proofs.YtpmhmemmniiomaaDoor
