/- The functions of layer 41, Ec. Conditions: none. -/
import Derived.Test.YtpmhmemmniiomaaDoorcA0
namespace Go.Proofs.YtpmhmemmniiomaaDoor
open Go Go.RowKit
set_option linter.unusedVariables false
set_option linter.unusedSimpArgs false
set_option maxRecDepth 20000
theorem IB : Has Tryd.prog 11 := ⟨fun args w => Ao Tryd.func11 rfl (by decide) args w⟩
noncomputable def B3  : Option Bool := (Ca ([(1, 5, 0, 0, 1, 0), (2, 5, 0, 0, 0, 0), (2, 9, 0, 2, 0, 0), (3, 9, 0, 2, 0, 0)] : List (Int × Int × Int × Int × Int × Int))).bind fun x1 => (if (x1.length : Int) = 1 then (ix x1 0).bind fun x3 => (B4 x3).bind fun x4 => (if x4 = ([48, 58, 32, 49, 62, 48, 32, 97, 116, 32, 53, 58, 32, 48, 32, 50, 32, 103, 111, 110, 101, 32, 48, 32, 97, 116, 32, 57] : List UInt8) then (ix x1 0).bind fun x5 => (if (B8 x5) = 1 then (ix x1 0).bind fun x6 => (BL x6).bind fun x7 => some (!x7) else some false) else some false) else some false).bind fun x2 => some x2
theorem DD (Y : Nat → Prop) (w0 : World)   (r : Bool) (H : B3  = some r) (hG : Gk [] w0) :
    Calls Tryd.prog 5 #[] w0 fun e w' => e = .returned (.bool r) ∧ Below w0.heap.size w0 w' := by
 refine enter Tryd.func5 Aa Tryd.ntmps5 Aa fun a F => ?_
 have W := Stw.start Y w0
 unfold B3 at H
 refine Ai (Ac ?_)
 refine ls F W Aa (Ah F Aa).q fun a w F W => ?_
 refine Ae (Ad (Ai (Ac ?_)))
 refine ls F W Aa (Cp (v := Value.agg #[.int .i64 1, .int .i64 5, .int .i64 0, .int .i64 0, .int .i64 1, .int .i64 0]) HX F Aa Aa Aa).q fun a w F W => ?_
 refine ls F W Aa (Cp (v := Value.agg #[.int .i64 2, .int .i64 5, .int .i64 0, .int .i64 0, .int .i64 0, .int .i64 0]) HX F Aa Aa Aa).q fun a w F W => ?_
 refine ls F W Aa (Cp (v := Value.agg #[.int .i64 2, .int .i64 9, .int .i64 0, .int .i64 2, .int .i64 0, .int .i64 0]) HX F Aa Aa Aa).q fun a w F W => ?_
 refine ls F W Aa (Cp (v := Value.agg #[.int .i64 3, .int .i64 9, .int .i64 0, .int .i64 2, .int .i64 0, .int .i64 0]) HX F Aa Aa Aa).q fun a w F W => ?_
 refine EB (z := Value.agg #[.int .i64 0, .int .i64 0, .int .i64 0, .int .i64 0, .int .i64 0, .int .i64 0]) (cs := [.int .i64 1, .int .i64 5, .int .i64 0, .int .i64 0, .int .i64 1, .int .i64 0, .int .i64 2, .int .i64 5, .int .i64 0, .int .i64 0, .int .i64 0, .int .i64 0, .int .i64 2, .int .i64 9, .int .i64 0, .int .i64 2, .int .i64 0, .int .i64 0, .int .i64 3, .int .i64 9, .int .i64 0, .int .i64 2, .int .i64 0, .int .i64 0]) CK ([(1, 5, 0, 0, 1, 0), (2, 5, 0, 0, 0, 0), (2, 9, 0, 2, 0, 0), (3, 9, 0, 2, 0, 0)] : List (Int × Int × Int × Int × Int × Int)) F W Aa HH H7 Aa Aa Aa Aa Aa Aa (HP.repL _ _ ([(1, 5, 0, 0, 1, 0), (2, 5, 0, 0, 0, 0), (2, 9, 0, 2, 0, 0), (3, 9, 0, 2, 0, 0)] : List (Int × Int × Int × Int × Int × Int))) fun v1 a w F W => ?_
 obtain ⟨x1, h1, H⟩ := Am H
 refine Bd (Ml := []) (Zl := []) (M := []) (Z := [row v1 41 CK ([(1, 5, 0, 0, 1, 0), (2, 5, 0, 0, 0, 0), (2, 9, 0, 2, 0, 0), (3, 9, 0, 2, 0, 0)] : List (Int × Int × Int × Int × Int × Int))]) (β := Value) (rv := fun x => x) (MM := fun x => []) (ZZ := fun x => [row x 34 Eb x1]) F W H6 Aa Aa (fun hL => Di _ w (v1) ([(1, 5, 0, 0, 1, 0), (2, 5, 0, 0, 0, 0), (2, 9, 0, 2, 0, 0), (3, 9, 0, 2, 0, 0)] : List (Int × Int × Int × Int × Int × Int)) _ h1 ((Az 0 Aa) w W).nx) fun x a w F W => ?_
 obtain ⟨v2, rfl⟩ : ∃ y, y = x := ⟨x, rfl⟩
 have W : Stw ⟨Y, [], w0⟩ [] [row v2 34 Eb x1, row v1 41 CK ([(1, 5, 0, 0, 1, 0), (2, 5, 0, 0, 0, 0), (2, 9, 0, 2, 0, 0), (3, 9, 0, 2, 0, 0)] : List (Int × Int × Int × Int × Int × Int))] w := W
 refine ls F W Aa (Ah F Aa).q fun a w F W => ?_
 refine Ae (Ad ?_)
 obtain ⟨o1, G1, K1⟩ := Am H
 refine Bq (fun a w => ∃ x2 : Bool, some (x2) = some o1 ∧ Fr 32 [] [(0, .bool x2)] a ∧ Stw ⟨Y, [], w0⟩ [] [] w) ?_ ?_
 ·
  have H := G1
  clear G1 K1
  obtain ⟨v3, h2, W⟩ := W.exR G8
  refine Ac ?_
  refine ls F W Aa (Ag F Aa).q fun a w F W => ?_
  refine ls F W Aa (BD (r := Eb) (l := x1) GW Aa F Aa (A3 G8 h2 (Az 0 Aa))).q fun a w F W => ?_
  refine ls F W Aa (CR F Aa Aa).q fun a w F W => ?_
  refine ls F W Aa (Ag F Aa).q fun a w F W => ?_
  rcases Bool.eq_false_or_eq_true (decide ((x1.length : Int) = 1)) with hb | hb
  ·
   have H := A9 (Bj hb) H
   rw [hb] at F
   clear hb
   refine AK F W (Af F Aa Aa Aa Aa) Aa (Au Aa) (Ag F Aa).q fun a w F W => ?_
   obtain ⟨x3, h3, H⟩ := Am H
   obtain ⟨v4, h4, h5⟩ := Cm h2 h3
   have h6 : EL v4 = [.int .i64 x3.1, .int .i64 x3.2.1, .int .i64 x3.2.2.1, .int .i64 x3.2.2.2.1, (v4.2.2.2.2.1.1), .int .i64 x3.2.2.2.2.2.1, .int .i64 x3.2.2.2.2.2.2.1, .int .i64 x3.2.2.2.2.2.2.2] := congrArg (fun q : Int × Int × Int × Int × List Int × Int × Int × Int => ([.int .i64 q.1, .int .i64 q.2.1, .int .i64 q.2.2.1, .int .i64 q.2.2.2.1, (v4.2.2.2.2.1.1), .int .i64 q.2.2.2.2.2.1, .int .i64 q.2.2.2.2.2.2.1, .int .i64 q.2.2.2.2.2.2.2] : List Value)) h5
   refine AK F W (Af F Aa Aa Aa Aa) Aa (Au Aa) (A0 (r := F1) Hw F Aa Aa (Az 0 Aa) h4).q fun a w F W => ?_
   refine AK F W (Af F Aa Aa Aa Aa) Aa (Au Aa) (AD (y := Value.agg #[.int .i64 x3.1, .int .i64 x3.2.1, .int .i64 x3.2.2.1, .int .i64 x3.2.2.2.1, (v4.2.2.2.2.1.1), .int .i64 x3.2.2.2.2.2.1, .int .i64 x3.2.2.2.2.2.2.1, .int .i64 x3.2.2.2.2.2.2.2]) (j := 0) (i := 0) (enc := EL) F Aa Aa (Az 0 Aa) h4 GM HG (by rw [h6]; rfl)).q fun a w F W => ?_
   refine GO (Af F Aa Aa Aa Aa) ?_
   obtain ⟨x4, h7, H⟩ := Am H
   refine ls F W Aa (Bg (v := Value.string (bs x4)) F IH Aa (fun w W => ER any w ((v4.2.2.2.2.1.1)) x3 _ h7 (((B9 (Az 0 Aa) h4 (Aq.snd (Aq.snd (Aq.snd (Aq.snd (Aq.fst Aq.here))))) (congrArg (fun q : Int × Int × Int × Int × List Int × Int × Int × Int => q.2.2.2.2.1) h5)) : DF _ _ _ _ _ _) w W).nx (hG.go0 W))) fun a w F W => ?_
   refine AK F W (Af F Aa Aa Aa Aa) Aa (Au Aa) (HR (l := x4) (m := ([48, 58, 32, 49, 62, 48, 32, 97, 116, 32, 53, 58, 32, 48, 32, 50, 32, 103, 111, 110, 101, 32, 48, 32, 97, 116, 32, 57] : List UInt8)) F Aa Aa).q fun a w F W => ?_
   refine ls F W Aa (Av F Aa Aa Aa).q fun a w F W => ?_
   refine ls F W Aa (Ag F Aa).q fun a w F W => ?_
   rcases Bool.eq_false_or_eq_true (decide (x4 = ([48, 58, 32, 49, 62, 48, 32, 97, 116, 32, 53, 58, 32, 48, 32, 50, 32, 103, 111, 110, 101, 32, 48, 32, 97, 116, 32, 57] : List UInt8))) with hb | hb
   ·
    have H := A9 (Bj hb) H
    rw [hb] at F
    clear hb
    refine AK F W (Af F Aa Aa Aa Aa) Aa (Au Aa) (Ag F Aa).q fun a w F W => ?_
    obtain ⟨x5, h8, H⟩ := Am H
    obtain ⟨v5, h9, h10⟩ := Cm h2 h8
    have h11 : EL v5 = [.int .i64 x5.1, .int .i64 x5.2.1, .int .i64 x5.2.2.1, .int .i64 x5.2.2.2.1, (v5.2.2.2.2.1.1), .int .i64 x5.2.2.2.2.2.1, .int .i64 x5.2.2.2.2.2.2.1, .int .i64 x5.2.2.2.2.2.2.2] := congrArg (fun q : Int × Int × Int × Int × List Int × Int × Int × Int => ([.int .i64 q.1, .int .i64 q.2.1, .int .i64 q.2.2.1, .int .i64 q.2.2.2.1, (v5.2.2.2.2.1.1), .int .i64 q.2.2.2.2.2.1, .int .i64 q.2.2.2.2.2.2.1, .int .i64 q.2.2.2.2.2.2.2] : List Value)) h10
    refine AK F W (Af F Aa Aa Aa Aa) Aa (Au Aa) (A0 (r := F1) Hw F Aa Aa (Az 0 Aa) h9).q fun a w F W => ?_
    refine AK F W (Af F Aa Aa Aa Aa) Aa (Au Aa) (AD (y := Value.agg #[.int .i64 x5.1, .int .i64 x5.2.1, .int .i64 x5.2.2.1, .int .i64 x5.2.2.2.1, (v5.2.2.2.2.1.1), .int .i64 x5.2.2.2.2.2.1, .int .i64 x5.2.2.2.2.2.2.1, .int .i64 x5.2.2.2.2.2.2.2]) (j := 0) (i := 0) (enc := EL) F Aa Aa (Az 0 Aa) h9 GM HG (by rw [h11]; rfl)).q fun a w F W => ?_
    refine GO (Af F Aa Aa Aa Aa) ?_
    refine ls F W Aa (Bg (v := Value.int .i64 (B8 x5)) F Ir Aa (fun w W => EM any w ((v5.2.2.2.2.1.1)) x5 _ Aa (((B9 (Az 0 Aa) h9 (Aq.snd (Aq.snd (Aq.snd (Aq.snd (Aq.fst Aq.here))))) (congrArg (fun q : Int × Int × Int × Int × List Int × Int × Int × Int => q.2.2.2.2.1) h10)) : DF _ _ _ _ _ _) w W).nx)) fun a w F W => ?_
    refine AK F W (Af F Aa Aa Aa Aa) Aa (Au Aa) (CR F Aa Aa).q fun a w F W => ?_
    refine ls F W Aa (Av F Aa Aa Aa).q fun a w F W => ?_
    refine ls F W Aa (Ag F Aa).q fun a w F W => ?_
    rcases Bool.eq_false_or_eq_true (decide ((B8 x5) = 1)) with hb | hb
    ·
     have H := A9 (Bj hb) H
     rw [hb] at F
     clear hb
     refine AK F W (Af F Aa Aa Aa Aa) Aa (Au Aa) (Ag F Aa).q fun a w F W => ?_
     obtain ⟨x6, h12, H⟩ := Am H
     obtain ⟨v6, h13, h14⟩ := Cm h2 h12
     have h15 : EL v6 = [.int .i64 x6.1, .int .i64 x6.2.1, .int .i64 x6.2.2.1, .int .i64 x6.2.2.2.1, (v6.2.2.2.2.1.1), .int .i64 x6.2.2.2.2.2.1, .int .i64 x6.2.2.2.2.2.2.1, .int .i64 x6.2.2.2.2.2.2.2] := congrArg (fun q : Int × Int × Int × Int × List Int × Int × Int × Int => ([.int .i64 q.1, .int .i64 q.2.1, .int .i64 q.2.2.1, .int .i64 q.2.2.2.1, (v6.2.2.2.2.1.1), .int .i64 q.2.2.2.2.2.1, .int .i64 q.2.2.2.2.2.2.1, .int .i64 q.2.2.2.2.2.2.2] : List Value)) h14
     refine AK F W (Af F Aa Aa Aa Aa) Aa (Au Aa) (A0 (r := F1) Hw F Aa Aa (Az 0 Aa) h13).q fun a w F W => ?_
     refine AK F W (Af F Aa Aa Aa Aa) Aa (Au Aa) (AD (y := Value.agg #[.int .i64 x6.1, .int .i64 x6.2.1, .int .i64 x6.2.2.1, .int .i64 x6.2.2.2.1, (v6.2.2.2.2.1.1), .int .i64 x6.2.2.2.2.2.1, .int .i64 x6.2.2.2.2.2.2.1, .int .i64 x6.2.2.2.2.2.2.2]) (j := 0) (i := 0) (enc := EL) F Aa Aa (Az 0 Aa) h13 GM HG (by rw [h15]; rfl)).q fun a w F W => ?_
     refine GO (Af F Aa Aa Aa Aa) ?_
     obtain ⟨x7, h16, H⟩ := Am H
     refine ls F W Aa (Bg (v := Value.bool x7) F IB Aa (fun w W => Ek any w ((v6.2.2.2.2.1.1)) x6 _ h16 (((B9 (Az 0 Aa) h13 (Aq.snd (Aq.snd (Aq.snd (Aq.snd (Aq.fst Aq.here))))) (congrArg (fun q : Int × Int × Int × Int × List Int × Int × Int × Int => q.2.2.2.2.1) h14)) : DF _ _ _ _ _ _) w W).nx)) fun a w F W => ?_
     refine AK F W (Af F Aa Aa Aa Aa) Aa (Au Aa) (E3 F Aa).q fun a w F W => ?_
     refine ls F W Aa (Av F Aa Aa Aa).q fun a w F W => ?_
     refine ls F W Aa (Ah F Aa).q fun a w F W => ?_
     refine Ae (Ad ?_)
     have W := W.sub (M' := []) (Z' := []) (List.Sublist.refl _) (List.nil_sublist _)
     exact ⟨_, H, F.re ⟨rfl, trivial⟩, W⟩
    have H := A5 (Bi hb) H
    rw [hb] at F
    clear hb
    iterate 5 refine C1 F Aa Aa Aa Aa Aa Aa Aa fun a F => ?_
    refine ls F W Aa (AN F Aa Aa Aa).q fun a w F W => ?_
    refine ls F W Aa (Ah F Aa).q fun a w F W => ?_
    refine Ae (Ad ?_)
    have W := W.sub (M' := []) (Z' := []) (List.Sublist.refl _) (List.nil_sublist _)
    exact ⟨_, H, F.re ⟨rfl, trivial⟩, W⟩
   have H := A5 (Bi hb) H
   rw [hb] at F
   clear hb
   iterate 5 refine C1 F Aa Aa Aa Aa Aa Aa Aa fun a F => ?_
   refine ls F W Aa (AN F Aa Aa Aa).q fun a w F W => ?_
   refine ls F W Aa (Ag F Aa).q fun a w F W => ?_
   iterate 5 refine C1 F Aa Aa Aa Aa Aa Aa Aa fun a F => ?_
   refine ls F W Aa (AN F Aa Aa Aa).q fun a w F W => ?_
   refine ls F W Aa (Ah F Aa).q fun a w F W => ?_
   refine Ae (Ad ?_)
   have W := W.sub (M' := []) (Z' := []) (List.Sublist.refl _) (List.nil_sublist _)
   exact ⟨_, H, F.re ⟨rfl, trivial⟩, W⟩
  have H := A5 (Bi hb) H
  rw [hb] at F
  clear hb
  iterate 5 refine C1 F Aa Aa Aa Aa Aa Aa Aa fun a F => ?_
  refine ls F W Aa (AN F Aa Aa Aa).q fun a w F W => ?_
  refine ls F W Aa (Ag F Aa).q fun a w F W => ?_
  iterate 5 refine C1 F Aa Aa Aa Aa Aa Aa Aa fun a F => ?_
  refine ls F W Aa (AN F Aa Aa Aa).q fun a w F W => ?_
  refine ls F W Aa (Ag F Aa).q fun a w F W => ?_
  iterate 5 refine C1 F Aa Aa Aa Aa Aa Aa Aa fun a F => ?_
  refine ls F W Aa (AN F Aa Aa Aa).q fun a w F W => ?_
  refine ls F W Aa (Ah F Aa).q fun a w F W => ?_
  refine Ae (Ad ?_)
  have W := W.sub (M' := []) (Z' := []) (List.Sublist.refl _) (List.nil_sublist _)
  exact ⟨_, H, F.re ⟨rfl, trivial⟩, W⟩
 rintro a w ⟨x2, hj, F, W⟩
 have hj := Bf hj
 subst hj
 have H := K1
 clear G1 K1
 refine AQ ?_
 have H := Bf H
 subst H
 refine Bk (.inl Aa) F W Aa (AZ F Aa) ?_
 exact ⟨rfl, W.done⟩
theorem FQ : type_of% Tryd.underlying26 := Tryd.underlying26
theorem CA : type_of% Tryd.underlying32 := Tryd.underlying32
theorem H5 : Has Tryd.prog 5 := ⟨fun args w => Ao Tryd.func5 rfl (by decide) args w⟩
theorem IG : Bt Tryd.prog 32 [.int .i64 0, .int .i64 0, .int .i64 0, .int .i64 0, .slice none 0 0, .int .i64 0, .int .i64 0, .int .i64 0] [(0, 1), (1, 1), (2, 1), (3, 1), (4, 1), (5, 1), (6, 1), (7, 1)] := ⟨⟨.agg #[.int .i64 0, .int .i64 0, .int .i64 0, .int .i64 0, .slice none 0 0, .int .i64 0, .int .i64 0, .int .i64 0], by kernel_rfl, rfl⟩, ⟨_, CA, fun w => by kernel_rfl⟩⟩
theorem HL : (Tryd.prog.info? 32).bind (·.zero) = some (.agg #[.int .i64 0, .int .i64 0, .int .i64 0, .int .i64 0, .slice none 0 0, .int .i64 0, .int .i64 0, .int .i64 0]) := by kernel_rfl
abbrev Cf : Rp (Int × Int × Int × Int × List Int × Int × Int × Int) := (Rp.pair (Rp.int .i64) (Rp.pair (Rp.int .i64) (Rp.pair (Rp.int .i64) (Rp.pair (Rp.int .i64) (Rp.pair (Rp.slice (Rp.int .i64)) (Rp.pair (Rp.int .i64) (Rp.pair (Rp.int .i64) (Rp.int .i64))))))))
theorem GJ : Et Tryd.prog 26 32 8 80 := Et.of FQ (by kernel_rfl) (by kernel_rfl) (by kernel_rfl) (by decide)
abbrev FX : Rp (Int × Int × Int × Int × (Value × List Int) × Int × Int × Int) := (Rp.pair (Rp.int .i64) (Rp.pair (Rp.int .i64) (Rp.pair (Rp.int .i64) (Rp.pair (Rp.int .i64) (Rp.pair (Rp.vsl (Rp.int .i64)) (Rp.pair (Rp.int .i64) (Rp.pair (Rp.int .i64) (Rp.int .i64))))))))
abbrev Ia (p : Int × Int × Int × Int × (Value × List Int) × Int × Int × Int) : Int × Int × Int × Int × List Int × Int × Int × Int := (p.1, p.2.1, p.2.2.1, p.2.2.2.1, p.2.2.2.2.1.2, p.2.2.2.2.2.1, p.2.2.2.2.2.2.1, p.2.2.2.2.2.2.2)
theorem Ce : Ex Cf FX Ia := (Ex.pair Ex.rfl' (Ex.pair Ex.rfl' (Ex.pair Ex.rfl' (Ex.pair Ex.rfl' (Ex.pair Ex.sliceF (Ex.pair Ex.rfl' (Ex.pair Ex.rfl' Ex.rfl')))))))
noncomputable def Bo (p0 : List (Int × Int × Int × Int × List Int × Int × Int × Int)) : ((List (Int × Int × Int × Int × List Int × Int × Int × Int)) × Int) → Option (((List (Int × Int × Int × Int × List Int × Int × Int × Int)) × Int) ⊕ (List (Int × Int × Int × Int × List Int × Int × Int × Int)))
  | (x2, x3) => (if x3 < (p0.length : Int) then (ix p0 x3).bind fun x4 => (CL x2 ([x4] : List (Int × Int × Int × Int × List Int × Int × Int × Int))).bind fun x5 => some (.inl (x5, DS (x3 + 1))) else some (.inr x2))
noncomputable def BE (p0 : List (Int × Int × Int × Int × List Int × Int × Int × Int)) : Option (List (Int × Int × Int × Int × List Int × Int × Int × Int)) := (AP (Bo p0) ([], 0)).bind fun x1 => some x1
theorem Dt (Y : Nat → Prop) (w0 : World) (v1 : Value) (p0 : List (Int × Int × Int × Int × List Int × Int × Int × Int)) (r : (List (Int × Int × Int × Int × List Int × Int × Int × Int))) (H : BE p0 = some r) (s_v1 : Sl w0 Y Eb v1 p0) :
    Calls Tryd.prog 9 #[v1] w0 fun e w' => ∃ x : Value, e = .returned (x) ∧ Stw ⟨Y, [], w0⟩ [] [row (x) 32 Cf r] w' := by
 refine enter Tryd.func9 Aa Tryd.ntmps9 Aa fun a F => ?_
 have W := Stw.start Y w0
 obtain ⟨v2, h1, s_v1⟩ := s_v1.ex G8
 have h_v1 := W.nx s_v1
 unfold BE at H
 refine Ai (Ac ?_)
 refine ls F W Aa (Ah F Aa).q fun a w F W => ?_
 refine Ae (Ad (Ai (Ac ?_)))
 refine ls F W Aa (Ah F Aa).q fun a w F W => ?_
 refine Ae (Ad ?_)
 obtain ⟨o1, G1, K1⟩ := Am H
 refine Bq (fun a w => ∃ x1 : List (Int × Int × Int × Int × List Int × Int × Int × Int), ∃ v3 : Value, some (x1) = some o1 ∧ Fr 37 [] [(2, .slice none 0 0), (3, v3)] a ∧ Stw ⟨Y, [], w0⟩ [] [row v3 32 Cf x1] w) ?_ ?_
 ·
  have H := G1
  clear G1 K1
  refine Ai (Ac ?_)
  refine ls F W Aa (Ah F Aa).q fun a w F W => ?_
  refine Ae (Ad (AG ?_))
  have W := W.nilRow 32 Cf
  refine Cj H (fun s a w => ∃ v4 : Value, Fr 37 [] [(0, v1), (2, .slice none 0 0), (3, v4), (4, .int .i64 s.2)] a ∧ Stw ⟨Y, [], w0⟩ [] [row v4 32 Cf s.1] w) ⟨(Value.slice none 0 0), F.re ⟨rfl, Aa, Aa, Aa, trivial⟩, W⟩ fun s o a w H L2 hR => ?_
  obtain ⟨x2, x3⟩ := s
  obtain ⟨v4, F, W⟩ := hR
  have F : Fr 37 [] [(0, v1), (2, .slice none 0 0), (3, v4), (4, .int .i64 x3)] a := F
  have W : Stw ⟨Y, [], w0⟩ [] [row v4 32 Cf x2] w := W
  rw [Bo] at H
  refine Ai (Ai (Ac ?_))
  iterate 2 refine ls F W Aa (Ag F Aa).q fun a w F W => ?_
  refine ls F W Aa (BD (r := Eb) (l := p0) GW Aa F Aa (A3 G8 h1 (Ax h_v1))).q fun a w F W => ?_
  refine ls F W Aa (Df F Aa Aa).q fun a w F W => ?_
  refine Ae (Ad ?_)
  refine AJ F Aa (fun hb => ?_) fun hb => ?_
  ·
   have H := A9 (Bj hb) H
   rw [hb] at F
   clear hb
   refine AC (Ad (Ai (AG (Ai ?_))))
   obtain ⟨v5, h2, W⟩ := W.exR Ce
   refine Ac ?_
   iterate 2 refine ls F W Aa (Ag F Aa).q fun a w F W => ?_
   obtain ⟨x4, h3, H⟩ := Am H
   obtain ⟨v6, h4, h5⟩ := Cm h1 h3
   have h6 : EL v6 = [.int .i64 x4.1, .int .i64 x4.2.1, .int .i64 x4.2.2.1, .int .i64 x4.2.2.2.1, (v6.2.2.2.2.1.1), .int .i64 x4.2.2.2.2.2.1, .int .i64 x4.2.2.2.2.2.2.1, .int .i64 x4.2.2.2.2.2.2.2] := congrArg (fun q : Int × Int × Int × Int × List Int × Int × Int × Int => ([.int .i64 q.1, .int .i64 q.2.1, .int .i64 q.2.2.1, .int .i64 q.2.2.2.1, (v6.2.2.2.2.1.1), .int .i64 q.2.2.2.2.2.1, .int .i64 q.2.2.2.2.2.2.1, .int .i64 q.2.2.2.2.2.2.2] : List Value)) h5
   refine ls F W Aa (A0 (r := F1) Hw F Aa Aa (Ax h_v1) h4).q fun a w F W => ?_
   refine ls F W Aa (AD (y := Value.agg #[.int .i64 x4.1, .int .i64 x4.2.1, .int .i64 x4.2.2.1, .int .i64 x4.2.2.2.1, (v6.2.2.2.2.1.1), .int .i64 x4.2.2.2.2.2.1, .int .i64 x4.2.2.2.2.2.2.1, .int .i64 x4.2.2.2.2.2.2.2]) (j := 0) (i := x3) (enc := EL) F Aa Aa (Ax h_v1) h4 GM HG (by rw [h6]; rfl)).q fun a w F W => ?_
   refine CG (cs := [.int .i64 0, .int .i64 0, .int .i64 0, .int .i64 0, .slice none 0 0, .int .i64 0, .int .i64 0, .int .i64 0]) F W Aa Im Aa fun b1 a w F W => ?_
   refine Cn (vs := [.int .i64 x4.1, .int .i64 x4.2.1, .int .i64 x4.2.2.1, .int .i64 x4.2.2.2.1, (v6.2.2.2.2.1.1), .int .i64 x4.2.2.2.2.2.1, .int .i64 x4.2.2.2.2.2.2.1, .int .i64 x4.2.2.2.2.2.2.2]) (M' := [(b1, [.int .i64 x4.1, .int .i64 x4.2.1, .int .i64 x4.2.2.1, .int .i64 x4.2.2.2.1, (v6.2.2.2.2.1.1), .int .i64 x4.2.2.2.2.2.1, .int .i64 x4.2.2.2.2.2.2.1, .int .i64 x4.2.2.2.2.2.2.2])]) 0 F W Aa Aa Aa HG Aa Aa Aa (Al Aa (Al Aa (Al Aa (Al Aa (Al ((B9 (Ax h_v1) h4 (Aq.snd (Aq.snd (Aq.snd (Aq.snd (Aq.fst Aq.here))))) (congrArg (fun q : Int × Int × Int × Int × List Int × Int × Int × Int => q.2.2.2.2.1) h5)) _ W).one (Al Aa (Al Aa (Al Aa C4)))))))) Aa fun w W => ?_
   refine Ae (Ad (Ac ?_))
   refine ls F W Aa (Ag F Aa).q fun a w F W => ?_
   refine ls F W Aa (Ab BM Aa Aa Aa T3 F Aa 0 Aa).q fun a w F W => ?_
   refine ls F W Aa (Ap (v := Value.int .i64 x4.1) 0 F Aa Aa T3 Aa).q fun a w F W => ?_
   refine ls F W Aa (Ab BM Aa Aa Aa T3 F Aa 1 Aa).q fun a w F W => ?_
   refine ls F W Aa (Ap (v := Value.int .i64 x4.2.1) 0 F Aa Aa T3 Aa).q fun a w F W => ?_
   refine ls F W Aa (Ab BM Aa Aa Aa T3 F Aa 2 Aa).q fun a w F W => ?_
   refine ls F W Aa (Ap (v := Value.int .i64 x4.2.2.1) 0 F Aa Aa T3 Aa).q fun a w F W => ?_
   refine ls F W Aa (Ab BM Aa Aa Aa T3 F Aa 3 Aa).q fun a w F W => ?_
   refine ls F W Aa (Ap (v := Value.int .i64 x4.2.2.2.1) 0 F Aa Aa T3 Aa).q fun a w F W => ?_
   refine ls F W Aa (Ab BM Aa Aa Aa DU F Aa 4 Aa).q fun a w F W => ?_
   refine ls F W Aa (Ap (v := (v6.2.2.2.2.1.1)) 0 F Aa Aa DU Aa).q fun a w F W => ?_
   refine ls F W Aa (Ab BM Aa Aa Aa T3 F Aa 5 Aa).q fun a w F W => ?_
   refine ls F W Aa (Ap (v := Value.int .i64 x4.2.2.2.2.2.1) 0 F Aa Aa T3 Aa).q fun a w F W => ?_
   refine ls F W Aa (Ab BM Aa Aa Aa T3 F Aa 6 Aa).q fun a w F W => ?_
   refine ls F W Aa (Ap (v := Value.int .i64 x4.2.2.2.2.2.2.1) 0 F Aa Aa T3 Aa).q fun a w F W => ?_
   refine ls F W Aa (Ab BM Aa Aa Aa T3 F Aa 7 Aa).q fun a w F W => ?_
   refine ls F W Aa (Ap (v := Value.int .i64 x4.2.2.2.2.2.2.2) 0 F Aa Aa T3 Aa).q fun a w F W => ?_
   refine ls F W Aa (Cp (v := Value.agg #[.int .i64 x4.1, .int .i64 x4.2.1, .int .i64 x4.2.2.1, .int .i64 x4.2.2.2.1, (v6.2.2.2.2.1.1), .int .i64 x4.2.2.2.2.2.1, .int .i64 x4.2.2.2.2.2.2.1, .int .i64 x4.2.2.2.2.2.2.2]) IG F Aa (Bc Aa Aa Aa (Bc Aa Aa Aa (Bc Aa Aa Aa (Bc Aa Aa Aa (Bc Aa (Dy ((B9 (Ax h_v1) h4 (Aq.snd (Aq.snd (Aq.snd (Aq.snd (Aq.fst Aq.here))))) (congrArg (fun q : Int × Int × Int × Int × List Int × Int × Int × Int => q.2.2.2.2.1) h5)) _ W).one) Aa (Bc Aa Aa Aa (Bc Aa Aa Aa (Bc Aa Aa Aa D8)))))))) Aa).q fun a w F W => ?_
   refine EB (z := Value.agg #[.int .i64 0, .int .i64 0, .int .i64 0, .int .i64 0, .slice none 0 0, .int .i64 0, .int .i64 0, .int .i64 0]) (cs := [.int .i64 x4.1, .int .i64 x4.2.1, .int .i64 x4.2.2.1, .int .i64 x4.2.2.2.1, (v6.2.2.2.2.1.1), .int .i64 x4.2.2.2.2.2.1, .int .i64 x4.2.2.2.2.2.2.1, .int .i64 x4.2.2.2.2.2.2.2]) Cf ([x4] : List (Int × Int × Int × Int × List Int × Int × Int × Int)) F W Aa GJ HL Aa Aa Aa (Bc Aa Aa Aa D8) Aa Aa ⟨[Value.int .i64 x4.1, Value.int .i64 x4.2.1, Value.int .i64 x4.2.2.1, Value.int .i64 x4.2.2.2.1, (v6.2.2.2.2.1.1), Value.int .i64 x4.2.2.2.2.2.1, Value.int .i64 x4.2.2.2.2.2.2.1, Value.int .i64 x4.2.2.2.2.2.2.2], _, Aa, ⟨[Value.int .i64 x4.1], [Value.int .i64 x4.2.1, Value.int .i64 x4.2.2.1, Value.int .i64 x4.2.2.2.1, (v6.2.2.2.2.1.1), Value.int .i64 x4.2.2.2.2.2.1, Value.int .i64 x4.2.2.2.2.2.2.1, Value.int .i64 x4.2.2.2.2.2.2.2], Aa, Aa, ⟨[Value.int .i64 x4.2.1], [Value.int .i64 x4.2.2.1, Value.int .i64 x4.2.2.2.1, (v6.2.2.2.2.1.1), Value.int .i64 x4.2.2.2.2.2.1, Value.int .i64 x4.2.2.2.2.2.2.1, Value.int .i64 x4.2.2.2.2.2.2.2], Aa, Aa, ⟨[Value.int .i64 x4.2.2.1], [Value.int .i64 x4.2.2.2.1, (v6.2.2.2.2.1.1), Value.int .i64 x4.2.2.2.2.2.1, Value.int .i64 x4.2.2.2.2.2.2.1, Value.int .i64 x4.2.2.2.2.2.2.2], Aa, Aa, ⟨[Value.int .i64 x4.2.2.2.1], [(v6.2.2.2.2.1.1), Value.int .i64 x4.2.2.2.2.2.1, Value.int .i64 x4.2.2.2.2.2.2.1, Value.int .i64 x4.2.2.2.2.2.2.2], Aa, Aa, ⟨[(v6.2.2.2.2.1.1)], [Value.int .i64 x4.2.2.2.2.2.1, Value.int .i64 x4.2.2.2.2.2.2.1, Value.int .i64 x4.2.2.2.2.2.2.2], Aa, ⟨_, Aa, (Sl.at_ (W.old s_v1) h4 (Aq.snd (Aq.snd (Aq.snd (Aq.snd (Aq.fst Aq.here))))) (congrArg (fun q : Int × Int × Int × Int × List Int × Int × Int × Int => q.2.2.2.2.1) h5))⟩, ⟨[Value.int .i64 x4.2.2.2.2.2.1], [Value.int .i64 x4.2.2.2.2.2.2.1, Value.int .i64 x4.2.2.2.2.2.2.2], Aa, Aa, ⟨[Value.int .i64 x4.2.2.2.2.2.2.1], [Value.int .i64 x4.2.2.2.2.2.2.2], Aa, Aa, Aa⟩⟩⟩⟩⟩⟩⟩, Aa⟩ fun v7 a w F W => ?_
   have W := W.frontZ (i := 1) Aa Aa
   have W := W.hideR Ce h2
   obtain ⟨x5, h7, H⟩ := Am H
   refine Cx (r := Cf) (i := 0) F W Aa GJ Aa Aa Aa Aa (Dw W 1 Aa) h7 Aa fun v8 a w F W => ?_
   have W : Stw ⟨Y, [], w0⟩ [(b1, [.int .i64 x4.1, .int .i64 x4.2.1, .int .i64 x4.2.2.1, .int .i64 x4.2.2.2.1, (v6.2.2.2.2.1.1), .int .i64 x4.2.2.2.2.2.1, .int .i64 x4.2.2.2.2.2.2.1, .int .i64 x4.2.2.2.2.2.2.2])] [row v8 32 Cf x5, row v7 32 Cf ([x4] : List (Int × Int × Int × Int × List Int × Int × Int × Int))] w := W
   refine ls F W Aa (Ah F Aa).q fun a w F W => ?_
   refine Ae (AW (Ad (Ac ?_)))
   refine ls F W Aa (Ag F Aa).q fun a w F W => ?_
   refine ls F W Aa (Cy F Aa Aa Aa).q fun a w F W => ?_
   refine ls F W Aa (Ah F Aa).q fun a w F W => ?_
   refine Ae (Ad ?_)
   have W := W.sub (M' := []) (Z' := [row v8 32 Cf x5]) (List.nil_sublist _) (List.Sublist.cons_cons _ (List.nil_sublist _))
   exact ⟨_, H, (v8), F.re ⟨rfl, Aa, Aa, Aa, trivial⟩, W⟩
  have H := A5 (Bi hb) H
  rw [hb] at F
  clear hb
  refine Ck ?_
  iterate 2 refine CX ?_
  refine Co (Ad ?_)
  have H := L2 _ H
  exact ⟨_, (v4), H, F.re ⟨rfl, Aa, trivial⟩, W⟩
 rintro a w ⟨x1, v3, hj, F, W⟩
 have hj := Bf hj
 subst hj
 have H := K1
 clear G1 K1
 refine Ai (Ac ?_)
 refine ls F W Aa (Ag F Aa).q fun a w F W => ?_
 refine ls F W Aa (Ah F Aa).q fun a w F W => ?_
 refine Ae (Ad (AQ ?_))
 have H := Bf H
 subst H
 refine Bk (.inl Aa) F W Aa (AZ F Aa) ?_
 exact ⟨(v3), Aa, W⟩
theorem H9 : Has Tryd.prog 9 := ⟨fun args w => Ao Tryd.func9 rfl (by decide) args w⟩
abbrev EK (a : Int × Int × Int × Int × (Value × List Int) × Int × Int × Int) : List Value := [.int .i64 a.1, .int .i64 a.2.1, .int .i64 a.2.2.1, .int .i64 a.2.2.2.1, a.2.2.2.2.1.1, .int .i64 a.2.2.2.2.2.1, .int .i64 a.2.2.2.2.2.2.1, .int .i64 a.2.2.2.2.2.2.2]
theorem GK : BH FX EK := (BH.pair Fl.int.to (BH.pair Fl.int.to (BH.pair Fl.int.to (BH.pair Fl.int.to (BH.pair BH.vsl (BH.pair Fl.int.to (BH.pair Fl.int.to Fl.int.to)))))))
theorem HE : Ty Tryd.prog 32 true 8 := ⟨by kernel_rfl, by kernel_rfl⟩
noncomputable def BQ (p0 : List Int) (p1 : List Int) : Int → Option (Int ⊕ (Unit ⊕ Bool))
  | x1 => (if x1 < (p0.length : Int) then (ix p0 x1).bind fun x2 => (ix p1 x1).bind fun x3 => (if x2 ≠ x3 then some (.inr (.inr false)) else some (.inl (DS (x1 + 1)))) else some (.inr (.inl ())))
noncomputable def C3 (p0 : List Int) (p1 : List Int) : Option Bool := (if (p0.length : Int) ≠ (p1.length : Int) then some false else HY (AP (BQ p0 p1) 0) fun _ => some true)
theorem Fg (Y : Nat → Prop) (w0 : World) (v1 : Value) (v2 : Value) (p0 : List Int) (p1 : List Int) (r : Bool) (H : C3 p0 p1 = some r) (h_v1 : Sl w0 (NX []) (Rp.int .i64) v1 p0) (h_v2 : Sl w0 (NX []) (Rp.int .i64) v2 p1) :
    Calls Tryd.prog 16 #[v1, v2] w0 fun e w' => e = .returned (.bool r) ∧ Below w0.heap.size w0 w' := by
 refine enter Tryd.func16 Aa Tryd.ntmps16 Aa fun a F => ?_
 have W := Stw.start Y w0
 unfold C3 at H
 refine Ai (Ac ?_)
 refine ls F W Aa (Ah F Aa).q fun a w F W => ?_
 refine Ae (Ad (Ai (Ai (Ac ?_))))
 refine ls F W Aa (Ag F Aa).q fun a w F W => ?_
 refine ls F W Aa (BD (r := (Rp.int .i64)) (l := p0) E2 Aa F Aa (Ax h_v1)).q fun a w F W => ?_
 refine ls F W Aa (Ag F Aa).q fun a w F W => ?_
 refine ls F W Aa (BD (r := (Rp.int .i64)) (l := p1) E2 Aa F Aa (Ax h_v2)).q fun a w F W => ?_
 refine ls F W Aa (Cl F Aa Aa).q fun a w F W => ?_
 refine Ae (Ad ?_)
 refine AJ F Aa (fun hb => ?_) fun hb => ?_
 ·
  have H := A9 (Bj hb) H
  rw [hb] at F
  clear hb
  refine Ai (Ac ?_)
  refine ls F W Aa (Ah F Aa).q fun a w F W => ?_
  refine Ae (Ad (AQ (Bx ?_)))
  have H := Bf H
  subst H
  refine Bk (.inl Aa) F W Aa (AZ F Aa) ?_
  exact ⟨rfl, W.done⟩
 have H := A5 (Bi hb) H
 rw [hb] at F
 clear hb
 refine AC (Ad ?_)
 obtain ⟨o1, G1, K1, L1⟩ := Ih H
 refine Bq (fun a w => some (Sum.inl ()) = some o1 ∧ Fr 26 [] [(4, .bool false)] a ∧ Stw ⟨Y, [], w0⟩ [] [] w) ?_ ?_
 ·
  have H := G1
  clear G1 K1
  refine Ai (Ac ?_)
  refine ls F W Aa (Ah F Aa).q fun a w F W => ?_
  refine Ae (Ad (AG ?_))
  refine Cj H (fun s a w => Fr 26 [] [(0, v1), (1, v2), (4, .bool false), (5, .int .i64 s)] a ∧ Stw ⟨Y, [], w0⟩ [] [] w) ⟨F.re ⟨rfl, Aa, Aa, Aa, trivial⟩, W⟩ fun s o a w H L2 hR => ?_
  obtain ⟨x1, rfl⟩ : ∃ x, x = s := ⟨s, rfl⟩
  obtain ⟨F, W⟩ := hR
  have F : Fr 26 [] [(0, v1), (1, v2), (4, .bool false), (5, .int .i64 x1)] a := F
  have W : Stw ⟨Y, [], w0⟩ [] [] w := W
  rw [BQ] at H
  refine Ai (Ai (Ac ?_))
  iterate 2 refine ls F W Aa (Ag F Aa).q fun a w F W => ?_
  refine ls F W Aa (BD (r := (Rp.int .i64)) (l := p0) E2 Aa F Aa (Ax h_v1)).q fun a w F W => ?_
  refine ls F W Aa (Df F Aa Aa).q fun a w F W => ?_
  refine Ae (Ad ?_)
  refine AJ F Aa (fun hb => ?_) fun hb => ?_
  ·
   have H := A9 (Bj hb) H
   rw [hb] at F
   clear hb
   refine AC (Ad (Ai (AG (Ai ?_))))
   refine DC W MO (by kernel_rfl) ?_
   iterate 2 refine qs F Aa (Ag F Aa).q fun a F => ?_
   obtain ⟨x2, h1, H⟩ := Am H
   refine qs F Aa (A0 (r := (Rp.int .i64)) G2 F Aa Aa (Ax h_v1) h1).q fun a F => ?_
   refine qs F Aa (AD (y := Value.int .i64 x2) (j := 0) (i := x1) F Aa Aa (Ax h_v1) h1 Fl.int.to T3 Aa).q fun a F => ?_
   iterate 2 refine qs F Aa (Ag F Aa).q fun a F => ?_
   obtain ⟨x3, h2, H⟩ := Am H
   refine qs F Aa (A0 (r := (Rp.int .i64)) G2 F Aa Aa (Ax h_v2) h2).q fun a F => ?_
   refine qs F Aa (AD (y := Value.int .i64 x3) (j := 0) (i := x1) F Aa Aa (Ax h_v2) h2 Fl.int.to T3 Aa).q fun a F => ?_
   refine qs F Aa (Cl F Aa Aa).q fun a F => ?_
   refine Bv fun w W => ?_
   refine Ad ?_
   refine AJ F Aa (fun hb => ?_) fun hb => ?_
   ·
    have H := A9 (Bj hb) H
    rw [hb] at F
    clear hb
    refine Ai (Ac ?_)
    refine ls F W Aa (Ah F Aa).q fun a w F W => ?_
    refine Ae (Ad (AQ (Cq ?_)))
    iterate 2 refine Bx ?_
    refine Cq (Bx ?_)
    have H := L2 _ H
    have H := L1 _ H
    have H := Bf H
    subst H
    refine Bk (.inl Aa) F W Aa (AZ F Aa) ?_
    exact ⟨rfl, W.done⟩
   have H := A5 (Bi hb) H
   rw [hb] at F
   clear hb
   refine AC (AW (Ad (Ac ?_)))
   refine ls F W Aa (Ag F Aa).q fun a w F W => ?_
   refine ls F W Aa (Cy F Aa Aa Aa).q fun a w F W => ?_
   refine ls F W Aa (Ah F Aa).q fun a w F W => ?_
   refine Ae (Ad ?_)
   exact ⟨_, H, F.re ⟨rfl, Aa, Aa, Aa, trivial⟩, W⟩
  have H := A5 (Bi hb) H
  rw [hb] at F
  clear hb
  refine Ck ?_
  iterate 2 refine CX ?_
  refine Co (Ad ?_)
  have H := L2 _ H
  exact ⟨H, F.re ⟨rfl, trivial⟩, W⟩
 rintro a w ⟨hj, F, W⟩
 have H := K1 _ hj
 clear hj G1 K1 L1
 refine Ai (Ac ?_)
 refine ls F W Aa (Ah F Aa).q fun a w F W => ?_
 refine Ae (Ad (AQ ?_))
 have H := Bf H
 subst H
 refine Bk (.inl Aa) F W Aa (AZ F Aa) ?_
 exact ⟨rfl, W.done⟩
end Go.Proofs.YtpmhmemmniiomaaDoor
