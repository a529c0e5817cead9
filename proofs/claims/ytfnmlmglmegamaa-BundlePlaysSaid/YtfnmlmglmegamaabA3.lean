/- The functions of layer 12, FK. Conditions: none. -/
import Derived.Test.YtfnmlmglmegamaabA2
namespace Go.Proofs.Ytfnmlmglmegamaa
open Go Go.RowKit
set_option linter.unusedVariables false
set_option linter.unusedSimpArgs false
set_option maxRecDepth 20000
theorem RP : Has Try.prog 46 := BV Try.func46
abbrev P8 (a0 : (Int × (Int × (Int × Int × Int × Int) × (Int × Int × Int × Int)) × (List (Int × Int × Int)))) (a1 : Value) : List Value := [.int .i64 a0.1, .int .i64 a0.2.1.1, .int .i64 a0.2.1.2.1.1, .int .i64 a0.2.1.2.1.2.1, .int .i64 a0.2.1.2.1.2.2.1, .int .i64 a0.2.1.2.1.2.2.2, .int .i64 a0.2.1.2.2.1, .int .i64 a0.2.1.2.2.2.1, .int .i64 a0.2.1.2.2.2.2.1, .int .i64 a0.2.1.2.2.2.2.2, a1]
noncomputable def D2 (p0 : List (Int × (Int × (Int × Int × Int × Int) × (Int × Int × Int × Int)) × (List (Int × Int × Int)))) (x1 : List (Int × (Int × (Int × Int × Int × Int) × (Int × Int × Int × Int)) × (List (Int × Int × Int)))) : ((List (Int × (Int × (Int × Int × Int × Int) × (Int × Int × Int × Int)) × (List (Int × Int × Int)))) × Int) → Option (((List (Int × (Int × (Int × Int × Int × Int) × (Int × Int × Int × Int)) × (List (Int × Int × Int)))) × Int) ⊕ (List (Int × (Int × (Int × Int × Int × Int) × (Int × Int × Int × Int)) × (List (Int × Int × Int)))))
  | (x3, x4) => (if x4 < ((IE x1 0 (min p0.length x1.length) p0).length : Int) then (ix x3 x4).bind fun x5 => (Cb x5).bind fun x6 => (ix x3 x4).bind fun x7 => some (.inl ((Dv x3 x4 x6), Cc (x4 + 1))) else some (.inr x3))
noncomputable def Dm (p0 : List (Int × (Int × (Int × Int × Int × Int) × (Int × Int × Int × Int)) × (List (Int × Int × Int)))) : Option (List (Int × (Int × (Int × Int × Int × Int) × (Int × Int × Int × Int)) × (List (Int × Int × Int)))) := (mk (p0.length : Int) ((0, (0, (0, 0, 0, 0), (0, 0, 0, 0)), []) : Int × (Int × (Int × Int × Int × Int) × (Int × Int × Int × Int)) × (List (Int × Int × Int)))).bind fun x1 => (AX (D2 p0 x1) (IE x1 0 (min p0.length x1.length) p0, 0)).bind fun x2 => some x2
theorem Fy (Y : Nat → Prop) (w0 : World) (v1 : Value) (p0 : List (Int × (Int × (Int × Int × Int × Int) × (Int × Int × Int × Int)) × (List (Int × Int × Int)))) (r : (List (Int × (Int × (Int × Int × Int × Int) × (Int × Int × Int × Int)) × (List (Int × Int × Int))))) (H : Dm p0 = some r) (s_v1 : Sl w0 Y AK v1 p0) :
    Calls Try.prog 36 #[v1] w0 fun e w' => ∃ x : {x : Value // IK x (((p0.length : Int)).toNat)}, e = .returned (x.1) ∧ Stw ⟨Y, [], w0⟩ [] [row (x.1) 37 AK r] w' := by
 refine enter Try.func36 Aa Try.ntmps36 Aa fun a F => ?_
 have W := Stw.start Y w0
 obtain ⟨v2, h1, s_v1⟩ := s_v1.ex A4
 have h_v1 := W.nx s_v1
 unfold Dm at H
 refine vc tk 8 F W fun a w F W => ?_
 refine ls F W Aa (B7 (r := AK) (l := p0) E7 Aa F Aa (Bq A4 h1 (An h_v1))).q fun a w F W => ?_
 obtain ⟨x1, h2, H⟩ := Af H
 refine PE (r := AK) ((0, (0, (0, 0, 0, 0), (0, 0, 0, 0)), []) : Int × (Int × (Int × Int × Int × Int) × (Int × Int × Int × Int)) × (List (Int × Int × Int))) F W Aa EL Kz Aa Aa (fun w A => ⟨[Value.int .i64 0], [Value.int .i64 0, Value.int .i64 0, Value.int .i64 0, Value.int .i64 0, Value.int .i64 0, Value.int .i64 0, Value.int .i64 0, Value.int .i64 0, Value.int .i64 0, Value.slice none 0 0], Aa, Aa, ⟨[Value.int .i64 0, Value.int .i64 0, Value.int .i64 0, Value.int .i64 0, Value.int .i64 0, Value.int .i64 0, Value.int .i64 0, Value.int .i64 0, Value.int .i64 0], [Value.slice none 0 0], Aa, ⟨[Value.int .i64 0], [Value.int .i64 0, Value.int .i64 0, Value.int .i64 0, Value.int .i64 0, Value.int .i64 0, Value.int .i64 0, Value.int .i64 0, Value.int .i64 0], Aa, Aa, ⟨[Value.int .i64 0, Value.int .i64 0, Value.int .i64 0, Value.int .i64 0], [Value.int .i64 0, Value.int .i64 0, Value.int .i64 0, Value.int .i64 0], Aa, ⟨[Value.int .i64 0], [Value.int .i64 0, Value.int .i64 0, Value.int .i64 0], Aa, Aa, ⟨[Value.int .i64 0], [Value.int .i64 0, Value.int .i64 0], Aa, Aa, ⟨[Value.int .i64 0], [Value.int .i64 0], Aa, Aa, Aa⟩⟩⟩, ⟨[Value.int .i64 0], [Value.int .i64 0, Value.int .i64 0, Value.int .i64 0], Aa, Aa, ⟨[Value.int .i64 0], [Value.int .i64 0, Value.int .i64 0], Aa, Aa, ⟨[Value.int .i64 0], [Value.int .i64 0], Aa, Aa, Aa⟩⟩⟩⟩⟩, ⟨_, Aa, Sl.nil⟩⟩⟩) h2 Aa fun v3 h3 a w F W => ?_
 refine BJ tk 7 F W fun a w F W => ?_
 refine QD (r := AK) (k := 0) F W Aa EL Aa Aa Aa Aa (Hw.hide A4 h1 (Gr W s_v1)) fun a w F W => ?_
 have W : Stw ⟨Y, [], w0⟩ [] [row v3 37 AK (IE x1 0 (min p0.length x1.length) p0)] w := W
 refine Er (Ad ?_)
 obtain ⟨o1, G1, K1⟩ := Af H
 refine Au (fun a w => ∃ x2 : List (Int × (Int × (Int × Int × Int × Int) × (Int × Int × Int × Int)) × (List (Int × Int × Int))), some (x2) = some o1 ∧ Fr 26 [] [(2, .slice none 0 0), (3, v3)] a ∧ Stw ⟨Y, [], w0⟩ [] [row v3 37 AK x2] w) ?_ ?_
 ·
  have H := G1
  clear G1 K1
  refine vc tk 3 F W fun a w F W => ?_
  refine ls F W Aa (B7 (r := AK) (l := IE x1 0 (min p0.length x1.length) p0) E7 Aa F Aa (AU 0 Aa)).q fun a w F W => ?_
  refine BJ tk 4 F W fun a w F W => ?_
  refine BA H (fun s a w => Fr 26 [] [(2, .slice none 0 0), (3, v3), (12, v3), (13, .int .i64 ((IE x1 0 (min p0.length x1.length) p0).length : Int)), (14, .int .i64 s.2)] a ∧ Stw ⟨Y, [], w0⟩ [] [row v3 37 AK s.1] w) ⟨F.ra Aa, W⟩ fun s o a w H L2 hR => ?_
  obtain ⟨x3, x4⟩ := s
  obtain ⟨F, W⟩ := hR
  have F : Fr 26 [] [(2, .slice none 0 0), (3, v3), (12, v3), (13, .int .i64 ((IE x1 0 (min p0.length x1.length) p0).length : Int)), (14, .int .i64 x4)] a := F
  have W : Stw ⟨Y, [], w0⟩ [] [row v3 37 AK x3] w := W
  rw [D2] at H
  refine vc tk 6 F W fun a w F W => ?_
  refine Bi F Aa H (fun F H => ?_) fun F H => ?_
  ·
   refine D6 tk 5 F W fun a w F W => ?_
   obtain ⟨v4, h4, W⟩ := W.exR A4
   refine vc tk 2 F W fun a w F W => ?_
   obtain ⟨x5, h5, H⟩ := Af H
   obtain ⟨v5, h6, h7⟩ := BX h4 h5
   have h8 : Cy v5 = [.int .i64 x5.1, .int .i64 x5.2.1.1, .int .i64 x5.2.1.2.1.1, .int .i64 x5.2.1.2.1.2.1, .int .i64 x5.2.1.2.1.2.2.1, .int .i64 x5.2.1.2.1.2.2.2, .int .i64 x5.2.1.2.2.1, .int .i64 x5.2.1.2.2.2.1, .int .i64 x5.2.1.2.2.2.2.1, .int .i64 x5.2.1.2.2.2.2.2, (v5.2.2.1)] := congrArg (fun q : Int × (Int × (Int × Int × Int × Int) × (Int × Int × Int × Int)) × (List (Int × Int × Int)) => ([.int .i64 q.1, .int .i64 q.2.1.1, .int .i64 q.2.1.2.1.1, .int .i64 q.2.1.2.1.2.1, .int .i64 q.2.1.2.1.2.2.1, .int .i64 q.2.1.2.1.2.2.2, .int .i64 q.2.1.2.2.1, .int .i64 q.2.1.2.2.2.1, .int .i64 q.2.1.2.2.2.2.1, .int .i64 q.2.1.2.2.2.2.2, (v5.2.2.1)] : List Value)) h7
   refine ls F W Aa (AR (r := C4) EL F Aa Aa (AU 0 Aa) h6).q fun a w F W => ?_
   refine ls F W Aa (AD (y := Value.agg #[.int .i64 x5.1, .int .i64 x5.2.1.1, .int .i64 x5.2.1.2.1.1, .int .i64 x5.2.1.2.1.2.1, .int .i64 x5.2.1.2.1.2.2.1, .int .i64 x5.2.1.2.1.2.2.2, .int .i64 x5.2.1.2.2.1, .int .i64 x5.2.1.2.2.2.1, .int .i64 x5.2.1.2.2.2.2.1, .int .i64 x5.2.1.2.2.2.2.2, (v5.2.2.1)]) (j := 0) (i := x4) (enc := Cy) F Aa Aa (AU 0 Aa) h6 EG EM (by rw [h8]; rfl)).q fun a w F W => ?_
   have W := W.note (W.rowAt (k := 0) Aa h6 (Ay.snd (Ay.snd Ay.here)) (congrArg (fun q : Int × (Int × (Int × Int × Int × Int) × (Int × Int × Int × Int)) × (List (Int × Int × Int)) => q.2.2) h7))
   refine Ca (cs := (Iu)) F W Aa Kz Aa fun b1 a w F W => ?_
   refine ls F W Aa (BI F Aa).q fun a w F W => ?_
   refine Dh 0 F W Aa Aa Aa EM Aa Aa (Ac Aa (Ac Aa (Ac Aa (Ac Aa (Ac Aa (Ac Aa (Ac Aa (Ac Aa (Ac Aa (Ac Aa (Ac (W.oneF (k := 0) Aa) Cr))))))))))) fun w W => ?_
   refine Eo tk 6 [0] F W (ai fun a w F W => ?_)
   obtain ⟨x6, h9, H⟩ := Af H
   refine AA (Ml := []) (Zl := []) (β := Value) (rv := fun x => .agg #[.int .i64 x6.1, .int .i64 x6.2.1.1, .int .i64 x6.2.1.2.1.1, .int .i64 x6.2.1.2.1.2.1, .int .i64 x6.2.1.2.1.2.2.1, .int .i64 x6.2.1.2.1.2.2.2, .int .i64 x6.2.1.2.2.1, .int .i64 x6.2.1.2.2.2.1, .int .i64 x6.2.1.2.2.2.2.1, .int .i64 x6.2.1.2.2.2.2.2, x]) (MM := fun x => []) (ZZ := fun x => [row x 88 Bk x6.2.2]) F W RP Aa Aa (fun hL => Dl _ w ((v5.2.2.1)) x5 _ h9 (W.item (i := 0) Aa)) fun x a w F W => ?_
   obtain ⟨v6, rfl⟩ : ∃ y, y = x := ⟨x, rfl⟩
   have W : Stw ⟨Y, [], w0⟩ [(b1, [.int .i64 x5.1, .int .i64 x5.2.1.1, .int .i64 x5.2.1.2.1.1, .int .i64 x5.2.1.2.1.2.1, .int .i64 x5.2.1.2.1.2.2.1, .int .i64 x5.2.1.2.1.2.2.2, .int .i64 x5.2.1.2.2.1, .int .i64 x5.2.1.2.2.2.1, .int .i64 x5.2.1.2.2.2.2.1, .int .i64 x5.2.1.2.2.2.2.2, (v5.2.2.1)])] [row v6 88 Bk x6.2.2, Bo (v5.2.2.1) Bk x5.2.2, row v3 37 C4 v4] w := W
   obtain ⟨x7, h10, H⟩ := Af H
   obtain ⟨v7, h11, h12⟩ := BX h4 h10
   have h13 : Cy v7 = [.int .i64 x7.1, .int .i64 x7.2.1.1, .int .i64 x7.2.1.2.1.1, .int .i64 x7.2.1.2.1.2.1, .int .i64 x7.2.1.2.1.2.2.1, .int .i64 x7.2.1.2.1.2.2.2, .int .i64 x7.2.1.2.2.1, .int .i64 x7.2.1.2.2.2.1, .int .i64 x7.2.1.2.2.2.2.1, .int .i64 x7.2.1.2.2.2.2.2, (v7.2.2.1)] := congrArg (fun q : Int × (Int × (Int × Int × Int × Int) × (Int × Int × Int × Int)) × (List (Int × Int × Int)) => ([.int .i64 q.1, .int .i64 q.2.1.1, .int .i64 q.2.1.2.1.1, .int .i64 q.2.1.2.1.2.1, .int .i64 q.2.1.2.1.2.2.1, .int .i64 q.2.1.2.1.2.2.2, .int .i64 q.2.1.2.2.1, .int .i64 q.2.1.2.2.2.1, .int .i64 q.2.1.2.2.2.2.1, .int .i64 q.2.1.2.2.2.2.2, (v7.2.2.1)] : List Value)) h12
   refine ls F W Aa (AR (r := C4) EL F Aa Aa (AU 2 Aa) h11).q fun a w F W => ?_
   have W := W.freeze
   have W := W.frontZ (i := 2) Aa Aa
   have W := W.hideR A4 h4
   refine Fw (r := AK) (i := x4) (j := 0) (vs := (P8 x6 v6)) (x' := x6) F W rfl rfl rfl (k := 0) rfl rfl h10 EM rfl rfl rfl (Ac rfl (Ac rfl (Ac rfl (Ac rfl (Ac rfl (Ac rfl (Ac rfl (Ac rfl (Ac rfl (Ac rfl (Ac (W.oneF (k := 1) rfl) Cr))))))))))) (fun A cs hA hc => by obtain ⟨z, hz, hc⟩ := A4.to hc; have e1 := EG hc; have e2 : Cy z = [.int .i64 x7.1, .int .i64 x7.2.1.1, .int .i64 x7.2.1.2.1.1, .int .i64 x7.2.1.2.1.2.1, .int .i64 x7.2.1.2.1.2.2.1, .int .i64 x7.2.1.2.1.2.2.2, .int .i64 x7.2.1.2.2.1, .int .i64 x7.2.1.2.2.2.1, .int .i64 x7.2.1.2.2.2.2.1, .int .i64 x7.2.1.2.2.2.2.2, (z.2.2.1)] := (congrArg (fun q : Int × (Int × (Int × Int × Int × Int) × (Int × Int × Int × Int)) × (List (Int × Int × Int)) => ([.int .i64 q.1, .int .i64 q.2.1.1, .int .i64 q.2.1.2.1.1, .int .i64 q.2.1.2.1.2.1, .int .i64 q.2.1.2.1.2.2.1, .int .i64 q.2.1.2.1.2.2.2, .int .i64 q.2.1.2.2.1, .int .i64 q.2.1.2.2.2.1, .int .i64 q.2.1.2.2.2.2.1, .int .i64 q.2.1.2.2.2.2.2, (z.2.2.1)] : List Value)) hz); rw [e1, e2]; exact ⟨[Value.int .i64 x6.1], [Value.int .i64 x6.2.1.1, Value.int .i64 x6.2.1.2.1.1, Value.int .i64 x6.2.1.2.1.2.1, Value.int .i64 x6.2.1.2.1.2.2.1, Value.int .i64 x6.2.1.2.1.2.2.2, Value.int .i64 x6.2.1.2.2.1, Value.int .i64 x6.2.1.2.2.2.1, Value.int .i64 x6.2.1.2.2.2.2.1, Value.int .i64 x6.2.1.2.2.2.2.2, v6], rfl, rfl, ⟨[Value.int .i64 x6.2.1.1, Value.int .i64 x6.2.1.2.1.1, Value.int .i64 x6.2.1.2.1.2.1, Value.int .i64 x6.2.1.2.1.2.2.1, Value.int .i64 x6.2.1.2.1.2.2.2, Value.int .i64 x6.2.1.2.2.1, Value.int .i64 x6.2.1.2.2.2.1, Value.int .i64 x6.2.1.2.2.2.2.1, Value.int .i64 x6.2.1.2.2.2.2.2], [v6], rfl, ⟨[Value.int .i64 x6.2.1.1], [Value.int .i64 x6.2.1.2.1.1, Value.int .i64 x6.2.1.2.1.2.1, Value.int .i64 x6.2.1.2.1.2.2.1, Value.int .i64 x6.2.1.2.1.2.2.2, Value.int .i64 x6.2.1.2.2.1, Value.int .i64 x6.2.1.2.2.2.1, Value.int .i64 x6.2.1.2.2.2.2.1, Value.int .i64 x6.2.1.2.2.2.2.2], rfl, rfl, ⟨[Value.int .i64 x6.2.1.2.1.1, Value.int .i64 x6.2.1.2.1.2.1, Value.int .i64 x6.2.1.2.1.2.2.1, Value.int .i64 x6.2.1.2.1.2.2.2], [Value.int .i64 x6.2.1.2.2.1, Value.int .i64 x6.2.1.2.2.2.1, Value.int .i64 x6.2.1.2.2.2.2.1, Value.int .i64 x6.2.1.2.2.2.2.2], rfl, ⟨[Value.int .i64 x6.2.1.2.1.1], [Value.int .i64 x6.2.1.2.1.2.1, Value.int .i64 x6.2.1.2.1.2.2.1, Value.int .i64 x6.2.1.2.1.2.2.2], rfl, rfl, ⟨[Value.int .i64 x6.2.1.2.1.2.1], [Value.int .i64 x6.2.1.2.1.2.2.1, Value.int .i64 x6.2.1.2.1.2.2.2], rfl, rfl, ⟨[Value.int .i64 x6.2.1.2.1.2.2.1], [Value.int .i64 x6.2.1.2.1.2.2.2], rfl, rfl, rfl⟩⟩⟩, ⟨[Value.int .i64 x6.2.1.2.2.1], [Value.int .i64 x6.2.1.2.2.2.1, Value.int .i64 x6.2.1.2.2.2.2.1, Value.int .i64 x6.2.1.2.2.2.2.2], rfl, rfl, ⟨[Value.int .i64 x6.2.1.2.2.2.1], [Value.int .i64 x6.2.1.2.2.2.2.1, Value.int .i64 x6.2.1.2.2.2.2.2], rfl, rfl, ⟨[Value.int .i64 x6.2.1.2.2.2.2.1], [Value.int .i64 x6.2.1.2.2.2.2.2], rfl, rfl, rfl⟩⟩⟩⟩⟩, ⟨_, rfl, (Sl.stab (W.item (i := 1) rfl) (fun b hb _ => ⟨hA b hb, rfl⟩))⟩⟩⟩) fun w W => ?_
   refine Er (AF ?_)
   refine vn tk 4 F W fun a w F W => ?_
   refine Ad ?_
   have W := W.sub (M' := []) (Z' := [row v3 37 AK (Dv x3 x4 x6)]) (List.nil_sublist _) (List.Sublist.cons_cons _ (List.nil_sublist _))
   exact ⟨_, H, F.ra Aa, W⟩
  refine Bm ?_
  iterate 2 refine BU ?_
  refine Bp (Ad ?_)
  have H := L2 _ H
  exact ⟨_, H, F.ra Aa, W⟩
 rintro a w ⟨x2, hj, F, W⟩
 have hj := Av hj
 subst hj
 have H := K1
 clear G1 K1
 refine vc tk 6 F W fun a w F W => ?_
 refine Al ?_
 have H := Av H
 subst H
 refine Aw (.inl Aa) F W Aa (Ai F Aa) ?_
 exact ⟨⟨v3, h3⟩, Aa, W⟩
theorem Sh : Has Try.prog 36 := BV Try.func36
noncomputable def Ew (p0 : Int × (Int × Int × Int × Int) × (Int × Int × Int × Int)) : Int → Option (Int ⊕ (Unit ⊕ Bool))
  | x1 => (if x1 < 4 then (ix ([p0.2.2.1, p0.2.2.2.1, p0.2.2.2.2.1, p0.2.2.2.2.2] : List Int) x1).bind fun x2 => (if x2 < 0 then some true else (C7 x1).bind fun x4 => (if x4 < x2 then some true else (ix ([p0.2.1.1, p0.2.1.2.1, p0.2.1.2.2.1, p0.2.1.2.2.2] : List Int) x1).bind fun x5 => (if x5 < 0 then some true else (ix ([p0.2.1.1, p0.2.1.2.1, p0.2.1.2.2.1, p0.2.1.2.2.2] : List Int) x1).bind fun x6 => some (decide ((FS .i64 x6 x2) ≠ 0))))).bind fun x3 => (if x3 = true then some (.inr (.inr false)) else some (.inl (Cc (x1 + 1)))) else some (.inr (.inl ())))
noncomputable def Fc (p0 : Int × (Int × Int × Int × Int) × (Int × Int × Int × Int)) : Option Bool := (if (decide (p0.1 ≠ (-1)) && (decide (p0.1 < 0) || decide (8 ≤ p0.1))) = true then some false else FR (AX (Ew p0) 0) fun _ => some true)
theorem JC (Y : Nat → Prop) (w0 : World)  (p0 : Int × (Int × Int × Int × Int) × (Int × Int × Int × Int)) (r : Bool) (H : Fc p0 = some r)  :
    Calls Try.prog 63 #[.agg #[.int .i64 p0.1, .int .i64 p0.2.1.1, .int .i64 p0.2.1.2.1, .int .i64 p0.2.1.2.2.1, .int .i64 p0.2.1.2.2.2, .int .i64 p0.2.2.1, .int .i64 p0.2.2.2.1, .int .i64 p0.2.2.2.2.1, .int .i64 p0.2.2.2.2.2]] w0 fun e w' => e = .returned (.bool r) ∧ Below w0.heap.size w0 w' := by
 refine enter Try.func63 Aa Try.ntmps63 Aa fun a F => ?_
 have W := Stw.start Y w0
 unfold Fc at H
 refine vc tk 2 F W fun a w F W => ?_
 refine BR (cs := (EH p0)) F W Aa Aa Aa fun b1 a w F W => ?_
 refine BJ tk 4 F W fun a w F W => ?_
 refine Au (fun a w => Fr 49 [] [(1, .pointer (some ⟨b1, 0, none⟩)), (2, .bool false), (17, .bool (decide (p0.1 ≠ (-1)) && (decide (p0.1 < 0) || decide (8 ≤ p0.1))))] a ∧ Stw ⟨Y, [], w0⟩ (Ii b1 p0) [] w) ?_ ?_
 ·
  refine Fq tk 5 [0] F W (ai fun a w F W => ?_)
  rcases Bool.eq_false_or_eq_true (decide (p0.1 ≠ (-1))) with hb0 | hb0
  ·
   rw [hb0] at F
   refine Fu tk 4 [0] F W (ai fun a w F W => ?_)
   rcases Bool.eq_false_or_eq_true (decide (p0.1 < 0)) with hb1 | hb1
   ·
    rw [hb1] at F
    refine vl tk 6 F W fun a w F W => ?_
    refine Ad ?_
    exact ⟨F.re ⟨rfl, Aa, (Ev (by try rw [hb0]; try rw [hb1]; all_goals simp only [Es])), trivial⟩, W⟩
   rw [hb1] at F
   refine Fu tk 6 [0] F W (ai fun a w F W => ?_)
   refine Ad ?_
   exact ⟨F.re ⟨rfl, Aa, (Ev (by try rw [hb0]; try rw [hb1]; all_goals simp only [Es])), trivial⟩, W⟩
  rw [hb0] at F
  refine vl tk 10 F W fun a w F W => ?_
  refine Ad ?_
  exact ⟨F.re ⟨rfl, Aa, (Ev (by try rw [hb0]; all_goals simp only [Es])), trivial⟩, W⟩
 rintro a w ⟨F, W⟩
 refine BE F Aa H (fun F H => ?_) fun F H => ?_
 ·
  refine vc tk 5 F W fun a w F W => ?_
  refine Al (Aq ?_)
  have H := Av H
  subst H
  refine Aw (.inl Aa) F W Aa (Ai F Aa) ?_
  exact ⟨rfl, W.done⟩
 refine AC (Ad ?_)
 obtain ⟨o1, G1, K1, L1⟩ := H1 H
 refine Au (fun a w => some (Sum.inl ()) = some o1 ∧ Fr 49 [] [(2, .bool false)] a ∧ Stw ⟨Y, [], w0⟩ (Ii b1 p0) [] w) ?_ ?_
 ·
  have H := G1
  clear G1 K1
  refine Fq tk 8 [0] F W (ai fun a w F W => ?_)
  refine BA H (fun s a w => Fr 49 [] [(1, .pointer (some ⟨b1, 0, none⟩)), (2, .bool false), (19, .agg #[.int .i64 p0.2.2.1, .int .i64 p0.2.2.2.1, .int .i64 p0.2.2.2.2.1, .int .i64 p0.2.2.2.2.2]), (20, .int .i64 s)] a ∧ Stw ⟨Y, [], w0⟩ (Ii b1 p0) [] w) ⟨F.ra Aa, W⟩ fun s o a w H L2 hR => ?_
  obtain ⟨x1, rfl⟩ : ∃ x, x = s := ⟨s, rfl⟩
  obtain ⟨F, W⟩ := hR
  have F : Fr 49 [] [(1, .pointer (some ⟨b1, 0, none⟩)), (2, .bool false), (19, .agg #[.int .i64 p0.2.2.1, .int .i64 p0.2.2.2.1, .int .i64 p0.2.2.2.2.1, .int .i64 p0.2.2.2.2.2]), (20, .int .i64 x1)] a := F
  have W : Stw ⟨Y, [], w0⟩ (Ii b1 p0) [] w := W
  rw [Ew] at H
  refine vc tk 6 F W fun a w F W => ?_
  refine Bi F Aa H (fun F H => ?_) fun F H => ?_
  ·
   refine D6 tk 7 F W fun a w F W => ?_
   obtain ⟨x2, h1, H⟩ := Af H
   refine ls F W Aa (OO (enc := Value.int .i64) (cs := [.int .i64 p0.2.2.1, .int .i64 p0.2.2.2.1, .int .i64 p0.2.2.2.2.1, .int .i64 p0.2.2.2.2.2]) DA T3 F Aa Aa Aa Aa h1).q fun a w F W => ?_
   refine vl tk 3 F W fun a w F W => ?_
   refine Ad ?_
   obtain ⟨o3, G3, K3⟩ := Af H
   refine Au (fun a w => ∃ x3 : Bool, some (x3) = some o3 ∧ Fr 49 [] [(1, .pointer (some ⟨b1, 0, none⟩)), (2, .bool false), (19, .agg #[.int .i64 p0.2.2.1, .int .i64 p0.2.2.2.1, .int .i64 p0.2.2.2.2.1, .int .i64 p0.2.2.2.2.2]), (20, .int .i64 x1), (47, .bool x3)] a ∧ Stw ⟨Y, [], w0⟩ (Ii b1 p0) [] w) ?_ ?_
   ·
    have H := G3
    clear G3 K3
    refine vc tk 4 F W fun a w F W => ?_
    rcases Bool.eq_false_or_eq_true (decide (x2 < 0)) with hb | hb
    ·
     have H := B4 (Cn hb) H
     rw [hb] at F
     clear hb
     refine vl tk 22 F W fun a w F W => ?_
     refine Ad ?_
     exact ⟨_, H, F.ra Aa, W⟩
    have H := B5 (Cp hb) H
    rw [hb] at F
    clear hb
    refine vl tk 2 F W fun a w F W => ?_
    refine F2 (Ae F Aa Aa Aa Aa) ?_
    obtain ⟨x4, h2, H⟩ := Af H
    refine ls F W Aa (AM (v := Value.int .i64 x4) F RS Aa (fun w W => Fj any w x1 _ h2)) fun a w F W => ?_
    refine vl tk 3 F W fun a w F W => ?_
    rcases Bool.eq_false_or_eq_true (decide (x4 < x2)) with hb | hb
    ·
     have H := B4 (Cn hb) H
     rw [hb] at F
     clear hb
     refine vl tk 16 F W fun a w F W => ?_
     refine Ad ?_
     exact ⟨_, H, F.ra Aa, W⟩
    have H := B5 (Cp hb) H
    rw [hb] at F
    clear hb
    refine vl tk 2 F W fun a w F W => ?_
    obtain ⟨x5, h3, H⟩ := Af H
    refine FE F W (Ae F Aa Aa Aa Aa) Aa (As Aa) (A7 (1 + (x1).toNat * 1) DA F Aa Aa Aa h3 Aa).q fun a w F W => ?_
    refine FE F W (Ae F Aa Aa Aa Aa) Aa (As Aa) (Bn (v := Value.int .i64 x5) 0 F Aa Aa T3 (B1 (base := 1) (m := 4) (l := [p0.2.1.1, p0.2.1.2.1, p0.2.1.2.2.1, p0.2.1.2.2.2]) (enc := Value.int .i64) Aa h3)).q fun a w F W => ?_
    refine vl tk 3 F W fun a w F W => ?_
    rcases Bool.eq_false_or_eq_true (decide (x5 < 0)) with hb | hb
    ·
     have H := B4 (Cn hb) H
     rw [hb] at F
     clear hb
     refine vl tk 9 F W fun a w F W => ?_
     refine Ad ?_
     exact ⟨_, H, F.ra Aa, W⟩
    have H := B5 (Cp hb) H
    rw [hb] at F
    clear hb
    refine vl tk 2 F W fun a w F W => ?_
    obtain ⟨x6, h4, H⟩ := Af H
    refine FE F W (Ae F Aa Aa Aa Aa) Aa (As Aa) (A7 (1 + (x1).toNat * 1) DA F Aa Aa Aa h4 Aa).q fun a w F W => ?_
    refine FE F W (Ae F Aa Aa Aa Aa) Aa (As Aa) (Bn (v := Value.int .i64 x6) 0 F Aa Aa T3 (B1 (base := 1) (m := 4) (l := [p0.2.1.1, p0.2.1.2.1, p0.2.1.2.2.1, p0.2.1.2.2.2]) (enc := Value.int .i64) Aa h4)).q fun a w F W => ?_
    refine vl tk 5 F W fun a w F W => ?_
    refine Ad ?_
    exact ⟨_, H, F.ra Aa, W⟩
   rintro a w ⟨x3, hj, F, W⟩
   have hj := Av hj
   subst hj
   have H := K3
   clear G3 K3
   refine BE F Aa H (fun F H => ?_) fun F H => ?_
   ·
    refine vc tk 5 F W fun a w F W => ?_
    refine Al (Az ?_)
    iterate 2 refine Aq ?_
    refine Az (Aq ?_)
    have H := L2 _ H
    have H := L1 _ H
    have H := Av H
    subst H
    refine Aw (.inl Aa) F W Aa (Ai F Aa) ?_
    exact ⟨rfl, W.done⟩
   refine AC (AF ?_)
   refine vn tk 4 F W fun a w F W => ?_
   refine Ad ?_
   exact ⟨_, H, F.ra Aa, W⟩
  refine Bm ?_
  iterate 2 refine BU ?_
  refine Bp (Ad ?_)
  have H := L2 _ H
  exact ⟨H, F.ra Aa, W⟩
 rintro a w ⟨hj, F, W⟩
 have H := K1 _ hj
 clear hj G1 K1 L1
 refine vc tk 5 F W fun a w F W => ?_
 refine Al ?_
 have H := Av H
 subst H
 refine Aw (.inl Aa) F W Aa (Ai F Aa) ?_
 exact ⟨rfl, W.done⟩
theorem Te : Has Try.prog 63 := BV Try.func63
noncomputable def F9 (p0 : Int × Int × Int) (p1 : Int) : Option Bool := (if p0.1 = 1 then (if 0 ≤ p0.2.1 then (if p0.2.1 < 4 then (if 0 ≤ p0.2.2 then (C7 p0.2.1).bind fun x2 => some (decide (p0.2.2 ≤ x2)) else some false) else some false) else some false).bind fun x1 => some x1 else (if p0.1 = 2 then some (decide (p0.2.1 = 0) && (decide (0 ≤ p0.2.2) && decide (p0.2.2 < p1))) else (if p0.1 = 3 then some (decide (p0.2.1 = 0) && decide (p0.2.2 = 0)) else some false)))
theorem Lk (Y : Nat → Prop) (w0 : World)  (p0 : Int × Int × Int) (p1 : Int) (r : Bool) (H : F9 p0 p1 = some r)  :
    Calls Try.prog 80 #[.agg #[.int .i64 p0.1, .int .i64 p0.2.1, .int .i64 p0.2.2], .int .i64 p1] w0 fun e w' => e = .returned (.bool r) ∧ Below w0.heap.size w0 w' := by
 refine enter Try.func80 Aa Try.ntmps80 Aa fun a F => ?_
 have W := Stw.start Y w0
 unfold F9 at H
 refine vc tk 2 F W fun a w F W => ?_
 refine BR (cs := [.int .i64 p0.1, .int .i64 p0.2.1, .int .i64 p0.2.2]) F W Aa Aa Aa fun b1 a w F W => ?_
 refine Eo tk 17 [0] F W (ai fun a w F W => ?_)
 refine CL F Aa (fun hb => ?_) fun hb => ?_
 ·
  have H := B4 (Cn hb) H
  rw [hb] at F
  clear hb
  obtain ⟨o1, G1, K1⟩ := Af H
  refine Au (fun a w => ∃ x1 : Bool, some (x1) = some o1 ∧ Fr 56 [] [(4, .bool x1)] a ∧ Stw ⟨Y, [], w0⟩ (Nu b1 p0) [] w) ?_ ?_
  ·
   have H := G1
   clear G1 K1
   refine Ck W MO (by kernel_rfl) ?_
   refine qs F Aa (Aj IH Aa Aa Aa T3 F Aa 1 Aa).q fun a F => ?_
   refine qs F Aa (Bn (v := Value.int .i64 p0.2.1) 0 F Aa Aa T3 Aa).q fun a F => ?_
   refine qs F Aa (KY F Aa Aa).q fun a F => ?_
   refine qs F Aa (Am F Aa).q fun a F => ?_
   rcases Bool.eq_false_or_eq_true (decide (0 ≤ p0.2.1)) with hb | hb
   ·
    have H := B4 (Cn hb) H
    rw [hb] at F
    clear hb
    refine A2 F (Ae F Aa Aa Aa Aa) Aa (As Aa) (Aj IH Aa Aa Aa T3 F Aa 1 Aa).q fun a F => ?_
    refine A2 F (Ae F Aa Aa Aa Aa) Aa (As Aa) (Bn (v := Value.int .i64 p0.2.1) 0 F Aa Aa T3 Aa).q fun a F => ?_
    refine A2 F (Ae F Aa Aa Aa Aa) Aa (As Aa) (JV F Aa Aa).q fun a F => ?_
    refine qs F Aa (BH F Aa Aa Aa).q fun a F => ?_
    refine qs F Aa (Am F Aa).q fun a F => ?_
    rcases Bool.eq_false_or_eq_true (decide (p0.2.1 < 4)) with hb | hb
    ·
     have H := B4 (Cn hb) H
     rw [hb] at F
     clear hb
     refine A2 F (Ae F Aa Aa Aa Aa) Aa (As Aa) (Aj IH Aa Aa Aa T3 F Aa 2 Aa).q fun a F => ?_
     refine A2 F (Ae F Aa Aa Aa Aa) Aa (As Aa) (Bn (v := Value.int .i64 p0.2.2) 0 F Aa Aa T3 Aa).q fun a F => ?_
     refine A2 F (Ae F Aa Aa Aa Aa) Aa (As Aa) (KY F Aa Aa).q fun a F => ?_
     refine qs F Aa (BH F Aa Aa Aa).q fun a F => ?_
     refine qs F Aa (Am F Aa).q fun a F => ?_
     rcases Bool.eq_false_or_eq_true (decide (0 ≤ p0.2.2)) with hb | hb
     ·
      have H := B4 (Cn hb) H
      rw [hb] at F
      clear hb
      refine A2 F (Ae F Aa Aa Aa Aa) Aa (As Aa) (Aj IH Aa Aa Aa T3 F Aa 2 Aa).q fun a F => ?_
      refine A2 F (Ae F Aa Aa Aa Aa) Aa (As Aa) (Bn (v := Value.int .i64 p0.2.2) 0 F Aa Aa T3 Aa).q fun a F => ?_
      refine A2 F (Ae F Aa Aa Aa Aa) Aa (As Aa) (Aj IH Aa Aa Aa T3 F Aa 1 Aa).q fun a F => ?_
      refine A2 F (Ae F Aa Aa Aa Aa) Aa (As Aa) (Bn (v := Value.int .i64 p0.2.1) 0 F Aa Aa T3 Aa).q fun a F => ?_
      obtain ⟨x2, h1, H⟩ := Af H
      refine A2 F (Ae F Aa Aa Aa Aa) Aa (As Aa) (AM (v := Value.int .i64 x2) F RS Aa (fun w W => Fj any w p0.2.1 _ h1)) fun a F => ?_
      refine A2 F (Ae F Aa Aa Aa Aa) Aa (As Aa) (Mn F Aa Aa).q fun a F => ?_
      refine qs F Aa (BH F Aa Aa Aa).q fun a F => ?_
      refine qs F Aa (BI F Aa).q fun a F => ?_
      refine AJ fun w W => ?_
      refine Ad ?_
      exact ⟨_, H, F.ra Aa, W⟩
     have H := B5 (Cp hb) H
     rw [hb] at F
     clear hb
     iterate 6 refine AP F (AB F Aa Aa Aa Aa Aa) Aa Aa fun a F => ?_
     refine qs F Aa (AO F Aa Aa Aa).q fun a F => ?_
     refine qs F Aa (BI F Aa).q fun a F => ?_
     refine AJ fun w W => ?_
     refine Ad ?_
     exact ⟨_, H, F.ra Aa, W⟩
    have H := B5 (Cp hb) H
    rw [hb] at F
    clear hb
    iterate 3 refine AP F (AB F Aa Aa Aa Aa Aa) Aa Aa fun a F => ?_
    refine qs F Aa (AO F Aa Aa Aa).q fun a F => ?_
    refine qs F Aa (Am F Aa).q fun a F => ?_
    iterate 6 refine AP F (AB F Aa Aa Aa Aa Aa) Aa Aa fun a F => ?_
    refine qs F Aa (AO F Aa Aa Aa).q fun a F => ?_
    refine qs F Aa (BI F Aa).q fun a F => ?_
    refine AJ fun w W => ?_
    refine Ad ?_
    exact ⟨_, H, F.ra Aa, W⟩
   have H := B5 (Cp hb) H
   rw [hb] at F
   clear hb
   iterate 3 refine AP F (AB F Aa Aa Aa Aa Aa) Aa Aa fun a F => ?_
   refine qs F Aa (AO F Aa Aa Aa).q fun a F => ?_
   refine qs F Aa (Am F Aa).q fun a F => ?_
   iterate 3 refine AP F (AB F Aa Aa Aa Aa Aa) Aa Aa fun a F => ?_
   refine qs F Aa (AO F Aa Aa Aa).q fun a F => ?_
   refine qs F Aa (Am F Aa).q fun a F => ?_
   iterate 6 refine AP F (AB F Aa Aa Aa Aa Aa) Aa Aa fun a F => ?_
   refine qs F Aa (AO F Aa Aa Aa).q fun a F => ?_
   refine qs F Aa (BI F Aa).q fun a F => ?_
   refine AJ fun w W => ?_
   refine Ad ?_
   exact ⟨_, H, F.ra Aa, W⟩
  rintro a w ⟨x1, hj, F, W⟩
  have hj := Av hj
  subst hj
  have H := K1
  clear G1 K1
  refine Al (Az (Aq ?_))
  have H := Av H
  subst H
  refine Aw (.inl Aa) F W Aa (Ai F Aa) ?_
  exact ⟨rfl, W.done⟩
 have H := B5 (Cp hb) H
 rw [hb] at F
 clear hb
 refine vc tk 6 F W fun a w F W => ?_
 refine CL F Aa (fun hb => ?_) fun hb => ?_
 ·
  have H := B4 (Cn hb) H
  rw [hb] at F
  clear hb
  refine Au (fun a w => Fr 56 [] [(4, .bool (decide (p0.2.1 = 0) && (decide (0 ≤ p0.2.2) && decide (p0.2.2 < p1))))] a ∧ Stw ⟨Y, [], w0⟩ (Nu b1 p0) [] w) ?_ ?_
  ·
   refine Fq tk 5 [0] F W (ai fun a w F W => ?_)
   rcases Bool.eq_false_or_eq_true (decide (p0.2.1 = 0)) with hb0 | hb0
   ·
    rw [hb0] at F
    refine Fu tk 5 [0] F W (ai fun a w F W => ?_)
    rcases Bool.eq_false_or_eq_true (decide (0 ≤ p0.2.2)) with hb1 | hb1
    ·
     rw [hb1] at F
     refine Fu tk 7 [0] F W (ai fun a w F W => ?_)
     refine Ad ?_
     exact ⟨F.re ⟨(Ev (by try rw [hb0]; try rw [hb1]; all_goals simp only [Es])), trivial⟩, W⟩
    rw [hb1] at F
    refine vl tk 7 F W fun a w F W => ?_
    refine Ad ?_
    exact ⟨F.re ⟨(Ev (by try rw [hb0]; try rw [hb1]; all_goals simp only [Es])), trivial⟩, W⟩
   rw [hb0] at F
   refine vl tk 12 F W fun a w F W => ?_
   refine Ad ?_
   exact ⟨F.re ⟨(Ev (by try rw [hb0]; all_goals simp only [Es])), trivial⟩, W⟩
  rintro a w ⟨F, W⟩
  refine Al (Az (Aq ?_))
  have H := Av H
  subst H
  refine Aw (.inl Aa) F W Aa (Ai F Aa) ?_
  exact ⟨rfl, W.done⟩
 have H := B5 (Cp hb) H
 rw [hb] at F
 clear hb
 refine vc tk 6 F W fun a w F W => ?_
 refine CL F Aa (fun hb => ?_) fun hb => ?_
 ·
  have H := B4 (Cn hb) H
  rw [hb] at F
  clear hb
  refine Au (fun a w => Fr 56 [] [(4, .bool (decide (p0.2.1 = 0) && decide (p0.2.2 = 0)))] a ∧ Stw ⟨Y, [], w0⟩ (Nu b1 p0) [] w) ?_ ?_
  ·
   refine Fq tk 5 [0] F W (ai fun a w F W => ?_)
   rcases Bool.eq_false_or_eq_true (decide (p0.2.1 = 0)) with hb0 | hb0
   ·
    rw [hb0] at F
    refine Fu tk 6 [0] F W (ai fun a w F W => ?_)
    refine Ad ?_
    exact ⟨F.re ⟨(Ev (by try rw [hb0]; all_goals simp only [Es])), trivial⟩, W⟩
   rw [hb0] at F
   refine vl tk 6 F W fun a w F W => ?_
   refine Ad ?_
   exact ⟨F.re ⟨(Ev (by try rw [hb0]; all_goals simp only [Es])), trivial⟩, W⟩
  rintro a w ⟨F, W⟩
  refine Al (Az (Aq ?_))
  have H := Av H
  subst H
  refine Aw (.inl Aa) F W Aa (Ai F Aa) ?_
  exact ⟨rfl, W.done⟩
 have H := B5 (Cp hb) H
 rw [hb] at F
 clear hb
 refine AC (AF ?_)
 refine vn tk 5 F W fun a w F W => ?_
 refine Al ?_
 have H := Av H
 subst H
 refine Aw (.inl Aa) F W Aa (Ai F Aa) ?_
 exact ⟨rfl, W.done⟩
theorem Tp : Has Try.prog 80 := BV Try.func80
noncomputable def Fo (p0 : List (Int × Int × Int)) (p1 : Int) : Int → Option (Int ⊕ (Unit ⊕ Bool))
  | x1 => (if x1 < (p0.length : Int) then (ix p0 x1).bind fun x2 => (F9 x2 p1).bind fun x3 => (if (!x3) = true then some (.inr (.inr false)) else some (.inl (Cc (x1 + 1)))) else some (.inr (.inl ())))
noncomputable def Ge (p0 : List (Int × Int × Int)) (p1 : Int) : Option Bool := (if 16 < (p0.length : Int) then some false else FR (AX (Fo p0 p1) 0) fun _ => some true)
theorem Ls (Y : Nat → Prop) (w0 : World) (v1 : Value) (p0 : List (Int × Int × Int)) (p1 : Int) (r : Bool) (H : Ge p0 p1 = some r) (h_v1 : Sl w0 (NX []) Bk v1 p0) :
    Calls Try.prog 64 #[v1, .int .i64 p1] w0 fun e w' => e = .returned (.bool r) ∧ Below w0.heap.size w0 w' := by
 refine enter Try.func64 Aa Try.ntmps64 Aa fun a F => ?_
 have W := Stw.start Y w0
 unfold Ge at H
 refine vc tk 9 F W fun a w F W => ?_
 refine ls F W Aa (B7 (r := Bk) (l := p0) Io Aa F Aa (An h_v1)).q fun a w F W => ?_
 refine BJ tk 3 F W fun a w F W => ?_
 refine Bi F Aa H (fun F H => ?_) fun F H => ?_
 ·
  refine vc tk 5 F W fun a w F W => ?_
  refine Al (Aq ?_)
  have H := Av H
  subst H
  refine Aw (.inl Aa) F W Aa (Ai F Aa) ?_
  exact ⟨rfl, W.done⟩
 refine AC (Ad ?_)
 obtain ⟨o1, G1, K1, L1⟩ := H1 H
 refine Au (fun a w => some (Sum.inl ()) = some o1 ∧ Fr 21 [] [(4, .bool false)] a ∧ Stw ⟨Y, [], w0⟩ [] [] w) ?_ ?_
 ·
  have H := G1
  clear G1 K1
  refine vc tk 3 F W fun a w F W => ?_
  refine ls F W Aa (B7 (r := Bk) (l := p0) Io Aa F Aa (An h_v1)).q fun a w F W => ?_
  refine BJ tk 4 F W fun a w F W => ?_
  refine BA H (fun s a w => Fr 21 [] [(1, .int .i64 p1), (4, .bool false), (10, v1), (11, .int .i64 (p0.length : Int)), (12, .int .i64 s)] a ∧ Stw ⟨Y, [], w0⟩ [] [] w) ⟨F.ra Aa, W⟩ fun s o a w H L2 hR => ?_
  obtain ⟨x1, rfl⟩ : ∃ x, x = s := ⟨s, rfl⟩
  obtain ⟨F, W⟩ := hR
  have F : Fr 21 [] [(1, .int .i64 p1), (4, .bool false), (10, v1), (11, .int .i64 (p0.length : Int)), (12, .int .i64 x1)] a := F
  have W : Stw ⟨Y, [], w0⟩ [] [] w := W
  rw [Fo] at H
  refine vc tk 6 F W fun a w F W => ?_
  refine Bi F Aa H (fun F H => ?_) fun F H => ?_
  ·
   refine D6 tk 6 F W fun a w F W => ?_
   obtain ⟨x2, h1, H⟩ := Af H
   refine ls F W Aa (AR (r := Bk) PQ F Aa Aa (An h_v1) h1).q fun a w F W => ?_
   refine ls F W Aa (AD (y := Value.agg #[.int .i64 x2.1, .int .i64 x2.2.1, .int .i64 x2.2.2]) (j := 0) (i := x1) F Aa Aa (An h_v1) h1 Qa.to Qt Aa).q fun a w F W => ?_
   refine Ca (cs := [.int .i64 0, .int .i64 0, .int .i64 0]) F W Aa R2 Aa fun b1 a w F W => ?_
   refine Dh 0 F W Aa Aa Aa Qt Aa Aa Aa fun w W => ?_
   refine Eo tk 6 [0] F W (ai fun a w F W => ?_)
   obtain ⟨x3, h2, H⟩ := Af H
   refine ls F W Aa (AM (v := Value.bool x3) F Tp Aa (fun w W => Lk any w x2 p1 _ h2)) fun a w F W => ?_
   refine BJ tk 3 F W fun a w F W => ?_
   refine BE F Aa H (fun F H => ?_) fun F H => ?_
   ·
    refine vc tk 5 F W fun a w F W => ?_
    refine Al (Az ?_)
    iterate 2 refine Aq ?_
    refine Az (Aq ?_)
    have H := L2 _ H
    have H := L1 _ H
    have H := Av H
    subst H
    refine Aw (.inl Aa) F W Aa (Ai F Aa) ?_
    exact ⟨rfl, W.done⟩
   refine AC (AF ?_)
   refine vn tk 4 F W fun a w F W => ?_
   refine Ad ?_
   have W := W.sub (M' := []) (Z' := []) (List.nil_sublist _) (List.Sublist.refl _)
   exact ⟨_, H, F.ra Aa, W⟩
  refine Bm ?_
  iterate 2 refine BU ?_
  refine Bp (Ad ?_)
  have H := L2 _ H
  exact ⟨H, F.ra Aa, W⟩
 rintro a w ⟨hj, F, W⟩
 have H := K1 _ hj
 clear hj G1 K1 L1
 refine vc tk 5 F W fun a w F W => ?_
 refine Al ?_
 have H := Av H
 subst H
 refine Aw (.inl Aa) F W Aa (Ai F Aa) ?_
 exact ⟨rfl, W.done⟩
theorem TC : Has Try.prog 64 := BV Try.func64
noncomputable def FJ (p0 : Int × (Int × (Int × Int × Int × Int) × (Int × Int × Int × Int)) × (List (Int × Int × Int))) (p1 : Int) : Option Bool := (if 0 ≤ p0.1 then (if p0.1 < 65536 then (Fc p0.2.1).bind fun x2 => (if x2 = true then (Ge p0.2.2 p1).bind fun x3 => some x3 else some false) else some false) else some false).bind fun x1 => some x1
theorem Kf (Y : Nat → Prop) (w0 : World) (v1 : Value) (p0 : Int × (Int × (Int × Int × Int × Int) × (Int × Int × Int × Int)) × (List (Int × Int × Int))) (p1 : Int) (r : Bool) (H : FJ p0 p1 = some r) (h_v1 : Sl w0 (NX []) Bk v1 p0.2.2) :
    Calls Try.prog 47 #[.agg #[.int .i64 p0.1, .int .i64 p0.2.1.1, .int .i64 p0.2.1.2.1.1, .int .i64 p0.2.1.2.1.2.1, .int .i64 p0.2.1.2.1.2.2.1, .int .i64 p0.2.1.2.1.2.2.2, .int .i64 p0.2.1.2.2.1, .int .i64 p0.2.1.2.2.2.1, .int .i64 p0.2.1.2.2.2.2.1, .int .i64 p0.2.1.2.2.2.2.2, v1], .int .i64 p1] w0 fun e w' => e = .returned (.bool r) ∧ Below w0.heap.size w0 w' := by
 refine enter Try.func47 Aa Try.ntmps47 Aa fun a F => ?_
 have W := Stw.start Y w0
 unfold FJ at H
 refine vc tk 2 F W fun a w F W => ?_
 refine BR (cs := (DZ p0 v1)) F W Aa Aa Aa fun b1 a w F W => ?_
 refine vl tk 2 F W fun a w F W => ?_
 refine Ad ?_
 obtain ⟨o1, G1, K1⟩ := Af H
 refine Au (fun a w => ∃ x1 : Bool, some (x1) = some o1 ∧ Fr 24 [] [(4, .bool x1)] a ∧ Stw ⟨Y, [], w0⟩ (Fd b1 p0 v1) [] w) ?_ ?_
 ·
  have H := G1
  clear G1 K1
  refine Fq tk 5 [0] F W (ai fun a w F W => ?_)
  rcases Bool.eq_false_or_eq_true (decide (0 ≤ p0.1)) with hb | hb
  ·
   have H := B4 (Cn hb) H
   rw [hb] at F
   clear hb
   refine Fu tk 5 [0] F W (ai fun a w F W => ?_)
   rcases Bool.eq_false_or_eq_true (decide (p0.1 < 65536)) with hb | hb
   ·
    have H := B4 (Cn hb) H
    rw [hb] at F
    clear hb
    refine Fu tk 2 [0] F W (ai fun a w F W => ?_)
    refine F2 (Ae F Aa Aa Aa Aa) ?_
    obtain ⟨x2, h1, H⟩ := Af H
    refine ls F W Aa (AM (v := Value.bool x2) F Te Aa (fun w W => JC any w p0.2.1 _ h1)) fun a w F W => ?_
    refine vl tk 2 F W fun a w F W => ?_
    rcases Bool.eq_false_or_eq_true x2 with hb | hb
    ·
     have H := B4 hb H
     rw [hb] at F
     clear hb
     refine Fu tk 3 [0] F W (ai fun a w F W => ?_)
     refine F2 (Ae F Aa Aa Aa Aa) ?_
     obtain ⟨x3, h2, H⟩ := Af H
     refine ls F W Aa (AM (v := Value.bool x3) F TC Aa (fun w W => Ls any w (v1) p0.2.2 p1 _ h2 (Dc (An h_v1) W))) fun a w F W => ?_
     refine vl tk 3 F W fun a w F W => ?_
     refine Ad ?_
     exact ⟨_, H, F.ra Aa, W⟩
    have H := B5 (by rw [hb]; decide) H
    rw [hb] at F
    clear hb
    refine vl tk 7 F W fun a w F W => ?_
    refine Ad ?_
    exact ⟨_, H, F.ra Aa, W⟩
   have H := B5 (Cp hb) H
   rw [hb] at F
   clear hb
   refine vl tk 12 F W fun a w F W => ?_
   refine Ad ?_
   exact ⟨_, H, F.ra Aa, W⟩
  have H := B5 (Cp hb) H
  rw [hb] at F
  clear hb
  refine vl tk 17 F W fun a w F W => ?_
  refine Ad ?_
  exact ⟨_, H, F.ra Aa, W⟩
 rintro a w ⟨x1, hj, F, W⟩
 have hj := Av hj
 subst hj
 have H := K1
 clear G1 K1
 refine Al ?_
 have H := Av H
 subst H
 refine Aw (.inl Aa) F W Aa (Ai F Aa) ?_
 exact ⟨rfl, W.done⟩
theorem Tu : Has Try.prog 47 := BV Try.func47
abbrev MC (a0 : Int) (a1 : Int × (Int × Int × Int × Int) × (Int × Int × Int × Int)) : List Value := [.int .i64 a0, .int .i64 a1.2.1.1, .int .i64 a1.2.1.2.1, .int .i64 a1.2.1.2.2.1, .int .i64 a1.2.1.2.2.2, .int .i64 a1.2.2.1, .int .i64 a1.2.2.2.1, .int .i64 a1.2.2.2.2.1, .int .i64 a1.2.2.2.2.2]
abbrev GU (a0 : Int) (a1 : Int) (a2 : Int) (a3 : Int) (a4 : Int) (a5 : Int) (a6 : Int) (a7 : Int) (a8 : Int) : List Value := [.int .i64 a0, .int .i64 a1, .int .i64 a2, .int .i64 a3, .int .i64 a4, .int .i64 a5, .int .i64 a6, .int .i64 a7, .int .i64 a8]
noncomputable def Dx (p1 : Int × (Int × Int × Int × Int) × (Int × Int × Int × Int)) : (Int × Int × Int × Int × Int × Int × Int × Int × Int) → Option ((Int × Int × Int × Int × Int × Int × Int × Int × Int) ⊕ ((Int × Int × Int × Int × Int × Int × Int × Int) ⊕ ((Int × (Int × Int × Int × Int) × (Int × Int × Int × Int)) × Bool)))
  | (x10, x11, x12, x13, x14, x15, x16, x17, x18) => (if x10 < 4 then (ix ([x11, x12, x13, x14] : List Int) x10).bind fun x19 => (ix ([p1.2.1.1, p1.2.1.2.1, p1.2.1.2.2.1, p1.2.1.2.2.2] : List Int) x10).bind fun x20 => (ix ([x15, x16, x17, x18] : List Int) x10).bind fun x21 => (ix ([p1.2.2.1, p1.2.2.2.1, p1.2.2.2.2.1, p1.2.2.2.2.2] : List Int) x10).bind fun x22 => (if (JM .i64 (JM .i64 (LV .i64 x19 x20) x21) x22) ≠ 0 then some (.inr (.inr ((0, (0, 0, 0, 0), (0, 0, 0, 0)), false))) else (ix ([x11, x12, x13, x14] : List Int) x10).bind fun x23 => (ix ([p1.2.1.1, p1.2.1.2.1, p1.2.1.2.2.1, p1.2.1.2.2.2] : List Int) x10).bind fun x24 => (ix ([x11, x12, x13, x14] : List Int) x10).bind fun x25 => (ix ([x15, x16, x17, x18] : List Int) x10).bind fun x26 => (ix ([p1.2.2.1, p1.2.2.2.1, p1.2.2.2.2.1, p1.2.2.2.2.2] : List Int) x10).bind fun x27 => (ix ([x15, x16, x17, x18] : List Int) x10).bind fun x28 => some (.inl (Cc (x10 + 1), (if x10 = 0 then F5 .i64 x23 x24 else x11), (if x10 = 1 then F5 .i64 x23 x24 else x12), (if x10 = 2 then F5 .i64 x23 x24 else x13), (if x10 = 3 then F5 .i64 x23 x24 else x14), (if x10 = 0 then F5 .i64 x26 x27 else x15), (if x10 = 1 then F5 .i64 x26 x27 else x16), (if x10 = 2 then F5 .i64 x26 x27 else x17), (if x10 = 3 then F5 .i64 x26 x27 else x18)))) else some (.inr (.inl (x11, x12, x13, x14, x15, x16, x17, x18))))
noncomputable def EX (p0 : Int × (Int × Int × Int × Int) × (Int × Int × Int × Int)) (p1 : Int × (Int × Int × Int × Int) × (Int × Int × Int × Int)) : Option ((Int × (Int × Int × Int × Int) × (Int × Int × Int × Int)) × Bool) := (if p0.1 = (-1) then some p1.1 else some p0.1).bind fun x1 => (if (decide (p1.1 ≠ (-1)) && decide (x1 ≠ p1.1)) = true then some ((0, (0, 0, 0, 0), (0, 0, 0, 0)), false) else FR (AX (Dx p1) (0, p0.2.1.1, p0.2.1.2.1, p0.2.1.2.2.1, p0.2.1.2.2.2, p0.2.2.1, p0.2.2.2.1, p0.2.2.2.2.1, p0.2.2.2.2.2)) fun (x2, x3, x4, x5, x6, x7, x8, x9) => some ((x1, (x2, x3, x4, x5), (x6, x7, x8, x9)), true))
theorem HN (Y : Nat → Prop) (w0 : World)  (p0 : Int × (Int × Int × Int × Int) × (Int × Int × Int × Int)) (p1 : Int × (Int × Int × Int × Int) × (Int × Int × Int × Int)) (r : (Int × (Int × Int × Int × Int) × (Int × Int × Int × Int)) × Bool) (H : EX p0 p1 = some r)  :
    Calls Try.prog 81 #[.agg #[.int .i64 p0.1, .int .i64 p0.2.1.1, .int .i64 p0.2.1.2.1, .int .i64 p0.2.1.2.2.1, .int .i64 p0.2.1.2.2.2, .int .i64 p0.2.2.1, .int .i64 p0.2.2.2.1, .int .i64 p0.2.2.2.2.1, .int .i64 p0.2.2.2.2.2], .agg #[.int .i64 p1.1, .int .i64 p1.2.1.1, .int .i64 p1.2.1.2.1, .int .i64 p1.2.1.2.2.1, .int .i64 p1.2.1.2.2.2, .int .i64 p1.2.2.1, .int .i64 p1.2.2.2.1, .int .i64 p1.2.2.2.2.1, .int .i64 p1.2.2.2.2.2]] w0 fun e w' => e = .returned (.tuple #[.agg #[.int .i64 r.1.1, .int .i64 r.1.2.1.1, .int .i64 r.1.2.1.2.1, .int .i64 r.1.2.1.2.2.1, .int .i64 r.1.2.1.2.2.2, .int .i64 r.1.2.2.1, .int .i64 r.1.2.2.2.1, .int .i64 r.1.2.2.2.2.1, .int .i64 r.1.2.2.2.2.2], .bool r.2]) ∧ Below w0.heap.size w0 w' := by
 refine enter Try.func81 Aa Try.ntmps81 Aa fun a F => ?_
 have W := Stw.start Y w0
 unfold EX at H
 refine vc tk 2 F W fun a w F W => ?_
 refine BR (cs := (EH p0)) F W Aa Aa Aa fun b1 a w F W => ?_
 refine BR (cs := [.int .i64 p1.1, .int .i64 p1.2.1.1, .int .i64 p1.2.1.2.1, .int .i64 p1.2.1.2.2.1, .int .i64 p1.2.1.2.2.2, .int .i64 p1.2.2.1, .int .i64 p1.2.2.2.1, .int .i64 p1.2.2.2.2.1, .int .i64 p1.2.2.2.2.2]) F W Aa Aa Aa fun b2 a w F W => ?_
 refine Ca (cs := (D7)) F W Aa Py Aa fun b3 a w F W => ?_
 refine vl tk 2 F W fun a w F W => ?_
 refine Ad ?_
 obtain ⟨o1, G1, K1⟩ := Af H
 refine Au (fun a w => ∃ x1 : Int, some (x1) = some o1 ∧ Fr 72 [] [(2, .pointer (some ⟨b1, 0, none⟩)), (3, .pointer (some ⟨b2, 0, none⟩)), (4, .pointer (some ⟨b3, 0, none⟩)), (5, .bool false)] a ∧ Stw ⟨Y, [], w0⟩ [(b3, (D7)), (b2, [.int .i64 p1.1, .int .i64 p1.2.1.1, .int .i64 p1.2.1.2.1, .int .i64 p1.2.1.2.2.1, .int .i64 p1.2.1.2.2.2, .int .i64 p1.2.2.1, .int .i64 p1.2.2.2.1, .int .i64 p1.2.2.2.2.1, .int .i64 p1.2.2.2.2.2]), (b1, (MC x1 p0))] [] w) ?_ ?_
 ·
  have H := G1
  clear G1 K1
  refine Fq tk 7 [2] F W (ai fun a w F W => ?_)
  refine Bi F Aa H (fun F H => ?_) fun F H => ?_
  ·
   refine Fq tk 4 [1] F W (ai fun a w F W => ?_)
   refine Dh 2 F W Aa Aa Aa T3 Aa Aa Aa fun w W => ?_
   refine Er (Ad ?_)
   have W := W.frontM (i := 2) Aa Aa
   have W := W.frontM (i := 2) Aa Aa
   have W := W.frontM (i := 2) Aa Aa
   exact ⟨_, H, F.ra Aa, W⟩
  refine AC (Ad ?_)
  have W := W.frontM (i := 2) Aa Aa
  have W := W.frontM (i := 2) Aa Aa
  have W := W.frontM (i := 2) Aa Aa
  exact ⟨_, H, F.ra Aa, W⟩
 rintro a w ⟨x1, hj, F, W⟩
 have hj := Av hj
 subst hj
 have H := K1
 clear G1 K1
 refine GB ?_
 refine Au (fun a w => Fr 72 [] [(2, .pointer (some ⟨b1, 0, none⟩)), (3, .pointer (some ⟨b2, 0, none⟩)), (4, .pointer (some ⟨b3, 0, none⟩)), (5, .bool false), (22, .bool (decide (p1.1 ≠ (-1)) && decide (x1 ≠ p1.1)))] a ∧ Stw ⟨Y, [], w0⟩ [(b3, (D7)), (b2, [.int .i64 p1.1, .int .i64 p1.2.1.1, .int .i64 p1.2.1.2.1, .int .i64 p1.2.1.2.2.1, .int .i64 p1.2.1.2.2.2, .int .i64 p1.2.2.1, .int .i64 p1.2.2.2.1, .int .i64 p1.2.2.2.2.1, .int .i64 p1.2.2.2.2.2]), (b1, (MC x1 p0))] [] w) ?_ ?_
 ·
  refine Fq tk 5 [1] F W (ai fun a w F W => ?_)
  rcases Bool.eq_false_or_eq_true (decide (p1.1 ≠ (-1))) with hb0 | hb0
  ·
   rw [hb0] at F
   refine Fu tk 7 [2, 1] F W (ai (ai fun a w F W => ?_))
   refine Ad ?_
   exact ⟨F.re ⟨rfl, Aa, Aa, Aa, (Ev (by try rw [hb0]; all_goals simp only [Es])), trivial⟩, W⟩
  rw [hb0] at F
  refine vl tk 7 F W fun a w F W => ?_
  refine Ad ?_
  exact ⟨F.re ⟨rfl, Aa, Aa, Aa, (Ev (by try rw [hb0]; all_goals simp only [Es])), trivial⟩, W⟩
 rintro a w ⟨F, W⟩
 refine BE F Aa H (fun F H => ?_) fun F H => ?_
 ·
  refine vc tk 2 F W fun a w F W => ?_
  refine ls F W Aa (Dr (v := Value.agg #[.int .i64 0, .int .i64 0, .int .i64 0, .int .i64 0, .int .i64 0, .int .i64 0, .int .i64 0, .int .i64 0, .int .i64 0]) Rh F Aa Aa Aa).q fun a w F W => ?_
  refine Dh 0 F W Aa Aa Aa H2 Aa Aa Aa fun w W => ?_
  refine BJ tk 3 F W fun a w F W => ?_
  refine Al (Aq ?_)
  have H := Av H
  subst H
  refine CI (.inl Aa) F W Aa (Dp 0 F Aa Aa H2 Aa) (Ai F Aa) ?_
  exact ⟨rfl, W.done⟩
 refine AC (Ad ?_)
 obtain ⟨o2, G2, K2, L2⟩ := H1 H
 refine Au (fun a w => ∃ x2 : Int, ∃ x3 : Int, ∃ x4 : Int, ∃ x5 : Int, ∃ x6 : Int, ∃ x7 : Int, ∃ x8 : Int, ∃ x9 : Int, some (Sum.inl (x2, x3, x4, x5, x6, x7, x8, x9)) = some o2 ∧ Fr 72 [] [(2, .pointer (some ⟨b1, 0, none⟩)), (4, .pointer (some ⟨b3, 0, none⟩)), (5, .bool false)] a ∧ Stw ⟨Y, [], w0⟩ [(b3, (D7)), (b2, [.int .i64 p1.1, .int .i64 p1.2.1.1, .int .i64 p1.2.1.2.1, .int .i64 p1.2.1.2.2.1, .int .i64 p1.2.1.2.2.2, .int .i64 p1.2.2.1, .int .i64 p1.2.2.2.1, .int .i64 p1.2.2.2.2.1, .int .i64 p1.2.2.2.2.2]), (b1, (GU x1 x2 x3 x4 x5 x6 x7 x8 x9))] [] w) ?_ ?_
 ·
  have H := G2
  clear G2 K2
  refine vc tk 6 F W fun a w F W => ?_
  have W := W.frontM (i := 2) Aa Aa
  have W := W.frontM (i := 2) Aa Aa
  have W := W.frontM (i := 2) Aa Aa
  refine BA H (fun s a w => Fr 72 [] [(2, .pointer (some ⟨b1, 0, none⟩)), (3, .pointer (some ⟨b2, 0, none⟩)), (4, .pointer (some ⟨b3, 0, none⟩)), (5, .bool false), (24, .int .i64 s.1)] a ∧ Stw ⟨Y, [], w0⟩ [(b3, (D7)), (b2, [.int .i64 p1.1, .int .i64 p1.2.1.1, .int .i64 p1.2.1.2.1, .int .i64 p1.2.1.2.2.1, .int .i64 p1.2.1.2.2.2, .int .i64 p1.2.2.1, .int .i64 p1.2.2.2.1, .int .i64 p1.2.2.2.2.1, .int .i64 p1.2.2.2.2.2]), (b1, [.int .i64 x1, .int .i64 s.2.1, .int .i64 s.2.2.1, .int .i64 s.2.2.2.1, .int .i64 s.2.2.2.2.1, .int .i64 s.2.2.2.2.2.1, .int .i64 s.2.2.2.2.2.2.1, .int .i64 s.2.2.2.2.2.2.2.1, .int .i64 s.2.2.2.2.2.2.2.2])] [] w) ⟨F.ra Aa, W⟩ fun s o a w H L3 hR => ?_
  obtain ⟨x10, x11, x12, x13, x14, x15, x16, x17, x18⟩ := s
  obtain ⟨F, W⟩ := hR
  have F : Fr 72 [] [(2, .pointer (some ⟨b1, 0, none⟩)), (3, .pointer (some ⟨b2, 0, none⟩)), (4, .pointer (some ⟨b3, 0, none⟩)), (5, .bool false), (24, .int .i64 x10)] a := F
  have W : Stw ⟨Y, [], w0⟩ [(b3, (D7)), (b2, [.int .i64 p1.1, .int .i64 p1.2.1.1, .int .i64 p1.2.1.2.1, .int .i64 p1.2.1.2.2.1, .int .i64 p1.2.1.2.2.2, .int .i64 p1.2.2.1, .int .i64 p1.2.2.2.1, .int .i64 p1.2.2.2.2.1, .int .i64 p1.2.2.2.2.2]), (b1, (GU x1 x11 x12 x13 x14 x15 x16 x17 x18))] [] w := W
  rw [Dx] at H
  refine vc tk 6 F W fun a w F W => ?_
  refine Bi F Aa H (fun F H => ?_) fun F H => ?_
  ·
   refine D6 tk 12 F W fun a w F W => ?_
   refine Ck W MO (by kernel_rfl) ?_
   refine qs F Aa (Am F Aa).q fun a F => ?_
   refine qs F Aa (Aj Eb Aa Aa Aa Hk F Aa 1 Aa).q fun a F => ?_
   obtain ⟨x19, h1, H⟩ := Af H
   refine qs F Aa (A7 (1 + (x10).toNat * 1) DA F Aa Aa Aa h1 Aa).q fun a F => ?_
   refine qs F Aa (Bn (v := Value.int .i64 x19) 2 F Aa Aa T3 (B1 (base := 1) (m := 4) (l := [x11, x12, x13, x14]) (enc := Value.int .i64) Aa h1)).q fun a F => ?_
   refine qs F Aa (Am F Aa).q fun a F => ?_
   refine qs F Aa (Aj Eb Aa Aa Aa Hk F Aa 1 Aa).q fun a F => ?_
   obtain ⟨x20, h2, H⟩ := Af H
   refine qs F Aa (A7 (1 + (x10).toNat * 1) DA F Aa Aa Aa h2 Aa).q fun a F => ?_
   refine qs F Aa (Bn (v := Value.int .i64 x20) 1 F Aa Aa T3 (B1 (base := 1) (m := 4) (l := [p1.2.1.1, p1.2.1.2.1, p1.2.1.2.2.1, p1.2.1.2.2.2]) (enc := Value.int .i64) Aa h2)).q fun a F => ?_
   refine qs F Aa (P0 F Aa Aa).q fun a F => ?_
   refine qs F Aa (Am F Aa).q fun a F => ?_
   refine qs F Aa (Aj Eb Aa Aa Aa Hk F Aa 5 Aa).q fun a F => ?_
   obtain ⟨x21, h3, H⟩ := Af H
   refine qs F Aa (A7 (5 + (x10).toNat * 1) DA F Aa Aa Aa h3 Aa).q fun a F => ?_
   refine qs F Aa (Bn (v := Value.int .i64 x21) 2 F Aa Aa T3 (B1 (base := 5) (m := 4) (l := [x15, x16, x17, x18]) (enc := Value.int .i64) Aa h3)).q fun a F => ?_
   refine qs F Aa (Ow F Aa Aa).q fun a F => ?_
   refine qs F Aa (Am F Aa).q fun a F => ?_
   refine qs F Aa (Aj Eb Aa Aa Aa Hk F Aa 5 Aa).q fun a F => ?_
   obtain ⟨x22, h4, H⟩ := Af H
   refine qs F Aa (A7 (5 + (x10).toNat * 1) DA F Aa Aa Aa h4 Aa).q fun a F => ?_
   refine qs F Aa (Bn (v := Value.int .i64 x22) 1 F Aa Aa T3 (B1 (base := 5) (m := 4) (l := [p1.2.2.1, p1.2.2.2.1, p1.2.2.2.2.1, p1.2.2.2.2.2]) (enc := Value.int .i64) Aa h4)).q fun a F => ?_
   refine qs F Aa (Ow F Aa Aa).q fun a F => ?_
   refine qs F Aa (Kb F Aa Aa).q fun a F => ?_
   refine AJ fun w W => ?_
   refine Ad ?_
   refine Bi F Aa H (fun F H => ?_) fun F H => ?_
   ·
    refine vc tk 2 F W fun a w F W => ?_
    refine ls F W Aa (Dr (v := Value.agg #[.int .i64 0, .int .i64 0, .int .i64 0, .int .i64 0, .int .i64 0, .int .i64 0, .int .i64 0, .int .i64 0, .int .i64 0]) Rh F Aa Aa Aa).q fun a w F W => ?_
    refine Dh 0 F W Aa Aa Aa H2 Aa Aa Aa fun w W => ?_
    refine BJ tk 3 F W fun a w F W => ?_
    refine Al (Aq (Az ?_))
    iterate 2 refine Aq ?_
    refine Az (Aq ?_)
    have H := L3 _ H
    have H := L2 _ H
    have H := Av H
    subst H
    refine CI (.inl Aa) F W Aa (Dp 0 F Aa Aa H2 Aa) (Ai F Aa) ?_
    exact ⟨rfl, W.done⟩
   refine D6 tk 3 F W fun a w F W => ?_
   refine GK 11 W MO (by kernel_rfl) ?_
   refine qs F Aa (Am F Aa).q fun a F => ?_
   refine qs F Aa (Aj Eb Aa Aa Aa Hk F Aa 1 Aa).q fun a F => ?_
   obtain ⟨x23, h5, H⟩ := Af H
   refine qs F Aa (A7 (1 + (x10).toNat * 1) DA F Aa Aa Aa h5 Aa).q fun a F => ?_
   refine qs F Aa (Bn (v := Value.int .i64 x23) 2 F Aa Aa T3 (B1 (base := 1) (m := 4) (l := [x11, x12, x13, x14]) (enc := Value.int .i64) Aa h5)).q fun a F => ?_
   refine qs F Aa (Am F Aa).q fun a F => ?_
   refine qs F Aa (Aj Eb Aa Aa Aa Hk F Aa 1 Aa).q fun a F => ?_
   obtain ⟨x24, h6, H⟩ := Af H
   refine qs F Aa (A7 (1 + (x10).toNat * 1) DA F Aa Aa Aa h6 Aa).q fun a F => ?_
   refine qs F Aa (Bn (v := Value.int .i64 x24) 1 F Aa Aa T3 (B1 (base := 1) (m := 4) (l := [p1.2.1.1, p1.2.1.2.1, p1.2.1.2.2.1, p1.2.1.2.2.2]) (enc := Value.int .i64) Aa h6)).q fun a F => ?_
   refine qs F Aa (Qj F Aa Aa).q fun a F => ?_
   refine qs F Aa (Aj Eb Aa Aa Aa Hk F Aa 1 Aa).q fun a F => ?_
   obtain ⟨x25, h7, H⟩ := Af H
   refine qs F Aa (A7 (1 + (x10).toNat * 1) DA F Aa Aa Aa h7 Aa).q fun a F => ?_
   refine AJ fun w W => ?_
   refine Ef (o := 1) (m := 4) (i := x10) (l := ([x11, x12, x13, x14] : List Int)) (x := x25) (cs := (GU x1 x11 x12 x13 x14 x15 x16 x17 x18)) (cs' := [.int .i64 x1, .int .i64 (if x10 = 0 then F5 .i64 x23 x24 else x11), .int .i64 (if x10 = 1 then F5 .i64 x23 x24 else x12), .int .i64 (if x10 = 2 then F5 .i64 x23 x24 else x13), .int .i64 (if x10 = 3 then F5 .i64 x23 x24 else x14), .int .i64 x15, .int .i64 x16, .int .i64 x17, .int .i64 x18]) 2 F W Aa Aa Aa T3 Aa Aa Aa Aa h7 (by intro k hk hn; rw [hk]; match k, hn with | 0, _ => rfl | 1, _ => rfl | 2, _ => rfl | 3, _ => rfl | (z + 4), h => exact absurd h (by omega)) fun w W => ?_
   have W : Stw ⟨Y, [], w0⟩ [(b3, (D7)), (b2, [.int .i64 p1.1, .int .i64 p1.2.1.1, .int .i64 p1.2.1.2.1, .int .i64 p1.2.1.2.2.1, .int .i64 p1.2.1.2.2.2, .int .i64 p1.2.2.1, .int .i64 p1.2.2.2.1, .int .i64 p1.2.2.2.2.1, .int .i64 p1.2.2.2.2.2]), (b1, [.int .i64 x1, .int .i64 (if x10 = 0 then F5 .i64 x23 x24 else x11), .int .i64 (if x10 = 1 then F5 .i64 x23 x24 else x12), .int .i64 (if x10 = 2 then F5 .i64 x23 x24 else x13), .int .i64 (if x10 = 3 then F5 .i64 x23 x24 else x14), .int .i64 x15, .int .i64 x16, .int .i64 x17, .int .i64 x18])] [] w := W
   refine BJ tk 2 F W fun a w F W => ?_
   refine GK 11 W MO (by kernel_rfl) ?_
   refine qs F Aa (Am F Aa).q fun a F => ?_
   refine qs F Aa (Aj Eb Aa Aa Aa Hk F Aa 5 Aa).q fun a F => ?_
   obtain ⟨x26, h8, H⟩ := Af H
   refine qs F Aa (A7 (5 + (x10).toNat * 1) DA F Aa Aa Aa h8 Aa).q fun a F => ?_
   refine qs F Aa (Bn (v := Value.int .i64 x26) 2 F Aa Aa T3 (B1 (base := 5) (m := 4) (l := [x15, x16, x17, x18]) (enc := Value.int .i64) Aa h8)).q fun a F => ?_
   refine qs F Aa (Am F Aa).q fun a F => ?_
   refine qs F Aa (Aj Eb Aa Aa Aa Hk F Aa 5 Aa).q fun a F => ?_
   obtain ⟨x27, h9, H⟩ := Af H
   refine qs F Aa (A7 (5 + (x10).toNat * 1) DA F Aa Aa Aa h9 Aa).q fun a F => ?_
   refine qs F Aa (Bn (v := Value.int .i64 x27) 1 F Aa Aa T3 (B1 (base := 5) (m := 4) (l := [p1.2.2.1, p1.2.2.2.1, p1.2.2.2.2.1, p1.2.2.2.2.2]) (enc := Value.int .i64) Aa h9)).q fun a F => ?_
   refine qs F Aa (Qj F Aa Aa).q fun a F => ?_
   refine qs F Aa (Aj Eb Aa Aa Aa Hk F Aa 5 Aa).q fun a F => ?_
   obtain ⟨x28, h10, H⟩ := Af H
   refine qs F Aa (A7 (5 + (x10).toNat * 1) DA F Aa Aa Aa h10 Aa).q fun a F => ?_
   refine AJ fun w W => ?_
   refine Ef (o := 5) (m := 4) (i := x10) (l := ([x15, x16, x17, x18] : List Int)) (x := x28) (cs := [.int .i64 x1, .int .i64 (if x10 = 0 then F5 .i64 x23 x24 else x11), .int .i64 (if x10 = 1 then F5 .i64 x23 x24 else x12), .int .i64 (if x10 = 2 then F5 .i64 x23 x24 else x13), .int .i64 (if x10 = 3 then F5 .i64 x23 x24 else x14), .int .i64 x15, .int .i64 x16, .int .i64 x17, .int .i64 x18]) (cs' := [.int .i64 x1, .int .i64 (if x10 = 0 then F5 .i64 x23 x24 else x11), .int .i64 (if x10 = 1 then F5 .i64 x23 x24 else x12), .int .i64 (if x10 = 2 then F5 .i64 x23 x24 else x13), .int .i64 (if x10 = 3 then F5 .i64 x23 x24 else x14), .int .i64 (if x10 = 0 then F5 .i64 x26 x27 else x15), .int .i64 (if x10 = 1 then F5 .i64 x26 x27 else x16), .int .i64 (if x10 = 2 then F5 .i64 x26 x27 else x17), .int .i64 (if x10 = 3 then F5 .i64 x26 x27 else x18)]) 2 F W Aa Aa Aa T3 Aa Aa Aa Aa h10 (by intro k hk hn; rw [hk]; match k, hn with | 0, _ => rfl | 1, _ => rfl | 2, _ => rfl | 3, _ => rfl | (z + 4), h => exact absurd h (by omega)) fun w W => ?_
   have W : Stw ⟨Y, [], w0⟩ [(b3, (D7)), (b2, [.int .i64 p1.1, .int .i64 p1.2.1.1, .int .i64 p1.2.1.2.1, .int .i64 p1.2.1.2.2.1, .int .i64 p1.2.1.2.2.2, .int .i64 p1.2.2.1, .int .i64 p1.2.2.2.1, .int .i64 p1.2.2.2.2.1, .int .i64 p1.2.2.2.2.2]), (b1, [.int .i64 x1, .int .i64 (if x10 = 0 then F5 .i64 x23 x24 else x11), .int .i64 (if x10 = 1 then F5 .i64 x23 x24 else x12), .int .i64 (if x10 = 2 then F5 .i64 x23 x24 else x13), .int .i64 (if x10 = 3 then F5 .i64 x23 x24 else x14), .int .i64 (if x10 = 0 then F5 .i64 x26 x27 else x15), .int .i64 (if x10 = 1 then F5 .i64 x26 x27 else x16), .int .i64 (if x10 = 2 then F5 .i64 x26 x27 else x17), .int .i64 (if x10 = 3 then F5 .i64 x26 x27 else x18)])] [] w := W
   refine Er (AF ?_)
   refine vn tk 4 F W fun a w F W => ?_
   refine Ad ?_
   have W := W.frontM (i := 2) Aa Aa
   have W := W.frontM (i := 2) Aa Aa
   have W := W.frontM (i := 2) Aa Aa
   exact ⟨_, H, F.ra Aa, W⟩
  refine Bm ?_
  iterate 2 refine BU ?_
  refine Bp (Ad ?_)
  have W := W.frontM (i := 2) Aa Aa
  have W := W.frontM (i := 2) Aa Aa
  have W := W.frontM (i := 2) Aa Aa
  have H := L3 _ H
  exact ⟨_, _, _, _, _, _, _, _, H, F.ra Aa, W⟩
 rintro a w ⟨x2, x3, x4, x5, x6, x7, x8, x9, hj, F, W⟩
 have H := K2 _ hj
 clear hj G2 K2 L2
 refine Fq tk 3 [2] F W (ai fun a w F W => ?_)
 refine Dh 0 F W Aa Aa Aa H2 Aa Aa Aa fun w W => ?_
 refine BJ tk 3 F W fun a w F W => ?_
 refine Al ?_
 have H := Av H
 subst H
 refine CI (.inl Aa) F W Aa (Dp 0 F Aa Aa H2 Aa) (Ai F Aa) ?_
 exact ⟨rfl, W.done⟩
theorem SL : Has Try.prog 81 := BV Try.func81
noncomputable def D0 (p0 : Int × (Int × (Int × Int × Int × Int) × (Int × Int × Int × Int)) × (List (Int × Int × Int))) (p1 : Int × (Int × (Int × Int × Int × Int) × (Int × Int × Int × Int)) × (List (Int × Int × Int))) : Option Bool := (EX p0.2.1 p1.2.1).bind fun x1 => some (decide (p0.1 = p1.1) && (!(decide (p0.2.1.1 = p1.2.1.1 ∧ p0.2.1.2.1.1 = p1.2.1.2.1.1 ∧ p0.2.1.2.1.2.1 = p1.2.1.2.1.2.1 ∧ p0.2.1.2.1.2.2.1 = p1.2.1.2.1.2.2.1 ∧ p0.2.1.2.1.2.2.2 = p1.2.1.2.1.2.2.2 ∧ p0.2.1.2.2.1 = p1.2.1.2.2.1 ∧ p0.2.1.2.2.2.1 = p1.2.1.2.2.2.1 ∧ p0.2.1.2.2.2.2.1 = p1.2.1.2.2.2.2.1 ∧ p0.2.1.2.2.2.2.2 = p1.2.1.2.2.2.2.2)) && x1.2))
theorem IJ (Y : Nat → Prop) (w0 : World) (v1 : Value) (v2 : Value) (p0 : Int × (Int × (Int × Int × Int × Int) × (Int × Int × Int × Int)) × (List (Int × Int × Int))) (p1 : Int × (Int × (Int × Int × Int × Int) × (Int × Int × Int × Int)) × (List (Int × Int × Int))) (r : Bool) (H : D0 p0 p1 = some r) (h_v1 : Sl w0 (NX []) Bk v1 p0.2.2) (h_v2 : Sl w0 (NX []) Bk v2 p1.2.2) :
    Calls Try.prog 66 #[.agg #[.int .i64 p0.1, .int .i64 p0.2.1.1, .int .i64 p0.2.1.2.1.1, .int .i64 p0.2.1.2.1.2.1, .int .i64 p0.2.1.2.1.2.2.1, .int .i64 p0.2.1.2.1.2.2.2, .int .i64 p0.2.1.2.2.1, .int .i64 p0.2.1.2.2.2.1, .int .i64 p0.2.1.2.2.2.2.1, .int .i64 p0.2.1.2.2.2.2.2, v1], .agg #[.int .i64 p1.1, .int .i64 p1.2.1.1, .int .i64 p1.2.1.2.1.1, .int .i64 p1.2.1.2.1.2.1, .int .i64 p1.2.1.2.1.2.2.1, .int .i64 p1.2.1.2.1.2.2.2, .int .i64 p1.2.1.2.2.1, .int .i64 p1.2.1.2.2.2.1, .int .i64 p1.2.1.2.2.2.2.1, .int .i64 p1.2.1.2.2.2.2.2, v2]] w0 fun e w' => e = .returned (.bool r) ∧ Below w0.heap.size w0 w' := by
 refine enter Try.func66 Aa Try.ntmps66 Aa fun a F => ?_
 have W := Stw.start Y w0
 unfold D0 at H
 refine vc tk 2 F W fun a w F W => ?_
 refine BR (cs := (DZ p0 v1)) F W Aa Aa Aa fun b1 a w F W => ?_
 refine BR (cs := (DZ p1 v2)) F W Aa Aa Aa fun b2 a w F W => ?_
 refine Eo tk 9 [1, 0] F W (ai (ai fun a w F W => ?_))
 obtain ⟨x1, h1, H⟩ := Af H
 refine ls F W Aa (AM (v := Value.tuple #[.agg #[.int .i64 x1.1.1, .int .i64 x1.1.2.1.1, .int .i64 x1.1.2.1.2.1, .int .i64 x1.1.2.1.2.2.1, .int .i64 x1.1.2.1.2.2.2, .int .i64 x1.1.2.2.1, .int .i64 x1.1.2.2.2.1, .int .i64 x1.1.2.2.2.2.1, .int .i64 x1.1.2.2.2.2.2], .bool x1.2]) F SL Aa (fun w W => HN any w p0.2.1 p1.2.1 _ h1)) fun a w F W => ?_
 refine ls F W Aa (Am F Aa).q fun a w F W => ?_
 refine ls F W Aa (AN (v := Value.agg #[.int .i64 x1.1.1, .int .i64 x1.1.2.1.1, .int .i64 x1.1.2.1.2.1, .int .i64 x1.1.2.1.2.2.1, .int .i64 x1.1.2.1.2.2.2, .int .i64 x1.1.2.2.1, .int .i64 x1.1.2.2.2.1, .int .i64 x1.1.2.2.2.2.1, .int .i64 x1.1.2.2.2.2.2]) F Aa Aa).q fun a w F W => ?_
 refine ls F W Aa (AN (v := Value.bool x1.2) F Aa Aa).q fun a w F W => ?_
 refine Ca (cs := (D7)) F W Aa Py Aa fun b3 a w F W => ?_
 refine Dh 0 F W Aa Aa Aa H2 Aa Aa Aa fun w W => ?_
 refine BJ tk 3 F W fun a w F W => ?_
 refine Au (fun a w => Fr 30 [] [(4, .bool (decide (p0.1 = p1.1) && (!(decide (p0.2.1.1 = p1.2.1.1 ∧ p0.2.1.2.1.1 = p1.2.1.2.1.1 ∧ p0.2.1.2.1.2.1 = p1.2.1.2.1.2.1 ∧ p0.2.1.2.1.2.2.1 = p1.2.1.2.1.2.2.1 ∧ p0.2.1.2.1.2.2.2 = p1.2.1.2.1.2.2.2 ∧ p0.2.1.2.2.1 = p1.2.1.2.2.1 ∧ p0.2.1.2.2.2.1 = p1.2.1.2.2.2.1 ∧ p0.2.1.2.2.2.2.1 = p1.2.1.2.2.2.2.1 ∧ p0.2.1.2.2.2.2.2 = p1.2.1.2.2.2.2.2)) && x1.2)))] a ∧ Stw ⟨Y, [], w0⟩ [(b3, [.int .i64 x1.1.1, .int .i64 x1.1.2.1.1, .int .i64 x1.1.2.1.2.1, .int .i64 x1.1.2.1.2.2.1, .int .i64 x1.1.2.1.2.2.2, .int .i64 x1.1.2.2.1, .int .i64 x1.1.2.2.2.1, .int .i64 x1.1.2.2.2.2.1, .int .i64 x1.1.2.2.2.2.2]), (b2, (DZ p1 v2)), (b1, (DZ p0 v1))] [] w) ?_ ?_
 ·
  refine Fq tk 7 [2, 1] F W (ai (ai fun a w F W => ?_))
  rcases Bool.eq_false_or_eq_true (decide (p0.1 = p1.1)) with hb0 | hb0
  ·
   rw [hb0] at F
   refine Fu tk 4 [2, 1] F W (ai (ai fun a w F W => ?_))
   refine FE F W (Ae F Aa Aa Aa Aa) Aa (As Aa) (Ob (t := decide (p0.2.1.1 = p1.2.1.1 ∧ p0.2.1.2.1.1 = p1.2.1.2.1.1 ∧ p0.2.1.2.1.2.1 = p1.2.1.2.1.2.1 ∧ p0.2.1.2.1.2.2.1 = p1.2.1.2.1.2.2.1 ∧ p0.2.1.2.1.2.2.2 = p1.2.1.2.1.2.2.2 ∧ p0.2.1.2.2.1 = p1.2.1.2.2.1 ∧ p0.2.1.2.2.2.1 = p1.2.1.2.2.2.1 ∧ p0.2.1.2.2.2.2.1 = p1.2.1.2.2.2.2.1 ∧ p0.2.1.2.2.2.2.2 = p1.2.1.2.2.2.2.2)) Q4 (QX _ _ _ _ _ _ _ _ _ _ _ _ _ _ _ _ _ _) F Aa Aa).q fun a w F W => ?_
   refine vl tk 2 F W fun a w F W => ?_
   rcases Bool.eq_false_or_eq_true (!(decide (p0.2.1.1 = p1.2.1.1 ∧ p0.2.1.2.1.1 = p1.2.1.2.1.1 ∧ p0.2.1.2.1.2.1 = p1.2.1.2.1.2.1 ∧ p0.2.1.2.1.2.2.1 = p1.2.1.2.1.2.2.1 ∧ p0.2.1.2.1.2.2.2 = p1.2.1.2.1.2.2.2 ∧ p0.2.1.2.2.1 = p1.2.1.2.2.1 ∧ p0.2.1.2.2.2.1 = p1.2.1.2.2.2.1 ∧ p0.2.1.2.2.2.2.1 = p1.2.1.2.2.2.2.1 ∧ p0.2.1.2.2.2.2.2 = p1.2.1.2.2.2.2.2))) with hb1 | hb1
   ·
    rw [hb1] at F
    refine vl tk 4 F W fun a w F W => ?_
    refine Ad ?_
    exact ⟨F.re ⟨(Ev (by try rw [hb1]; try rw [hb0]; all_goals simp only [Es])), trivial⟩, W⟩
   rw [hb1] at F
   refine vl tk 4 F W fun a w F W => ?_
   refine Ad ?_
   exact ⟨F.re ⟨(Ev (by try rw [hb1]; try rw [hb0]; all_goals simp only [Es])), trivial⟩, W⟩
  rw [hb0] at F
  refine vl tk 11 F W fun a w F W => ?_
  refine Ad ?_
  exact ⟨F.re ⟨(Ev (by try rw [hb0]; all_goals simp only [Es])), trivial⟩, W⟩
 rintro a w ⟨F, W⟩
 refine Al ?_
 have H := Av H
 subst H
 refine Aw (.inl Aa) F W Aa (Ai F Aa) ?_
 exact ⟨rfl, W.done⟩
theorem Th : Has Try.prog 66 := BV Try.func66
noncomputable def FX (p0 : Int × (Int × (Int × Int × Int × Int) × (Int × Int × Int × Int)) × (List (Int × Int × Int))) (p1 : Int × (Int × (Int × (Int × Int × Int × Int) × (Int × Int × Int × Int)) × (List (Int × Int × Int))) × Bool) : Option Bool := (D0 p0 p1.2.1).bind fun x1 => some x1
theorem JR (Y : Nat → Prop) (w0 : World) (v1 : Value) (q_p1 : Nat) (v2 : Value) (p0 : Int × (Int × (Int × Int × Int × Int) × (Int × Int × Int × Int)) × (List (Int × Int × Int))) (p1 : Int × (Int × (Int × (Int × Int × Int × Int) × (Int × Int × Int × Int)) × (List (Int × Int × Int))) × Bool) (r : Bool) (H : FX p0 p1 = some r) (h_v1 : Sl w0 (NX []) Bk v1 p0.2.2) (h_v2 : Sl w0 (NX []) Bk v2 p1.2.1.2.2) (a_q_p1 : At ⟨Y, [], w0⟩ q_p1 0 [.int .i64 p1.1, .int .i64 p1.2.1.1, .int .i64 p1.2.1.2.1.1, .int .i64 p1.2.1.2.1.2.1.1, .int .i64 p1.2.1.2.1.2.1.2.1, .int .i64 p1.2.1.2.1.2.1.2.2.1, .int .i64 p1.2.1.2.1.2.1.2.2.2, .int .i64 p1.2.1.2.1.2.2.1, .int .i64 p1.2.1.2.1.2.2.2.1, .int .i64 p1.2.1.2.1.2.2.2.2.1, .int .i64 p1.2.1.2.1.2.2.2.2.2, v2, .bool p1.2.2]) :
    Calls Try.prog 65 #[.agg #[.int .i64 p0.1, .int .i64 p0.2.1.1, .int .i64 p0.2.1.2.1.1, .int .i64 p0.2.1.2.1.2.1, .int .i64 p0.2.1.2.1.2.2.1, .int .i64 p0.2.1.2.1.2.2.2, .int .i64 p0.2.1.2.2.1, .int .i64 p0.2.1.2.2.2.1, .int .i64 p0.2.1.2.2.2.2.1, .int .i64 p0.2.1.2.2.2.2.2, v1], .pointer (some ⟨q_p1, 0, none⟩)] w0 fun e w' => e = .returned (.bool r) ∧ Below w0.heap.size w0 w' := by
 refine enter Try.func65 Aa Try.ntmps65 Aa fun a F => ?_
 have W := Stw.start Y w0
 unfold FX at H
 refine vc tk 2 F W fun a w F W => ?_
 refine BR (cs := (DZ p0 v1)) F W Aa Aa Aa fun b1 a w F W => ?_
 refine Eo tk 7 [0] F W (ai fun a w F W => ?_)
 refine ls F W Aa (GZ (y := Value.agg #[.int .i64 p1.2.1.1, .int .i64 p1.2.1.2.1.1, .int .i64 p1.2.1.2.1.2.1.1, .int .i64 p1.2.1.2.1.2.1.2.1, .int .i64 p1.2.1.2.1.2.1.2.2.1, .int .i64 p1.2.1.2.1.2.1.2.2.2, .int .i64 p1.2.1.2.1.2.2.1, .int .i64 p1.2.1.2.1.2.2.2.1, .int .i64 p1.2.1.2.1.2.2.2.2.1, .int .i64 p1.2.1.2.1.2.2.2.2.2, v2]) (j := 1) F Aa (Nat.zero_add _).symm a_q_p1 EM Aa).q fun a w F W => ?_
 obtain ⟨x1, h1, H⟩ := Af H
 refine ls F W Aa (AM (v := Value.bool x1) F Th Aa (fun w W => IJ any w (v1) (v2) p0 p1.2.1 _ h1 (Dc (An h_v1) W) (Dc (An h_v2) W))) fun a w F W => ?_
 refine BJ tk 3 F W fun a w F W => ?_
 refine Al ?_
 have H := Av H
 subst H
 refine Aw (.inl Aa) F W Aa (Ai F Aa) ?_
 exact ⟨rfl, W.done⟩
theorem TH : Has Try.prog 65 := BV Try.func65
noncomputable def Bl (p0 : List (Int × (Int × (Int × Int × Int × Int) × (Int × Int × Int × Int)) × (List (Int × Int × Int)))) (p1c0 : Int × (Int × (Int × (Int × Int × Int × Int) × (Int × Int × Int × Int)) × (List (Int × Int × Int))) × Bool) : Int → Option (Int ⊕ (Unit ⊕ Int))
  | x1 => (if x1 < (p0.length : Int) then (ix p0 x1).bind fun x2 => (FX x2 p1c0).bind fun x3 => (if x3 = true then some (.inr (.inr x1)) else some (.inl (Cc (x1 + 1)))) else some (.inr (.inl ())))
noncomputable def BB (p0 : List (Int × (Int × (Int × Int × Int × Int) × (Int × Int × Int × Int)) × (List (Int × Int × Int)))) (p1c0 : Int × (Int × (Int × (Int × Int × Int × Int) × (Int × Int × Int × Int)) × (List (Int × Int × Int))) × Bool) : Option Int := FR (AX (Bl p0 p1c0) 0) fun _ => some (-1)
theorem DY (Y : Nat → Prop) (w0 : World) (v1 : Value) (q_p1c0 : Nat) (v2 : Value) (p0 : List (Int × (Int × (Int × Int × Int × Int) × (Int × Int × Int × Int)) × (List (Int × Int × Int)))) (p1c0 : Int × (Int × (Int × (Int × Int × Int × Int) × (Int × Int × Int × Int)) × (List (Int × Int × Int))) × Bool) (r : Int) (H : BB p0 p1c0 = some r) (h_v1 : Sl w0 (NX []) AK v1 p0) (h_v2 : Sl w0 (NX []) Bk v2 p1c0.2.1.2.2) (a_q_p1c0 : At ⟨Y, [], w0⟩ q_p1c0 0 [.int .i64 p1c0.1, .int .i64 p1c0.2.1.1, .int .i64 p1c0.2.1.2.1.1, .int .i64 p1c0.2.1.2.1.2.1.1, .int .i64 p1c0.2.1.2.1.2.1.2.1, .int .i64 p1c0.2.1.2.1.2.1.2.2.1, .int .i64 p1c0.2.1.2.1.2.1.2.2.2, .int .i64 p1c0.2.1.2.1.2.2.1, .int .i64 p1c0.2.1.2.1.2.2.2.1, .int .i64 p1c0.2.1.2.1.2.2.2.2.1, .int .i64 p1c0.2.1.2.1.2.2.2.2.2, v2, .bool p1c0.2.2]) :
    Calls Try.prog 67 #[v1, .func (.func 65) #[] #[.pointer (some ⟨q_p1c0, 0, none⟩)]] w0 fun e w' => e = .returned (.int .i64 r) ∧ Below w0.heap.size w0 w' := by
 refine enter Try.func67 Aa Try.ntmps67 Aa fun a F => ?_
 have W := Stw.start Y w0
 obtain ⟨v3, h1, h_v1⟩ := h_v1.ex A4
 unfold BB at H
 refine vc tk 5 F W fun a w F W => ?_
 obtain ⟨o1, G1, K1, L1⟩ := H1 H
 refine Au (fun a w => some (Sum.inl ()) = some o1 ∧ Fr 19 [] [(4, .int .i64 0)] a ∧ Stw ⟨Y, [], w0⟩ [] [] w) ?_ ?_
 ·
  have H := G1
  clear G1 K1
  refine vc tk 3 F W fun a w F W => ?_
  refine ls F W Aa (B7 (r := AK) (l := p0) E7 Aa F Aa (Bq A4 h1 (An h_v1))).q fun a w F W => ?_
  refine BJ tk 4 F W fun a w F W => ?_
  refine BA H (fun s a w => Fr 19 [] [(0, v1), (1, .func (.func 65) #[] #[.pointer (some ⟨q_p1c0, 0, none⟩)]), (4, .int .i64 0), (7, .int .i64 (p0.length : Int)), (8, .int .i64 s)] a ∧ Stw ⟨Y, [], w0⟩ [] [] w) ⟨F.ra Aa, W⟩ fun s o a w H L2 hR => ?_
  obtain ⟨x1, rfl⟩ : ∃ x, x = s := ⟨s, rfl⟩
  obtain ⟨F, W⟩ := hR
  have F : Fr 19 [] [(0, v1), (1, .func (.func 65) #[] #[.pointer (some ⟨q_p1c0, 0, none⟩)]), (4, .int .i64 0), (7, .int .i64 (p0.length : Int)), (8, .int .i64 x1)] a := F
  have W : Stw ⟨Y, [], w0⟩ [] [] w := W
  rw [Bl] at H
  refine vc tk 6 F W fun a w F W => ?_
  refine Bi F Aa H (fun F H => ?_) fun F H => ?_
  ·
   refine D6 tk 15 F W fun a w F W => ?_
   obtain ⟨x2, h2, H⟩ := Af H
   obtain ⟨v4, h3, h4⟩ := BX h1 h2
   have h5 : Cy v4 = [.int .i64 x2.1, .int .i64 x2.2.1.1, .int .i64 x2.2.1.2.1.1, .int .i64 x2.2.1.2.1.2.1, .int .i64 x2.2.1.2.1.2.2.1, .int .i64 x2.2.1.2.1.2.2.2, .int .i64 x2.2.1.2.2.1, .int .i64 x2.2.1.2.2.2.1, .int .i64 x2.2.1.2.2.2.2.1, .int .i64 x2.2.1.2.2.2.2.2, (v4.2.2.1)] := congrArg (fun q : Int × (Int × (Int × Int × Int × Int) × (Int × Int × Int × Int)) × (List (Int × Int × Int)) => ([.int .i64 q.1, .int .i64 q.2.1.1, .int .i64 q.2.1.2.1.1, .int .i64 q.2.1.2.1.2.1, .int .i64 q.2.1.2.1.2.2.1, .int .i64 q.2.1.2.1.2.2.2, .int .i64 q.2.1.2.2.1, .int .i64 q.2.1.2.2.2.1, .int .i64 q.2.1.2.2.2.2.1, .int .i64 q.2.1.2.2.2.2.2, (v4.2.2.1)] : List Value)) h4
   refine ls F W Aa (AR (r := C4) EL F Aa Aa (An h_v1) h3).q fun a w F W => ?_
   refine ls F W Aa (AD (y := Value.agg #[.int .i64 x2.1, .int .i64 x2.2.1.1, .int .i64 x2.2.1.2.1.1, .int .i64 x2.2.1.2.1.2.1, .int .i64 x2.2.1.2.1.2.2.1, .int .i64 x2.2.1.2.1.2.2.2, .int .i64 x2.2.1.2.2.1, .int .i64 x2.2.1.2.2.2.1, .int .i64 x2.2.1.2.2.2.2.1, .int .i64 x2.2.1.2.2.2.2.2, (v4.2.2.1)]) (j := 0) (i := x1) (enc := Cy) F Aa Aa (An h_v1) h3 EG EM (by rw [h5]; rfl)).q fun a w F W => ?_
   obtain ⟨x3, h6, H⟩ := Af H
   refine ls F W Aa (Fh (ws := [.agg #[.int .i64 x2.1, .int .i64 x2.2.1.1, .int .i64 x2.2.1.2.1.1, .int .i64 x2.2.1.2.1.2.1, .int .i64 x2.2.1.2.1.2.2.1, .int .i64 x2.2.1.2.1.2.2.2, .int .i64 x2.2.1.2.2.1, .int .i64 x2.2.1.2.2.2.1, .int .i64 x2.2.1.2.2.2.2.1, .int .i64 x2.2.1.2.2.2.2.2, (v4.2.2.1)], .pointer (some ⟨q_p1c0, 0, none⟩)]) (v := Value.bool x3) F TH Aa (fun w W => JR any w ((v4.2.2.1)) q_p1c0 (v2) x2 p1c0 _ h6 (Dc (Db (An h_v1) h3 (Ay.snd (Ay.snd Ay.here)) (congrArg (fun q : Int × (Int × (Int × Int × Int × Int) × (Int × Int × Int × Int)) × (List (Int × Int × Int)) => q.2.2) h4)) W) (Dc (An h_v2) W) (At.re a_q_p1c0 W))) fun a w F W => ?_
   refine BJ tk 2 F W fun a w F W => ?_
   refine BE F Aa H (fun F H => ?_) fun F H => ?_
   ·
    refine vc tk 6 F W fun a w F W => ?_
    refine Al (Az ?_)
    iterate 2 refine Aq ?_
    refine Az (Aq ?_)
    have H := L2 _ H
    have H := L1 _ H
    have H := Av H
    subst H
    refine Aw (.inl Aa) F W Aa (Ai F Aa) ?_
    exact ⟨rfl, W.done⟩
   refine AC (AF ?_)
   refine vn tk 4 F W fun a w F W => ?_
   refine Ad ?_
   exact ⟨_, H, F.ra Aa, W⟩
  refine Bm ?_
  iterate 2 refine BU ?_
  refine Bp (Ad ?_)
  have H := L2 _ H
  exact ⟨H, F.ra Aa, W⟩
 rintro a w ⟨hj, F, W⟩
 have H := K1 _ hj
 clear hj G1 K1 L1
 refine vc tk 5 F W fun a w F W => ?_
 refine Al ?_
 have H := Av H
 subst H
 refine Aw (.inl Aa) F W Aa (Ai F Aa) ?_
 exact ⟨rfl, W.done⟩
theorem Rw : Has Try.prog 67 := BV Try.func67
noncomputable def AZ (p0 : List (Int × (Int × (Int × Int × Int × Int) × (Int × Int × Int × Int)) × (List (Int × Int × Int)))) (p1c0 : Int × (Int × (Int × (Int × Int × Int × Int) × (Int × Int × Int × Int)) × (List (Int × Int × Int))) × Bool) : Option Bool := (BB p0 p1c0).bind fun x1 => some (decide (0 ≤ x1))
theorem DE (Y : Nat → Prop) (w0 : World) (v1 : Value) (q_p1c0 : Nat) (v2 : Value) (p0 : List (Int × (Int × (Int × Int × Int × Int) × (Int × Int × Int × Int)) × (List (Int × Int × Int)))) (p1c0 : Int × (Int × (Int × (Int × Int × Int × Int) × (Int × Int × Int × Int)) × (List (Int × Int × Int))) × Bool) (r : Bool) (H : AZ p0 p1c0 = some r) (h_v1 : Sl w0 (NX []) AK v1 p0) (h_v2 : Sl w0 (NX []) Bk v2 p1c0.2.1.2.2) (a_q_p1c0 : At ⟨Y, [], w0⟩ q_p1c0 0 [.int .i64 p1c0.1, .int .i64 p1c0.2.1.1, .int .i64 p1c0.2.1.2.1.1, .int .i64 p1c0.2.1.2.1.2.1.1, .int .i64 p1c0.2.1.2.1.2.1.2.1, .int .i64 p1c0.2.1.2.1.2.1.2.2.1, .int .i64 p1c0.2.1.2.1.2.1.2.2.2, .int .i64 p1c0.2.1.2.1.2.2.1, .int .i64 p1c0.2.1.2.1.2.2.2.1, .int .i64 p1c0.2.1.2.1.2.2.2.2.1, .int .i64 p1c0.2.1.2.1.2.2.2.2.2, v2, .bool p1c0.2.2]) :
    Calls Try.prog 51 #[v1, .func (.func 65) #[] #[.pointer (some ⟨q_p1c0, 0, none⟩)]] w0 fun e w' => e = .returned (.bool r) ∧ Below w0.heap.size w0 w' := by
 refine enter Try.func51 Aa Try.ntmps51 Aa fun a F => ?_
 have W := Stw.start Y w0
 obtain ⟨v3, h1, h_v1⟩ := h_v1.ex A4
 unfold AZ at H
 refine vc tk 9 F W fun a w F W => ?_
 obtain ⟨x1, h2, H⟩ := Af H
 refine ls F W Aa (AM (v := Value.int .i64 x1) F Rw Aa (fun w W => DY any w (v1) q_p1c0 (v2) p0 p1c0 _ h2 (Dc (Bq A4 h1 (An h_v1)) W) (Dc (An h_v2) W) (At.re a_q_p1c0 W))) fun a w F W => ?_
 refine BJ tk 4 F W fun a w F W => ?_
 refine Al ?_
 have H := Av H
 subst H
 refine Aw (.inl Aa) F W Aa (Ai F Aa) ?_
 exact ⟨rfl, W.done⟩
theorem RQ : Has Try.prog 51 := BV Try.func51
def Ab (p0 : Int × (Int × (Int × Int × Int × Int) × (Int × Int × Int × Int)) × (List (Int × Int × Int))) : (Int × (Int × (Int × Int × Int × Int) × (Int × Int × Int × Int)) × (List (Int × Int × Int))) := p0
theorem Dw (Y : Nat → Prop) (w0 : World) (v1 : Value) (p0 : Int × (Int × (Int × Int × Int × Int) × (Int × Int × Int × Int)) × (List (Int × Int × Int))) (r : (Int × (Int × (Int × Int × Int × Int) × (Int × Int × Int × Int)) × (List (Int × Int × Int)))) (H : Ab p0 = r) (s_v1 : Sl w0 Y Bk v1 p0.2.2) :
    Calls Try.prog 52 #[.agg #[.int .i64 p0.1, .int .i64 p0.2.1.1, .int .i64 p0.2.1.2.1.1, .int .i64 p0.2.1.2.1.2.1, .int .i64 p0.2.1.2.1.2.2.1, .int .i64 p0.2.1.2.1.2.2.2, .int .i64 p0.2.1.2.2.1, .int .i64 p0.2.1.2.2.2.1, .int .i64 p0.2.1.2.2.2.2.1, .int .i64 p0.2.1.2.2.2.2.2, v1]] w0 fun e w' => ∃ x : Nat × Value, e = .returned (.func (.func 73) #[] #[.pointer (some ⟨x.1, 0, none⟩)]) ∧ Stw ⟨Y, [], w0⟩ [(x.1, [.int .i64 r.1, .int .i64 r.2.1.1, .int .i64 r.2.1.2.1.1, .int .i64 r.2.1.2.1.2.1, .int .i64 r.2.1.2.1.2.2.1, .int .i64 r.2.1.2.1.2.2.2, .int .i64 r.2.1.2.2.1, .int .i64 r.2.1.2.2.2.1, .int .i64 r.2.1.2.2.2.2.1, .int .i64 r.2.1.2.2.2.2.2, x.2])] [Bo (x.2) Bk r.2.2] w' := by
 refine enter Try.func52 Aa Try.ntmps52 Aa fun a F => ?_
 have W := Stw.start Y w0
 have h_v1 := W.nx s_v1
 unfold Ab at H
 refine vc tk 2 F W fun a w F W => ?_
 refine BR (cs := (DZ p0 v1)) F W Aa Aa Aa fun b1 a w F W => ?_
 refine BJ tk 5 F W fun a w F W => ?_
 refine ls F W Aa (Gs (us := []) (vs := [.pointer (some ⟨b1, 0, none⟩)]) F Aa Aa).q fun a w F W => ?_
 refine BJ tk 3 F W fun a w F W => ?_
 refine Al ?_
 subst H
 refine Aw (.inl Aa) F W Aa (Ai F Aa) ?_
 have W := W.note (W.old s_v1)
 exact ⟨(b1, (v1)), Aa, W⟩
theorem Q0 : Has Try.prog 52 := BV Try.func52
def Cq (p0 : Int × (Int × (Int × Int × Int × Int) × (Int × Int × Int × Int)) × (List (Int × Int × Int))) (p1 : Int × (Int × (Int × Int × Int × Int) × (Int × Int × Int × Int)) × (List (Int × Int × Int))) : Bool := (ED p1 p0)
theorem Fe (Y : Nat → Prop) (w0 : World) (v1 : Value) (q_p1 : Nat) (v2 : Value) (p0 : Int × (Int × (Int × Int × Int × Int) × (Int × Int × Int × Int)) × (List (Int × Int × Int))) (p1 : Int × (Int × (Int × Int × Int × Int) × (Int × Int × Int × Int)) × (List (Int × Int × Int))) (r : Bool) (H : Cq p0 p1 = r) (h_v1 : Sl w0 (NX []) Bk v1 p0.2.2) (h_v2 : Sl w0 (NX []) Bk v2 p1.2.2) (a_q_p1 : At ⟨Y, [], w0⟩ q_p1 0 [.int .i64 p1.1, .int .i64 p1.2.1.1, .int .i64 p1.2.1.2.1.1, .int .i64 p1.2.1.2.1.2.1, .int .i64 p1.2.1.2.1.2.2.1, .int .i64 p1.2.1.2.1.2.2.2, .int .i64 p1.2.1.2.2.1, .int .i64 p1.2.1.2.2.2.1, .int .i64 p1.2.1.2.2.2.2.1, .int .i64 p1.2.1.2.2.2.2.2, v2]) :
    Calls Try.prog 73 #[.agg #[.int .i64 p0.1, .int .i64 p0.2.1.1, .int .i64 p0.2.1.2.1.1, .int .i64 p0.2.1.2.1.2.1, .int .i64 p0.2.1.2.1.2.2.1, .int .i64 p0.2.1.2.1.2.2.2, .int .i64 p0.2.1.2.2.1, .int .i64 p0.2.1.2.2.2.1, .int .i64 p0.2.1.2.2.2.2.1, .int .i64 p0.2.1.2.2.2.2.2, v1], .pointer (some ⟨q_p1, 0, none⟩)] w0 fun e w' => e = .returned (.bool r) ∧ Below w0.heap.size w0 w' := by
 refine enter Try.func73 Aa Try.ntmps73 Aa fun a F => ?_
 have W := Stw.start Y w0
 unfold Cq at H
 refine vc tk 2 F W fun a w F W => ?_
 refine BR (cs := (DZ p0 v1)) F W Aa Aa Aa fun b1 a w F W => ?_
 refine BJ tk 5 F W fun a w F W => ?_
 refine ls F W Aa (GZ (y := Value.agg #[.int .i64 p1.1, .int .i64 p1.2.1.1, .int .i64 p1.2.1.2.1.1, .int .i64 p1.2.1.2.1.2.1, .int .i64 p1.2.1.2.1.2.2.1, .int .i64 p1.2.1.2.1.2.2.2, .int .i64 p1.2.1.2.2.1, .int .i64 p1.2.1.2.2.2.1, .int .i64 p1.2.1.2.2.2.2.1, .int .i64 p1.2.1.2.2.2.2.2, v2]) (j := 0) F Aa (Nat.zero_add _).symm a_q_p1 EM Aa).q fun a w F W => ?_
 refine ls F W Aa (Bn (v := Value.agg #[.int .i64 p0.1, .int .i64 p0.2.1.1, .int .i64 p0.2.1.2.1.1, .int .i64 p0.2.1.2.1.2.1, .int .i64 p0.2.1.2.1.2.2.1, .int .i64 p0.2.1.2.1.2.2.2, .int .i64 p0.2.1.2.2.1, .int .i64 p0.2.1.2.2.2.1, .int .i64 p0.2.1.2.2.2.2.1, .int .i64 p0.2.1.2.2.2.2.2, v1]) 0 F Aa Aa EM Aa).q fun a w F W => ?_
 refine ls F W Aa (AM (v := Value.bool (ED p1 p0)) F SB Aa (fun w W => I2 any w (v2) (v1) p1 p0 _ Aa (Dc (An h_v2) W) (Dc (An h_v1) W))) fun a w F W => ?_
 refine BJ tk 3 F W fun a w F W => ?_
 refine Al ?_
 subst H
 refine Aw (.inl Aa) F W Aa (Ai F Aa) ?_
 exact ⟨rfl, W.done⟩
theorem RX : Has Try.prog 73 := BV Try.func73
noncomputable def Bg (p0 : List (Int × (Int × (Int × Int × Int × Int) × (Int × Int × Int × Int)) × (List (Int × Int × Int)))) (p1c0 : Int × (Int × (Int × Int × Int × Int) × (Int × Int × Int × Int)) × (List (Int × Int × Int))) : Int → Option (Int ⊕ (Unit ⊕ Int))
  | x1 => (if x1 < (p0.length : Int) then (ix p0 x1).bind fun x2 => (if (Cq x2 p1c0) = true then some (.inr (.inr x1)) else some (.inl (Cc (x1 + 1)))) else some (.inr (.inl ())))
noncomputable def A6 (p0 : List (Int × (Int × (Int × Int × Int × Int) × (Int × Int × Int × Int)) × (List (Int × Int × Int)))) (p1c0 : Int × (Int × (Int × Int × Int × Int) × (Int × Int × Int × Int)) × (List (Int × Int × Int))) : Option Int := FR (AX (Bg p0 p1c0) 0) fun _ => some (-1)
theorem CJ (Y : Nat → Prop) (w0 : World) (v1 : Value) (q_p1c0 : Nat) (v2 : Value) (p0 : List (Int × (Int × (Int × Int × Int × Int) × (Int × Int × Int × Int)) × (List (Int × Int × Int)))) (p1c0 : Int × (Int × (Int × Int × Int × Int) × (Int × Int × Int × Int)) × (List (Int × Int × Int))) (r : Int) (H : A6 p0 p1c0 = some r) (h_v1 : Sl w0 (NX []) AK v1 p0) (h_v2 : Sl w0 (NX []) Bk v2 p1c0.2.2) (a_q_p1c0 : At ⟨Y, [], w0⟩ q_p1c0 0 [.int .i64 p1c0.1, .int .i64 p1c0.2.1.1, .int .i64 p1c0.2.1.2.1.1, .int .i64 p1c0.2.1.2.1.2.1, .int .i64 p1c0.2.1.2.1.2.2.1, .int .i64 p1c0.2.1.2.1.2.2.2, .int .i64 p1c0.2.1.2.2.1, .int .i64 p1c0.2.1.2.2.2.1, .int .i64 p1c0.2.1.2.2.2.2.1, .int .i64 p1c0.2.1.2.2.2.2.2, v2]) :
    Calls Try.prog 67 #[v1, .func (.func 73) #[] #[.pointer (some ⟨q_p1c0, 0, none⟩)]] w0 fun e w' => e = .returned (.int .i64 r) ∧ Below w0.heap.size w0 w' := by
 refine enter Try.func67 Aa Try.ntmps67 Aa fun a F => ?_
 have W := Stw.start Y w0
 obtain ⟨v3, h1, h_v1⟩ := h_v1.ex A4
 unfold A6 at H
 refine vc tk 5 F W fun a w F W => ?_
 obtain ⟨o1, G1, K1, L1⟩ := H1 H
 refine Au (fun a w => some (Sum.inl ()) = some o1 ∧ Fr 19 [] [(4, .int .i64 0)] a ∧ Stw ⟨Y, [], w0⟩ [] [] w) ?_ ?_
 ·
  have H := G1
  clear G1 K1
  refine vc tk 3 F W fun a w F W => ?_
  refine ls F W Aa (B7 (r := AK) (l := p0) E7 Aa F Aa (Bq A4 h1 (An h_v1))).q fun a w F W => ?_
  refine BJ tk 4 F W fun a w F W => ?_
  refine BA H (fun s a w => Fr 19 [] [(0, v1), (1, .func (.func 73) #[] #[.pointer (some ⟨q_p1c0, 0, none⟩)]), (4, .int .i64 0), (7, .int .i64 (p0.length : Int)), (8, .int .i64 s)] a ∧ Stw ⟨Y, [], w0⟩ [] [] w) ⟨F.ra Aa, W⟩ fun s o a w H L2 hR => ?_
  obtain ⟨x1, rfl⟩ : ∃ x, x = s := ⟨s, rfl⟩
  obtain ⟨F, W⟩ := hR
  have F : Fr 19 [] [(0, v1), (1, .func (.func 73) #[] #[.pointer (some ⟨q_p1c0, 0, none⟩)]), (4, .int .i64 0), (7, .int .i64 (p0.length : Int)), (8, .int .i64 x1)] a := F
  have W : Stw ⟨Y, [], w0⟩ [] [] w := W
  rw [Bg] at H
  refine vc tk 6 F W fun a w F W => ?_
  refine Bi F Aa H (fun F H => ?_) fun F H => ?_
  ·
   refine D6 tk 15 F W fun a w F W => ?_
   obtain ⟨x2, h2, H⟩ := Af H
   obtain ⟨v4, h3, h4⟩ := BX h1 h2
   have h5 : Cy v4 = [.int .i64 x2.1, .int .i64 x2.2.1.1, .int .i64 x2.2.1.2.1.1, .int .i64 x2.2.1.2.1.2.1, .int .i64 x2.2.1.2.1.2.2.1, .int .i64 x2.2.1.2.1.2.2.2, .int .i64 x2.2.1.2.2.1, .int .i64 x2.2.1.2.2.2.1, .int .i64 x2.2.1.2.2.2.2.1, .int .i64 x2.2.1.2.2.2.2.2, (v4.2.2.1)] := congrArg (fun q : Int × (Int × (Int × Int × Int × Int) × (Int × Int × Int × Int)) × (List (Int × Int × Int)) => ([.int .i64 q.1, .int .i64 q.2.1.1, .int .i64 q.2.1.2.1.1, .int .i64 q.2.1.2.1.2.1, .int .i64 q.2.1.2.1.2.2.1, .int .i64 q.2.1.2.1.2.2.2, .int .i64 q.2.1.2.2.1, .int .i64 q.2.1.2.2.2.1, .int .i64 q.2.1.2.2.2.2.1, .int .i64 q.2.1.2.2.2.2.2, (v4.2.2.1)] : List Value)) h4
   refine ls F W Aa (AR (r := C4) EL F Aa Aa (An h_v1) h3).q fun a w F W => ?_
   refine ls F W Aa (AD (y := Value.agg #[.int .i64 x2.1, .int .i64 x2.2.1.1, .int .i64 x2.2.1.2.1.1, .int .i64 x2.2.1.2.1.2.1, .int .i64 x2.2.1.2.1.2.2.1, .int .i64 x2.2.1.2.1.2.2.2, .int .i64 x2.2.1.2.2.1, .int .i64 x2.2.1.2.2.2.1, .int .i64 x2.2.1.2.2.2.2.1, .int .i64 x2.2.1.2.2.2.2.2, (v4.2.2.1)]) (j := 0) (i := x1) (enc := Cy) F Aa Aa (An h_v1) h3 EG EM (by rw [h5]; rfl)).q fun a w F W => ?_
   refine ls F W Aa (Fh (ws := [.agg #[.int .i64 x2.1, .int .i64 x2.2.1.1, .int .i64 x2.2.1.2.1.1, .int .i64 x2.2.1.2.1.2.1, .int .i64 x2.2.1.2.1.2.2.1, .int .i64 x2.2.1.2.1.2.2.2, .int .i64 x2.2.1.2.2.1, .int .i64 x2.2.1.2.2.2.1, .int .i64 x2.2.1.2.2.2.2.1, .int .i64 x2.2.1.2.2.2.2.2, (v4.2.2.1)], .pointer (some ⟨q_p1c0, 0, none⟩)]) (v := Value.bool (Cq x2 p1c0)) F RX Aa (fun w W => Fe any w ((v4.2.2.1)) q_p1c0 (v2) x2 p1c0 _ Aa (Dc (Db (An h_v1) h3 (Ay.snd (Ay.snd Ay.here)) (congrArg (fun q : Int × (Int × (Int × Int × Int × Int) × (Int × Int × Int × Int)) × (List (Int × Int × Int)) => q.2.2) h4)) W) (Dc (An h_v2) W) (At.re a_q_p1c0 W))) fun a w F W => ?_
   refine BJ tk 2 F W fun a w F W => ?_
   refine BE F Aa H (fun F H => ?_) fun F H => ?_
   ·
    refine vc tk 6 F W fun a w F W => ?_
    refine Al (Az ?_)
    iterate 2 refine Aq ?_
    refine Az (Aq ?_)
    have H := L2 _ H
    have H := L1 _ H
    have H := Av H
    subst H
    refine Aw (.inl Aa) F W Aa (Ai F Aa) ?_
    exact ⟨rfl, W.done⟩
   refine AC (AF ?_)
   refine vn tk 4 F W fun a w F W => ?_
   refine Ad ?_
   exact ⟨_, H, F.ra Aa, W⟩
  refine Bm ?_
  iterate 2 refine BU ?_
  refine Bp (Ad ?_)
  have H := L2 _ H
  exact ⟨H, F.ra Aa, W⟩
 rintro a w ⟨hj, F, W⟩
 have H := K1 _ hj
 clear hj G1 K1 L1
 refine vc tk 5 F W fun a w F W => ?_
 refine Al ?_
 have H := Av H
 subst H
 refine Aw (.inl Aa) F W Aa (Ai F Aa) ?_
 exact ⟨rfl, W.done⟩
noncomputable def Ax (p0 : List (Int × (Int × (Int × Int × Int × Int) × (Int × Int × Int × Int)) × (List (Int × Int × Int)))) (p1c0 : Int × (Int × (Int × Int × Int × Int) × (Int × Int × Int × Int)) × (List (Int × Int × Int))) : Option Bool := (A6 p0 p1c0).bind fun x1 => some (decide (0 ≤ x1))
theorem BZ (Y : Nat → Prop) (w0 : World) (v1 : Value) (q_p1c0 : Nat) (v2 : Value) (p0 : List (Int × (Int × (Int × Int × Int × Int) × (Int × Int × Int × Int)) × (List (Int × Int × Int)))) (p1c0 : Int × (Int × (Int × Int × Int × Int) × (Int × Int × Int × Int)) × (List (Int × Int × Int))) (r : Bool) (H : Ax p0 p1c0 = some r) (h_v1 : Sl w0 (NX []) AK v1 p0) (h_v2 : Sl w0 (NX []) Bk v2 p1c0.2.2) (a_q_p1c0 : At ⟨Y, [], w0⟩ q_p1c0 0 [.int .i64 p1c0.1, .int .i64 p1c0.2.1.1, .int .i64 p1c0.2.1.2.1.1, .int .i64 p1c0.2.1.2.1.2.1, .int .i64 p1c0.2.1.2.1.2.2.1, .int .i64 p1c0.2.1.2.1.2.2.2, .int .i64 p1c0.2.1.2.2.1, .int .i64 p1c0.2.1.2.2.2.1, .int .i64 p1c0.2.1.2.2.2.2.1, .int .i64 p1c0.2.1.2.2.2.2.2, v2]) :
    Calls Try.prog 51 #[v1, .func (.func 73) #[] #[.pointer (some ⟨q_p1c0, 0, none⟩)]] w0 fun e w' => e = .returned (.bool r) ∧ Below w0.heap.size w0 w' := by
 refine enter Try.func51 Aa Try.ntmps51 Aa fun a F => ?_
 have W := Stw.start Y w0
 obtain ⟨v3, h1, h_v1⟩ := h_v1.ex A4
 unfold Ax at H
 refine vc tk 9 F W fun a w F W => ?_
 obtain ⟨x1, h2, H⟩ := Af H
 refine ls F W Aa (AM (v := Value.int .i64 x1) F Rw Aa (fun w W => CJ any w (v1) q_p1c0 (v2) p0 p1c0 _ h2 (Dc (Bq A4 h1 (An h_v1)) W) (Dc (An h_v2) W) (At.re a_q_p1c0 W))) fun a w F W => ?_
 refine BJ tk 4 F W fun a w F W => ?_
 refine Al ?_
 have H := Av H
 subst H
 refine Aw (.inl Aa) F W Aa (Ai F Aa) ?_
 exact ⟨rfl, W.done⟩
noncomputable def DS (p0 : List (Int × (Int × (Int × Int × Int × Int) × (Int × Int × Int × Int)) × (List (Int × Int × Int)))) (p1 : Int × (Int × (Int × Int × Int × Int) × (Int × Int × Int × Int)) × (List (Int × Int × Int))) (p2c0 : Int × (Int × (Int × Int × Int × Int) × (Int × Int × Int × Int)) × (List (Int × Int × Int))) : ((List (Int × (Int × (Int × Int × Int × Int) × (Int × Int × Int × Int)) × (List (Int × Int × Int)))) × Int) → Option (((List (Int × (Int × (Int × Int × Int × Int) × (Int × Int × Int × Int)) × (List (Int × Int × Int)))) × Int) ⊕ (List (Int × (Int × (Int × Int × Int × Int) × (Int × Int × Int × Int)) × (List (Int × Int × Int)))))
  | (x2, x3) => (if x3 < (p0.length : Int) then ((ix x2 x3).bind fun x5 => (if (Cq x5 p2c0) = true then (Cb p1).bind fun x6 => (ix x2 x3).bind fun x7 => some (Dv x2 x3 (x7.1, x7.2.1, x6.2.2)) else some x2)).bind fun x4 => some (.inl (x4, Cc (x3 + 1))) else some (.inr x2))
noncomputable def CR (p0 : List (Int × (Int × (Int × Int × Int × Int) × (Int × Int × Int × Int)) × (List (Int × Int × Int)))) (p1 : Int × (Int × (Int × Int × Int × Int) × (Int × Int × Int × Int)) × (List (Int × Int × Int))) (p2c0 : Int × (Int × (Int × Int × Int × Int) × (Int × Int × Int × Int)) × (List (Int × Int × Int))) : Option (List (Int × (Int × (Int × Int × Int × Int) × (Int × Int × Int × Int)) × (List (Int × Int × Int)))) := (AX (DS p0 p1 p2c0) (p0, 0)).bind fun x1 => some x1
theorem Gz (Y : Nat → Prop) (X : List Nat) (w0 : World) (v1 : Value) (v2 : Value) (q_p2c0 : Nat) (v3 : Value) (p0 : List (Int × (Int × (Int × Int × Int × Int) × (Int × Int × Int × Int)) × (List (Int × Int × Int)))) (p1 : Int × (Int × (Int × Int × Int × Int) × (Int × Int × Int × Int)) × (List (Int × Int × Int))) (p2c0 : Int × (Int × (Int × Int × Int × Int) × (Int × Int × Int × Int)) × (List (Int × Int × Int))) (r : (List (Int × (Int × (Int × Int × Int × Int) × (Int × Int × Int × Int)) × (List (Int × Int × Int))))) (H : CR p0 p1 p2c0 = some r) (s_v2 : Sl w0 Y Bk v2 p1.2.2) (h_v3 : Sl w0 (NX X) Bk v3 p2c0.2.2) (a_q_p2c0 : At ⟨Y, X, w0⟩ q_p2c0 0 [.int .i64 p2c0.1, .int .i64 p2c0.2.1.1, .int .i64 p2c0.2.1.2.1.1, .int .i64 p2c0.2.1.2.1.2.1, .int .i64 p2c0.2.1.2.1.2.2.1, .int .i64 p2c0.2.1.2.1.2.2.2, .int .i64 p2c0.2.1.2.2.1, .int .i64 p2c0.2.1.2.2.2.1, .int .i64 p2c0.2.1.2.2.2.2.1, .int .i64 p2c0.2.1.2.2.2.2.2, v3]) (hL : Stw ⟨Y, X, w0⟩ [] [row v1 37 AK p0] w0) :
    Calls Try.prog 49 #[v1, .agg #[.int .i64 p1.1, .int .i64 p1.2.1.1, .int .i64 p1.2.1.2.1.1, .int .i64 p1.2.1.2.1.2.1, .int .i64 p1.2.1.2.1.2.2.1, .int .i64 p1.2.1.2.1.2.2.2, .int .i64 p1.2.1.2.2.1, .int .i64 p1.2.1.2.2.2.1, .int .i64 p1.2.1.2.2.2.2.1, .int .i64 p1.2.1.2.2.2.2.2, v2], .func (.func 73) #[] #[.pointer (some ⟨q_p2c0, 0, none⟩)]] w0 fun e w' => ∃ x : Value, e = .returned (x) ∧ Stw ⟨Y, X, w0⟩ [] [row (x) 37 AK r] w' := by
 refine enter Try.func49 Aa Try.ntmps49 Aa fun a F => ?_
 have W := hL
 have h_v2 := W.nx s_v2
 unfold CR at H
 refine vc tk 2 F W fun a w F W => ?_
 refine BR (cs := (DZ p1 v2)) F W Aa Aa Aa fun b1 a w F W => ?_
 refine vl tk 2 F W fun a w F W => ?_
 refine Ad ?_
 obtain ⟨o1, G1, K1⟩ := Af H
 refine Au (fun a w => ∃ x1 : List (Int × (Int × (Int × Int × Int × Int) × (Int × Int × Int × Int)) × (List (Int × Int × Int))), some (x1) = some o1 ∧ Fr 28 [] [(0, v1), (6, .slice none 0 0)] a ∧ Stw ⟨Y, X, w0⟩ (Fd b1 p1 v2) [row v1 37 AK x1] w) ?_ ?_
 ·
  have H := G1
  clear G1 K1
  refine vc tk 3 F W fun a w F W => ?_
  refine ls F W Aa (B7 (r := AK) (l := p0) E7 Aa F Aa (AU 0 Aa)).q fun a w F W => ?_
  refine BJ tk 4 F W fun a w F W => ?_
  refine BA H (fun s a w => Fr 28 [] [(0, v1), (2, .func (.func 73) #[] #[.pointer (some ⟨q_p2c0, 0, none⟩)]), (4, .pointer (some ⟨b1, 0, none⟩)), (6, .slice none 0 0), (9, v1), (10, .int .i64 (p0.length : Int)), (11, .int .i64 s.2)] a ∧ Stw ⟨Y, X, w0⟩ (Fd b1 p1 v2) [row v1 37 AK s.1] w) ⟨F.ra Aa, W⟩ fun s o a w H L2 hR => ?_
  obtain ⟨x2, x3⟩ := s
  obtain ⟨F, W⟩ := hR
  have F : Fr 28 [] [(0, v1), (2, .func (.func 73) #[] #[.pointer (some ⟨q_p2c0, 0, none⟩)]), (4, .pointer (some ⟨b1, 0, none⟩)), (6, .slice none 0 0), (9, v1), (10, .int .i64 (p0.length : Int)), (11, .int .i64 x3)] a := F
  have W : Stw ⟨Y, X, w0⟩ (Fd b1 p1 v2) [row v1 37 AK x2] w := W
  rw [DS] at H
  refine vc tk 6 F W fun a w F W => ?_
  refine Bi F Aa H (fun F H => ?_) fun F H => ?_
  ·
   refine AC (Ad ?_)
   obtain ⟨o3, G3, K3⟩ := Af H
   refine Au (fun a w => ∃ x4 : List (Int × (Int × (Int × Int × Int × Int) × (Int × Int × Int × Int)) × (List (Int × Int × Int))), some (x4) = some o3 ∧ Fr 28 [] [(0, v1), (2, .func (.func 73) #[] #[.pointer (some ⟨q_p2c0, 0, none⟩)]), (4, .pointer (some ⟨b1, 0, none⟩)), (6, .slice none 0 0), (9, v1), (10, .int .i64 (p0.length : Int)), (11, .int .i64 x3)] a ∧ Stw ⟨Y, X, w0⟩ (Fd b1 p1 v2) [row v1 37 AK x4] w) ?_ ?_
   ·
    have H := G3
    clear G3 K3
    refine vc tk 2 F W fun a w F W => ?_
    obtain ⟨v4, h1, W⟩ := W.exR A4
    refine vc tk 2 F W fun a w F W => ?_
    obtain ⟨x5, h2, H⟩ := Af H
    obtain ⟨v5, h3, h4⟩ := BX h1 h2
    have h5 : Cy v5 = [.int .i64 x5.1, .int .i64 x5.2.1.1, .int .i64 x5.2.1.2.1.1, .int .i64 x5.2.1.2.1.2.1, .int .i64 x5.2.1.2.1.2.2.1, .int .i64 x5.2.1.2.1.2.2.2, .int .i64 x5.2.1.2.2.1, .int .i64 x5.2.1.2.2.2.1, .int .i64 x5.2.1.2.2.2.2.1, .int .i64 x5.2.1.2.2.2.2.2, (v5.2.2.1)] := congrArg (fun q : Int × (Int × (Int × Int × Int × Int) × (Int × Int × Int × Int)) × (List (Int × Int × Int)) => ([.int .i64 q.1, .int .i64 q.2.1.1, .int .i64 q.2.1.2.1.1, .int .i64 q.2.1.2.1.2.1, .int .i64 q.2.1.2.1.2.2.1, .int .i64 q.2.1.2.1.2.2.2, .int .i64 q.2.1.2.2.1, .int .i64 q.2.1.2.2.2.1, .int .i64 q.2.1.2.2.2.2.1, .int .i64 q.2.1.2.2.2.2.2, (v5.2.2.1)] : List Value)) h4
    refine ls F W Aa (AR (r := C4) EL F Aa Aa (AU 0 Aa) h3).q fun a w F W => ?_
    refine ls F W Aa (AD (y := Value.agg #[.int .i64 x5.1, .int .i64 x5.2.1.1, .int .i64 x5.2.1.2.1.1, .int .i64 x5.2.1.2.1.2.1, .int .i64 x5.2.1.2.1.2.2.1, .int .i64 x5.2.1.2.1.2.2.2, .int .i64 x5.2.1.2.2.1, .int .i64 x5.2.1.2.2.2.1, .int .i64 x5.2.1.2.2.2.2.1, .int .i64 x5.2.1.2.2.2.2.2, (v5.2.2.1)]) (j := 0) (i := x3) (enc := Cy) F Aa Aa (AU 0 Aa) h3 EG EM (by rw [h5]; rfl)).q fun a w F W => ?_
    have W := W.note (W.rowAt (k := 0) Aa h3 (Ay.snd (Ay.snd Ay.here)) (congrArg (fun q : Int × (Int × (Int × Int × Int × Int) × (Int × Int × Int × Int)) × (List (Int × Int × Int)) => q.2.2) h4))
    refine Ca (cs := (Iu)) F W Aa Kz Aa fun b2 a w F W => ?_
    refine ls F W Aa (BI F Aa).q fun a w F W => ?_
    refine Dh 0 F W Aa Aa Aa EM Aa Aa (Ac Aa (Ac Aa (Ac Aa (Ac Aa (Ac Aa (Ac Aa (Ac Aa (Ac Aa (Ac Aa (Ac Aa (Ac (W.oneF (k := 0) Aa) Cr))))))))))) fun w W => ?_
    refine Eo tk 6 [0] F W (ai fun a w F W => ?_)
    refine ls F W Aa (Fh (ws := [.agg #[.int .i64 x5.1, .int .i64 x5.2.1.1, .int .i64 x5.2.1.2.1.1, .int .i64 x5.2.1.2.1.2.1, .int .i64 x5.2.1.2.1.2.2.1, .int .i64 x5.2.1.2.1.2.2.2, .int .i64 x5.2.1.2.2.1, .int .i64 x5.2.1.2.2.2.1, .int .i64 x5.2.1.2.2.2.2.1, .int .i64 x5.2.1.2.2.2.2.2, (v5.2.2.1)], .pointer (some ⟨q_p2c0, 0, none⟩)]) (v := Value.bool (Cq x5 p2c0)) F RX Aa (fun w W => Fe any w ((v5.2.2.1)) q_p2c0 (v3) x5 p2c0 _ Aa (Dc (D4 0 Aa) W) (Dc (An h_v3) W) (At.re a_q_p2c0 W))) fun a w F W => ?_
    refine BJ tk 2 F W fun a w F W => ?_
    refine BE F Aa H (fun F H => ?_) fun F H => ?_
    ·
     refine Fq tk 4 [1] F W (ai fun a w F W => ?_)
     obtain ⟨x6, h6, H⟩ := Af H
     refine AA (Ml := []) (Zl := []) (β := Value) (rv := fun x => .agg #[.int .i64 x6.1, .int .i64 x6.2.1.1, .int .i64 x6.2.1.2.1.1, .int .i64 x6.2.1.2.1.2.1, .int .i64 x6.2.1.2.1.2.2.1, .int .i64 x6.2.1.2.1.2.2.2, .int .i64 x6.2.1.2.2.1, .int .i64 x6.2.1.2.2.2.1, .int .i64 x6.2.1.2.2.2.2.1, .int .i64 x6.2.1.2.2.2.2.2, x]) (MM := fun x => []) (ZZ := fun x => [row x 88 Bk x6.2.2]) F W RP Aa Aa (fun hL => Dl _ w (v2) p1 _ h6 (W.old s_v2)) fun x a w F W => ?_
     obtain ⟨v6, rfl⟩ : ∃ y, y = x := ⟨x, rfl⟩
     have W : Stw ⟨Y, X, w0⟩ [(b2, [.int .i64 x5.1, .int .i64 x5.2.1.1, .int .i64 x5.2.1.2.1.1, .int .i64 x5.2.1.2.1.2.1, .int .i64 x5.2.1.2.1.2.2.1, .int .i64 x5.2.1.2.1.2.2.2, .int .i64 x5.2.1.2.2.1, .int .i64 x5.2.1.2.2.2.1, .int .i64 x5.2.1.2.2.2.2.1, .int .i64 x5.2.1.2.2.2.2.2, (v5.2.2.1)]), (b1, (DZ p1 v2))] [row v6 88 Bk x6.2.2, Bo (v5.2.2.1) Bk x5.2.2, row v1 37 C4 v4] w := W
     refine ls F W Aa (Kj (v := v6) Ij Aa Aa Aa Nt F Aa Aa).q fun a w F W => ?_
     obtain ⟨x7, h7, H⟩ := Af H
     obtain ⟨v7, h8, h9⟩ := BX h1 h7
     have h10 : Cy v7 = [.int .i64 x7.1, .int .i64 x7.2.1.1, .int .i64 x7.2.1.2.1.1, .int .i64 x7.2.1.2.1.2.1, .int .i64 x7.2.1.2.1.2.2.1, .int .i64 x7.2.1.2.1.2.2.2, .int .i64 x7.2.1.2.2.1, .int .i64 x7.2.1.2.2.2.1, .int .i64 x7.2.1.2.2.2.2.1, .int .i64 x7.2.1.2.2.2.2.2, (v7.2.2.1)] := congrArg (fun q : Int × (Int × (Int × Int × Int × Int) × (Int × Int × Int × Int)) × (List (Int × Int × Int)) => ([.int .i64 q.1, .int .i64 q.2.1.1, .int .i64 q.2.1.2.1.1, .int .i64 q.2.1.2.1.2.1, .int .i64 q.2.1.2.1.2.2.1, .int .i64 q.2.1.2.1.2.2.2, .int .i64 q.2.1.2.2.1, .int .i64 q.2.1.2.2.2.1, .int .i64 q.2.1.2.2.2.2.1, .int .i64 q.2.1.2.2.2.2.2, (v7.2.2.1)] : List Value)) h9
     refine ls F W Aa (AR (r := C4) EL F Aa Aa (AU 2 Aa) h8).q fun a w F W => ?_
     refine ls F W Aa (Aj Ij Aa Aa Aa Nt F Aa (Ei v1 + (x3).toNat * 11 + 10) Aa).q fun a w F W => ?_
     have W := W.freeze
     have W := W.frontZ (i := 2) Aa Aa
     have W := W.hideR A4 h1
     refine Fw (r := AK) (i := x3) (j := 10) (vs := [v6]) (x' := (x7.1, x7.2.1, x6.2.2)) F W rfl rfl rfl (k := 0) rfl rfl h7 Nt (Hc (W.oneF (k := 1) rfl)) rfl rfl (Ac (W.oneF (k := 1) rfl) Cr) (fun A cs hA hc => by obtain ⟨z, hz, hc⟩ := A4.to hc; have e1 := EG hc; have e2 : Cy z = [.int .i64 x7.1, .int .i64 x7.2.1.1, .int .i64 x7.2.1.2.1.1, .int .i64 x7.2.1.2.1.2.1, .int .i64 x7.2.1.2.1.2.2.1, .int .i64 x7.2.1.2.1.2.2.2, .int .i64 x7.2.1.2.2.1, .int .i64 x7.2.1.2.2.2.1, .int .i64 x7.2.1.2.2.2.2.1, .int .i64 x7.2.1.2.2.2.2.2, (z.2.2.1)] := (congrArg (fun q : Int × (Int × (Int × Int × Int × Int) × (Int × Int × Int × Int)) × (List (Int × Int × Int)) => ([.int .i64 q.1, .int .i64 q.2.1.1, .int .i64 q.2.1.2.1.1, .int .i64 q.2.1.2.1.2.1, .int .i64 q.2.1.2.1.2.2.1, .int .i64 q.2.1.2.1.2.2.2, .int .i64 q.2.1.2.2.1, .int .i64 q.2.1.2.2.2.1, .int .i64 q.2.1.2.2.2.2.1, .int .i64 q.2.1.2.2.2.2.2, (z.2.2.1)] : List Value)) hz); rw [e1, e2]; exact ⟨[Value.int .i64 x7.1], [Value.int .i64 x7.2.1.1, Value.int .i64 x7.2.1.2.1.1, Value.int .i64 x7.2.1.2.1.2.1, Value.int .i64 x7.2.1.2.1.2.2.1, Value.int .i64 x7.2.1.2.1.2.2.2, Value.int .i64 x7.2.1.2.2.1, Value.int .i64 x7.2.1.2.2.2.1, Value.int .i64 x7.2.1.2.2.2.2.1, Value.int .i64 x7.2.1.2.2.2.2.2, v6], rfl, rfl, ⟨[Value.int .i64 x7.2.1.1, Value.int .i64 x7.2.1.2.1.1, Value.int .i64 x7.2.1.2.1.2.1, Value.int .i64 x7.2.1.2.1.2.2.1, Value.int .i64 x7.2.1.2.1.2.2.2, Value.int .i64 x7.2.1.2.2.1, Value.int .i64 x7.2.1.2.2.2.1, Value.int .i64 x7.2.1.2.2.2.2.1, Value.int .i64 x7.2.1.2.2.2.2.2], [v6], rfl, ⟨[Value.int .i64 x7.2.1.1], [Value.int .i64 x7.2.1.2.1.1, Value.int .i64 x7.2.1.2.1.2.1, Value.int .i64 x7.2.1.2.1.2.2.1, Value.int .i64 x7.2.1.2.1.2.2.2, Value.int .i64 x7.2.1.2.2.1, Value.int .i64 x7.2.1.2.2.2.1, Value.int .i64 x7.2.1.2.2.2.2.1, Value.int .i64 x7.2.1.2.2.2.2.2], rfl, rfl, ⟨[Value.int .i64 x7.2.1.2.1.1, Value.int .i64 x7.2.1.2.1.2.1, Value.int .i64 x7.2.1.2.1.2.2.1, Value.int .i64 x7.2.1.2.1.2.2.2], [Value.int .i64 x7.2.1.2.2.1, Value.int .i64 x7.2.1.2.2.2.1, Value.int .i64 x7.2.1.2.2.2.2.1, Value.int .i64 x7.2.1.2.2.2.2.2], rfl, ⟨[Value.int .i64 x7.2.1.2.1.1], [Value.int .i64 x7.2.1.2.1.2.1, Value.int .i64 x7.2.1.2.1.2.2.1, Value.int .i64 x7.2.1.2.1.2.2.2], rfl, rfl, ⟨[Value.int .i64 x7.2.1.2.1.2.1], [Value.int .i64 x7.2.1.2.1.2.2.1, Value.int .i64 x7.2.1.2.1.2.2.2], rfl, rfl, ⟨[Value.int .i64 x7.2.1.2.1.2.2.1], [Value.int .i64 x7.2.1.2.1.2.2.2], rfl, rfl, rfl⟩⟩⟩, ⟨[Value.int .i64 x7.2.1.2.2.1], [Value.int .i64 x7.2.1.2.2.2.1, Value.int .i64 x7.2.1.2.2.2.2.1, Value.int .i64 x7.2.1.2.2.2.2.2], rfl, rfl, ⟨[Value.int .i64 x7.2.1.2.2.2.1], [Value.int .i64 x7.2.1.2.2.2.2.1, Value.int .i64 x7.2.1.2.2.2.2.2], rfl, rfl, ⟨[Value.int .i64 x7.2.1.2.2.2.2.1], [Value.int .i64 x7.2.1.2.2.2.2.2], rfl, rfl, rfl⟩⟩⟩⟩⟩, ⟨_, rfl, (Sl.stab (W.item (i := 1) rfl) (fun b hb _ => ⟨hA b hb, rfl⟩))⟩⟩⟩) fun w W => ?_
     refine Er (AF (Ad ?_))
     have W := W.frontM (i := 1) Aa Aa
     have W := W.sub (M' := (Fd b1 p1 v2)) (Z' := [row v1 37 AK (Dv x2 x3 (x7.1, x7.2.1, x6.2.2))]) (List.Sublist.cons_cons _ (List.nil_sublist _)) (List.Sublist.cons_cons _ (List.nil_sublist _))
     exact ⟨_, H, F.ra Aa, W⟩
    refine AC (AF (Ad ?_))
    have W := W.frontZ (i := 1) Aa Aa
    have W := W.hideR A4 h1
    have W := W.frontM (i := 1) Aa Aa
    have W := W.sub (M' := (Fd b1 p1 v2)) (Z' := [row v1 37 AK x2]) (List.Sublist.cons_cons _ (List.nil_sublist _)) (List.Sublist.cons_cons _ (List.nil_sublist _))
    exact ⟨_, H, F.ra Aa, W⟩
   rintro a w ⟨x4, hj, F, W⟩
   have hj := Av hj
   subst hj
   have H := K3
   clear G3 K3
   refine vc tk 4 F W fun a w F W => ?_
   refine Ad ?_
   exact ⟨_, H, F.ra Aa, W⟩
  refine Bm ?_
  iterate 2 refine BU ?_
  refine Bp (Ad ?_)
  have H := L2 _ H
  exact ⟨_, H, F.ra Aa, W⟩
 rintro a w ⟨x1, hj, F, W⟩
 have hj := Av hj
 subst hj
 have H := K1
 clear G1 K1
 refine vc tk 6 F W fun a w F W => ?_
 refine Al ?_
 have H := Av H
 subst H
 refine Aw (.inl Aa) F W Aa (Ai F Aa) ?_
 have W := W.sub (M' := []) (Z' := [row v1 37 AK x1]) (List.nil_sublist _) (List.Sublist.refl _)
 exact ⟨(v1), Aa, W⟩
theorem Se : Has Try.prog 49 := BV Try.func49
def Gu (p0 : Int × (Int × (Int × Int × Int × Int) × (Int × Int × Int × Int)) × (List (Int × Int × Int))) (p1 : Int × (Int × (Int × Int × Int × Int) × (Int × Int × Int × Int)) × (List (Int × Int × Int))) : Bool := decide (p1.1 < p0.1)
theorem Kl (Y : Nat → Prop) (w0 : World) (v1 : Value) (v2 : Value) (p0 : Int × (Int × (Int × Int × Int × Int) × (Int × Int × Int × Int)) × (List (Int × Int × Int))) (p1 : Int × (Int × (Int × Int × Int × Int) × (Int × Int × Int × Int)) × (List (Int × Int × Int))) (r : Bool) (H : Gu p0 p1 = r) (h_v1 : Sl w0 (NX []) Bk v1 p0.2.2) (h_v2 : Sl w0 (NX []) Bk v2 p1.2.2) :
    Calls Try.prog 69 #[.agg #[.int .i64 p0.1, .int .i64 p0.2.1.1, .int .i64 p0.2.1.2.1.1, .int .i64 p0.2.1.2.1.2.1, .int .i64 p0.2.1.2.1.2.2.1, .int .i64 p0.2.1.2.1.2.2.2, .int .i64 p0.2.1.2.2.1, .int .i64 p0.2.1.2.2.2.1, .int .i64 p0.2.1.2.2.2.2.1, .int .i64 p0.2.1.2.2.2.2.2, v1], .agg #[.int .i64 p1.1, .int .i64 p1.2.1.1, .int .i64 p1.2.1.2.1.1, .int .i64 p1.2.1.2.1.2.1, .int .i64 p1.2.1.2.1.2.2.1, .int .i64 p1.2.1.2.1.2.2.2, .int .i64 p1.2.1.2.2.1, .int .i64 p1.2.1.2.2.2.1, .int .i64 p1.2.1.2.2.2.2.1, .int .i64 p1.2.1.2.2.2.2.2, v2]] w0 fun e w' => e = .returned (.bool r) ∧ Below w0.heap.size w0 w' := by
 refine enter Try.func69 Aa Try.ntmps69 Aa fun a F => ?_
 have W := Stw.start Y w0
 unfold Gu at H
 refine vc tk 2 F W fun a w F W => ?_
 refine BR (cs := (DZ p0 v1)) F W Aa Aa Aa fun b1 a w F W => ?_
 refine BR (cs := (DZ p1 v2)) F W Aa Aa Aa fun b2 a w F W => ?_
 refine Eo tk 13 [1, 0] F W (ai (ai fun a w F W => ?_))
 refine Al ?_
 subst H
 refine Aw (.inl Aa) F W Aa (Ai F Aa) ?_
 exact ⟨rfl, W.done⟩
theorem S8 : Has Try.prog 69 := BV Try.func69
def FV (p0 : Int × (Int × (Int × Int × Int × Int) × (Int × Int × Int × Int)) × (List (Int × Int × Int))) (p1 : Int × (Int × (Int × (Int × Int × Int × Int) × (Int × Int × Int × Int)) × (List (Int × Int × Int))) × Bool) : Bool := (Gu p1.2.1 p0)
theorem JH (Y : Nat → Prop) (w0 : World) (v1 : Value) (q_p1 : Nat) (v2 : Value) (p0 : Int × (Int × (Int × Int × Int × Int) × (Int × Int × Int × Int)) × (List (Int × Int × Int))) (p1 : Int × (Int × (Int × (Int × Int × Int × Int) × (Int × Int × Int × Int)) × (List (Int × Int × Int))) × Bool) (r : Bool) (H : FV p0 p1 = r) (h_v1 : Sl w0 (NX []) Bk v1 p0.2.2) (h_v2 : Sl w0 (NX []) Bk v2 p1.2.1.2.2) (a_q_p1 : At ⟨Y, [], w0⟩ q_p1 0 [.int .i64 p1.1, .int .i64 p1.2.1.1, .int .i64 p1.2.1.2.1.1, .int .i64 p1.2.1.2.1.2.1.1, .int .i64 p1.2.1.2.1.2.1.2.1, .int .i64 p1.2.1.2.1.2.1.2.2.1, .int .i64 p1.2.1.2.1.2.1.2.2.2, .int .i64 p1.2.1.2.1.2.2.1, .int .i64 p1.2.1.2.1.2.2.2.1, .int .i64 p1.2.1.2.1.2.2.2.2.1, .int .i64 p1.2.1.2.1.2.2.2.2.2, v2, .bool p1.2.2]) :
    Calls Try.prog 68 #[.agg #[.int .i64 p0.1, .int .i64 p0.2.1.1, .int .i64 p0.2.1.2.1.1, .int .i64 p0.2.1.2.1.2.1, .int .i64 p0.2.1.2.1.2.2.1, .int .i64 p0.2.1.2.1.2.2.2, .int .i64 p0.2.1.2.2.1, .int .i64 p0.2.1.2.2.2.1, .int .i64 p0.2.1.2.2.2.2.1, .int .i64 p0.2.1.2.2.2.2.2, v1], .pointer (some ⟨q_p1, 0, none⟩)] w0 fun e w' => e = .returned (.bool r) ∧ Below w0.heap.size w0 w' := by
 refine enter Try.func68 Aa Try.ntmps68 Aa fun a F => ?_
 have W := Stw.start Y w0
 unfold FV at H
 refine vc tk 2 F W fun a w F W => ?_
 refine BR (cs := (DZ p0 v1)) F W Aa Aa Aa fun b1 a w F W => ?_
 refine BJ tk 6 F W fun a w F W => ?_
 refine ls F W Aa (GZ (y := Value.agg #[.int .i64 p1.2.1.1, .int .i64 p1.2.1.2.1.1, .int .i64 p1.2.1.2.1.2.1.1, .int .i64 p1.2.1.2.1.2.1.2.1, .int .i64 p1.2.1.2.1.2.1.2.2.1, .int .i64 p1.2.1.2.1.2.1.2.2.2, .int .i64 p1.2.1.2.1.2.2.1, .int .i64 p1.2.1.2.1.2.2.2.1, .int .i64 p1.2.1.2.1.2.2.2.2.1, .int .i64 p1.2.1.2.1.2.2.2.2.2, v2]) (j := 1) F Aa (Nat.zero_add _).symm a_q_p1 EM Aa).q fun a w F W => ?_
 refine ls F W Aa (Bn (v := Value.agg #[.int .i64 p0.1, .int .i64 p0.2.1.1, .int .i64 p0.2.1.2.1.1, .int .i64 p0.2.1.2.1.2.1, .int .i64 p0.2.1.2.1.2.2.1, .int .i64 p0.2.1.2.1.2.2.2, .int .i64 p0.2.1.2.2.1, .int .i64 p0.2.1.2.2.2.1, .int .i64 p0.2.1.2.2.2.2.1, .int .i64 p0.2.1.2.2.2.2.2, v1]) 0 F Aa Aa EM Aa).q fun a w F W => ?_
 refine ls F W Aa (AM (v := Value.bool (Gu p1.2.1 p0)) F S8 Aa (fun w W => Kl any w (v2) (v1) p1.2.1 p0 _ Aa (Dc (An h_v2) W) (Dc (An h_v1) W))) fun a w F W => ?_
 refine BJ tk 3 F W fun a w F W => ?_
 refine Al ?_
 subst H
 refine Aw (.inl Aa) F W Aa (Ai F Aa) ?_
 exact ⟨rfl, W.done⟩
theorem TF : Has Try.prog 68 := BV Try.func68
noncomputable def Be (p0 : List (Int × (Int × (Int × Int × Int × Int) × (Int × Int × Int × Int)) × (List (Int × Int × Int)))) (p1c0 : Int × (Int × (Int × (Int × Int × Int × Int) × (Int × Int × Int × Int)) × (List (Int × Int × Int))) × Bool) : Int → Option (Int ⊕ (Unit ⊕ Int))
  | x1 => (if x1 < (p0.length : Int) then (ix p0 x1).bind fun x2 => (if (FV x2 p1c0) = true then some (.inr (.inr x1)) else some (.inl (Cc (x1 + 1)))) else some (.inr (.inl ())))
noncomputable def A5 (p0 : List (Int × (Int × (Int × Int × Int × Int) × (Int × Int × Int × Int)) × (List (Int × Int × Int)))) (p1c0 : Int × (Int × (Int × (Int × Int × Int × Int) × (Int × Int × Int × Int)) × (List (Int × Int × Int))) × Bool) : Option Int := FR (AX (Be p0 p1c0) 0) fun _ => some (-1)
theorem DP (Y : Nat → Prop) (w0 : World) (v1 : Value) (q_p1c0 : Nat) (v2 : Value) (p0 : List (Int × (Int × (Int × Int × Int × Int) × (Int × Int × Int × Int)) × (List (Int × Int × Int)))) (p1c0 : Int × (Int × (Int × (Int × Int × Int × Int) × (Int × Int × Int × Int)) × (List (Int × Int × Int))) × Bool) (r : Int) (H : A5 p0 p1c0 = some r) (h_v1 : Sl w0 (NX []) AK v1 p0) (h_v2 : Sl w0 (NX []) Bk v2 p1c0.2.1.2.2) (a_q_p1c0 : At ⟨Y, [], w0⟩ q_p1c0 0 [.int .i64 p1c0.1, .int .i64 p1c0.2.1.1, .int .i64 p1c0.2.1.2.1.1, .int .i64 p1c0.2.1.2.1.2.1.1, .int .i64 p1c0.2.1.2.1.2.1.2.1, .int .i64 p1c0.2.1.2.1.2.1.2.2.1, .int .i64 p1c0.2.1.2.1.2.1.2.2.2, .int .i64 p1c0.2.1.2.1.2.2.1, .int .i64 p1c0.2.1.2.1.2.2.2.1, .int .i64 p1c0.2.1.2.1.2.2.2.2.1, .int .i64 p1c0.2.1.2.1.2.2.2.2.2, v2, .bool p1c0.2.2]) :
    Calls Try.prog 67 #[v1, .func (.func 68) #[] #[.pointer (some ⟨q_p1c0, 0, none⟩)]] w0 fun e w' => e = .returned (.int .i64 r) ∧ Below w0.heap.size w0 w' := by
 refine enter Try.func67 Aa Try.ntmps67 Aa fun a F => ?_
 have W := Stw.start Y w0
 obtain ⟨v3, h1, h_v1⟩ := h_v1.ex A4
 unfold A5 at H
 refine vc tk 5 F W fun a w F W => ?_
 obtain ⟨o1, G1, K1, L1⟩ := H1 H
 refine Au (fun a w => some (Sum.inl ()) = some o1 ∧ Fr 19 [] [(4, .int .i64 0)] a ∧ Stw ⟨Y, [], w0⟩ [] [] w) ?_ ?_
 ·
  have H := G1
  clear G1 K1
  refine vc tk 3 F W fun a w F W => ?_
  refine ls F W Aa (B7 (r := AK) (l := p0) E7 Aa F Aa (Bq A4 h1 (An h_v1))).q fun a w F W => ?_
  refine BJ tk 4 F W fun a w F W => ?_
  refine BA H (fun s a w => Fr 19 [] [(0, v1), (1, .func (.func 68) #[] #[.pointer (some ⟨q_p1c0, 0, none⟩)]), (4, .int .i64 0), (7, .int .i64 (p0.length : Int)), (8, .int .i64 s)] a ∧ Stw ⟨Y, [], w0⟩ [] [] w) ⟨F.ra Aa, W⟩ fun s o a w H L2 hR => ?_
  obtain ⟨x1, rfl⟩ : ∃ x, x = s := ⟨s, rfl⟩
  obtain ⟨F, W⟩ := hR
  have F : Fr 19 [] [(0, v1), (1, .func (.func 68) #[] #[.pointer (some ⟨q_p1c0, 0, none⟩)]), (4, .int .i64 0), (7, .int .i64 (p0.length : Int)), (8, .int .i64 x1)] a := F
  have W : Stw ⟨Y, [], w0⟩ [] [] w := W
  rw [Be] at H
  refine vc tk 6 F W fun a w F W => ?_
  refine Bi F Aa H (fun F H => ?_) fun F H => ?_
  ·
   refine D6 tk 15 F W fun a w F W => ?_
   obtain ⟨x2, h2, H⟩ := Af H
   obtain ⟨v4, h3, h4⟩ := BX h1 h2
   have h5 : Cy v4 = [.int .i64 x2.1, .int .i64 x2.2.1.1, .int .i64 x2.2.1.2.1.1, .int .i64 x2.2.1.2.1.2.1, .int .i64 x2.2.1.2.1.2.2.1, .int .i64 x2.2.1.2.1.2.2.2, .int .i64 x2.2.1.2.2.1, .int .i64 x2.2.1.2.2.2.1, .int .i64 x2.2.1.2.2.2.2.1, .int .i64 x2.2.1.2.2.2.2.2, (v4.2.2.1)] := congrArg (fun q : Int × (Int × (Int × Int × Int × Int) × (Int × Int × Int × Int)) × (List (Int × Int × Int)) => ([.int .i64 q.1, .int .i64 q.2.1.1, .int .i64 q.2.1.2.1.1, .int .i64 q.2.1.2.1.2.1, .int .i64 q.2.1.2.1.2.2.1, .int .i64 q.2.1.2.1.2.2.2, .int .i64 q.2.1.2.2.1, .int .i64 q.2.1.2.2.2.1, .int .i64 q.2.1.2.2.2.2.1, .int .i64 q.2.1.2.2.2.2.2, (v4.2.2.1)] : List Value)) h4
   refine ls F W Aa (AR (r := C4) EL F Aa Aa (An h_v1) h3).q fun a w F W => ?_
   refine ls F W Aa (AD (y := Value.agg #[.int .i64 x2.1, .int .i64 x2.2.1.1, .int .i64 x2.2.1.2.1.1, .int .i64 x2.2.1.2.1.2.1, .int .i64 x2.2.1.2.1.2.2.1, .int .i64 x2.2.1.2.1.2.2.2, .int .i64 x2.2.1.2.2.1, .int .i64 x2.2.1.2.2.2.1, .int .i64 x2.2.1.2.2.2.2.1, .int .i64 x2.2.1.2.2.2.2.2, (v4.2.2.1)]) (j := 0) (i := x1) (enc := Cy) F Aa Aa (An h_v1) h3 EG EM (by rw [h5]; rfl)).q fun a w F W => ?_
   refine ls F W Aa (Fh (ws := [.agg #[.int .i64 x2.1, .int .i64 x2.2.1.1, .int .i64 x2.2.1.2.1.1, .int .i64 x2.2.1.2.1.2.1, .int .i64 x2.2.1.2.1.2.2.1, .int .i64 x2.2.1.2.1.2.2.2, .int .i64 x2.2.1.2.2.1, .int .i64 x2.2.1.2.2.2.1, .int .i64 x2.2.1.2.2.2.2.1, .int .i64 x2.2.1.2.2.2.2.2, (v4.2.2.1)], .pointer (some ⟨q_p1c0, 0, none⟩)]) (v := Value.bool (FV x2 p1c0)) F TF Aa (fun w W => JH any w ((v4.2.2.1)) q_p1c0 (v2) x2 p1c0 _ Aa (Dc (Db (An h_v1) h3 (Ay.snd (Ay.snd Ay.here)) (congrArg (fun q : Int × (Int × (Int × Int × Int × Int) × (Int × Int × Int × Int)) × (List (Int × Int × Int)) => q.2.2) h4)) W) (Dc (An h_v2) W) (At.re a_q_p1c0 W))) fun a w F W => ?_
   refine BJ tk 2 F W fun a w F W => ?_
   refine BE F Aa H (fun F H => ?_) fun F H => ?_
   ·
    refine vc tk 6 F W fun a w F W => ?_
    refine Al (Az ?_)
    iterate 2 refine Aq ?_
    refine Az (Aq ?_)
    have H := L2 _ H
    have H := L1 _ H
    have H := Av H
    subst H
    refine Aw (.inl Aa) F W Aa (Ai F Aa) ?_
    exact ⟨rfl, W.done⟩
   refine AC (AF ?_)
   refine vn tk 4 F W fun a w F W => ?_
   refine Ad ?_
   exact ⟨_, H, F.ra Aa, W⟩
  refine Bm ?_
  iterate 2 refine BU ?_
  refine Bp (Ad ?_)
  have H := L2 _ H
  exact ⟨H, F.ra Aa, W⟩
 rintro a w ⟨hj, F, W⟩
 have H := K1 _ hj
 clear hj G1 K1 L1
 refine vc tk 5 F W fun a w F W => ?_
 refine Al ?_
 have H := Av H
 subst H
 refine Aw (.inl Aa) F W Aa (Ai F Aa) ?_
 exact ⟨rfl, W.done⟩
end Go.Proofs.Ytfnmlmglmegamaa
