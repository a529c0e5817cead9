/- The functions of layer 12, EV. Conditions: none. -/
import Derived.Test.YtfnmlmglmegamaacA2
namespace Go.Proofs.Ytfnmlmglmegamaa
open Go Go.RowKit
set_option linter.unusedVariables false
set_option linter.unusedSimpArgs false
set_option maxRecDepth 20000
theorem Qq : Has Try.prog 46 := B3 Try.func46
abbrev OL (a0 : (Int × (Int × (Int × Int × Int × Int) × (Int × Int × Int × Int)) × (List (Int × Int × Int)))) (a1 : Value) : List Value := [.int .i64 a0.1, .int .i64 a0.2.1.1, .int .i64 a0.2.1.2.1.1, .int .i64 a0.2.1.2.1.2.1, .int .i64 a0.2.1.2.1.2.2.1, .int .i64 a0.2.1.2.1.2.2.2, .int .i64 a0.2.1.2.2.1, .int .i64 a0.2.1.2.2.2.1, .int .i64 a0.2.1.2.2.2.2.1, .int .i64 a0.2.1.2.2.2.2.2, a1]
noncomputable def DD (p0 : List (Int × (Int × (Int × Int × Int × Int) × (Int × Int × Int × Int)) × (List (Int × Int × Int)))) (x1 : List (Int × (Int × (Int × Int × Int × Int) × (Int × Int × Int × Int)) × (List (Int × Int × Int)))) : ((List (Int × (Int × (Int × Int × Int × Int) × (Int × Int × Int × Int)) × (List (Int × Int × Int)))) × Int) → Option (((List (Int × (Int × (Int × Int × Int × Int) × (Int × Int × Int × Int)) × (List (Int × Int × Int)))) × Int) ⊕ (List (Int × (Int × (Int × Int × Int × Int) × (Int × Int × Int × Int)) × (List (Int × Int × Int)))))
  | (x3, x4) => (if x4 < ((HT x1 0 (min p0.length x1.length) p0).length : Int) then (ix x3 x4).bind fun x5 => (BP x5).bind fun x6 => (ix x3 x4).bind fun x7 => some (.inl ((C9 x3 x4 x6), Cs (x4 + 1))) else some (.inr x3))
noncomputable def C0 (p0 : List (Int × (Int × (Int × Int × Int × Int) × (Int × Int × Int × Int)) × (List (Int × Int × Int)))) : Option (List (Int × (Int × (Int × Int × Int × Int) × (Int × Int × Int × Int)) × (List (Int × Int × Int)))) := (mk (p0.length : Int) ((0, (0, (0, 0, 0, 0), (0, 0, 0, 0)), []) : Int × (Int × (Int × Int × Int × Int) × (Int × Int × Int × Int)) × (List (Int × Int × Int)))).bind fun x1 => (AJ (DD p0 x1) (HT x1 0 (min p0.length x1.length) p0, 0)).bind fun x2 => some x2
theorem EQ (Y : Nat → Prop) (w0 : World) (v1 : Value) (p0 : List (Int × (Int × (Int × Int × Int × Int) × (Int × Int × Int × Int)) × (List (Int × Int × Int)))) (r : (List (Int × (Int × (Int × Int × Int × Int) × (Int × Int × Int × Int)) × (List (Int × Int × Int))))) (H : C0 p0 = some r) (s_v1 : Sl w0 Y A5 v1 p0) :
    Calls Try.prog 36 #[v1] w0 fun e w' => ∃ x : {x : Value // HP x (((p0.length : Int)).toNat)}, e = .returned (x.1) ∧ Stw ⟨Y, [], w0⟩ [] [row (x.1) 37 A5 r] w' := by
 refine enter Try.func36 Aa Try.ntmps36 Aa fun a F => ?_
 have W := Stw.start Y w0
 obtain ⟨v2, h1, s_v1⟩ := s_v1.ex BH
 have h_v1 := W.nx s_v1
 unfold C0 at H
 refine vc tk 8 F W fun a w F W => ?_
 refine ls F W Aa (BQ (r := A5) (l := p0) E2 Aa F Aa (A6 BH h1 (Aj h_v1))).q fun a w F W => ?_
 obtain ⟨x1, h2, H⟩ := Ah H
 refine Oz (r := A5) ((0, (0, (0, 0, 0, 0), (0, 0, 0, 0)), []) : Int × (Int × (Int × Int × Int × Int) × (Int × Int × Int × Int)) × (List (Int × Int × Int))) F W Aa FQ Mx Aa Aa (fun w A => ⟨[Value.int .i64 0], [Value.int .i64 0, Value.int .i64 0, Value.int .i64 0, Value.int .i64 0, Value.int .i64 0, Value.int .i64 0, Value.int .i64 0, Value.int .i64 0, Value.int .i64 0, Value.slice none 0 0], Aa, Aa, ⟨[Value.int .i64 0, Value.int .i64 0, Value.int .i64 0, Value.int .i64 0, Value.int .i64 0, Value.int .i64 0, Value.int .i64 0, Value.int .i64 0, Value.int .i64 0], [Value.slice none 0 0], Aa, ⟨[Value.int .i64 0], [Value.int .i64 0, Value.int .i64 0, Value.int .i64 0, Value.int .i64 0, Value.int .i64 0, Value.int .i64 0, Value.int .i64 0, Value.int .i64 0], Aa, Aa, ⟨[Value.int .i64 0, Value.int .i64 0, Value.int .i64 0, Value.int .i64 0], [Value.int .i64 0, Value.int .i64 0, Value.int .i64 0, Value.int .i64 0], Aa, ⟨[Value.int .i64 0], [Value.int .i64 0, Value.int .i64 0, Value.int .i64 0], Aa, Aa, ⟨[Value.int .i64 0], [Value.int .i64 0, Value.int .i64 0], Aa, Aa, ⟨[Value.int .i64 0], [Value.int .i64 0], Aa, Aa, Aa⟩⟩⟩, ⟨[Value.int .i64 0], [Value.int .i64 0, Value.int .i64 0, Value.int .i64 0], Aa, Aa, ⟨[Value.int .i64 0], [Value.int .i64 0, Value.int .i64 0], Aa, Aa, ⟨[Value.int .i64 0], [Value.int .i64 0], Aa, Aa, Aa⟩⟩⟩⟩⟩, ⟨_, Aa, Sl.nil⟩⟩⟩) h2 Aa fun v3 h3 a w F W => ?_
 refine BV tk 7 F W fun a w F W => ?_
 refine Py (r := A5) (k := 0) F W Aa FQ Aa Aa Aa Aa (GP.hide BH h1 (FX W s_v1)) fun a w F W => ?_
 have W : Stw ⟨Y, [], w0⟩ [] [row v3 37 A5 (HT x1 0 (min p0.length x1.length) p0)] w := W
 refine Ft (Ad ?_)
 obtain ⟨o1, G1, K1⟩ := Ah H
 refine AC (fun a w => ∃ x2 : List (Int × (Int × (Int × Int × Int × Int) × (Int × Int × Int × Int)) × (List (Int × Int × Int))), some (x2) = some o1 ∧ Fr 26 [] [(2, .slice none 0 0), (3, v3)] a ∧ Stw ⟨Y, [], w0⟩ [] [row v3 37 A5 x2] w) ?_ ?_
 ·
  have H := G1
  clear G1 K1
  refine vc tk 3 F W fun a w F W => ?_
  refine ls F W Aa (BQ (r := A5) (l := HT x1 0 (min p0.length x1.length) p0) E2 Aa F Aa (A4 0 Aa)).q fun a w F W => ?_
  refine BV tk 4 F W fun a w F W => ?_
  refine BI H (fun s a w => Fr 26 [] [(2, .slice none 0 0), (3, v3), (12, v3), (13, .int .i64 ((HT x1 0 (min p0.length x1.length) p0).length : Int)), (14, .int .i64 s.2)] a ∧ Stw ⟨Y, [], w0⟩ [] [row v3 37 A5 s.1] w) ⟨F.ra Aa, W⟩ fun s o a w H L2 hR => ?_
  obtain ⟨x3, x4⟩ := s
  obtain ⟨F, W⟩ := hR
  have F : Fr 26 [] [(2, .slice none 0 0), (3, v3), (12, v3), (13, .int .i64 ((HT x1 0 (min p0.length x1.length) p0).length : Int)), (14, .int .i64 x4)] a := F
  have W : Stw ⟨Y, [], w0⟩ [] [row v3 37 A5 x3] w := W
  rw [DD] at H
  refine vc tk 6 F W fun a w F W => ?_
  refine Br F Aa H (fun F H => ?_) fun F H => ?_
  ·
   refine E8 tk 5 F W fun a w F W => ?_
   obtain ⟨v4, h4, W⟩ := W.exR BH
   refine vc tk 2 F W fun a w F W => ?_
   obtain ⟨x5, h5, H⟩ := Ah H
   obtain ⟨v5, h6, h7⟩ := Ck h4 h5
   have h8 : CK v5 = [.int .i64 x5.1, .int .i64 x5.2.1.1, .int .i64 x5.2.1.2.1.1, .int .i64 x5.2.1.2.1.2.1, .int .i64 x5.2.1.2.1.2.2.1, .int .i64 x5.2.1.2.1.2.2.2, .int .i64 x5.2.1.2.2.1, .int .i64 x5.2.1.2.2.2.1, .int .i64 x5.2.1.2.2.2.2.1, .int .i64 x5.2.1.2.2.2.2.2, (v5.2.2.1)] := congrArg (fun q : Int × (Int × (Int × Int × Int × Int) × (Int × Int × Int × Int)) × (List (Int × Int × Int)) => ([.int .i64 q.1, .int .i64 q.2.1.1, .int .i64 q.2.1.2.1.1, .int .i64 q.2.1.2.1.2.1, .int .i64 q.2.1.2.1.2.2.1, .int .i64 q.2.1.2.1.2.2.2, .int .i64 q.2.1.2.2.1, .int .i64 q.2.1.2.2.2.1, .int .i64 q.2.1.2.2.2.2.1, .int .i64 q.2.1.2.2.2.2.2, (v5.2.2.1)] : List Value)) h7
   refine ls F W Aa (A8 (r := DU) FQ F Aa Aa (A4 0 Aa) h6).q fun a w F W => ?_
   refine ls F W Aa (AE (y := Value.agg #[.int .i64 x5.1, .int .i64 x5.2.1.1, .int .i64 x5.2.1.2.1.1, .int .i64 x5.2.1.2.1.2.1, .int .i64 x5.2.1.2.1.2.2.1, .int .i64 x5.2.1.2.1.2.2.2, .int .i64 x5.2.1.2.2.1, .int .i64 x5.2.1.2.2.2.1, .int .i64 x5.2.1.2.2.2.2.1, .int .i64 x5.2.1.2.2.2.2.2, (v5.2.2.1)]) (j := 0) (i := x4) (enc := CK) F Aa Aa (A4 0 Aa) h6 Fo Fk (by rw [h8]; rfl)).q fun a w F W => ?_
   have W := W.note (W.rowAt (k := 0) Aa h6 (Ay.snd (Ay.snd Ay.here)) (congrArg (fun q : Int × (Int × (Int × Int × Int × Int) × (Int × Int × Int × Int)) × (List (Int × Int × Int)) => q.2.2) h7))
   refine Cn (cs := (Ig)) F W Aa Mx Aa fun b1 a w F W => ?_
   refine ls F W Aa (BK F Aa).q fun a w F W => ?_
   refine EJ 0 F W Aa Aa Aa Fk Aa Aa (Ac Aa (Ac Aa (Ac Aa (Ac Aa (Ac Aa (Ac Aa (Ac Aa (Ac Aa (Ac Aa (Ac Aa (Ac (W.oneF (k := 0) Aa) Ct))))))))))) fun w W => ?_
   refine EY tk 6 [0] F W (ai fun a w F W => ?_)
   obtain ⟨x6, h9, H⟩ := Ah H
   refine AB (Ml := []) (Zl := []) (β := Value) (rv := fun x => .agg #[.int .i64 x6.1, .int .i64 x6.2.1.1, .int .i64 x6.2.1.2.1.1, .int .i64 x6.2.1.2.1.2.1, .int .i64 x6.2.1.2.1.2.2.1, .int .i64 x6.2.1.2.1.2.2.2, .int .i64 x6.2.1.2.2.1, .int .i64 x6.2.1.2.2.2.1, .int .i64 x6.2.1.2.2.2.2.1, .int .i64 x6.2.1.2.2.2.2.2, x]) (MM := fun x => []) (ZZ := fun x => [row x 88 Bl x6.2.2]) F W Qq Aa Aa (fun hL => C3 _ w ((v5.2.2.1)) x5 _ h9 (W.item (i := 0) Aa)) fun x a w F W => ?_
   obtain ⟨v6, rfl⟩ : ∃ y, y = x := ⟨x, rfl⟩
   have W : Stw ⟨Y, [], w0⟩ [(b1, [.int .i64 x5.1, .int .i64 x5.2.1.1, .int .i64 x5.2.1.2.1.1, .int .i64 x5.2.1.2.1.2.1, .int .i64 x5.2.1.2.1.2.2.1, .int .i64 x5.2.1.2.1.2.2.2, .int .i64 x5.2.1.2.2.1, .int .i64 x5.2.1.2.2.2.1, .int .i64 x5.2.1.2.2.2.2.1, .int .i64 x5.2.1.2.2.2.2.2, (v5.2.2.1)])] [row v6 88 Bl x6.2.2, BD (v5.2.2.1) Bl x5.2.2, row v3 37 DU v4] w := W
   obtain ⟨x7, h10, H⟩ := Ah H
   obtain ⟨v7, h11, h12⟩ := Ck h4 h10
   have h13 : CK v7 = [.int .i64 x7.1, .int .i64 x7.2.1.1, .int .i64 x7.2.1.2.1.1, .int .i64 x7.2.1.2.1.2.1, .int .i64 x7.2.1.2.1.2.2.1, .int .i64 x7.2.1.2.1.2.2.2, .int .i64 x7.2.1.2.2.1, .int .i64 x7.2.1.2.2.2.1, .int .i64 x7.2.1.2.2.2.2.1, .int .i64 x7.2.1.2.2.2.2.2, (v7.2.2.1)] := congrArg (fun q : Int × (Int × (Int × Int × Int × Int) × (Int × Int × Int × Int)) × (List (Int × Int × Int)) => ([.int .i64 q.1, .int .i64 q.2.1.1, .int .i64 q.2.1.2.1.1, .int .i64 q.2.1.2.1.2.1, .int .i64 q.2.1.2.1.2.2.1, .int .i64 q.2.1.2.1.2.2.2, .int .i64 q.2.1.2.2.1, .int .i64 q.2.1.2.2.2.1, .int .i64 q.2.1.2.2.2.2.1, .int .i64 q.2.1.2.2.2.2.2, (v7.2.2.1)] : List Value)) h12
   refine ls F W Aa (A8 (r := DU) FQ F Aa Aa (A4 2 Aa) h11).q fun a w F W => ?_
   have W := W.freeze
   have W := W.frontZ (i := 2) Aa Aa
   have W := W.hideR BH h4
   refine EO (r := A5) (i := x4) (j := 0) (vs := (OL x6 v6)) (x' := x6) F W rfl rfl rfl (k := 0) rfl rfl h10 Fk rfl rfl rfl (Ac rfl (Ac rfl (Ac rfl (Ac rfl (Ac rfl (Ac rfl (Ac rfl (Ac rfl (Ac rfl (Ac rfl (Ac (W.oneF (k := 1) rfl) Ct))))))))))) (fun A cs hA hc => by obtain ⟨z, hz, hc⟩ := BH.to hc; have e1 := Fo hc; have e2 : CK z = [.int .i64 x7.1, .int .i64 x7.2.1.1, .int .i64 x7.2.1.2.1.1, .int .i64 x7.2.1.2.1.2.1, .int .i64 x7.2.1.2.1.2.2.1, .int .i64 x7.2.1.2.1.2.2.2, .int .i64 x7.2.1.2.2.1, .int .i64 x7.2.1.2.2.2.1, .int .i64 x7.2.1.2.2.2.2.1, .int .i64 x7.2.1.2.2.2.2.2, (z.2.2.1)] := (congrArg (fun q : Int × (Int × (Int × Int × Int × Int) × (Int × Int × Int × Int)) × (List (Int × Int × Int)) => ([.int .i64 q.1, .int .i64 q.2.1.1, .int .i64 q.2.1.2.1.1, .int .i64 q.2.1.2.1.2.1, .int .i64 q.2.1.2.1.2.2.1, .int .i64 q.2.1.2.1.2.2.2, .int .i64 q.2.1.2.2.1, .int .i64 q.2.1.2.2.2.1, .int .i64 q.2.1.2.2.2.2.1, .int .i64 q.2.1.2.2.2.2.2, (z.2.2.1)] : List Value)) hz); rw [e1, e2]; exact ⟨[Value.int .i64 x6.1], [Value.int .i64 x6.2.1.1, Value.int .i64 x6.2.1.2.1.1, Value.int .i64 x6.2.1.2.1.2.1, Value.int .i64 x6.2.1.2.1.2.2.1, Value.int .i64 x6.2.1.2.1.2.2.2, Value.int .i64 x6.2.1.2.2.1, Value.int .i64 x6.2.1.2.2.2.1, Value.int .i64 x6.2.1.2.2.2.2.1, Value.int .i64 x6.2.1.2.2.2.2.2, v6], rfl, rfl, ⟨[Value.int .i64 x6.2.1.1, Value.int .i64 x6.2.1.2.1.1, Value.int .i64 x6.2.1.2.1.2.1, Value.int .i64 x6.2.1.2.1.2.2.1, Value.int .i64 x6.2.1.2.1.2.2.2, Value.int .i64 x6.2.1.2.2.1, Value.int .i64 x6.2.1.2.2.2.1, Value.int .i64 x6.2.1.2.2.2.2.1, Value.int .i64 x6.2.1.2.2.2.2.2], [v6], rfl, ⟨[Value.int .i64 x6.2.1.1], [Value.int .i64 x6.2.1.2.1.1, Value.int .i64 x6.2.1.2.1.2.1, Value.int .i64 x6.2.1.2.1.2.2.1, Value.int .i64 x6.2.1.2.1.2.2.2, Value.int .i64 x6.2.1.2.2.1, Value.int .i64 x6.2.1.2.2.2.1, Value.int .i64 x6.2.1.2.2.2.2.1, Value.int .i64 x6.2.1.2.2.2.2.2], rfl, rfl, ⟨[Value.int .i64 x6.2.1.2.1.1, Value.int .i64 x6.2.1.2.1.2.1, Value.int .i64 x6.2.1.2.1.2.2.1, Value.int .i64 x6.2.1.2.1.2.2.2], [Value.int .i64 x6.2.1.2.2.1, Value.int .i64 x6.2.1.2.2.2.1, Value.int .i64 x6.2.1.2.2.2.2.1, Value.int .i64 x6.2.1.2.2.2.2.2], rfl, ⟨[Value.int .i64 x6.2.1.2.1.1], [Value.int .i64 x6.2.1.2.1.2.1, Value.int .i64 x6.2.1.2.1.2.2.1, Value.int .i64 x6.2.1.2.1.2.2.2], rfl, rfl, ⟨[Value.int .i64 x6.2.1.2.1.2.1], [Value.int .i64 x6.2.1.2.1.2.2.1, Value.int .i64 x6.2.1.2.1.2.2.2], rfl, rfl, ⟨[Value.int .i64 x6.2.1.2.1.2.2.1], [Value.int .i64 x6.2.1.2.1.2.2.2], rfl, rfl, rfl⟩⟩⟩, ⟨[Value.int .i64 x6.2.1.2.2.1], [Value.int .i64 x6.2.1.2.2.2.1, Value.int .i64 x6.2.1.2.2.2.2.1, Value.int .i64 x6.2.1.2.2.2.2.2], rfl, rfl, ⟨[Value.int .i64 x6.2.1.2.2.2.1], [Value.int .i64 x6.2.1.2.2.2.2.1, Value.int .i64 x6.2.1.2.2.2.2.2], rfl, rfl, ⟨[Value.int .i64 x6.2.1.2.2.2.2.1], [Value.int .i64 x6.2.1.2.2.2.2.2], rfl, rfl, rfl⟩⟩⟩⟩⟩, ⟨_, rfl, (Sl.stab (W.item (i := 1) rfl) (fun b hb _ => ⟨hA b hb, rfl⟩))⟩⟩⟩) fun w W => ?_
   refine Ft (AV ?_)
   refine vn tk 4 F W fun a w F W => ?_
   refine Ad ?_
   have W := W.sub (M' := []) (Z' := [row v3 37 A5 (C9 x3 x4 x6)]) (List.nil_sublist _) (List.Sublist.cons_cons _ (List.nil_sublist _))
   exact ⟨_, H, F.ra Aa, W⟩
  refine Bz ?_
  iterate 2 refine B7 ?_
  refine BC (Ad ?_)
  have H := L2 _ H
  exact ⟨_, H, F.ra Aa, W⟩
 rintro a w ⟨x2, hj, F, W⟩
 have hj := Aw hj
 subst hj
 have H := K1
 clear G1 K1
 refine vc tk 6 F W fun a w F W => ?_
 refine Al ?_
 have H := Aw H
 subst H
 refine Aq (.inl Aa) F W Aa (Ak F Aa) ?_
 exact ⟨⟨v3, h3⟩, Aa, W⟩
theorem QY : Has Try.prog 36 := B3 Try.func36
noncomputable def DZ (p0 : Int × (Int × Int × Int × Int) × (Int × Int × Int × Int)) : Int → Option (Int ⊕ (Unit ⊕ Bool))
  | x1 => (if x1 < 4 then (ix ([p0.2.2.1, p0.2.2.2.1, p0.2.2.2.2.1, p0.2.2.2.2.2] : List Int) x1).bind fun x2 => (if x2 < 0 then some true else (CM x1).bind fun x4 => (if x4 < x2 then some true else (ix ([p0.2.1.1, p0.2.1.2.1, p0.2.1.2.2.1, p0.2.1.2.2.2] : List Int) x1).bind fun x5 => (if x5 < 0 then some true else (ix ([p0.2.1.1, p0.2.1.2.1, p0.2.1.2.2.1, p0.2.1.2.2.2] : List Int) x1).bind fun x6 => some (decide ((E4 .i64 x6 x2) ≠ 0))))).bind fun x3 => (if x3 = true then some (.inr (.inr false)) else some (.inl (Cs (x1 + 1)))) else some (.inr (.inl ())))
noncomputable def Es (p0 : Int × (Int × Int × Int × Int) × (Int × Int × Int × Int)) : Option Bool := (if (decide (p0.1 ≠ (-1)) && (decide (p0.1 < 0) || decide (8 ≤ p0.1))) = true then some false else Fu (AJ (DZ p0) 0) fun _ => some true)
theorem IW (Y : Nat → Prop) (w0 : World)  (p0 : Int × (Int × Int × Int × Int) × (Int × Int × Int × Int)) (r : Bool) (H : Es p0 = some r)  :
    Calls Try.prog 63 #[.agg #[.int .i64 p0.1, .int .i64 p0.2.1.1, .int .i64 p0.2.1.2.1, .int .i64 p0.2.1.2.2.1, .int .i64 p0.2.1.2.2.2, .int .i64 p0.2.2.1, .int .i64 p0.2.2.2.1, .int .i64 p0.2.2.2.2.1, .int .i64 p0.2.2.2.2.2]] w0 fun e w' => e = .returned (.bool r) ∧ Below w0.heap.size w0 w' := by
 refine enter Try.func63 Aa Try.ntmps63 Aa fun a F => ?_
 have W := Stw.start Y w0
 unfold Es at H
 refine vc tk 2 F W fun a w F W => ?_
 refine B1 (cs := (NB p0)) F W Aa Aa Aa fun b1 a w F W => ?_
 refine BV tk 4 F W fun a w F W => ?_
 refine AC (fun a w => Fr 49 [] [(1, .pointer (some ⟨b1, 0, none⟩)), (2, .bool false), (17, .bool (decide (p0.1 ≠ (-1)) && (decide (p0.1 < 0) || decide (8 ≤ p0.1))))] a ∧ Stw ⟨Y, [], w0⟩ (Ht b1 p0) [] w) ?_ ?_
 ·
  refine Gh tk 5 [0] F W (ai fun a w F W => ?_)
  rcases Bool.eq_false_or_eq_true (decide (p0.1 ≠ (-1))) with hb0 | hb0
  ·
   rw [hb0] at F
   refine GY tk 4 [0] F W (ai fun a w F W => ?_)
   rcases Bool.eq_false_or_eq_true (decide (p0.1 < 0)) with hb1 | hb1
   ·
    rw [hb1] at F
    refine vl tk 6 F W fun a w F W => ?_
    refine Ad ?_
    exact ⟨F.re ⟨rfl, Aa, (F6 (by try rw [hb0]; try rw [hb1]; all_goals simp only [F7])), trivial⟩, W⟩
   rw [hb1] at F
   refine GY tk 6 [0] F W (ai fun a w F W => ?_)
   refine Ad ?_
   exact ⟨F.re ⟨rfl, Aa, (F6 (by try rw [hb0]; try rw [hb1]; all_goals simp only [F7])), trivial⟩, W⟩
  rw [hb0] at F
  refine vl tk 10 F W fun a w F W => ?_
  refine Ad ?_
  exact ⟨F.re ⟨rfl, Aa, (F6 (by try rw [hb0]; all_goals simp only [F7])), trivial⟩, W⟩
 rintro a w ⟨F, W⟩
 refine B8 F Aa H (fun F H => ?_) fun F H => ?_
 ·
  refine vc tk 5 F W fun a w F W => ?_
  refine Al (Ap ?_)
  have H := Aw H
  subst H
  refine Aq (.inl Aa) F W Aa (Ak F Aa) ?_
  exact ⟨rfl, W.done⟩
 refine AH (Ad ?_)
 obtain ⟨o1, G1, K1, L1⟩ := IZ H
 refine AC (fun a w => some (Sum.inl ()) = some o1 ∧ Fr 49 [] [(2, .bool false)] a ∧ Stw ⟨Y, [], w0⟩ (Ht b1 p0) [] w) ?_ ?_
 ·
  have H := G1
  clear G1 K1
  refine Gh tk 8 [0] F W (ai fun a w F W => ?_)
  refine BI H (fun s a w => Fr 49 [] [(1, .pointer (some ⟨b1, 0, none⟩)), (2, .bool false), (19, .agg #[.int .i64 p0.2.2.1, .int .i64 p0.2.2.2.1, .int .i64 p0.2.2.2.2.1, .int .i64 p0.2.2.2.2.2]), (20, .int .i64 s)] a ∧ Stw ⟨Y, [], w0⟩ (Ht b1 p0) [] w) ⟨F.ra Aa, W⟩ fun s o a w H L2 hR => ?_
  obtain ⟨x1, rfl⟩ : ∃ x, x = s := ⟨s, rfl⟩
  obtain ⟨F, W⟩ := hR
  have F : Fr 49 [] [(1, .pointer (some ⟨b1, 0, none⟩)), (2, .bool false), (19, .agg #[.int .i64 p0.2.2.1, .int .i64 p0.2.2.2.1, .int .i64 p0.2.2.2.2.1, .int .i64 p0.2.2.2.2.2]), (20, .int .i64 x1)] a := F
  have W : Stw ⟨Y, [], w0⟩ (Ht b1 p0) [] w := W
  rw [DZ] at H
  refine vc tk 6 F W fun a w F W => ?_
  refine Br F Aa H (fun F H => ?_) fun F H => ?_
  ·
   refine E8 tk 7 F W fun a w F W => ?_
   obtain ⟨x2, h1, H⟩ := Ah H
   refine ls F W Aa (MR (enc := Value.int .i64) (cs := [.int .i64 p0.2.2.1, .int .i64 p0.2.2.2.1, .int .i64 p0.2.2.2.2.1, .int .i64 p0.2.2.2.2.2]) E1 T3 F Aa Aa Aa Aa h1).q fun a w F W => ?_
   refine vl tk 3 F W fun a w F W => ?_
   refine Ad ?_
   obtain ⟨o3, G3, K3⟩ := Ah H
   refine AC (fun a w => ∃ x3 : Bool, some (x3) = some o3 ∧ Fr 49 [] [(1, .pointer (some ⟨b1, 0, none⟩)), (2, .bool false), (19, .agg #[.int .i64 p0.2.2.1, .int .i64 p0.2.2.2.1, .int .i64 p0.2.2.2.2.1, .int .i64 p0.2.2.2.2.2]), (20, .int .i64 x1), (47, .bool x3)] a ∧ Stw ⟨Y, [], w0⟩ (Ht b1 p0) [] w) ?_ ?_
   ·
    have H := G3
    clear G3 K3
    refine vc tk 4 F W fun a w F W => ?_
    rcases Bool.eq_false_or_eq_true (decide (x2 < 0)) with hb | hb
    ·
     have H := BW (Ci hb) H
     rw [hb] at F
     clear hb
     refine vl tk 22 F W fun a w F W => ?_
     refine Ad ?_
     exact ⟨_, H, F.ra Aa, W⟩
    have H := BX (Ch hb) H
    rw [hb] at F
    clear hb
    refine vl tk 2 F W fun a w F W => ?_
    refine Fg (Ag F Aa Aa Aa Aa) ?_
    obtain ⟨x4, h2, H⟩ := Ah H
    refine ls F W Aa (AU (v := Value.int .i64 x4) F Qw Aa (fun w W => EK any w x1 _ h2)) fun a w F W => ?_
    refine vl tk 3 F W fun a w F W => ?_
    rcases Bool.eq_false_or_eq_true (decide (x4 < x2)) with hb | hb
    ·
     have H := BW (Ci hb) H
     rw [hb] at F
     clear hb
     refine vl tk 16 F W fun a w F W => ?_
     refine Ad ?_
     exact ⟨_, H, F.ra Aa, W⟩
    have H := BX (Ch hb) H
    rw [hb] at F
    clear hb
    refine vl tk 2 F W fun a w F W => ?_
    obtain ⟨x5, h3, H⟩ := Ah H
    refine EC F W (Ag F Aa Aa Aa Aa) Aa (Ax Aa) (BM (1 + (x1).toNat * 1) E1 F Aa Aa Aa h3 Aa).q fun a w F W => ?_
    refine EC F W (Ag F Aa Aa Aa Aa) Aa (Ax Aa) (BR (v := Value.int .i64 x5) 0 F Aa Aa T3 (CP (base := 1) (m := 4) (l := [p0.2.1.1, p0.2.1.2.1, p0.2.1.2.2.1, p0.2.1.2.2.2]) (enc := Value.int .i64) Aa h3)).q fun a w F W => ?_
    refine vl tk 3 F W fun a w F W => ?_
    rcases Bool.eq_false_or_eq_true (decide (x5 < 0)) with hb | hb
    ·
     have H := BW (Ci hb) H
     rw [hb] at F
     clear hb
     refine vl tk 9 F W fun a w F W => ?_
     refine Ad ?_
     exact ⟨_, H, F.ra Aa, W⟩
    have H := BX (Ch hb) H
    rw [hb] at F
    clear hb
    refine vl tk 2 F W fun a w F W => ?_
    obtain ⟨x6, h4, H⟩ := Ah H
    refine EC F W (Ag F Aa Aa Aa Aa) Aa (Ax Aa) (BM (1 + (x1).toNat * 1) E1 F Aa Aa Aa h4 Aa).q fun a w F W => ?_
    refine EC F W (Ag F Aa Aa Aa Aa) Aa (Ax Aa) (BR (v := Value.int .i64 x6) 0 F Aa Aa T3 (CP (base := 1) (m := 4) (l := [p0.2.1.1, p0.2.1.2.1, p0.2.1.2.2.1, p0.2.1.2.2.2]) (enc := Value.int .i64) Aa h4)).q fun a w F W => ?_
    refine vl tk 5 F W fun a w F W => ?_
    refine Ad ?_
    exact ⟨_, H, F.ra Aa, W⟩
   rintro a w ⟨x3, hj, F, W⟩
   have hj := Aw hj
   subst hj
   have H := K3
   clear G3 K3
   refine B8 F Aa H (fun F H => ?_) fun F H => ?_
   ·
    refine vc tk 5 F W fun a w F W => ?_
    refine Al (Az ?_)
    iterate 2 refine Ap ?_
    refine Az (Ap ?_)
    have H := L2 _ H
    have H := L1 _ H
    have H := Aw H
    subst H
    refine Aq (.inl Aa) F W Aa (Ak F Aa) ?_
    exact ⟨rfl, W.done⟩
   refine AH (AV ?_)
   refine vn tk 4 F W fun a w F W => ?_
   refine Ad ?_
   exact ⟨_, H, F.ra Aa, W⟩
  refine Bz ?_
  iterate 2 refine B7 ?_
  refine BC (Ad ?_)
  have H := L2 _ H
  exact ⟨H, F.ra Aa, W⟩
 rintro a w ⟨hj, F, W⟩
 have H := K1 _ hj
 clear hj G1 K1 L1
 refine vc tk 5 F W fun a w F W => ?_
 refine Al ?_
 have H := Aw H
 subst H
 refine Aq (.inl Aa) F W Aa (Ak F Aa) ?_
 exact ⟨rfl, W.done⟩
theorem Se : Has Try.prog 63 := B3 Try.func63
noncomputable def FG (p0 : Int × Int × Int) (p1 : Int) : Option Bool := (if p0.1 = 1 then (if 0 ≤ p0.2.1 then (if p0.2.1 < 4 then (if 0 ≤ p0.2.2 then (CM p0.2.1).bind fun x2 => some (decide (p0.2.2 ≤ x2)) else some false) else some false) else some false).bind fun x1 => some x1 else (if p0.1 = 2 then some (decide (p0.2.1 = 0) && (decide (0 ≤ p0.2.2) && decide (p0.2.2 < p1))) else (if p0.1 = 3 then some (decide (p0.2.1 = 0) && decide (p0.2.2 = 0)) else some false)))
theorem Kj (Y : Nat → Prop) (w0 : World)  (p0 : Int × Int × Int) (p1 : Int) (r : Bool) (H : FG p0 p1 = some r)  :
    Calls Try.prog 80 #[.agg #[.int .i64 p0.1, .int .i64 p0.2.1, .int .i64 p0.2.2], .int .i64 p1] w0 fun e w' => e = .returned (.bool r) ∧ Below w0.heap.size w0 w' := by
 refine enter Try.func80 Aa Try.ntmps80 Aa fun a F => ?_
 have W := Stw.start Y w0
 unfold FG at H
 refine vc tk 2 F W fun a w F W => ?_
 refine B1 (cs := [.int .i64 p0.1, .int .i64 p0.2.1, .int .i64 p0.2.2]) F W Aa Aa Aa fun b1 a w F W => ?_
 refine EY tk 17 [0] F W (ai fun a w F W => ?_)
 refine Dm F Aa (fun hb => ?_) fun hb => ?_
 ·
  have H := BW (Ci hb) H
  rw [hb] at F
  clear hb
  obtain ⟨o1, G1, K1⟩ := Ah H
  refine AC (fun a w => ∃ x1 : Bool, some (x1) = some o1 ∧ Fr 56 [] [(4, .bool x1)] a ∧ Stw ⟨Y, [], w0⟩ (Mp b1 p0) [] w) ?_ ?_
  ·
   have H := G1
   clear G1 K1
   refine CV W MO (by kernel_rfl) ?_
   refine qs F Aa (An HR Aa Aa Aa T3 F Aa 1 Aa).q fun a F => ?_
   refine qs F Aa (BR (v := Value.int .i64 p0.2.1) 0 F Aa Aa T3 Aa).q fun a F => ?_
   refine qs F Aa (Jh F Aa Aa).q fun a F => ?_
   refine qs F Aa (Am F Aa).q fun a F => ?_
   rcases Bool.eq_false_or_eq_true (decide (0 ≤ p0.2.1)) with hb | hb
   ·
    have H := BW (Ci hb) H
    rw [hb] at F
    clear hb
    refine Bp F (Ag F Aa Aa Aa Aa) Aa (Ax Aa) (An HR Aa Aa Aa T3 F Aa 1 Aa).q fun a F => ?_
    refine Bp F (Ag F Aa Aa Aa Aa) Aa (Ax Aa) (BR (v := Value.int .i64 p0.2.1) 0 F Aa Aa T3 Aa).q fun a F => ?_
    refine Bp F (Ag F Aa Aa Aa Aa) Aa (Ax Aa) (Jd F Aa Aa).q fun a F => ?_
    refine qs F Aa (B0 F Aa Aa Aa).q fun a F => ?_
    refine qs F Aa (Am F Aa).q fun a F => ?_
    rcases Bool.eq_false_or_eq_true (decide (p0.2.1 < 4)) with hb | hb
    ·
     have H := BW (Ci hb) H
     rw [hb] at F
     clear hb
     refine Bp F (Ag F Aa Aa Aa Aa) Aa (Ax Aa) (An HR Aa Aa Aa T3 F Aa 2 Aa).q fun a F => ?_
     refine Bp F (Ag F Aa Aa Aa Aa) Aa (Ax Aa) (BR (v := Value.int .i64 p0.2.2) 0 F Aa Aa T3 Aa).q fun a F => ?_
     refine Bp F (Ag F Aa Aa Aa Aa) Aa (Ax Aa) (Jh F Aa Aa).q fun a F => ?_
     refine qs F Aa (B0 F Aa Aa Aa).q fun a F => ?_
     refine qs F Aa (Am F Aa).q fun a F => ?_
     rcases Bool.eq_false_or_eq_true (decide (0 ≤ p0.2.2)) with hb | hb
     ·
      have H := BW (Ci hb) H
      rw [hb] at F
      clear hb
      refine Bp F (Ag F Aa Aa Aa Aa) Aa (Ax Aa) (An HR Aa Aa Aa T3 F Aa 2 Aa).q fun a F => ?_
      refine Bp F (Ag F Aa Aa Aa Aa) Aa (Ax Aa) (BR (v := Value.int .i64 p0.2.2) 0 F Aa Aa T3 Aa).q fun a F => ?_
      refine Bp F (Ag F Aa Aa Aa Aa) Aa (Ax Aa) (An HR Aa Aa Aa T3 F Aa 1 Aa).q fun a F => ?_
      refine Bp F (Ag F Aa Aa Aa Aa) Aa (Ax Aa) (BR (v := Value.int .i64 p0.2.1) 0 F Aa Aa T3 Aa).q fun a F => ?_
      obtain ⟨x2, h1, H⟩ := Ah H
      refine Bp F (Ag F Aa Aa Aa Aa) Aa (Ax Aa) (AU (v := Value.int .i64 x2) F Qw Aa (fun w W => EK any w p0.2.1 _ h1)) fun a F => ?_
      refine Bp F (Ag F Aa Aa Aa Aa) Aa (Ax Aa) (LB F Aa Aa).q fun a F => ?_
      refine qs F Aa (B0 F Aa Aa Aa).q fun a F => ?_
      refine qs F Aa (BK F Aa).q fun a F => ?_
      refine AM fun w W => ?_
      refine Ad ?_
      exact ⟨_, H, F.ra Aa, W⟩
     have H := BX (Ch hb) H
     rw [hb] at F
     clear hb
     iterate 6 refine AL F (AA F Aa Aa Aa Aa Aa) Aa Aa fun a F => ?_
     refine qs F Aa (AQ F Aa Aa Aa).q fun a F => ?_
     refine qs F Aa (BK F Aa).q fun a F => ?_
     refine AM fun w W => ?_
     refine Ad ?_
     exact ⟨_, H, F.ra Aa, W⟩
    have H := BX (Ch hb) H
    rw [hb] at F
    clear hb
    iterate 3 refine AL F (AA F Aa Aa Aa Aa Aa) Aa Aa fun a F => ?_
    refine qs F Aa (AQ F Aa Aa Aa).q fun a F => ?_
    refine qs F Aa (Am F Aa).q fun a F => ?_
    iterate 6 refine AL F (AA F Aa Aa Aa Aa Aa) Aa Aa fun a F => ?_
    refine qs F Aa (AQ F Aa Aa Aa).q fun a F => ?_
    refine qs F Aa (BK F Aa).q fun a F => ?_
    refine AM fun w W => ?_
    refine Ad ?_
    exact ⟨_, H, F.ra Aa, W⟩
   have H := BX (Ch hb) H
   rw [hb] at F
   clear hb
   iterate 3 refine AL F (AA F Aa Aa Aa Aa Aa) Aa Aa fun a F => ?_
   refine qs F Aa (AQ F Aa Aa Aa).q fun a F => ?_
   refine qs F Aa (Am F Aa).q fun a F => ?_
   iterate 3 refine AL F (AA F Aa Aa Aa Aa Aa) Aa Aa fun a F => ?_
   refine qs F Aa (AQ F Aa Aa Aa).q fun a F => ?_
   refine qs F Aa (Am F Aa).q fun a F => ?_
   iterate 6 refine AL F (AA F Aa Aa Aa Aa Aa) Aa Aa fun a F => ?_
   refine qs F Aa (AQ F Aa Aa Aa).q fun a F => ?_
   refine qs F Aa (BK F Aa).q fun a F => ?_
   refine AM fun w W => ?_
   refine Ad ?_
   exact ⟨_, H, F.ra Aa, W⟩
  rintro a w ⟨x1, hj, F, W⟩
  have hj := Aw hj
  subst hj
  have H := K1
  clear G1 K1
  refine Al (Az (Ap ?_))
  have H := Aw H
  subst H
  refine Aq (.inl Aa) F W Aa (Ak F Aa) ?_
  exact ⟨rfl, W.done⟩
 have H := BX (Ch hb) H
 rw [hb] at F
 clear hb
 refine vc tk 6 F W fun a w F W => ?_
 refine Dm F Aa (fun hb => ?_) fun hb => ?_
 ·
  have H := BW (Ci hb) H
  rw [hb] at F
  clear hb
  refine AC (fun a w => Fr 56 [] [(4, .bool (decide (p0.2.1 = 0) && (decide (0 ≤ p0.2.2) && decide (p0.2.2 < p1))))] a ∧ Stw ⟨Y, [], w0⟩ (Mp b1 p0) [] w) ?_ ?_
  ·
   refine Gh tk 5 [0] F W (ai fun a w F W => ?_)
   rcases Bool.eq_false_or_eq_true (decide (p0.2.1 = 0)) with hb0 | hb0
   ·
    rw [hb0] at F
    refine GY tk 5 [0] F W (ai fun a w F W => ?_)
    rcases Bool.eq_false_or_eq_true (decide (0 ≤ p0.2.2)) with hb1 | hb1
    ·
     rw [hb1] at F
     refine GY tk 7 [0] F W (ai fun a w F W => ?_)
     refine Ad ?_
     exact ⟨F.re ⟨(F6 (by try rw [hb0]; try rw [hb1]; all_goals simp only [F7])), trivial⟩, W⟩
    rw [hb1] at F
    refine vl tk 7 F W fun a w F W => ?_
    refine Ad ?_
    exact ⟨F.re ⟨(F6 (by try rw [hb0]; try rw [hb1]; all_goals simp only [F7])), trivial⟩, W⟩
   rw [hb0] at F
   refine vl tk 12 F W fun a w F W => ?_
   refine Ad ?_
   exact ⟨F.re ⟨(F6 (by try rw [hb0]; all_goals simp only [F7])), trivial⟩, W⟩
  rintro a w ⟨F, W⟩
  refine Al (Az (Ap ?_))
  have H := Aw H
  subst H
  refine Aq (.inl Aa) F W Aa (Ak F Aa) ?_
  exact ⟨rfl, W.done⟩
 have H := BX (Ch hb) H
 rw [hb] at F
 clear hb
 refine vc tk 6 F W fun a w F W => ?_
 refine Dm F Aa (fun hb => ?_) fun hb => ?_
 ·
  have H := BW (Ci hb) H
  rw [hb] at F
  clear hb
  refine AC (fun a w => Fr 56 [] [(4, .bool (decide (p0.2.1 = 0) && decide (p0.2.2 = 0)))] a ∧ Stw ⟨Y, [], w0⟩ (Mp b1 p0) [] w) ?_ ?_
  ·
   refine Gh tk 5 [0] F W (ai fun a w F W => ?_)
   rcases Bool.eq_false_or_eq_true (decide (p0.2.1 = 0)) with hb0 | hb0
   ·
    rw [hb0] at F
    refine GY tk 6 [0] F W (ai fun a w F W => ?_)
    refine Ad ?_
    exact ⟨F.re ⟨(F6 (by try rw [hb0]; all_goals simp only [F7])), trivial⟩, W⟩
   rw [hb0] at F
   refine vl tk 6 F W fun a w F W => ?_
   refine Ad ?_
   exact ⟨F.re ⟨(F6 (by try rw [hb0]; all_goals simp only [F7])), trivial⟩, W⟩
  rintro a w ⟨F, W⟩
  refine Al (Az (Ap ?_))
  have H := Aw H
  subst H
  refine Aq (.inl Aa) F W Aa (Ak F Aa) ?_
  exact ⟨rfl, W.done⟩
 have H := BX (Ch hb) H
 rw [hb] at F
 clear hb
 refine AH (AV ?_)
 refine vn tk 5 F W fun a w F W => ?_
 refine Al ?_
 have H := Aw H
 subst H
 refine Aq (.inl Aa) F W Aa (Ak F Aa) ?_
 exact ⟨rfl, W.done⟩
theorem Sf : Has Try.prog 80 := B3 Try.func80
noncomputable def EE (p0 : List (Int × Int × Int)) (p1 : Int) : Int → Option (Int ⊕ (Unit ⊕ Bool))
  | x1 => (if x1 < (p0.length : Int) then (ix p0 x1).bind fun x2 => (FG x2 p1).bind fun x3 => (if (!x3) = true then some (.inr (.inr false)) else some (.inl (Cs (x1 + 1)))) else some (.inr (.inl ())))
noncomputable def Fx (p0 : List (Int × Int × Int)) (p1 : Int) : Option Bool := (if 16 < (p0.length : Int) then some false else Fu (AJ (EE p0 p1) 0) fun _ => some true)
theorem Kk (Y : Nat → Prop) (w0 : World) (v1 : Value) (p0 : List (Int × Int × Int)) (p1 : Int) (r : Bool) (H : Fx p0 p1 = some r) (h_v1 : Sl w0 (NX []) Bl v1 p0) :
    Calls Try.prog 64 #[v1, .int .i64 p1] w0 fun e w' => e = .returned (.bool r) ∧ Below w0.heap.size w0 w' := by
 refine enter Try.func64 Aa Try.ntmps64 Aa fun a F => ?_
 have W := Stw.start Y w0
 unfold Fx at H
 refine vc tk 9 F W fun a w F W => ?_
 refine ls F W Aa (BQ (r := Bl) (l := p0) HC Aa F Aa (Aj h_v1)).q fun a w F W => ?_
 refine BV tk 3 F W fun a w F W => ?_
 refine Br F Aa H (fun F H => ?_) fun F H => ?_
 ·
  refine vc tk 5 F W fun a w F W => ?_
  refine Al (Ap ?_)
  have H := Aw H
  subst H
  refine Aq (.inl Aa) F W Aa (Ak F Aa) ?_
  exact ⟨rfl, W.done⟩
 refine AH (Ad ?_)
 obtain ⟨o1, G1, K1, L1⟩ := IZ H
 refine AC (fun a w => some (Sum.inl ()) = some o1 ∧ Fr 21 [] [(4, .bool false)] a ∧ Stw ⟨Y, [], w0⟩ [] [] w) ?_ ?_
 ·
  have H := G1
  clear G1 K1
  refine vc tk 3 F W fun a w F W => ?_
  refine ls F W Aa (BQ (r := Bl) (l := p0) HC Aa F Aa (Aj h_v1)).q fun a w F W => ?_
  refine BV tk 4 F W fun a w F W => ?_
  refine BI H (fun s a w => Fr 21 [] [(1, .int .i64 p1), (4, .bool false), (10, v1), (11, .int .i64 (p0.length : Int)), (12, .int .i64 s)] a ∧ Stw ⟨Y, [], w0⟩ [] [] w) ⟨F.ra Aa, W⟩ fun s o a w H L2 hR => ?_
  obtain ⟨x1, rfl⟩ : ∃ x, x = s := ⟨s, rfl⟩
  obtain ⟨F, W⟩ := hR
  have F : Fr 21 [] [(1, .int .i64 p1), (4, .bool false), (10, v1), (11, .int .i64 (p0.length : Int)), (12, .int .i64 x1)] a := F
  have W : Stw ⟨Y, [], w0⟩ [] [] w := W
  rw [EE] at H
  refine vc tk 6 F W fun a w F W => ?_
  refine Br F Aa H (fun F H => ?_) fun F H => ?_
  ·
   refine E8 tk 6 F W fun a w F W => ?_
   obtain ⟨x2, h1, H⟩ := Ah H
   refine ls F W Aa (A8 (r := Bl) Oe F Aa Aa (Aj h_v1) h1).q fun a w F W => ?_
   refine ls F W Aa (AE (y := Value.agg #[.int .i64 x2.1, .int .i64 x2.2.1, .int .i64 x2.2.2]) (j := 0) (i := x1) F Aa Aa (Aj h_v1) h1 OE.to O2 Aa).q fun a w F W => ?_
   refine Cn (cs := [.int .i64 0, .int .i64 0, .int .i64 0]) F W Aa QQ Aa fun b1 a w F W => ?_
   refine EJ 0 F W Aa Aa Aa O2 Aa Aa Aa fun w W => ?_
   refine EY tk 6 [0] F W (ai fun a w F W => ?_)
   obtain ⟨x3, h2, H⟩ := Ah H
   refine ls F W Aa (AU (v := Value.bool x3) F Sf Aa (fun w W => Kj any w x2 p1 _ h2)) fun a w F W => ?_
   refine BV tk 3 F W fun a w F W => ?_
   refine B8 F Aa H (fun F H => ?_) fun F H => ?_
   ·
    refine vc tk 5 F W fun a w F W => ?_
    refine Al (Az ?_)
    iterate 2 refine Ap ?_
    refine Az (Ap ?_)
    have H := L2 _ H
    have H := L1 _ H
    have H := Aw H
    subst H
    refine Aq (.inl Aa) F W Aa (Ak F Aa) ?_
    exact ⟨rfl, W.done⟩
   refine AH (AV ?_)
   refine vn tk 4 F W fun a w F W => ?_
   refine Ad ?_
   have W := W.sub (M' := []) (Z' := []) (List.nil_sublist _) (List.Sublist.refl _)
   exact ⟨_, H, F.ra Aa, W⟩
  refine Bz ?_
  iterate 2 refine B7 ?_
  refine BC (Ad ?_)
  have H := L2 _ H
  exact ⟨H, F.ra Aa, W⟩
 rintro a w ⟨hj, F, W⟩
 have H := K1 _ hj
 clear hj G1 K1 L1
 refine vc tk 5 F W fun a w F W => ?_
 refine Al ?_
 have H := Aw H
 subst H
 refine Aq (.inl Aa) F W Aa (Ak F Aa) ?_
 exact ⟨rfl, W.done⟩
theorem RP : Has Try.prog 64 := B3 Try.func64
noncomputable def EU (p0 : Int × (Int × (Int × Int × Int × Int) × (Int × Int × Int × Int)) × (List (Int × Int × Int))) (p1 : Int) : Option Bool := (if 0 ≤ p0.1 then (if p0.1 < 65536 then (Es p0.2.1).bind fun x2 => (if x2 = true then (Fx p0.2.2 p1).bind fun x3 => some x3 else some false) else some false) else some false).bind fun x1 => some x1
theorem JO (Y : Nat → Prop) (w0 : World) (v1 : Value) (p0 : Int × (Int × (Int × Int × Int × Int) × (Int × Int × Int × Int)) × (List (Int × Int × Int))) (p1 : Int) (r : Bool) (H : EU p0 p1 = some r) (h_v1 : Sl w0 (NX []) Bl v1 p0.2.2) :
    Calls Try.prog 47 #[.agg #[.int .i64 p0.1, .int .i64 p0.2.1.1, .int .i64 p0.2.1.2.1.1, .int .i64 p0.2.1.2.1.2.1, .int .i64 p0.2.1.2.1.2.2.1, .int .i64 p0.2.1.2.1.2.2.2, .int .i64 p0.2.1.2.2.1, .int .i64 p0.2.1.2.2.2.1, .int .i64 p0.2.1.2.2.2.2.1, .int .i64 p0.2.1.2.2.2.2.2, v1], .int .i64 p1] w0 fun e w' => e = .returned (.bool r) ∧ Below w0.heap.size w0 w' := by
 refine enter Try.func47 Aa Try.ntmps47 Aa fun a F => ?_
 have W := Stw.start Y w0
 unfold EU at H
 refine vc tk 2 F W fun a w F W => ?_
 refine B1 (cs := (Ed p0 v1)) F W Aa Aa Aa fun b1 a w F W => ?_
 refine vl tk 2 F W fun a w F W => ?_
 refine Ad ?_
 obtain ⟨o1, G1, K1⟩ := Ah H
 refine AC (fun a w => ∃ x1 : Bool, some (x1) = some o1 ∧ Fr 24 [] [(4, .bool x1)] a ∧ Stw ⟨Y, [], w0⟩ (He b1 p0 v1) [] w) ?_ ?_
 ·
  have H := G1
  clear G1 K1
  refine Gh tk 5 [0] F W (ai fun a w F W => ?_)
  rcases Bool.eq_false_or_eq_true (decide (0 ≤ p0.1)) with hb | hb
  ·
   have H := BW (Ci hb) H
   rw [hb] at F
   clear hb
   refine GY tk 5 [0] F W (ai fun a w F W => ?_)
   rcases Bool.eq_false_or_eq_true (decide (p0.1 < 65536)) with hb | hb
   ·
    have H := BW (Ci hb) H
    rw [hb] at F
    clear hb
    refine GY tk 2 [0] F W (ai fun a w F W => ?_)
    refine Fg (Ag F Aa Aa Aa Aa) ?_
    obtain ⟨x2, h1, H⟩ := Ah H
    refine ls F W Aa (AU (v := Value.bool x2) F Se Aa (fun w W => IW any w p0.2.1 _ h1)) fun a w F W => ?_
    refine vl tk 2 F W fun a w F W => ?_
    rcases Bool.eq_false_or_eq_true x2 with hb | hb
    ·
     have H := BW hb H
     rw [hb] at F
     clear hb
     refine GY tk 3 [0] F W (ai fun a w F W => ?_)
     refine Fg (Ag F Aa Aa Aa Aa) ?_
     obtain ⟨x3, h2, H⟩ := Ah H
     refine ls F W Aa (AU (v := Value.bool x3) F RP Aa (fun w W => Kk any w (v1) p0.2.2 p1 _ h2 (CY (Aj h_v1) W))) fun a w F W => ?_
     refine vl tk 3 F W fun a w F W => ?_
     refine Ad ?_
     exact ⟨_, H, F.ra Aa, W⟩
    have H := BX (by rw [hb]; decide) H
    rw [hb] at F
    clear hb
    refine vl tk 7 F W fun a w F W => ?_
    refine Ad ?_
    exact ⟨_, H, F.ra Aa, W⟩
   have H := BX (Ch hb) H
   rw [hb] at F
   clear hb
   refine vl tk 12 F W fun a w F W => ?_
   refine Ad ?_
   exact ⟨_, H, F.ra Aa, W⟩
  have H := BX (Ch hb) H
  rw [hb] at F
  clear hb
  refine vl tk 17 F W fun a w F W => ?_
  refine Ad ?_
  exact ⟨_, H, F.ra Aa, W⟩
 rintro a w ⟨x1, hj, F, W⟩
 have hj := Aw hj
 subst hj
 have H := K1
 clear G1 K1
 refine Al ?_
 have H := Aw H
 subst H
 refine Aq (.inl Aa) F W Aa (Ak F Aa) ?_
 exact ⟨rfl, W.done⟩
theorem RY : Has Try.prog 47 := B3 Try.func47
abbrev OM (a0 : Int) (a1 : Int × (Int × Int × Int × Int) × (Int × Int × Int × Int)) : List Value := [.int .i64 a0, .int .i64 a1.2.1.1, .int .i64 a1.2.1.2.1, .int .i64 a1.2.1.2.2.1, .int .i64 a1.2.1.2.2.2, .int .i64 a1.2.2.1, .int .i64 a1.2.2.2.1, .int .i64 a1.2.2.2.2.1, .int .i64 a1.2.2.2.2.2]
abbrev MC (a0 : Int) (a1 : Int) (a2 : Int) (a3 : Int) (a4 : Int) (a5 : Int) (a6 : Int) (a7 : Int) (a8 : Int) : List Value := [.int .i64 a0, .int .i64 a1, .int .i64 a2, .int .i64 a3, .int .i64 a4, .int .i64 a5, .int .i64 a6, .int .i64 a7, .int .i64 a8]
noncomputable def Dc (p1 : Int × (Int × Int × Int × Int) × (Int × Int × Int × Int)) : (Int × Int × Int × Int × Int × Int × Int × Int × Int) → Option ((Int × Int × Int × Int × Int × Int × Int × Int × Int) ⊕ ((Int × Int × Int × Int × Int × Int × Int × Int) ⊕ ((Int × (Int × Int × Int × Int) × (Int × Int × Int × Int)) × Bool)))
  | (x10, x11, x12, x13, x14, x15, x16, x17, x18) => (if x10 < 4 then (ix ([x11, x12, x13, x14] : List Int) x10).bind fun x19 => (ix ([p1.2.1.1, p1.2.1.2.1, p1.2.1.2.2.1, p1.2.1.2.2.2] : List Int) x10).bind fun x20 => (ix ([x15, x16, x17, x18] : List Int) x10).bind fun x21 => (ix ([p1.2.2.1, p1.2.2.2.1, p1.2.2.2.2.1, p1.2.2.2.2.2] : List Int) x10).bind fun x22 => (if (IX .i64 (IX .i64 (KJ .i64 x19 x20) x21) x22) ≠ 0 then some (.inr (.inr ((0, (0, 0, 0, 0), (0, 0, 0, 0)), false))) else (ix ([x11, x12, x13, x14] : List Int) x10).bind fun x23 => (ix ([p1.2.1.1, p1.2.1.2.1, p1.2.1.2.2.1, p1.2.1.2.2.2] : List Int) x10).bind fun x24 => (ix ([x11, x12, x13, x14] : List Int) x10).bind fun x25 => (ix ([x15, x16, x17, x18] : List Int) x10).bind fun x26 => (ix ([p1.2.2.1, p1.2.2.2.1, p1.2.2.2.2.1, p1.2.2.2.2.2] : List Int) x10).bind fun x27 => (ix ([x15, x16, x17, x18] : List Int) x10).bind fun x28 => some (.inl (Cs (x10 + 1), (if x10 = 0 then FI .i64 x23 x24 else x11), (if x10 = 1 then FI .i64 x23 x24 else x12), (if x10 = 2 then FI .i64 x23 x24 else x13), (if x10 = 3 then FI .i64 x23 x24 else x14), (if x10 = 0 then FI .i64 x26 x27 else x15), (if x10 = 1 then FI .i64 x26 x27 else x16), (if x10 = 2 then FI .i64 x26 x27 else x17), (if x10 = 3 then FI .i64 x26 x27 else x18)))) else some (.inr (.inl (x11, x12, x13, x14, x15, x16, x17, x18))))
noncomputable def D8 (p0 : Int × (Int × Int × Int × Int) × (Int × Int × Int × Int)) (p1 : Int × (Int × Int × Int × Int) × (Int × Int × Int × Int)) : Option ((Int × (Int × Int × Int × Int) × (Int × Int × Int × Int)) × Bool) := (if p0.1 = (-1) then some p1.1 else some p0.1).bind fun x1 => (if (decide (p1.1 ≠ (-1)) && decide (x1 ≠ p1.1)) = true then some ((0, (0, 0, 0, 0), (0, 0, 0, 0)), false) else Fu (AJ (Dc p1) (0, p0.2.1.1, p0.2.1.2.1, p0.2.1.2.2.1, p0.2.1.2.2.2, p0.2.2.1, p0.2.2.2.1, p0.2.2.2.2.1, p0.2.2.2.2.2)) fun (x2, x3, x4, x5, x6, x7, x8, x9) => some ((x1, (x2, x3, x4, x5), (x6, x7, x8, x9)), true))
theorem Hf (Y : Nat → Prop) (w0 : World)  (p0 : Int × (Int × Int × Int × Int) × (Int × Int × Int × Int)) (p1 : Int × (Int × Int × Int × Int) × (Int × Int × Int × Int)) (r : (Int × (Int × Int × Int × Int) × (Int × Int × Int × Int)) × Bool) (H : D8 p0 p1 = some r)  :
    Calls Try.prog 81 #[.agg #[.int .i64 p0.1, .int .i64 p0.2.1.1, .int .i64 p0.2.1.2.1, .int .i64 p0.2.1.2.2.1, .int .i64 p0.2.1.2.2.2, .int .i64 p0.2.2.1, .int .i64 p0.2.2.2.1, .int .i64 p0.2.2.2.2.1, .int .i64 p0.2.2.2.2.2], .agg #[.int .i64 p1.1, .int .i64 p1.2.1.1, .int .i64 p1.2.1.2.1, .int .i64 p1.2.1.2.2.1, .int .i64 p1.2.1.2.2.2, .int .i64 p1.2.2.1, .int .i64 p1.2.2.2.1, .int .i64 p1.2.2.2.2.1, .int .i64 p1.2.2.2.2.2]] w0 fun e w' => e = .returned (.tuple #[.agg #[.int .i64 r.1.1, .int .i64 r.1.2.1.1, .int .i64 r.1.2.1.2.1, .int .i64 r.1.2.1.2.2.1, .int .i64 r.1.2.1.2.2.2, .int .i64 r.1.2.2.1, .int .i64 r.1.2.2.2.1, .int .i64 r.1.2.2.2.2.1, .int .i64 r.1.2.2.2.2.2], .bool r.2]) ∧ Below w0.heap.size w0 w' := by
 refine enter Try.func81 Aa Try.ntmps81 Aa fun a F => ?_
 have W := Stw.start Y w0
 unfold D8 at H
 refine vc tk 2 F W fun a w F W => ?_
 refine B1 (cs := (NB p0)) F W Aa Aa Aa fun b1 a w F W => ?_
 refine B1 (cs := [.int .i64 p1.1, .int .i64 p1.2.1.1, .int .i64 p1.2.1.2.1, .int .i64 p1.2.1.2.2.1, .int .i64 p1.2.1.2.2.2, .int .i64 p1.2.2.1, .int .i64 p1.2.2.2.1, .int .i64 p1.2.2.2.2.1, .int .i64 p1.2.2.2.2.2]) F W Aa Aa Aa fun b2 a w F W => ?_
 refine Cn (cs := (GM)) F W Aa PH Aa fun b3 a w F W => ?_
 refine vl tk 2 F W fun a w F W => ?_
 refine Ad ?_
 obtain ⟨o1, G1, K1⟩ := Ah H
 refine AC (fun a w => ∃ x1 : Int, some (x1) = some o1 ∧ Fr 72 [] [(2, .pointer (some ⟨b1, 0, none⟩)), (3, .pointer (some ⟨b2, 0, none⟩)), (4, .pointer (some ⟨b3, 0, none⟩)), (5, .bool false)] a ∧ Stw ⟨Y, [], w0⟩ [(b3, (GM)), (b2, [.int .i64 p1.1, .int .i64 p1.2.1.1, .int .i64 p1.2.1.2.1, .int .i64 p1.2.1.2.2.1, .int .i64 p1.2.1.2.2.2, .int .i64 p1.2.2.1, .int .i64 p1.2.2.2.1, .int .i64 p1.2.2.2.2.1, .int .i64 p1.2.2.2.2.2]), (b1, (OM x1 p0))] [] w) ?_ ?_
 ·
  have H := G1
  clear G1 K1
  refine Gh tk 7 [2] F W (ai fun a w F W => ?_)
  refine Br F Aa H (fun F H => ?_) fun F H => ?_
  ·
   refine Gh tk 4 [1] F W (ai fun a w F W => ?_)
   refine EJ 2 F W Aa Aa Aa T3 Aa Aa Aa fun w W => ?_
   refine Ft (Ad ?_)
   have W := W.frontM (i := 2) Aa Aa
   have W := W.frontM (i := 2) Aa Aa
   have W := W.frontM (i := 2) Aa Aa
   exact ⟨_, H, F.ra Aa, W⟩
  refine AH (Ad ?_)
  have W := W.frontM (i := 2) Aa Aa
  have W := W.frontM (i := 2) Aa Aa
  have W := W.frontM (i := 2) Aa Aa
  exact ⟨_, H, F.ra Aa, W⟩
 rintro a w ⟨x1, hj, F, W⟩
 have hj := Aw hj
 subst hj
 have H := K1
 clear G1 K1
 refine HJ ?_
 refine AC (fun a w => Fr 72 [] [(2, .pointer (some ⟨b1, 0, none⟩)), (3, .pointer (some ⟨b2, 0, none⟩)), (4, .pointer (some ⟨b3, 0, none⟩)), (5, .bool false), (22, .bool (decide (p1.1 ≠ (-1)) && decide (x1 ≠ p1.1)))] a ∧ Stw ⟨Y, [], w0⟩ [(b3, (GM)), (b2, [.int .i64 p1.1, .int .i64 p1.2.1.1, .int .i64 p1.2.1.2.1, .int .i64 p1.2.1.2.2.1, .int .i64 p1.2.1.2.2.2, .int .i64 p1.2.2.1, .int .i64 p1.2.2.2.1, .int .i64 p1.2.2.2.2.1, .int .i64 p1.2.2.2.2.2]), (b1, (OM x1 p0))] [] w) ?_ ?_
 ·
  refine Gh tk 5 [1] F W (ai fun a w F W => ?_)
  rcases Bool.eq_false_or_eq_true (decide (p1.1 ≠ (-1))) with hb0 | hb0
  ·
   rw [hb0] at F
   refine GY tk 7 [2, 1] F W (ai (ai fun a w F W => ?_))
   refine Ad ?_
   exact ⟨F.re ⟨rfl, Aa, Aa, Aa, (F6 (by try rw [hb0]; all_goals simp only [F7])), trivial⟩, W⟩
  rw [hb0] at F
  refine vl tk 7 F W fun a w F W => ?_
  refine Ad ?_
  exact ⟨F.re ⟨rfl, Aa, Aa, Aa, (F6 (by try rw [hb0]; all_goals simp only [F7])), trivial⟩, W⟩
 rintro a w ⟨F, W⟩
 refine B8 F Aa H (fun F H => ?_) fun F H => ?_
 ·
  refine vc tk 2 F W fun a w F W => ?_
  refine ls F W Aa (Eg (v := Value.agg #[.int .i64 0, .int .i64 0, .int .i64 0, .int .i64 0, .int .i64 0, .int .i64 0, .int .i64 0, .int .i64 0, .int .i64 0]) QD F Aa Aa Aa).q fun a w F W => ?_
  refine EJ 0 F W Aa Aa Aa KD Aa Aa Aa fun w W => ?_
  refine BV tk 3 F W fun a w F W => ?_
  refine Al (Ap ?_)
  have H := Aw H
  subst H
  refine DN (.inl Aa) F W Aa (EG 0 F Aa Aa KD Aa) (Ak F Aa) ?_
  exact ⟨rfl, W.done⟩
 refine AH (Ad ?_)
 obtain ⟨o2, G2, K2, L2⟩ := IZ H
 refine AC (fun a w => ∃ x2 : Int, ∃ x3 : Int, ∃ x4 : Int, ∃ x5 : Int, ∃ x6 : Int, ∃ x7 : Int, ∃ x8 : Int, ∃ x9 : Int, some (Sum.inl (x2, x3, x4, x5, x6, x7, x8, x9)) = some o2 ∧ Fr 72 [] [(2, .pointer (some ⟨b1, 0, none⟩)), (4, .pointer (some ⟨b3, 0, none⟩)), (5, .bool false)] a ∧ Stw ⟨Y, [], w0⟩ [(b3, (GM)), (b2, [.int .i64 p1.1, .int .i64 p1.2.1.1, .int .i64 p1.2.1.2.1, .int .i64 p1.2.1.2.2.1, .int .i64 p1.2.1.2.2.2, .int .i64 p1.2.2.1, .int .i64 p1.2.2.2.1, .int .i64 p1.2.2.2.2.1, .int .i64 p1.2.2.2.2.2]), (b1, (MC x1 x2 x3 x4 x5 x6 x7 x8 x9))] [] w) ?_ ?_
 ·
  have H := G2
  clear G2 K2
  refine vc tk 6 F W fun a w F W => ?_
  have W := W.frontM (i := 2) Aa Aa
  have W := W.frontM (i := 2) Aa Aa
  have W := W.frontM (i := 2) Aa Aa
  refine BI H (fun s a w => Fr 72 [] [(2, .pointer (some ⟨b1, 0, none⟩)), (3, .pointer (some ⟨b2, 0, none⟩)), (4, .pointer (some ⟨b3, 0, none⟩)), (5, .bool false), (24, .int .i64 s.1)] a ∧ Stw ⟨Y, [], w0⟩ [(b3, (GM)), (b2, [.int .i64 p1.1, .int .i64 p1.2.1.1, .int .i64 p1.2.1.2.1, .int .i64 p1.2.1.2.2.1, .int .i64 p1.2.1.2.2.2, .int .i64 p1.2.2.1, .int .i64 p1.2.2.2.1, .int .i64 p1.2.2.2.2.1, .int .i64 p1.2.2.2.2.2]), (b1, [.int .i64 x1, .int .i64 s.2.1, .int .i64 s.2.2.1, .int .i64 s.2.2.2.1, .int .i64 s.2.2.2.2.1, .int .i64 s.2.2.2.2.2.1, .int .i64 s.2.2.2.2.2.2.1, .int .i64 s.2.2.2.2.2.2.2.1, .int .i64 s.2.2.2.2.2.2.2.2])] [] w) ⟨F.ra Aa, W⟩ fun s o a w H L3 hR => ?_
  obtain ⟨x10, x11, x12, x13, x14, x15, x16, x17, x18⟩ := s
  obtain ⟨F, W⟩ := hR
  have F : Fr 72 [] [(2, .pointer (some ⟨b1, 0, none⟩)), (3, .pointer (some ⟨b2, 0, none⟩)), (4, .pointer (some ⟨b3, 0, none⟩)), (5, .bool false), (24, .int .i64 x10)] a := F
  have W : Stw ⟨Y, [], w0⟩ [(b3, (GM)), (b2, [.int .i64 p1.1, .int .i64 p1.2.1.1, .int .i64 p1.2.1.2.1, .int .i64 p1.2.1.2.2.1, .int .i64 p1.2.1.2.2.2, .int .i64 p1.2.2.1, .int .i64 p1.2.2.2.1, .int .i64 p1.2.2.2.2.1, .int .i64 p1.2.2.2.2.2]), (b1, (MC x1 x11 x12 x13 x14 x15 x16 x17 x18))] [] w := W
  rw [Dc] at H
  refine vc tk 6 F W fun a w F W => ?_
  refine Br F Aa H (fun F H => ?_) fun F H => ?_
  ·
   refine E8 tk 12 F W fun a w F W => ?_
   refine CV W MO (by kernel_rfl) ?_
   refine qs F Aa (Am F Aa).q fun a F => ?_
   refine qs F Aa (An FB Aa Aa Aa Jn F Aa 1 Aa).q fun a F => ?_
   obtain ⟨x19, h1, H⟩ := Ah H
   refine qs F Aa (BM (1 + (x10).toNat * 1) E1 F Aa Aa Aa h1 Aa).q fun a F => ?_
   refine qs F Aa (BR (v := Value.int .i64 x19) 2 F Aa Aa T3 (CP (base := 1) (m := 4) (l := [x11, x12, x13, x14]) (enc := Value.int .i64) Aa h1)).q fun a F => ?_
   refine qs F Aa (Am F Aa).q fun a F => ?_
   refine qs F Aa (An FB Aa Aa Aa Jn F Aa 1 Aa).q fun a F => ?_
   obtain ⟨x20, h2, H⟩ := Ah H
   refine qs F Aa (BM (1 + (x10).toNat * 1) E1 F Aa Aa Aa h2 Aa).q fun a F => ?_
   refine qs F Aa (BR (v := Value.int .i64 x20) 1 F Aa Aa T3 (CP (base := 1) (m := 4) (l := [p1.2.1.1, p1.2.1.2.1, p1.2.1.2.2.1, p1.2.1.2.2.2]) (enc := Value.int .i64) Aa h2)).q fun a F => ?_
   refine qs F Aa (OW F Aa Aa).q fun a F => ?_
   refine qs F Aa (Am F Aa).q fun a F => ?_
   refine qs F Aa (An FB Aa Aa Aa Jn F Aa 5 Aa).q fun a F => ?_
   obtain ⟨x21, h3, H⟩ := Ah H
   refine qs F Aa (BM (5 + (x10).toNat * 1) E1 F Aa Aa Aa h3 Aa).q fun a F => ?_
   refine qs F Aa (BR (v := Value.int .i64 x21) 2 F Aa Aa T3 (CP (base := 5) (m := 4) (l := [x15, x16, x17, x18]) (enc := Value.int .i64) Aa h3)).q fun a F => ?_
   refine qs F Aa (MS F Aa Aa).q fun a F => ?_
   refine qs F Aa (Am F Aa).q fun a F => ?_
   refine qs F Aa (An FB Aa Aa Aa Jn F Aa 5 Aa).q fun a F => ?_
   obtain ⟨x22, h4, H⟩ := Ah H
   refine qs F Aa (BM (5 + (x10).toNat * 1) E1 F Aa Aa Aa h4 Aa).q fun a F => ?_
   refine qs F Aa (BR (v := Value.int .i64 x22) 1 F Aa Aa T3 (CP (base := 5) (m := 4) (l := [p1.2.2.1, p1.2.2.2.1, p1.2.2.2.2.1, p1.2.2.2.2.2]) (enc := Value.int .i64) Aa h4)).q fun a F => ?_
   refine qs F Aa (MS F Aa Aa).q fun a F => ?_
   refine qs F Aa (OO F Aa Aa).q fun a F => ?_
   refine AM fun w W => ?_
   refine Ad ?_
   refine Br F Aa H (fun F H => ?_) fun F H => ?_
   ·
    refine vc tk 2 F W fun a w F W => ?_
    refine ls F W Aa (Eg (v := Value.agg #[.int .i64 0, .int .i64 0, .int .i64 0, .int .i64 0, .int .i64 0, .int .i64 0, .int .i64 0, .int .i64 0, .int .i64 0]) QD F Aa Aa Aa).q fun a w F W => ?_
    refine EJ 0 F W Aa Aa Aa KD Aa Aa Aa fun w W => ?_
    refine BV tk 3 F W fun a w F W => ?_
    refine Al (Ap (Az ?_))
    iterate 2 refine Ap ?_
    refine Az (Ap ?_)
    have H := L3 _ H
    have H := L2 _ H
    have H := Aw H
    subst H
    refine DN (.inl Aa) F W Aa (EG 0 F Aa Aa KD Aa) (Ak F Aa) ?_
    exact ⟨rfl, W.done⟩
   refine E8 tk 3 F W fun a w F W => ?_
   refine Gn 11 W MO (by kernel_rfl) ?_
   refine qs F Aa (Am F Aa).q fun a F => ?_
   refine qs F Aa (An FB Aa Aa Aa Jn F Aa 1 Aa).q fun a F => ?_
   obtain ⟨x23, h5, H⟩ := Ah H
   refine qs F Aa (BM (1 + (x10).toNat * 1) E1 F Aa Aa Aa h5 Aa).q fun a F => ?_
   refine qs F Aa (BR (v := Value.int .i64 x23) 2 F Aa Aa T3 (CP (base := 1) (m := 4) (l := [x11, x12, x13, x14]) (enc := Value.int .i64) Aa h5)).q fun a F => ?_
   refine qs F Aa (Am F Aa).q fun a F => ?_
   refine qs F Aa (An FB Aa Aa Aa Jn F Aa 1 Aa).q fun a F => ?_
   obtain ⟨x24, h6, H⟩ := Ah H
   refine qs F Aa (BM (1 + (x10).toNat * 1) E1 F Aa Aa Aa h6 Aa).q fun a F => ?_
   refine qs F Aa (BR (v := Value.int .i64 x24) 1 F Aa Aa T3 (CP (base := 1) (m := 4) (l := [p1.2.1.1, p1.2.1.2.1, p1.2.1.2.2.1, p1.2.1.2.2.2]) (enc := Value.int .i64) Aa h6)).q fun a F => ?_
   refine qs F Aa (Px F Aa Aa).q fun a F => ?_
   refine qs F Aa (An FB Aa Aa Aa Jn F Aa 1 Aa).q fun a F => ?_
   obtain ⟨x25, h7, H⟩ := Ah H
   refine qs F Aa (BM (1 + (x10).toNat * 1) E1 F Aa Aa Aa h7 Aa).q fun a F => ?_
   refine AM fun w W => ?_
   refine Fe (o := 1) (m := 4) (i := x10) (l := ([x11, x12, x13, x14] : List Int)) (x := x25) (cs := (MC x1 x11 x12 x13 x14 x15 x16 x17 x18)) (cs' := [.int .i64 x1, .int .i64 (if x10 = 0 then FI .i64 x23 x24 else x11), .int .i64 (if x10 = 1 then FI .i64 x23 x24 else x12), .int .i64 (if x10 = 2 then FI .i64 x23 x24 else x13), .int .i64 (if x10 = 3 then FI .i64 x23 x24 else x14), .int .i64 x15, .int .i64 x16, .int .i64 x17, .int .i64 x18]) 2 F W Aa Aa Aa T3 Aa Aa Aa Aa h7 (by intro k hk hn; rw [hk]; match k, hn with | 0, _ => rfl | 1, _ => rfl | 2, _ => rfl | 3, _ => rfl | (z + 4), h => exact absurd h (by omega)) fun w W => ?_
   have W : Stw ⟨Y, [], w0⟩ [(b3, (GM)), (b2, [.int .i64 p1.1, .int .i64 p1.2.1.1, .int .i64 p1.2.1.2.1, .int .i64 p1.2.1.2.2.1, .int .i64 p1.2.1.2.2.2, .int .i64 p1.2.2.1, .int .i64 p1.2.2.2.1, .int .i64 p1.2.2.2.2.1, .int .i64 p1.2.2.2.2.2]), (b1, [.int .i64 x1, .int .i64 (if x10 = 0 then FI .i64 x23 x24 else x11), .int .i64 (if x10 = 1 then FI .i64 x23 x24 else x12), .int .i64 (if x10 = 2 then FI .i64 x23 x24 else x13), .int .i64 (if x10 = 3 then FI .i64 x23 x24 else x14), .int .i64 x15, .int .i64 x16, .int .i64 x17, .int .i64 x18])] [] w := W
   refine BV tk 2 F W fun a w F W => ?_
   refine Gn 11 W MO (by kernel_rfl) ?_
   refine qs F Aa (Am F Aa).q fun a F => ?_
   refine qs F Aa (An FB Aa Aa Aa Jn F Aa 5 Aa).q fun a F => ?_
   obtain ⟨x26, h8, H⟩ := Ah H
   refine qs F Aa (BM (5 + (x10).toNat * 1) E1 F Aa Aa Aa h8 Aa).q fun a F => ?_
   refine qs F Aa (BR (v := Value.int .i64 x26) 2 F Aa Aa T3 (CP (base := 5) (m := 4) (l := [x15, x16, x17, x18]) (enc := Value.int .i64) Aa h8)).q fun a F => ?_
   refine qs F Aa (Am F Aa).q fun a F => ?_
   refine qs F Aa (An FB Aa Aa Aa Jn F Aa 5 Aa).q fun a F => ?_
   obtain ⟨x27, h9, H⟩ := Ah H
   refine qs F Aa (BM (5 + (x10).toNat * 1) E1 F Aa Aa Aa h9 Aa).q fun a F => ?_
   refine qs F Aa (BR (v := Value.int .i64 x27) 1 F Aa Aa T3 (CP (base := 5) (m := 4) (l := [p1.2.2.1, p1.2.2.2.1, p1.2.2.2.2.1, p1.2.2.2.2.2]) (enc := Value.int .i64) Aa h9)).q fun a F => ?_
   refine qs F Aa (Px F Aa Aa).q fun a F => ?_
   refine qs F Aa (An FB Aa Aa Aa Jn F Aa 5 Aa).q fun a F => ?_
   obtain ⟨x28, h10, H⟩ := Ah H
   refine qs F Aa (BM (5 + (x10).toNat * 1) E1 F Aa Aa Aa h10 Aa).q fun a F => ?_
   refine AM fun w W => ?_
   refine Fe (o := 5) (m := 4) (i := x10) (l := ([x15, x16, x17, x18] : List Int)) (x := x28) (cs := [.int .i64 x1, .int .i64 (if x10 = 0 then FI .i64 x23 x24 else x11), .int .i64 (if x10 = 1 then FI .i64 x23 x24 else x12), .int .i64 (if x10 = 2 then FI .i64 x23 x24 else x13), .int .i64 (if x10 = 3 then FI .i64 x23 x24 else x14), .int .i64 x15, .int .i64 x16, .int .i64 x17, .int .i64 x18]) (cs' := [.int .i64 x1, .int .i64 (if x10 = 0 then FI .i64 x23 x24 else x11), .int .i64 (if x10 = 1 then FI .i64 x23 x24 else x12), .int .i64 (if x10 = 2 then FI .i64 x23 x24 else x13), .int .i64 (if x10 = 3 then FI .i64 x23 x24 else x14), .int .i64 (if x10 = 0 then FI .i64 x26 x27 else x15), .int .i64 (if x10 = 1 then FI .i64 x26 x27 else x16), .int .i64 (if x10 = 2 then FI .i64 x26 x27 else x17), .int .i64 (if x10 = 3 then FI .i64 x26 x27 else x18)]) 2 F W Aa Aa Aa T3 Aa Aa Aa Aa h10 (by intro k hk hn; rw [hk]; match k, hn with | 0, _ => rfl | 1, _ => rfl | 2, _ => rfl | 3, _ => rfl | (z + 4), h => exact absurd h (by omega)) fun w W => ?_
   have W : Stw ⟨Y, [], w0⟩ [(b3, (GM)), (b2, [.int .i64 p1.1, .int .i64 p1.2.1.1, .int .i64 p1.2.1.2.1, .int .i64 p1.2.1.2.2.1, .int .i64 p1.2.1.2.2.2, .int .i64 p1.2.2.1, .int .i64 p1.2.2.2.1, .int .i64 p1.2.2.2.2.1, .int .i64 p1.2.2.2.2.2]), (b1, [.int .i64 x1, .int .i64 (if x10 = 0 then FI .i64 x23 x24 else x11), .int .i64 (if x10 = 1 then FI .i64 x23 x24 else x12), .int .i64 (if x10 = 2 then FI .i64 x23 x24 else x13), .int .i64 (if x10 = 3 then FI .i64 x23 x24 else x14), .int .i64 (if x10 = 0 then FI .i64 x26 x27 else x15), .int .i64 (if x10 = 1 then FI .i64 x26 x27 else x16), .int .i64 (if x10 = 2 then FI .i64 x26 x27 else x17), .int .i64 (if x10 = 3 then FI .i64 x26 x27 else x18)])] [] w := W
   refine Ft (AV ?_)
   refine vn tk 4 F W fun a w F W => ?_
   refine Ad ?_
   have W := W.frontM (i := 2) Aa Aa
   have W := W.frontM (i := 2) Aa Aa
   have W := W.frontM (i := 2) Aa Aa
   exact ⟨_, H, F.ra Aa, W⟩
  refine Bz ?_
  iterate 2 refine B7 ?_
  refine BC (Ad ?_)
  have W := W.frontM (i := 2) Aa Aa
  have W := W.frontM (i := 2) Aa Aa
  have W := W.frontM (i := 2) Aa Aa
  have H := L3 _ H
  exact ⟨_, _, _, _, _, _, _, _, H, F.ra Aa, W⟩
 rintro a w ⟨x2, x3, x4, x5, x6, x7, x8, x9, hj, F, W⟩
 have H := K2 _ hj
 clear hj G2 K2 L2
 refine Gh tk 3 [2] F W (ai fun a w F W => ?_)
 refine EJ 0 F W Aa Aa Aa KD Aa Aa Aa fun w W => ?_
 refine BV tk 3 F W fun a w F W => ?_
 refine Al ?_
 have H := Aw H
 subst H
 refine DN (.inl Aa) F W Aa (EG 0 F Aa Aa KD Aa) (Ak F Aa) ?_
 exact ⟨rfl, W.done⟩
theorem Re : Has Try.prog 81 := B3 Try.func81
noncomputable def DA (p0 : Int × (Int × (Int × Int × Int × Int) × (Int × Int × Int × Int)) × (List (Int × Int × Int))) (p1 : Int × (Int × (Int × Int × Int × Int) × (Int × Int × Int × Int)) × (List (Int × Int × Int))) : Option Bool := (D8 p0.2.1 p1.2.1).bind fun x1 => some (decide (p0.1 = p1.1) && (!(decide (p0.2.1.1 = p1.2.1.1 ∧ p0.2.1.2.1.1 = p1.2.1.2.1.1 ∧ p0.2.1.2.1.2.1 = p1.2.1.2.1.2.1 ∧ p0.2.1.2.1.2.2.1 = p1.2.1.2.1.2.2.1 ∧ p0.2.1.2.1.2.2.2 = p1.2.1.2.1.2.2.2 ∧ p0.2.1.2.2.1 = p1.2.1.2.2.1 ∧ p0.2.1.2.2.2.1 = p1.2.1.2.2.2.1 ∧ p0.2.1.2.2.2.2.1 = p1.2.1.2.2.2.2.1 ∧ p0.2.1.2.2.2.2.2 = p1.2.1.2.2.2.2.2)) && x1.2))
theorem HO (Y : Nat → Prop) (w0 : World) (v1 : Value) (v2 : Value) (p0 : Int × (Int × (Int × Int × Int × Int) × (Int × Int × Int × Int)) × (List (Int × Int × Int))) (p1 : Int × (Int × (Int × Int × Int × Int) × (Int × Int × Int × Int)) × (List (Int × Int × Int))) (r : Bool) (H : DA p0 p1 = some r) (h_v1 : Sl w0 (NX []) Bl v1 p0.2.2) (h_v2 : Sl w0 (NX []) Bl v2 p1.2.2) :
    Calls Try.prog 66 #[.agg #[.int .i64 p0.1, .int .i64 p0.2.1.1, .int .i64 p0.2.1.2.1.1, .int .i64 p0.2.1.2.1.2.1, .int .i64 p0.2.1.2.1.2.2.1, .int .i64 p0.2.1.2.1.2.2.2, .int .i64 p0.2.1.2.2.1, .int .i64 p0.2.1.2.2.2.1, .int .i64 p0.2.1.2.2.2.2.1, .int .i64 p0.2.1.2.2.2.2.2, v1], .agg #[.int .i64 p1.1, .int .i64 p1.2.1.1, .int .i64 p1.2.1.2.1.1, .int .i64 p1.2.1.2.1.2.1, .int .i64 p1.2.1.2.1.2.2.1, .int .i64 p1.2.1.2.1.2.2.2, .int .i64 p1.2.1.2.2.1, .int .i64 p1.2.1.2.2.2.1, .int .i64 p1.2.1.2.2.2.2.1, .int .i64 p1.2.1.2.2.2.2.2, v2]] w0 fun e w' => e = .returned (.bool r) ∧ Below w0.heap.size w0 w' := by
 refine enter Try.func66 Aa Try.ntmps66 Aa fun a F => ?_
 have W := Stw.start Y w0
 unfold DA at H
 refine vc tk 2 F W fun a w F W => ?_
 refine B1 (cs := (Ed p0 v1)) F W Aa Aa Aa fun b1 a w F W => ?_
 refine B1 (cs := (Ed p1 v2)) F W Aa Aa Aa fun b2 a w F W => ?_
 refine EY tk 9 [1, 0] F W (ai (ai fun a w F W => ?_))
 obtain ⟨x1, h1, H⟩ := Ah H
 refine ls F W Aa (AU (v := Value.tuple #[.agg #[.int .i64 x1.1.1, .int .i64 x1.1.2.1.1, .int .i64 x1.1.2.1.2.1, .int .i64 x1.1.2.1.2.2.1, .int .i64 x1.1.2.1.2.2.2, .int .i64 x1.1.2.2.1, .int .i64 x1.1.2.2.2.1, .int .i64 x1.1.2.2.2.2.1, .int .i64 x1.1.2.2.2.2.2], .bool x1.2]) F Re Aa (fun w W => Hf any w p0.2.1 p1.2.1 _ h1)) fun a w F W => ?_
 refine ls F W Aa (Am F Aa).q fun a w F W => ?_
 refine ls F W Aa (BE (v := Value.agg #[.int .i64 x1.1.1, .int .i64 x1.1.2.1.1, .int .i64 x1.1.2.1.2.1, .int .i64 x1.1.2.1.2.2.1, .int .i64 x1.1.2.1.2.2.2, .int .i64 x1.1.2.2.1, .int .i64 x1.1.2.2.2.1, .int .i64 x1.1.2.2.2.2.1, .int .i64 x1.1.2.2.2.2.2]) F Aa Aa).q fun a w F W => ?_
 refine ls F W Aa (BE (v := Value.bool x1.2) F Aa Aa).q fun a w F W => ?_
 refine Cn (cs := (GM)) F W Aa PH Aa fun b3 a w F W => ?_
 refine EJ 0 F W Aa Aa Aa KD Aa Aa Aa fun w W => ?_
 refine BV tk 3 F W fun a w F W => ?_
 refine AC (fun a w => Fr 30 [] [(4, .bool (decide (p0.1 = p1.1) && (!(decide (p0.2.1.1 = p1.2.1.1 ∧ p0.2.1.2.1.1 = p1.2.1.2.1.1 ∧ p0.2.1.2.1.2.1 = p1.2.1.2.1.2.1 ∧ p0.2.1.2.1.2.2.1 = p1.2.1.2.1.2.2.1 ∧ p0.2.1.2.1.2.2.2 = p1.2.1.2.1.2.2.2 ∧ p0.2.1.2.2.1 = p1.2.1.2.2.1 ∧ p0.2.1.2.2.2.1 = p1.2.1.2.2.2.1 ∧ p0.2.1.2.2.2.2.1 = p1.2.1.2.2.2.2.1 ∧ p0.2.1.2.2.2.2.2 = p1.2.1.2.2.2.2.2)) && x1.2)))] a ∧ Stw ⟨Y, [], w0⟩ [(b3, [.int .i64 x1.1.1, .int .i64 x1.1.2.1.1, .int .i64 x1.1.2.1.2.1, .int .i64 x1.1.2.1.2.2.1, .int .i64 x1.1.2.1.2.2.2, .int .i64 x1.1.2.2.1, .int .i64 x1.1.2.2.2.1, .int .i64 x1.1.2.2.2.2.1, .int .i64 x1.1.2.2.2.2.2]), (b2, (Ed p1 v2)), (b1, (Ed p0 v1))] [] w) ?_ ?_
 ·
  refine Gh tk 7 [2, 1] F W (ai (ai fun a w F W => ?_))
  rcases Bool.eq_false_or_eq_true (decide (p0.1 = p1.1)) with hb0 | hb0
  ·
   rw [hb0] at F
   refine GY tk 4 [2, 1] F W (ai (ai fun a w F W => ?_))
   refine EC F W (Ag F Aa Aa Aa Aa) Aa (Ax Aa) (ME (t := decide (p0.2.1.1 = p1.2.1.1 ∧ p0.2.1.2.1.1 = p1.2.1.2.1.1 ∧ p0.2.1.2.1.2.1 = p1.2.1.2.1.2.1 ∧ p0.2.1.2.1.2.2.1 = p1.2.1.2.1.2.2.1 ∧ p0.2.1.2.1.2.2.2 = p1.2.1.2.1.2.2.2 ∧ p0.2.1.2.2.1 = p1.2.1.2.2.1 ∧ p0.2.1.2.2.2.1 = p1.2.1.2.2.2.1 ∧ p0.2.1.2.2.2.2.1 = p1.2.1.2.2.2.2.1 ∧ p0.2.1.2.2.2.2.2 = p1.2.1.2.2.2.2.2)) Qf (Ql _ _ _ _ _ _ _ _ _ _ _ _ _ _ _ _ _ _) F Aa Aa).q fun a w F W => ?_
   refine vl tk 2 F W fun a w F W => ?_
   rcases Bool.eq_false_or_eq_true (!(decide (p0.2.1.1 = p1.2.1.1 ∧ p0.2.1.2.1.1 = p1.2.1.2.1.1 ∧ p0.2.1.2.1.2.1 = p1.2.1.2.1.2.1 ∧ p0.2.1.2.1.2.2.1 = p1.2.1.2.1.2.2.1 ∧ p0.2.1.2.1.2.2.2 = p1.2.1.2.1.2.2.2 ∧ p0.2.1.2.2.1 = p1.2.1.2.2.1 ∧ p0.2.1.2.2.2.1 = p1.2.1.2.2.2.1 ∧ p0.2.1.2.2.2.2.1 = p1.2.1.2.2.2.2.1 ∧ p0.2.1.2.2.2.2.2 = p1.2.1.2.2.2.2.2))) with hb1 | hb1
   ·
    rw [hb1] at F
    refine vl tk 4 F W fun a w F W => ?_
    refine Ad ?_
    exact ⟨F.re ⟨(F6 (by try rw [hb1]; try rw [hb0]; all_goals simp only [F7])), trivial⟩, W⟩
   rw [hb1] at F
   refine vl tk 4 F W fun a w F W => ?_
   refine Ad ?_
   exact ⟨F.re ⟨(F6 (by try rw [hb1]; try rw [hb0]; all_goals simp only [F7])), trivial⟩, W⟩
  rw [hb0] at F
  refine vl tk 11 F W fun a w F W => ?_
  refine Ad ?_
  exact ⟨F.re ⟨(F6 (by try rw [hb0]; all_goals simp only [F7])), trivial⟩, W⟩
 rintro a w ⟨F, W⟩
 refine Al ?_
 have H := Aw H
 subst H
 refine Aq (.inl Aa) F W Aa (Ak F Aa) ?_
 exact ⟨rfl, W.done⟩
theorem Rz : Has Try.prog 66 := B3 Try.func66
noncomputable def Fb (p0 : Int × (Int × (Int × Int × Int × Int) × (Int × Int × Int × Int)) × (List (Int × Int × Int))) (p1 : Int × (Int × (Int × (Int × Int × Int × Int) × (Int × Int × Int × Int)) × (List (Int × Int × Int))) × Bool) : Option Bool := (DA p0 p1.2.1).bind fun x1 => some x1
theorem IQ (Y : Nat → Prop) (w0 : World) (v1 : Value) (q_p1 : Nat) (v2 : Value) (p0 : Int × (Int × (Int × Int × Int × Int) × (Int × Int × Int × Int)) × (List (Int × Int × Int))) (p1 : Int × (Int × (Int × (Int × Int × Int × Int) × (Int × Int × Int × Int)) × (List (Int × Int × Int))) × Bool) (r : Bool) (H : Fb p0 p1 = some r) (h_v1 : Sl w0 (NX []) Bl v1 p0.2.2) (h_v2 : Sl w0 (NX []) Bl v2 p1.2.1.2.2) (a_q_p1 : At ⟨Y, [], w0⟩ q_p1 0 [.int .i64 p1.1, .int .i64 p1.2.1.1, .int .i64 p1.2.1.2.1.1, .int .i64 p1.2.1.2.1.2.1.1, .int .i64 p1.2.1.2.1.2.1.2.1, .int .i64 p1.2.1.2.1.2.1.2.2.1, .int .i64 p1.2.1.2.1.2.1.2.2.2, .int .i64 p1.2.1.2.1.2.2.1, .int .i64 p1.2.1.2.1.2.2.2.1, .int .i64 p1.2.1.2.1.2.2.2.2.1, .int .i64 p1.2.1.2.1.2.2.2.2.2, v2, .bool p1.2.2]) :
    Calls Try.prog 65 #[.agg #[.int .i64 p0.1, .int .i64 p0.2.1.1, .int .i64 p0.2.1.2.1.1, .int .i64 p0.2.1.2.1.2.1, .int .i64 p0.2.1.2.1.2.2.1, .int .i64 p0.2.1.2.1.2.2.2, .int .i64 p0.2.1.2.2.1, .int .i64 p0.2.1.2.2.2.1, .int .i64 p0.2.1.2.2.2.2.1, .int .i64 p0.2.1.2.2.2.2.2, v1], .pointer (some ⟨q_p1, 0, none⟩)] w0 fun e w' => e = .returned (.bool r) ∧ Below w0.heap.size w0 w' := by
 refine enter Try.func65 Aa Try.ntmps65 Aa fun a F => ?_
 have W := Stw.start Y w0
 unfold Fb at H
 refine vc tk 2 F W fun a w F W => ?_
 refine B1 (cs := (Ed p0 v1)) F W Aa Aa Aa fun b1 a w F W => ?_
 refine EY tk 7 [0] F W (ai fun a w F W => ?_)
 refine ls F W Aa (GA (y := Value.agg #[.int .i64 p1.2.1.1, .int .i64 p1.2.1.2.1.1, .int .i64 p1.2.1.2.1.2.1.1, .int .i64 p1.2.1.2.1.2.1.2.1, .int .i64 p1.2.1.2.1.2.1.2.2.1, .int .i64 p1.2.1.2.1.2.1.2.2.2, .int .i64 p1.2.1.2.1.2.2.1, .int .i64 p1.2.1.2.1.2.2.2.1, .int .i64 p1.2.1.2.1.2.2.2.2.1, .int .i64 p1.2.1.2.1.2.2.2.2.2, v2]) (j := 1) F Aa (Nat.zero_add _).symm a_q_p1 Fk Aa).q fun a w F W => ?_
 obtain ⟨x1, h1, H⟩ := Ah H
 refine ls F W Aa (AU (v := Value.bool x1) F Rz Aa (fun w W => HO any w (v1) (v2) p0 p1.2.1 _ h1 (CY (Aj h_v1) W) (CY (Aj h_v2) W))) fun a w F W => ?_
 refine BV tk 3 F W fun a w F W => ?_
 refine Al ?_
 have H := Aw H
 subst H
 refine Aq (.inl Aa) F W Aa (Ak F Aa) ?_
 exact ⟨rfl, W.done⟩
theorem RH : Has Try.prog 65 := B3 Try.func65
noncomputable def A9 (p0 : List (Int × (Int × (Int × Int × Int × Int) × (Int × Int × Int × Int)) × (List (Int × Int × Int)))) (p1c0 : Int × (Int × (Int × (Int × Int × Int × Int) × (Int × Int × Int × Int)) × (List (Int × Int × Int))) × Bool) : Int → Option (Int ⊕ (Unit ⊕ Int))
  | x1 => (if x1 < (p0.length : Int) then (ix p0 x1).bind fun x2 => (Fb x2 p1c0).bind fun x3 => (if x3 = true then some (.inr (.inr x1)) else some (.inl (Cs (x1 + 1)))) else some (.inr (.inl ())))
noncomputable def Bi (p0 : List (Int × (Int × (Int × Int × Int × Int) × (Int × Int × Int × Int)) × (List (Int × Int × Int)))) (p1c0 : Int × (Int × (Int × (Int × Int × Int × Int) × (Int × Int × Int × Int)) × (List (Int × Int × Int))) × Bool) : Option Int := Fu (AJ (A9 p0 p1c0) 0) fun _ => some (-1)
theorem Dz (Y : Nat → Prop) (w0 : World) (v1 : Value) (q_p1c0 : Nat) (v2 : Value) (p0 : List (Int × (Int × (Int × Int × Int × Int) × (Int × Int × Int × Int)) × (List (Int × Int × Int)))) (p1c0 : Int × (Int × (Int × (Int × Int × Int × Int) × (Int × Int × Int × Int)) × (List (Int × Int × Int))) × Bool) (r : Int) (H : Bi p0 p1c0 = some r) (h_v1 : Sl w0 (NX []) A5 v1 p0) (h_v2 : Sl w0 (NX []) Bl v2 p1c0.2.1.2.2) (a_q_p1c0 : At ⟨Y, [], w0⟩ q_p1c0 0 [.int .i64 p1c0.1, .int .i64 p1c0.2.1.1, .int .i64 p1c0.2.1.2.1.1, .int .i64 p1c0.2.1.2.1.2.1.1, .int .i64 p1c0.2.1.2.1.2.1.2.1, .int .i64 p1c0.2.1.2.1.2.1.2.2.1, .int .i64 p1c0.2.1.2.1.2.1.2.2.2, .int .i64 p1c0.2.1.2.1.2.2.1, .int .i64 p1c0.2.1.2.1.2.2.2.1, .int .i64 p1c0.2.1.2.1.2.2.2.2.1, .int .i64 p1c0.2.1.2.1.2.2.2.2.2, v2, .bool p1c0.2.2]) :
    Calls Try.prog 67 #[v1, .func (.func 65) #[] #[.pointer (some ⟨q_p1c0, 0, none⟩)]] w0 fun e w' => e = .returned (.int .i64 r) ∧ Below w0.heap.size w0 w' := by
 refine enter Try.func67 Aa Try.ntmps67 Aa fun a F => ?_
 have W := Stw.start Y w0
 obtain ⟨v3, h1, h_v1⟩ := h_v1.ex BH
 unfold Bi at H
 refine vc tk 5 F W fun a w F W => ?_
 obtain ⟨o1, G1, K1, L1⟩ := IZ H
 refine AC (fun a w => some (Sum.inl ()) = some o1 ∧ Fr 19 [] [(4, .int .i64 0)] a ∧ Stw ⟨Y, [], w0⟩ [] [] w) ?_ ?_
 ·
  have H := G1
  clear G1 K1
  refine vc tk 3 F W fun a w F W => ?_
  refine ls F W Aa (BQ (r := A5) (l := p0) E2 Aa F Aa (A6 BH h1 (Aj h_v1))).q fun a w F W => ?_
  refine BV tk 4 F W fun a w F W => ?_
  refine BI H (fun s a w => Fr 19 [] [(0, v1), (1, .func (.func 65) #[] #[.pointer (some ⟨q_p1c0, 0, none⟩)]), (4, .int .i64 0), (7, .int .i64 (p0.length : Int)), (8, .int .i64 s)] a ∧ Stw ⟨Y, [], w0⟩ [] [] w) ⟨F.ra Aa, W⟩ fun s o a w H L2 hR => ?_
  obtain ⟨x1, rfl⟩ : ∃ x, x = s := ⟨s, rfl⟩
  obtain ⟨F, W⟩ := hR
  have F : Fr 19 [] [(0, v1), (1, .func (.func 65) #[] #[.pointer (some ⟨q_p1c0, 0, none⟩)]), (4, .int .i64 0), (7, .int .i64 (p0.length : Int)), (8, .int .i64 x1)] a := F
  have W : Stw ⟨Y, [], w0⟩ [] [] w := W
  rw [A9] at H
  refine vc tk 6 F W fun a w F W => ?_
  refine Br F Aa H (fun F H => ?_) fun F H => ?_
  ·
   refine E8 tk 15 F W fun a w F W => ?_
   obtain ⟨x2, h2, H⟩ := Ah H
   obtain ⟨v4, h3, h4⟩ := Ck h1 h2
   have h5 : CK v4 = [.int .i64 x2.1, .int .i64 x2.2.1.1, .int .i64 x2.2.1.2.1.1, .int .i64 x2.2.1.2.1.2.1, .int .i64 x2.2.1.2.1.2.2.1, .int .i64 x2.2.1.2.1.2.2.2, .int .i64 x2.2.1.2.2.1, .int .i64 x2.2.1.2.2.2.1, .int .i64 x2.2.1.2.2.2.2.1, .int .i64 x2.2.1.2.2.2.2.2, (v4.2.2.1)] := congrArg (fun q : Int × (Int × (Int × Int × Int × Int) × (Int × Int × Int × Int)) × (List (Int × Int × Int)) => ([.int .i64 q.1, .int .i64 q.2.1.1, .int .i64 q.2.1.2.1.1, .int .i64 q.2.1.2.1.2.1, .int .i64 q.2.1.2.1.2.2.1, .int .i64 q.2.1.2.1.2.2.2, .int .i64 q.2.1.2.2.1, .int .i64 q.2.1.2.2.2.1, .int .i64 q.2.1.2.2.2.2.1, .int .i64 q.2.1.2.2.2.2.2, (v4.2.2.1)] : List Value)) h4
   refine ls F W Aa (A8 (r := DU) FQ F Aa Aa (Aj h_v1) h3).q fun a w F W => ?_
   refine ls F W Aa (AE (y := Value.agg #[.int .i64 x2.1, .int .i64 x2.2.1.1, .int .i64 x2.2.1.2.1.1, .int .i64 x2.2.1.2.1.2.1, .int .i64 x2.2.1.2.1.2.2.1, .int .i64 x2.2.1.2.1.2.2.2, .int .i64 x2.2.1.2.2.1, .int .i64 x2.2.1.2.2.2.1, .int .i64 x2.2.1.2.2.2.2.1, .int .i64 x2.2.1.2.2.2.2.2, (v4.2.2.1)]) (j := 0) (i := x1) (enc := CK) F Aa Aa (Aj h_v1) h3 Fo Fk (by rw [h5]; rfl)).q fun a w F W => ?_
   obtain ⟨x3, h6, H⟩ := Ah H
   refine ls F W Aa (EH (ws := [.agg #[.int .i64 x2.1, .int .i64 x2.2.1.1, .int .i64 x2.2.1.2.1.1, .int .i64 x2.2.1.2.1.2.1, .int .i64 x2.2.1.2.1.2.2.1, .int .i64 x2.2.1.2.1.2.2.2, .int .i64 x2.2.1.2.2.1, .int .i64 x2.2.1.2.2.2.1, .int .i64 x2.2.1.2.2.2.2.1, .int .i64 x2.2.1.2.2.2.2.2, (v4.2.2.1)], .pointer (some ⟨q_p1c0, 0, none⟩)]) (v := Value.bool x3) F RH Aa (fun w W => IQ any w ((v4.2.2.1)) q_p1c0 (v2) x2 p1c0 _ h6 (CY (Dr (Aj h_v1) h3 (Ay.snd (Ay.snd Ay.here)) (congrArg (fun q : Int × (Int × (Int × Int × Int × Int) × (Int × Int × Int × Int)) × (List (Int × Int × Int)) => q.2.2) h4)) W) (CY (Aj h_v2) W) (At.re a_q_p1c0 W))) fun a w F W => ?_
   refine BV tk 2 F W fun a w F W => ?_
   refine B8 F Aa H (fun F H => ?_) fun F H => ?_
   ·
    refine vc tk 6 F W fun a w F W => ?_
    refine Al (Az ?_)
    iterate 2 refine Ap ?_
    refine Az (Ap ?_)
    have H := L2 _ H
    have H := L1 _ H
    have H := Aw H
    subst H
    refine Aq (.inl Aa) F W Aa (Ak F Aa) ?_
    exact ⟨rfl, W.done⟩
   refine AH (AV ?_)
   refine vn tk 4 F W fun a w F W => ?_
   refine Ad ?_
   exact ⟨_, H, F.ra Aa, W⟩
  refine Bz ?_
  iterate 2 refine B7 ?_
  refine BC (Ad ?_)
  have H := L2 _ H
  exact ⟨H, F.ra Aa, W⟩
 rintro a w ⟨hj, F, W⟩
 have H := K1 _ hj
 clear hj G1 K1 L1
 refine vc tk 5 F W fun a w F W => ?_
 refine Al ?_
 have H := Aw H
 subst H
 refine Aq (.inl Aa) F W Aa (Ak F Aa) ?_
 exact ⟨rfl, W.done⟩
theorem P7 : Has Try.prog 67 := B3 Try.func67
noncomputable def AO (p0 : List (Int × (Int × (Int × Int × Int × Int) × (Int × Int × Int × Int)) × (List (Int × Int × Int)))) (p1c0 : Int × (Int × (Int × (Int × Int × Int × Int) × (Int × Int × Int × Int)) × (List (Int × Int × Int))) × Bool) : Option Bool := (Bi p0 p1c0).bind fun x1 => some (decide (0 ≤ x1))
theorem Di (Y : Nat → Prop) (w0 : World) (v1 : Value) (q_p1c0 : Nat) (v2 : Value) (p0 : List (Int × (Int × (Int × Int × Int × Int) × (Int × Int × Int × Int)) × (List (Int × Int × Int)))) (p1c0 : Int × (Int × (Int × (Int × Int × Int × Int) × (Int × Int × Int × Int)) × (List (Int × Int × Int))) × Bool) (r : Bool) (H : AO p0 p1c0 = some r) (h_v1 : Sl w0 (NX []) A5 v1 p0) (h_v2 : Sl w0 (NX []) Bl v2 p1c0.2.1.2.2) (a_q_p1c0 : At ⟨Y, [], w0⟩ q_p1c0 0 [.int .i64 p1c0.1, .int .i64 p1c0.2.1.1, .int .i64 p1c0.2.1.2.1.1, .int .i64 p1c0.2.1.2.1.2.1.1, .int .i64 p1c0.2.1.2.1.2.1.2.1, .int .i64 p1c0.2.1.2.1.2.1.2.2.1, .int .i64 p1c0.2.1.2.1.2.1.2.2.2, .int .i64 p1c0.2.1.2.1.2.2.1, .int .i64 p1c0.2.1.2.1.2.2.2.1, .int .i64 p1c0.2.1.2.1.2.2.2.2.1, .int .i64 p1c0.2.1.2.1.2.2.2.2.2, v2, .bool p1c0.2.2]) :
    Calls Try.prog 51 #[v1, .func (.func 65) #[] #[.pointer (some ⟨q_p1c0, 0, none⟩)]] w0 fun e w' => e = .returned (.bool r) ∧ Below w0.heap.size w0 w' := by
 refine enter Try.func51 Aa Try.ntmps51 Aa fun a F => ?_
 have W := Stw.start Y w0
 obtain ⟨v3, h1, h_v1⟩ := h_v1.ex BH
 unfold AO at H
 refine vc tk 9 F W fun a w F W => ?_
 obtain ⟨x1, h2, H⟩ := Ah H
 refine ls F W Aa (AU (v := Value.int .i64 x1) F P7 Aa (fun w W => Dz any w (v1) q_p1c0 (v2) p0 p1c0 _ h2 (CY (A6 BH h1 (Aj h_v1)) W) (CY (Aj h_v2) W) (At.re a_q_p1c0 W))) fun a w F W => ?_
 refine BV tk 4 F W fun a w F W => ?_
 refine Al ?_
 have H := Aw H
 subst H
 refine Aq (.inl Aa) F W Aa (Ak F Aa) ?_
 exact ⟨rfl, W.done⟩
theorem Qs : Has Try.prog 51 := B3 Try.func51
def Ab (p0 : Int × (Int × (Int × Int × Int × Int) × (Int × Int × Int × Int)) × (List (Int × Int × Int))) : (Int × (Int × (Int × Int × Int × Int) × (Int × Int × Int × Int)) × (List (Int × Int × Int))) := p0
theorem Dd (Y : Nat → Prop) (w0 : World) (v1 : Value) (p0 : Int × (Int × (Int × Int × Int × Int) × (Int × Int × Int × Int)) × (List (Int × Int × Int))) (r : (Int × (Int × (Int × Int × Int × Int) × (Int × Int × Int × Int)) × (List (Int × Int × Int)))) (H : Ab p0 = r) (s_v1 : Sl w0 Y Bl v1 p0.2.2) :
    Calls Try.prog 52 #[.agg #[.int .i64 p0.1, .int .i64 p0.2.1.1, .int .i64 p0.2.1.2.1.1, .int .i64 p0.2.1.2.1.2.1, .int .i64 p0.2.1.2.1.2.2.1, .int .i64 p0.2.1.2.1.2.2.2, .int .i64 p0.2.1.2.2.1, .int .i64 p0.2.1.2.2.2.1, .int .i64 p0.2.1.2.2.2.2.1, .int .i64 p0.2.1.2.2.2.2.2, v1]] w0 fun e w' => ∃ x : Nat × Value, e = .returned (.func (.func 73) #[] #[.pointer (some ⟨x.1, 0, none⟩)]) ∧ Stw ⟨Y, [], w0⟩ [(x.1, [.int .i64 r.1, .int .i64 r.2.1.1, .int .i64 r.2.1.2.1.1, .int .i64 r.2.1.2.1.2.1, .int .i64 r.2.1.2.1.2.2.1, .int .i64 r.2.1.2.1.2.2.2, .int .i64 r.2.1.2.2.1, .int .i64 r.2.1.2.2.2.1, .int .i64 r.2.1.2.2.2.2.1, .int .i64 r.2.1.2.2.2.2.2, x.2])] [BD (x.2) Bl r.2.2] w' := by
 refine enter Try.func52 Aa Try.ntmps52 Aa fun a F => ?_
 have W := Stw.start Y w0
 have h_v1 := W.nx s_v1
 unfold Ab at H
 refine vc tk 2 F W fun a w F W => ?_
 refine B1 (cs := (Ed p0 v1)) F W Aa Aa Aa fun b1 a w F W => ?_
 refine BV tk 5 F W fun a w F W => ?_
 refine ls F W Aa (FN (us := []) (vs := [.pointer (some ⟨b1, 0, none⟩)]) F Aa Aa).q fun a w F W => ?_
 refine BV tk 3 F W fun a w F W => ?_
 refine Al ?_
 subst H
 refine Aq (.inl Aa) F W Aa (Ak F Aa) ?_
 have W := W.note (W.old s_v1)
 exact ⟨(b1, (v1)), Aa, W⟩
theorem PI : Has Try.prog 52 := B3 Try.func52
def B5 (p0 : Int × (Int × (Int × Int × Int × Int) × (Int × Int × Int × Int)) × (List (Int × Int × Int))) (p1 : Int × (Int × (Int × Int × Int × Int) × (Int × Int × Int × Int)) × (List (Int × Int × Int))) : Bool := (DR p1 p0)
theorem Ev (Y : Nat → Prop) (w0 : World) (v1 : Value) (q_p1 : Nat) (v2 : Value) (p0 : Int × (Int × (Int × Int × Int × Int) × (Int × Int × Int × Int)) × (List (Int × Int × Int))) (p1 : Int × (Int × (Int × Int × Int × Int) × (Int × Int × Int × Int)) × (List (Int × Int × Int))) (r : Bool) (H : B5 p0 p1 = r) (h_v1 : Sl w0 (NX []) Bl v1 p0.2.2) (h_v2 : Sl w0 (NX []) Bl v2 p1.2.2) (a_q_p1 : At ⟨Y, [], w0⟩ q_p1 0 [.int .i64 p1.1, .int .i64 p1.2.1.1, .int .i64 p1.2.1.2.1.1, .int .i64 p1.2.1.2.1.2.1, .int .i64 p1.2.1.2.1.2.2.1, .int .i64 p1.2.1.2.1.2.2.2, .int .i64 p1.2.1.2.2.1, .int .i64 p1.2.1.2.2.2.1, .int .i64 p1.2.1.2.2.2.2.1, .int .i64 p1.2.1.2.2.2.2.2, v2]) :
    Calls Try.prog 73 #[.agg #[.int .i64 p0.1, .int .i64 p0.2.1.1, .int .i64 p0.2.1.2.1.1, .int .i64 p0.2.1.2.1.2.1, .int .i64 p0.2.1.2.1.2.2.1, .int .i64 p0.2.1.2.1.2.2.2, .int .i64 p0.2.1.2.2.1, .int .i64 p0.2.1.2.2.2.1, .int .i64 p0.2.1.2.2.2.2.1, .int .i64 p0.2.1.2.2.2.2.2, v1], .pointer (some ⟨q_p1, 0, none⟩)] w0 fun e w' => e = .returned (.bool r) ∧ Below w0.heap.size w0 w' := by
 refine enter Try.func73 Aa Try.ntmps73 Aa fun a F => ?_
 have W := Stw.start Y w0
 unfold B5 at H
 refine vc tk 2 F W fun a w F W => ?_
 refine B1 (cs := (Ed p0 v1)) F W Aa Aa Aa fun b1 a w F W => ?_
 refine BV tk 5 F W fun a w F W => ?_
 refine ls F W Aa (GA (y := Value.agg #[.int .i64 p1.1, .int .i64 p1.2.1.1, .int .i64 p1.2.1.2.1.1, .int .i64 p1.2.1.2.1.2.1, .int .i64 p1.2.1.2.1.2.2.1, .int .i64 p1.2.1.2.1.2.2.2, .int .i64 p1.2.1.2.2.1, .int .i64 p1.2.1.2.2.2.1, .int .i64 p1.2.1.2.2.2.2.1, .int .i64 p1.2.1.2.2.2.2.2, v2]) (j := 0) F Aa (Nat.zero_add _).symm a_q_p1 Fk Aa).q fun a w F W => ?_
 refine ls F W Aa (BR (v := Value.agg #[.int .i64 p0.1, .int .i64 p0.2.1.1, .int .i64 p0.2.1.2.1.1, .int .i64 p0.2.1.2.1.2.1, .int .i64 p0.2.1.2.1.2.2.1, .int .i64 p0.2.1.2.1.2.2.2, .int .i64 p0.2.1.2.2.1, .int .i64 p0.2.1.2.2.2.1, .int .i64 p0.2.1.2.2.2.2.1, .int .i64 p0.2.1.2.2.2.2.2, v1]) 0 F Aa Aa Fk Aa).q fun a w F W => ?_
 refine ls F W Aa (AU (v := Value.bool (DR p1 p0)) F Q7 Aa (fun w W => H2 any w (v2) (v1) p1 p0 _ Aa (CY (Aj h_v2) W) (CY (Aj h_v1) W))) fun a w F W => ?_
 refine BV tk 3 F W fun a w F W => ?_
 refine Al ?_
 subst H
 refine Aq (.inl Aa) F W Aa (Ak F Aa) ?_
 exact ⟨rfl, W.done⟩
theorem QL : Has Try.prog 73 := B3 Try.func73
noncomputable def AZ (p0 : List (Int × (Int × (Int × Int × Int × Int) × (Int × Int × Int × Int)) × (List (Int × Int × Int)))) (p1c0 : Int × (Int × (Int × Int × Int × Int) × (Int × Int × Int × Int)) × (List (Int × Int × Int))) : Int → Option (Int ⊕ (Unit ⊕ Int))
  | x1 => (if x1 < (p0.length : Int) then (ix p0 x1).bind fun x2 => (if (B5 x2 p1c0) = true then some (.inr (.inr x1)) else some (.inl (Cs (x1 + 1)))) else some (.inr (.inl ())))
noncomputable def AR (p0 : List (Int × (Int × (Int × Int × Int × Int) × (Int × Int × Int × Int)) × (List (Int × Int × Int)))) (p1c0 : Int × (Int × (Int × Int × Int × Int) × (Int × Int × Int × Int)) × (List (Int × Int × Int))) : Option Int := Fu (AJ (AZ p0 p1c0) 0) fun _ => some (-1)
theorem Cm (Y : Nat → Prop) (w0 : World) (v1 : Value) (q_p1c0 : Nat) (v2 : Value) (p0 : List (Int × (Int × (Int × Int × Int × Int) × (Int × Int × Int × Int)) × (List (Int × Int × Int)))) (p1c0 : Int × (Int × (Int × Int × Int × Int) × (Int × Int × Int × Int)) × (List (Int × Int × Int))) (r : Int) (H : AR p0 p1c0 = some r) (h_v1 : Sl w0 (NX []) A5 v1 p0) (h_v2 : Sl w0 (NX []) Bl v2 p1c0.2.2) (a_q_p1c0 : At ⟨Y, [], w0⟩ q_p1c0 0 [.int .i64 p1c0.1, .int .i64 p1c0.2.1.1, .int .i64 p1c0.2.1.2.1.1, .int .i64 p1c0.2.1.2.1.2.1, .int .i64 p1c0.2.1.2.1.2.2.1, .int .i64 p1c0.2.1.2.1.2.2.2, .int .i64 p1c0.2.1.2.2.1, .int .i64 p1c0.2.1.2.2.2.1, .int .i64 p1c0.2.1.2.2.2.2.1, .int .i64 p1c0.2.1.2.2.2.2.2, v2]) :
    Calls Try.prog 67 #[v1, .func (.func 73) #[] #[.pointer (some ⟨q_p1c0, 0, none⟩)]] w0 fun e w' => e = .returned (.int .i64 r) ∧ Below w0.heap.size w0 w' := by
 refine enter Try.func67 Aa Try.ntmps67 Aa fun a F => ?_
 have W := Stw.start Y w0
 obtain ⟨v3, h1, h_v1⟩ := h_v1.ex BH
 unfold AR at H
 refine vc tk 5 F W fun a w F W => ?_
 obtain ⟨o1, G1, K1, L1⟩ := IZ H
 refine AC (fun a w => some (Sum.inl ()) = some o1 ∧ Fr 19 [] [(4, .int .i64 0)] a ∧ Stw ⟨Y, [], w0⟩ [] [] w) ?_ ?_
 ·
  have H := G1
  clear G1 K1
  refine vc tk 3 F W fun a w F W => ?_
  refine ls F W Aa (BQ (r := A5) (l := p0) E2 Aa F Aa (A6 BH h1 (Aj h_v1))).q fun a w F W => ?_
  refine BV tk 4 F W fun a w F W => ?_
  refine BI H (fun s a w => Fr 19 [] [(0, v1), (1, .func (.func 73) #[] #[.pointer (some ⟨q_p1c0, 0, none⟩)]), (4, .int .i64 0), (7, .int .i64 (p0.length : Int)), (8, .int .i64 s)] a ∧ Stw ⟨Y, [], w0⟩ [] [] w) ⟨F.ra Aa, W⟩ fun s o a w H L2 hR => ?_
  obtain ⟨x1, rfl⟩ : ∃ x, x = s := ⟨s, rfl⟩
  obtain ⟨F, W⟩ := hR
  have F : Fr 19 [] [(0, v1), (1, .func (.func 73) #[] #[.pointer (some ⟨q_p1c0, 0, none⟩)]), (4, .int .i64 0), (7, .int .i64 (p0.length : Int)), (8, .int .i64 x1)] a := F
  have W : Stw ⟨Y, [], w0⟩ [] [] w := W
  rw [AZ] at H
  refine vc tk 6 F W fun a w F W => ?_
  refine Br F Aa H (fun F H => ?_) fun F H => ?_
  ·
   refine E8 tk 15 F W fun a w F W => ?_
   obtain ⟨x2, h2, H⟩ := Ah H
   obtain ⟨v4, h3, h4⟩ := Ck h1 h2
   have h5 : CK v4 = [.int .i64 x2.1, .int .i64 x2.2.1.1, .int .i64 x2.2.1.2.1.1, .int .i64 x2.2.1.2.1.2.1, .int .i64 x2.2.1.2.1.2.2.1, .int .i64 x2.2.1.2.1.2.2.2, .int .i64 x2.2.1.2.2.1, .int .i64 x2.2.1.2.2.2.1, .int .i64 x2.2.1.2.2.2.2.1, .int .i64 x2.2.1.2.2.2.2.2, (v4.2.2.1)] := congrArg (fun q : Int × (Int × (Int × Int × Int × Int) × (Int × Int × Int × Int)) × (List (Int × Int × Int)) => ([.int .i64 q.1, .int .i64 q.2.1.1, .int .i64 q.2.1.2.1.1, .int .i64 q.2.1.2.1.2.1, .int .i64 q.2.1.2.1.2.2.1, .int .i64 q.2.1.2.1.2.2.2, .int .i64 q.2.1.2.2.1, .int .i64 q.2.1.2.2.2.1, .int .i64 q.2.1.2.2.2.2.1, .int .i64 q.2.1.2.2.2.2.2, (v4.2.2.1)] : List Value)) h4
   refine ls F W Aa (A8 (r := DU) FQ F Aa Aa (Aj h_v1) h3).q fun a w F W => ?_
   refine ls F W Aa (AE (y := Value.agg #[.int .i64 x2.1, .int .i64 x2.2.1.1, .int .i64 x2.2.1.2.1.1, .int .i64 x2.2.1.2.1.2.1, .int .i64 x2.2.1.2.1.2.2.1, .int .i64 x2.2.1.2.1.2.2.2, .int .i64 x2.2.1.2.2.1, .int .i64 x2.2.1.2.2.2.1, .int .i64 x2.2.1.2.2.2.2.1, .int .i64 x2.2.1.2.2.2.2.2, (v4.2.2.1)]) (j := 0) (i := x1) (enc := CK) F Aa Aa (Aj h_v1) h3 Fo Fk (by rw [h5]; rfl)).q fun a w F W => ?_
   refine ls F W Aa (EH (ws := [.agg #[.int .i64 x2.1, .int .i64 x2.2.1.1, .int .i64 x2.2.1.2.1.1, .int .i64 x2.2.1.2.1.2.1, .int .i64 x2.2.1.2.1.2.2.1, .int .i64 x2.2.1.2.1.2.2.2, .int .i64 x2.2.1.2.2.1, .int .i64 x2.2.1.2.2.2.1, .int .i64 x2.2.1.2.2.2.2.1, .int .i64 x2.2.1.2.2.2.2.2, (v4.2.2.1)], .pointer (some ⟨q_p1c0, 0, none⟩)]) (v := Value.bool (B5 x2 p1c0)) F QL Aa (fun w W => Ev any w ((v4.2.2.1)) q_p1c0 (v2) x2 p1c0 _ Aa (CY (Dr (Aj h_v1) h3 (Ay.snd (Ay.snd Ay.here)) (congrArg (fun q : Int × (Int × (Int × Int × Int × Int) × (Int × Int × Int × Int)) × (List (Int × Int × Int)) => q.2.2) h4)) W) (CY (Aj h_v2) W) (At.re a_q_p1c0 W))) fun a w F W => ?_
   refine BV tk 2 F W fun a w F W => ?_
   refine B8 F Aa H (fun F H => ?_) fun F H => ?_
   ·
    refine vc tk 6 F W fun a w F W => ?_
    refine Al (Az ?_)
    iterate 2 refine Ap ?_
    refine Az (Ap ?_)
    have H := L2 _ H
    have H := L1 _ H
    have H := Aw H
    subst H
    refine Aq (.inl Aa) F W Aa (Ak F Aa) ?_
    exact ⟨rfl, W.done⟩
   refine AH (AV ?_)
   refine vn tk 4 F W fun a w F W => ?_
   refine Ad ?_
   exact ⟨_, H, F.ra Aa, W⟩
  refine Bz ?_
  iterate 2 refine B7 ?_
  refine BC (Ad ?_)
  have H := L2 _ H
  exact ⟨H, F.ra Aa, W⟩
 rintro a w ⟨hj, F, W⟩
 have H := K1 _ hj
 clear hj G1 K1 L1
 refine vc tk 5 F W fun a w F W => ?_
 refine Al ?_
 have H := Aw H
 subst H
 refine Aq (.inl Aa) F W Aa (Ak F Aa) ?_
 exact ⟨rfl, W.done⟩
noncomputable def Ao (p0 : List (Int × (Int × (Int × Int × Int × Int) × (Int × Int × Int × Int)) × (List (Int × Int × Int)))) (p1c0 : Int × (Int × (Int × Int × Int × Int) × (Int × Int × Int × Int)) × (List (Int × Int × Int))) : Option Bool := (AR p0 p1c0).bind fun x1 => some (decide (0 ≤ x1))
theorem BB (Y : Nat → Prop) (w0 : World) (v1 : Value) (q_p1c0 : Nat) (v2 : Value) (p0 : List (Int × (Int × (Int × Int × Int × Int) × (Int × Int × Int × Int)) × (List (Int × Int × Int)))) (p1c0 : Int × (Int × (Int × Int × Int × Int) × (Int × Int × Int × Int)) × (List (Int × Int × Int))) (r : Bool) (H : Ao p0 p1c0 = some r) (h_v1 : Sl w0 (NX []) A5 v1 p0) (h_v2 : Sl w0 (NX []) Bl v2 p1c0.2.2) (a_q_p1c0 : At ⟨Y, [], w0⟩ q_p1c0 0 [.int .i64 p1c0.1, .int .i64 p1c0.2.1.1, .int .i64 p1c0.2.1.2.1.1, .int .i64 p1c0.2.1.2.1.2.1, .int .i64 p1c0.2.1.2.1.2.2.1, .int .i64 p1c0.2.1.2.1.2.2.2, .int .i64 p1c0.2.1.2.2.1, .int .i64 p1c0.2.1.2.2.2.1, .int .i64 p1c0.2.1.2.2.2.2.1, .int .i64 p1c0.2.1.2.2.2.2.2, v2]) :
    Calls Try.prog 51 #[v1, .func (.func 73) #[] #[.pointer (some ⟨q_p1c0, 0, none⟩)]] w0 fun e w' => e = .returned (.bool r) ∧ Below w0.heap.size w0 w' := by
 refine enter Try.func51 Aa Try.ntmps51 Aa fun a F => ?_
 have W := Stw.start Y w0
 obtain ⟨v3, h1, h_v1⟩ := h_v1.ex BH
 unfold Ao at H
 refine vc tk 9 F W fun a w F W => ?_
 obtain ⟨x1, h2, H⟩ := Ah H
 refine ls F W Aa (AU (v := Value.int .i64 x1) F P7 Aa (fun w W => Cm any w (v1) q_p1c0 (v2) p0 p1c0 _ h2 (CY (A6 BH h1 (Aj h_v1)) W) (CY (Aj h_v2) W) (At.re a_q_p1c0 W))) fun a w F W => ?_
 refine BV tk 4 F W fun a w F W => ?_
 refine Al ?_
 have H := Aw H
 subst H
 refine Aq (.inl Aa) F W Aa (Ak F Aa) ?_
 exact ⟨rfl, W.done⟩
noncomputable def Dy (p0 : List (Int × (Int × (Int × Int × Int × Int) × (Int × Int × Int × Int)) × (List (Int × Int × Int)))) (p1 : Int × (Int × (Int × Int × Int × Int) × (Int × Int × Int × Int)) × (List (Int × Int × Int))) (p2c0 : Int × (Int × (Int × Int × Int × Int) × (Int × Int × Int × Int)) × (List (Int × Int × Int))) : ((List (Int × (Int × (Int × Int × Int × Int) × (Int × Int × Int × Int)) × (List (Int × Int × Int)))) × Int) → Option (((List (Int × (Int × (Int × Int × Int × Int) × (Int × Int × Int × Int)) × (List (Int × Int × Int)))) × Int) ⊕ (List (Int × (Int × (Int × Int × Int × Int) × (Int × Int × Int × Int)) × (List (Int × Int × Int)))))
  | (x2, x3) => (if x3 < (p0.length : Int) then ((ix x2 x3).bind fun x5 => (if (B5 x5 p2c0) = true then (BP p1).bind fun x6 => (ix x2 x3).bind fun x7 => some (C9 x2 x3 (x7.1, x7.2.1, x6.2.2)) else some x2)).bind fun x4 => some (.inl (x4, Cs (x3 + 1))) else some (.inr x2))
noncomputable def Cu (p0 : List (Int × (Int × (Int × Int × Int × Int) × (Int × Int × Int × Int)) × (List (Int × Int × Int)))) (p1 : Int × (Int × (Int × Int × Int × Int) × (Int × Int × Int × Int)) × (List (Int × Int × Int))) (p2c0 : Int × (Int × (Int × Int × Int × Int) × (Int × Int × Int × Int)) × (List (Int × Int × Int))) : Option (List (Int × (Int × (Int × Int × Int × Int) × (Int × Int × Int × Int)) × (List (Int × Int × Int)))) := (AJ (Dy p0 p1 p2c0) (p0, 0)).bind fun x1 => some x1
theorem F0 (Y : Nat → Prop) (X : List Nat) (w0 : World) (v1 : Value) (v2 : Value) (q_p2c0 : Nat) (v3 : Value) (p0 : List (Int × (Int × (Int × Int × Int × Int) × (Int × Int × Int × Int)) × (List (Int × Int × Int)))) (p1 : Int × (Int × (Int × Int × Int × Int) × (Int × Int × Int × Int)) × (List (Int × Int × Int))) (p2c0 : Int × (Int × (Int × Int × Int × Int) × (Int × Int × Int × Int)) × (List (Int × Int × Int))) (r : (List (Int × (Int × (Int × Int × Int × Int) × (Int × Int × Int × Int)) × (List (Int × Int × Int))))) (H : Cu p0 p1 p2c0 = some r) (s_v2 : Sl w0 Y Bl v2 p1.2.2) (h_v3 : Sl w0 (NX X) Bl v3 p2c0.2.2) (a_q_p2c0 : At ⟨Y, X, w0⟩ q_p2c0 0 [.int .i64 p2c0.1, .int .i64 p2c0.2.1.1, .int .i64 p2c0.2.1.2.1.1, .int .i64 p2c0.2.1.2.1.2.1, .int .i64 p2c0.2.1.2.1.2.2.1, .int .i64 p2c0.2.1.2.1.2.2.2, .int .i64 p2c0.2.1.2.2.1, .int .i64 p2c0.2.1.2.2.2.1, .int .i64 p2c0.2.1.2.2.2.2.1, .int .i64 p2c0.2.1.2.2.2.2.2, v3]) (hL : Stw ⟨Y, X, w0⟩ [] [row v1 37 A5 p0] w0) :
    Calls Try.prog 49 #[v1, .agg #[.int .i64 p1.1, .int .i64 p1.2.1.1, .int .i64 p1.2.1.2.1.1, .int .i64 p1.2.1.2.1.2.1, .int .i64 p1.2.1.2.1.2.2.1, .int .i64 p1.2.1.2.1.2.2.2, .int .i64 p1.2.1.2.2.1, .int .i64 p1.2.1.2.2.2.1, .int .i64 p1.2.1.2.2.2.2.1, .int .i64 p1.2.1.2.2.2.2.2, v2], .func (.func 73) #[] #[.pointer (some ⟨q_p2c0, 0, none⟩)]] w0 fun e w' => ∃ x : Value, e = .returned (x) ∧ Stw ⟨Y, X, w0⟩ [] [row (x) 37 A5 r] w' := by
 refine enter Try.func49 Aa Try.ntmps49 Aa fun a F => ?_
 have W := hL
 have h_v2 := W.nx s_v2
 unfold Cu at H
 refine vc tk 2 F W fun a w F W => ?_
 refine B1 (cs := (Ed p1 v2)) F W Aa Aa Aa fun b1 a w F W => ?_
 refine vl tk 2 F W fun a w F W => ?_
 refine Ad ?_
 obtain ⟨o1, G1, K1⟩ := Ah H
 refine AC (fun a w => ∃ x1 : List (Int × (Int × (Int × Int × Int × Int) × (Int × Int × Int × Int)) × (List (Int × Int × Int))), some (x1) = some o1 ∧ Fr 28 [] [(0, v1), (6, .slice none 0 0)] a ∧ Stw ⟨Y, X, w0⟩ (He b1 p1 v2) [row v1 37 A5 x1] w) ?_ ?_
 ·
  have H := G1
  clear G1 K1
  refine vc tk 3 F W fun a w F W => ?_
  refine ls F W Aa (BQ (r := A5) (l := p0) E2 Aa F Aa (A4 0 Aa)).q fun a w F W => ?_
  refine BV tk 4 F W fun a w F W => ?_
  refine BI H (fun s a w => Fr 28 [] [(0, v1), (2, .func (.func 73) #[] #[.pointer (some ⟨q_p2c0, 0, none⟩)]), (4, .pointer (some ⟨b1, 0, none⟩)), (6, .slice none 0 0), (9, v1), (10, .int .i64 (p0.length : Int)), (11, .int .i64 s.2)] a ∧ Stw ⟨Y, X, w0⟩ (He b1 p1 v2) [row v1 37 A5 s.1] w) ⟨F.ra Aa, W⟩ fun s o a w H L2 hR => ?_
  obtain ⟨x2, x3⟩ := s
  obtain ⟨F, W⟩ := hR
  have F : Fr 28 [] [(0, v1), (2, .func (.func 73) #[] #[.pointer (some ⟨q_p2c0, 0, none⟩)]), (4, .pointer (some ⟨b1, 0, none⟩)), (6, .slice none 0 0), (9, v1), (10, .int .i64 (p0.length : Int)), (11, .int .i64 x3)] a := F
  have W : Stw ⟨Y, X, w0⟩ (He b1 p1 v2) [row v1 37 A5 x2] w := W
  rw [Dy] at H
  refine vc tk 6 F W fun a w F W => ?_
  refine Br F Aa H (fun F H => ?_) fun F H => ?_
  ·
   refine AH (Ad ?_)
   obtain ⟨o3, G3, K3⟩ := Ah H
   refine AC (fun a w => ∃ x4 : List (Int × (Int × (Int × Int × Int × Int) × (Int × Int × Int × Int)) × (List (Int × Int × Int))), some (x4) = some o3 ∧ Fr 28 [] [(0, v1), (2, .func (.func 73) #[] #[.pointer (some ⟨q_p2c0, 0, none⟩)]), (4, .pointer (some ⟨b1, 0, none⟩)), (6, .slice none 0 0), (9, v1), (10, .int .i64 (p0.length : Int)), (11, .int .i64 x3)] a ∧ Stw ⟨Y, X, w0⟩ (He b1 p1 v2) [row v1 37 A5 x4] w) ?_ ?_
   ·
    have H := G3
    clear G3 K3
    refine vc tk 2 F W fun a w F W => ?_
    obtain ⟨v4, h1, W⟩ := W.exR BH
    refine vc tk 2 F W fun a w F W => ?_
    obtain ⟨x5, h2, H⟩ := Ah H
    obtain ⟨v5, h3, h4⟩ := Ck h1 h2
    have h5 : CK v5 = [.int .i64 x5.1, .int .i64 x5.2.1.1, .int .i64 x5.2.1.2.1.1, .int .i64 x5.2.1.2.1.2.1, .int .i64 x5.2.1.2.1.2.2.1, .int .i64 x5.2.1.2.1.2.2.2, .int .i64 x5.2.1.2.2.1, .int .i64 x5.2.1.2.2.2.1, .int .i64 x5.2.1.2.2.2.2.1, .int .i64 x5.2.1.2.2.2.2.2, (v5.2.2.1)] := congrArg (fun q : Int × (Int × (Int × Int × Int × Int) × (Int × Int × Int × Int)) × (List (Int × Int × Int)) => ([.int .i64 q.1, .int .i64 q.2.1.1, .int .i64 q.2.1.2.1.1, .int .i64 q.2.1.2.1.2.1, .int .i64 q.2.1.2.1.2.2.1, .int .i64 q.2.1.2.1.2.2.2, .int .i64 q.2.1.2.2.1, .int .i64 q.2.1.2.2.2.1, .int .i64 q.2.1.2.2.2.2.1, .int .i64 q.2.1.2.2.2.2.2, (v5.2.2.1)] : List Value)) h4
    refine ls F W Aa (A8 (r := DU) FQ F Aa Aa (A4 0 Aa) h3).q fun a w F W => ?_
    refine ls F W Aa (AE (y := Value.agg #[.int .i64 x5.1, .int .i64 x5.2.1.1, .int .i64 x5.2.1.2.1.1, .int .i64 x5.2.1.2.1.2.1, .int .i64 x5.2.1.2.1.2.2.1, .int .i64 x5.2.1.2.1.2.2.2, .int .i64 x5.2.1.2.2.1, .int .i64 x5.2.1.2.2.2.1, .int .i64 x5.2.1.2.2.2.2.1, .int .i64 x5.2.1.2.2.2.2.2, (v5.2.2.1)]) (j := 0) (i := x3) (enc := CK) F Aa Aa (A4 0 Aa) h3 Fo Fk (by rw [h5]; rfl)).q fun a w F W => ?_
    have W := W.note (W.rowAt (k := 0) Aa h3 (Ay.snd (Ay.snd Ay.here)) (congrArg (fun q : Int × (Int × (Int × Int × Int × Int) × (Int × Int × Int × Int)) × (List (Int × Int × Int)) => q.2.2) h4))
    refine Cn (cs := (Ig)) F W Aa Mx Aa fun b2 a w F W => ?_
    refine ls F W Aa (BK F Aa).q fun a w F W => ?_
    refine EJ 0 F W Aa Aa Aa Fk Aa Aa (Ac Aa (Ac Aa (Ac Aa (Ac Aa (Ac Aa (Ac Aa (Ac Aa (Ac Aa (Ac Aa (Ac Aa (Ac (W.oneF (k := 0) Aa) Ct))))))))))) fun w W => ?_
    refine EY tk 6 [0] F W (ai fun a w F W => ?_)
    refine ls F W Aa (EH (ws := [.agg #[.int .i64 x5.1, .int .i64 x5.2.1.1, .int .i64 x5.2.1.2.1.1, .int .i64 x5.2.1.2.1.2.1, .int .i64 x5.2.1.2.1.2.2.1, .int .i64 x5.2.1.2.1.2.2.2, .int .i64 x5.2.1.2.2.1, .int .i64 x5.2.1.2.2.2.1, .int .i64 x5.2.1.2.2.2.2.1, .int .i64 x5.2.1.2.2.2.2.2, (v5.2.2.1)], .pointer (some ⟨q_p2c0, 0, none⟩)]) (v := Value.bool (B5 x5 p2c0)) F QL Aa (fun w W => Ev any w ((v5.2.2.1)) q_p2c0 (v3) x5 p2c0 _ Aa (CY (Ds 0 Aa) W) (CY (Aj h_v3) W) (At.re a_q_p2c0 W))) fun a w F W => ?_
    refine BV tk 2 F W fun a w F W => ?_
    refine B8 F Aa H (fun F H => ?_) fun F H => ?_
    ·
     refine Gh tk 4 [1] F W (ai fun a w F W => ?_)
     obtain ⟨x6, h6, H⟩ := Ah H
     refine AB (Ml := []) (Zl := []) (β := Value) (rv := fun x => .agg #[.int .i64 x6.1, .int .i64 x6.2.1.1, .int .i64 x6.2.1.2.1.1, .int .i64 x6.2.1.2.1.2.1, .int .i64 x6.2.1.2.1.2.2.1, .int .i64 x6.2.1.2.1.2.2.2, .int .i64 x6.2.1.2.2.1, .int .i64 x6.2.1.2.2.2.1, .int .i64 x6.2.1.2.2.2.2.1, .int .i64 x6.2.1.2.2.2.2.2, x]) (MM := fun x => []) (ZZ := fun x => [row x 88 Bl x6.2.2]) F W Qq Aa Aa (fun hL => C3 _ w (v2) p1 _ h6 (W.old s_v2)) fun x a w F W => ?_
     obtain ⟨v6, rfl⟩ : ∃ y, y = x := ⟨x, rfl⟩
     have W : Stw ⟨Y, X, w0⟩ [(b2, [.int .i64 x5.1, .int .i64 x5.2.1.1, .int .i64 x5.2.1.2.1.1, .int .i64 x5.2.1.2.1.2.1, .int .i64 x5.2.1.2.1.2.2.1, .int .i64 x5.2.1.2.1.2.2.2, .int .i64 x5.2.1.2.2.1, .int .i64 x5.2.1.2.2.2.1, .int .i64 x5.2.1.2.2.2.2.1, .int .i64 x5.2.1.2.2.2.2.2, (v5.2.2.1)]), (b1, (Ed p1 v2))] [row v6 88 Bl x6.2.2, BD (v5.2.2.1) Bl x5.2.2, row v1 37 DU v4] w := W
     refine ls F W Aa (Jx (v := v6) J4 Aa Aa Aa NM F Aa Aa).q fun a w F W => ?_
     obtain ⟨x7, h7, H⟩ := Ah H
     obtain ⟨v7, h8, h9⟩ := Ck h1 h7
     have h10 : CK v7 = [.int .i64 x7.1, .int .i64 x7.2.1.1, .int .i64 x7.2.1.2.1.1, .int .i64 x7.2.1.2.1.2.1, .int .i64 x7.2.1.2.1.2.2.1, .int .i64 x7.2.1.2.1.2.2.2, .int .i64 x7.2.1.2.2.1, .int .i64 x7.2.1.2.2.2.1, .int .i64 x7.2.1.2.2.2.2.1, .int .i64 x7.2.1.2.2.2.2.2, (v7.2.2.1)] := congrArg (fun q : Int × (Int × (Int × Int × Int × Int) × (Int × Int × Int × Int)) × (List (Int × Int × Int)) => ([.int .i64 q.1, .int .i64 q.2.1.1, .int .i64 q.2.1.2.1.1, .int .i64 q.2.1.2.1.2.1, .int .i64 q.2.1.2.1.2.2.1, .int .i64 q.2.1.2.1.2.2.2, .int .i64 q.2.1.2.2.1, .int .i64 q.2.1.2.2.2.1, .int .i64 q.2.1.2.2.2.2.1, .int .i64 q.2.1.2.2.2.2.2, (v7.2.2.1)] : List Value)) h9
     refine ls F W Aa (A8 (r := DU) FQ F Aa Aa (A4 2 Aa) h8).q fun a w F W => ?_
     refine ls F W Aa (An J4 Aa Aa Aa NM F Aa (F5 v1 + (x3).toNat * 11 + 10) Aa).q fun a w F W => ?_
     have W := W.freeze
     have W := W.frontZ (i := 2) Aa Aa
     have W := W.hideR BH h1
     refine EO (r := A5) (i := x3) (j := 10) (vs := [v6]) (x' := (x7.1, x7.2.1, x6.2.2)) F W rfl rfl rfl (k := 0) rfl rfl h7 NM (Gu (W.oneF (k := 1) rfl)) rfl rfl (Ac (W.oneF (k := 1) rfl) Ct) (fun A cs hA hc => by obtain ⟨z, hz, hc⟩ := BH.to hc; have e1 := Fo hc; have e2 : CK z = [.int .i64 x7.1, .int .i64 x7.2.1.1, .int .i64 x7.2.1.2.1.1, .int .i64 x7.2.1.2.1.2.1, .int .i64 x7.2.1.2.1.2.2.1, .int .i64 x7.2.1.2.1.2.2.2, .int .i64 x7.2.1.2.2.1, .int .i64 x7.2.1.2.2.2.1, .int .i64 x7.2.1.2.2.2.2.1, .int .i64 x7.2.1.2.2.2.2.2, (z.2.2.1)] := (congrArg (fun q : Int × (Int × (Int × Int × Int × Int) × (Int × Int × Int × Int)) × (List (Int × Int × Int)) => ([.int .i64 q.1, .int .i64 q.2.1.1, .int .i64 q.2.1.2.1.1, .int .i64 q.2.1.2.1.2.1, .int .i64 q.2.1.2.1.2.2.1, .int .i64 q.2.1.2.1.2.2.2, .int .i64 q.2.1.2.2.1, .int .i64 q.2.1.2.2.2.1, .int .i64 q.2.1.2.2.2.2.1, .int .i64 q.2.1.2.2.2.2.2, (z.2.2.1)] : List Value)) hz); rw [e1, e2]; exact ⟨[Value.int .i64 x7.1], [Value.int .i64 x7.2.1.1, Value.int .i64 x7.2.1.2.1.1, Value.int .i64 x7.2.1.2.1.2.1, Value.int .i64 x7.2.1.2.1.2.2.1, Value.int .i64 x7.2.1.2.1.2.2.2, Value.int .i64 x7.2.1.2.2.1, Value.int .i64 x7.2.1.2.2.2.1, Value.int .i64 x7.2.1.2.2.2.2.1, Value.int .i64 x7.2.1.2.2.2.2.2, v6], rfl, rfl, ⟨[Value.int .i64 x7.2.1.1, Value.int .i64 x7.2.1.2.1.1, Value.int .i64 x7.2.1.2.1.2.1, Value.int .i64 x7.2.1.2.1.2.2.1, Value.int .i64 x7.2.1.2.1.2.2.2, Value.int .i64 x7.2.1.2.2.1, Value.int .i64 x7.2.1.2.2.2.1, Value.int .i64 x7.2.1.2.2.2.2.1, Value.int .i64 x7.2.1.2.2.2.2.2], [v6], rfl, ⟨[Value.int .i64 x7.2.1.1], [Value.int .i64 x7.2.1.2.1.1, Value.int .i64 x7.2.1.2.1.2.1, Value.int .i64 x7.2.1.2.1.2.2.1, Value.int .i64 x7.2.1.2.1.2.2.2, Value.int .i64 x7.2.1.2.2.1, Value.int .i64 x7.2.1.2.2.2.1, Value.int .i64 x7.2.1.2.2.2.2.1, Value.int .i64 x7.2.1.2.2.2.2.2], rfl, rfl, ⟨[Value.int .i64 x7.2.1.2.1.1, Value.int .i64 x7.2.1.2.1.2.1, Value.int .i64 x7.2.1.2.1.2.2.1, Value.int .i64 x7.2.1.2.1.2.2.2], [Value.int .i64 x7.2.1.2.2.1, Value.int .i64 x7.2.1.2.2.2.1, Value.int .i64 x7.2.1.2.2.2.2.1, Value.int .i64 x7.2.1.2.2.2.2.2], rfl, ⟨[Value.int .i64 x7.2.1.2.1.1], [Value.int .i64 x7.2.1.2.1.2.1, Value.int .i64 x7.2.1.2.1.2.2.1, Value.int .i64 x7.2.1.2.1.2.2.2], rfl, rfl, ⟨[Value.int .i64 x7.2.1.2.1.2.1], [Value.int .i64 x7.2.1.2.1.2.2.1, Value.int .i64 x7.2.1.2.1.2.2.2], rfl, rfl, ⟨[Value.int .i64 x7.2.1.2.1.2.2.1], [Value.int .i64 x7.2.1.2.1.2.2.2], rfl, rfl, rfl⟩⟩⟩, ⟨[Value.int .i64 x7.2.1.2.2.1], [Value.int .i64 x7.2.1.2.2.2.1, Value.int .i64 x7.2.1.2.2.2.2.1, Value.int .i64 x7.2.1.2.2.2.2.2], rfl, rfl, ⟨[Value.int .i64 x7.2.1.2.2.2.1], [Value.int .i64 x7.2.1.2.2.2.2.1, Value.int .i64 x7.2.1.2.2.2.2.2], rfl, rfl, ⟨[Value.int .i64 x7.2.1.2.2.2.2.1], [Value.int .i64 x7.2.1.2.2.2.2.2], rfl, rfl, rfl⟩⟩⟩⟩⟩, ⟨_, rfl, (Sl.stab (W.item (i := 1) rfl) (fun b hb _ => ⟨hA b hb, rfl⟩))⟩⟩⟩) fun w W => ?_
     refine Ft (AV (Ad ?_))
     have W := W.frontM (i := 1) Aa Aa
     have W := W.sub (M' := (He b1 p1 v2)) (Z' := [row v1 37 A5 (C9 x2 x3 (x7.1, x7.2.1, x6.2.2))]) (List.Sublist.cons_cons _ (List.nil_sublist _)) (List.Sublist.cons_cons _ (List.nil_sublist _))
     exact ⟨_, H, F.ra Aa, W⟩
    refine AH (AV (Ad ?_))
    have W := W.frontZ (i := 1) Aa Aa
    have W := W.hideR BH h1
    have W := W.frontM (i := 1) Aa Aa
    have W := W.sub (M' := (He b1 p1 v2)) (Z' := [row v1 37 A5 x2]) (List.Sublist.cons_cons _ (List.nil_sublist _)) (List.Sublist.cons_cons _ (List.nil_sublist _))
    exact ⟨_, H, F.ra Aa, W⟩
   rintro a w ⟨x4, hj, F, W⟩
   have hj := Aw hj
   subst hj
   have H := K3
   clear G3 K3
   refine vc tk 4 F W fun a w F W => ?_
   refine Ad ?_
   exact ⟨_, H, F.ra Aa, W⟩
  refine Bz ?_
  iterate 2 refine B7 ?_
  refine BC (Ad ?_)
  have H := L2 _ H
  exact ⟨_, H, F.ra Aa, W⟩
 rintro a w ⟨x1, hj, F, W⟩
 have hj := Aw hj
 subst hj
 have H := K1
 clear G1 K1
 refine vc tk 6 F W fun a w F W => ?_
 refine Al ?_
 have H := Aw H
 subst H
 refine Aq (.inl Aa) F W Aa (Ak F Aa) ?_
 have W := W.sub (M' := []) (Z' := [row v1 37 A5 x1]) (List.nil_sublist _) (List.Sublist.refl _)
 exact ⟨(v1), Aa, W⟩
theorem Q3 : Has Try.prog 49 := B3 Try.func49
def FO (p0 : Int × (Int × (Int × Int × Int × Int) × (Int × Int × Int × Int)) × (List (Int × Int × Int))) (p1 : Int × (Int × (Int × Int × Int × Int) × (Int × Int × Int × Int)) × (List (Int × Int × Int))) : Bool := decide (p1.1 < p0.1)
theorem JE (Y : Nat → Prop) (w0 : World) (v1 : Value) (v2 : Value) (p0 : Int × (Int × (Int × Int × Int × Int) × (Int × Int × Int × Int)) × (List (Int × Int × Int))) (p1 : Int × (Int × (Int × Int × Int × Int) × (Int × Int × Int × Int)) × (List (Int × Int × Int))) (r : Bool) (H : FO p0 p1 = r) (h_v1 : Sl w0 (NX []) Bl v1 p0.2.2) (h_v2 : Sl w0 (NX []) Bl v2 p1.2.2) :
    Calls Try.prog 69 #[.agg #[.int .i64 p0.1, .int .i64 p0.2.1.1, .int .i64 p0.2.1.2.1.1, .int .i64 p0.2.1.2.1.2.1, .int .i64 p0.2.1.2.1.2.2.1, .int .i64 p0.2.1.2.1.2.2.2, .int .i64 p0.2.1.2.2.1, .int .i64 p0.2.1.2.2.2.1, .int .i64 p0.2.1.2.2.2.2.1, .int .i64 p0.2.1.2.2.2.2.2, v1], .agg #[.int .i64 p1.1, .int .i64 p1.2.1.1, .int .i64 p1.2.1.2.1.1, .int .i64 p1.2.1.2.1.2.1, .int .i64 p1.2.1.2.1.2.2.1, .int .i64 p1.2.1.2.1.2.2.2, .int .i64 p1.2.1.2.2.1, .int .i64 p1.2.1.2.2.2.1, .int .i64 p1.2.1.2.2.2.2.1, .int .i64 p1.2.1.2.2.2.2.2, v2]] w0 fun e w' => e = .returned (.bool r) ∧ Below w0.heap.size w0 w' := by
 refine enter Try.func69 Aa Try.ntmps69 Aa fun a F => ?_
 have W := Stw.start Y w0
 unfold FO at H
 refine vc tk 2 F W fun a w F W => ?_
 refine B1 (cs := (Ed p0 v1)) F W Aa Aa Aa fun b1 a w F W => ?_
 refine B1 (cs := (Ed p1 v2)) F W Aa Aa Aa fun b2 a w F W => ?_
 refine EY tk 13 [1, 0] F W (ai (ai fun a w F W => ?_))
 refine Al ?_
 subst H
 refine Aq (.inl Aa) F W Aa (Ak F Aa) ?_
 exact ⟨rfl, W.done⟩
theorem Sd : Has Try.prog 69 := B3 Try.func69
def Fc (p0 : Int × (Int × (Int × Int × Int × Int) × (Int × Int × Int × Int)) × (List (Int × Int × Int))) (p1 : Int × (Int × (Int × (Int × Int × Int × Int) × (Int × Int × Int × Int)) × (List (Int × Int × Int))) × Bool) : Bool := (FO p1.2.1 p0)
theorem I0 (Y : Nat → Prop) (w0 : World) (v1 : Value) (q_p1 : Nat) (v2 : Value) (p0 : Int × (Int × (Int × Int × Int × Int) × (Int × Int × Int × Int)) × (List (Int × Int × Int))) (p1 : Int × (Int × (Int × (Int × Int × Int × Int) × (Int × Int × Int × Int)) × (List (Int × Int × Int))) × Bool) (r : Bool) (H : Fc p0 p1 = r) (h_v1 : Sl w0 (NX []) Bl v1 p0.2.2) (h_v2 : Sl w0 (NX []) Bl v2 p1.2.1.2.2) (a_q_p1 : At ⟨Y, [], w0⟩ q_p1 0 [.int .i64 p1.1, .int .i64 p1.2.1.1, .int .i64 p1.2.1.2.1.1, .int .i64 p1.2.1.2.1.2.1.1, .int .i64 p1.2.1.2.1.2.1.2.1, .int .i64 p1.2.1.2.1.2.1.2.2.1, .int .i64 p1.2.1.2.1.2.1.2.2.2, .int .i64 p1.2.1.2.1.2.2.1, .int .i64 p1.2.1.2.1.2.2.2.1, .int .i64 p1.2.1.2.1.2.2.2.2.1, .int .i64 p1.2.1.2.1.2.2.2.2.2, v2, .bool p1.2.2]) :
    Calls Try.prog 68 #[.agg #[.int .i64 p0.1, .int .i64 p0.2.1.1, .int .i64 p0.2.1.2.1.1, .int .i64 p0.2.1.2.1.2.1, .int .i64 p0.2.1.2.1.2.2.1, .int .i64 p0.2.1.2.1.2.2.2, .int .i64 p0.2.1.2.2.1, .int .i64 p0.2.1.2.2.2.1, .int .i64 p0.2.1.2.2.2.2.1, .int .i64 p0.2.1.2.2.2.2.2, v1], .pointer (some ⟨q_p1, 0, none⟩)] w0 fun e w' => e = .returned (.bool r) ∧ Below w0.heap.size w0 w' := by
 refine enter Try.func68 Aa Try.ntmps68 Aa fun a F => ?_
 have W := Stw.start Y w0
 unfold Fc at H
 refine vc tk 2 F W fun a w F W => ?_
 refine B1 (cs := (Ed p0 v1)) F W Aa Aa Aa fun b1 a w F W => ?_
 refine BV tk 6 F W fun a w F W => ?_
 refine ls F W Aa (GA (y := Value.agg #[.int .i64 p1.2.1.1, .int .i64 p1.2.1.2.1.1, .int .i64 p1.2.1.2.1.2.1.1, .int .i64 p1.2.1.2.1.2.1.2.1, .int .i64 p1.2.1.2.1.2.1.2.2.1, .int .i64 p1.2.1.2.1.2.1.2.2.2, .int .i64 p1.2.1.2.1.2.2.1, .int .i64 p1.2.1.2.1.2.2.2.1, .int .i64 p1.2.1.2.1.2.2.2.2.1, .int .i64 p1.2.1.2.1.2.2.2.2.2, v2]) (j := 1) F Aa (Nat.zero_add _).symm a_q_p1 Fk Aa).q fun a w F W => ?_
 refine ls F W Aa (BR (v := Value.agg #[.int .i64 p0.1, .int .i64 p0.2.1.1, .int .i64 p0.2.1.2.1.1, .int .i64 p0.2.1.2.1.2.1, .int .i64 p0.2.1.2.1.2.2.1, .int .i64 p0.2.1.2.1.2.2.2, .int .i64 p0.2.1.2.2.1, .int .i64 p0.2.1.2.2.2.1, .int .i64 p0.2.1.2.2.2.2.1, .int .i64 p0.2.1.2.2.2.2.2, v1]) 0 F Aa Aa Fk Aa).q fun a w F W => ?_
 refine ls F W Aa (AU (v := Value.bool (FO p1.2.1 p0)) F Sd Aa (fun w W => JE any w (v2) (v1) p1.2.1 p0 _ Aa (CY (Aj h_v2) W) (CY (Aj h_v1) W))) fun a w F W => ?_
 refine BV tk 3 F W fun a w F W => ?_
 refine Al ?_
 subst H
 refine Aq (.inl Aa) F W Aa (Ak F Aa) ?_
 exact ⟨rfl, W.done⟩
theorem R9 : Has Try.prog 68 := B3 Try.func68
noncomputable def A1 (p0 : List (Int × (Int × (Int × Int × Int × Int) × (Int × Int × Int × Int)) × (List (Int × Int × Int)))) (p1c0 : Int × (Int × (Int × (Int × Int × Int × Int) × (Int × Int × Int × Int)) × (List (Int × Int × Int))) × Bool) : Int → Option (Int ⊕ (Unit ⊕ Int))
  | x1 => (if x1 < (p0.length : Int) then (ix p0 x1).bind fun x2 => (if (Fc x2 p1c0) = true then some (.inr (.inr x1)) else some (.inl (Cs (x1 + 1)))) else some (.inr (.inl ())))
noncomputable def AS (p0 : List (Int × (Int × (Int × Int × Int × Int) × (Int × Int × Int × Int)) × (List (Int × Int × Int)))) (p1c0 : Int × (Int × (Int × (Int × Int × Int × Int) × (Int × Int × Int × Int)) × (List (Int × Int × Int))) × Bool) : Option Int := Fu (AJ (A1 p0 p1c0) 0) fun _ => some (-1)
theorem Do (Y : Nat → Prop) (w0 : World) (v1 : Value) (q_p1c0 : Nat) (v2 : Value) (p0 : List (Int × (Int × (Int × Int × Int × Int) × (Int × Int × Int × Int)) × (List (Int × Int × Int)))) (p1c0 : Int × (Int × (Int × (Int × Int × Int × Int) × (Int × Int × Int × Int)) × (List (Int × Int × Int))) × Bool) (r : Int) (H : AS p0 p1c0 = some r) (h_v1 : Sl w0 (NX []) A5 v1 p0) (h_v2 : Sl w0 (NX []) Bl v2 p1c0.2.1.2.2) (a_q_p1c0 : At ⟨Y, [], w0⟩ q_p1c0 0 [.int .i64 p1c0.1, .int .i64 p1c0.2.1.1, .int .i64 p1c0.2.1.2.1.1, .int .i64 p1c0.2.1.2.1.2.1.1, .int .i64 p1c0.2.1.2.1.2.1.2.1, .int .i64 p1c0.2.1.2.1.2.1.2.2.1, .int .i64 p1c0.2.1.2.1.2.1.2.2.2, .int .i64 p1c0.2.1.2.1.2.2.1, .int .i64 p1c0.2.1.2.1.2.2.2.1, .int .i64 p1c0.2.1.2.1.2.2.2.2.1, .int .i64 p1c0.2.1.2.1.2.2.2.2.2, v2, .bool p1c0.2.2]) :
    Calls Try.prog 67 #[v1, .func (.func 68) #[] #[.pointer (some ⟨q_p1c0, 0, none⟩)]] w0 fun e w' => e = .returned (.int .i64 r) ∧ Below w0.heap.size w0 w' := by
 refine enter Try.func67 Aa Try.ntmps67 Aa fun a F => ?_
 have W := Stw.start Y w0
 obtain ⟨v3, h1, h_v1⟩ := h_v1.ex BH
 unfold AS at H
 refine vc tk 5 F W fun a w F W => ?_
 obtain ⟨o1, G1, K1, L1⟩ := IZ H
 refine AC (fun a w => some (Sum.inl ()) = some o1 ∧ Fr 19 [] [(4, .int .i64 0)] a ∧ Stw ⟨Y, [], w0⟩ [] [] w) ?_ ?_
 ·
  have H := G1
  clear G1 K1
  refine vc tk 3 F W fun a w F W => ?_
  refine ls F W Aa (BQ (r := A5) (l := p0) E2 Aa F Aa (A6 BH h1 (Aj h_v1))).q fun a w F W => ?_
  refine BV tk 4 F W fun a w F W => ?_
  refine BI H (fun s a w => Fr 19 [] [(0, v1), (1, .func (.func 68) #[] #[.pointer (some ⟨q_p1c0, 0, none⟩)]), (4, .int .i64 0), (7, .int .i64 (p0.length : Int)), (8, .int .i64 s)] a ∧ Stw ⟨Y, [], w0⟩ [] [] w) ⟨F.ra Aa, W⟩ fun s o a w H L2 hR => ?_
  obtain ⟨x1, rfl⟩ : ∃ x, x = s := ⟨s, rfl⟩
  obtain ⟨F, W⟩ := hR
  have F : Fr 19 [] [(0, v1), (1, .func (.func 68) #[] #[.pointer (some ⟨q_p1c0, 0, none⟩)]), (4, .int .i64 0), (7, .int .i64 (p0.length : Int)), (8, .int .i64 x1)] a := F
  have W : Stw ⟨Y, [], w0⟩ [] [] w := W
  rw [A1] at H
  refine vc tk 6 F W fun a w F W => ?_
  refine Br F Aa H (fun F H => ?_) fun F H => ?_
  ·
   refine E8 tk 15 F W fun a w F W => ?_
   obtain ⟨x2, h2, H⟩ := Ah H
   obtain ⟨v4, h3, h4⟩ := Ck h1 h2
   have h5 : CK v4 = [.int .i64 x2.1, .int .i64 x2.2.1.1, .int .i64 x2.2.1.2.1.1, .int .i64 x2.2.1.2.1.2.1, .int .i64 x2.2.1.2.1.2.2.1, .int .i64 x2.2.1.2.1.2.2.2, .int .i64 x2.2.1.2.2.1, .int .i64 x2.2.1.2.2.2.1, .int .i64 x2.2.1.2.2.2.2.1, .int .i64 x2.2.1.2.2.2.2.2, (v4.2.2.1)] := congrArg (fun q : Int × (Int × (Int × Int × Int × Int) × (Int × Int × Int × Int)) × (List (Int × Int × Int)) => ([.int .i64 q.1, .int .i64 q.2.1.1, .int .i64 q.2.1.2.1.1, .int .i64 q.2.1.2.1.2.1, .int .i64 q.2.1.2.1.2.2.1, .int .i64 q.2.1.2.1.2.2.2, .int .i64 q.2.1.2.2.1, .int .i64 q.2.1.2.2.2.1, .int .i64 q.2.1.2.2.2.2.1, .int .i64 q.2.1.2.2.2.2.2, (v4.2.2.1)] : List Value)) h4
   refine ls F W Aa (A8 (r := DU) FQ F Aa Aa (Aj h_v1) h3).q fun a w F W => ?_
   refine ls F W Aa (AE (y := Value.agg #[.int .i64 x2.1, .int .i64 x2.2.1.1, .int .i64 x2.2.1.2.1.1, .int .i64 x2.2.1.2.1.2.1, .int .i64 x2.2.1.2.1.2.2.1, .int .i64 x2.2.1.2.1.2.2.2, .int .i64 x2.2.1.2.2.1, .int .i64 x2.2.1.2.2.2.1, .int .i64 x2.2.1.2.2.2.2.1, .int .i64 x2.2.1.2.2.2.2.2, (v4.2.2.1)]) (j := 0) (i := x1) (enc := CK) F Aa Aa (Aj h_v1) h3 Fo Fk (by rw [h5]; rfl)).q fun a w F W => ?_
   refine ls F W Aa (EH (ws := [.agg #[.int .i64 x2.1, .int .i64 x2.2.1.1, .int .i64 x2.2.1.2.1.1, .int .i64 x2.2.1.2.1.2.1, .int .i64 x2.2.1.2.1.2.2.1, .int .i64 x2.2.1.2.1.2.2.2, .int .i64 x2.2.1.2.2.1, .int .i64 x2.2.1.2.2.2.1, .int .i64 x2.2.1.2.2.2.2.1, .int .i64 x2.2.1.2.2.2.2.2, (v4.2.2.1)], .pointer (some ⟨q_p1c0, 0, none⟩)]) (v := Value.bool (Fc x2 p1c0)) F R9 Aa (fun w W => I0 any w ((v4.2.2.1)) q_p1c0 (v2) x2 p1c0 _ Aa (CY (Dr (Aj h_v1) h3 (Ay.snd (Ay.snd Ay.here)) (congrArg (fun q : Int × (Int × (Int × Int × Int × Int) × (Int × Int × Int × Int)) × (List (Int × Int × Int)) => q.2.2) h4)) W) (CY (Aj h_v2) W) (At.re a_q_p1c0 W))) fun a w F W => ?_
   refine BV tk 2 F W fun a w F W => ?_
   refine B8 F Aa H (fun F H => ?_) fun F H => ?_
   ·
    refine vc tk 6 F W fun a w F W => ?_
    refine Al (Az ?_)
    iterate 2 refine Ap ?_
    refine Az (Ap ?_)
    have H := L2 _ H
    have H := L1 _ H
    have H := Aw H
    subst H
    refine Aq (.inl Aa) F W Aa (Ak F Aa) ?_
    exact ⟨rfl, W.done⟩
   refine AH (AV ?_)
   refine vn tk 4 F W fun a w F W => ?_
   refine Ad ?_
   exact ⟨_, H, F.ra Aa, W⟩
  refine Bz ?_
  iterate 2 refine B7 ?_
  refine BC (Ad ?_)
  have H := L2 _ H
  exact ⟨H, F.ra Aa, W⟩
 rintro a w ⟨hj, F, W⟩
 have H := K1 _ hj
 clear hj G1 K1 L1
 refine vc tk 5 F W fun a w F W => ?_
 refine Al ?_
 have H := Aw H
 subst H
 refine Aq (.inl Aa) F W Aa (Ak F Aa) ?_
 exact ⟨rfl, W.done⟩
end Go.Proofs.Ytfnmlmglmegamaa
