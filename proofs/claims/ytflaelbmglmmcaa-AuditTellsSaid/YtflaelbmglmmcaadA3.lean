/- The functions of layer 42, FF. Conditions: none. -/
import Derived.Test.YtflaelbmglmmcaadA2
namespace Go.Proofs.Ytflaelbmglmmcaa
open Go Go.RowKit
set_option linter.unusedVariables false
set_option linter.unusedSimpArgs false
set_option maxRecDepth 20000
theorem Q4 : Has Try.prog 31 := ⟨fun args w => Al Try.func31 rfl (by decide) args w⟩
noncomputable def Ch (p0 : Int × (List (Int × Int × Int × Int × Int × Int)) × (List (Int × Int))) (p1 : List (List (List Int))) (x1 : ((List (Int × Int × Int)) × (List (Int × Int)))) (x3 : (List (Int × Int × Int × Int × List Int × Int × Int × Int))) : ((List (Int × Int)) × Int) → Option (((List (Int × Int)) × Int) ⊕ (List (Int × Int)))
  | (x4, x5) => (if x5 < (x3.length : Int) then ((ix x3 x5).bind fun x7 => ((Dl x7).bind fun x9 => (if x9 = true then (FR x4 ([(1, x7.1)] : List (Int × Int))).bind fun x10 => some x10 else some x4)).bind fun x8 => (if x7.2.2.2.2.2.1 = 4 then (FR x8 ([(2, x7.1)] : List (Int × Int))).bind fun x12 => some x12 else some x8).bind fun x11 => (if (decide (x7.2.2.2.2.2.1 = 3) && decide (x7.2.2.2.2.2.2.1 ≠ x7.2.2.1)) = true then (FR x11 ([(3, x7.1)] : List (Int × Int))).bind fun x14 => some x14 else some x11).bind fun x13 => (if 0 < (x7.2.2.2.2.1.length : Int) then (Bh x1 x7.2.2.2.1).bind fun x16 => (if (!x16) = true then (Bq x1 x7.2.2.2.1).bind fun x17 => (Co p0 p1 x17 x7).bind fun x18 => some (!x18) else some false) else some false).bind fun x15 => (if x15 = true then (FR x13 ([(4, x7.1)] : List (Int × Int))).bind fun x19 => some x19 else some x13)).bind fun x6 => some (.inl (x6, Dz (x5 + 1))) else some (.inr x4))
noncomputable def C1 (p0 : Int × (List (Int × Int × Int × Int × Int × Int)) × (List (Int × Int))) (p1 : List (List (List Int))) (p2 : List (Int × Int × Int × Int × Int × Int)) : Option (List (Int × Int)) := (Dr p2).bind fun x1 => ((FP p2).bind fun x3 => AM (Ch p0 p1 x1 x3) ([], 0)).bind fun x2 => some x2
theorem Gc (Y : Nat → Prop) (w0 : World) (v1 : Value) (v2 : Value) (v3 : Value) (v4 : Value) (p0 : Int × (List (Int × Int × Int × Int × Int × Int)) × (List (Int × Int))) (p1 : List (List (List Int))) (p2 : List (Int × Int × Int × Int × Int × Int)) (r : (List (Int × Int))) (H : C1 p0 p1 p2 = some r) (h_v1 : Sl w0 (NX []) C8 v1 p0.2.1) (h_v2 : Sl w0 (NX []) EL v2 p0.2.2) (h_v3 : Sl w0 (NX []) (Rp.slice (Rp.slice (Rp.int .i64))) v3 p1) (h_v4 : Sl w0 (NX []) Ej v4 p2) :
    Calls Try.prog 17 #[.agg #[.int .i64 p0.1, v1, v2], v3, v4] w0 fun e w' => ∃ x : Value, e = .returned (x) ∧ Stw ⟨Y, [], w0⟩ [] [row (x) 45 E2 r] w' := by
 refine enter Try.func17 Aa Try.ntmps17 Aa fun a F => ?_
 have W := Stw.start Y w0
 obtain ⟨v5, h1, h_v3⟩ := h_v3.ex Hw
 unfold C1 at H
 refine Ai (Ac ?_)
 refine B9 (cs := [.int .i64 p0.1, v1, v2]) F W Aa Aa Aa fun b1 a w F W => ?_
 refine ls F W Aa (Ah F Aa).q fun a w F W => ?_
 refine Ad (Ab (Ai (Ac ?_)))
 refine ls F W Aa (Ah F Aa).q fun a w F W => ?_
 refine Ad (Ab (Ai (Ac ?_)))
 refine ls F W Aa (Ag F Aa).q fun a w F W => ?_
 obtain ⟨x1, h2, H⟩ := An H
 refine BW (Ml := []) (Zl := []) (M := [(b1, [.int .i64 p0.1, v1, v2])]) (Z := []) (β := Value × Value) (rv := fun x => .agg #[x.1, x.2]) (MM := fun x => []) (ZZ := fun x => [row x.1 38 CG x1.1, row x.2 91 Fb x1.2]) F W Qw Aa Aa (fun hL => GD _ w (v4) p2 _ h2 ((Aj h_v4) w W).nx) fun x a w F W => ?_
 obtain ⟨v6, v7⟩ := x
 have W : Stw ⟨Y, [], w0⟩ [(b1, [.int .i64 p0.1, v1, v2])] [row v6 38 CG x1.1, row v7 91 Fb x1.2] w := W
 refine BX (cs := [.slice none 0 0, .slice none 0 0]) F W Aa Qy Aa fun b2 a w F W => ?_
 refine BJ (vs := [v6, v7]) (M' := [(b2, [v6, v7]), (b1, [.int .i64 p0.1, v1, v2])]) 0 F W Aa Aa Aa O8 Aa Aa Aa (A7 (W.one (k := 0) Aa) (A7 (W.one (k := 1) Aa) FX)) Aa fun w W => ?_
 refine Ad (Ab ?_)
 obtain ⟨o1, G1, K1⟩ := An H
 refine AB (fun a w => ∃ x2 : List (Int × Int), ∃ v8 : Value, some (x2) = some o1 ∧ Fr 83 [] [(6, .slice none 0 0), (7, v8)] a ∧ Stw ⟨Y, [], w0⟩ [(b2, [v6, v7]), (b1, [.int .i64 p0.1, v1, v2])] [row v8 45 E2 x2, row v6 38 CG x1.1, row v7 91 Fb x1.2] w) ?_ ?_
 ·
  have H := G1
  clear G1 K1
  refine Ai (Ac ?_)
  refine ls F W Aa (Ag F Aa).q fun a w F W => ?_
  obtain ⟨x3, h3, H⟩ := An H
  refine BW (Ml := []) (Zl := []) (M := [(b2, [v6, v7]), (b1, [.int .i64 p0.1, v1, v2])]) (Z := [row v6 38 CG x1.1, row v7 91 Fb x1.2]) (β := Value) (rv := fun x => x) (MM := fun x => []) (ZZ := fun x => [row x 78 Jl x3]) F W RT Aa Aa (fun hL => LM _ w (v4) p2 _ h3 ((Aj h_v4) w W).nx) fun x a w F W => ?_
  obtain ⟨v9, rfl⟩ : ∃ y, y = x := ⟨x, rfl⟩
  have W : Stw ⟨Y, [], w0⟩ [(b2, [v6, v7]), (b1, [.int .i64 p0.1, v1, v2])] [row v9 78 Jl x3, row v6 38 CG x1.1, row v7 91 Fb x1.2] w := W
  refine ls F W Aa (A6 (r := Jl) (l := x3) Pb Aa F Aa (AE 0 Aa)).q fun a w F W => ?_
  refine ls F W Aa (Ag F Aa).q fun a w F W => ?_
  refine Ad (Ab (Au ?_))
  have W := W.nilRow 45 E2
  have W := W.frontZ (i := 3) Aa Aa
  have W := W.frontZ (i := 3) Aa Aa
  have W := W.frontZ (i := 3) Aa Aa
  have W := W.frontZ (i := 3) Aa Aa
  have W := W.frontM (i := 1) Aa Aa
  have W := W.frontM (i := 1) Aa Aa
  refine Bf H (fun s a w => ∃ v10 : Value, Fr 83 [] [(1, v3), (3, .pointer (some ⟨b1, 0, none⟩)), (6, .slice none 0 0), (7, v10), (8, .pointer (some ⟨b2, 0, none⟩)), (14, v9), (15, .int .i64 (x3.length : Int)), (16, .int .i64 s.2)] a ∧ Stw ⟨Y, [], w0⟩ [(b2, [v6, v7]), (b1, [.int .i64 p0.1, v1, v2])] [row v10 45 E2 s.1, row v9 78 Jl x3, row v6 38 CG x1.1, row v7 91 Fb x1.2] w) ⟨(Value.slice none 0 0), F.re ⟨rfl, Aa, Aa, Aa, Aa, Aa, Aa, Aa, trivial⟩, W⟩ fun s o a w H L2 hR => ?_
  obtain ⟨x4, x5⟩ := s
  obtain ⟨v10, F, W⟩ := hR
  have F : Fr 83 [] [(1, v3), (3, .pointer (some ⟨b1, 0, none⟩)), (6, .slice none 0 0), (7, v10), (8, .pointer (some ⟨b2, 0, none⟩)), (14, v9), (15, .int .i64 (x3.length : Int)), (16, .int .i64 x5)] a := F
  have W : Stw ⟨Y, [], w0⟩ [(b2, [v6, v7]), (b1, [.int .i64 p0.1, v1, v2])] [row v10 45 E2 x4, row v9 78 Jl x3, row v6 38 CG x1.1, row v7 91 Fb x1.2] w := W
  rw [Ch] at H
  refine Ai (Ac ?_)
  refine ls F W Aa (Bi F Aa Aa).q fun a w F W => ?_
  refine Ad (Ab (Ai ?_))
  refine Ax F Aa (fun hb => ?_) fun hb => ?_
  ·
   have H := AK (Bd hb) H
   rw [hb] at F
   clear hb
   refine Ap (Ab ?_)
   obtain ⟨o3, G3, K3⟩ := An H
   refine AB (fun a w => ∃ x6 : List (Int × Int), ∃ v11 : Value, some (x6) = some o3 ∧ Fr 83 [] [(1, v3), (3, .pointer (some ⟨b1, 0, none⟩)), (6, .slice none 0 0), (7, v11), (8, .pointer (some ⟨b2, 0, none⟩)), (14, v9), (15, .int .i64 (x3.length : Int)), (16, .int .i64 x5)] a ∧ Stw ⟨Y, [], w0⟩ [(b2, [v6, v7]), (b1, [.int .i64 p0.1, v1, v2])] [row v11 45 E2 x6, row v9 78 Jl x3, row v6 38 CG x1.1, row v7 91 Fb x1.2] w) ?_ ?_
   ·
    have H := G3
    clear G3 K3
    refine Au (Ai ?_)
    have W := W.frontZ (i := 1) Aa Aa
    obtain ⟨v12, h4, W⟩ := W.exR Pj
    refine Ac ?_
    obtain ⟨x7, h5, H⟩ := An H
    obtain ⟨v13, h6, h7⟩ := Cx h4 h5
    have h8 : O2 v13 = [.int .i64 x7.1, .int .i64 x7.2.1, .int .i64 x7.2.2.1, .int .i64 x7.2.2.2.1, (v13.2.2.2.2.1.1), .int .i64 x7.2.2.2.2.2.1, .int .i64 x7.2.2.2.2.2.2.1, .int .i64 x7.2.2.2.2.2.2.2] := congrArg (fun q : Int × Int × Int × Int × List Int × Int × Int × Int => ([.int .i64 q.1, .int .i64 q.2.1, .int .i64 q.2.2.1, .int .i64 q.2.2.2.1, (v13.2.2.2.2.1.1), .int .i64 q.2.2.2.2.2.1, .int .i64 q.2.2.2.2.2.2.1, .int .i64 q.2.2.2.2.2.2.2] : List Value)) h7
    refine ls F W Aa (Az (r := Oi) PZ F Aa Aa (AE 0 Aa) h6).q fun a w F W => ?_
    refine ls F W Aa (Aq (y := Value.agg #[.int .i64 x7.1, .int .i64 x7.2.1, .int .i64 x7.2.2.1, .int .i64 x7.2.2.2.1, (v13.2.2.2.2.1.1), .int .i64 x7.2.2.2.2.2.1, .int .i64 x7.2.2.2.2.2.2.1, .int .i64 x7.2.2.2.2.2.2.2]) (j := 0) (i := x5) (enc := O2) F Aa Aa (AE 0 Aa) h6 Qm P3 (by rw [h8]; rfl)).q fun a w F W => ?_
    have W := W.note (W.rowAt (k := 0) Aa h6 (CR.snd (CR.snd (CR.snd (CR.snd (CR.fst CR.here))))) (congrArg (fun q : Int × Int × Int × Int × List Int × Int × Int × Int => q.2.2.2.2.1) h7))
    refine BX (cs := [.int .i64 0, .int .i64 0, .int .i64 0, .int .i64 0, .slice none 0 0, .int .i64 0, .int .i64 0, .int .i64 0]) F W Aa QL Aa fun b3 a w F W => ?_
    refine BJ (vs := [.int .i64 x7.1, .int .i64 x7.2.1, .int .i64 x7.2.2.1, .int .i64 x7.2.2.2.1, (v13.2.2.2.2.1.1), .int .i64 x7.2.2.2.2.2.1, .int .i64 x7.2.2.2.2.2.2.1, .int .i64 x7.2.2.2.2.2.2.2]) (M' := [(b3, [.int .i64 x7.1, .int .i64 x7.2.1, .int .i64 x7.2.2.1, .int .i64 x7.2.2.2.1, (v13.2.2.2.2.1.1), .int .i64 x7.2.2.2.2.2.1, .int .i64 x7.2.2.2.2.2.2.1, .int .i64 x7.2.2.2.2.2.2.2]), (b2, [v6, v7]), (b1, [.int .i64 p0.1, v1, v2])]) 0 F W Aa Aa Aa P3 Aa Aa Aa (A7 Aa (A7 Aa (A7 Aa (A7 Aa (A7 (W.oneF (k := 0) Aa) (A7 Aa (A7 Aa (A7 Aa FX)))))))) Aa fun w W => ?_
    refine Ad (Ab ?_)
    obtain ⟨o4, G4, K4⟩ := An H
    refine AB (fun a w => ∃ x8 : List (Int × Int), ∃ v14 : Value, some (x8) = some o4 ∧ Fr 83 [] [(1, v3), (3, .pointer (some ⟨b1, 0, none⟩)), (6, .slice none 0 0), (7, v14), (8, .pointer (some ⟨b2, 0, none⟩)), (10, .pointer (some ⟨b3, 0, none⟩)), (14, v9), (15, .int .i64 (x3.length : Int)), (16, .int .i64 x5)] a ∧ Stw ⟨Y, [], w0⟩ [(b3, [.int .i64 x7.1, .int .i64 x7.2.1, .int .i64 x7.2.2.1, .int .i64 x7.2.2.2.1, (v13.2.2.2.2.1.1), .int .i64 x7.2.2.2.2.2.1, .int .i64 x7.2.2.2.2.2.2.1, .int .i64 x7.2.2.2.2.2.2.2]), (b2, [v6, v7]), (b1, [.int .i64 p0.1, v1, v2])] [row v14 45 E2 x8, row v9 78 Jl x3, Gu (v13.2.2.2.2.1.1) (Rp.int .i64) x7.2.2.2.2.1, row v6 38 CG x1.1, row v7 91 Fb x1.2] w) ?_ ?_
    ·
     have H := G4
     clear G4 K4
     refine Ai (Ac ?_)
     refine ls F W Aa (Am (v := Value.agg #[.int .i64 x7.1, .int .i64 x7.2.1, .int .i64 x7.2.2.1, .int .i64 x7.2.2.2.1, (v13.2.2.2.2.1.1), .int .i64 x7.2.2.2.2.2.1, .int .i64 x7.2.2.2.2.2.2.1, .int .i64 x7.2.2.2.2.2.2.2]) 0 F Aa Aa P3 Aa).q fun a w F W => ?_
     obtain ⟨x9, h9, H⟩ := An H
     refine ls F W Aa (Bl (v := Value.bool x9) F Sj Aa (fun w W => J1 any w ((v13.2.2.2.2.1.1)) x7 _ h9 (((HQ 0 Aa) : CH _ _ _ _ _ _) w W).nx)) fun a w F W => ?_
     refine Ad (Ab ?_)
     refine Ax F Aa (fun hb => ?_) fun hb => ?_
     ·
      have H := AK hb H
      rw [hb] at F
      clear hb
      refine Ac ?_
      refine ls F W Aa (Ag F Aa).q fun a w F W => ?_
      refine ls F W Aa (Af Fk Aa Aa Aa T3 F Aa 0 Aa).q fun a w F W => ?_
      refine ls F W Aa (Am (v := Value.int .i64 x7.1) 0 F Aa Aa T3 Aa).q fun a w F W => ?_
      refine ls F W Aa (BH (v := Value.agg #[.int .i64 1, .int .i64 x7.1]) PK F Aa Aa Aa).q fun a w F W => ?_
      refine Da (z := Value.agg #[.int .i64 0, .int .i64 0]) (cs := [.int .i64 1, .int .i64 x7.1]) E2 ([(1, x7.1)] : List (Int × Int)) F W Aa NE P7 Aa Aa Aa Aa Aa Aa (O3.repL _ _ ([(1, x7.1)] : List (Int × Int))) fun v15 a w F W => ?_
      obtain ⟨x10, h10, H⟩ := An H
      refine Cg (r := E2) (i := 3) F W Aa NE Aa Aa Aa Aa (CE W 0 Aa) h10 Aa fun v16 a w F W => ?_
      have W : Stw ⟨Y, [], w0⟩ [(b3, [.int .i64 x7.1, .int .i64 x7.2.1, .int .i64 x7.2.2.1, .int .i64 x7.2.2.2.1, (v13.2.2.2.2.1.1), .int .i64 x7.2.2.2.2.2.1, .int .i64 x7.2.2.2.2.2.2.1, .int .i64 x7.2.2.2.2.2.2.2]), (b2, [v6, v7]), (b1, [.int .i64 p0.1, v1, v2])] [row v16 45 E2 x10, row v15 45 E2 ([(1, x7.1)] : List (Int × Int)), Gu (v13.2.2.2.2.1.1) (Rp.int .i64) x7.2.2.2.2.1, row v9 78 Oi v12, row v6 38 CG x1.1, row v7 91 Fb x1.2] w := W
      refine ls F W Aa (Ah F Aa).q fun a w F W => ?_
      refine Ad (Ab ?_)
      have W := W.frontZ (i := 3) Aa Aa
      have W := W.hideR Pj h4
      have W := W.frontZ (i := 5) Aa Aa
      have W := W.frontZ (i := 5) Aa Aa
      have W := W.frontZ (i := 5) Aa Aa
      have W := W.frontZ (i := 3) Aa Aa
      have W := W.frontZ (i := 4) Aa Aa
      have W := W.frontM (i := 2) Aa Aa
      have W := W.frontM (i := 2) Aa Aa
      have W := W.frontM (i := 2) Aa Aa
      have W := W.sub (M' := [(b3, [.int .i64 x7.1, .int .i64 x7.2.1, .int .i64 x7.2.2.1, .int .i64 x7.2.2.2.1, (v13.2.2.2.2.1.1), .int .i64 x7.2.2.2.2.2.1, .int .i64 x7.2.2.2.2.2.2.1, .int .i64 x7.2.2.2.2.2.2.2]), (b2, [v6, v7]), (b1, [.int .i64 p0.1, v1, v2])]) (Z' := [row v16 45 E2 x10, row v9 78 Jl x3, Gu (v13.2.2.2.2.1.1) (Rp.int .i64) x7.2.2.2.2.1, row v6 38 CG x1.1, row v7 91 Fb x1.2]) (List.Sublist.refl _) (List.Sublist.cons_cons _ (List.Sublist.cons_cons _ (List.Sublist.cons_cons _ (List.Sublist.cons_cons _ (List.Sublist.cons_cons _ (List.nil_sublist _))))))
      exact ⟨_, (v16), H, F.re ⟨rfl, Aa, Aa, Aa, Aa, Aa, Aa, Aa, Aa, trivial⟩, W⟩
     have H := AL (by rw [hb]; decide) H
     rw [hb] at F
     clear hb
     refine Ap (Ab ?_)
     have W := W.frontZ (i := 1) Aa Aa
     have W := W.hideR Pj h4
     have W := W.frontZ (i := 4) Aa Aa
     have W := W.frontZ (i := 4) Aa Aa
     have W := W.frontZ (i := 3) Aa Aa
     have W := W.frontZ (i := 3) Aa Aa
     have W := W.frontZ (i := 4) Aa Aa
     have W := W.frontM (i := 2) Aa Aa
     have W := W.frontM (i := 2) Aa Aa
     have W := W.frontM (i := 2) Aa Aa
     exact ⟨_, (v10), H, F.re ⟨rfl, Aa, Aa, Aa, Aa, Aa, Aa, Aa, Aa, trivial⟩, W⟩
    rintro a w ⟨x8, v14, hj, F, W⟩
    have hj := AN hj
    subst hj
    have H := K4
    clear G4 K4
    obtain ⟨o5, G5, K5⟩ := An H
    refine AB (fun a w => ∃ x11 : List (Int × Int), ∃ v17 : Value, some (x11) = some o5 ∧ Fr 83 [] [(1, v3), (3, .pointer (some ⟨b1, 0, none⟩)), (6, .slice none 0 0), (7, v17), (8, .pointer (some ⟨b2, 0, none⟩)), (10, .pointer (some ⟨b3, 0, none⟩)), (14, v9), (15, .int .i64 (x3.length : Int)), (16, .int .i64 x5)] a ∧ Stw ⟨Y, [], w0⟩ [(b3, [.int .i64 x7.1, .int .i64 x7.2.1, .int .i64 x7.2.2.1, .int .i64 x7.2.2.2.1, (v13.2.2.2.2.1.1), .int .i64 x7.2.2.2.2.2.1, .int .i64 x7.2.2.2.2.2.2.1, .int .i64 x7.2.2.2.2.2.2.2]), (b2, [v6, v7]), (b1, [.int .i64 p0.1, v1, v2])] [row v17 45 E2 x11, row v9 78 Jl x3, Gu (v13.2.2.2.2.1.1) (Rp.int .i64) x7.2.2.2.2.1, row v6 38 CG x1.1, row v7 91 Fb x1.2] w) ?_ ?_
    ·
     have H := G5
     clear G5 K5
     refine Ai (Ac ?_)
     refine ls F W Aa (Af Fk Aa Aa Aa T3 F Aa 5 Aa).q fun a w F W => ?_
     refine ls F W Aa (Am (v := Value.int .i64 x7.2.2.2.2.2.1) 0 F Aa Aa T3 Aa).q fun a w F W => ?_
     refine ls F W Aa (Bz F Aa Aa).q fun a w F W => ?_
     refine Ad (Ab ?_)
     refine Ax F Aa (fun hb => ?_) fun hb => ?_
     ·
      have H := AK (Bd hb) H
      rw [hb] at F
      clear hb
      refine Ac ?_
      refine ls F W Aa (Ag F Aa).q fun a w F W => ?_
      refine ls F W Aa (Af Fk Aa Aa Aa T3 F Aa 0 Aa).q fun a w F W => ?_
      refine ls F W Aa (Am (v := Value.int .i64 x7.1) 0 F Aa Aa T3 Aa).q fun a w F W => ?_
      refine ls F W Aa (BH (v := Value.agg #[.int .i64 2, .int .i64 x7.1]) PK F Aa Aa Aa).q fun a w F W => ?_
      refine Da (z := Value.agg #[.int .i64 0, .int .i64 0]) (cs := [.int .i64 2, .int .i64 x7.1]) E2 ([(2, x7.1)] : List (Int × Int)) F W Aa NE P7 Aa Aa Aa Aa Aa Aa (O3.repL _ _ ([(2, x7.1)] : List (Int × Int))) fun v18 a w F W => ?_
      obtain ⟨x12, h11, H⟩ := An H
      refine Cg (r := E2) (i := 1) F W Aa NE Aa Aa Aa Aa (CE W 0 Aa) h11 Aa fun v19 a w F W => ?_
      have W : Stw ⟨Y, [], w0⟩ [(b3, [.int .i64 x7.1, .int .i64 x7.2.1, .int .i64 x7.2.2.1, .int .i64 x7.2.2.2.1, (v13.2.2.2.2.1.1), .int .i64 x7.2.2.2.2.2.1, .int .i64 x7.2.2.2.2.2.2.1, .int .i64 x7.2.2.2.2.2.2.2]), (b2, [v6, v7]), (b1, [.int .i64 p0.1, v1, v2])] [row v19 45 E2 x12, row v18 45 E2 ([(2, x7.1)] : List (Int × Int)), row v9 78 Jl x3, Gu (v13.2.2.2.2.1.1) (Rp.int .i64) x7.2.2.2.2.1, row v6 38 CG x1.1, row v7 91 Fb x1.2] w := W
      refine ls F W Aa (Ah F Aa).q fun a w F W => ?_
      refine Ad (Ab ?_)
      have W := W.frontZ (i := 5) Aa Aa
      have W := W.frontZ (i := 5) Aa Aa
      have W := W.frontZ (i := 5) Aa Aa
      have W := W.frontZ (i := 5) Aa Aa
      have W := W.frontZ (i := 4) Aa Aa
      have W := W.frontM (i := 2) Aa Aa
      have W := W.frontM (i := 2) Aa Aa
      have W := W.frontM (i := 2) Aa Aa
      have W := W.sub (M' := [(b3, [.int .i64 x7.1, .int .i64 x7.2.1, .int .i64 x7.2.2.1, .int .i64 x7.2.2.2.1, (v13.2.2.2.2.1.1), .int .i64 x7.2.2.2.2.2.1, .int .i64 x7.2.2.2.2.2.2.1, .int .i64 x7.2.2.2.2.2.2.2]), (b2, [v6, v7]), (b1, [.int .i64 p0.1, v1, v2])]) (Z' := [row v19 45 E2 x12, row v9 78 Jl x3, Gu (v13.2.2.2.2.1.1) (Rp.int .i64) x7.2.2.2.2.1, row v6 38 CG x1.1, row v7 91 Fb x1.2]) (List.Sublist.refl _) (List.Sublist.cons_cons _ (List.Sublist.cons_cons _ (List.Sublist.cons_cons _ (List.Sublist.cons_cons _ (List.Sublist.cons_cons _ (List.nil_sublist _))))))
      exact ⟨_, (v19), H, F.re ⟨rfl, Aa, Aa, Aa, Aa, Aa, Aa, Aa, Aa, trivial⟩, W⟩
     have H := AL (Bc hb) H
     rw [hb] at F
     clear hb
     refine Ap (Ab ?_)
     have W := W.frontZ (i := 4) Aa Aa
     have W := W.frontZ (i := 4) Aa Aa
     have W := W.frontZ (i := 4) Aa Aa
     have W := W.frontZ (i := 4) Aa Aa
     have W := W.frontZ (i := 4) Aa Aa
     have W := W.frontM (i := 2) Aa Aa
     have W := W.frontM (i := 2) Aa Aa
     have W := W.frontM (i := 2) Aa Aa
     exact ⟨_, (v14), H, F.re ⟨rfl, Aa, Aa, Aa, Aa, Aa, Aa, Aa, Aa, trivial⟩, W⟩
    rintro a w ⟨x11, v17, hj, F, W⟩
    have hj := AN hj
    subst hj
    have H := K5
    clear G5 K5
    obtain ⟨o6, G6, K6⟩ := An H
    refine AB (fun a w => ∃ x13 : List (Int × Int), ∃ v20 : Value, some (x13) = some o6 ∧ Fr 83 [] [(1, v3), (3, .pointer (some ⟨b1, 0, none⟩)), (6, .slice none 0 0), (7, v20), (8, .pointer (some ⟨b2, 0, none⟩)), (10, .pointer (some ⟨b3, 0, none⟩)), (14, v9), (15, .int .i64 (x3.length : Int)), (16, .int .i64 x5)] a ∧ Stw ⟨Y, [], w0⟩ [(b3, [.int .i64 x7.1, .int .i64 x7.2.1, .int .i64 x7.2.2.1, .int .i64 x7.2.2.2.1, (v13.2.2.2.2.1.1), .int .i64 x7.2.2.2.2.2.1, .int .i64 x7.2.2.2.2.2.2.1, .int .i64 x7.2.2.2.2.2.2.2]), (b2, [v6, v7]), (b1, [.int .i64 p0.1, v1, v2])] [row v20 45 E2 x13, row v9 78 Jl x3, Gu (v13.2.2.2.2.1.1) (Rp.int .i64) x7.2.2.2.2.1, row v6 38 CG x1.1, row v7 91 Fb x1.2] w) ?_ ?_
    ·
     have H := G6
     clear G6 K6
     refine AB (fun a w => Fr 83 [] [(1, v3), (3, .pointer (some ⟨b1, 0, none⟩)), (6, .slice none 0 0), (7, v17), (8, .pointer (some ⟨b2, 0, none⟩)), (10, .pointer (some ⟨b3, 0, none⟩)), (14, v9), (15, .int .i64 (x3.length : Int)), (16, .int .i64 x5), (46, .bool (decide (x7.2.2.2.2.2.1 = 3) && decide (x7.2.2.2.2.2.2.1 ≠ x7.2.2.1)))] a ∧ Stw ⟨Y, [], w0⟩ [(b3, [.int .i64 x7.1, .int .i64 x7.2.1, .int .i64 x7.2.2.1, .int .i64 x7.2.2.2.1, (v13.2.2.2.2.1.1), .int .i64 x7.2.2.2.2.2.1, .int .i64 x7.2.2.2.2.2.2.1, .int .i64 x7.2.2.2.2.2.2.2]), (b2, [v6, v7]), (b1, [.int .i64 p0.1, v1, v2])] [row v17 45 E2 x11, row v9 78 Jl x3, Gu (v13.2.2.2.2.1.1) (Rp.int .i64) x7.2.2.2.2.1, row v6 38 CG x1.1, row v7 91 Fb x1.2] w) ?_ ?_
     ·
      refine Ac ?_
      refine ls F W Aa (Af Fk Aa Aa Aa T3 F Aa 5 Aa).q fun a w F W => ?_
      refine ls F W Aa (Am (v := Value.int .i64 x7.2.2.2.2.2.1) 0 F Aa Aa T3 Aa).q fun a w F W => ?_
      refine ls F W Aa (Bz F Aa Aa).q fun a w F W => ?_
      refine ls F W Aa (Ag F Aa).q fun a w F W => ?_
      rcases Bool.eq_false_or_eq_true (decide (x7.2.2.2.2.2.1 = 3)) with hb0 | hb0
      ·
       rw [hb0] at F
       refine Ay F W (Ae F Aa Aa Aa Aa) Aa (Ak Aa) (Af Fk Aa Aa Aa T3 F Aa 6 Aa).q fun a w F W => ?_
       refine Ay F W (Ae F Aa Aa Aa Aa) Aa (Ak Aa) (Am (v := Value.int .i64 x7.2.2.2.2.2.2.1) 0 F Aa Aa T3 Aa).q fun a w F W => ?_
       refine Ay F W (Ae F Aa Aa Aa Aa) Aa (Ak Aa) (Af Fk Aa Aa Aa T3 F Aa 2 Aa).q fun a w F W => ?_
       refine Ay F W (Ae F Aa Aa Aa Aa) Aa (Ak Aa) (Am (v := Value.int .i64 x7.2.2.1) 0 F Aa Aa T3 Aa).q fun a w F W => ?_
       refine Ay F W (Ae F Aa Aa Aa Aa) Aa (Ak Aa) (Dx F Aa Aa).q fun a w F W => ?_
       refine ls F W Aa (Ao F Aa Aa Aa).q fun a w F W => ?_
       refine Ad (Ab ?_)
       exact ⟨F.re ⟨rfl, Aa, Aa, Aa, Aa, Aa, Aa, Aa, Aa, (by show some (Value.bool (decide (x7.2.2.2.2.2.2.1 ≠ x7.2.2.1))) = some (Value.bool (decide (x7.2.2.2.2.2.1 = 3) && decide (x7.2.2.2.2.2.2.1 ≠ x7.2.2.1))); try rw [hb0]; all_goals simp only [Bool.not_true, Bool.not_false, Bool.true_and, Bool.false_and, Bool.true_or, Bool.false_or, Bool.and_true, Bool.or_false, cond_true, cond_false]), trivial⟩, W⟩
      rw [hb0] at F
      iterate 5 refine B4 F Aa Aa Aa Aa Aa Aa Aa fun a F => ?_
      refine ls F W Aa (Av F Aa Aa Aa).q fun a w F W => ?_
      refine Ad (Ab ?_)
      exact ⟨F.re ⟨rfl, Aa, Aa, Aa, Aa, Aa, Aa, Aa, Aa, (by show some (Value.bool false) = some (Value.bool (decide (x7.2.2.2.2.2.1 = 3) && decide (x7.2.2.2.2.2.2.1 ≠ x7.2.2.1))); try rw [hb0]; all_goals simp only [Bool.not_true, Bool.not_false, Bool.true_and, Bool.false_and, Bool.true_or, Bool.false_or, Bool.and_true, Bool.or_false, cond_true, cond_false]), trivial⟩, W⟩
     rintro a w ⟨F, W⟩
     refine Ax F Aa (fun hb => ?_) fun hb => ?_
     ·
      have H := AK hb H
      rw [hb] at F
      clear hb
      refine Ac ?_
      refine ls F W Aa (Ag F Aa).q fun a w F W => ?_
      refine ls F W Aa (Af Fk Aa Aa Aa T3 F Aa 0 Aa).q fun a w F W => ?_
      refine ls F W Aa (Am (v := Value.int .i64 x7.1) 0 F Aa Aa T3 Aa).q fun a w F W => ?_
      refine ls F W Aa (BH (v := Value.agg #[.int .i64 3, .int .i64 x7.1]) PK F Aa Aa Aa).q fun a w F W => ?_
      refine Da (z := Value.agg #[.int .i64 0, .int .i64 0]) (cs := [.int .i64 3, .int .i64 x7.1]) E2 ([(3, x7.1)] : List (Int × Int)) F W Aa NE P7 Aa Aa Aa Aa Aa Aa (O3.repL _ _ ([(3, x7.1)] : List (Int × Int))) fun v21 a w F W => ?_
      obtain ⟨x14, h12, H⟩ := An H
      refine Cg (r := E2) (i := 1) F W Aa NE Aa Aa Aa Aa (CE W 0 Aa) h12 Aa fun v22 a w F W => ?_
      have W : Stw ⟨Y, [], w0⟩ [(b3, [.int .i64 x7.1, .int .i64 x7.2.1, .int .i64 x7.2.2.1, .int .i64 x7.2.2.2.1, (v13.2.2.2.2.1.1), .int .i64 x7.2.2.2.2.2.1, .int .i64 x7.2.2.2.2.2.2.1, .int .i64 x7.2.2.2.2.2.2.2]), (b2, [v6, v7]), (b1, [.int .i64 p0.1, v1, v2])] [row v22 45 E2 x14, row v21 45 E2 ([(3, x7.1)] : List (Int × Int)), row v9 78 Jl x3, Gu (v13.2.2.2.2.1.1) (Rp.int .i64) x7.2.2.2.2.1, row v6 38 CG x1.1, row v7 91 Fb x1.2] w := W
      refine ls F W Aa (Ah F Aa).q fun a w F W => ?_
      refine Ad (Ab ?_)
      have W := W.frontZ (i := 5) Aa Aa
      have W := W.frontZ (i := 5) Aa Aa
      have W := W.frontZ (i := 5) Aa Aa
      have W := W.frontZ (i := 5) Aa Aa
      have W := W.frontZ (i := 4) Aa Aa
      have W := W.frontM (i := 2) Aa Aa
      have W := W.frontM (i := 2) Aa Aa
      have W := W.frontM (i := 2) Aa Aa
      have W := W.sub (M' := [(b3, [.int .i64 x7.1, .int .i64 x7.2.1, .int .i64 x7.2.2.1, .int .i64 x7.2.2.2.1, (v13.2.2.2.2.1.1), .int .i64 x7.2.2.2.2.2.1, .int .i64 x7.2.2.2.2.2.2.1, .int .i64 x7.2.2.2.2.2.2.2]), (b2, [v6, v7]), (b1, [.int .i64 p0.1, v1, v2])]) (Z' := [row v22 45 E2 x14, row v9 78 Jl x3, Gu (v13.2.2.2.2.1.1) (Rp.int .i64) x7.2.2.2.2.1, row v6 38 CG x1.1, row v7 91 Fb x1.2]) (List.Sublist.refl _) (List.Sublist.cons_cons _ (List.Sublist.cons_cons _ (List.Sublist.cons_cons _ (List.Sublist.cons_cons _ (List.Sublist.cons_cons _ (List.nil_sublist _))))))
      exact ⟨_, (v22), H, F.re ⟨rfl, Aa, Aa, Aa, Aa, Aa, Aa, Aa, Aa, trivial⟩, W⟩
     have H := AL (by rw [hb]; decide) H
     rw [hb] at F
     clear hb
     refine Ap (Ab ?_)
     have W := W.frontZ (i := 4) Aa Aa
     have W := W.frontZ (i := 4) Aa Aa
     have W := W.frontZ (i := 4) Aa Aa
     have W := W.frontZ (i := 4) Aa Aa
     have W := W.frontZ (i := 4) Aa Aa
     have W := W.frontM (i := 2) Aa Aa
     have W := W.frontM (i := 2) Aa Aa
     have W := W.frontM (i := 2) Aa Aa
     exact ⟨_, (v17), H, F.re ⟨rfl, Aa, Aa, Aa, Aa, Aa, Aa, Aa, Aa, trivial⟩, W⟩
    rintro a w ⟨x13, v20, hj, F, W⟩
    have hj := AN hj
    subst hj
    have H := K6
    clear G6 K6
    obtain ⟨o7, G7, K7⟩ := An H
    refine AB (fun a w => ∃ x15 : Bool, some (x15) = some o7 ∧ Fr 83 [] [(1, v3), (3, .pointer (some ⟨b1, 0, none⟩)), (6, .slice none 0 0), (7, v20), (8, .pointer (some ⟨b2, 0, none⟩)), (10, .pointer (some ⟨b3, 0, none⟩)), (14, v9), (15, .int .i64 (x3.length : Int)), (16, .int .i64 x5), (74, .bool x15)] a ∧ Stw ⟨Y, [], w0⟩ [(b3, [.int .i64 x7.1, .int .i64 x7.2.1, .int .i64 x7.2.2.1, .int .i64 x7.2.2.2.1, (v13.2.2.2.2.1.1), .int .i64 x7.2.2.2.2.2.1, .int .i64 x7.2.2.2.2.2.2.1, .int .i64 x7.2.2.2.2.2.2.2]), (b2, [v6, v7]), (b1, [.int .i64 p0.1, v1, v2])] [row v20 45 E2 x13, row v9 78 Jl x3, Gu (v13.2.2.2.2.1.1) (Rp.int .i64) x7.2.2.2.2.1, row v6 38 CG x1.1, row v7 91 Fb x1.2] w) ?_ ?_
    ·
     have H := G7
     clear G7 K7
     refine BE W MO (by kernel_rfl) ?_
     refine qs F Aa (Af Fk Aa Aa Aa E1 F Aa 4 Aa).q fun a F => ?_
     refine qs F Aa (Am (v := (v13.2.2.2.2.1.1)) 0 F Aa Aa E1 Aa).q fun a F => ?_
     refine qs F Aa (A6 (r := (Rp.int .i64)) (l := x7.2.2.2.2.1) Fc Aa F Aa (HQ 2 Aa)).q fun a F => ?_
     refine qs F Aa (E6 F Aa Aa).q fun a F => ?_
     refine qs F Aa (Ag F Aa).q fun a F => ?_
     rcases Bool.eq_false_or_eq_true (decide (0 < (x7.2.2.2.2.1.length : Int))) with hb | hb
     ·
      have H := AK (Bd hb) H
      rw [hb] at F
      clear hb
      refine Bu F (Ae F Aa Aa Aa Aa) Aa (Ak Aa) (Am (v := Value.agg #[v6, v7]) 1 F Aa Aa O8 Aa).q fun a F => ?_
      refine Bu F (Ae F Aa Aa Aa Aa) Aa (Ak Aa) (Af Fk Aa Aa Aa T3 F Aa 3 Aa).q fun a F => ?_
      refine Bu F (Ae F Aa Aa Aa Aa) Aa (Ak Aa) (Am (v := Value.int .i64 x7.2.2.2.1) 0 F Aa Aa T3 Aa).q fun a F => ?_
      obtain ⟨x16, h13, H⟩ := An H
      refine Bu F (Ae F Aa Aa Aa Aa) Aa (Ak Aa) (Bl (v := Value.bool x16) F QY Aa (fun w W => DX any w (v6) (v7) x1 x7.2.2.2.1 _ h13 (((AE 3 Aa) : CH _ _ _ _ _ _) w W).nx (((AE 4 Aa) : CH _ _ _ _ _ _) w W).nx)) fun a F => ?_
      refine Bu F (Ae F Aa Aa Aa Aa) Aa (Ak Aa) (E5 F Aa).q fun a F => ?_
      refine qs F Aa (Ao F Aa Aa Aa).q fun a F => ?_
      refine qs F Aa (Ag F Aa).q fun a F => ?_
      rcases Bool.eq_false_or_eq_true (!x16) with hb | hb
      ·
       have H := AK hb H
       rw [hb] at F
       clear hb
       refine Bu F (Ae F Aa Aa Aa Aa) Aa (Ak Aa) (Am (v := Value.agg #[.int .i64 p0.1, v1, v2]) 2 F Aa Aa HW Aa).q fun a F => ?_
       refine Bu F (Ae F Aa Aa Aa Aa) Aa (Ak Aa) (Ag F Aa).q fun a F => ?_
       refine Bu F (Ae F Aa Aa Aa Aa) Aa (Ak Aa) (Am (v := Value.agg #[v6, v7]) 1 F Aa Aa O8 Aa).q fun a F => ?_
       refine Bu F (Ae F Aa Aa Aa Aa) Aa (Ak Aa) (Af Fk Aa Aa Aa T3 F Aa 3 Aa).q fun a F => ?_
       refine Bu F (Ae F Aa Aa Aa Aa) Aa (Ak Aa) (Am (v := Value.int .i64 x7.2.2.2.1) 0 F Aa Aa T3 Aa).q fun a F => ?_
       obtain ⟨x17, h14, H⟩ := An H
       refine Bu F (Ae F Aa Aa Aa Aa) Aa (Ak Aa) (Bl (v := Value.int .i64 x17) F QC Aa (fun w W => Ef any w (v6) (v7) x1 x7.2.2.2.1 _ h14 (((AE 3 Aa) : CH _ _ _ _ _ _) w W).nx (((AE 4 Aa) : CH _ _ _ _ _ _) w W).nx)) fun a F => ?_
       refine Bu F (Ae F Aa Aa Aa Aa) Aa (Ak Aa) (Am (v := Value.agg #[.int .i64 x7.1, .int .i64 x7.2.1, .int .i64 x7.2.2.1, .int .i64 x7.2.2.2.1, (v13.2.2.2.2.1.1), .int .i64 x7.2.2.2.2.2.1, .int .i64 x7.2.2.2.2.2.2.1, .int .i64 x7.2.2.2.2.2.2.2]) 0 F Aa Aa P3 Aa).q fun a F => ?_
       obtain ⟨x18, h15, H⟩ := An H
       refine Bu F (Ae F Aa Aa Aa Aa) Aa (Ak Aa) (Bl (v := Value.bool x18) F Q4 Aa (fun w W => IP any w (v1) (v2) (v3) ((v13.2.2.2.2.1.1)) p0 p1 x17 x7 _ h15 (((Aj h_v1) : CH _ _ _ _ _ _) w W).nx (((Aj h_v2) : CH _ _ _ _ _ _) w W).nx (((BA Hw h1 (Aj h_v3)) : CH _ _ _ _ _ _) w W).nx (((HQ 2 Aa) : CH _ _ _ _ _ _) w W).nx)) fun a F => ?_
       refine Bu F (Ae F Aa Aa Aa Aa) Aa (Ak Aa) (E5 F Aa).q fun a F => ?_
       refine qs F Aa (Ao F Aa Aa Aa).q fun a F => ?_
       refine AX fun w W => ?_
       refine Ab ?_
       have W := W.frontZ (i := 4) Aa Aa
       have W := W.frontZ (i := 4) Aa Aa
       have W := W.frontZ (i := 4) Aa Aa
       have W := W.frontZ (i := 4) Aa Aa
       have W := W.frontZ (i := 4) Aa Aa
       have W := W.frontM (i := 2) Aa Aa
       have W := W.frontM (i := 2) Aa Aa
       have W := W.frontM (i := 2) Aa Aa
       exact ⟨_, H, F.re ⟨rfl, Aa, Aa, Aa, Aa, Aa, Aa, Aa, Aa, Aa, trivial⟩, W⟩
      have H := AL (by rw [hb]; decide) H
      rw [hb] at F
      clear hb
      iterate 9 refine Dn F (CD F Aa Aa Aa Aa Aa) Aa Aa fun a F => ?_
      refine qs F Aa (Av F Aa Aa Aa).q fun a F => ?_
      refine AX fun w W => ?_
      refine Ab ?_
      have W := W.frontZ (i := 4) Aa Aa
      have W := W.frontZ (i := 4) Aa Aa
      have W := W.frontZ (i := 4) Aa Aa
      have W := W.frontZ (i := 4) Aa Aa
      have W := W.frontZ (i := 4) Aa Aa
      have W := W.frontM (i := 2) Aa Aa
      have W := W.frontM (i := 2) Aa Aa
      have W := W.frontM (i := 2) Aa Aa
      exact ⟨_, H, F.re ⟨rfl, Aa, Aa, Aa, Aa, Aa, Aa, Aa, Aa, Aa, trivial⟩, W⟩
     have H := AL (Bc hb) H
     rw [hb] at F
     clear hb
     iterate 5 refine Dn F (CD F Aa Aa Aa Aa Aa) Aa Aa fun a F => ?_
     refine qs F Aa (Av F Aa Aa Aa).q fun a F => ?_
     refine qs F Aa (Ag F Aa).q fun a F => ?_
     iterate 9 refine Dn F (CD F Aa Aa Aa Aa Aa) Aa Aa fun a F => ?_
     refine qs F Aa (Av F Aa Aa Aa).q fun a F => ?_
     refine AX fun w W => ?_
     refine Ab ?_
     have W := W.frontZ (i := 4) Aa Aa
     have W := W.frontZ (i := 4) Aa Aa
     have W := W.frontZ (i := 4) Aa Aa
     have W := W.frontZ (i := 4) Aa Aa
     have W := W.frontZ (i := 4) Aa Aa
     have W := W.frontM (i := 2) Aa Aa
     have W := W.frontM (i := 2) Aa Aa
     have W := W.frontM (i := 2) Aa Aa
     exact ⟨_, H, F.re ⟨rfl, Aa, Aa, Aa, Aa, Aa, Aa, Aa, Aa, Aa, trivial⟩, W⟩
    rintro a w ⟨x15, hj, F, W⟩
    have hj := AN hj
    subst hj
    have H := K7
    clear G7 K7
    refine Ax F Aa (fun hb => ?_) fun hb => ?_
    ·
     have H := AK hb H
     rw [hb] at F
     clear hb
     refine Ac ?_
     refine ls F W Aa (Ag F Aa).q fun a w F W => ?_
     refine ls F W Aa (Af Fk Aa Aa Aa T3 F Aa 0 Aa).q fun a w F W => ?_
     refine ls F W Aa (Am (v := Value.int .i64 x7.1) 0 F Aa Aa T3 Aa).q fun a w F W => ?_
     refine ls F W Aa (BH (v := Value.agg #[.int .i64 4, .int .i64 x7.1]) PK F Aa Aa Aa).q fun a w F W => ?_
     refine Da (z := Value.agg #[.int .i64 0, .int .i64 0]) (cs := [.int .i64 4, .int .i64 x7.1]) E2 ([(4, x7.1)] : List (Int × Int)) F W Aa NE P7 Aa Aa Aa Aa Aa Aa (O3.repL _ _ ([(4, x7.1)] : List (Int × Int))) fun v23 a w F W => ?_
     obtain ⟨x19, h16, H⟩ := An H
     refine Cg (r := E2) (i := 1) F W Aa NE Aa Aa Aa Aa (CE W 0 Aa) h16 Aa fun v24 a w F W => ?_
     have W : Stw ⟨Y, [], w0⟩ [(b3, [.int .i64 x7.1, .int .i64 x7.2.1, .int .i64 x7.2.2.1, .int .i64 x7.2.2.2.1, (v13.2.2.2.2.1.1), .int .i64 x7.2.2.2.2.2.1, .int .i64 x7.2.2.2.2.2.2.1, .int .i64 x7.2.2.2.2.2.2.2]), (b2, [v6, v7]), (b1, [.int .i64 p0.1, v1, v2])] [row v24 45 E2 x19, row v23 45 E2 ([(4, x7.1)] : List (Int × Int)), row v9 78 Jl x3, Gu (v13.2.2.2.2.1.1) (Rp.int .i64) x7.2.2.2.2.1, row v6 38 CG x1.1, row v7 91 Fb x1.2] w := W
     refine ls F W Aa (Ah F Aa).q fun a w F W => ?_
     refine Ad (AF (Ab ?_))
     have W := W.frontZ (i := 5) Aa Aa
     have W := W.frontZ (i := 5) Aa Aa
     have W := W.frontZ (i := 4) Aa Aa
     have W := W.frontZ (i := 3) Aa Aa
     have W := W.frontM (i := 2) Aa Aa
     have W := W.frontM (i := 2) Aa Aa
     have W := W.sub (M' := [(b2, [v6, v7]), (b1, [.int .i64 p0.1, v1, v2])]) (Z' := [row v24 45 E2 x19, row v9 78 Jl x3, row v6 38 CG x1.1, row v7 91 Fb x1.2]) (List.Sublist.cons_cons _ (List.Sublist.cons_cons _ (List.nil_sublist _))) (List.Sublist.cons_cons _ (List.Sublist.cons_cons _ (List.Sublist.cons_cons _ (List.Sublist.cons_cons _ (List.nil_sublist _)))))
     exact ⟨_, (v24), H, F.re ⟨rfl, Aa, Aa, Aa, Aa, Aa, Aa, Aa, trivial⟩, W⟩
    have H := AL (by rw [hb]; decide) H
    rw [hb] at F
    clear hb
    refine Ap (AF (Ab ?_))
    have W := W.frontZ (i := 4) Aa Aa
    have W := W.frontZ (i := 4) Aa Aa
    have W := W.frontZ (i := 3) Aa Aa
    have W := W.frontZ (i := 3) Aa Aa
    have W := W.frontM (i := 2) Aa Aa
    have W := W.frontM (i := 2) Aa Aa
    have W := W.sub (M' := [(b2, [v6, v7]), (b1, [.int .i64 p0.1, v1, v2])]) (Z' := [row v20 45 E2 x13, row v9 78 Jl x3, row v6 38 CG x1.1, row v7 91 Fb x1.2]) (List.Sublist.cons_cons _ (List.Sublist.cons_cons _ (List.nil_sublist _))) (List.Sublist.cons_cons _ (List.Sublist.cons_cons _ (List.Sublist.cons_cons _ (List.Sublist.cons_cons _ (List.nil_sublist _)))))
    exact ⟨_, (v20), H, F.re ⟨rfl, Aa, Aa, Aa, Aa, Aa, Aa, Aa, trivial⟩, W⟩
   rintro a w ⟨x6, v11, hj, F, W⟩
   have hj := AN hj
   subst hj
   have H := K3
   clear G3 K3
   refine Ac ?_
   refine ls F W Aa (BS F Aa Aa Aa).q fun a w F W => ?_
   refine ls F W Aa (Ag F Aa).q fun a w F W => ?_
   refine Ad (Ab ?_)
   have W := W.frontZ (i := 3) Aa Aa
   have W := W.frontZ (i := 3) Aa Aa
   have W := W.frontZ (i := 3) Aa Aa
   have W := W.frontZ (i := 3) Aa Aa
   have W := W.frontM (i := 1) Aa Aa
   have W := W.frontM (i := 1) Aa Aa
   exact ⟨_, H, (v11), F.re ⟨rfl, Aa, Aa, Aa, Aa, Aa, Aa, Aa, trivial⟩, W⟩
  have H := AL (Bc hb) H
  rw [hb] at F
  clear hb
  refine A8 ?_
  iterate 2 refine Bk ?_
  refine A9 (Ab ?_)
  have W := W.frontZ (i := 3) Aa Aa
  have W := W.frontZ (i := 3) Aa Aa
  have W := W.frontZ (i := 2) Aa Aa
  have W := W.frontM (i := 1) Aa Aa
  have W := W.frontM (i := 1) Aa Aa
  have W := W.sub (M' := [(b2, [v6, v7]), (b1, [.int .i64 p0.1, v1, v2])]) (Z' := [row v10 45 E2 x4, row v6 38 CG x1.1, row v7 91 Fb x1.2]) (List.Sublist.refl _) (List.Sublist.cons_cons _ (List.Sublist.cons_cons _ (List.Sublist.cons_cons _ (List.nil_sublist _))))
  have H := L2 _ H
  exact ⟨_, (v10), H, F.re ⟨rfl, Aa, trivial⟩, W⟩
 rintro a w ⟨x2, v8, hj, F, W⟩
 have hj := AN hj
 subst hj
 have H := K1
 clear G1 K1
 refine Ai (Ac ?_)
 refine ls F W Aa (Ag F Aa).q fun a w F W => ?_
 refine ls F W Aa (Ah F Aa).q fun a w F W => ?_
 refine Ad (Ab (AA ?_))
 have H := AN H
 subst H
 refine AW (.inl Aa) F W Aa (As F Aa) ?_
 have W := W.sub (M' := []) (Z' := [row v8 45 E2 x2]) (List.nil_sublist _) (List.Sublist.cons_cons _ (List.nil_sublist _))
 exact ⟨(v8), Aa, W⟩
theorem Qz : Has Try.prog 17 := ⟨fun args w => Al Try.func17 rfl (by decide) args w⟩
theorem Q9 : Ty Try.prog 45 true 2 := ⟨by kernel_rfl, by kernel_rfl⟩
theorem Qk (dd : Nat) (x0 : Int) (x1 : Int) (y0 : Int) (y1 : Int) (w : World) : (Op.equalIn (dd + 2) 45 (.agg #[.int .i64 x0, .int .i64 x1]) (.agg #[.int .i64 y0, .int .i64 y1])).run Try.prog w = .ok (decide (x0 = y0 ∧ x1 = y1)) w :=
  HX (d := dd + 1) (rs := [decide (x0 = y0), decide (x1 = y1)]) Ot (by kernel_rfl) ⟨rfl, G0 (d := dd + 0) rfl rfl On T3 rfl rfl, rfl, G0 (d := dd + 0) rfl rfl On T3 rfl rfl, trivial⟩ (by simp) w
theorem Ri : Try.prog.eqGuardType Try.prog.depth 45 = false := by kernel_rfl
theorem RO (x0 : Int) (x1 : Int) (y0 : Int) (y1 : Int) (w : World) : (Op.equalIn 10000 45 (.agg #[.int .i64 x0, .int .i64 x1]) (.agg #[.int .i64 y0, .int .i64 y1])).run Try.prog w = .ok (decide (x0 = y0 ∧ x1 = y1)) w := Qk 9998 x0 x1 y0 y1 w
def CJ (p0 : Int) : List UInt8 := (if p0 = 1 then ([116, 119, 105, 99, 101] : List UInt8) else (if p0 = 2 then ([108, 111, 115, 116] : List UInt8) else (if p0 = 3 then ([97, 115, 116, 114, 97, 121] : List UInt8) else (if p0 = 4 then ([111, 116, 104, 101, 114] : List UInt8) else ([63] : List UInt8)))))
theorem HP (Y : Nat → Prop) (w0 : World)  (p0 : Int) (r : List UInt8) (H : CJ p0 = r)  :
    Calls Try.prog 15 #[.int .i64 p0] w0 fun e w' => e = .returned (.string (bs r)) ∧ Below w0.heap.size w0 w' := by
 refine enter Try.func15 Aa Try.ntmps15 Aa fun a F => ?_
 have W := Stw.start Y w0
 unfold CJ at H
 refine Ai (Ac ?_)
 refine ls F W Aa (Ah (v := Value.string (bs ([] : List UInt8))) F Aa).q fun a w F W => ?_
 refine Ad (Ab (Ai (Ai (Ac ?_))))
 refine ls F W Aa (Ag F Aa).q fun a w F W => ?_
 refine Ad (Ab (Au (Ai (Ac ?_))))
 refine ls F W Aa (Bz F Aa Aa).q fun a w F W => ?_
 refine ls F W Aa (Ah F Aa).q fun a w F W => ?_
 refine Ad (Ab ?_)
 refine Ax F Aa (fun hb => ?_) fun hb => ?_
 ·
  have H := AK (Bd hb) H
  rw [hb] at F
  clear hb
  refine Ai (Ac ?_)
  refine ls F W Aa (Ah (v := Value.string (bs ([116, 119, 105, 99, 101] : List UInt8))) F Aa).q fun a w F W => ?_
  refine Ad (Ab (AA (AH (AD ?_))))
  subst H
  refine AW (.inl Aa) F W Aa (As F Aa) ?_
  exact ⟨rfl, W.done⟩
 have H := AL (Bc hb) H
 rw [hb] at F
 clear hb
 refine Ai (Ac ?_)
 refine ls F W Aa (Bz F Aa Aa).q fun a w F W => ?_
 refine ls F W Aa (Ah F Aa).q fun a w F W => ?_
 refine Ad (Ab ?_)
 refine Ax F Aa (fun hb => ?_) fun hb => ?_
 ·
  have H := AK (Bd hb) H
  rw [hb] at F
  clear hb
  refine Ai (Ac ?_)
  refine ls F W Aa (Ah (v := Value.string (bs ([108, 111, 115, 116] : List UInt8))) F Aa).q fun a w F W => ?_
  refine Ad (Ab (AA (AH (AD ?_))))
  subst H
  refine AW (.inl Aa) F W Aa (As F Aa) ?_
  exact ⟨rfl, W.done⟩
 have H := AL (Bc hb) H
 rw [hb] at F
 clear hb
 refine Ai (Ac ?_)
 refine ls F W Aa (Bz F Aa Aa).q fun a w F W => ?_
 refine ls F W Aa (Ah F Aa).q fun a w F W => ?_
 refine Ad (Ab ?_)
 refine Ax F Aa (fun hb => ?_) fun hb => ?_
 ·
  have H := AK (Bd hb) H
  rw [hb] at F
  clear hb
  refine Ai (Ac ?_)
  refine ls F W Aa (Ah (v := Value.string (bs ([97, 115, 116, 114, 97, 121] : List UInt8))) F Aa).q fun a w F W => ?_
  refine Ad (Ab (AA (AH (AD ?_))))
  subst H
  refine AW (.inl Aa) F W Aa (As F Aa) ?_
  exact ⟨rfl, W.done⟩
 have H := AL (Bc hb) H
 rw [hb] at F
 clear hb
 refine Ai (Ac ?_)
 refine ls F W Aa (Bz F Aa Aa).q fun a w F W => ?_
 refine ls F W Aa (Ah F Aa).q fun a w F W => ?_
 refine Ad (Ab ?_)
 refine Ax F Aa (fun hb => ?_) fun hb => ?_
 ·
  have H := AK (Bd hb) H
  rw [hb] at F
  clear hb
  refine Ai (Ac ?_)
  refine ls F W Aa (Ah (v := Value.string (bs ([111, 116, 104, 101, 114] : List UInt8))) F Aa).q fun a w F W => ?_
  refine Ad (Ab (AA (AH (AD ?_))))
  subst H
  refine AW (.inl Aa) F W Aa (As F Aa) ?_
  exact ⟨rfl, W.done⟩
 have H := AL (Bc hb) H
 rw [hb] at F
 clear hb
 refine Ap (AF (Ab (Ai (Ac ?_))))
 refine ls F W Aa (Ah (v := Value.string (bs ([63] : List UInt8))) F Aa).q fun a w F W => ?_
 refine Ad (Ab (AA ?_))
 subst H
 refine AW (.inl Aa) F W Aa (As F Aa) ?_
 exact ⟨rfl, W.done⟩
theorem QU : Has Try.prog 15 := ⟨fun args w => Al Try.func15 rfl (by decide) args w⟩
noncomputable def EQ  : Option Bool := (C1 (1, ([] : List (Int × Int × Int × Int × Int × Int)), ([(0, 3)] : List (Int × Int))) ([([([3] : List Int)] : List (List Int))] : List (List (List Int))) ([(1, 0, 4, 0, 0, 0), (4, 0, 4, 0, 0, 0)] : List (Int × Int × Int × Int × Int × Int))).bind fun x1 => ((C1 (1, ([] : List (Int × Int × Int × Int × Int × Int)), ([(0, 3)] : List (Int × Int))) ([([([3] : List Int)] : List (List Int))] : List (List (List Int))) ([(1, 0, 0, 0, 0, 0), (2, 0, 0, 0, 0, 0), (3, 0, 0, 0, 0, 0)] : List (Int × Int × Int × Int × Int × Int))).bind fun x3 => (if (x3.length : Int) = 0 then (if (x1.length : Int) = 1 then (ix x1 0).bind fun x4 => (if x4.1 = 2 ∧ x4.2 = 4 then some (decide ((CJ 2) = ([108, 111, 115, 116] : List UInt8))) else some false) else some false) else some false)).bind fun x2 => some x2
theorem Iv (Y : Nat → Prop) (w0 : World)   (r : Bool) (H : EQ  = some r)  :
    Calls Try.prog 8 #[] w0 fun e w' => e = .returned (.bool r) ∧ Below w0.heap.size w0 w' := by
 refine enter Try.func8 Aa Try.ntmps8 Aa fun a F => ?_
 have W := Stw.start Y w0
 unfold EQ at H
 refine Ai (Ac ?_)
 refine ls F W Aa (Ah F Aa).q fun a w F W => ?_
 refine Ad (Ab (Ai (Ac ?_)))
 refine ls F W Aa (BH (v := Value.agg #[.int .i64 0, .int .i64 3]) QO F Aa Aa Aa).q fun a w F W => ?_
 refine Da (z := Value.agg #[.int .i64 0, .int .i64 0]) (cs := [.int .i64 0, .int .i64 3]) EL ([(0, 3)] : List (Int × Int)) F W Aa Od QV Aa Aa Aa Aa Aa Aa (OA.repL _ _ ([(0, 3)] : List (Int × Int))) fun v1 a w F W => ?_
 refine ls F W Aa (BH (v := Value.agg #[.int .i64 1, .slice none 0 0, v1]) Q1 F Aa (EV Aa Aa Aa (EV Aa (DB (W.one (k := 0) Aa)) Aa Ge)) Aa).q fun a w F W => ?_
 refine BX (cs := [.int .i64 0, .slice none 0 0, .slice none 0 0]) F W Aa RA Aa fun b1 a w F W => ?_
 refine BJ (vs := [.int .i64 1, .slice none 0 0, v1]) (M' := [(b1, [.int .i64 1, .slice none 0 0, v1])]) 0 F W Aa Aa Aa HW Aa Aa Aa (A7 Aa (A7 Aa (A7 (W.one (k := 0) Aa) FX))) Aa fun w W => ?_
 refine Ad (Ab (Ai (Ac ?_)))
 refine Da (z := Value.int .i64 0) (cs := [.int .i64 3]) (Rp.int .i64) ([3] : List Int) F W Aa Hl Z3 Aa Aa Aa Aa Aa Aa (Fl.int.repL _ _ ([3] : List Int)) fun v2 a w F W => ?_
 have W := W.freeze
 refine Da (z := Value.slice none 0 0) (cs := [v2]) (Rp.slice (Rp.int .i64)) ([([3] : List Int)] : List (List Int)) F W Aa MT Sa Aa Aa Aa (EV Aa (DB (W.oneF (k := 0) Aa)) Aa Ge) Aa Aa ⟨[v2], _, Aa, ⟨_, Aa, (W.item (i := 0) Aa)⟩, Aa⟩ fun v3 a w F W => ?_
 have W := W.freeze
 refine Da (z := Value.slice none 0 0) (cs := [v3]) (Rp.slice (Rp.slice (Rp.int .i64))) ([([([3] : List Int)] : List (List Int))] : List (List (List Int))) F W Aa P4 R3 Aa Aa Aa (EV Aa (DB (W.oneF (k := 0) Aa)) Aa Ge) Aa Aa ⟨[v3], _, Aa, ⟨_, Aa, (W.item (i := 0) Aa)⟩, Aa⟩ fun v4 a w F W => ?_
 refine ls F W Aa (Ah F Aa).q fun a w F W => ?_
 refine Ad (Ab (Ai (Ac ?_)))
 refine ls F W Aa (BH (v := Value.agg #[.int .i64 1, .int .i64 0, .int .i64 0, .int .i64 0, .int .i64 0, .int .i64 0]) PL F Aa Aa Aa).q fun a w F W => ?_
 refine ls F W Aa (BH (v := Value.agg #[.int .i64 2, .int .i64 0, .int .i64 0, .int .i64 0, .int .i64 0, .int .i64 0]) PL F Aa Aa Aa).q fun a w F W => ?_
 refine ls F W Aa (BH (v := Value.agg #[.int .i64 3, .int .i64 0, .int .i64 0, .int .i64 0, .int .i64 0, .int .i64 0]) PL F Aa Aa Aa).q fun a w F W => ?_
 refine Da (z := Value.agg #[.int .i64 0, .int .i64 0, .int .i64 0, .int .i64 0, .int .i64 0, .int .i64 0]) (cs := [.int .i64 1, .int .i64 0, .int .i64 0, .int .i64 0, .int .i64 0, .int .i64 0, .int .i64 2, .int .i64 0, .int .i64 0, .int .i64 0, .int .i64 0, .int .i64 0, .int .i64 3, .int .i64 0, .int .i64 0, .int .i64 0, .int .i64 0, .int .i64 0]) Ej ([(1, 0, 0, 0, 0, 0), (2, 0, 0, 0, 0, 0), (3, 0, 0, 0, 0, 0)] : List (Int × Int × Int × Int × Int × Int)) F W Aa JK Px Aa Aa Aa Aa Aa Aa (JJ.repL _ _ ([(1, 0, 0, 0, 0, 0), (2, 0, 0, 0, 0, 0), (3, 0, 0, 0, 0, 0)] : List (Int × Int × Int × Int × Int × Int))) fun v5 a w F W => ?_
 refine ls F W Aa (Ah F Aa).q fun a w F W => ?_
 refine Ad (Ab (Ai (Ac ?_)))
 refine ls F W Aa (Am (v := Value.agg #[.int .i64 1, .slice none 0 0, v1]) 0 F Aa Aa HW Aa).q fun a w F W => ?_
 refine ls F W Aa (Ag F Aa).q fun a w F W => ?_
 refine ls F W Aa (BH (v := Value.agg #[.int .i64 1, .int .i64 0, .int .i64 4, .int .i64 0, .int .i64 0, .int .i64 0]) PL F Aa Aa Aa).q fun a w F W => ?_
 refine ls F W Aa (BH (v := Value.agg #[.int .i64 4, .int .i64 0, .int .i64 4, .int .i64 0, .int .i64 0, .int .i64 0]) PL F Aa Aa Aa).q fun a w F W => ?_
 refine Da (z := Value.agg #[.int .i64 0, .int .i64 0, .int .i64 0, .int .i64 0, .int .i64 0, .int .i64 0]) (cs := [.int .i64 1, .int .i64 0, .int .i64 4, .int .i64 0, .int .i64 0, .int .i64 0, .int .i64 4, .int .i64 0, .int .i64 4, .int .i64 0, .int .i64 0, .int .i64 0]) Ej ([(1, 0, 4, 0, 0, 0), (4, 0, 4, 0, 0, 0)] : List (Int × Int × Int × Int × Int × Int)) F W Aa JK Px Aa Aa Aa Aa Aa Aa (JJ.repL _ _ ([(1, 0, 4, 0, 0, 0), (4, 0, 4, 0, 0, 0)] : List (Int × Int × Int × Int × Int × Int))) fun v6 a w F W => ?_
 obtain ⟨x1, h1, H⟩ := An H
 refine BW (Ml := []) (Zl := []) (M := [(b1, [.int .i64 1, .slice none 0 0, v1])]) (Z := [row v6 48 Ej ([(1, 0, 4, 0, 0, 0), (4, 0, 4, 0, 0, 0)] : List (Int × Int × Int × Int × Int × Int)), row v5 48 Ej ([(1, 0, 0, 0, 0, 0), (2, 0, 0, 0, 0, 0), (3, 0, 0, 0, 0, 0)] : List (Int × Int × Int × Int × Int × Int)), row v4 52 (Rp.slice (Rp.slice (Rp.int .i64))) ([([([3] : List Int)] : List (List Int))] : List (List (List Int))), Gu v3 (Rp.slice (Rp.int .i64)) ([([3] : List Int)] : List (List Int)), Gu v2 (Rp.int .i64) ([3] : List Int), row v1 60 EL ([(0, 3)] : List (Int × Int))]) (β := Value) (rv := fun x => x) (MM := fun x => []) (ZZ := fun x => [row x 45 E2 x1]) F W Qz Aa Aa (fun hL => Gc _ w (Value.slice none 0 0) (v1) (v4) (v6) (1, ([] : List (Int × Int × Int × Int × Int × Int)), ([(0, 3)] : List (Int × Int))) ([([([3] : List Int)] : List (List Int))] : List (List (List Int))) ([(1, 0, 4, 0, 0, 0), (4, 0, 4, 0, 0, 0)] : List (Int × Int × Int × Int × Int × Int)) _ h1 Sl.nil ((AE 5 Aa) w W).nx ((AE 2 Aa) w W).nx ((AE 0 Aa) w W).nx) fun x a w F W => ?_
 obtain ⟨v7, rfl⟩ : ∃ y, y = x := ⟨x, rfl⟩
 have W : Stw ⟨Y, [], w0⟩ [(b1, [.int .i64 1, .slice none 0 0, v1])] [row v7 45 E2 x1, row v6 48 Ej ([(1, 0, 4, 0, 0, 0), (4, 0, 4, 0, 0, 0)] : List (Int × Int × Int × Int × Int × Int)), row v5 48 Ej ([(1, 0, 0, 0, 0, 0), (2, 0, 0, 0, 0, 0), (3, 0, 0, 0, 0, 0)] : List (Int × Int × Int × Int × Int × Int)), row v4 52 (Rp.slice (Rp.slice (Rp.int .i64))) ([([([3] : List Int)] : List (List Int))] : List (List (List Int))), Gu v3 (Rp.slice (Rp.int .i64)) ([([3] : List Int)] : List (List Int)), Gu v2 (Rp.int .i64) ([3] : List Int), row v1 60 EL ([(0, 3)] : List (Int × Int))] w := W
 refine ls F W Aa (Ah F Aa).q fun a w F W => ?_
 refine Ad (Ab ?_)
 obtain ⟨o1, G1, K1⟩ := An H
 refine AB (fun a w => ∃ x2 : Bool, some (x2) = some o1 ∧ Fr 43 [] [(0, .bool x2)] a ∧ Stw ⟨Y, [], w0⟩ [(b1, [.int .i64 1, .slice none 0 0, v1])] [row v1 60 EL ([(0, 3)] : List (Int × Int))] w) ?_ ?_
 ·
  have H := G1
  clear G1 K1
  refine Ac ?_
  refine ls F W Aa (Am (v := Value.agg #[.int .i64 1, .slice none 0 0, v1]) 0 F Aa Aa HW Aa).q fun a w F W => ?_
  iterate 2 refine ls F W Aa (Ag F Aa).q fun a w F W => ?_
  obtain ⟨x3, h2, H⟩ := An H
  refine BW (Ml := []) (Zl := []) (M := [(b1, [.int .i64 1, .slice none 0 0, v1])]) (Z := [row v7 45 E2 x1, row v6 48 Ej ([(1, 0, 4, 0, 0, 0), (4, 0, 4, 0, 0, 0)] : List (Int × Int × Int × Int × Int × Int)), row v5 48 Ej ([(1, 0, 0, 0, 0, 0), (2, 0, 0, 0, 0, 0), (3, 0, 0, 0, 0, 0)] : List (Int × Int × Int × Int × Int × Int)), row v4 52 (Rp.slice (Rp.slice (Rp.int .i64))) ([([([3] : List Int)] : List (List Int))] : List (List (List Int))), Gu v3 (Rp.slice (Rp.int .i64)) ([([3] : List Int)] : List (List Int)), Gu v2 (Rp.int .i64) ([3] : List Int), row v1 60 EL ([(0, 3)] : List (Int × Int))]) (β := Value) (rv := fun x => x) (MM := fun x => []) (ZZ := fun x => [row x 45 E2 x3]) F W Qz Aa Aa (fun hL => Gc _ w (Value.slice none 0 0) (v1) (v4) (v5) (1, ([] : List (Int × Int × Int × Int × Int × Int)), ([(0, 3)] : List (Int × Int))) ([([([3] : List Int)] : List (List Int))] : List (List (List Int))) ([(1, 0, 0, 0, 0, 0), (2, 0, 0, 0, 0, 0), (3, 0, 0, 0, 0, 0)] : List (Int × Int × Int × Int × Int × Int)) _ h2 Sl.nil ((AE 6 Aa) w W).nx ((AE 3 Aa) w W).nx ((AE 2 Aa) w W).nx) fun x a w F W => ?_
  obtain ⟨v8, rfl⟩ : ∃ y, y = x := ⟨x, rfl⟩
  have W : Stw ⟨Y, [], w0⟩ [(b1, [.int .i64 1, .slice none 0 0, v1])] [row v8 45 E2 x3, row v7 45 E2 x1, row v6 48 Ej ([(1, 0, 4, 0, 0, 0), (4, 0, 4, 0, 0, 0)] : List (Int × Int × Int × Int × Int × Int)), row v5 48 Ej ([(1, 0, 0, 0, 0, 0), (2, 0, 0, 0, 0, 0), (3, 0, 0, 0, 0, 0)] : List (Int × Int × Int × Int × Int × Int)), row v4 52 (Rp.slice (Rp.slice (Rp.int .i64))) ([([([3] : List Int)] : List (List Int))] : List (List (List Int))), Gu v3 (Rp.slice (Rp.int .i64)) ([([3] : List Int)] : List (List Int)), Gu v2 (Rp.int .i64) ([3] : List Int), row v1 60 EL ([(0, 3)] : List (Int × Int))] w := W
  refine ls F W Aa (A6 (r := E2) (l := x3) OG Aa F Aa (AE 0 Aa)).q fun a w F W => ?_
  refine ls F W Aa (Bz F Aa Aa).q fun a w F W => ?_
  refine ls F W Aa (Ag F Aa).q fun a w F W => ?_
  rcases Bool.eq_false_or_eq_true (decide ((x3.length : Int) = 0)) with hb | hb
  ·
   have H := AK (Bd hb) H
   rw [hb] at F
   clear hb
   refine Ay F W (Ae F Aa Aa Aa Aa) Aa (Ak Aa) (Ag F Aa).q fun a w F W => ?_
   refine Ay F W (Ae F Aa Aa Aa Aa) Aa (Ak Aa) (A6 (r := E2) (l := x1) OG Aa F Aa (AE 1 Aa)).q fun a w F W => ?_
   refine Ay F W (Ae F Aa Aa Aa Aa) Aa (Ak Aa) (Bz F Aa Aa).q fun a w F W => ?_
   refine ls F W Aa (Ao F Aa Aa Aa).q fun a w F W => ?_
   refine ls F W Aa (Ag F Aa).q fun a w F W => ?_
   rcases Bool.eq_false_or_eq_true (decide ((x1.length : Int) = 1)) with hb | hb
   ·
    have H := AK (Bd hb) H
    rw [hb] at F
    clear hb
    refine Ay F W (Ae F Aa Aa Aa Aa) Aa (Ak Aa) (Ag F Aa).q fun a w F W => ?_
    obtain ⟨x4, h3, H⟩ := An H
    refine Ay F W (Ae F Aa Aa Aa Aa) Aa (Ak Aa) (Az (r := E2) NE F Aa Aa (AE 1 Aa) h3).q fun a w F W => ?_
    refine Ay F W (Ae F Aa Aa Aa Aa) Aa (Ak Aa) (Aq (y := Value.agg #[.int .i64 x4.1, .int .i64 x4.2]) (j := 0) (i := 0) F Aa Aa (AE 1 Aa) h3 O3.to Q9 Aa).q fun a w F W => ?_
    refine Ay F W (Ae F Aa Aa Aa Aa) Aa (Ak Aa) (BH (v := Value.agg #[.int .i64 2, .int .i64 4]) PK F Aa Aa Aa).q fun a w F W => ?_
    refine Ay F W (Ae F Aa Aa Aa Aa) Aa (Ak Aa) (Mh (t := decide (x4.1 = 2 ∧ x4.2 = 4)) Ri (RO _ _ _ _) F Aa Aa).q fun a w F W => ?_
    refine ls F W Aa (Ao F Aa Aa Aa).q fun a w F W => ?_
    refine ls F W Aa (Ag F Aa).q fun a w F W => ?_
    rcases Bool.eq_false_or_eq_true (decide (x4.1 = 2 ∧ x4.2 = 4)) with hb | hb
    ·
     have H := AK (Bd hb) H
     rw [hb] at F
     clear hb
     refine Jv (Ae F Aa Aa Aa Aa) ?_
     refine ls F W Aa (Bl (v := Value.string (bs (CJ 2))) F QU Aa (fun w W => HP any w 2 _ Aa)) fun a w F W => ?_
     refine Ay F W (Ae F Aa Aa Aa Aa) Aa (Ak Aa) (PD (l := (CJ 2)) (m := ([108, 111, 115, 116] : List UInt8)) F Aa Aa).q fun a w F W => ?_
     refine ls F W Aa (Ao F Aa Aa Aa).q fun a w F W => ?_
     refine ls F W Aa (Ah F Aa).q fun a w F W => ?_
     refine Ad (Ab ?_)
     have W := W.frontZ (i := 7) Aa Aa
     have W := W.sub (M' := [(b1, [.int .i64 1, .slice none 0 0, v1])]) (Z' := [row v1 60 EL ([(0, 3)] : List (Int × Int))]) (List.Sublist.refl _) (List.Sublist.cons_cons _ (List.nil_sublist _))
     exact ⟨_, H, F.re ⟨rfl, trivial⟩, W⟩
    have H := AL (Bc hb) H
    rw [hb] at F
    clear hb
    iterate 2 refine B4 F Aa Aa Aa Aa Aa Aa Aa fun a F => ?_
    refine ls F W Aa (Av F Aa Aa Aa).q fun a w F W => ?_
    refine ls F W Aa (Ah F Aa).q fun a w F W => ?_
    refine Ad (Ab ?_)
    have W := W.frontZ (i := 7) Aa Aa
    have W := W.sub (M' := [(b1, [.int .i64 1, .slice none 0 0, v1])]) (Z' := [row v1 60 EL ([(0, 3)] : List (Int × Int))]) (List.Sublist.refl _) (List.Sublist.cons_cons _ (List.nil_sublist _))
    exact ⟨_, H, F.re ⟨rfl, trivial⟩, W⟩
   have H := AL (Bc hb) H
   rw [hb] at F
   clear hb
   iterate 5 refine B4 F Aa Aa Aa Aa Aa Aa Aa fun a F => ?_
   refine ls F W Aa (Av F Aa Aa Aa).q fun a w F W => ?_
   refine ls F W Aa (Ag F Aa).q fun a w F W => ?_
   iterate 2 refine B4 F Aa Aa Aa Aa Aa Aa Aa fun a F => ?_
   refine ls F W Aa (Av F Aa Aa Aa).q fun a w F W => ?_
   refine ls F W Aa (Ah F Aa).q fun a w F W => ?_
   refine Ad (Ab ?_)
   have W := W.frontZ (i := 7) Aa Aa
   have W := W.sub (M' := [(b1, [.int .i64 1, .slice none 0 0, v1])]) (Z' := [row v1 60 EL ([(0, 3)] : List (Int × Int))]) (List.Sublist.refl _) (List.Sublist.cons_cons _ (List.nil_sublist _))
   exact ⟨_, H, F.re ⟨rfl, trivial⟩, W⟩
  have H := AL (Bc hb) H
  rw [hb] at F
  clear hb
  iterate 3 refine B4 F Aa Aa Aa Aa Aa Aa Aa fun a F => ?_
  refine ls F W Aa (Av F Aa Aa Aa).q fun a w F W => ?_
  refine ls F W Aa (Ag F Aa).q fun a w F W => ?_
  iterate 5 refine B4 F Aa Aa Aa Aa Aa Aa Aa fun a F => ?_
  refine ls F W Aa (Av F Aa Aa Aa).q fun a w F W => ?_
  refine ls F W Aa (Ag F Aa).q fun a w F W => ?_
  iterate 2 refine B4 F Aa Aa Aa Aa Aa Aa Aa fun a F => ?_
  refine ls F W Aa (Av F Aa Aa Aa).q fun a w F W => ?_
  refine ls F W Aa (Ah F Aa).q fun a w F W => ?_
  refine Ad (Ab ?_)
  have W := W.frontZ (i := 7) Aa Aa
  have W := W.sub (M' := [(b1, [.int .i64 1, .slice none 0 0, v1])]) (Z' := [row v1 60 EL ([(0, 3)] : List (Int × Int))]) (List.Sublist.refl _) (List.Sublist.cons_cons _ (List.nil_sublist _))
  exact ⟨_, H, F.re ⟨rfl, trivial⟩, W⟩
 rintro a w ⟨x2, hj, F, W⟩
 have hj := AN hj
 subst hj
 have H := K1
 clear G1 K1
 refine AA ?_
 have H := AN H
 subst H
 refine AW (.inl Aa) F W Aa (As F Aa) ?_
 exact ⟨rfl, W.done⟩
theorem H8 : Has Try.prog 8 := ⟨fun args w => Al Try.func8 rfl (by decide) args w⟩
noncomputable def D2 (p0 : List (Int × Int × Int × Int × Int × Int)) (p1 : Int) : Option Bool := (Dr p0).bind fun x1 => (Bh x1 p1).bind fun x2 => some x2
theorem IQ (Y : Nat → Prop) (w0 : World) (v1 : Value) (p0 : List (Int × Int × Int × Int × Int × Int)) (p1 : Int) (r : Bool) (H : D2 p0 p1 = some r) (h_v1 : Sl w0 (NX []) Ej v1 p0) :
    Calls Try.prog 11 #[v1, .int .i64 p1] w0 fun e w' => e = .returned (.bool r) ∧ Below w0.heap.size w0 w' := by
 refine enter Try.func11 Aa Try.ntmps11 Aa fun a F => ?_
 have W := Stw.start Y w0
 unfold D2 at H
 refine Ai (Ac ?_)
 refine ls F W Aa (Ah F Aa).q fun a w F W => ?_
 refine Ad (Ab (Ai (Ac ?_)))
 refine ls F W Aa (Ag F Aa).q fun a w F W => ?_
 obtain ⟨x1, h1, H⟩ := An H
 refine BW (Ml := []) (Zl := []) (M := []) (Z := []) (β := Value × Value) (rv := fun x => .agg #[x.1, x.2]) (MM := fun x => []) (ZZ := fun x => [row x.1 38 CG x1.1, row x.2 91 Fb x1.2]) F W Qw Aa Aa (fun hL => GD _ w (v1) p0 _ h1 ((Aj h_v1) w W).nx) fun x a w F W => ?_
 obtain ⟨v2, v3⟩ := x
 have W : Stw ⟨Y, [], w0⟩ [] [row v2 38 CG x1.1, row v3 91 Fb x1.2] w := W
 refine ls F W Aa (Ag F Aa).q fun a w F W => ?_
 obtain ⟨x2, h2, H⟩ := An H
 refine ls F W Aa (Bl (v := Value.bool x2) F QY Aa (fun w W => DX any w (v2) (v3) x1 p1 _ h2 (((AE 0 Aa) : CH _ _ _ _ _ _) w W).nx (((AE 1 Aa) : CH _ _ _ _ _ _) w W).nx)) fun a w F W => ?_
 refine ls F W Aa (Ah F Aa).q fun a w F W => ?_
 refine Ad (Ab (AA ?_))
 have H := AN H
 subst H
 refine AW (.inl Aa) F W Aa (As F Aa) ?_
 exact ⟨rfl, W.done⟩
theorem RI : Has Try.prog 11 := ⟨fun args w => Al Try.func11 rfl (by decide) args w⟩
noncomputable def D3 (p0 : List (Int × Int × Int × Int × Int × Int)) (p1 : Int) : Option Int := (Dr p0).bind fun x1 => (Bq x1 p1).bind fun x2 => some x2
theorem IC (Y : Nat → Prop) (w0 : World) (v1 : Value) (p0 : List (Int × Int × Int × Int × Int × Int)) (p1 : Int) (r : Int) (H : D3 p0 p1 = some r) (h_v1 : Sl w0 (NX []) Ej v1 p0) :
    Calls Try.prog 13 #[v1, .int .i64 p1] w0 fun e w' => e = .returned (.int .i64 r) ∧ Below w0.heap.size w0 w' := by
 refine enter Try.func13 Aa Try.ntmps13 Aa fun a F => ?_
 have W := Stw.start Y w0
 unfold D3 at H
 refine Ai (Ac ?_)
 refine ls F W Aa (Ah F Aa).q fun a w F W => ?_
 refine Ad (Ab (Ai (Ac ?_)))
 refine ls F W Aa (Ag F Aa).q fun a w F W => ?_
 obtain ⟨x1, h1, H⟩ := An H
 refine BW (Ml := []) (Zl := []) (M := []) (Z := []) (β := Value × Value) (rv := fun x => .agg #[x.1, x.2]) (MM := fun x => []) (ZZ := fun x => [row x.1 38 CG x1.1, row x.2 91 Fb x1.2]) F W Qw Aa Aa (fun hL => GD _ w (v1) p0 _ h1 ((Aj h_v1) w W).nx) fun x a w F W => ?_
 obtain ⟨v2, v3⟩ := x
 have W : Stw ⟨Y, [], w0⟩ [] [row v2 38 CG x1.1, row v3 91 Fb x1.2] w := W
 refine ls F W Aa (Ag F Aa).q fun a w F W => ?_
 obtain ⟨x2, h2, H⟩ := An H
 refine ls F W Aa (Bl (v := Value.int .i64 x2) F QC Aa (fun w W => Ef any w (v2) (v3) x1 p1 _ h2 (((AE 0 Aa) : CH _ _ _ _ _ _) w W).nx (((AE 1 Aa) : CH _ _ _ _ _ _) w W).nx)) fun a w F W => ?_
 refine ls F W Aa (Ah F Aa).q fun a w F W => ?_
 refine Ad (Ab (AA ?_))
 have H := AN H
 subst H
 refine AW (.inl Aa) F W Aa (As F Aa) ?_
 exact ⟨rfl, W.done⟩
theorem QP : type_of% Try.underlying4 := Try.underlying4
theorem Q7 : Has Try.prog 13 := ⟨fun args w => Al Try.func13 rfl (by decide) args w⟩
noncomputable def EH (p1 : List (List Int)) : Int → Option (Int ⊕ (Unit ⊕ Bool))
  | x1 => (if x1 < (p1.length : Int) then (ix p1 x1).bind fun x2 => (if 12 < (x2.length : Int) then some (.inr (.inr false)) else some (.inl (Dz (x1 + 1)))) else some (.inr (.inl ())))
noncomputable def Fv (p0 : Int × (List (Int × Int × Int × Int × Int × Int)) × (List (Int × Int))) (p1 : List (List Int)) : Option Bool := D6 (AM (EH p1) 0) fun _ => some (decide ((p0.2.1.length : Int) ≤ 30) && (decide ((p0.2.2.length : Int) ≤ 12) && decide ((p1.length : Int) ≤ 12)))
theorem Ii (Y : Nat → Prop) (w0 : World) (v1 : Value) (v2 : Value) (v3 : Value) (p0 : Int × (List (Int × Int × Int × Int × Int × Int)) × (List (Int × Int))) (p1 : List (List Int)) (r : Bool) (H : Fv p0 p1 = some r) (h_v1 : Sl w0 (NX []) C8 v1 p0.2.1) (h_v2 : Sl w0 (NX []) EL v2 p0.2.2) (h_v3 : Sl w0 (NX []) (Rp.slice (Rp.int .i64)) v3 p1) :
    Calls Try.prog 20 #[.agg #[.int .i64 p0.1, v1, v2], v3] w0 fun e w' => e = .returned (.bool r) ∧ Below w0.heap.size w0 w' := by
 refine enter Try.func20 Aa Try.ntmps20 Aa fun a F => ?_
 have W := Stw.start Y w0
 obtain ⟨v4, h1, h_v3⟩ := h_v3.ex Ep
 unfold Fv at H
 refine Ai (Ac ?_)
 refine B9 (cs := [.int .i64 p0.1, v1, v2]) F W Aa Aa Aa fun b1 a w F W => ?_
 refine ls F W Aa (Ah F Aa).q fun a w F W => ?_
 refine Ad (Ab ?_)
 obtain ⟨o1, G1, K1, L1⟩ := H4 H
 refine AB (fun a w => some (Sum.inl ()) = some o1 ∧ Fr 33 [] [(1, v3), (2, .pointer (some ⟨b1, 0, none⟩)), (4, .bool false)] a ∧ Stw ⟨Y, [], w0⟩ [(b1, [.int .i64 p0.1, v1, v2])] [] w) ?_ ?_
 ·
  have H := G1
  clear G1 K1
  refine Ai (Ac ?_)
  refine ls F W Aa (Ah F Aa).q fun a w F W => ?_
  refine Ad (Ab (Au ?_))
  refine Bf H (fun s a w => Fr 33 [] [(1, v3), (2, .pointer (some ⟨b1, 0, none⟩)), (4, .bool false), (5, .int .i64 s)] a ∧ Stw ⟨Y, [], w0⟩ [(b1, [.int .i64 p0.1, v1, v2])] [] w) ⟨F.re ⟨rfl, Aa, Aa, Aa, trivial⟩, W⟩ fun s o a w H L2 hR => ?_
  obtain ⟨x1, rfl⟩ : ∃ x, x = s := ⟨s, rfl⟩
  obtain ⟨F, W⟩ := hR
  have F : Fr 33 [] [(1, v3), (2, .pointer (some ⟨b1, 0, none⟩)), (4, .bool false), (5, .int .i64 x1)] a := F
  have W : Stw ⟨Y, [], w0⟩ [(b1, [.int .i64 p0.1, v1, v2])] [] w := W
  rw [EH] at H
  refine Ai (Ai (Ac ?_))
  iterate 2 refine ls F W Aa (Ag F Aa).q fun a w F W => ?_
  refine ls F W Aa (A6 (r := (Rp.slice (Rp.int .i64))) (l := p1) JM Aa F Aa (BA Ep h1 (Aj h_v3))).q fun a w F W => ?_
  refine ls F W Aa (Bi F Aa Aa).q fun a w F W => ?_
  refine Ad (Ab ?_)
  refine Ax F Aa (fun hb => ?_) fun hb => ?_
  ·
   have H := AK (Bd hb) H
   rw [hb] at F
   clear hb
   refine Ap (Ab (Ai (Au (Ai (Ac ?_)))))
   iterate 2 refine ls F W Aa (Ag F Aa).q fun a w F W => ?_
   obtain ⟨x2, h2, H⟩ := An H
   obtain ⟨v5, h3, h4⟩ := Cx h1 h2
   have h5 : Fi v5 = [(v5.1)] := congrArg (fun q : List Int => ([(v5.1)] : List Value)) h4
   refine ls F W Aa (Az (r := (Rp.vsl (Rp.int .i64))) MT F Aa Aa (Aj h_v3) h3).q fun a w F W => ?_
   refine ls F W Aa (Aq (y := (v5.1)) (j := 0) (i := x1) (enc := Fi) F Aa Aa (Aj h_v3) h3 IA E1 (by rw [h5]; rfl)).q fun a w F W => ?_
   refine ls F W Aa (A6 (r := (Rp.int .i64)) (l := x2) Fc Aa F Aa (CS (Aj h_v3) h3 CR.here (congrArg (fun q : List Int => q) h4))).q fun a w F W => ?_
   refine ls F W Aa (E6 F Aa Aa).q fun a w F W => ?_
   refine Ad (Ab ?_)
   refine Ax F Aa (fun hb => ?_) fun hb => ?_
   ·
    have H := AK (Bd hb) H
    rw [hb] at F
    clear hb
    refine Ai (Ac ?_)
    refine ls F W Aa (Ah F Aa).q fun a w F W => ?_
    refine Ad (Ab (AA (AH ?_)))
    iterate 2 refine AD ?_
    refine AH (AD ?_)
    have H := L2 _ H
    have H := L1 _ H
    have H := AN H
    subst H
    refine AW (.inl Aa) F W Aa (As F Aa) ?_
    exact ⟨rfl, W.done⟩
   have H := AL (Bc hb) H
   rw [hb] at F
   clear hb
   refine Ap (AF (Ab (Ac ?_)))
   refine ls F W Aa (Ag F Aa).q fun a w F W => ?_
   refine ls F W Aa (BS F Aa Aa Aa).q fun a w F W => ?_
   refine ls F W Aa (Ah F Aa).q fun a w F W => ?_
   refine Ad (Ab ?_)
   exact ⟨_, H, F.re ⟨rfl, Aa, Aa, Aa, trivial⟩, W⟩
  have H := AL (Bc hb) H
  rw [hb] at F
  clear hb
  refine A8 ?_
  iterate 2 refine Bk ?_
  refine A9 (Ab ?_)
  have H := L2 _ H
  exact ⟨H, F.re ⟨rfl, Aa, Aa, trivial⟩, W⟩
 rintro a w ⟨hj, F, W⟩
 have H := K1 _ hj
 clear hj G1 K1 L1
 refine AB (fun a w => Fr 33 [] [(4, .bool (decide ((p0.2.1.length : Int) ≤ 30) && (decide ((p0.2.2.length : Int) ≤ 12) && decide ((p1.length : Int) ≤ 12))))] a ∧ Stw ⟨Y, [], w0⟩ [(b1, [.int .i64 p0.1, v1, v2])] [] w) ?_ ?_
 ·
  refine Ac ?_
  refine ls F W Aa (Af Dg Aa Aa Aa IY F Aa 1 Aa).q fun a w F W => ?_
  refine ls F W Aa (Am (v := v1) 0 F Aa Aa IY Aa).q fun a w F W => ?_
  refine ls F W Aa (A6 (r := C8) (l := p0.2.1) JY Aa F Aa (Aj h_v1)).q fun a w F W => ?_
  refine ls F W Aa (Is F Aa Aa).q fun a w F W => ?_
  refine ls F W Aa (Ag F Aa).q fun a w F W => ?_
  rcases Bool.eq_false_or_eq_true (decide ((p0.2.1.length : Int) ≤ 30)) with hb0 | hb0
  ·
   rw [hb0] at F
   refine Ay F W (Ae F Aa Aa Aa Aa) Aa (Ak Aa) (Af Dg Aa Aa Aa GW F Aa 2 Aa).q fun a w F W => ?_
   refine Ay F W (Ae F Aa Aa Aa Aa) Aa (Ak Aa) (Am (v := v2) 0 F Aa Aa GW Aa).q fun a w F W => ?_
   refine Ay F W (Ae F Aa Aa Aa Aa) Aa (Ak Aa) (A6 (r := EL) (l := p0.2.2) IK Aa F Aa (Aj h_v2)).q fun a w F W => ?_
   refine Ay F W (Ae F Aa Aa Aa Aa) Aa (Ak Aa) (Is F Aa Aa).q fun a w F W => ?_
   refine ls F W Aa (Ao F Aa Aa Aa).q fun a w F W => ?_
   refine ls F W Aa (Ag F Aa).q fun a w F W => ?_
   rcases Bool.eq_false_or_eq_true (decide ((p0.2.2.length : Int) ≤ 12)) with hb1 | hb1
   ·
    rw [hb1] at F
    refine Ay F W (Ae F Aa Aa Aa Aa) Aa (Ak Aa) (Ag F Aa).q fun a w F W => ?_
    refine Ay F W (Ae F Aa Aa Aa Aa) Aa (Ak Aa) (A6 (r := (Rp.slice (Rp.int .i64))) (l := p1) JM Aa F Aa (BA Ep h1 (Aj h_v3))).q fun a w F W => ?_
    refine Ay F W (Ae F Aa Aa Aa Aa) Aa (Ak Aa) (Is F Aa Aa).q fun a w F W => ?_
    refine ls F W Aa (Ao F Aa Aa Aa).q fun a w F W => ?_
    refine ls F W Aa (Ah F Aa).q fun a w F W => ?_
    refine Ad (Ab ?_)
    exact ⟨F.re ⟨(by show some (Value.bool (decide ((p1.length : Int) ≤ 12))) = some (Value.bool (decide ((p0.2.1.length : Int) ≤ 30) && (decide ((p0.2.2.length : Int) ≤ 12) && decide ((p1.length : Int) ≤ 12)))); try rw [hb0]; try rw [hb1]; all_goals simp only [Bool.not_true, Bool.not_false, Bool.true_and, Bool.false_and, Bool.true_or, Bool.false_or, Bool.and_true, Bool.or_false, cond_true, cond_false]), trivial⟩, W⟩
   rw [hb1] at F
   iterate 3 refine B4 F Aa Aa Aa Aa Aa Aa Aa fun a F => ?_
   refine ls F W Aa (Av F Aa Aa Aa).q fun a w F W => ?_
   refine ls F W Aa (Ah F Aa).q fun a w F W => ?_
   refine Ad (Ab ?_)
   exact ⟨F.re ⟨(by show some (Value.bool false) = some (Value.bool (decide ((p0.2.1.length : Int) ≤ 30) && (decide ((p0.2.2.length : Int) ≤ 12) && decide ((p1.length : Int) ≤ 12)))); try rw [hb0]; try rw [hb1]; all_goals simp only [Bool.not_true, Bool.not_false, Bool.true_and, Bool.false_and, Bool.true_or, Bool.false_or, Bool.and_true, Bool.or_false, cond_true, cond_false]), trivial⟩, W⟩
  rw [hb0] at F
  iterate 4 refine B4 F Aa Aa Aa Aa Aa Aa Aa fun a F => ?_
  refine ls F W Aa (Av F Aa Aa Aa).q fun a w F W => ?_
  refine ls F W Aa (Ag F Aa).q fun a w F W => ?_
  iterate 3 refine B4 F Aa Aa Aa Aa Aa Aa Aa fun a F => ?_
  refine ls F W Aa (Av F Aa Aa Aa).q fun a w F W => ?_
  refine ls F W Aa (Ah F Aa).q fun a w F W => ?_
  refine Ad (Ab ?_)
  exact ⟨F.re ⟨(by show some (Value.bool false) = some (Value.bool (decide ((p0.2.1.length : Int) ≤ 30) && (decide ((p0.2.2.length : Int) ≤ 12) && decide ((p1.length : Int) ≤ 12)))); try rw [hb0]; all_goals simp only [Bool.not_true, Bool.not_false, Bool.true_and, Bool.false_and, Bool.true_or, Bool.false_or, Bool.and_true, Bool.or_false, cond_true, cond_false]), trivial⟩, W⟩
 rintro a w ⟨F, W⟩
 refine AA ?_
 have H := AN H
 subst H
 refine AW (.inl Aa) F W Aa (As F Aa) ?_
 exact ⟨rfl, W.done⟩
theorem QW : Has Try.prog 20 := ⟨fun args w => Al Try.func20 rfl (by decide) args w⟩
noncomputable def Ez (p0 : Int × (List (Int × Int × Int × Int × Int × Int)) × (List (Int × Int))) (p1 : List (List (List Int))) : Int → Option (Int ⊕ (Unit ⊕ Bool))
  | x1 => (if x1 < (p1.length : Int) then (ix p1 x1).bind fun x2 => (Fv p0 x2).bind fun x3 => (if (!x3) = true then some (.inr (.inr false)) else some (.inl (Dz (x1 + 1)))) else some (.inr (.inl ())))
noncomputable def Gn (p0 : Int × (List (Int × Int × Int × Int × Int × Int)) × (List (Int × Int))) (p1 : List (List (List Int))) (p2 : List (Int × Int × Int × Int × Int × Int)) : Option Bool := (if (decide (100 < (p2.length : Int)) || decide (8 < (p1.length : Int))) = true then some false else D6 (AM (Ez p0 p1) 0) fun _ => (Fv p0 ([] : List (List Int))).bind fun x4 => some x4)
theorem KZ (Y : Nat → Prop) (w0 : World) (v1 : Value) (v2 : Value) (v3 : Value) (v4 : Value) (p0 : Int × (List (Int × Int × Int × Int × Int × Int)) × (List (Int × Int))) (p1 : List (List (List Int))) (p2 : List (Int × Int × Int × Int × Int × Int)) (r : Bool) (H : Gn p0 p1 p2 = some r) (h_v1 : Sl w0 (NX []) C8 v1 p0.2.1) (h_v2 : Sl w0 (NX []) EL v2 p0.2.2) (h_v3 : Sl w0 (NX []) (Rp.slice (Rp.slice (Rp.int .i64))) v3 p1) (h_v4 : Sl w0 (NX []) Ej v4 p2) :
    Calls Try.prog 7 #[.agg #[.int .i64 p0.1, v1, v2], v3, v4] w0 fun e w' => e = .returned (.bool r) ∧ Below w0.heap.size w0 w' := by
 refine enter Try.func7 Aa Try.ntmps7 Aa fun a F => ?_
 have W := Stw.start Y w0
 obtain ⟨v5, h1, h_v3⟩ := h_v3.ex Hw
 unfold Gn at H
 refine Ai (Ac ?_)
 refine B9 (cs := [.int .i64 p0.1, v1, v2]) F W Aa Aa Aa fun b1 a w F W => ?_
 refine ls F W Aa (Ah F Aa).q fun a w F W => ?_
 refine Ad (Ab (Ai ?_))
 refine AB (fun a w => Fr 31 [] [(1, v3), (3, .pointer (some ⟨b1, 0, none⟩)), (6, .bool false), (15, .bool (decide (100 < (p2.length : Int)) || decide (8 < (p1.length : Int))))] a ∧ Stw ⟨Y, [], w0⟩ [(b1, [.int .i64 p0.1, v1, v2])] [] w) ?_ ?_
 ·
  refine Ac ?_
  refine ls F W Aa (Ag F Aa).q fun a w F W => ?_
  refine ls F W Aa (A6 (r := Ej) (l := p2) JE Aa F Aa (Aj h_v4)).q fun a w F W => ?_
  refine ls F W Aa (E6 F Aa Aa).q fun a w F W => ?_
  refine ls F W Aa (Ag F Aa).q fun a w F W => ?_
  rcases Bool.eq_false_or_eq_true (decide (100 < (p2.length : Int))) with hb0 | hb0
  ·
   rw [hb0] at F
   iterate 3 refine B4 F Aa Aa Aa Aa Aa Aa Aa fun a F => ?_
   refine ls F W Aa (Ao F Aa Aa Aa).q fun a w F W => ?_
   refine Ad (Ab ?_)
   exact ⟨F.re ⟨rfl, Aa, Aa, (by show some (Value.bool true) = some (Value.bool (decide (100 < (p2.length : Int)) || decide (8 < (p1.length : Int)))); try rw [hb0]; all_goals simp only [Bool.not_true, Bool.not_false, Bool.true_and, Bool.false_and, Bool.true_or, Bool.false_or, Bool.and_true, Bool.or_false, cond_true, cond_false]), trivial⟩, W⟩
  rw [hb0] at F
  refine Ay F W (Ae F Aa Aa Aa Aa) Aa (Ak Aa) (Ag F Aa).q fun a w F W => ?_
  refine Ay F W (Ae F Aa Aa Aa Aa) Aa (Ak Aa) (A6 (r := (Rp.slice (Rp.slice (Rp.int .i64)))) (l := p1) Nk Aa F Aa (BA Hw h1 (Aj h_v3))).q fun a w F W => ?_
  refine Ay F W (Ae F Aa Aa Aa Aa) Aa (Ak Aa) (E6 F Aa Aa).q fun a w F W => ?_
  refine ls F W Aa (Av F Aa Aa Aa).q fun a w F W => ?_
  refine Ad (Ab ?_)
  exact ⟨F.re ⟨rfl, Aa, Aa, (by show some (Value.bool (decide (8 < (p1.length : Int)))) = some (Value.bool (decide (100 < (p2.length : Int)) || decide (8 < (p1.length : Int)))); try rw [hb0]; all_goals simp only [Bool.not_true, Bool.not_false, Bool.true_and, Bool.false_and, Bool.true_or, Bool.false_or, Bool.and_true, Bool.or_false, cond_true, cond_false]), trivial⟩, W⟩
 rintro a w ⟨F, W⟩
 refine Ax F Aa (fun hb => ?_) fun hb => ?_
 ·
  have H := AK hb H
  rw [hb] at F
  clear hb
  refine Ai (Ac ?_)
  refine ls F W Aa (Ah F Aa).q fun a w F W => ?_
  refine Ad (Ab (AA (AD ?_)))
  have H := AN H
  subst H
  refine AW (.inl Aa) F W Aa (As F Aa) ?_
  exact ⟨rfl, W.done⟩
 have H := AL (by rw [hb]; decide) H
 rw [hb] at F
 clear hb
 refine Ap (Ab ?_)
 obtain ⟨o1, G1, K1, L1⟩ := H4 H
 refine AB (fun a w => some (Sum.inl ()) = some o1 ∧ Fr 31 [] [(3, .pointer (some ⟨b1, 0, none⟩)), (6, .bool false)] a ∧ Stw ⟨Y, [], w0⟩ [(b1, [.int .i64 p0.1, v1, v2])] [] w) ?_ ?_
 ·
  have H := G1
  clear G1 K1
  refine Ai (Ac ?_)
  refine ls F W Aa (Ah F Aa).q fun a w F W => ?_
  refine Ad (Ab (Au ?_))
  refine Bf H (fun s a w => Fr 31 [] [(1, v3), (3, .pointer (some ⟨b1, 0, none⟩)), (6, .bool false), (7, .int .i64 s)] a ∧ Stw ⟨Y, [], w0⟩ [(b1, [.int .i64 p0.1, v1, v2])] [] w) ⟨F.re ⟨rfl, Aa, Aa, Aa, trivial⟩, W⟩ fun s o a w H L2 hR => ?_
  obtain ⟨x1, rfl⟩ : ∃ x, x = s := ⟨s, rfl⟩
  obtain ⟨F, W⟩ := hR
  have F : Fr 31 [] [(1, v3), (3, .pointer (some ⟨b1, 0, none⟩)), (6, .bool false), (7, .int .i64 x1)] a := F
  have W : Stw ⟨Y, [], w0⟩ [(b1, [.int .i64 p0.1, v1, v2])] [] w := W
  rw [Ez] at H
  refine Ai (Ai (Ac ?_))
  iterate 2 refine ls F W Aa (Ag F Aa).q fun a w F W => ?_
  refine ls F W Aa (A6 (r := (Rp.slice (Rp.slice (Rp.int .i64)))) (l := p1) Nk Aa F Aa (BA Hw h1 (Aj h_v3))).q fun a w F W => ?_
  refine ls F W Aa (Bi F Aa Aa).q fun a w F W => ?_
  refine Ad (Ab ?_)
  refine Ax F Aa (fun hb => ?_) fun hb => ?_
  ·
   have H := AK (Bd hb) H
   rw [hb] at F
   clear hb
   refine Ap (Ab (Ai (Au (Ai ?_))))
   refine BE W MO (by kernel_rfl) ?_
   refine qs F Aa (Am (v := Value.agg #[.int .i64 p0.1, v1, v2]) 0 F Aa Aa HW Aa).q fun a F => ?_
   iterate 2 refine qs F Aa (Ag F Aa).q fun a F => ?_
   obtain ⟨x2, h2, H⟩ := An H
   obtain ⟨v6, h3, h4⟩ := Cx h1 h2
   have h5 : Me v6 = [(v6.1)] := congrArg (fun q : List (List Int) => ([(v6.1)] : List Value)) h4
   refine qs F Aa (Az (r := (Rp.vsl (Rp.vsl (Rp.int .i64)))) P4 F Aa Aa (Aj h_v3) h3).q fun a F => ?_
   refine qs F Aa (Aq (y := (v6.1)) (j := 0) (i := x1) (enc := Me) F Aa Aa (Aj h_v3) h3 Pi P9 (by rw [h5]; rfl)).q fun a F => ?_
   obtain ⟨x3, h6, H⟩ := An H
   refine qs F Aa (Bl (v := Value.bool x3) F QW Aa (fun w W => Ii any w (v1) (v2) ((v6.1)) p0 x2 _ h6 (((Aj h_v1) : CH _ _ _ _ _ _) w W).nx (((Aj h_v2) : CH _ _ _ _ _ _) w W).nx (((BA Ep (congrArg (fun q : List (List Int) => q) h4) (CS (Aj h_v3) h3 CR.here Aa)) : CH _ _ _ _ _ _) w W).nx)) fun a F => ?_
   refine qs F Aa (E5 F Aa).q fun a F => ?_
   refine AX fun w W => ?_
   refine Ab ?_
   refine Ax F Aa (fun hb => ?_) fun hb => ?_
   ·
    have H := AK hb H
    rw [hb] at F
    clear hb
    refine Ai (Ac ?_)
    refine ls F W Aa (Ah F Aa).q fun a w F W => ?_
    refine Ad (Ab (AA (AH ?_)))
    iterate 2 refine AD ?_
    refine AH (AD ?_)
    have H := L2 _ H
    have H := L1 _ H
    have H := AN H
    subst H
    refine AW (.inl Aa) F W Aa (As F Aa) ?_
    exact ⟨rfl, W.done⟩
   have H := AL (by rw [hb]; decide) H
   rw [hb] at F
   clear hb
   refine Ap (AF (Ab (Ac ?_)))
   refine ls F W Aa (Ag F Aa).q fun a w F W => ?_
   refine ls F W Aa (BS F Aa Aa Aa).q fun a w F W => ?_
   refine ls F W Aa (Ah F Aa).q fun a w F W => ?_
   refine Ad (Ab ?_)
   exact ⟨_, H, F.re ⟨rfl, Aa, Aa, Aa, trivial⟩, W⟩
  have H := AL (Bc hb) H
  rw [hb] at F
  clear hb
  refine A8 ?_
  iterate 2 refine Bk ?_
  refine A9 (Ab ?_)
  have H := L2 _ H
  exact ⟨H, F.re ⟨rfl, Aa, trivial⟩, W⟩
 rintro a w ⟨hj, F, W⟩
 have H := K1 _ hj
 clear hj G1 K1 L1
 refine Ai (Ac ?_)
 refine ls F W Aa (Am (v := Value.agg #[.int .i64 p0.1, v1, v2]) 0 F Aa Aa HW Aa).q fun a w F W => ?_
 obtain ⟨x4, h7, H⟩ := An H
 refine ls F W Aa (Bl (v := Value.bool x4) F QW Aa (fun w W => Ii any w (v1) (v2) (Value.slice none 0 0) p0 ([] : List (List Int)) _ h7 (((Aj h_v1) : CH _ _ _ _ _ _) w W).nx (((Aj h_v2) : CH _ _ _ _ _ _) w W).nx Sl.nil)) fun a w F W => ?_
 refine ls F W Aa (Ah F Aa).q fun a w F W => ?_
 refine Ad (Ab (AA ?_))
 have H := AN H
 subst H
 refine AW (.inl Aa) F W Aa (As F Aa) ?_
 exact ⟨rfl, W.done⟩
end Go.Proofs.Ytflaelbmglmmcaa
