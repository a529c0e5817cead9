/- The functions of layer 25, JD. Conditions: none. -/
import Derived.Test.YthhoflfhegfmcaaGreatbA2
namespace Go.Proofs.YthhoflfhegfmcaaGreat
open Go Go.RowKit
set_option linter.unusedVariables false
set_option linter.unusedSimpArgs false
set_option maxRecDepth 20000
set_option maxHeartbeats 1600000
theorem aZ : Has Tryz.prog 39 := Cu Tryz.func39
noncomputable def BZ (p0 : (Int × (List (Int × Int × Int × Int × Int × Int)) × (List (Int × Int))) × List (List Int) × List (List Int) × ((List (Int × Int × Int × Int)) × (List (Int × Int × List Int)) × Int × Int × Int × Int)) (x8 : Int × Int × List Int) : ((List (Nat × List Int)) × (List (Nat × List (Nat × List Int))) × Int) → Option (((List (Nat × List Int)) × (List (Nat × List (Nat × List Int))) × Int) ⊕ ((List (Nat × List Int)) × (List (Nat × List (Nat × List Int)))))
  | (x13, x14, x15) => (if x15 < (p0.2.2.2.1.length : Int) then ((ix p0.2.2.2.1 x15).bind fun x18 => (if (BK p0 x18) = true then (DQ x8 x18).bind fun x22 => some (x13, x14, x22) else some (x13, x14, false)).bind fun (x19, x20, x21) => (if x21 = true then (ix x20 x18.1).bind fun x23 => (ix x23.2 x18.2.1).bind fun x24 => (KH x23.1).bind fun x25 => (KH x24.1).bind fun x26 => (H4 x24.2 ([x18.2.2.1] : List Int)).bind fun x27 => (ix (Ah x23.2 x18.2.1 (0, [])) x18.2.1).bind fun x28 => (ix x19 x18.1).bind fun x29 => (ix x29.2 x18.2.1).bind fun x30 => (Rm x29.1).bind fun x31 => (KH x29.1).bind fun x32 => some ((Ah x19 x18.1 (2, (Ah x29.2 x18.2.1 x18.2.2.1))), (Ah (Ah x20 x18.1 (2, (Ah x23.2 x18.2.1 (0, [])))) x18.1 (2, (Ah (Ah x23.2 x18.2.1 (0, [])) x18.2.1 (2, x27))))) else some (x19, x20))).bind fun (x16, x17) => some (.inl (x16, x17, An (x15 + 1))) else some (.inr (x13, x14)))
noncomputable def B0 (p0 : (Int × (List (Int × Int × Int × Int × Int × Int)) × (List (Int × Int))) × List (List Int) × List (List Int) × ((List (Int × Int × Int × Int)) × (List (Int × Int × List Int)) × Int × Int × Int × Int)) (x5 : Int) (x11 : List (Nat × List Int)) (x12 : List (Nat × List (Nat × List Int))) : ((List (Int × Int × Int)) × Int) → Option (((List (Int × Int × Int)) × Int) ⊕ ((List (Int × Int × Int)) × (List (Nat × List Int))))
  | (x33, x34) => (if x34 < (p0.1.2.2.length : Int) then (I2 U8 x12).bind fun x35 => (Dv p0 x35 x5 x34).bind fun x36 => (H4 x33 x36).bind fun x37 => some (.inl (x37, An (x34 + 1))) else some (.inr (x33, x11)))
noncomputable def CC (p0 : (Int × (List (Int × Int × Int × Int × Int × Int)) × (List (Int × Int))) × List (List Int) × List (List Int) × ((List (Int × Int × Int × Int)) × (List (Int × Int × List Int)) × Int × Int × Int × Int)) : ((List (Int × Int × Int)) × (List (Nat × List Int)) × Int) → Option (((List (Int × Int × Int)) × (List (Nat × List Int)) × Int) ⊕ (List (Int × Int × Int)))
  | (x3, x4, x5) => (if x5 < (p0.2.2.2.2.1.length : Int) then ((ix p0.2.2.2.2.1 x5).bind fun x8 => (I2 SW x4).bind fun x9 => (FR x9).bind fun x10 => (Ap (BZ p0 x8) (x4, x10, 0)).bind fun (x11, x12) => Ap (B0 p0 x5 x11 x12) (x3, 0)).bind fun (x6, x7) => some (.inl (x6, x7, An (x5 + 1))) else some (.inr x3))
noncomputable def Da (p0 : (Int × (List (Int × Int × Int × Int × Int × Int)) × (List (Int × Int))) × List (List Int) × List (List Int) × ((List (Int × Int × Int × Int)) × (List (Int × Int × List Int)) × Int × Int × Int × Int)) : Option (List (Int × Int × Int)) := (Ev p0.2.1).bind fun x1 => (Ap (CC p0) ([], x1, 0)).bind fun x2 => some x2
theorem JW (Y : Nat → Prop) (w0 : World) (v1 : Value) (v2 : Value) (v3 : Value) (v4 : Value) (v5 : Value) (v6 : Value) (p0 : (Int × (List (Int × Int × Int × Int × Int × Int)) × (List (Int × Int))) × List (List Int) × List (List Int) × ((List (Int × Int × Int × Int)) × (List (Int × Int × List Int)) × Int × Int × Int × Int)) (r : (List (Int × Int × Int))) (H : Da p0 = some r) (h_v1 : Sl w0 (NX []) IG v1 p0.1.2.1) (h_v2 : Sl w0 (NX []) IB v2 p0.1.2.2) (s_v3 : Sl w0 Y (Rp.slice (Rp.int .i64)) v3 p0.2.1) (h_v4 : Sl w0 (NX []) (Rp.slice (Rp.int .i64)) v4 p0.2.2.1) (h_v5 : Sl w0 (NX []) A5 v5 p0.2.2.2.1) (h_v6 : Sl w0 (NX []) Jg v6 p0.2.2.2.2.1) :
    Calls Tryz.prog 19 #[.agg #[.int .i64 p0.1.1, v1, v2, v3, v4, v5, v6, .int .i64 p0.2.2.2.2.2.1, .int .i64 p0.2.2.2.2.2.2.1, .int .i64 p0.2.2.2.2.2.2.2.1, .int .i64 p0.2.2.2.2.2.2.2.2]] w0 fun e w' => ∃ x : Value, e = .returned (x) ∧ Stw ⟨Y, [], w0⟩ [] [row (x) 41 CJ r] w' := by
 refine enter Tryz.func19 Aa Tryz.ntmps19 Aa fun a W => ?_
 have F := Stw.start Y w0
 obtain ⟨v7, h1, s_v3⟩ := s_v3.ex CM
 obtain ⟨v8, h2, h_v4⟩ := h_v4.ex CM
 obtain ⟨v9, h3, h_v6⟩ := h_v6.ex HF
 have h_v3 := F.nx s_v3
 unfold Da at H
 refine vc tk 2 W F fun a w W F => ?_
 refine D2 (cs := (DN p0 v1 v2 v3 v4 v5 v6)) W F Aa Aa Aa fun b1 a w W F => ?_
 refine JG tk 12 [0] W F (ai fun a w W F => ?_)
 obtain ⟨x1, h4, H⟩ := Ac H
 refine A9 (Ml := []) (Zl := []) (β := Value × ({x : List (Value × Nat × List Int) // x.map Fj = x1})) (rv := fun x => x.1) (MM := fun x => []) (ZZ := fun x => [Bo x.1 44 Dj x.2.1]) W F ZQ Aa Aa (fun hL => NU _ w (v3) p0.2.1 _ h4 (Sl.hide CM h1 (F.old s_v3))) fun x a w W F => ?_
 obtain ⟨v10, v11⟩ := x
 have F : Stw ⟨Y, [], w0⟩ (C0 b1 p0 v1 v2 v3 v4 v5 v6) [Bo v10 44 Dj v11.1] w := F
 refine vl tk 2 W F fun a w W F => ?_
 refine Ab ?_
 obtain ⟨o1, G1, K1⟩ := Ac H
 refine Aq (fun a w => ∃ x2 : List (Int × Int × Int), ∃ v12 : Value, some (x2) = some o1 ∧ Fr 90 [] [(2, .slice none 0 0), (3, v12)] a ∧ Stw ⟨Y, [], w0⟩ (C0 b1 p0 v1 v2 v3 v4 v5 v6) [row v12 41 CJ x2] w) ?_ ?_
 ·
  have H := G1
  clear G1 K1
  refine IL tk 5 [0] W F (ai fun a w W F => ?_)
  refine ls W F Aa (BS (r := Jg) (l := p0.2.2.2.2.1) T4 Aa W Aa (AN HF h3 (Ad h_v6))).q fun a w W F => ?_
  refine BR tk 4 W F fun a w W F => ?_
  have F := F.nilRow 41 CJ
  have F := F.frontZ (i := 1) Aa Aa
  have F := F.frontZ (i := 1) Aa Aa
  refine AL H (fun s a w => ∃ v13 : Value, ∃ g_x4 : {x : List (Value × Nat × List Int) // x.map Fj = s.2.1}, Fr 90 [] [(1, .pointer (some ⟨b1, 0, none⟩)), (2, .slice none 0 0), (3, v13), (4, v10), (16, v6), (17, .int .i64 (p0.2.2.2.2.1.length : Int)), (18, .int .i64 s.2.2)] a ∧ Stw ⟨Y, [], w0⟩ (C0 b1 p0 v1 v2 v3 v4 v5 v6) [row v13 41 CJ s.1, Bo v10 44 Dj g_x4.1] w) ⟨(Value.slice none 0 0), ⟨v11.1, v11.2⟩, W.ra Aa, F⟩ fun s o a w H L2 hR => ?_
  obtain ⟨x3, x4, x5⟩ := s
  obtain ⟨v13, g_x4, W, F⟩ := hR
  have W : Fr 90 [] [(1, .pointer (some ⟨b1, 0, none⟩)), (2, .slice none 0 0), (3, v13), (4, v10), (16, v6), (17, .int .i64 (p0.2.2.2.2.1.length : Int)), (18, .int .i64 x5)] a := W
  have F : Stw ⟨Y, [], w0⟩ (C0 b1 p0 v1 v2 v3 v4 v5 v6) [row v13 41 CJ x3, Bo v10 44 Dj g_x4.1] w := F
  rw [CC] at H
  refine vc tk 6 W F fun a w W F => ?_
  refine AU W Aa H (fun W H => ?_) fun W H => ?_
  ·
   refine AB (Ab ?_)
   obtain ⟨o3, G3, K3⟩ := Ac H
   refine Aq (fun a w => ∃ x6 : List (Int × Int × Int), ∃ x7 : List (Nat × List Int), ∃ v14 : Value, ∃ g_x7 : {x : List (Value × Nat × List Int) // x.map Fj = x7}, some ((x6, x7)) = some o3 ∧ Fr 90 [] [(1, .pointer (some ⟨b1, 0, none⟩)), (2, .slice none 0 0), (3, v14), (4, v10), (16, v6), (17, .int .i64 (p0.2.2.2.2.1.length : Int)), (18, .int .i64 x5)] a ∧ Stw ⟨Y, [], w0⟩ (C0 b1 p0 v1 v2 v3 v4 v5 v6) [row v14 41 CJ x6, Bo v10 44 Dj g_x7.1] w) ?_ ?_
   ·
    have H := G3
    clear G3 K3
    refine vc tk 4 W F fun a w W F => ?_
    obtain ⟨x8, h5, H⟩ := Ac H
    obtain ⟨v15, h6, h7⟩ := E5 h3 h5
    have h8 : Oh v15 = [.int .i64 x8.1, .int .i64 x8.2.1, (v15.2.2.1)] := congrArg (fun q : Int × Int × List Int => ([.int .i64 q.1, .int .i64 q.2.1, (v15.2.2.1)] : List Value)) h7
    refine ls W F Aa (Al (r := Rj) Ws W Aa Aa (Ad h_v6) h6).q fun a w W F => ?_
    refine ls W F Aa (Ag (y := Value.agg #[.int .i64 x8.1, .int .i64 x8.2.1, (v15.2.2.1)]) (j := 0) (i := x5) (enc := Oh) W Aa Aa (Ad h_v6) h6 Tb YL (by rw [h8]; rfl)).q fun a w W F => ?_
    refine B8 (cs := [.int .i64 0, .int .i64 0, .slice none 0 0]) W F Aa Zo Aa fun b2 a w W F => ?_
    refine ls W F Aa (Dn W Aa).q fun a w W F => ?_
    refine Ey 0 W F Aa Aa Aa YL Aa Aa (AV Aa (AV Aa (AV ((Dc (Ad h_v6) h6 (DP.snd (DP.snd DP.here)) (congrArg (fun q : Int × Int × List Int => q.2.2) h7)) _ F).one Fp))) fun w F => ?_
    refine BR tk 5 W F fun a w W F => ?_
    obtain ⟨x9, h9, H⟩ := Ac H
    obtain ⟨x10, h10, H⟩ := Ac H
    refine A9 (Ml := []) (Zl := []) (β := Value × ({x : List (Value × Nat × List (Value × Nat × List Int)) // x.map Fi = x10})) (rv := fun x => x.1) (MM := fun x => []) (ZZ := fun x => [Bo x.1 26 CU x.2.1]) W F a9 Aa Aa (fun hL => NQ _ w (v10) x9 _ h10 ((NE.plain XG g_x4.2 h9 (Jp 1 Aa)) w F).nx) fun x a w W F => ?_
    obtain ⟨v16, v17⟩ := x
    have F : Stw ⟨Y, [], w0⟩ [(b2, [.int .i64 x8.1, .int .i64 x8.2.1, (v15.2.2.1)]), (b1, (DN p0 v1 v2 v3 v4 v5 v6))] [Bo v16 26 CU v17.1, row v13 41 CJ x3, Bo v10 44 Dj g_x4.1] w := F
    refine vl tk 2 W F fun a w W F => ?_
    refine Ab ?_
    obtain ⟨o4, G4, K4⟩ := Ac H
    refine Aq (fun a w => ∃ x11 : List (Nat × List Int), ∃ x12 : List (Nat × List (Nat × List Int)), ∃ g_x11 : {x : List (Value × Nat × List Int) // x.map Fj = x11}, ∃ g_x12 : {x : List (Value × Nat × List (Value × Nat × List Int)) // x.map Fi = x12}, some ((x11, x12)) = some o4 ∧ Fr 90 [] [(1, .pointer (some ⟨b1, 0, none⟩)), (2, .slice none 0 0), (3, v13), (4, v10), (5, .int .i64 x5), (7, v16), (16, v6), (17, .int .i64 (p0.2.2.2.2.1.length : Int)), (18, .int .i64 x5)] a ∧ Stw ⟨Y, [], w0⟩ [(b2, [.int .i64 x8.1, .int .i64 x8.2.1, (v15.2.2.1)]), (b1, (DN p0 v1 v2 v3 v4 v5 v6))] [row v13 41 CJ x3, Bo v10 44 Dj g_x11.1, Bo v16 26 CU g_x12.1] w) ?_ ?_
    ·
     have H := G4
     clear G4 K4
     refine IL tk 5 [1] W F (ai fun a w W F => ?_)
     refine ls W F Aa (BS (r := A5) (l := p0.2.2.2.1) Qz Aa W Aa (Ad h_v5)).q fun a w W F => ?_
     refine BR tk 4 W F fun a w W F => ?_
     have F := F.frontZ (i := 2) Aa Aa
     have F := F.frontZ (i := 2) Aa Aa
     have F := F.frontM (i := 1) Aa Aa
     have F := F.frontM (i := 1) Aa Aa
     refine AL H (fun s a w => ∃ g_x13 : {x : List (Value × Nat × List Int) // x.map Fj = s.1}, ∃ g_x14 : {x : List (Value × Nat × List (Value × Nat × List Int)) // x.map Fi = s.2.1}, Fr 90 [] [(1, .pointer (some ⟨b1, 0, none⟩)), (2, .slice none 0 0), (3, v13), (4, v10), (5, .int .i64 x5), (6, .pointer (some ⟨b2, 0, none⟩)), (7, v16), (16, v6), (17, .int .i64 (p0.2.2.2.2.1.length : Int)), (18, .int .i64 x5), (27, v5), (28, .int .i64 (p0.2.2.2.1.length : Int)), (29, .int .i64 s.2.2)] a ∧ Stw ⟨Y, [], w0⟩ [(b2, [.int .i64 x8.1, .int .i64 x8.2.1, (v15.2.2.1)]), (b1, (DN p0 v1 v2 v3 v4 v5 v6))] [row v13 41 CJ x3, Bo v10 44 Dj g_x13.1, Bo v16 26 CU g_x14.1] w) ⟨⟨g_x4.1, g_x4.2⟩, ⟨v17.1, v17.2⟩, W.ra Aa, F⟩ fun s o a w H L5 hR => ?_
     obtain ⟨x13, x14, x15⟩ := s
     obtain ⟨g_x13, g_x14, W, F⟩ := hR
     have W : Fr 90 [] [(1, .pointer (some ⟨b1, 0, none⟩)), (2, .slice none 0 0), (3, v13), (4, v10), (5, .int .i64 x5), (6, .pointer (some ⟨b2, 0, none⟩)), (7, v16), (16, v6), (17, .int .i64 (p0.2.2.2.2.1.length : Int)), (18, .int .i64 x5), (27, v5), (28, .int .i64 (p0.2.2.2.1.length : Int)), (29, .int .i64 x15)] a := W
     have F : Stw ⟨Y, [], w0⟩ [(b2, [.int .i64 x8.1, .int .i64 x8.2.1, (v15.2.2.1)]), (b1, (DN p0 v1 v2 v3 v4 v5 v6))] [row v13 41 CJ x3, Bo v10 44 Dj g_x13.1, Bo v16 26 CU g_x14.1] w := F
     rw [BZ] at H
     refine vc tk 6 W F fun a w W F => ?_
     refine AU W Aa H (fun W H => ?_) fun W H => ?_
     ·
      refine AB (Ab ?_)
      obtain ⟨o6, G6, K6⟩ := Ac H
      refine Aq (fun a w => ∃ x16 : List (Nat × List Int), ∃ x17 : List (Nat × List (Nat × List Int)), ∃ g_x16 : {x : List (Value × Nat × List Int) // x.map Fj = x16}, ∃ g_x17 : {x : List (Value × Nat × List (Value × Nat × List Int)) // x.map Fi = x17}, some ((x16, x17)) = some o6 ∧ Fr 90 [] [(1, .pointer (some ⟨b1, 0, none⟩)), (2, .slice none 0 0), (3, v13), (4, v10), (5, .int .i64 x5), (6, .pointer (some ⟨b2, 0, none⟩)), (7, v16), (16, v6), (17, .int .i64 (p0.2.2.2.2.1.length : Int)), (18, .int .i64 x5), (27, v5), (28, .int .i64 (p0.2.2.2.1.length : Int)), (29, .int .i64 x15)] a ∧ Stw ⟨Y, [], w0⟩ [(b2, [.int .i64 x8.1, .int .i64 x8.2.1, (v15.2.2.1)]), (b1, (DN p0 v1 v2 v3 v4 v5 v6))] [row v13 41 CJ x3, Bo v10 44 Dj g_x16.1, Bo v16 26 CU g_x17.1] w) ?_ ?_
      ·
       have H := G6
       clear G6 K6
       refine vc tk 3 W F fun a w W F => ?_
       obtain ⟨x18, h11, H⟩ := Ac H
       refine ls W F Aa (Al (r := A5) EM W Aa Aa (Ad h_v5) h11).q fun a w W F => ?_
       refine ls W F Aa (Ag (y := Value.agg #[.int .i64 x18.1, .int .i64 x18.2.1, .int .i64 x18.2.2.1, .int .i64 x18.2.2.2]) (j := 0) (i := x15) W Aa Aa (Ad h_v5) h11 ES.to Er Aa).q fun a w W F => ?_
       refine B8 (cs := (QM)) W F Aa W3 Aa fun b3 a w W F => ?_
       refine Ey 0 W F Aa Aa Aa Er Aa Aa Aa fun w F => ?_
       refine FG (Ab ?_)
       obtain ⟨o7, G7, K7⟩ := Ac H
       refine Aq (fun a w => ∃ x19 : List (Nat × List Int), ∃ x20 : List (Nat × List (Nat × List Int)), ∃ x21 : Bool, ∃ g_x19 : {x : List (Value × Nat × List Int) // x.map Fj = x19}, ∃ g_x20 : {x : List (Value × Nat × List (Value × Nat × List Int)) // x.map Fi = x20}, some ((x19, x20, x21)) = some o7 ∧ Fr 90 [] [(1, .pointer (some ⟨b1, 0, none⟩)), (2, .slice none 0 0), (3, v13), (4, v10), (5, .int .i64 x5), (6, .pointer (some ⟨b2, 0, none⟩)), (7, v16), (9, .pointer (some ⟨b3, 0, none⟩)), (16, v6), (17, .int .i64 (p0.2.2.2.2.1.length : Int)), (18, .int .i64 x5), (27, v5), (28, .int .i64 (p0.2.2.2.1.length : Int)), (29, .int .i64 x15), (40, .bool x21)] a ∧ Stw ⟨Y, [], w0⟩ [(b3, (Ck x18)), (b2, [.int .i64 x8.1, .int .i64 x8.2.1, (v15.2.2.1)]), (b1, (DN p0 v1 v2 v3 v4 v5 v6))] [row v13 41 CJ x3, Bo v10 44 Dj g_x19.1, Bo v16 26 CU g_x20.1] w) ?_ ?_
       ·
        have H := G7
        clear G7 K7
        refine IL tk 3 [2, 0] W F (ai (ai fun a w W F => ?_))
        refine ls W F Aa (Be (v := Value.bool (BK p0 x18)) W Zx Aa (fun w F => HL any w (v1) (v2) (v3) (v4) (v5) (v6) p0 x18 _ Aa (EG (Ad h_v1) F) (EG (Ad h_v2) F) (EG (AN CM h1 (Ad h_v3)) F) (EG (AN CM h2 (Ad h_v4)) F) (EG (Ad h_v5) F) (EG (AN HF h3 (Ad h_v6)) F))) fun a w W F => ?_
        refine ls W F Aa (Ai W Aa).q fun a w W F => ?_
        rcases Bool.eq_false_or_eq_true (BK p0 x18) with hb | hb
        ·
         have H := D0 hb H
         rw [hb] at W
         clear hb
         refine Ky tk 2 [1, 0] W F (ai (ai fun a w W F => ?_))
         refine MB (Ae W Aa Aa Aa Aa) ?_
         obtain ⟨x22, h12, H⟩ := Ac H
         refine ls W F Aa (Be (v := Value.bool x22) W Zv Aa (fun w F => JV any w ((v15.2.2.1)) x8 x18 _ h12 (EG (Dc (Ad h_v6) h6 (DP.snd (DP.snd DP.here)) (congrArg (fun q : Int × Int × List Int => q.2.2) h7)) F))) fun a w W F => ?_
         refine vl tk 2 W F fun a w W F => ?_
         refine Ab ?_
         have F := F.frontZ (i := 2) Aa Aa
         have F := F.frontZ (i := 2) Aa Aa
         have F := F.frontZ (i := 2) Aa Aa
         have F := F.frontM (i := 2) Aa Aa
         have F := F.frontM (i := 2) Aa Aa
         have F := F.frontM (i := 2) Aa Aa
         exact ⟨_, _, _, ⟨g_x13.1, g_x13.2⟩, ⟨g_x14.1, g_x14.2⟩, H, W.ra Aa, F⟩
        have H := DZ (by rw [hb]; decide) H
        rw [hb] at W
        clear hb
        refine vl tk 5 W F fun a w W F => ?_
        refine Ab ?_
        have F := F.frontZ (i := 2) Aa Aa
        have F := F.frontZ (i := 2) Aa Aa
        have F := F.frontZ (i := 2) Aa Aa
        have F := F.frontM (i := 2) Aa Aa
        have F := F.frontM (i := 2) Aa Aa
        have F := F.frontM (i := 2) Aa Aa
        exact ⟨_, _, _, ⟨g_x13.1, g_x13.2⟩, ⟨g_x14.1, g_x14.2⟩, H, W.ra Aa, F⟩
       rintro a w ⟨x19, x20, x21, g_x19, g_x20, hj, W, F⟩
       have hj := Ax hj
       subst hj
       have H := K7
       clear G7 K7
       refine C2 W Aa H (fun W H => ?_) fun W H => ?_
       ·
        refine Hp ?_
        have F := F.frontZ (i := 2) Aa Aa
        have F := F.dSplitE g_x20.1 Aa
        have F : Stw ⟨Y, [], w0⟩ [(b3, (Ck x18)), (b2, [.int .i64 x8.1, .int .i64 x8.2.1, (v15.2.2.1)]), (b1, (DN p0 v1 v2 v3 v4 v5 v6))] [row v13 41 CJ x3, Bo v10 44 Dj g_x19.1, row v16 26 CU.hr g_x20.1, Gv (List.map CU.it g_x20.1)] w := F
        refine ER [(true, 0), (true, 1), (true, 2), (true, 3), (true, 4), (true, 5), (true, 6), (true, 7), (true, 8), (true, 9), (true, 10), (true, 11), (true, 12), (true, 13), (true, 14), (true, 15), (true, 16), (true, 17), (false, 18), (false, 19), (true, 20), (false, 21)] (CN ⟨Y, [], w0⟩ [(some 21, b3, [.int .i64 x18.1, .int .i64 x18.2.1, .int .i64 x18.2.2.1, .int .i64 x18.2.2.2]), (some 19, b3, [.int .i64 x18.1, .int .i64 x18.2.1, .int .i64 x18.2.2.1, .int .i64 x18.2.2.2]), (some 18, b3, [.int .i64 x18.1, .int .i64 x18.2.1, .int .i64 x18.2.2.1, .int .i64 x18.2.2.2])] [(some 21, row v16 26 CU.hr g_x20.1), (some 19, row v16 26 CU.hr g_x20.1), (some 19, Gv (List.map CU.it g_x20.1))]) (fun ch a d v w h => by cases d <;> exact h) MO (by kernel_rfl) F (fun w F => ⟨_, _, F, (all_cons (fun _ => (.head _)) (all_cons (fun _ => (.head _)) (all_cons (fun _ => (.head _)) Ak))), (all_cons (fun _ => (.tail _ (.tail _ (.head _)))) (all_cons (fun _ => (.tail _ (.tail _ (.head _)))) (all_cons (fun _ => (.tail _ (.tail _ (.tail _ (.head _))))) Ak)))⟩) fun w F => ?_
        refine A6 (R := []) W Aa Aa (yC fun M Z hN hZ => Ai W Aa) Aa Aa fun a W => ?_
        refine A6 (R := []) W Aa Aa (yC fun M Z hN hZ => Az Jv Aa Aa Aa T3 W Aa 0 Aa) Aa Aa fun a W => ?_
        refine A6 (R := [21]) W Aa Aa (yC fun M Z hN hZ => Fu (cs := (Ck x18)) (v := Value.int .i64 x18.1) W Aa (hN ((some 21), b3, (Ck x18)) (.head _) Aa) T3 Aa) (by kernel_rfl) Aa fun a W => ?_
        obtain ⟨x23, h13, H⟩ := Ac H
        obtain ⟨v18, h14, h15⟩ := E5 (er := Fi) g_x20.2 h13
        refine A6 (R := []) W Aa Aa (yC fun M Z hN hZ => Ba (r := CU.hr) W9 W Aa Aa (C1 F (PW (lx := g_x20.1) 2 Aa Aa)) h14) Aa Aa fun a W => ?_
        have h16 : CU.cells v18 = [(v18.1)] := congrArg (fun q : Nat × List (Nat × List Int) => ([(v18.1)] : List Value)) h15
        refine A6 (R := [21]) W Aa Aa (yC fun M Z hN hZ => Ag (y := (v18.1)) (j := 0) (i := x18.1) (enc := CU.cells) W Aa Aa (O8 (lx := g_x20.1) (hZ ((some 21), row v16 26 CU.hr g_x20.1) (.head _) Aa) Aa) h14 CU.flat Xe (by rw [h16]; rfl)) (by kernel_rfl) Aa fun a W => ?_
        refine A6 (R := []) W Aa Aa (yC fun M Z hN hZ => Az Jv Aa Aa Aa T3 W Aa 1 Aa) Aa Aa fun a W => ?_
        refine A6 (R := [21]) W Aa Aa (yC fun M Z hN hZ => Fu (cs := (Ck x18)) (v := Value.int .i64 x18.2.1) W Aa (hN ((some 21), b3, (Ck x18)) (.head _) Aa) T3 Aa) (by kernel_rfl) Aa fun a W => ?_
        refine A6 (R := []) W Aa Aa (yC fun M Z hN hZ => Ai W Aa) Aa Aa fun a W => ?_
        refine A6 (R := []) W Aa Aa (yC fun M Z hN hZ => Az Jv Aa Aa Aa T3 W Aa 0 Aa) Aa Aa fun a W => ?_
        refine A6 (R := [19, 15, 14, 11, 10]) W Aa Aa (yC fun M Z hN hZ => Fu (cs := (Ck x18)) (v := Value.int .i64 x18.1) W Aa (hN ((some 19), b3, (Ck x18)) (.tail _ (.head _)) Aa) T3 Aa) (by kernel_rfl) Aa fun a W => ?_
        refine A6 (R := []) W Aa Aa (yC fun M Z hN hZ => Ba (r := CU.hr) W9 W Aa Aa (C1 F (PW (lx := g_x20.1) 2 Aa Aa)) h14) Aa Aa fun a W => ?_
        have h17 : CU.cells v18 = [(v18.1)] := congrArg (fun q : Nat × List (Nat × List Int) => ([(v18.1)] : List Value)) h15
        refine A6 (R := [19, 15, 14]) W Aa Aa (yC fun M Z hN hZ => Ag (y := (v18.1)) (j := 0) (i := x18.1) (enc := CU.cells) W Aa Aa (O8 (lx := g_x20.1) (hZ ((some 19), row v16 26 CU.hr g_x20.1) (.tail _ (.head _)) Aa) Aa) h14 CU.flat Xe (by rw [h17]; rfl)) (by kernel_rfl) Aa fun a W => ?_
        refine A6 (R := []) W Aa Aa (yC fun M Z hN hZ => Az Jv Aa Aa Aa T3 W Aa 1 Aa) Aa Aa fun a W => ?_
        refine A6 (R := [19, 15, 14]) W Aa Aa (yC fun M Z hN hZ => Fu (cs := (Ck x18)) (v := Value.int .i64 x18.2.1) W Aa (hN ((some 19), b3, (Ck x18)) (.tail _ (.head _)) Aa) T3 Aa) (by kernel_rfl) Aa fun a W => ?_
        obtain ⟨x24, h18, H⟩ := Ac H
        obtain ⟨v19, h19, h20⟩ := E5 (er := Fj) (congrArg (fun q : Nat × List (Nat × List Int) => q.2) h15) h18
        obtain ⟨x25, h21, H⟩ := Ac H
        refine A6 (R := []) W Aa Aa (yC fun M Z hN hZ => Ba (r := Dj.hr) Xz W Aa Aa (C1 F (NE.hd (U7.dl (Pu (lx := g_x20.1) 3 Aa) h14 Foc.here ((congrArg (fun q : Nat × List (Nat × List Int) => q.1) h15).trans (KZ h21))))) h19) Aa Aa fun a W => ?_
        have h22 : Dj.cells v19 = [(v19.1)] := congrArg (fun q : Nat × List Int => ([(v19.1)] : List Value)) h20
        refine A6 (R := [19]) W Aa Aa (yC fun M Z hN hZ => Ag (y := (v19.1)) (j := 0) (i := x18.2.1) (enc := Dj.cells) W Aa Aa (NE.hd (U7.dl (Xb (lx := g_x20.1) (hZ ((some 19), Gv (List.map CU.it g_x20.1)) (.tail _ (.tail _ (.head _))) Aa)) h14 Foc.here ((congrArg (fun q : Nat × List (Nat × List Int) => q.1) h15).trans (KZ h21)))) h19 Dj.flat NA (by rw [h22]; rfl)) (by kernel_rfl) Aa fun a W => ?_
        refine A6 (R := []) W Aa Aa (yC fun M Z hN hZ => Az Jv Aa Aa Aa T3 W Aa 2 Aa) Aa Aa fun a W => ?_
        refine A6 (R := [18]) W Aa Aa (yC fun M Z hN hZ => Fu (cs := (Ck x18)) (v := Value.int .i64 x18.2.2.1) W Aa (hN ((some 18), b3, (Ck x18)) (.tail _ (.tail _ (.head _))) Aa) T3 Aa) (by kernel_rfl) Aa fun a W => ?_
        refine F2 Aa ?_
        refine D6 (z := Value.int .i64 0) (cs := [.int .i64 x18.2.2.1]) (Rp.int .i64) ([x18.2.2.1] : List Int) W F Aa EJ Z3 Aa Aa Aa Aa Aa Aa (Fl.int.repL _ _ ([x18.2.2.1] : List Int)) fun v20 a w W F => ?_
        refine Cm (N2 := []) (NZ2 := []) (N3 := [(some 21, b3, [.int .i64 x18.1, .int .i64 x18.2.1, .int .i64 x18.2.2.1, .int .i64 x18.2.2.2]), (some 19, b3, [.int .i64 x18.1, .int .i64 x18.2.1, .int .i64 x18.2.2.1, .int .i64 x18.2.2.2]), (some 18, b3, [.int .i64 x18.1, .int .i64 x18.2.1, .int .i64 x18.2.2.1, .int .i64 x18.2.2.2])]) (NZ3 := [(some 21, row v16 26 CU.hr g_x20.1), (some 19, row v16 26 CU.hr g_x20.1), (some 19, Gv (List.map CU.it g_x20.1))]) F Aa Aa (all_cons (fun _ => (.head _)) (all_cons (fun _ => (.head _)) (all_cons (fun h => AJ (by kernel_rfl) h) Ak))) (all_cons (fun _ => (.tail _ (.tail _ (.tail _ (.head _))))) (all_cons (fun _ => (.tail _ (.tail _ (.tail _ (.head _))))) (all_cons (fun _ => (.tail _ (.tail _ (.tail _ (.tail _ (.head _)))))) Ak))) ?_
        refine F2 Aa ?_
        obtain ⟨x26, h23, H⟩ := Ac H
        have F := Stw.dJoinE (lx := g_x20.1) [row v20 3 (Rp.int .i64) ([x18.2.2.1] : List Int), row v13 41 CJ x3, Bo v10 44 Dj g_x19.1] F Aa
        have F : Stw ⟨Y, [], w0⟩ [(b3, (Ck x18)), (b2, [.int .i64 x8.1, .int .i64 x8.2.1, (v15.2.2.1)]), (b1, (DN p0 v1 v2 v3 v4 v5 v6))] [Bo v16 26 CU g_x20.1, row v20 3 (Rp.int .i64) ([x18.2.2.1] : List Int), row v13 41 CJ x3, Bo v10 44 Dj g_x19.1] w := F
        have F := F.dTakeD h14 Foc.here ((congrArg (fun q : Nat × List (Nat × List Int) => q.1) h15).trans (KZ h21))
        have h24 : List.map Fi (Ah g_x20.1 x18.1 ((v18.1), 0, [])) = (Ah x20 x18.1 (0, [])) := (Js g_x20.2 (congrArg (fun q : Nat × List (Nat × List Int) => (0, [])) h15))
        have F : Stw ⟨Y, [], w0⟩ [(b3, (Ck x18)), (b2, [.int .i64 x8.1, .int .i64 x8.2.1, (v15.2.2.1)]), (b1, (DN p0 v1 v2 v3 v4 v5 v6))] [Bo (v18.1) 44 Dj (v18.2.2), Bo v16 26 CU (Ah g_x20.1 x18.1 ((v18.1), 0, [])), row v20 3 (Rp.int .i64) ([x18.2.2.1] : List Int), row v13 41 CJ x3, Bo v10 44 Dj g_x19.1] w := F
        have F := F.dTakeR h19 Foc.here ((congrArg (fun q : Nat × List Int => q) h20).trans (Prod.ext (KZ h23) Aa))
        have h25 : List.map Fj (Ah (v18.2.2) x18.2.1 ((v19.1), 0, [])) = (Ah x23.2 x18.2.1 (0, [])) := (Js (congrArg (fun q : Nat × List (Nat × List Int) => q.2) h15) (congrArg (fun q : Nat × List Int => (0, [])) h20))
        have F : Stw ⟨Y, [], w0⟩ [(b3, (Ck x18)), (b2, [.int .i64 x8.1, .int .i64 x8.2.1, (v15.2.2.1)]), (b1, (DN p0 v1 v2 v3 v4 v5 v6))] [row (v19.1) 3 (Rp.int .i64) x24.2, Bo (v18.1) 44 Dj (Ah (v18.2.2) x18.2.1 ((v19.1), 0, [])), Bo v16 26 CU (Ah g_x20.1 x18.1 ((v18.1), 0, [])), row v20 3 (Rp.int .i64) ([x18.2.2.1] : List Int), row v13 41 CJ x3, Bo v10 44 Dj g_x19.1] w := F
        have F := F.frontZ (i := 2) Aa Aa
        have F := F.frontZ (i := 2) Aa Aa
        have h26 : Fi ((v18.1), 2, (Ah (v18.2.2) x18.2.1 ((v19.1), 0, []))) = (2, (Ah x23.2 x18.2.1 (0, []))) := by first | (simp only [Fi, h25]; done) | simp only [h25, ← h15]
        have F := F.dBackD (x2 := ((v18.1), 2, (Ah (v18.2.2) x18.2.1 ((v19.1), 0, [])))) h14 Foc.here Aa Aa
        have h27 : List.map Fi (Ah g_x20.1 x18.1 ((v18.1), 2, (Ah (v18.2.2) x18.2.1 ((v19.1), 0, [])))) = (Ah x20 x18.1 (2, (Ah x23.2 x18.2.1 (0, [])))) := (Js g_x20.2 h26)
        have F : Stw ⟨Y, [], w0⟩ [(b3, (Ck x18)), (b2, [.int .i64 x8.1, .int .i64 x8.2.1, (v15.2.2.1)]), (b1, (DN p0 v1 v2 v3 v4 v5 v6))] [Bo v16 26 CU (Ah g_x20.1 x18.1 ((v18.1), 2, (Ah (v18.2.2) x18.2.1 ((v19.1), 0, [])))), row (v19.1) 3 (Rp.int .i64) x24.2, row v20 3 (Rp.int .i64) ([x18.2.2.1] : List Int), row v13 41 CJ x3, Bo v10 44 Dj g_x19.1] w := F
        obtain ⟨x27, h28, H⟩ := Ac H
        refine DB (r := (Rp.int .i64)) (i := 1) W F Aa EJ Aa Aa Aa Aa (Ez F 2 Aa) h28 Aa fun v21 a w W F => ?_
        have F : Stw ⟨Y, [], w0⟩ [(b3, (Ck x18)), (b2, [.int .i64 x8.1, .int .i64 x8.2.1, (v15.2.2.1)]), (b1, (DN p0 v1 v2 v3 v4 v5 v6))] [row v21 3 (Rp.int .i64) x27, Bo v16 26 CU (Ah g_x20.1 x18.1 ((v18.1), 2, (Ah (v18.2.2) x18.2.1 ((v19.1), 0, [])))), row v20 3 (Rp.int .i64) ([x18.2.2.1] : List Int), row v13 41 CJ x3, Bo v10 44 Dj g_x19.1] w := F
        have F := F.frontZ (i := 1) Aa Aa
        have h29 : List.map CU.cells g_x20.1 = List.map CU.cells (Ah g_x20.1 x18.1 ((v18.1), 2, (Ah (v18.2.2) x18.2.1 ((v19.1), 0, [])))) := Eq.trans Aa (Eq.symm (O7 h14 Aa))
        have F := F.dSplitE g_x20.1 h29
        have F : Stw ⟨Y, [], w0⟩ [(b3, (Ck x18)), (b2, [.int .i64 x8.1, .int .i64 x8.2.1, (v15.2.2.1)]), (b1, (DN p0 v1 v2 v3 v4 v5 v6))] [row v21 3 (Rp.int .i64) x27, row v20 3 (Rp.int .i64) ([x18.2.2.1] : List Int), row v13 41 CJ x3, Bo v10 44 Dj g_x19.1, row v16 26 CU.hr g_x20.1, Gv (List.map CU.it (Ah g_x20.1 x18.1 ((v18.1), 2, (Ah (v18.2.2) x18.2.1 ((v19.1), 0, [])))))] w := F
        refine Cm (N2 := []) (NZ2 := []) (N3 := [(some 21, b3, [.int .i64 x18.1, .int .i64 x18.2.1, .int .i64 x18.2.2.1, .int .i64 x18.2.2.2]), (some 19, b3, [.int .i64 x18.1, .int .i64 x18.2.1, .int .i64 x18.2.2.1, .int .i64 x18.2.2.2]), (some 18, b3, [.int .i64 x18.1, .int .i64 x18.2.1, .int .i64 x18.2.2.1, .int .i64 x18.2.2.2])]) (NZ3 := [(some 21, row v16 26 CU.hr g_x20.1), (some 19, row v16 26 CU.hr g_x20.1), (some 19, Gv (List.map CU.it g_x20.1))]) F Aa Aa (all_cons (fun _ => (.head _)) (all_cons (fun h => AJ (by kernel_rfl) h) (all_cons (fun h => AJ (by kernel_rfl) h) Ak))) (all_cons (fun _ => (.tail _ (.tail _ (.tail _ (.tail _ (.head _)))))) (all_cons (fun h => AJ (by kernel_rfl) h) (all_cons (fun h => AJ (by kernel_rfl) h) Ak))) ?_
        obtain ⟨x28, h30, H⟩ := Ac H
        obtain ⟨v22, h31, h32⟩ := E5 (er := Fj) h25 h30
        refine A6 (R := []) W Aa Aa (yC fun M Z hN hZ => Ba (r := Dj.hr) Xz W Aa Aa (C1 F (NE.hd (U7.dl (Pu (lx := (Ah g_x20.1 x18.1 ((v18.1), 2, (Ah (v18.2.2) x18.2.1 ((v19.1), 0, []))))) 5 Aa) (KK h14) Foc.here Aa))) h31) Aa Aa fun a W => ?_
        refine F2 Aa ?_
        have F := Stw.dJoinE (lx := (Ah g_x20.1 x18.1 ((v18.1), 2, (Ah (v18.2.2) x18.2.1 ((v19.1), 0, []))))) [row v21 3 (Rp.int .i64) x27, row v20 3 (Rp.int .i64) ([x18.2.2.1] : List Int), row v13 41 CJ x3, Bo v10 44 Dj g_x19.1] F h29
        have F : Stw ⟨Y, [], w0⟩ [(b3, (Ck x18)), (b2, [.int .i64 x8.1, .int .i64 x8.2.1, (v15.2.2.1)]), (b1, (DN p0 v1 v2 v3 v4 v5 v6))] [Bo v16 26 CU (Ah g_x20.1 x18.1 ((v18.1), 2, (Ah (v18.2.2) x18.2.1 ((v19.1), 0, [])))), row v21 3 (Rp.int .i64) x27, row v20 3 (Rp.int .i64) ([x18.2.2.1] : List Int), row v13 41 CJ x3, Bo v10 44 Dj g_x19.1] w := F
        have F := F.dTakeD (KK h14) Foc.here Aa
        have h33 : List.map Fi (Ah (Ah g_x20.1 x18.1 ((v18.1), 2, (Ah (v18.2.2) x18.2.1 ((v19.1), 0, [])))) x18.1 ((v18.1), 0, [])) = (Ah (Ah x20 x18.1 (2, (Ah x23.2 x18.2.1 (0, [])))) x18.1 (0, [])) := (Js h27 (congrArg (fun q : Nat × List (Nat × List Int) => (0, [])) h26))
        have F : Stw ⟨Y, [], w0⟩ [(b3, (Ck x18)), (b2, [.int .i64 x8.1, .int .i64 x8.2.1, (v15.2.2.1)]), (b1, (DN p0 v1 v2 v3 v4 v5 v6))] [Bo (v18.1) 44 Dj (Ah (v18.2.2) x18.2.1 ((v19.1), 0, [])), Bo v16 26 CU (Ah (Ah g_x20.1 x18.1 ((v18.1), 2, (Ah (v18.2.2) x18.2.1 ((v19.1), 0, [])))) x18.1 ((v18.1), 0, [])), row v21 3 (Rp.int .i64) x27, row v20 3 (Rp.int .i64) ([x18.2.2.1] : List Int), row v13 41 CJ x3, Bo v10 44 Dj g_x19.1] w := F
        have h34 : Value.oneCell' v21 = true := (F.one (k := 2) Aa)
        have F := F.frontZ (i := 2) Aa Aa
        have F := F.toR
        refine N0 (D := Dj) (S := (Dp.sl 3 (Rp.int .i64))) (b := (v21, 2, x27)) (i := x18.2.1) (j := 0) Foc.here W F Aa Aa Aa h31 NA (BM h34) Aa h34 Aa fun w F => ?_
        have h35 : List.map Fj (Ah (Ah (v18.2.2) x18.2.1 ((v19.1), 0, [])) x18.2.1 (v21, 2, x27)) = (Ah (Ah x23.2 x18.2.1 (0, [])) x18.2.1 (2, x27)) := (Js h25 (congrArg (fun q : Nat × List Int => (2, x27)) h32))
        have F : Stw ⟨Y, [], w0⟩ [(b3, (Ck x18)), (b2, [.int .i64 x8.1, .int .i64 x8.2.1, (v15.2.2.1)]), (b1, (DN p0 v1 v2 v3 v4 v5 v6))] [Bo (v18.1) 44 Dj (Ah (Ah (v18.2.2) x18.2.1 ((v19.1), 0, [])) x18.2.1 (v21, 2, x27)), Bo v16 26 CU (Ah (Ah g_x20.1 x18.1 ((v18.1), 2, (Ah (v18.2.2) x18.2.1 ((v19.1), 0, [])))) x18.1 ((v18.1), 0, [])), row v20 3 (Rp.int .i64) ([x18.2.2.1] : List Int), row v13 41 CJ x3, Bo v10 44 Dj g_x19.1] w := F
        have F := F.frontZ (i := 1) Aa Aa
        have F := F.frontZ (i := 1) Aa Aa
        have h36 : Fi ((v18.1), 2, (Ah (Ah (v18.2.2) x18.2.1 ((v19.1), 0, [])) x18.2.1 (v21, 2, x27))) = (2, (Ah (Ah x23.2 x18.2.1 (0, [])) x18.2.1 (2, x27))) := by first | (simp only [Fi, h35]; done) | simp only [h35, ← h26]
        have F := F.dBackD (x2 := ((v18.1), 2, (Ah (Ah (v18.2.2) x18.2.1 ((v19.1), 0, [])) x18.2.1 (v21, 2, x27)))) (KK h14) Foc.here Aa Aa
        have h37 : List.map Fi (Ah (Ah g_x20.1 x18.1 ((v18.1), 2, (Ah (v18.2.2) x18.2.1 ((v19.1), 0, [])))) x18.1 ((v18.1), 2, (Ah (Ah (v18.2.2) x18.2.1 ((v19.1), 0, [])) x18.2.1 (v21, 2, x27)))) = (Ah (Ah x20 x18.1 (2, (Ah x23.2 x18.2.1 (0, [])))) x18.1 (2, (Ah (Ah x23.2 x18.2.1 (0, [])) x18.2.1 (2, x27)))) := (Js h27 h36)
        have F : Stw ⟨Y, [], w0⟩ [(b3, (Ck x18)), (b2, [.int .i64 x8.1, .int .i64 x8.2.1, (v15.2.2.1)]), (b1, (DN p0 v1 v2 v3 v4 v5 v6))] [Bo v16 26 CU (Ah (Ah g_x20.1 x18.1 ((v18.1), 2, (Ah (v18.2.2) x18.2.1 ((v19.1), 0, [])))) x18.1 ((v18.1), 2, (Ah (Ah (v18.2.2) x18.2.1 ((v19.1), 0, [])) x18.2.1 (v21, 2, x27)))), row v20 3 (Rp.int .i64) ([x18.2.2.1] : List Int), row v13 41 CJ x3, Bo v10 44 Dj g_x19.1] w := F
        have h38 : List.map CU.cells g_x20.1 = List.map CU.cells (Ah (Ah g_x20.1 x18.1 ((v18.1), 2, (Ah (v18.2.2) x18.2.1 ((v19.1), 0, [])))) x18.1 ((v18.1), 2, (Ah (Ah (v18.2.2) x18.2.1 ((v19.1), 0, [])) x18.2.1 (v21, 2, x27)))) := Eq.trans h29 (Eq.symm (O7 (KK h14) Aa))
        have F := F.dSplitE g_x20.1 h38
        have F : Stw ⟨Y, [], w0⟩ [(b3, (Ck x18)), (b2, [.int .i64 x8.1, .int .i64 x8.2.1, (v15.2.2.1)]), (b1, (DN p0 v1 v2 v3 v4 v5 v6))] [row v20 3 (Rp.int .i64) ([x18.2.2.1] : List Int), row v13 41 CJ x3, Bo v10 44 Dj g_x19.1, row v16 26 CU.hr g_x20.1, Gv (List.map CU.it (Ah (Ah g_x20.1 x18.1 ((v18.1), 2, (Ah (v18.2.2) x18.2.1 ((v19.1), 0, [])))) x18.1 ((v18.1), 2, (Ah (Ah (v18.2.2) x18.2.1 ((v19.1), 0, [])) x18.2.1 (v21, 2, x27)))))] w := F
        refine Cm (N2 := []) (NZ2 := []) (N3 := [(some 21, b3, [.int .i64 x18.1, .int .i64 x18.2.1, .int .i64 x18.2.2.1, .int .i64 x18.2.2.2]), (some 19, b3, [.int .i64 x18.1, .int .i64 x18.2.1, .int .i64 x18.2.2.1, .int .i64 x18.2.2.2]), (some 18, b3, [.int .i64 x18.1, .int .i64 x18.2.1, .int .i64 x18.2.2.1, .int .i64 x18.2.2.2])]) (NZ3 := [(some 21, row v16 26 CU.hr g_x20.1), (some 19, row v16 26 CU.hr g_x20.1), (some 19, Gv (List.map CU.it g_x20.1))]) F Aa Aa (all_cons (fun h => AJ (by kernel_rfl) h) (all_cons (fun h => AJ (by kernel_rfl) h) (all_cons (fun h => AJ (by kernel_rfl) h) Ak))) (all_cons (fun h => AJ (by kernel_rfl) h) (all_cons (fun h => AJ (by kernel_rfl) h) (all_cons (fun h => AJ (by kernel_rfl) h) Ak))) ?_
        refine Hg ?_
        have F := Stw.dJoinE (lx := (Ah (Ah g_x20.1 x18.1 ((v18.1), 2, (Ah (v18.2.2) x18.2.1 ((v19.1), 0, [])))) x18.1 ((v18.1), 2, (Ah (Ah (v18.2.2) x18.2.1 ((v19.1), 0, [])) x18.2.1 (v21, 2, x27))))) [row v20 3 (Rp.int .i64) ([x18.2.2.1] : List Int), row v13 41 CJ x3, Bo v10 44 Dj g_x19.1] F h38
        have F : Stw ⟨Y, [], w0⟩ [(b3, (Ck x18)), (b2, [.int .i64 x8.1, .int .i64 x8.2.1, (v15.2.2.1)]), (b1, (DN p0 v1 v2 v3 v4 v5 v6))] [Bo v16 26 CU (Ah (Ah g_x20.1 x18.1 ((v18.1), 2, (Ah (v18.2.2) x18.2.1 ((v19.1), 0, [])))) x18.1 ((v18.1), 2, (Ah (Ah (v18.2.2) x18.2.1 ((v19.1), 0, [])) x18.2.1 (v21, 2, x27)))), row v20 3 (Rp.int .i64) ([x18.2.2.1] : List Int), row v13 41 CJ x3, Bo v10 44 Dj g_x19.1] w := F
        refine Ab ?_
        refine Jd 10 F MO (by kernel_rfl) ?_
        refine qs W Aa (Ai W Aa).q fun a W => ?_
        refine qs W Aa (Az Jv Aa Aa Aa T3 W Aa 0 Aa).q fun a W => ?_
        refine qs W Aa (BE (v := Value.int .i64 x18.1) 0 W Aa Aa T3 Aa).q fun a W => ?_
        obtain ⟨x29, h39, H⟩ := Ac H
        obtain ⟨v23, h40, h41⟩ := E5 (er := Fj) g_x19.2 h39
        refine qs W Aa (Al (r := Dj.hr) Ps W Aa Aa (NE.hd (Jp 3 Aa)) h40).q fun a W => ?_
        have h42 : Dj.cells v23 = [(v23.1)] := congrArg (fun q : Nat × List Int => ([(v23.1)] : List Value)) h41
        refine qs W Aa (Ag (y := (v23.1)) (j := 0) (i := x18.1) (enc := Dj.cells) W Aa Aa (NE.hd (Jp 3 Aa)) h40 Dj.flat NA (by rw [h42]; rfl)).q fun a W => ?_
        refine qs W Aa (Az Jv Aa Aa Aa T3 W Aa 1 Aa).q fun a W => ?_
        refine qs W Aa (BE (v := Value.int .i64 x18.2.1) 0 W Aa Aa T3 Aa).q fun a W => ?_
        refine qs W Aa (Az Jv Aa Aa Aa T3 W Aa 2 Aa).q fun a W => ?_
        refine qs W Aa (BE (v := Value.int .i64 x18.2.2.1) 0 W Aa Aa T3 Aa).q fun a W => ?_
        obtain ⟨x30, h43, H⟩ := Ac H
        obtain ⟨x31, h44, H⟩ := Ac H
        refine qs W Aa (Al (r := (Rp.int .i64)) EJ W Aa Aa (NE.sl (k := x29.1) (l := x29.2) (Jp 3 Aa) h40 Foc.here (congrArg (fun q : Nat × List Int => q) h41) (Vl h44)) h43).q fun a W => ?_
        refine AD fun w F => ?_
        obtain ⟨x32, h45, H⟩ := Ac H
        have F := F.frontZ (i := 3) Aa Aa
        have F := F.dTakeR h40 Foc.here ((congrArg (fun q : Nat × List Int => q) h41).trans (Prod.ext (KZ h45) Aa))
        have h46 : List.map Fj (Ah g_x19.1 x18.1 ((v23.1), 0, [])) = (Ah x19 x18.1 (0, [])) := (Js g_x19.2 (congrArg (fun q : Nat × List Int => (0, [])) h41))
        have F : Stw ⟨Y, [], w0⟩ [(b3, (Ck x18)), (b2, [.int .i64 x8.1, .int .i64 x8.2.1, (v15.2.2.1)]), (b1, (DN p0 v1 v2 v3 v4 v5 v6))] [row (v23.1) 3 (Rp.int .i64) x29.2, Bo v10 44 Dj (Ah g_x19.1 x18.1 ((v23.1), 0, [])), Bo v16 26 CU (Ah (Ah g_x20.1 x18.1 ((v18.1), 2, (Ah (v18.2.2) x18.2.1 ((v19.1), 0, [])))) x18.1 ((v18.1), 2, (Ah (Ah (v18.2.2) x18.2.1 ((v19.1), 0, [])) x18.2.1 (v21, 2, x27)))), row v20 3 (Rp.int .i64) ([x18.2.2.1] : List Int), row v13 41 CJ x3] w := F
        refine AY (i := x18.2.1) (j := 0) (vs := [.int .i64 x18.2.2.1]) (x' := x18.2.2.1) W F Aa Aa Aa (k := 0) Aa Aa h43 T3 Aa Aa Aa Aa (fun A cs _ => Fl.int.sto (by rfl) _ _ _) fun w F => ?_
        have F := F.frontZ (i := 1) Aa Aa
        have F := F.frontZ (i := 1) Aa Aa
        have F := F.dBackR (x2 := ((v23.1), 2, (Ah x29.2 x18.2.1 x18.2.2.1))) h40 Foc.here Aa Aa
        have h47 : List.map Fj (Ah g_x19.1 x18.1 ((v23.1), 2, (Ah x29.2 x18.2.1 x18.2.2.1))) = (Ah x19 x18.1 (2, (Ah x29.2 x18.2.1 x18.2.2.1))) := (Js g_x19.2 (congrArg (fun q : Nat × List Int => (2, (Ah x29.2 x18.2.1 x18.2.2.1))) h41))
        have F : Stw ⟨Y, [], w0⟩ [(b3, (Ck x18)), (b2, [.int .i64 x8.1, .int .i64 x8.2.1, (v15.2.2.1)]), (b1, (DN p0 v1 v2 v3 v4 v5 v6))] [Bo v10 44 Dj (Ah g_x19.1 x18.1 ((v23.1), 2, (Ah x29.2 x18.2.1 x18.2.2.1))), Bo v16 26 CU (Ah (Ah g_x20.1 x18.1 ((v18.1), 2, (Ah (v18.2.2) x18.2.1 ((v19.1), 0, [])))) x18.1 ((v18.1), 2, (Ah (Ah (v18.2.2) x18.2.1 ((v19.1), 0, [])) x18.2.1 (v21, 2, x27)))), row v20 3 (Rp.int .i64) ([x18.2.2.1] : List Int), row v13 41 CJ x3] w := F
        refine FG (Aw (Ab ?_))
        have F := F.frontZ (i := 1) Aa Aa
        have F := F.frontZ (i := 1) Aa Aa
        have F := F.frontZ (i := 3) Aa Aa
        have F := F.frontM (i := 2) Aa Aa
        have F := F.frontM (i := 2) Aa Aa
        have F := F.sub (M' := [(b2, [.int .i64 x8.1, .int .i64 x8.2.1, (v15.2.2.1)]), (b1, (DN p0 v1 v2 v3 v4 v5 v6))]) (Z' := [row v13 41 CJ x3, Bo v10 44 Dj (Ah g_x19.1 x18.1 ((v23.1), 2, (Ah x29.2 x18.2.1 x18.2.2.1))), Bo v16 26 CU (Ah (Ah g_x20.1 x18.1 ((v18.1), 2, (Ah (v18.2.2) x18.2.1 ((v19.1), 0, [])))) x18.1 ((v18.1), 2, (Ah (Ah (v18.2.2) x18.2.1 ((v19.1), 0, [])) x18.2.1 (v21, 2, x27))))]) (List.Sublist.cons_cons _ (List.Sublist.cons_cons _ (List.nil_sublist _))) (List.Sublist.cons_cons _ (List.Sublist.cons_cons _ (List.Sublist.cons_cons _ (List.nil_sublist _))))
        exact ⟨_, _, ⟨(Ah g_x19.1 x18.1 ((v23.1), 2, (Ah x29.2 x18.2.1 x18.2.2.1))), h47⟩, ⟨(Ah (Ah g_x20.1 x18.1 ((v18.1), 2, (Ah (v18.2.2) x18.2.1 ((v19.1), 0, [])))) x18.1 ((v18.1), 2, (Ah (Ah (v18.2.2) x18.2.1 ((v19.1), 0, [])) x18.2.1 (v21, 2, x27)))), h37⟩, H, W.ra Aa, F⟩
       refine AB (Aw (Ab ?_))
       have F := F.frontZ (i := 2) Aa Aa
       have F := F.frontZ (i := 2) Aa Aa
       have F := F.frontZ (i := 2) Aa Aa
       have F := F.frontM (i := 2) Aa Aa
       have F := F.frontM (i := 2) Aa Aa
       have F := F.sub (M' := [(b2, [.int .i64 x8.1, .int .i64 x8.2.1, (v15.2.2.1)]), (b1, (DN p0 v1 v2 v3 v4 v5 v6))]) (Z' := [row v13 41 CJ x3, Bo v10 44 Dj g_x19.1, Bo v16 26 CU g_x20.1]) (List.Sublist.cons_cons _ (List.Sublist.cons_cons _ (List.nil_sublist _))) (List.Sublist.refl _)
       exact ⟨_, _, ⟨g_x19.1, g_x19.2⟩, ⟨g_x20.1, g_x20.2⟩, H, W.ra Aa, F⟩
      rintro a w ⟨x16, x17, g_x16, g_x17, hj, W, F⟩
      have hj := Ax hj
      subst hj
      have H := K6
      clear G6 K6
      refine vc tk 4 W F fun a w W F => ?_
      refine Ab ?_
      have F := F.frontZ (i := 2) Aa Aa
      have F := F.frontZ (i := 2) Aa Aa
      have F := F.frontZ (i := 2) Aa Aa
      have F := F.frontM (i := 1) Aa Aa
      have F := F.frontM (i := 1) Aa Aa
      exact ⟨_, H, ⟨g_x16.1, g_x16.2⟩, ⟨g_x17.1, g_x17.2⟩, W.ra Aa, F⟩
     refine AA ?_
     iterate 2 refine AQ ?_
     refine AC (Ab ?_)
     have F := F.frontZ (i := 2) Aa Aa
     have F := F.frontZ (i := 2) Aa Aa
     have F := F.frontZ (i := 2) Aa Aa
     have F := F.frontM (i := 1) Aa Aa
     have F := F.frontM (i := 1) Aa Aa
     have H := L5 _ H
     exact ⟨_, _, ⟨g_x13.1, g_x13.2⟩, ⟨g_x14.1, g_x14.2⟩, H, W.ra Aa, F⟩
    rintro a w ⟨x11, x12, g_x11, g_x12, hj, W, F⟩
    have hj := Ax hj
    subst hj
    have H := K4
    clear G4 K4
    refine IL tk 5 [1] W F (ai fun a w W F => ?_)
    refine ls W F Aa (BS (r := IB) (l := p0.1.2.2) OE Aa W Aa (Ad h_v2)).q fun a w W F => ?_
    refine BR tk 4 W F fun a w W F => ?_
    have F := F.frontZ (i := 2) Aa Aa
    have F := F.frontZ (i := 2) Aa Aa
    have F := F.frontZ (i := 2) Aa Aa
    have F := F.frontM (i := 1) Aa Aa
    have F := F.frontM (i := 1) Aa Aa
    refine AL H (fun s a w => ∃ v24 : Value, Fr 90 [] [(1, .pointer (some ⟨b1, 0, none⟩)), (2, .slice none 0 0), (3, v24), (4, v10), (5, .int .i64 x5), (7, v16), (16, v6), (17, .int .i64 (p0.2.2.2.2.1.length : Int)), (18, .int .i64 x5), (76, .int .i64 (p0.1.2.2.length : Int)), (77, .int .i64 s.2)] a ∧ Stw ⟨Y, [], w0⟩ [(b2, [.int .i64 x8.1, .int .i64 x8.2.1, (v15.2.2.1)]), (b1, (DN p0 v1 v2 v3 v4 v5 v6))] [row v24 41 CJ s.1, Bo v10 44 Dj g_x11.1, Bo v16 26 CU g_x12.1] w) ⟨(v13), W.ra Aa, F⟩ fun s o a w H L8 hR => ?_
    obtain ⟨x33, x34⟩ := s
    obtain ⟨v24, W, F⟩ := hR
    have W : Fr 90 [] [(1, .pointer (some ⟨b1, 0, none⟩)), (2, .slice none 0 0), (3, v24), (4, v10), (5, .int .i64 x5), (7, v16), (16, v6), (17, .int .i64 (p0.2.2.2.2.1.length : Int)), (18, .int .i64 x5), (76, .int .i64 (p0.1.2.2.length : Int)), (77, .int .i64 x34)] a := W
    have F : Stw ⟨Y, [], w0⟩ [(b2, [.int .i64 x8.1, .int .i64 x8.2.1, (v15.2.2.1)]), (b1, (DN p0 v1 v2 v3 v4 v5 v6))] [row v24 41 CJ x33, Bo v10 44 Dj g_x11.1, Bo v16 26 CU g_x12.1] w := F
    rw [B0] at H
    refine vc tk 6 W F fun a w W F => ?_
    refine AU W Aa H (fun W H => ?_) fun W H => ?_
    ·
     refine Ms tk 16 [1] W F (ai fun a w W F => ?_)
     obtain ⟨x35, h48, H⟩ := Ac H
     obtain ⟨x36, h49, H⟩ := Ac H
     refine A9 (Ml := []) (Zl := []) (β := Value) (rv := fun x => x) (MM := fun x => []) (ZZ := fun x => [row x 41 CJ x36]) W F aZ Aa Aa (fun hL => Kp _ w (v1) (v2) (v3) (v4) (v5) (v6) (v16) p0 x35 x5 x34 _ h49 ((Ad h_v1) w F).nx ((Ad h_v2) w F).nx ((AN CM h1 (Ad h_v3)) w F).nx ((AN CM h2 (Ad h_v4)) w F).nx ((Ad h_v5) w F).nx ((AN HF h3 (Ad h_v6)) w F).nx ((NE.plain YQ g_x12.2 h48 (Jp 2 Aa)) w F).nx) fun x a w W F => ?_
     obtain ⟨v25, rfl⟩ : ∃ y, y = x := ⟨x, rfl⟩
     have F : Stw ⟨Y, [], w0⟩ [(b2, [.int .i64 x8.1, .int .i64 x8.2.1, (v15.2.2.1)]), (b1, (DN p0 v1 v2 v3 v4 v5 v6))] [row v25 41 CJ x36, row v24 41 CJ x33, Bo v10 44 Dj g_x11.1, Bo v16 26 CU g_x12.1] w := F
     obtain ⟨x37, h50, H⟩ := Ac H
     refine DB (r := CJ) (i := 1) W F Aa Qf Aa Aa Aa Aa (Ez F 0 Aa) h50 Aa fun v26 a w W F => ?_
     have F : Stw ⟨Y, [], w0⟩ [(b2, [.int .i64 x8.1, .int .i64 x8.2.1, (v15.2.2.1)]), (b1, (DN p0 v1 v2 v3 v4 v5 v6))] [row v26 41 CJ x37, row v25 41 CJ x36, Bo v10 44 Dj g_x11.1, Bo v16 26 CU g_x12.1] w := F
     refine vl tk 2 W F fun a w W F => ?_
     refine Aw ?_
     refine vn tk 4 W F fun a w W F => ?_
     refine Ab ?_
     have F := F.frontZ (i := 3) Aa Aa
     have F := F.frontZ (i := 3) Aa Aa
     have F := F.frontZ (i := 2) Aa Aa
     have F := F.frontM (i := 1) Aa Aa
     have F := F.frontM (i := 1) Aa Aa
     have F := F.sub (M' := [(b2, [.int .i64 x8.1, .int .i64 x8.2.1, (v15.2.2.1)]), (b1, (DN p0 v1 v2 v3 v4 v5 v6))]) (Z' := [row v26 41 CJ x37, Bo v10 44 Dj g_x11.1, Bo v16 26 CU g_x12.1]) (List.Sublist.refl _) (List.Sublist.cons_cons _ (List.Sublist.cons_cons _ (List.Sublist.cons_cons _ (List.nil_sublist _))))
     exact ⟨_, H, (v26), W.ra Aa, F⟩
    refine AA ?_
    iterate 2 refine AQ ?_
    refine AC (Aw (Ab ?_))
    have F := F.frontZ (i := 1) Aa Aa
    have F := F.frontZ (i := 1) Aa Aa
    have F := F.frontM (i := 1) Aa Aa
    have F := F.sub (M' := (C0 b1 p0 v1 v2 v3 v4 v5 v6)) (Z' := [row v24 41 CJ x33, Bo v10 44 Dj g_x11.1]) (List.Sublist.cons_cons _ (List.nil_sublist _)) (List.Sublist.cons_cons _ (List.Sublist.cons_cons _ (List.nil_sublist _)))
    have H := L8 _ H
    exact ⟨_, _, (v24), ⟨g_x11.1, g_x11.2⟩, H, W.ra Aa, F⟩
   rintro a w ⟨x6, x7, v14, g_x7, hj, W, F⟩
   have hj := Ax hj
   subst hj
   have H := K3
   clear G3 K3
   refine vc tk 4 W F fun a w W F => ?_
   refine Ab ?_
   have F := F.frontZ (i := 1) Aa Aa
   have F := F.frontZ (i := 1) Aa Aa
   exact ⟨_, H, (v14), ⟨g_x7.1, g_x7.2⟩, W.ra Aa, F⟩
  refine AA ?_
  iterate 2 refine AQ ?_
  refine AC (Ab ?_)
  have F := F.sub (M' := (C0 b1 p0 v1 v2 v3 v4 v5 v6)) (Z' := [row v13 41 CJ x3]) (List.Sublist.refl _) (List.Sublist.cons_cons _ (List.nil_sublist _))
  have H := L2 _ H
  exact ⟨_, (v13), H, W.ra Aa, F⟩
 rintro a w ⟨x2, v12, hj, W, F⟩
 have hj := Ax hj
 subst hj
 have H := K1
 clear G1 K1
 refine vc tk 6 W F fun a w W F => ?_
 refine Ao ?_
 have H := Ax H
 subst H
 refine A1 (.inl Aa) W F Aa (Am W Aa) ?_
 have F := F.sub (M' := []) (Z' := [row v12 41 CJ x2]) (List.nil_sublist _) (List.Sublist.refl _)
 exact ⟨(v12), Aa, F⟩
theorem WA : type_of% Tryz.underlying76 := Tryz.underlying76
theorem ZR : Has Tryz.prog 19 := Cu Tryz.func19
theorem aD : (Tryz.prog.info? 37).bind (·.zero) = some (.slice none 0 0) := by kernel_rfl
theorem Y7 : Et Tryz.prog 76 37 1 24 := Et.of WA (by kernel_rfl) (by kernel_rfl) (by kernel_rfl) (by decide)
abbrev Y0 (p : Value × List (Int × Int × Int)) : List (Int × Int × Int) := p.2
theorem WM : Ex (Rp.slice CJ) (Rp.vsl CJ) Y0 := Ex.sliceF
abbrev Tk (a : Value × List (Int × Int × Int)) : List Value := [a.1]
theorem XO : Kj (Rp.vsl CJ) Tk := Kj.vsl
theorem Zi : Ty Tryz.prog 37 false 1 := ⟨by kernel_rfl, by kernel_rfl⟩
theorem I9 : (Tryz.prog.underlying 9).map (fun d => match d with | .interface _ => true | _ => false) = some false := by kernel_rfl
noncomputable def Bh (p1 : Int) : Option (List (Int × Int × Int)) := (if p1 < 0 then none else (if 0 < (An (p1 - (An (0 - (([] : List (Int × Int × Int)).length : Int))))) then (J3 ([] : List (Int × Int × Int)) 0 0).bind fun x2 => (X6 0 (An (p1 - (An (0 - (([] : List (Int × Int × Int)).length : Int))))).toNat).bind fun x3 => (mk (An (p1 - (An (0 - (([] : List (Int × Int × Int)).length : Int))))) ((0, 0, 0) : Int × Int × Int)).bind fun x4 => (J3 x4 0 (([] : List (Int × Int × Int)).length : Int)).bind fun x5 => some x5 else some ([])).bind fun x1 => some x1)
theorem FZ (Y : Nat → Prop) (w0 : World)  (p1 : Int) (r : (List (Int × Int × Int))) (H : Bh p1 = some r)  :
    Calls Tryz.prog 31 #[.slice none 0 0, .int .i64 p1] w0 fun e w' => ∃ x : Value, e = .returned (x) ∧ Stw ⟨Y, [], w0⟩ [] [row (x) 41 CJ r] w' := by
 refine enter Tryz.func31 Aa Tryz.ntmps31 Aa fun a W => ?_
 have F := Stw.start Y w0
 unfold Bh at H
 refine vc tk 12 W F fun a w W F => ?_
 refine AU W Aa H (fun W H => ?_) fun W H => ?_
 ·
  refine N5 ?_
  refine ls W F Aa (MZ I9 W Aa).q fun a w W F => ?_
  exact nomatch H
 refine AB (Ab ?_)
 obtain ⟨o1, G1, K1⟩ := Ac H
 refine Aq (fun a w => ∃ x1 : List (Int × Int × Int), ∃ v1 : Value, some (x1) = some o1 ∧ Fr 27 [] [(0, v1), (4, .slice none 0 0)] a ∧ Stw ⟨Y, [], w0⟩ [] [row v1 41 CJ x1] w) ?_ ?_
 ·
  have H := G1
  clear G1 K1
  refine vc tk 4 W F fun a w W F => ?_
  refine ls W F Aa (Te Pf Aa W Aa).q fun a w W F => ?_
  refine ls W F Aa (Ai W Aa).q fun a w W F => ?_
  refine ls W F Aa (BS (r := CJ) (l := ([] : List (Int × Int × Int))) Pf Aa W Aa PU).q fun a w W F => ?_
  refine BR tk 11 W F fun a w W F => ?_
  refine AU W Aa H (fun W H => ?_) fun W H => ?_
  ·
   refine vc tk 3 W F fun a w W F => ?_
   refine ls W F Aa (Te Pf Aa W Aa).q fun a w W F => ?_
   obtain ⟨x2, h1, H⟩ := Ac H
   refine ls W F Aa (LZ (r := CJ) Qf W Aa Aa Aa PU h1).q fun a w W F => ?_
   refine ls W F Aa (Ai W Aa).q fun a w W F => ?_
   obtain ⟨x3, h2, H⟩ := Ac H
   obtain ⟨x4, h3, H⟩ := Ac H
   refine Ru (r := CJ) ((0, 0, 0) : Int × Int × Int) W F Aa Qf WO QW Aa Aa (WI h2) (fun w A => VJ.mk' w A ((0, 0, 0) : Int × Int × Int)) h3 Aa fun v2 a w W F => ?_
   have F : Stw ⟨Y, [], w0⟩ [] [row v2 41 CJ x4] w := F
   refine ls W F Aa (Ai W Aa).q fun a w W F => ?_
   refine ls W F Aa (BS (r := CJ) (l := ([] : List (Int × Int × Int))) Pf Aa W Aa PU).q fun a w W F => ?_
   obtain ⟨x5, h4, H⟩ := Ac H
   refine ls W F Aa (LZ (r := CJ) Qf W Aa Aa Aa (Af 0 Aa) h4).q fun a w W F => ?_
   refine vl tk 2 W F fun a w W F => ?_
   refine Ab ?_
   have F := F.subRow (k := 0) Aa Aa h4
   exact ⟨_, ((EC v2 (0 : Int) (([] : List (Int × Int × Int)).length : Int) 3)), H, W.ra Aa, F⟩
  refine AB (Ab ?_)
  have F := F.nilRow 41 CJ
  exact ⟨_, (Value.slice none 0 0), H, W.ra Aa, F⟩
 rintro a w ⟨x1, v1, hj, W, F⟩
 have hj := Ax hj
 subst hj
 have H := K1
 clear G1 K1
 refine vc tk 6 W F fun a w W F => ?_
 refine Ao ?_
 have H := Ax H
 subst H
 refine A1 (.inl Aa) W F Aa (Am W Aa) ?_
 exact ⟨(v1), Aa, F⟩
theorem aX : Has Tryz.prog 31 := Cu Tryz.func31
noncomputable def AR (p0 : List (List (Int × Int × Int))) : (Int × Int) → Option ((Int × Int) ⊕ Int)
  | (x2, x3) => (if x3 < (p0.length : Int) then (ix p0 x3).bind fun x4 => (if (An (x2 + (x4.length : Int))) < 0 then none else some (.inl (An (x2 + (x4.length : Int)), An (x3 + 1)))) else some (.inr x2))
noncomputable def AS (p0 : List (List (Int × Int × Int))) : ((List (Int × Int × Int)) × Int) → Option (((List (Int × Int × Int)) × Int) ⊕ (List (Int × Int × Int)))
  | (x7, x8) => (if x8 < (p0.length : Int) then (ix p0 x8).bind fun x9 => (H4 x7 x9).bind fun x10 => some (.inl (x10, An (x8 + 1))) else some (.inr x7))
noncomputable def Bd (p0 : List (List (Int × Int × Int))) : Option (List (Int × Int × Int)) := (Ap (AR p0) (0, 0)).bind fun x1 => (Bh x1).bind fun x5 => (Ap (AS p0) (x5, 0)).bind fun x6 => some x6
theorem FM (Y : Nat → Prop) (w0 : World) (v1 : Value) (p0 : List (List (Int × Int × Int))) (r : (List (Int × Int × Int))) (H : Bd p0 = some r) (s_v1 : Sl w0 Y (Rp.slice CJ) v1 p0) :
    Calls Tryz.prog 15 #[v1] w0 fun e w' => ∃ x : Value, e = .returned (x) ∧ Stw ⟨Y, [], w0⟩ [] [row (x) 41 CJ r] w' := by
 refine enter Tryz.func15 Aa Tryz.ntmps15 Aa fun a W => ?_
 have F := Stw.start Y w0
 obtain ⟨v2, h1, s_v1⟩ := s_v1.ex WM
 have h_v1 := F.nx s_v1
 unfold Bd at H
 refine vc tk 10 W F fun a w W F => ?_
 obtain ⟨o1, G1, K1⟩ := Ac H
 refine Aq (fun a w => ∃ x1 : Int, some (x1) = some o1 ∧ Fr 36 [] [(0, v1), (2, .slice none 0 0), (3, .int .i64 x1)] a ∧ Stw ⟨Y, [], w0⟩ [] [] w) ?_ ?_
 ·
  have H := G1
  clear G1 K1
  refine vc tk 3 W F fun a w W F => ?_
  refine ls W F Aa (BS (r := (Rp.slice CJ)) (l := p0) WA Aa W Aa (AN WM h1 (Ad h_v1))).q fun a w W F => ?_
  refine BR tk 4 W F fun a w W F => ?_
  refine AL H (fun s a w => Fr 36 [] [(0, v1), (2, .slice none 0 0), (3, .int .i64 s.1), (9, v1), (10, .int .i64 (p0.length : Int)), (11, .int .i64 s.2)] a ∧ Stw ⟨Y, [], w0⟩ [] [] w) ⟨W.ra Aa, F⟩ fun s o a w H L2 hR => ?_
  obtain ⟨x2, x3⟩ := s
  obtain ⟨W, F⟩ := hR
  have W : Fr 36 [] [(0, v1), (2, .slice none 0 0), (3, .int .i64 x2), (9, v1), (10, .int .i64 (p0.length : Int)), (11, .int .i64 x3)] a := W
  have F : Stw ⟨Y, [], w0⟩ [] [] w := F
  rw [AR] at H
  refine vc tk 6 W F fun a w W F => ?_
  refine AU W Aa H (fun W H => ?_) fun W H => ?_
  ·
   refine FP tk 6 W F fun a w W F => ?_
   obtain ⟨x4, h2, H⟩ := Ac H
   obtain ⟨v3, h3, h4⟩ := E5 h1 h2
   have h5 : Tk v3 = [(v3.1)] := congrArg (fun q : List (Int × Int × Int) => ([(v3.1)] : List Value)) h4
   refine ls W F Aa (Al (r := (Rp.vsl CJ)) Y7 W Aa Aa (Ad h_v1) h3).q fun a w W F => ?_
   refine ls W F Aa (Ag (y := (v3.1)) (j := 0) (i := x3) (enc := Tk) W Aa Aa (Ad h_v1) h3 XO Zi (by rw [h5]; rfl)).q fun a w W F => ?_
   refine BR tk 7 W F fun a w W F => ?_
   refine ls W F Aa (BS (r := CJ) (l := x4) Pf Aa W Aa (Dc (Ad h_v1) h3 DP.here (congrArg (fun q : List (Int × Int × Int) => q) h4))).q fun a w W F => ?_
   refine BR tk 10 W F fun a w W F => ?_
   refine AU W Aa H (fun W H => ?_) fun W H => ?_
   ·
    refine N5 ?_
    refine ls W F Aa (MZ I9 W Aa).q fun a w W F => ?_
    exact nomatch H
   refine AB (Aw ?_)
   refine vn tk 4 W F fun a w W F => ?_
   refine Ab ?_
   exact ⟨_, H, W.ra Aa, F⟩
  refine AA ?_
  iterate 2 refine AQ ?_
  refine AC (Ab ?_)
  have H := L2 _ H
  exact ⟨_, H, W.ra Aa, F⟩
 rintro a w ⟨x1, hj, W, F⟩
 have hj := Ax hj
 subst hj
 have H := K1
 clear G1 K1
 refine vc tk 3 W F fun a w W F => ?_
 obtain ⟨x5, h6, H⟩ := Ac H
 refine A9 (Ml := []) (Zl := []) (β := Value) (rv := fun x => x) (MM := fun x => []) (ZZ := fun x => [row x 41 CJ x5]) W F aX Aa Aa (fun hL => FZ _ w x1 _ h6) fun x a w W F => ?_
 obtain ⟨v4, rfl⟩ : ∃ y, y = x := ⟨x, rfl⟩
 have F : Stw ⟨Y, [], w0⟩ [] [row v4 41 CJ x5] w := F
 refine vl tk 2 W F fun a w W F => ?_
 refine Ab ?_
 obtain ⟨o3, G3, K3⟩ := Ac H
 refine Aq (fun a w => ∃ x6 : List (Int × Int × Int), ∃ v5 : Value, some (x6) = some o3 ∧ Fr 36 [] [(2, .slice none 0 0), (6, v5)] a ∧ Stw ⟨Y, [], w0⟩ [] [row v5 41 CJ x6] w) ?_ ?_
 ·
  have H := G3
  clear G3 K3
  refine vc tk 3 W F fun a w W F => ?_
  refine ls W F Aa (BS (r := (Rp.slice CJ)) (l := p0) WA Aa W Aa (AN WM h1 (Ad h_v1))).q fun a w W F => ?_
  refine BR tk 4 W F fun a w W F => ?_
  refine AL H (fun s a w => ∃ v6 : Value, Fr 36 [] [(2, .slice none 0 0), (6, v6), (25, v1), (26, .int .i64 (p0.length : Int)), (27, .int .i64 s.2)] a ∧ Stw ⟨Y, [], w0⟩ [] [row v6 41 CJ s.1] w) ⟨(v4), W.ra Aa, F⟩ fun s o a w H L4 hR => ?_
  obtain ⟨x7, x8⟩ := s
  obtain ⟨v6, W, F⟩ := hR
  have W : Fr 36 [] [(2, .slice none 0 0), (6, v6), (25, v1), (26, .int .i64 (p0.length : Int)), (27, .int .i64 x8)] a := W
  have F : Stw ⟨Y, [], w0⟩ [] [row v6 41 CJ x7] w := F
  rw [AS] at H
  refine vc tk 6 W F fun a w W F => ?_
  refine AU W Aa H (fun W H => ?_) fun W H => ?_
  ·
   refine FP tk 6 W F fun a w W F => ?_
   obtain ⟨x9, h7, H⟩ := Ac H
   obtain ⟨v7, h8, h9⟩ := E5 h1 h7
   have h10 : Tk v7 = [(v7.1)] := congrArg (fun q : List (Int × Int × Int) => ([(v7.1)] : List Value)) h9
   refine ls W F Aa (Al (r := (Rp.vsl CJ)) Y7 W Aa Aa (Ad h_v1) h8).q fun a w W F => ?_
   refine ls W F Aa (Ag (y := (v7.1)) (j := 0) (i := x8) (enc := Tk) W Aa Aa (Ad h_v1) h8 XO Zi (by rw [h10]; rfl)).q fun a w W F => ?_
   refine BR tk 6 W F fun a w W F => ?_
   obtain ⟨x10, h11, H⟩ := Ac H
   refine DB (r := CJ) (i := 0) W F Aa Qf Aa Aa Aa Aa (Sl.src (Sl.at_ (F.old s_v1) h8 DP.here (congrArg (fun q : List (Int × Int × Int) => q) h9))) h11 Aa fun v8 a w W F => ?_
   have F : Stw ⟨Y, [], w0⟩ [] [row v8 41 CJ x10] w := F
   refine vl tk 2 W F fun a w W F => ?_
   refine Aw ?_
   refine vn tk 4 W F fun a w W F => ?_
   refine Ab ?_
   exact ⟨_, H, (v8), W.ra Aa, F⟩
  refine AA ?_
  iterate 2 refine AQ ?_
  refine AC (Ab ?_)
  have H := L4 _ H
  exact ⟨_, (v6), H, W.ra Aa, F⟩
 rintro a w ⟨x6, v5, hj, W, F⟩
 have hj := Ax hj
 subst hj
 have H := K3
 clear G3 K3
 refine vc tk 6 W F fun a w W F => ?_
 refine Ao ?_
 have H := Ax H
 subst H
 refine A1 (.inl Aa) W F Aa (Am W Aa) ?_
 exact ⟨(v5), Aa, F⟩
theorem ZK : Has Tryz.prog 15 := Cu Tryz.func15
abbrev JY (a0 : Int × (List (Int × Int × Int × Int × Int × Int)) × (List (Int × Int))) (a1 : Value) (a2 : Value) (a3 : Value) (a4 : Value) (a5 : Value) (a6 : Value) (a7 : (List (Int × Int × Int × Int)) × (List (Int × Int × List Int)) × Int × Int × Int × Int) : List Value := [.int .i64 a0.1, a1, a2, a3, a4, a5, a6, .int .i64 a7.2.2.1, .int .i64 a7.2.2.2.1, .int .i64 a7.2.2.2.2.1, .int .i64 a7.2.2.2.2.2]
noncomputable def ED (p0 : Int × (List (Int × Int × Int × Int × Int × Int)) × (List (Int × Int))) (p1 : List (List Int)) (p2 : List (List Int)) (p3 : (List (Int × Int × Int × Int)) × (List (Int × Int × List Int)) × Int × Int × Int × Int) : Option (List (Int × Int × Int)) := ((Fh p0 p1).bind fun x2 => (if (!x2) = true then some true else (Fh p0 p2).bind fun x3 => some (!x3))).bind fun x1 => (if x1 = true then some ([(1, 0, 0)] : List (Int × Int × Int)) else (Do (p0, p1, p2, p3)).bind fun x4 => (DF (p0, p1, p2, p3)).bind fun x5 => (DG (p0, p1, p2, p3)).bind fun x6 => (Da (p0, p1, p2, p3)).bind fun x7 => (Bd ([x4, x5, x6, x7] : List (List (Int × Int × Int)))).bind fun x8 => some x8)
theorem JE (Y : Nat → Prop) (w0 : World) (v1 : Value) (v2 : Value) (v3 : Value) (v4 : Value) (v5 : Value) (v6 : Value) (p0 : Int × (List (Int × Int × Int × Int × Int × Int)) × (List (Int × Int))) (p1 : List (List Int)) (p2 : List (List Int)) (p3 : (List (Int × Int × Int × Int)) × (List (Int × Int × List Int)) × Int × Int × Int × Int) (r : (List (Int × Int × Int))) (H : ED p0 p1 p2 p3 = some r) (h_v1 : Sl w0 (NX []) IG v1 p0.2.1) (h_v2 : Sl w0 (NX []) IB v2 p0.2.2) (s_v3 : Sl w0 Y (Rp.slice (Rp.int .i64)) v3 p1) (h_v4 : Sl w0 (NX []) (Rp.slice (Rp.int .i64)) v4 p2) (h_v5 : Sl w0 (NX []) A5 v5 p3.1) (h_v6 : Sl w0 (NX []) Jg v6 p3.2.1) :
    Calls Tryz.prog 8 #[.agg #[.int .i64 p0.1, v1, v2], v3, v4, .agg #[v5, v6, .int .i64 p3.2.2.1, .int .i64 p3.2.2.2.1, .int .i64 p3.2.2.2.2.1, .int .i64 p3.2.2.2.2.2]] w0 fun e w' => ∃ x : Value, e = .returned (x) ∧ Stw ⟨Y, [], w0⟩ [] [row (x) 41 CJ r] w' := by
 refine enter Tryz.func8 Aa Tryz.ntmps8 Aa fun a W => ?_
 have F := Stw.start Y w0
 obtain ⟨v7, h1, s_v3⟩ := s_v3.ex CM
 obtain ⟨v8, h2, h_v4⟩ := h_v4.ex CM
 obtain ⟨v9, h3, h_v6⟩ := h_v6.ex HF
 have h_v3 := F.nx s_v3
 unfold ED at H
 refine vc tk 2 W F fun a w W F => ?_
 refine D2 (cs := [.int .i64 p0.1, v1, v2]) W F Aa Aa Aa fun b1 a w W F => ?_
 refine D2 (cs := [v5, v6, .int .i64 p3.2.2.1, .int .i64 p3.2.2.2.1, .int .i64 p3.2.2.2.2.1, .int .i64 p3.2.2.2.2.2]) W F Aa Aa Aa fun b2 a w W F => ?_
 refine BR tk 4 W F fun a w W F => ?_
 obtain ⟨o1, G1, K1⟩ := Ac H
 refine Aq (fun a w => ∃ x1 : Bool, some (x1) = some o1 ∧ Fr 37 [] [(1, v3), (2, v4), (4, .pointer (some ⟨b1, 0, none⟩)), (7, .pointer (some ⟨b2, 0, none⟩)), (8, .slice none 0 0), (19, .bool x1)] a ∧ Stw ⟨Y, [], w0⟩ [(b2, [v5, v6, .int .i64 p3.2.2.1, .int .i64 p3.2.2.2.1, .int .i64 p3.2.2.2.2.1, .int .i64 p3.2.2.2.2.2]), (b1, [.int .i64 p0.1, v1, v2])] [] w) ?_ ?_
 ·
  have H := G1
  clear G1 K1
  refine IL tk 3 [1] W F (ai fun a w W F => ?_)
  obtain ⟨x2, h4, H⟩ := Ac H
  refine ls W F Aa (Be (v := Value.bool x2) W X8 Aa (fun w F => IF any w (v1) (v2) (v3) p0 p1 _ h4 (EG (Ad h_v1) F) (EG (Ad h_v2) F) (EG (AN CM h1 (Ad h_v3)) F))) fun a w W F => ?_
  refine vl tk 2 W F fun a w W F => ?_
  rcases Bool.eq_false_or_eq_true (!x2) with hb | hb
  ·
   have H := D0 hb H
   rw [hb] at W
   clear hb
   refine vl tk 6 W F fun a w W F => ?_
   refine Ab ?_
   have F := F.frontM (i := 1) Aa Aa
   have F := F.frontM (i := 1) Aa Aa
   exact ⟨_, H, W.ra Aa, F⟩
  have H := DZ (by rw [hb]; decide) H
  rw [hb] at W
  clear hb
  refine Ky tk 2 [1] W F (ai fun a w W F => ?_)
  refine MB (Ae W Aa Aa Aa Aa) ?_
  obtain ⟨x3, h5, H⟩ := Ac H
  refine ls W F Aa (Be (v := Value.bool x3) W X8 Aa (fun w F => IF any w (v1) (v2) (v4) p0 p2 _ h5 (EG (Ad h_v1) F) (EG (Ad h_v2) F) (EG (AN CM h2 (Ad h_v4)) F))) fun a w W F => ?_
  refine vl tk 3 W F fun a w W F => ?_
  refine Ab ?_
  have F := F.frontM (i := 1) Aa Aa
  have F := F.frontM (i := 1) Aa Aa
  exact ⟨_, H, W.ra Aa, F⟩
 rintro a w ⟨x1, hj, W, F⟩
 have hj := Ax hj
 subst hj
 have H := K1
 clear G1 K1
 refine C2 W Aa H (fun W H => ?_) fun W H => ?_
 ·
  refine vc tk 2 W F fun a w W F => ?_
  refine ls W F Aa (Cg (v := Value.agg #[.int .i64 1, .int .i64 0, .int .i64 0]) WH W Aa Aa Aa).q fun a w W F => ?_
  refine D6 (z := Value.agg #[.int .i64 0, .int .i64 0, .int .i64 0]) (cs := [.int .i64 1, .int .i64 0, .int .i64 0]) CJ ([(1, 0, 0)] : List (Int × Int × Int)) W F Aa Qf WO Aa Aa Aa Aa Aa Aa (VJ.repL _ _ ([(1, 0, 0)] : List (Int × Int × Int))) fun v10 a w W F => ?_
  refine BR tk 3 W F fun a w W F => ?_
  refine Ao (AE ?_)
  have H := Ax H
  subst H
  refine A1 (.inl Aa) W F Aa (Am W Aa) ?_
  have F := F.sub (M' := []) (Z' := [row v10 41 CJ ([(1, 0, 0)] : List (Int × Int × Int))]) (List.nil_sublist _) (List.Sublist.refl _)
  exact ⟨(v10), Aa, F⟩
 refine Ms tk 8 [1, 0] W F (ai (ai fun a w W F => ?_))
 refine ls W F Aa (Cg (v := Value.agg #[.int .i64 p0.1, v1, v2, v3, v4, v5, v6, .int .i64 p3.2.2.1, .int .i64 p3.2.2.2.1, .int .i64 p3.2.2.2.2.1, .int .i64 p3.2.2.2.2.2]) aG W Aa (Bb Aa Aa Aa (Bb Aa (BM h_v3.one) Aa (Bb Aa (BM h_v4.one) Aa (Bb Aa Aa Aa Eo)))) Aa).q fun a w W F => ?_
 refine B8 (cs := [.int .i64 0, .slice none 0 0, .slice none 0 0, .slice none 0 0, .slice none 0 0, .slice none 0 0, .slice none 0 0, .int .i64 0, .int .i64 0, .int .i64 0, .int .i64 0]) W F Aa bE Aa fun b3 a w W F => ?_
 refine Ey 0 W F Aa Aa Aa WF Aa Aa (AV Aa (AV h_v1.one (AV h_v2.one (AV h_v3.one (AV h_v4.one (AV h_v5.one (AV h_v6.one (AV Aa (AV Aa (AV Aa (AV Aa Fp))))))))))) fun w F => ?_
 refine BR tk 3 W F fun a w W F => ?_
 refine ER [(true, 0), (true, 2), (true, 4), (true, 6), (false, 1), (false, 3), (false, 5), (false, 7), (false, 8), (false, 9), (false, 10)] (CN ⟨Y, [], w0⟩ [(some 1, b3, [.int .i64 p0.1, v1, v2, v3, v4, v5, v6, .int .i64 p3.2.2.1, .int .i64 p3.2.2.2.1, .int .i64 p3.2.2.2.2.1, .int .i64 p3.2.2.2.2.2]), (some 3, b3, [.int .i64 p0.1, v1, v2, v3, v4, v5, v6, .int .i64 p3.2.2.1, .int .i64 p3.2.2.2.1, .int .i64 p3.2.2.2.2.1, .int .i64 p3.2.2.2.2.2]), (some 5, b3, [.int .i64 p0.1, v1, v2, v3, v4, v5, v6, .int .i64 p3.2.2.1, .int .i64 p3.2.2.2.1, .int .i64 p3.2.2.2.2.1, .int .i64 p3.2.2.2.2.2]), (some 7, b3, [.int .i64 p0.1, v1, v2, v3, v4, v5, v6, .int .i64 p3.2.2.1, .int .i64 p3.2.2.2.1, .int .i64 p3.2.2.2.2.1, .int .i64 p3.2.2.2.2.2])] []) (fun ch a d v w h => by cases d <;> exact h) MO (by kernel_rfl) F (fun w F => ⟨_, _, F, (all_cons (fun _ => (.head _)) (all_cons (fun _ => (.head _)) (all_cons (fun _ => (.head _)) (all_cons (fun _ => (.head _)) Ak)))), Ak⟩) fun w F => ?_
 refine A6 (R := [1]) W Aa Aa (yC fun M Z hN hZ => Fu (cs := (JY p0 v1 v2 v3 v4 v5 v6 p3)) (v := Value.agg #[.int .i64 p0.1, v1, v2, v3, v4, v5, v6, .int .i64 p3.2.2.1, .int .i64 p3.2.2.2.1, .int .i64 p3.2.2.2.2.1, .int .i64 p3.2.2.2.2.2]) W Aa (hN ((some 1), b3, (JY p0 v1 v2 v3 v4 v5 v6 p3)) (.head _) Aa) WF Aa) (by kernel_rfl) Aa fun a W => ?_
 refine A6 (R := [3]) W Aa Aa (yC fun M Z hN hZ => Fu (cs := (JY p0 v1 v2 v3 v4 v5 v6 p3)) (v := Value.agg #[.int .i64 p0.1, v1, v2, v3, v4, v5, v6, .int .i64 p3.2.2.1, .int .i64 p3.2.2.2.1, .int .i64 p3.2.2.2.2.1, .int .i64 p3.2.2.2.2.2]) W Aa (hN ((some 3), b3, (JY p0 v1 v2 v3 v4 v5 v6 p3)) (.tail _ (.head _)) Aa) WF Aa) (by kernel_rfl) Aa fun a W => ?_
 refine A6 (R := [5]) W Aa Aa (yC fun M Z hN hZ => Fu (cs := (JY p0 v1 v2 v3 v4 v5 v6 p3)) (v := Value.agg #[.int .i64 p0.1, v1, v2, v3, v4, v5, v6, .int .i64 p3.2.2.1, .int .i64 p3.2.2.2.1, .int .i64 p3.2.2.2.2.1, .int .i64 p3.2.2.2.2.2]) W Aa (hN ((some 5), b3, (JY p0 v1 v2 v3 v4 v5 v6 p3)) (.tail _ (.tail _ (.head _))) Aa) WF Aa) (by kernel_rfl) Aa fun a W => ?_
 refine A6 (R := [7]) W Aa Aa (yC fun M Z hN hZ => Fu (cs := (JY p0 v1 v2 v3 v4 v5 v6 p3)) (v := Value.agg #[.int .i64 p0.1, v1, v2, v3, v4, v5, v6, .int .i64 p3.2.2.1, .int .i64 p3.2.2.2.1, .int .i64 p3.2.2.2.2.1, .int .i64 p3.2.2.2.2.2]) W Aa (hN ((some 7), b3, (JY p0 v1 v2 v3 v4 v5 v6 p3)) (.tail _ (.tail _ (.tail _ (.head _)))) Aa) WF Aa) (by kernel_rfl) Aa fun a W => ?_
 refine F2 Aa ?_
 obtain ⟨x4, h6, H⟩ := Ac H
 refine A9 (Ml := []) (Zl := []) (β := Value) (rv := fun x => x) (MM := fun x => []) (ZZ := fun x => [row x 41 CJ x4]) W F bK Aa Aa (fun hL => J6 _ w (v1) (v2) (v3) (v4) (v5) (v6) (p0, p1, p2, p3) _ h6 ((Ad h_v1) w F).nx ((Ad h_v2) w F).nx ((AN CM h1 (Ad h_v3)) w F).nx ((AN CM h2 (Ad h_v4)) w F).nx ((Ad h_v5) w F).nx ((AN HF h3 (Ad h_v6)) w F).nx) fun x a w W F => ?_
 obtain ⟨v11, rfl⟩ : ∃ y, y = x := ⟨x, rfl⟩
 have F : Stw ⟨Y, [], w0⟩ [(b3, (JY p0 v1 v2 v3 v4 v5 v6 p3)), (b2, [v5, v6, .int .i64 p3.2.2.1, .int .i64 p3.2.2.2.1, .int .i64 p3.2.2.2.2.1, .int .i64 p3.2.2.2.2.2]), (b1, [.int .i64 p0.1, v1, v2])] [row v11 41 CJ x4] w := F
 refine Cm (N2 := []) (NZ2 := []) (N3 := [(some 1, b3, [.int .i64 p0.1, v1, v2, v3, v4, v5, v6, .int .i64 p3.2.2.1, .int .i64 p3.2.2.2.1, .int .i64 p3.2.2.2.2.1, .int .i64 p3.2.2.2.2.2]), (some 3, b3, [.int .i64 p0.1, v1, v2, v3, v4, v5, v6, .int .i64 p3.2.2.1, .int .i64 p3.2.2.2.1, .int .i64 p3.2.2.2.2.1, .int .i64 p3.2.2.2.2.2]), (some 5, b3, [.int .i64 p0.1, v1, v2, v3, v4, v5, v6, .int .i64 p3.2.2.1, .int .i64 p3.2.2.2.1, .int .i64 p3.2.2.2.2.1, .int .i64 p3.2.2.2.2.2]), (some 7, b3, [.int .i64 p0.1, v1, v2, v3, v4, v5, v6, .int .i64 p3.2.2.1, .int .i64 p3.2.2.2.1, .int .i64 p3.2.2.2.2.1, .int .i64 p3.2.2.2.2.2])]) (NZ3 := []) F Aa Aa (all_cons (fun h => AJ (by kernel_rfl) h) (all_cons (fun _ => (.head _)) (all_cons (fun _ => (.head _)) (all_cons (fun _ => (.head _)) Ak)))) Ak ?_
 refine F2 Aa ?_
 obtain ⟨x5, h7, H⟩ := Ac H
 refine A9 (Ml := []) (Zl := []) (β := Value) (rv := fun x => x) (MM := fun x => []) (ZZ := fun x => [row x 41 CJ x5]) W F ZE Aa Aa (fun hL => KE _ w (v1) (v2) (v3) (v4) (v5) (v6) (p0, p1, p2, p3) _ h7 ((Ad h_v1) w F).nx ((Ad h_v2) w F).nx ((AN CM h1 (Ad h_v3)) w F).nx ((AN CM h2 (Ad h_v4)) w F).nx ((Ad h_v5) w F).nx ((AN HF h3 (Ad h_v6)) w F).nx) fun x a w W F => ?_
 obtain ⟨v12, rfl⟩ : ∃ y, y = x := ⟨x, rfl⟩
 have F : Stw ⟨Y, [], w0⟩ [(b3, (JY p0 v1 v2 v3 v4 v5 v6 p3)), (b2, [v5, v6, .int .i64 p3.2.2.1, .int .i64 p3.2.2.2.1, .int .i64 p3.2.2.2.2.1, .int .i64 p3.2.2.2.2.2]), (b1, [.int .i64 p0.1, v1, v2])] [row v12 41 CJ x5, row v11 41 CJ x4] w := F
 refine Cm (N2 := []) (NZ2 := []) (N3 := [(some 1, b3, [.int .i64 p0.1, v1, v2, v3, v4, v5, v6, .int .i64 p3.2.2.1, .int .i64 p3.2.2.2.1, .int .i64 p3.2.2.2.2.1, .int .i64 p3.2.2.2.2.2]), (some 3, b3, [.int .i64 p0.1, v1, v2, v3, v4, v5, v6, .int .i64 p3.2.2.1, .int .i64 p3.2.2.2.1, .int .i64 p3.2.2.2.2.1, .int .i64 p3.2.2.2.2.2]), (some 5, b3, [.int .i64 p0.1, v1, v2, v3, v4, v5, v6, .int .i64 p3.2.2.1, .int .i64 p3.2.2.2.1, .int .i64 p3.2.2.2.2.1, .int .i64 p3.2.2.2.2.2]), (some 7, b3, [.int .i64 p0.1, v1, v2, v3, v4, v5, v6, .int .i64 p3.2.2.1, .int .i64 p3.2.2.2.1, .int .i64 p3.2.2.2.2.1, .int .i64 p3.2.2.2.2.2])]) (NZ3 := []) F Aa Aa (all_cons (fun h => AJ (by kernel_rfl) h) (all_cons (fun h => AJ (by kernel_rfl) h) (all_cons (fun _ => (.head _)) (all_cons (fun _ => (.head _)) Ak)))) Ak ?_
 refine F2 Aa ?_
 obtain ⟨x6, h8, H⟩ := Ac H
 refine A9 (Ml := []) (Zl := []) (β := Value) (rv := fun x => x) (MM := fun x => []) (ZZ := fun x => [row x 41 CJ x6]) W F bS Aa Aa (fun hL => KQ _ w (v1) (v2) (v3) (v4) (v5) (v6) (p0, p1, p2, p3) _ h8 ((Ad h_v1) w F).nx ((Ad h_v2) w F).nx ((AN CM h1 (Ad h_v3)) w F).nx ((AN CM h2 (Ad h_v4)) w F).nx ((Ad h_v5) w F).nx ((AN HF h3 (Ad h_v6)) w F).nx) fun x a w W F => ?_
 obtain ⟨v13, rfl⟩ : ∃ y, y = x := ⟨x, rfl⟩
 have F : Stw ⟨Y, [], w0⟩ [(b3, (JY p0 v1 v2 v3 v4 v5 v6 p3)), (b2, [v5, v6, .int .i64 p3.2.2.1, .int .i64 p3.2.2.2.1, .int .i64 p3.2.2.2.2.1, .int .i64 p3.2.2.2.2.2]), (b1, [.int .i64 p0.1, v1, v2])] [row v13 41 CJ x6, row v12 41 CJ x5, row v11 41 CJ x4] w := F
 refine Cm (N2 := []) (NZ2 := []) (N3 := [(some 1, b3, [.int .i64 p0.1, v1, v2, v3, v4, v5, v6, .int .i64 p3.2.2.1, .int .i64 p3.2.2.2.1, .int .i64 p3.2.2.2.2.1, .int .i64 p3.2.2.2.2.2]), (some 3, b3, [.int .i64 p0.1, v1, v2, v3, v4, v5, v6, .int .i64 p3.2.2.1, .int .i64 p3.2.2.2.1, .int .i64 p3.2.2.2.2.1, .int .i64 p3.2.2.2.2.2]), (some 5, b3, [.int .i64 p0.1, v1, v2, v3, v4, v5, v6, .int .i64 p3.2.2.1, .int .i64 p3.2.2.2.1, .int .i64 p3.2.2.2.2.1, .int .i64 p3.2.2.2.2.2]), (some 7, b3, [.int .i64 p0.1, v1, v2, v3, v4, v5, v6, .int .i64 p3.2.2.1, .int .i64 p3.2.2.2.1, .int .i64 p3.2.2.2.2.1, .int .i64 p3.2.2.2.2.2])]) (NZ3 := []) F Aa Aa (all_cons (fun h => AJ (by kernel_rfl) h) (all_cons (fun h => AJ (by kernel_rfl) h) (all_cons (fun h => AJ (by kernel_rfl) h) (all_cons (fun _ => (.head _)) Ak)))) Ak ?_
 refine F2 Aa ?_
 obtain ⟨x7, h9, H⟩ := Ac H
 refine A9 (Ml := []) (Zl := []) (β := Value) (rv := fun x => x) (MM := fun x => []) (ZZ := fun x => [row x 41 CJ x7]) W F ZR Aa Aa (fun hL => JW _ w (v1) (v2) (v3) (v4) (v5) (v6) (p0, p1, p2, p3) _ h9 ((Ad h_v1) w F).nx ((Ad h_v2) w F).nx (Sl.hide CM h1 (F.old s_v3)) ((AN CM h2 (Ad h_v4)) w F).nx ((Ad h_v5) w F).nx ((AN HF h3 (Ad h_v6)) w F).nx) fun x a w W F => ?_
 obtain ⟨v14, rfl⟩ : ∃ y, y = x := ⟨x, rfl⟩
 have F : Stw ⟨Y, [], w0⟩ [(b3, (JY p0 v1 v2 v3 v4 v5 v6 p3)), (b2, [v5, v6, .int .i64 p3.2.2.1, .int .i64 p3.2.2.2.1, .int .i64 p3.2.2.2.2.1, .int .i64 p3.2.2.2.2.2]), (b1, [.int .i64 p0.1, v1, v2])] [row v14 41 CJ x7, row v13 41 CJ x6, row v12 41 CJ x5, row v11 41 CJ x4] w := F
 refine Cm (N2 := []) (NZ2 := []) (N3 := [(some 1, b3, [.int .i64 p0.1, v1, v2, v3, v4, v5, v6, .int .i64 p3.2.2.1, .int .i64 p3.2.2.2.1, .int .i64 p3.2.2.2.2.1, .int .i64 p3.2.2.2.2.2]), (some 3, b3, [.int .i64 p0.1, v1, v2, v3, v4, v5, v6, .int .i64 p3.2.2.1, .int .i64 p3.2.2.2.1, .int .i64 p3.2.2.2.2.1, .int .i64 p3.2.2.2.2.2]), (some 5, b3, [.int .i64 p0.1, v1, v2, v3, v4, v5, v6, .int .i64 p3.2.2.1, .int .i64 p3.2.2.2.1, .int .i64 p3.2.2.2.2.1, .int .i64 p3.2.2.2.2.2]), (some 7, b3, [.int .i64 p0.1, v1, v2, v3, v4, v5, v6, .int .i64 p3.2.2.1, .int .i64 p3.2.2.2.1, .int .i64 p3.2.2.2.2.1, .int .i64 p3.2.2.2.2.2])]) (NZ3 := []) F Aa Aa (all_cons (fun h => AJ (by kernel_rfl) h) (all_cons (fun h => AJ (by kernel_rfl) h) (all_cons (fun h => AJ (by kernel_rfl) h) (all_cons (fun h => AJ (by kernel_rfl) h) Ak)))) Ak ?_
 refine F2 Aa ?_
 have F := F.frontZ (i := 3) Aa Aa
 have F := F.freeze
 have F := F.frontZ (i := 3) Aa Aa
 have F := F.freeze
 have F := F.frontZ (i := 3) Aa Aa
 have F := F.freeze
 have F := F.frontZ (i := 3) Aa Aa
 have F := F.freeze
 refine D6 (z := Value.slice none 0 0) (cs := [v11, v12, v13, v14]) (Rp.slice CJ) ([x4, x5, x6, x7] : List (List (Int × Int × Int))) W F Aa Y7 aD Aa Aa Aa (Bb Aa (BM (F.oneF (k := 3) Aa)) Aa (Bb Aa (BM (F.oneF (k := 2) Aa)) Aa (Bb Aa (BM (F.oneF (k := 1) Aa)) Aa (Bb Aa (BM (F.oneF (k := 0) Aa)) Aa Eo)))) Aa Aa ⟨[v11], _, Aa, ⟨_, Aa, (F.item (i := 3) Aa)⟩, ⟨[v12], _, Aa, ⟨_, Aa, (F.item (i := 2) Aa)⟩, ⟨[v13], _, Aa, ⟨_, Aa, (F.item (i := 1) Aa)⟩, ⟨[v14], _, Aa, ⟨_, Aa, (F.item (i := 0) Aa)⟩, Aa⟩⟩⟩⟩ fun v15 a w W F => ?_
 refine Cm (N2 := []) (NZ2 := []) (N3 := [(some 1, b3, [.int .i64 p0.1, v1, v2, v3, v4, v5, v6, .int .i64 p3.2.2.1, .int .i64 p3.2.2.2.1, .int .i64 p3.2.2.2.2.1, .int .i64 p3.2.2.2.2.2]), (some 3, b3, [.int .i64 p0.1, v1, v2, v3, v4, v5, v6, .int .i64 p3.2.2.1, .int .i64 p3.2.2.2.1, .int .i64 p3.2.2.2.2.1, .int .i64 p3.2.2.2.2.2]), (some 5, b3, [.int .i64 p0.1, v1, v2, v3, v4, v5, v6, .int .i64 p3.2.2.1, .int .i64 p3.2.2.2.1, .int .i64 p3.2.2.2.2.1, .int .i64 p3.2.2.2.2.2]), (some 7, b3, [.int .i64 p0.1, v1, v2, v3, v4, v5, v6, .int .i64 p3.2.2.1, .int .i64 p3.2.2.2.1, .int .i64 p3.2.2.2.2.1, .int .i64 p3.2.2.2.2.2])]) (NZ3 := []) F Aa Aa (all_cons (fun h => AJ (by kernel_rfl) h) (all_cons (fun h => AJ (by kernel_rfl) h) (all_cons (fun h => AJ (by kernel_rfl) h) (all_cons (fun h => AJ (by kernel_rfl) h) Ak)))) Ak ?_
 refine F2 Aa ?_
 obtain ⟨x8, h10, H⟩ := Ac H
 have F := F.freeze
 refine A9 (Ml := []) (Zl := []) (β := Value) (rv := fun x => x) (MM := fun x => []) (ZZ := fun x => [row x 41 CJ x8]) W F ZK Aa Aa (fun hL => FM _ w (v15) ([x4, x5, x6, x7] : List (List (Int × Int × Int))) _ h10 (F.item (i := 0) Aa)) fun x a w W F => ?_
 obtain ⟨v16, rfl⟩ : ∃ y, y = x := ⟨x, rfl⟩
 have F : Stw ⟨Y, [], w0⟩ [(b3, (JY p0 v1 v2 v3 v4 v5 v6 p3)), (b2, [v5, v6, .int .i64 p3.2.2.1, .int .i64 p3.2.2.2.1, .int .i64 p3.2.2.2.2.1, .int .i64 p3.2.2.2.2.2]), (b1, [.int .i64 p0.1, v1, v2])] [row v16 41 CJ x8, LO v15 (Rp.slice CJ) ([x4, x5, x6, x7] : List (List (Int × Int × Int))), LO v14 CJ x7, LO v13 CJ x6, LO v12 CJ x5, LO v11 CJ x4] w := F
 refine Cm (N2 := []) (NZ2 := []) (N3 := [(some 1, b3, [.int .i64 p0.1, v1, v2, v3, v4, v5, v6, .int .i64 p3.2.2.1, .int .i64 p3.2.2.2.1, .int .i64 p3.2.2.2.2.1, .int .i64 p3.2.2.2.2.2]), (some 3, b3, [.int .i64 p0.1, v1, v2, v3, v4, v5, v6, .int .i64 p3.2.2.1, .int .i64 p3.2.2.2.1, .int .i64 p3.2.2.2.2.1, .int .i64 p3.2.2.2.2.2]), (some 5, b3, [.int .i64 p0.1, v1, v2, v3, v4, v5, v6, .int .i64 p3.2.2.1, .int .i64 p3.2.2.2.1, .int .i64 p3.2.2.2.2.1, .int .i64 p3.2.2.2.2.2]), (some 7, b3, [.int .i64 p0.1, v1, v2, v3, v4, v5, v6, .int .i64 p3.2.2.1, .int .i64 p3.2.2.2.1, .int .i64 p3.2.2.2.2.1, .int .i64 p3.2.2.2.2.2])]) (NZ3 := []) F Aa Aa (all_cons (fun h => AJ (by kernel_rfl) h) (all_cons (fun h => AJ (by kernel_rfl) h) (all_cons (fun h => AJ (by kernel_rfl) h) (all_cons (fun h => AJ (by kernel_rfl) h) Ak)))) Ak ?_
 refine F2 Aa ?_
 refine ls W F Aa (Dn W Aa).q fun a w W F => ?_
 refine Cm (N2 := []) (NZ2 := []) (N3 := [(some 1, b3, [.int .i64 p0.1, v1, v2, v3, v4, v5, v6, .int .i64 p3.2.2.1, .int .i64 p3.2.2.2.1, .int .i64 p3.2.2.2.2.1, .int .i64 p3.2.2.2.2.2]), (some 3, b3, [.int .i64 p0.1, v1, v2, v3, v4, v5, v6, .int .i64 p3.2.2.1, .int .i64 p3.2.2.2.1, .int .i64 p3.2.2.2.2.1, .int .i64 p3.2.2.2.2.2]), (some 5, b3, [.int .i64 p0.1, v1, v2, v3, v4, v5, v6, .int .i64 p3.2.2.1, .int .i64 p3.2.2.2.1, .int .i64 p3.2.2.2.2.1, .int .i64 p3.2.2.2.2.2]), (some 7, b3, [.int .i64 p0.1, v1, v2, v3, v4, v5, v6, .int .i64 p3.2.2.1, .int .i64 p3.2.2.2.1, .int .i64 p3.2.2.2.2.1, .int .i64 p3.2.2.2.2.2])]) (NZ3 := []) F Aa Aa (all_cons (fun h => AJ (by kernel_rfl) h) (all_cons (fun h => AJ (by kernel_rfl) h) (all_cons (fun h => AJ (by kernel_rfl) h) (all_cons (fun h => AJ (by kernel_rfl) h) Ak)))) Ak ?_
 refine Hg (Ab (Ao ?_))
 have H := Ax H
 subst H
 refine A1 (.inl Aa) W F Aa (Am W Aa) ?_
 have F := F.sub (M' := []) (Z' := [row v16 41 CJ x8]) (List.nil_sublist _) (List.Sublist.cons_cons _ (List.nil_sublist _))
 exact ⟨(v16), Aa, F⟩
theorem H8 : Has Tryz.prog 8 := Cu Tryz.func8
theorem Z6 : Ty Tryz.prog 41 true 3 := ⟨by kernel_rfl, by kernel_rfl⟩
theorem Y3 (dd : Nat) (x0 : Int) (x1 : Int) (x2 : Int) (y0 : Int) (y1 : Int) (y2 : Int) (w : World) : (Op.equalIn (dd + 2) 41 (.agg #[.int .i64 x0, .int .i64 x1, .int .i64 x2]) (.agg #[.int .i64 y0, .int .i64 y1, .int .i64 y2])).run Tryz.prog w = .ok (decide (x0 = y0 ∧ x1 = y1 ∧ x2 = y2)) w :=
  MQ (d := dd + 1) (rs := [decide (x0 = y0), decide (x1 = y1), decide (x2 = y2)]) Xc (by kernel_rfl) ⟨rfl, Kg (d := dd + 0) rfl rfl QW T3 rfl rfl, rfl, Kg (d := dd + 0) rfl rfl QW T3 rfl rfl, rfl, Kg (d := dd + 0) rfl rfl QW T3 rfl rfl, trivial⟩ (by simp) w
theorem bA : Tryz.prog.eqGuardType Tryz.prog.depth 41 = false := by kernel_rfl
theorem bC (x0 : Int) (x1 : Int) (x2 : Int) (y0 : Int) (y1 : Int) (y2 : Int) (w : World) : (Op.equalIn 10000 41 (.agg #[.int .i64 x0, .int .i64 x1, .int .i64 x2]) (.agg #[.int .i64 y0, .int .i64 y1, .int .i64 y2])).run Tryz.prog w = .ok (decide (x0 = y0 ∧ x1 = y1 ∧ x2 = y2)) w := Y3 9998 x0 x1 x2 y0 y1 y2 w
def GZ (p0 : Int) : List UInt8 := (if p0 = 1 then ([119, 114, 111, 110, 103] : List UInt8) else (if p0 = 2 then ([109, 105, 115, 115, 105, 110, 103] : List UInt8) else (if p0 = 3 then ([101, 120, 116, 114, 97] : List UInt8) else (if p0 = 4 then ([99, 108, 111, 115, 101] : List UInt8) else (if p0 = 5 then ([104, 111, 108, 101] : List UInt8) else (if p0 = 6 then ([108, 111, 111, 112] : List UInt8) else ([63] : List UInt8)))))))
theorem PN (Y : Nat → Prop) (w0 : World)  (p0 : Int) (r : List UInt8) (H : GZ p0 = r)  :
    Calls Tryz.prog 9 #[.int .i64 p0] w0 fun e w' => e = .returned (.string (bs r)) ∧ Below w0.heap.size w0 w' := by
 refine enter Tryz.func9 Aa Tryz.ntmps9 Aa fun a W => ?_
 have F := Stw.start Y w0
 unfold GZ at H
 refine vc tk 2 W F fun a w W F => ?_
 refine ls W F Aa (Dn (v := Value.string (bs ([] : List UInt8))) W Aa).q fun a w W F => ?_
 refine BR tk 15 W F fun a w W F => ?_
 refine Gu W Aa (fun hb => ?_) fun hb => ?_
 ·
  have H := D0 (Fm hb) H
  rw [hb] at W
  clear hb
  refine vc tk 2 W F fun a w W F => ?_
  refine ls W F Aa (Dn (v := Value.string (bs ([119, 114, 111, 110, 103] : List UInt8))) W Aa).q fun a w W F => ?_
  refine BR tk 2 W F fun a w W F => ?_
  refine Ao (AW (AE ?_))
  subst H
  refine A1 (.inl Aa) W F Aa (Am W Aa) ?_
  exact ⟨rfl, F.done⟩
 have H := DZ (Fo hb) H
 rw [hb] at W
 clear hb
 refine vc tk 6 W F fun a w W F => ?_
 refine Gu W Aa (fun hb => ?_) fun hb => ?_
 ·
  have H := D0 (Fm hb) H
  rw [hb] at W
  clear hb
  refine vc tk 2 W F fun a w W F => ?_
  refine ls W F Aa (Dn (v := Value.string (bs ([109, 105, 115, 115, 105, 110, 103] : List UInt8))) W Aa).q fun a w W F => ?_
  refine BR tk 2 W F fun a w W F => ?_
  refine Ao (AW (AE ?_))
  subst H
  refine A1 (.inl Aa) W F Aa (Am W Aa) ?_
  exact ⟨rfl, F.done⟩
 have H := DZ (Fo hb) H
 rw [hb] at W
 clear hb
 refine vc tk 6 W F fun a w W F => ?_
 refine Gu W Aa (fun hb => ?_) fun hb => ?_
 ·
  have H := D0 (Fm hb) H
  rw [hb] at W
  clear hb
  refine vc tk 2 W F fun a w W F => ?_
  refine ls W F Aa (Dn (v := Value.string (bs ([101, 120, 116, 114, 97] : List UInt8))) W Aa).q fun a w W F => ?_
  refine BR tk 2 W F fun a w W F => ?_
  refine Ao (AW (AE ?_))
  subst H
  refine A1 (.inl Aa) W F Aa (Am W Aa) ?_
  exact ⟨rfl, F.done⟩
 have H := DZ (Fo hb) H
 rw [hb] at W
 clear hb
 refine vc tk 6 W F fun a w W F => ?_
 refine Gu W Aa (fun hb => ?_) fun hb => ?_
 ·
  have H := D0 (Fm hb) H
  rw [hb] at W
  clear hb
  refine vc tk 2 W F fun a w W F => ?_
  refine ls W F Aa (Dn (v := Value.string (bs ([99, 108, 111, 115, 101] : List UInt8))) W Aa).q fun a w W F => ?_
  refine BR tk 2 W F fun a w W F => ?_
  refine Ao (AW (AE ?_))
  subst H
  refine A1 (.inl Aa) W F Aa (Am W Aa) ?_
  exact ⟨rfl, F.done⟩
 have H := DZ (Fo hb) H
 rw [hb] at W
 clear hb
 refine vc tk 6 W F fun a w W F => ?_
 refine Gu W Aa (fun hb => ?_) fun hb => ?_
 ·
  have H := D0 (Fm hb) H
  rw [hb] at W
  clear hb
  refine vc tk 2 W F fun a w W F => ?_
  refine ls W F Aa (Dn (v := Value.string (bs ([104, 111, 108, 101] : List UInt8))) W Aa).q fun a w W F => ?_
  refine BR tk 2 W F fun a w W F => ?_
  refine Ao (AW (AE ?_))
  subst H
  refine A1 (.inl Aa) W F Aa (Am W Aa) ?_
  exact ⟨rfl, F.done⟩
 have H := DZ (Fo hb) H
 rw [hb] at W
 clear hb
 refine vc tk 6 W F fun a w W F => ?_
 refine Gu W Aa (fun hb => ?_) fun hb => ?_
 ·
  have H := D0 (Fm hb) H
  rw [hb] at W
  clear hb
  refine vc tk 2 W F fun a w W F => ?_
  refine ls W F Aa (Dn (v := Value.string (bs ([108, 111, 111, 112] : List UInt8))) W Aa).q fun a w W F => ?_
  refine BR tk 2 W F fun a w W F => ?_
  refine Ao (AW (AE ?_))
  subst H
  refine A1 (.inl Aa) W F Aa (Am W Aa) ?_
  exact ⟨rfl, F.done⟩
 have H := DZ (Fo hb) H
 rw [hb] at W
 clear hb
 refine AB (Aw ?_)
 refine vn tk 2 W F fun a w W F => ?_
 refine ls W F Aa (Dn (v := Value.string (bs ([63] : List UInt8))) W Aa).q fun a w W F => ?_
 refine BR tk 2 W F fun a w W F => ?_
 refine Ao ?_
 subst H
 refine A1 (.inl Aa) W F Aa (Am W Aa) ?_
 exact ⟨rfl, F.done⟩
theorem H9 : Has Tryz.prog 9 := Cu Tryz.func9
noncomputable def Hl  : Option Bool := (ED (3, ([(0, 0, 1, 0, 1, 1), (1, 1, 2, 0, 1, 1), (0, 1, 2, 1, 1, 1)] : List (Int × Int × Int × Int × Int × Int)), ([(2, 7)] : List (Int × Int))) ([([0] : List Int), ([1] : List Int), ([7] : List Int)] : List (List Int)) ([([1] : List Int), ([1] : List Int), ([7] : List Int)] : List (List Int)) (([] : List (Int × Int × Int × Int)), ([] : List (Int × Int × List Int)), 0, 0, 0, 0)).bind fun x1 => (if (x1.length : Int) = 1 then (ix x1 0).bind fun x3 => (if x3.1 = 2 ∧ x3.2.1 = 0 ∧ x3.2.2 = 0 then (if (GZ 6) = ([108, 111, 111, 112] : List UInt8) then (ED (0, ([] : List (Int × Int × Int × Int × Int × Int)), ([] : List (Int × Int))) ([] : List (List Int)) ([] : List (List Int)) (([] : List (Int × Int × Int × Int)), ([] : List (Int × Int × List Int)), 0, 0, 0, 0)).bind fun x4 => some (decide ((x4.length : Int) = 1)) else some false) else some false) else some false).bind fun x2 => some x2
theorem KW (Y : Nat → Prop) (w0 : World)   (r : Bool) (H : Hl  = some r)  :
    Calls Tryz.prog 6 #[] w0 fun e w' => e = .returned (.bool r) ∧ Below w0.heap.size w0 w' := by
 refine enter Tryz.func6 Aa Tryz.ntmps6 Aa fun a W => ?_
 have F := Stw.start Y w0
 unfold Hl at H
 refine vc tk 7 W F fun a w W F => ?_
 refine ls W F Aa (Cg (v := Value.agg #[.int .i64 0, .int .i64 0, .int .i64 1, .int .i64 0, .int .i64 1, .int .i64 1]) YN W Aa Aa Aa).q fun a w W F => ?_
 refine ls W F Aa (Cg (v := Value.agg #[.int .i64 1, .int .i64 1, .int .i64 2, .int .i64 0, .int .i64 1, .int .i64 1]) YN W Aa Aa Aa).q fun a w W F => ?_
 refine ls W F Aa (Cg (v := Value.agg #[.int .i64 0, .int .i64 1, .int .i64 2, .int .i64 1, .int .i64 1, .int .i64 1]) YN W Aa Aa Aa).q fun a w W F => ?_
 refine D6 (z := Value.agg #[.int .i64 0, .int .i64 0, .int .i64 0, .int .i64 0, .int .i64 0, .int .i64 0]) (cs := [.int .i64 0, .int .i64 0, .int .i64 1, .int .i64 0, .int .i64 1, .int .i64 1, .int .i64 1, .int .i64 1, .int .i64 2, .int .i64 0, .int .i64 1, .int .i64 1, .int .i64 0, .int .i64 1, .int .i64 2, .int .i64 1, .int .i64 1, .int .i64 1]) IG ([(0, 0, 1, 0, 1, 1), (1, 1, 2, 0, 1, 1), (0, 1, 2, 1, 1, 1)] : List (Int × Int × Int × Int × Int × Int)) W F Aa Xg Yj Aa Aa Aa Aa Aa Aa (X1.repL _ _ ([(0, 0, 1, 0, 1, 1), (1, 1, 2, 0, 1, 1), (0, 1, 2, 1, 1, 1)] : List (Int × Int × Int × Int × Int × Int))) fun v1 a w W F => ?_
 refine ls W F Aa (Cg (v := Value.agg #[.int .i64 2, .int .i64 7]) Zr W Aa Aa Aa).q fun a w W F => ?_
 refine D6 (z := Value.agg #[.int .i64 0, .int .i64 0]) (cs := [.int .i64 2, .int .i64 7]) IB ([(2, 7)] : List (Int × Int)) W F Aa YZ Zh Aa Aa Aa Aa Aa Aa (Yu.repL _ _ ([(2, 7)] : List (Int × Int))) fun v2 a w W F => ?_
 refine ls W F Aa (Cg (v := Value.agg #[.int .i64 3, v1, v2]) Za W Aa (Bb Aa Aa Aa (Bb Aa (BM (F.one (k := 1) Aa)) Aa (Bb Aa (BM (F.one (k := 0) Aa)) Aa Eo))) Aa).q fun a w W F => ?_
 refine B8 (cs := [.int .i64 0, .slice none 0 0, .slice none 0 0]) W F Aa aF Aa fun b1 a w W F => ?_
 refine Ey 0 W F Aa Aa Aa Ye Aa Aa (AV Aa (AV (F.one (k := 1) Aa) (AV (F.one (k := 0) Aa) Fp))) fun w F => ?_
 refine JG tk 5 [0] W F (ai fun a w W F => ?_)
 refine D6 (z := Value.int .i64 0) (cs := [.int .i64 0]) (Rp.int .i64) ([0] : List Int) W F Aa EJ Z3 Aa Aa Aa Aa Aa Aa (Fl.int.repL _ _ ([0] : List Int)) fun v3 a w W F => ?_
 refine D6 (z := Value.int .i64 0) (cs := [.int .i64 1]) (Rp.int .i64) ([1] : List Int) W F Aa EJ Z3 Aa Aa Aa Aa Aa Aa (Fl.int.repL _ _ ([1] : List Int)) fun v4 a w W F => ?_
 refine D6 (z := Value.int .i64 0) (cs := [.int .i64 7]) (Rp.int .i64) ([7] : List Int) W F Aa EJ Z3 Aa Aa Aa Aa Aa Aa (Fl.int.repL _ _ ([7] : List Int)) fun v5 a w W F => ?_
 have F := F.frontZ (i := 2) Aa Aa
 have F := F.freeze
 have F := F.frontZ (i := 2) Aa Aa
 have F := F.freeze
 have F := F.frontZ (i := 2) Aa Aa
 have F := F.freeze
 refine D6 (z := Value.slice none 0 0) (cs := [v3, v4, v5]) (Rp.slice (Rp.int .i64)) ([([0] : List Int), ([1] : List Int), ([7] : List Int)] : List (List Int)) W F Aa Ps Yg Aa Aa Aa (Bb Aa (BM (F.oneF (k := 2) Aa)) Aa (Bb Aa (BM (F.oneF (k := 1) Aa)) Aa (Bb Aa (BM (F.oneF (k := 0) Aa)) Aa Eo))) Aa Aa ⟨[v3], _, Aa, ⟨_, Aa, (F.item (i := 2) Aa)⟩, ⟨[v4], _, Aa, ⟨_, Aa, (F.item (i := 1) Aa)⟩, ⟨[v5], _, Aa, ⟨_, Aa, (F.item (i := 0) Aa)⟩, Aa⟩⟩⟩ fun v6 a w W F => ?_
 refine D6 (z := Value.int .i64 0) (cs := [.int .i64 1]) (Rp.int .i64) ([1] : List Int) W F Aa EJ Z3 Aa Aa Aa Aa Aa Aa (Fl.int.repL _ _ ([1] : List Int)) fun v7 a w W F => ?_
 refine D6 (z := Value.int .i64 0) (cs := [.int .i64 1]) (Rp.int .i64) ([1] : List Int) W F Aa EJ Z3 Aa Aa Aa Aa Aa Aa (Fl.int.repL _ _ ([1] : List Int)) fun v8 a w W F => ?_
 refine D6 (z := Value.int .i64 0) (cs := [.int .i64 7]) (Rp.int .i64) ([7] : List Int) W F Aa EJ Z3 Aa Aa Aa Aa Aa Aa (Fl.int.repL _ _ ([7] : List Int)) fun v9 a w W F => ?_
 have F := F.frontZ (i := 2) Aa Aa
 have F := F.freeze
 have F := F.frontZ (i := 2) Aa Aa
 have F := F.freeze
 have F := F.frontZ (i := 2) Aa Aa
 have F := F.freeze
 refine D6 (z := Value.slice none 0 0) (cs := [v7, v8, v9]) (Rp.slice (Rp.int .i64)) ([([1] : List Int), ([1] : List Int), ([7] : List Int)] : List (List Int)) W F Aa Ps Yg Aa Aa Aa (Bb Aa (BM (F.oneF (k := 2) Aa)) Aa (Bb Aa (BM (F.oneF (k := 1) Aa)) Aa (Bb Aa (BM (F.oneF (k := 0) Aa)) Aa Eo))) Aa Aa ⟨[v7], _, Aa, ⟨_, Aa, (F.item (i := 2) Aa)⟩, ⟨[v8], _, Aa, ⟨_, Aa, (F.item (i := 1) Aa)⟩, ⟨[v9], _, Aa, ⟨_, Aa, (F.item (i := 0) Aa)⟩, Aa⟩⟩⟩ fun v10 a w W F => ?_
 refine ls W F Aa (Cg (v := Value.agg #[.slice none 0 0, .slice none 0 0, .int .i64 0, .int .i64 0, .int .i64 0, .int .i64 0]) WV W Aa Aa Aa).q fun a w W F => ?_
 obtain ⟨x1, h1, H⟩ := Ac H
 have F := F.frontZ (i := 4) Aa Aa
 have F := F.freeze
 refine A9 (Ml := []) (Zl := []) (β := Value) (rv := fun x => x) (MM := fun x => []) (ZZ := fun x => [row x 41 CJ x1]) W F H8 Aa Aa (fun hL => JE _ w (v1) (v2) (v6) (v10) (Value.slice none 0 0) (Value.slice none 0 0) (3, ([(0, 0, 1, 0, 1, 1), (1, 1, 2, 0, 1, 1), (0, 1, 2, 1, 1, 1)] : List (Int × Int × Int × Int × Int × Int)), ([(2, 7)] : List (Int × Int))) ([([0] : List Int), ([1] : List Int), ([7] : List Int)] : List (List Int)) ([([1] : List Int), ([1] : List Int), ([7] : List Int)] : List (List Int)) (([] : List (Int × Int × Int × Int)), ([] : List (Int × Int × List Int)), 0, 0, 0, 0) _ h1 ((Af 9 Aa) w F).nx ((Af 8 Aa) w F).nx (F.item (i := 0) Aa) ((Af 1 Aa) w F).nx Sl.nil Sl.nil) fun x a w W F => ?_
 obtain ⟨v11, rfl⟩ : ∃ y, y = x := ⟨x, rfl⟩
 have F : Stw ⟨Y, [], w0⟩ [(b1, [.int .i64 3, v1, v2])] [row v11 41 CJ x1, LO v6 (Rp.slice (Rp.int .i64)) ([([0] : List Int), ([1] : List Int), ([7] : List Int)] : List (List Int)), row v10 44 (Rp.slice (Rp.int .i64)) ([([1] : List Int), ([1] : List Int), ([7] : List Int)] : List (List Int)), LO v9 (Rp.int .i64) ([7] : List Int), LO v8 (Rp.int .i64) ([1] : List Int), LO v7 (Rp.int .i64) ([1] : List Int), LO v5 (Rp.int .i64) ([7] : List Int), LO v4 (Rp.int .i64) ([1] : List Int), LO v3 (Rp.int .i64) ([0] : List Int), row v2 51 IB ([(2, 7)] : List (Int × Int)), row v1 49 IG ([(0, 0, 1, 0, 1, 1), (1, 1, 2, 0, 1, 1), (0, 1, 2, 1, 1, 1)] : List (Int × Int × Int × Int × Int × Int))] w := F
 refine vl tk 2 W F fun a w W F => ?_
 refine Ab ?_
 obtain ⟨o1, G1, K1⟩ := Ac H
 refine Aq (fun a w => ∃ x2 : Bool, some (x2) = some o1 ∧ Fr 42 [] [(0, .bool x2)] a ∧ Stw ⟨Y, [], w0⟩ [(b1, [.int .i64 3, v1, v2])] [row v1 49 IG ([(0, 0, 1, 0, 1, 1), (1, 1, 2, 0, 1, 1), (0, 1, 2, 1, 1, 1)] : List (Int × Int × Int × Int × Int × Int)), row v2 51 IB ([(2, 7)] : List (Int × Int))] w) ?_ ?_
 ·
  have H := G1
  clear G1 K1
  refine vc tk 2 W F fun a w W F => ?_
  refine ls W F Aa (BS (r := CJ) (l := x1) Pf Aa W Aa (Af 0 Aa)).q fun a w W F => ?_
  refine vl tk 2 W F fun a w W F => ?_
  rcases Bool.eq_false_or_eq_true (decide ((x1.length : Int) = 1)) with hb | hb
  ·
   have H := D0 (Fm hb) H
   rw [hb] at W
   clear hb
   refine Hs W F (Ae W Aa Aa Aa Aa) Aa (As Aa) (Ai W Aa).q fun a w W F => ?_
   obtain ⟨x3, h2, H⟩ := Ac H
   refine Hs W F (Ae W Aa Aa Aa Aa) Aa (As Aa) (Al (r := CJ) Qf W Aa Aa (Af 0 Aa) h2).q fun a w W F => ?_
   refine Hs W F (Ae W Aa Aa Aa Aa) Aa (As Aa) (Ag (y := Value.agg #[.int .i64 x3.1, .int .i64 x3.2.1, .int .i64 x3.2.2]) (j := 0) (i := 0) W Aa Aa (Af 0 Aa) h2 VJ.to Z6 Aa).q fun a w W F => ?_
   refine Hs W F (Ae W Aa Aa Aa Aa) Aa (As Aa) (Cg (v := Value.agg #[.int .i64 2, .int .i64 0, .int .i64 0]) WH W Aa Aa Aa).q fun a w W F => ?_
   refine Hs W F (Ae W Aa Aa Aa Aa) Aa (As Aa) (RQ (t := decide (x3.1 = 2 ∧ x3.2.1 = 0 ∧ x3.2.2 = 0)) bA (bC _ _ _ _ _ _) W Aa Aa).q fun a w W F => ?_
   refine vl tk 2 W F fun a w W F => ?_
   rcases Bool.eq_false_or_eq_true (decide (x3.1 = 2 ∧ x3.2.1 = 0 ∧ x3.2.2 = 0)) with hb | hb
   ·
    have H := D0 (Fm hb) H
    rw [hb] at W
    clear hb
    refine MB (Ae W Aa Aa Aa Aa) ?_
    refine ls W F Aa (Be (v := Value.string (bs (GZ 6))) W H9 Aa (fun w F => PN any w 6 _ Aa)) fun a w W F => ?_
    refine Hs W F (Ae W Aa Aa Aa Aa) Aa (As Aa) (X4 (l := (GZ 6)) (m := ([108, 111, 111, 112] : List UInt8)) W Aa Aa).q fun a w W F => ?_
    refine vl tk 2 W F fun a w W F => ?_
    rcases Bool.eq_false_or_eq_true (decide ((GZ 6) = ([108, 111, 111, 112] : List UInt8))) with hb | hb
    ·
     have H := D0 (Fm hb) H
     rw [hb] at W
     clear hb
     refine Hs W F (Ae W Aa Aa Aa Aa) Aa (As Aa) (Cg (v := Value.agg #[.int .i64 0, .slice none 0 0, .slice none 0 0]) Za W Aa Aa Aa).q fun a w W F => ?_
     refine Hs W F (Ae W Aa Aa Aa Aa) Aa (As Aa) (Cg (v := Value.agg #[.slice none 0 0, .slice none 0 0, .int .i64 0, .int .i64 0, .int .i64 0, .int .i64 0]) WV W Aa Aa Aa).q fun a w W F => ?_
     refine MB (Ae W Aa Aa Aa Aa) ?_
     obtain ⟨x4, h3, H⟩ := Ac H
     refine A9 (Ml := []) (Zl := []) (β := Value) (rv := fun x => x) (MM := fun x => []) (ZZ := fun x => [row x 41 CJ x4]) W F H8 Aa Aa (fun hL => JE _ w (Value.slice none 0 0) (Value.slice none 0 0) (Value.slice none 0 0) (Value.slice none 0 0) (Value.slice none 0 0) (Value.slice none 0 0) (0, ([] : List (Int × Int × Int × Int × Int × Int)), ([] : List (Int × Int))) ([] : List (List Int)) ([] : List (List Int)) (([] : List (Int × Int × Int × Int)), ([] : List (Int × Int × List Int)), 0, 0, 0, 0) _ h3 Sl.nil Sl.nil Sl.nil Sl.nil Sl.nil Sl.nil) fun x a w W F => ?_
     obtain ⟨v12, rfl⟩ : ∃ y, y = x := ⟨x, rfl⟩
     have F : Stw ⟨Y, [], w0⟩ [(b1, [.int .i64 3, v1, v2])] [row v12 41 CJ x4, row v11 41 CJ x1, LO v6 (Rp.slice (Rp.int .i64)) ([([0] : List Int), ([1] : List Int), ([7] : List Int)] : List (List Int)), row v10 44 (Rp.slice (Rp.int .i64)) ([([1] : List Int), ([1] : List Int), ([7] : List Int)] : List (List Int)), LO v9 (Rp.int .i64) ([7] : List Int), LO v8 (Rp.int .i64) ([1] : List Int), LO v7 (Rp.int .i64) ([1] : List Int), LO v5 (Rp.int .i64) ([7] : List Int), LO v4 (Rp.int .i64) ([1] : List Int), LO v3 (Rp.int .i64) ([0] : List Int), row v2 51 IB ([(2, 7)] : List (Int × Int)), row v1 49 IG ([(0, 0, 1, 0, 1, 1), (1, 1, 2, 0, 1, 1), (0, 1, 2, 1, 1, 1)] : List (Int × Int × Int × Int × Int × Int))] w := F
     refine Hs W F (Ae W Aa Aa Aa Aa) Aa (As Aa) (BS (r := CJ) (l := x4) Pf Aa W Aa (Af 0 Aa)).q fun a w W F => ?_
     refine vl tk 4 W F fun a w W F => ?_
     refine Ab ?_
     have F := F.frontZ (i := 10) Aa Aa
     have F := F.frontZ (i := 11) Aa Aa
     have F := F.sub (M' := [(b1, [.int .i64 3, v1, v2])]) (Z' := [row v1 49 IG ([(0, 0, 1, 0, 1, 1), (1, 1, 2, 0, 1, 1), (0, 1, 2, 1, 1, 1)] : List (Int × Int × Int × Int × Int × Int)), row v2 51 IB ([(2, 7)] : List (Int × Int))]) (List.Sublist.refl _) (List.Sublist.cons_cons _ (List.Sublist.cons_cons _ (List.nil_sublist _)))
     exact ⟨_, H, W.ra Aa, F⟩
    have H := DZ (Fo hb) H
    rw [hb] at W
    clear hb
    refine vl tk 8 W F fun a w W F => ?_
    refine Ab ?_
    have F := F.frontZ (i := 9) Aa Aa
    have F := F.frontZ (i := 10) Aa Aa
    have F := F.sub (M' := [(b1, [.int .i64 3, v1, v2])]) (Z' := [row v1 49 IG ([(0, 0, 1, 0, 1, 1), (1, 1, 2, 0, 1, 1), (0, 1, 2, 1, 1, 1)] : List (Int × Int × Int × Int × Int × Int)), row v2 51 IB ([(2, 7)] : List (Int × Int))]) (List.Sublist.refl _) (List.Sublist.cons_cons _ (List.Sublist.cons_cons _ (List.nil_sublist _)))
    exact ⟨_, H, W.ra Aa, F⟩
   have H := DZ (Fo hb) H
   rw [hb] at W
   clear hb
   refine vl tk 12 W F fun a w W F => ?_
   refine Ab ?_
   have F := F.frontZ (i := 9) Aa Aa
   have F := F.frontZ (i := 10) Aa Aa
   have F := F.sub (M' := [(b1, [.int .i64 3, v1, v2])]) (Z' := [row v1 49 IG ([(0, 0, 1, 0, 1, 1), (1, 1, 2, 0, 1, 1), (0, 1, 2, 1, 1, 1)] : List (Int × Int × Int × Int × Int × Int)), row v2 51 IB ([(2, 7)] : List (Int × Int))]) (List.Sublist.refl _) (List.Sublist.cons_cons _ (List.Sublist.cons_cons _ (List.nil_sublist _)))
   exact ⟨_, H, W.ra Aa, F⟩
  have H := DZ (Fo hb) H
  rw [hb] at W
  clear hb
  refine vl tk 19 W F fun a w W F => ?_
  refine Ab ?_
  have F := F.frontZ (i := 9) Aa Aa
  have F := F.frontZ (i := 10) Aa Aa
  have F := F.sub (M' := [(b1, [.int .i64 3, v1, v2])]) (Z' := [row v1 49 IG ([(0, 0, 1, 0, 1, 1), (1, 1, 2, 0, 1, 1), (0, 1, 2, 1, 1, 1)] : List (Int × Int × Int × Int × Int × Int)), row v2 51 IB ([(2, 7)] : List (Int × Int))]) (List.Sublist.refl _) (List.Sublist.cons_cons _ (List.Sublist.cons_cons _ (List.nil_sublist _)))
  exact ⟨_, H, W.ra Aa, F⟩
 rintro a w ⟨x2, hj, W, F⟩
 have hj := Ax hj
 subst hj
 have H := K1
 clear G1 K1
 refine Ao ?_
 have H := Ax H
 subst H
 refine A1 (.inl Aa) W F Aa (Am W Aa) ?_
 exact ⟨rfl, F.done⟩
theorem H6 : Has Tryz.prog 6 := Cu Tryz.func6
theorem Y6 : (Tryz.prog.info? 33).bind (·.zero) = some (.agg #[.slice none 0 0, .slice none 0 0, .int .i64 0, .int .i64 0, .int .i64 0, .int .i64 0]) := by kernel_rfl
noncomputable def GE (p0 : Int × (List (Int × Int × Int × Int × Int × Int)) × (List (Int × Int))) (p1 : List (List Int)) (p2 : Int) : (List Int × Int) → Option ((List Int × Int) ⊕ (List Int))
  | (x4, x5) => (if x5 < (p1.length : Int) then (Gk p0 p1 x5 p2).bind fun x6 => (H4 x4 ([An ((x6.1.length : Int) - 1)] : List Int)).bind fun x7 => some (.inl (x7, An (x5 + 1))) else some (.inr x4))
noncomputable def JK (p0 : Int × (List (Int × Int × Int × Int × Int × Int)) × (List (Int × Int))) (p1 : List (List Int)) (p2 : Int) : Option (List Int) := ((FN p0 p1).bind fun x2 => (if (!x2) = true then some true else (if p2 < 0 then some true else some (decide ((p0.2.2.length : Int) ≤ p2))))).bind fun x1 => (if x1 = true then some ([] : List Int) else (Ap (GE p0 p1 p2) ([], 0)).bind fun x3 => some x3)
theorem Qn (Y : Nat → Prop) (w0 : World) (v1 : Value) (v2 : Value) (v3 : Value) (p0 : Int × (List (Int × Int × Int × Int × Int × Int)) × (List (Int × Int))) (p1 : List (List Int)) (p2 : Int) (r : List Int) (H : JK p0 p1 p2 = some r) (h_v1 : Sl w0 (NX []) IG v1 p0.2.1) (h_v2 : Sl w0 (NX []) IB v2 p0.2.2) (h_v3 : Sl w0 (NX []) (Rp.slice (Rp.int .i64)) v3 p1) :
    Calls Tryz.prog 20 #[.agg #[.int .i64 p0.1, v1, v2], v3, .int .i64 p2] w0 fun e w' => ∃ x : Value, e = .returned (x) ∧ Stw ⟨Y, [], w0⟩ [] [row (x) 3 (Rp.int .i64) r] w' := by
 refine enter Tryz.func20 Aa Tryz.ntmps20 Aa fun a W => ?_
 have F := Stw.start Y w0
 obtain ⟨v4, h1, h_v3⟩ := h_v3.ex CM
 unfold JK at H
 refine vc tk 2 W F fun a w W F => ?_
 refine D2 (cs := [.int .i64 p0.1, v1, v2]) W F Aa Aa Aa fun b1 a w W F => ?_
 refine BR tk 4 W F fun a w W F => ?_
 obtain ⟨o1, G1, K1⟩ := Ac H
 refine Aq (fun a w => ∃ x1 : Bool, some (x1) = some o1 ∧ Fr 47 [] [(1, v3), (2, .int .i64 p2), (3, .pointer (some ⟨b1, 0, none⟩)), (6, .slice none 0 0), (25, .bool x1)] a ∧ Stw ⟨Y, [], w0⟩ [(b1, [.int .i64 p0.1, v1, v2])] [] w) ?_ ?_
 ·
  have H := G1
  clear G1 K1
  refine IL tk 3 [0] W F (ai fun a w W F => ?_)
  obtain ⟨x2, h2, H⟩ := Ac H
  refine ls W F Aa (Be (v := Value.bool x2) W Zk Aa (fun w F => Lo any w (v1) (v2) (v3) p0 p1 _ h2 (EG (Ad h_v1) F) (EG (Ad h_v2) F) (EG (AN CM h1 (Ad h_v3)) F))) fun a w W F => ?_
  refine vl tk 2 W F fun a w W F => ?_
  rcases Bool.eq_false_or_eq_true (!x2) with hb | hb
  ·
   have H := D0 hb H
   rw [hb] at W
   clear hb
   refine vl tk 11 W F fun a w W F => ?_
   refine Ab ?_
   exact ⟨_, H, W.ra Aa, F⟩
  have H := DZ (by rw [hb]; decide) H
  rw [hb] at W
  clear hb
  refine vl tk 4 W F fun a w W F => ?_
  rcases Bool.eq_false_or_eq_true (decide (p2 < 0)) with hb | hb
  ·
   have H := D0 (Fm hb) H
   rw [hb] at W
   clear hb
   refine vl tk 7 W F fun a w W F => ?_
   refine Ab ?_
   exact ⟨_, H, W.ra Aa, F⟩
  have H := DZ (Fo hb) H
  rw [hb] at W
  clear hb
  refine Ky tk 3 [0] W F (ai fun a w W F => ?_)
  refine Hs W F (Ae W Aa Aa Aa Aa) Aa (As Aa) (BS (r := IB) (l := p0.2.2) OE Aa W Aa (Ad h_v2)).q fun a w W F => ?_
  refine vl tk 3 W F fun a w W F => ?_
  refine Ab ?_
  exact ⟨_, H, W.ra Aa, F⟩
 rintro a w ⟨x1, hj, W, F⟩
 have hj := Ax hj
 subst hj
 have H := K1
 clear G1 K1
 refine C2 W Aa H (fun W H => ?_) fun W H => ?_
 ·
  refine vc tk 5 W F fun a w W F => ?_
  refine Ao (AE ?_)
  have H := Ax H
  subst H
  refine A1 (.inl Aa) W F Aa (Am W Aa) ?_
  have F := F.nilRow 3 (Rp.int .i64)
  have F := F.sub (M' := []) (Z' := [row (Value.slice none 0 0) 3 (Rp.int .i64) ([])]) (List.nil_sublist _) (List.Sublist.refl _)
  exact ⟨(Value.slice none 0 0), Aa, F⟩
 refine FP tk 7 W F fun a w W F => ?_
 obtain ⟨o2, G2, K2⟩ := Ac H
 refine Aq (fun a w => ∃ x3 : List Int, ∃ v5 : Value, some (x3) = some o2 ∧ Fr 47 [] [(6, .slice none 0 0), (7, v5)] a ∧ Stw ⟨Y, [], w0⟩ [(b1, [.int .i64 p0.1, v1, v2])] [row v5 3 (Rp.int .i64) x3] w) ?_ ?_
 ·
  have H := G2
  clear G2 K2
  refine vc tk 3 W F fun a w W F => ?_
  refine ls W F Aa (BS (r := (Rp.slice (Rp.int .i64))) (l := p1) Nn Aa W Aa (AN CM h1 (Ad h_v3))).q fun a w W F => ?_
  refine BR tk 4 W F fun a w W F => ?_
  have F := F.nilRow 3 (Rp.int .i64)
  refine AL H (fun s a w => ∃ v6 : Value, Fr 47 [] [(1, v3), (2, .int .i64 p2), (3, .pointer (some ⟨b1, 0, none⟩)), (6, .slice none 0 0), (7, v6), (27, .int .i64 (p1.length : Int)), (28, .int .i64 s.2)] a ∧ Stw ⟨Y, [], w0⟩ [(b1, [.int .i64 p0.1, v1, v2])] [row v6 3 (Rp.int .i64) s.1] w) ⟨(Value.slice none 0 0), W.ra Aa, F⟩ fun s o a w H L3 hR => ?_
  obtain ⟨x4, x5⟩ := s
  obtain ⟨v6, W, F⟩ := hR
  have W : Fr 47 [] [(1, v3), (2, .int .i64 p2), (3, .pointer (some ⟨b1, 0, none⟩)), (6, .slice none 0 0), (7, v6), (27, .int .i64 (p1.length : Int)), (28, .int .i64 x5)] a := W
  have F : Stw ⟨Y, [], w0⟩ [(b1, [.int .i64 p0.1, v1, v2])] [row v6 3 (Rp.int .i64) x4] w := F
  rw [GE] at H
  refine vc tk 6 W F fun a w W F => ?_
  refine AU W Aa H (fun W H => ?_) fun W H => ?_
  ·
   refine Ms tk 16 [0] W F (ai fun a w W F => ?_)
   obtain ⟨x6, h3, H⟩ := Ac H
   refine A9 (Ml := []) (Zl := []) (β := Value) (rv := fun x => .tuple #[x, .int .i64 x6.2]) (MM := fun x => []) (ZZ := fun x => [row x 3 (Rp.int .i64) x6.1]) W F Zy Aa Aa (fun hL => Mi _ w (v1) (v2) (v3) p0 p1 x5 p2 _ h3 ((Ad h_v1) w F).nx ((Ad h_v2) w F).nx ((AN CM h1 (Ad h_v3)) w F).nx) fun x a w W F => ?_
   obtain ⟨v7, rfl⟩ : ∃ y, y = x := ⟨x, rfl⟩
   have F : Stw ⟨Y, [], w0⟩ [(b1, [.int .i64 p0.1, v1, v2])] [row v7 3 (Rp.int .i64) x6.1, row v6 3 (Rp.int .i64) x4] w := F
   refine ls W F Aa (Ai W Aa).q fun a w W F => ?_
   refine ls W F Aa (Bi (v := v7) W Aa Aa).q fun a w W F => ?_
   refine ls W F Aa (Bi (v := Value.int .i64 x6.2) W Aa Aa).q fun a w W F => ?_
   refine BR tk 7 W F fun a w W F => ?_
   refine ls W F Aa (BS (r := (Rp.int .i64)) (l := x6.1) IV Aa W Aa (Af 0 Aa)).q fun a w W F => ?_
   refine ls W F Aa (Eu W Aa Aa Aa).q fun a w W F => ?_
   refine D6 (z := Value.int .i64 0) (cs := [.int .i64 (An ((x6.1.length : Int) - 1))]) (Rp.int .i64) ([An ((x6.1.length : Int) - 1)] : List Int) W F Aa EJ Z3 Aa Aa Aa Aa Aa Aa (Fl.int.repL _ _ ([An ((x6.1.length : Int) - 1)] : List Int)) fun v8 a w W F => ?_
   obtain ⟨x7, h4, H⟩ := Ac H
   refine DB (r := (Rp.int .i64)) (i := 2) W F Aa EJ Aa Aa Aa Aa (Ez F 0 Aa) h4 Aa fun v9 a w W F => ?_
   have F : Stw ⟨Y, [], w0⟩ [(b1, [.int .i64 p0.1, v1, v2])] [row v9 3 (Rp.int .i64) x7, row v8 3 (Rp.int .i64) ([An ((x6.1.length : Int) - 1)] : List Int), row v7 3 (Rp.int .i64) x6.1] w := F
   refine vl tk 2 W F fun a w W F => ?_
   refine Aw ?_
   refine vn tk 4 W F fun a w W F => ?_
   refine Ab ?_
   have F := F.sub (M' := [(b1, [.int .i64 p0.1, v1, v2])]) (Z' := [row v9 3 (Rp.int .i64) x7]) (List.Sublist.refl _) (List.Sublist.cons_cons _ (List.nil_sublist _))
   exact ⟨_, H, (v9), W.ra Aa, F⟩
  refine AA ?_
  iterate 2 refine AQ ?_
  refine AC (Ab ?_)
  have H := L3 _ H
  exact ⟨_, (v6), H, W.ra Aa, F⟩
 rintro a w ⟨x3, v5, hj, W, F⟩
 have hj := Ax hj
 subst hj
 have H := K2
 clear G2 K2
 refine vc tk 6 W F fun a w W F => ?_
 refine Ao ?_
 have H := Ax H
 subst H
 refine A1 (.inl Aa) W F Aa (Am W Aa) ?_
 have F := F.sub (M' := []) (Z' := [row v5 3 (Rp.int .i64) x3]) (List.nil_sublist _) (List.Sublist.refl _)
 exact ⟨(v5), Aa, F⟩
theorem Zz : type_of% Tryz.underlying5 := Tryz.underlying5
theorem bY : type_of% Tryz.underlying9 := Tryz.underlying9
theorem Xm : type_of% Tryz.underlying120 := Tryz.underlying120
theorem bU : Has Tryz.prog 20 := Cu Tryz.func20
theorem Z5 : Bt Tryz.prog 43 [.int .i64 0, .int .i64 0, .int .i64 0, .int .i64 0] [(0, 1), (1, 1), (2, 1), (3, 1)] := ⟨⟨.agg #[.int .i64 0, .int .i64 0, .int .i64 0, .int .i64 0], by kernel_rfl, rfl⟩, ⟨_, Jv, fun w => by kernel_rfl⟩⟩
noncomputable def GW (p0 : Int) : Option Int := (if 4294967296 ≤ p0 then some (Jk .u64 p0 32, 32) else some (p0, 0)).bind fun (x1, x2) => (if 65536 ≤ x1 then some (Jk .u64 x1 16, An (x2 + 16)) else some (x1, x2)).bind fun (x3, x4) => (if 256 ≤ x3 then some (Jk .u64 x3 8, An (x4 + 8)) else some (x3, x4)).bind fun (x5, x6) => (ix ([0, 1, 2, 2, 3, 3, 3, 3, 4, 4, 4, 4, 4, 4, 4, 4, 5, 5, 5, 5, 5, 5, 5, 5, 5, 5, 5, 5, 5, 5, 5, 5, 6, 6, 6, 6, 6, 6, 6, 6, 6, 6, 6, 6, 6, 6, 6, 6, 6, 6, 6, 6, 6, 6, 6, 6, 6, 6, 6, 6, 6, 6, 6, 6, 7, 7, 7, 7, 7, 7, 7, 7, 7, 7, 7, 7, 7, 7, 7, 7, 7, 7, 7, 7, 7, 7, 7, 7, 7, 7, 7, 7, 7, 7, 7, 7, 7, 7, 7, 7, 7, 7, 7, 7, 7, 7, 7, 7, 7, 7, 7, 7, 7, 7, 7, 7, 7, 7, 7, 7, 7, 7, 7, 7, 7, 7, 7, 7, 8, 8, 8, 8, 8, 8, 8, 8, 8, 8, 8, 8, 8, 8, 8, 8, 8, 8, 8, 8, 8, 8, 8, 8, 8, 8, 8, 8, 8, 8, 8, 8, 8, 8, 8, 8, 8, 8, 8, 8, 8, 8, 8, 8, 8, 8, 8, 8, 8, 8, 8, 8, 8, 8, 8, 8, 8, 8, 8, 8, 8, 8, 8, 8, 8, 8, 8, 8, 8, 8, 8, 8, 8, 8, 8, 8, 8, 8, 8, 8, 8, 8, 8, 8, 8, 8, 8, 8, 8, 8, 8, 8, 8, 8, 8, 8, 8, 8, 8, 8, 8, 8, 8, 8, 8, 8, 8, 8, 8, 8, 8, 8, 8, 8, 8, 8, 8, 8, 8, 8, 8, 8, 8, 8, 8, 8, 8, 8] : List UInt8) (IntKind.u8.wrap x5)).bind fun x7 => some (An (x6 + (An (x7.toNat : Int))))
theorem Mj (Y : Nat → Prop) (w0 : World)  (p0 : Int) (r : Int) (H : GW p0 = some r)  :
    Calls Tryz.prog 69 #[.int .u64 p0] w0 fun e w' => e = .returned (.int .i64 r) ∧ Below w0.heap.size w0 w' := by
 refine enter Tryz.func69 Aa Tryz.ntmps69 Aa fun a W => ?_
 have F := Stw.start Y w0
 unfold GW at H
 refine vc tk 5 W F fun a w W F => ?_
 obtain ⟨o1, G1, K1⟩ := Ac H
 refine Aq (fun a w => ∃ x1 : Int, ∃ x2 : Int, some ((x1, x2)) = some o1 ∧ Fr 25 [] [(0, .int .u64 x1), (2, .int .i64 x2)] a ∧ Stw ⟨Y, [], w0⟩ [] [] w) ?_ ?_
 ·
  have H := G1
  clear G1 K1
  refine vc tk 6 W F fun a w W F => ?_
  refine AU W Aa H (fun W H => ?_) fun W H => ?_
  ·
   refine vc tk 3 W F fun a w W F => ?_
   refine ls W F Aa (QE W Aa Aa (by decide)).q fun a w W F => ?_
   refine BR tk 6 W F fun a w W F => ?_
   refine Ab ?_
   exact ⟨_, _, H, W.ra Aa, F⟩
  refine AB (Ab ?_)
  exact ⟨_, _, H, W.ra Aa, F⟩
 rintro a w ⟨x1, x2, hj, W, F⟩
 have hj := Ax hj
 subst hj
 have H := K1
 clear G1 K1
 obtain ⟨o2, G2, K2⟩ := Ac H
 refine Aq (fun a w => ∃ x3 : Int, ∃ x4 : Int, some ((x3, x4)) = some o2 ∧ Fr 25 [] [(0, .int .u64 x3), (2, .int .i64 x4)] a ∧ Stw ⟨Y, [], w0⟩ [] [] w) ?_ ?_
 ·
  have H := G2
  clear G2 K2
  refine vc tk 6 W F fun a w W F => ?_
  refine AU W Aa H (fun W H => ?_) fun W H => ?_
  ·
   refine vc tk 3 W F fun a w W F => ?_
   refine ls W F Aa (QE W Aa Aa (by decide)).q fun a w W F => ?_
   refine BR tk 8 W F fun a w W F => ?_
   refine Ab ?_
   exact ⟨_, _, H, W.ra Aa, F⟩
  refine AB (Ab ?_)
  exact ⟨_, _, H, W.ra Aa, F⟩
 rintro a w ⟨x3, x4, hj, W, F⟩
 have hj := Ax hj
 subst hj
 have H := K2
 clear G2 K2
 obtain ⟨o3, G3, K3⟩ := Ac H
 refine Aq (fun a w => ∃ x5 : Int, ∃ x6 : Int, some ((x5, x6)) = some o3 ∧ Fr 25 [] [(0, .int .u64 x5), (2, .int .i64 x6)] a ∧ Stw ⟨Y, [], w0⟩ [] [] w) ?_ ?_
 ·
  have H := G3
  clear G3 K3
  refine vc tk 6 W F fun a w W F => ?_
  refine AU W Aa H (fun W H => ?_) fun W H => ?_
  ·
   refine vc tk 3 W F fun a w W F => ?_
   refine ls W F Aa (QE W Aa Aa (by decide)).q fun a w W F => ?_
   refine BR tk 8 W F fun a w W F => ?_
   refine Ab ?_
   exact ⟨_, _, H, W.ra Aa, F⟩
  refine AB (Ab ?_)
  exact ⟨_, _, H, W.ra Aa, F⟩
 rintro a w ⟨x5, x6, hj, W, F⟩
 have hj := Ax hj
 subst hj
 have H := K3
 clear G3 K3
 refine vc tk 4 W F fun a w W F => ?_
 refine ls W F Aa (J8 Xm Zz W Aa).q fun a w W F => ?_
 obtain ⟨x7, h1, H⟩ := Ac H
 refine ls W F Aa (Td (l := ([0, 1, 2, 2, 3, 3, 3, 3, 4, 4, 4, 4, 4, 4, 4, 4, 5, 5, 5, 5, 5, 5, 5, 5, 5, 5, 5, 5, 5, 5, 5, 5, 6, 6, 6, 6, 6, 6, 6, 6, 6, 6, 6, 6, 6, 6, 6, 6, 6, 6, 6, 6, 6, 6, 6, 6, 6, 6, 6, 6, 6, 6, 6, 6, 7, 7, 7, 7, 7, 7, 7, 7, 7, 7, 7, 7, 7, 7, 7, 7, 7, 7, 7, 7, 7, 7, 7, 7, 7, 7, 7, 7, 7, 7, 7, 7, 7, 7, 7, 7, 7, 7, 7, 7, 7, 7, 7, 7, 7, 7, 7, 7, 7, 7, 7, 7, 7, 7, 7, 7, 7, 7, 7, 7, 7, 7, 7, 7, 8, 8, 8, 8, 8, 8, 8, 8, 8, 8, 8, 8, 8, 8, 8, 8, 8, 8, 8, 8, 8, 8, 8, 8, 8, 8, 8, 8, 8, 8, 8, 8, 8, 8, 8, 8, 8, 8, 8, 8, 8, 8, 8, 8, 8, 8, 8, 8, 8, 8, 8, 8, 8, 8, 8, 8, 8, 8, 8, 8, 8, 8, 8, 8, 8, 8, 8, 8, 8, 8, 8, 8, 8, 8, 8, 8, 8, 8, 8, 8, 8, 8, 8, 8, 8, 8, 8, 8, 8, 8, 8, 8, 8, 8, 8, 8, 8, 8, 8, 8, 8, 8, 8, 8, 8, 8, 8, 8, 8, 8, 8, 8, 8, 8, 8, 8, 8, 8, 8, 8, 8, 8, 8, 8, 8, 8, 8, 8] : List UInt8)) bY W Aa Aa h1).q fun a w W F => ?_
 refine ls W F Aa (J8 Zz QW W Aa).q fun a w W F => ?_
 refine BR tk 4 W F fun a w W F => ?_
 refine Ao ?_
 have H := Ax H
 subst H
 refine A1 (.inl Aa) W F Aa (Am W Aa) ?_
 exact ⟨rfl, F.done⟩
theorem aA : Has Tryz.prog 69 := Cu Tryz.func69
noncomputable def Ff (p0 : Int) : Option Int := (GW p0).bind fun x1 => some x1
theorem Iq (Y : Nat → Prop) (w0 : World)  (p0 : Int) (r : Int) (H : Ff p0 = some r)  :
    Calls Tryz.prog 41 #[.int .u64 p0] w0 fun e w' => e = .returned (.int .i64 r) ∧ Below w0.heap.size w0 w' := by
 refine enter Tryz.func41 Aa Tryz.ntmps41 Aa fun a W => ?_
 have F := Stw.start Y w0
 unfold Ff at H
 refine vc tk 12 W F fun a w W F => ?_
 obtain ⟨x1, h1, H⟩ := Ac H
 refine ls W F Aa (Be (v := Value.int .i64 x1) W aA Aa (fun w F => Mj any w p0 _ h1)) fun a w W F => ?_
 refine BR tk 3 W F fun a w W F => ?_
 refine Ao ?_
 have H := Ax H
 subst H
 refine A1 (.inl Aa) W F Aa (Am W Aa) ?_
 exact ⟨rfl, F.done⟩
theorem YM : Has Tryz.prog 41 := Cu Tryz.func41
def Cj (p0 : Int) : Bool := decide (p0 ≠ p0)
theorem GV (Y : Nat → Prop) (w0 : World)  (p0 : Int) (r : Bool) (H : Cj p0 = r)  :
    Calls Tryz.prog 42 #[.int .i64 p0] w0 fun e w' => e = .returned (.bool r) ∧ Below w0.heap.size w0 w' := by
 refine enter Tryz.func42 Aa Tryz.ntmps42 Aa fun a W => ?_
 have F := Stw.start Y w0
 unfold Cj at H
 refine vc tk 13 W F fun a w W F => ?_
 refine Ao ?_
 subst H
 refine A1 (.inl Aa) W F Aa (Am W Aa) ?_
 exact ⟨rfl, F.done⟩
end Go.Proofs.YthhoflfhegfmcaaGreat
