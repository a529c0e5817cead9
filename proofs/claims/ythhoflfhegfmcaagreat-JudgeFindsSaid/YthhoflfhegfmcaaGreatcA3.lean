/- The functions of layer 25, JA. Conditions: none. -/
import Derived.Test.YthhoflfhegfmcaaGreatcA2
namespace Go.Proofs.YthhoflfhegfmcaaGreat
noncomputable section
open Go Go.RowKit
set_option linter.unusedVariables false
set_option linter.unusedSimpArgs false
set_option maxRecDepth 20000
set_option maxHeartbeats 1600000
theorem aY : Has Tryz.prog 39 := Cv Tryz.func39
def BZ (p0 : (Int × (List (Int × Int × Int × Int × Int × Int)) × (List (Int × Int))) × List (List Int) × List (List Int) × ((List (Int × Int × Int × Int)) × (List (Int × Int × List Int)) × Int × Int × Int × Int)) (x8 : Int × Int × List Int) : ((List (Nat × List Int)) × (List (Nat × List (Nat × List Int))) × Int) → Option (((List (Nat × List Int)) × (List (Nat × List (Nat × List Int))) × Int) ⊕ ((List (Nat × List Int)) × (List (Nat × List (Nat × List Int)))))
  | (x13, x14, x15) => (if x15 < (p0.2.2.2.1.length : Int) then ((ix p0.2.2.2.1 x15).bind fun x18 => (if (BJ p0 x18) = true then (DR x8 x18).bind fun x22 => some (x13, x14, x22) else some (x13, x14, false)).bind fun (x19, x20, x21) => (if x21 = true then (ix x20 x18.1).bind fun x23 => (ix x23.2 x18.2.1).bind fun x24 => (KW x23.1).bind fun x25 => (KW x24.1).bind fun x26 => (HN x24.2 ([x18.2.2.1] : List Int)).bind fun x27 => (ix (Ah x23.2 x18.2.1 (0, [])) x18.2.1).bind fun x28 => (ix x19 x18.1).bind fun x29 => (ix x29.2 x18.2.1).bind fun x30 => (Q6 x29.1).bind fun x31 => (KW x29.1).bind fun x32 => some ((Ah x19 x18.1 (2, (Ah x29.2 x18.2.1 x18.2.2.1))), (Ah (Ah x20 x18.1 (2, (Ah x23.2 x18.2.1 (0, [])))) x18.1 (2, (Ah (Ah x23.2 x18.2.1 (0, [])) x18.2.1 (2, x27))))) else some (x19, x20))).bind fun (x16, x17) => some (.inl (x16, x17, An (x15 + 1))) else some (.inr (x13, x14)))
def B0 (p0 : (Int × (List (Int × Int × Int × Int × Int × Int)) × (List (Int × Int))) × List (List Int) × List (List Int) × ((List (Int × Int × Int × Int)) × (List (Int × Int × List Int)) × Int × Int × Int × Int)) (x5 : Int) (x11 : List (Nat × List Int)) (x12 : List (Nat × List (Nat × List Int))) : ((List (Int × Int × Int)) × Int) → Option (((List (Int × Int × Int)) × Int) ⊕ ((List (Int × Int × Int)) × (List (Nat × List Int))))
  | (x33, x34) => (if x34 < (p0.1.2.2.length : Int) then (Ji UQ x12).bind fun x35 => (Dx p0 x35 x5 x34).bind fun x36 => (HN x33 x36).bind fun x37 => some (.inl (x37, An (x34 + 1))) else some (.inr (x33, x11)))
def CD (p0 : (Int × (List (Int × Int × Int × Int × Int × Int)) × (List (Int × Int))) × List (List Int) × List (List Int) × ((List (Int × Int × Int × Int)) × (List (Int × Int × List Int)) × Int × Int × Int × Int)) : ((List (Int × Int × Int)) × (List (Nat × List Int)) × Int) → Option (((List (Int × Int × Int)) × (List (Nat × List Int)) × Int) ⊕ (List (Int × Int × Int)))
  | (x3, x4, x5) => (if x5 < (p0.2.2.2.2.1.length : Int) then ((ix p0.2.2.2.2.1 x5).bind fun x8 => (Ji S4 x4).bind fun x9 => (FR x9).bind fun x10 => (Aq (BZ p0 x8) (x4, x10, 0)).bind fun (x11, x12) => Aq (B0 p0 x5 x11 x12) (x3, 0)).bind fun (x6, x7) => some (.inl (x6, x7, An (x5 + 1))) else some (.inr x3))
def Dd (p0 : (Int × (List (Int × Int × Int × Int × Int × Int)) × (List (Int × Int))) × List (List Int) × List (List Int) × ((List (Int × Int × Int × Int)) × (List (Int × Int × List Int)) × Int × Int × Int × Int)) : Option (List (Int × Int × Int)) := (EB p0.2.1).bind fun x1 => (Aq (CD p0) ([], x1, 0)).bind fun x2 => some x2
theorem JN (Y : Nat → Prop) (w0 : World) (v1 : Value) (v2 : Value) (v3 : Value) (v4 : Value) (v5 : Value) (v6 : Value) (p0 : (Int × (List (Int × Int × Int × Int × Int × Int)) × (List (Int × Int))) × List (List Int) × List (List Int) × ((List (Int × Int × Int × Int)) × (List (Int × Int × List Int)) × Int × Int × Int × Int)) (r : (List (Int × Int × Int))) (H : Dd p0 = some r) (h_v1 : Sl w0 (NX []) IP v1 p0.1.2.1) (h_v2 : Sl w0 (NX []) IE v2 p0.1.2.2) (s_v3 : Sl w0 Y (Rp.slice ri) v3 p0.2.1) (h_v4 : Sl w0 (NX []) (Rp.slice ri) v4 p0.2.2.1) (h_v5 : Sl w0 (NX []) AY v5 p0.2.2.2.1) (h_v6 : Sl w0 (NX []) GO v6 p0.2.2.2.2.1) :
    ca_ 19 #[.agg #[Jint p0.1.1, v1, v2, v3, v4, v5, v6, Jint p0.2.2.2.2.2.1, Jint p0.2.2.2.2.2.2.1, Jint p0.2.2.2.2.2.2.2.1, Jint p0.2.2.2.2.2.2.2.2]] w0 fun e w' => ∃ x : Value, e = .returned (x) ∧ sy Y w0 [] [row (x) 41 CI r] w' := by
 refine enter Tryz.func19 Aa Tryz.ntmps19 Aa fun a W => ?_
 have F := Stw.start Y w0
 obtain ⟨v7, h1, s_v3⟩ := s_v3.ex CK
 obtain ⟨v8, h2, h_v4⟩ := h_v4.ex CK
 obtain ⟨v9, h3, h_v6⟩ := h_v6.ex Gh
 have h_v3 := F.nx s_v3
 unfold Dd at H
 refine vc tk 2 W F fun a w W F => ?_
 refine D3 (cs := (DP p0 v1 v2 v3 v4 v5 v6)) W F Aa Aa Aa fun b1 a w W F => ?_
 refine Ii tk 12 [0] W F (ai fun a w W F => ?_)
 obtain ⟨x1, h4, H⟩ := Ac H
 refine A9 (Ml := []) (Zl := []) (β := Value × ({x : List (Value × Nat × List Int) // x.map Fo = x1})) (rv := fun x => x.1) (MM := fun x => []) (ZZ := fun x => [Bp x.1 44 Dk x.2.1]) W F bF Aa Aa (fun hL => NY _ w (v3) p0.2.1 _ h4 (Sl.hide CK h1 (F.old s_v3))) fun x a w W F => ?_
 obtain ⟨v10, v11⟩ := x
 have F : sy Y w0 (C3 b1 p0 v1 v2 v3 v4 v5 v6) [Bp v10 44 Dk v11.1] w := F
 refine vl tk 2 W F fun a w W F => ?_
 refine Ab ?_
 obtain ⟨o1, G1, K1⟩ := Ac H
 refine As (fun a w => ∃ x2 : List (Int × Int × Int), ∃ v12 : Value, some (x2) = some o1 ∧ Fr 90 [] [(2, .slice none 0 0), (3, v12)] a ∧ sy Y w0 (C3 b1 p0 v1 v2 v3 v4 v5 v6) [row v12 41 CI x2] w) ?_ ?_
 ·
  have H := G1
  clear G1 K1
  refine Jk tk 5 [0] W F (ai fun a w W F => ?_)
  refine ls W F Aa (BP (r := GO) (l := p0.2.2.2.2.1) S1 Aa W Aa (AL Gh h3 (Ae h_v6))).q fun a w W F => ?_
  refine BQ tk 4 W F fun a w W F => ?_
  have F := F.nilRow 41 CI
  have F := F.frontZ (i := 1) Aa Aa
  have F := F.frontZ (i := 1) Aa Aa
  refine AN H (fun s a w => ∃ v13 : Value, ∃ g_x4 : {x : List (Value × Nat × List Int) // x.map Fo = s.2.1}, Fr 90 [] [(1, pp b1), (2, .slice none 0 0), (3, v13), (4, v10), (16, v6), (17, Jint (p0.2.2.2.2.1.length : Int)), (18, Jint s.2.2)] a ∧ sy Y w0 (C3 b1 p0 v1 v2 v3 v4 v5 v6) [row v13 41 CI s.1, Bp v10 44 Dk g_x4.1] w) ⟨(Value.slice none 0 0), ⟨v11.1, v11.2⟩, W.ra Aa, F⟩ fun s o a w H L2 hR => ?_
  obtain ⟨x3, x4, x5⟩ := s
  obtain ⟨v13, g_x4, W, F⟩ := hR
  have W : Fr 90 [] [(1, pp b1), (2, .slice none 0 0), (3, v13), (4, v10), (16, v6), (17, Jint (p0.2.2.2.2.1.length : Int)), (18, Jint x5)] a := W
  have F : sy Y w0 (C3 b1 p0 v1 v2 v3 v4 v5 v6) [row v13 41 CI x3, Bp v10 44 Dk g_x4.1] w := F
  rw [CD] at H
  refine vc tk 6 W F fun a w W F => ?_
  refine AW W Aa H (fun W H => ?_) fun W H => ?_
  ·
   refine AE (Ab ?_)
   obtain ⟨o3, G3, K3⟩ := Ac H
   refine As (fun a w => ∃ x6 : List (Int × Int × Int), ∃ x7 : List (Nat × List Int), ∃ v14 : Value, ∃ g_x7 : {x : List (Value × Nat × List Int) // x.map Fo = x7}, some ((x6, x7)) = some o3 ∧ Fr 90 [] [(1, pp b1), (2, .slice none 0 0), (3, v14), (4, v10), (16, v6), (17, Jint (p0.2.2.2.2.1.length : Int)), (18, Jint x5)] a ∧ sy Y w0 (C3 b1 p0 v1 v2 v3 v4 v5 v6) [row v14 41 CI x6, Bp v10 44 Dk g_x7.1] w) ?_ ?_
   ·
    have H := G3
    clear G3 K3
    refine vc tk 4 W F fun a w W F => ?_
    obtain ⟨x8, h5, H⟩ := Ac H
    obtain ⟨v15, h6, h7⟩ := EP h3 h5
    have h8 : LF v15 = [Jint x8.1, Jint x8.2.1, (v15.2.2.1)] := congrArg (fun q : Int × Int × List Int => ([Jint q.1, Jint q.2.1, (v15.2.2.1)] : List Value)) h7
    refine ls W F Aa (Al (r := OZ) UG W Aa Aa (Ae h_v6) h6).q fun a w W F => ?_
    refine ls W F Aa (Ag (y := Value.agg #[Jint x8.1, Jint x8.2.1, (v15.2.2.1)]) (j := 0) (i := x5) (enc := LF) W Aa Aa (Ae h_v6) h6 Q9 Y5 (by rw [h8]; rfl)).q fun a w W F => ?_
    refine B6 (cs := [Jint 0, Jint 0, .slice none 0 0]) W F Aa Zq Aa fun b2 a w W F => ?_
    refine ls W F Aa (Dr W Aa).q fun a w W F => ?_
    refine Ej 0 W F Aa Aa Aa Y5 Aa Aa (AB Aa (AB Aa (AB ((C9 (Ae h_v6) h6 (DA.snd (DA.snd DA.here)) (congrArg (fun q : Int × Int × List Int => q.2.2) h7)) _ F).one Ez))) fun w F => ?_
    refine BQ tk 5 W F fun a w W F => ?_
    obtain ⟨x9, h9, H⟩ := Ac H
    obtain ⟨x10, h10, H⟩ := Ac H
    refine A9 (Ml := []) (Zl := []) (β := Value × ({x : List (Value × Nat × List (Value × Nat × List Int)) // x.map Fp = x10})) (rv := fun x => x.1) (MM := fun x => []) (ZZ := fun x => [Bp x.1 26 CW x.2.1]) W F bE Aa Aa (fun hL => NT _ w (v10) x9 _ h10 ((NG.plain Yd g_x4.2 h9 (Jr 1 Aa)) w F).nx) fun x a w W F => ?_
    obtain ⟨v16, v17⟩ := x
    have F : sy Y w0 [(b2, [Jint x8.1, Jint x8.2.1, (v15.2.2.1)]), (b1, (DP p0 v1 v2 v3 v4 v5 v6))] [Bp v16 26 CW v17.1, row v13 41 CI x3, Bp v10 44 Dk g_x4.1] w := F
    refine vl tk 2 W F fun a w W F => ?_
    refine Ab ?_
    obtain ⟨o4, G4, K4⟩ := Ac H
    refine As (fun a w => ∃ x11 : List (Nat × List Int), ∃ x12 : List (Nat × List (Nat × List Int)), ∃ g_x11 : {x : List (Value × Nat × List Int) // x.map Fo = x11}, ∃ g_x12 : {x : List (Value × Nat × List (Value × Nat × List Int)) // x.map Fp = x12}, some ((x11, x12)) = some o4 ∧ Fr 90 [] [(1, pp b1), (2, .slice none 0 0), (3, v13), (4, v10), (5, Jint x5), (7, v16), (16, v6), (17, Jint (p0.2.2.2.2.1.length : Int)), (18, Jint x5)] a ∧ sy Y w0 [(b2, [Jint x8.1, Jint x8.2.1, (v15.2.2.1)]), (b1, (DP p0 v1 v2 v3 v4 v5 v6))] [row v13 41 CI x3, Bp v10 44 Dk g_x11.1, Bp v16 26 CW g_x12.1] w) ?_ ?_
    ·
     have H := G4
     clear G4 K4
     refine Jk tk 5 [1] W F (ai fun a w W F => ?_)
     refine ls W F Aa (BP (r := AY) (l := p0.2.2.2.1) PR Aa W Aa (Ae h_v5)).q fun a w W F => ?_
     refine BQ tk 4 W F fun a w W F => ?_
     have F := F.frontZ (i := 2) Aa Aa
     have F := F.frontZ (i := 2) Aa Aa
     have F := F.frontM (i := 1) Aa Aa
     have F := F.frontM (i := 1) Aa Aa
     refine AN H (fun s a w => ∃ g_x13 : {x : List (Value × Nat × List Int) // x.map Fo = s.1}, ∃ g_x14 : {x : List (Value × Nat × List (Value × Nat × List Int)) // x.map Fp = s.2.1}, Fr 90 [] [(1, pp b1), (2, .slice none 0 0), (3, v13), (4, v10), (5, Jint x5), (6, pp b2), (7, v16), (16, v6), (17, Jint (p0.2.2.2.2.1.length : Int)), (18, Jint x5), (27, v5), (28, Jint (p0.2.2.2.1.length : Int)), (29, Jint s.2.2)] a ∧ sy Y w0 [(b2, [Jint x8.1, Jint x8.2.1, (v15.2.2.1)]), (b1, (DP p0 v1 v2 v3 v4 v5 v6))] [row v13 41 CI x3, Bp v10 44 Dk g_x13.1, Bp v16 26 CW g_x14.1] w) ⟨⟨g_x4.1, g_x4.2⟩, ⟨v17.1, v17.2⟩, W.ra Aa, F⟩ fun s o a w H L5 hR => ?_
     obtain ⟨x13, x14, x15⟩ := s
     obtain ⟨g_x13, g_x14, W, F⟩ := hR
     have W : Fr 90 [] [(1, pp b1), (2, .slice none 0 0), (3, v13), (4, v10), (5, Jint x5), (6, pp b2), (7, v16), (16, v6), (17, Jint (p0.2.2.2.2.1.length : Int)), (18, Jint x5), (27, v5), (28, Jint (p0.2.2.2.1.length : Int)), (29, Jint x15)] a := W
     have F : sy Y w0 [(b2, [Jint x8.1, Jint x8.2.1, (v15.2.2.1)]), (b1, (DP p0 v1 v2 v3 v4 v5 v6))] [row v13 41 CI x3, Bp v10 44 Dk g_x13.1, Bp v16 26 CW g_x14.1] w := F
     rw [BZ] at H
     refine vc tk 6 W F fun a w W F => ?_
     refine AW W Aa H (fun W H => ?_) fun W H => ?_
     ·
      refine AE (Ab ?_)
      obtain ⟨o6, G6, K6⟩ := Ac H
      refine As (fun a w => ∃ x16 : List (Nat × List Int), ∃ x17 : List (Nat × List (Nat × List Int)), ∃ g_x16 : {x : List (Value × Nat × List Int) // x.map Fo = x16}, ∃ g_x17 : {x : List (Value × Nat × List (Value × Nat × List Int)) // x.map Fp = x17}, some ((x16, x17)) = some o6 ∧ Fr 90 [] [(1, pp b1), (2, .slice none 0 0), (3, v13), (4, v10), (5, Jint x5), (6, pp b2), (7, v16), (16, v6), (17, Jint (p0.2.2.2.2.1.length : Int)), (18, Jint x5), (27, v5), (28, Jint (p0.2.2.2.1.length : Int)), (29, Jint x15)] a ∧ sy Y w0 [(b2, [Jint x8.1, Jint x8.2.1, (v15.2.2.1)]), (b1, (DP p0 v1 v2 v3 v4 v5 v6))] [row v13 41 CI x3, Bp v10 44 Dk g_x16.1, Bp v16 26 CW g_x17.1] w) ?_ ?_
      ·
       have H := G6
       clear G6 K6
       refine vc tk 3 W F fun a w W F => ?_
       obtain ⟨x18, h11, H⟩ := Ac H
       refine ls W F Aa (Al (r := AY) Eu W Aa Aa (Ae h_v5) h11).q fun a w W F => ?_
       refine ls W F Aa (Ag (y := Value.agg #[Jint x18.1, Jint x18.2.1, Jint x18.2.2.1, Jint x18.2.2.2]) (j := 0) (i := x15) W Aa Aa (Ae h_v5) h11 EK.to Ey Aa).q fun a w W F => ?_
       refine B6 (cs := (Qb)) W F Aa Xf Aa fun b3 a w W F => ?_
       refine Ej 0 W F Aa Aa Aa Ey Aa Aa Aa fun w F => ?_
       refine FC (Ab ?_)
       obtain ⟨o7, G7, K7⟩ := Ac H
       refine As (fun a w => ∃ x19 : List (Nat × List Int), ∃ x20 : List (Nat × List (Nat × List Int)), ∃ x21 : Bool, ∃ g_x19 : {x : List (Value × Nat × List Int) // x.map Fo = x19}, ∃ g_x20 : {x : List (Value × Nat × List (Value × Nat × List Int)) // x.map Fp = x20}, some ((x19, x20, x21)) = some o7 ∧ Fr 90 [] [(1, pp b1), (2, .slice none 0 0), (3, v13), (4, v10), (5, Jint x5), (6, pp b2), (7, v16), (9, pp b3), (16, v6), (17, Jint (p0.2.2.2.2.1.length : Int)), (18, Jint x5), (27, v5), (28, Jint (p0.2.2.2.1.length : Int)), (29, Jint x15), (40, .bool x21)] a ∧ sy Y w0 [(b3, (Cj x18)), (b2, [Jint x8.1, Jint x8.2.1, (v15.2.2.1)]), (b1, (DP p0 v1 v2 v3 v4 v5 v6))] [row v13 41 CI x3, Bp v10 44 Dk g_x19.1, Bp v16 26 CW g_x20.1] w) ?_ ?_
       ·
        have H := G7
        clear G7 K7
        refine Jk tk 3 [2, 0] W F (ai (ai fun a w W F => ?_))
        refine ls W F Aa (Bc (v := Value.bool (BJ p0 x18)) W ZI Aa (fun w F => HQ any w (v1) (v2) (v3) (v4) (v5) (v6) p0 x18 _ Aa (EJ (Ae h_v1) F) (EJ (Ae h_v2) F) (EJ (AL CK h1 (Ae h_v3)) F) (EJ (AL CK h2 (Ae h_v4)) F) (EJ (Ae h_v5) F) (EJ (AL Gh h3 (Ae h_v6)) F))) fun a w W F => ?_
        refine ls W F Aa (Ai W Aa).q fun a w W F => ?_
        rcases bxq (BJ p0 x18) with hb | hb
        ·
         have H := DU hb H
         rw [hb] at W
         clear hb
         refine Kp tk 2 [1, 0] W F (ai (ai fun a w W F => ?_))
         refine MI (Ad W Aa Aa Aa Aa) ?_
         obtain ⟨x22, h12, H⟩ := Ac H
         refine ls W F Aa (Bc (v := Value.bool x22) W Zk Aa (fun w F => JZ any w ((v15.2.2.1)) x8 x18 _ h12 (EJ (C9 (Ae h_v6) h6 (DA.snd (DA.snd DA.here)) (congrArg (fun q : Int × Int × List Int => q.2.2) h7)) F))) fun a w W F => ?_
         refine vl tk 2 W F fun a w W F => ?_
         refine Ab ?_
         have F := F.frontZ (i := 2) Aa Aa
         have F := F.frontZ (i := 2) Aa Aa
         have F := F.frontZ (i := 2) Aa Aa
         have F := F.frontM (i := 2) Aa Aa
         have F := F.frontM (i := 2) Aa Aa
         have F := F.frontM (i := 2) Aa Aa
         exact ⟨_, _, _, ⟨g_x13.1, g_x13.2⟩, ⟨g_x14.1, g_x14.2⟩, H, W.ra Aa, F⟩
        have H := DS (by rw [hb]; decide) H
        rw [hb] at W
        clear hb
        refine vl tk 5 W F fun a w W F => ?_
        refine Ab ?_
        have F := F.frontZ (i := 2) Aa Aa
        have F := F.frontZ (i := 2) Aa Aa
        have F := F.frontZ (i := 2) Aa Aa
        have F := F.frontM (i := 2) Aa Aa
        have F := F.frontM (i := 2) Aa Aa
        have F := F.frontM (i := 2) Aa Aa
        exact ⟨_, _, _, ⟨g_x13.1, g_x13.2⟩, ⟨g_x14.1, g_x14.2⟩, H, W.ra Aa, F⟩
       rintro a w ⟨x19, x20, x21, g_x19, g_x20, hj, W, F⟩
       have hj := Ay hj
       subst hj
       have H := K7
       clear G7 K7
       refine CS W Aa H (fun W H => ?_) fun W H => ?_
       ·
        refine HH ?_
        have F := F.frontZ (i := 2) Aa Aa
        have F := F.dSplitE g_x20.1 Aa
        have F : sy Y w0 [(b3, (Cj x18)), (b2, [Jint x8.1, Jint x8.2.1, (v15.2.2.1)]), (b1, (DP p0 v1 v2 v3 v4 v5 v6))] [row v13 41 CI x3, Bp v10 44 Dk g_x19.1, row v16 26 CW.hr g_x20.1, Gq (List.map CW.it g_x20.1)] w := F
        refine ER [(true, 0), (true, 1), (true, 2), (true, 3), (true, 4), (true, 5), (true, 6), (true, 7), (true, 8), (true, 9), (true, 10), (true, 11), (true, 12), (true, 13), (true, 14), (true, 15), (true, 16), (true, 17), (false, 18), (false, 19), (true, 20), (false, 21)] (CN ⟨Y, [], w0⟩ [(some 21, b3, [Jint x18.1, Jint x18.2.1, Jint x18.2.2.1, Jint x18.2.2.2]), (some 19, b3, [Jint x18.1, Jint x18.2.1, Jint x18.2.2.1, Jint x18.2.2.2]), (some 18, b3, [Jint x18.1, Jint x18.2.1, Jint x18.2.2.1, Jint x18.2.2.2])] [(some 21, row v16 26 CW.hr g_x20.1), (some 19, row v16 26 CW.hr g_x20.1), (some 19, Gq (List.map CW.it g_x20.1))]) (fun ch a d v w h => by cases d <;> exact h) MO (by kernel_rfl) F (fun w F => ⟨_, _, F, (all_cons (fun _ => (.head _)) (all_cons (fun _ => (.head _)) (all_cons (fun _ => (.head _)) Ak))), (all_cons (fun _ => (.tail _ (.tail _ (.head _)))) (all_cons (fun _ => (.tail _ (.tail _ (.head _)))) (all_cons (fun _ => (.tail _ (.tail _ (.tail _ (.head _))))) Ak)))⟩) fun w F => ?_
        refine A6 (R := []) W Aa Aa (yC fun M Z hN hZ => Ai W Aa) Aa Aa fun a W => ?_
        refine A6 (R := []) W Aa Aa (yC fun M Z hN hZ => Ax I8 Aa Aa Aa T3 W Aa 0 Aa) Aa Aa fun a W => ?_
        refine A6 (R := [21]) W Aa Aa (yC fun M Z hN hZ => FI (cs := (Cj x18)) (v := Jint x18.1) W Aa (hN ((some 21), b3, (Cj x18)) (.head _) Aa) T3 Aa) (by kernel_rfl) Aa fun a W => ?_
        obtain ⟨x23, h13, H⟩ := Ac H
        obtain ⟨v18, h14, h15⟩ := EP (er := Fp) g_x20.2 h13
        refine A6 (R := []) W Aa Aa (yC fun M Z hN hZ => Ba (r := CW.hr) Xi W Aa Aa (C2 F (P1 (lx := g_x20.1) 2 Aa Aa)) h14) Aa Aa fun a W => ?_
        have h16 : CW.cells v18 = [(v18.1)] := congrArg (fun q : Nat × List (Nat × List Int) => ([(v18.1)] : List Value)) h15
        refine A6 (R := [21]) W Aa Aa (yC fun M Z hN hZ => Ag (y := (v18.1)) (j := 0) (i := x18.1) (enc := CW.cells) W Aa Aa (Pi (lx := g_x20.1) (hZ ((some 21), row v16 26 CW.hr g_x20.1) (.head _) Aa) Aa) h14 CW.flat Xn (by rw [h16]; rfl)) (by kernel_rfl) Aa fun a W => ?_
        refine A6 (R := []) W Aa Aa (yC fun M Z hN hZ => Ax I8 Aa Aa Aa T3 W Aa 1 Aa) Aa Aa fun a W => ?_
        refine A6 (R := [21]) W Aa Aa (yC fun M Z hN hZ => FI (cs := (Cj x18)) (v := Jint x18.2.1) W Aa (hN ((some 21), b3, (Cj x18)) (.head _) Aa) T3 Aa) (by kernel_rfl) Aa fun a W => ?_
        refine A6 (R := []) W Aa Aa (yC fun M Z hN hZ => Ai W Aa) Aa Aa fun a W => ?_
        refine A6 (R := []) W Aa Aa (yC fun M Z hN hZ => Ax I8 Aa Aa Aa T3 W Aa 0 Aa) Aa Aa fun a W => ?_
        refine A6 (R := [19, 15, 14, 11, 10]) W Aa Aa (yC fun M Z hN hZ => FI (cs := (Cj x18)) (v := Jint x18.1) W Aa (hN ((some 19), b3, (Cj x18)) (.tail _ (.head _)) Aa) T3 Aa) (by kernel_rfl) Aa fun a W => ?_
        refine A6 (R := []) W Aa Aa (yC fun M Z hN hZ => Ba (r := CW.hr) Xi W Aa Aa (C2 F (P1 (lx := g_x20.1) 2 Aa Aa)) h14) Aa Aa fun a W => ?_
        have h17 : CW.cells v18 = [(v18.1)] := congrArg (fun q : Nat × List (Nat × List Int) => ([(v18.1)] : List Value)) h15
        refine A6 (R := [19, 15, 14]) W Aa Aa (yC fun M Z hN hZ => Ag (y := (v18.1)) (j := 0) (i := x18.1) (enc := CW.cells) W Aa Aa (Pi (lx := g_x20.1) (hZ ((some 19), row v16 26 CW.hr g_x20.1) (.tail _ (.head _)) Aa) Aa) h14 CW.flat Xn (by rw [h17]; rfl)) (by kernel_rfl) Aa fun a W => ?_
        refine A6 (R := []) W Aa Aa (yC fun M Z hN hZ => Ax I8 Aa Aa Aa T3 W Aa 1 Aa) Aa Aa fun a W => ?_
        refine A6 (R := [19, 15, 14]) W Aa Aa (yC fun M Z hN hZ => FI (cs := (Cj x18)) (v := Jint x18.2.1) W Aa (hN ((some 19), b3, (Cj x18)) (.tail _ (.head _)) Aa) T3 Aa) (by kernel_rfl) Aa fun a W => ?_
        obtain ⟨x24, h18, H⟩ := Ac H
        obtain ⟨v19, h19, h20⟩ := EP (er := Fo) (congrArg (fun q : Nat × List (Nat × List Int) => q.2) h15) h18
        obtain ⟨x25, h21, H⟩ := Ac H
        refine A6 (R := []) W Aa Aa (yC fun M Z hN hZ => Ba (r := Dk.hr) XO W Aa Aa (C2 F (NG.hd (Vg.dl (P2 (lx := g_x20.1) 3 Aa) h14 Foc.here ((congrArg (fun q : Nat × List (Nat × List Int) => q.1) h15).trans (Lg h21))))) h19) Aa Aa fun a W => ?_
        have h22 : Dk.cells v19 = [(v19.1)] := congrArg (fun q : Nat × List Int => ([(v19.1)] : List Value)) h20
        refine A6 (R := [19]) W Aa Aa (yC fun M Z hN hZ => Ag (y := (v19.1)) (j := 0) (i := x18.2.1) (enc := Dk.cells) W Aa Aa (NG.hd (Vg.dl (XB (lx := g_x20.1) (hZ ((some 19), Gq (List.map CW.it g_x20.1)) (.tail _ (.tail _ (.head _))) Aa)) h14 Foc.here ((congrArg (fun q : Nat × List (Nat × List Int) => q.1) h15).trans (Lg h21)))) h19 Dk.flat NJ (by rw [h22]; rfl)) (by kernel_rfl) Aa fun a W => ?_
        refine A6 (R := []) W Aa Aa (yC fun M Z hN hZ => Ax I8 Aa Aa Aa T3 W Aa 2 Aa) Aa Aa fun a W => ?_
        refine A6 (R := [18]) W Aa Aa (yC fun M Z hN hZ => FI (cs := (Cj x18)) (v := Jint x18.2.2.1) W Aa (hN ((some 18), b3, (Cj x18)) (.tail _ (.tail _ (.head _))) Aa) T3 Aa) (by kernel_rfl) Aa fun a W => ?_
        refine F1 Aa ?_
        refine D7 (z := Jint 0) (cs := [Jint x18.2.2.1]) ri ([x18.2.2.1] : List Int) W F Aa EM Z3 Aa Aa Aa Aa Aa Aa (Fl.int.repL _ _ ([x18.2.2.1] : List Int)) fun v20 a w W F => ?_
        refine Cn (N2 := []) (NZ2 := []) (N3 := [(some 21, b3, [Jint x18.1, Jint x18.2.1, Jint x18.2.2.1, Jint x18.2.2.2]), (some 19, b3, [Jint x18.1, Jint x18.2.1, Jint x18.2.2.1, Jint x18.2.2.2]), (some 18, b3, [Jint x18.1, Jint x18.2.1, Jint x18.2.2.1, Jint x18.2.2.2])]) (NZ3 := [(some 21, row v16 26 CW.hr g_x20.1), (some 19, row v16 26 CW.hr g_x20.1), (some 19, Gq (List.map CW.it g_x20.1))]) F Aa Aa (all_cons (fun _ => (.head _)) (all_cons (fun _ => (.head _)) (all_cons (fun h => AH (by kernel_rfl) h) Ak))) (all_cons (fun _ => (.tail _ (.tail _ (.tail _ (.head _))))) (all_cons (fun _ => (.tail _ (.tail _ (.tail _ (.head _))))) (all_cons (fun _ => (.tail _ (.tail _ (.tail _ (.tail _ (.head _)))))) Ak))) ?_
        refine F1 Aa ?_
        obtain ⟨x26, h23, H⟩ := Ac H
        have F := Stw.dJoinE (lx := g_x20.1) [row v20 3 ri ([x18.2.2.1] : List Int), row v13 41 CI x3, Bp v10 44 Dk g_x19.1] F Aa
        have F : sy Y w0 [(b3, (Cj x18)), (b2, [Jint x8.1, Jint x8.2.1, (v15.2.2.1)]), (b1, (DP p0 v1 v2 v3 v4 v5 v6))] [Bp v16 26 CW g_x20.1, row v20 3 ri ([x18.2.2.1] : List Int), row v13 41 CI x3, Bp v10 44 Dk g_x19.1] w := F
        have F := F.dTakeD h14 Foc.here ((congrArg (fun q : Nat × List (Nat × List Int) => q.1) h15).trans (Lg h21))
        have h24 : List.map Fp (Ah g_x20.1 x18.1 ((v18.1), 0, [])) = (Ah x20 x18.1 (0, [])) := (JE g_x20.2 (congrArg (fun q : Nat × List (Nat × List Int) => (0, [])) h15))
        have F : sy Y w0 [(b3, (Cj x18)), (b2, [Jint x8.1, Jint x8.2.1, (v15.2.2.1)]), (b1, (DP p0 v1 v2 v3 v4 v5 v6))] [Bp (v18.1) 44 Dk (v18.2.2), Bp v16 26 CW (Ah g_x20.1 x18.1 ((v18.1), 0, [])), row v20 3 ri ([x18.2.2.1] : List Int), row v13 41 CI x3, Bp v10 44 Dk g_x19.1] w := F
        have F := F.dTakeR h19 Foc.here ((congrArg (fun q : Nat × List Int => q) h20).trans (Prod.ext (Lg h23) Aa))
        have h25 : List.map Fo (Ah (v18.2.2) x18.2.1 ((v19.1), 0, [])) = (Ah x23.2 x18.2.1 (0, [])) := (JE (congrArg (fun q : Nat × List (Nat × List Int) => q.2) h15) (congrArg (fun q : Nat × List Int => (0, [])) h20))
        have F : sy Y w0 [(b3, (Cj x18)), (b2, [Jint x8.1, Jint x8.2.1, (v15.2.2.1)]), (b1, (DP p0 v1 v2 v3 v4 v5 v6))] [row (v19.1) 3 ri x24.2, Bp (v18.1) 44 Dk (Ah (v18.2.2) x18.2.1 ((v19.1), 0, [])), Bp v16 26 CW (Ah g_x20.1 x18.1 ((v18.1), 0, [])), row v20 3 ri ([x18.2.2.1] : List Int), row v13 41 CI x3, Bp v10 44 Dk g_x19.1] w := F
        have F := F.frontZ (i := 2) Aa Aa
        have F := F.frontZ (i := 2) Aa Aa
        have h26 : Fp ((v18.1), 2, (Ah (v18.2.2) x18.2.1 ((v19.1), 0, []))) = (2, (Ah x23.2 x18.2.1 (0, []))) := by first | (simp only [Fp, h25]; done) | simp only [h25, ← h15]
        have F := F.dBackD (x2 := ((v18.1), 2, (Ah (v18.2.2) x18.2.1 ((v19.1), 0, [])))) h14 Foc.here Aa Aa
        have h27 : List.map Fp (Ah g_x20.1 x18.1 ((v18.1), 2, (Ah (v18.2.2) x18.2.1 ((v19.1), 0, [])))) = (Ah x20 x18.1 (2, (Ah x23.2 x18.2.1 (0, [])))) := (JE g_x20.2 h26)
        have F : sy Y w0 [(b3, (Cj x18)), (b2, [Jint x8.1, Jint x8.2.1, (v15.2.2.1)]), (b1, (DP p0 v1 v2 v3 v4 v5 v6))] [Bp v16 26 CW (Ah g_x20.1 x18.1 ((v18.1), 2, (Ah (v18.2.2) x18.2.1 ((v19.1), 0, [])))), row (v19.1) 3 ri x24.2, row v20 3 ri ([x18.2.2.1] : List Int), row v13 41 CI x3, Bp v10 44 Dk g_x19.1] w := F
        obtain ⟨x27, h28, H⟩ := Ac H
        refine Di (r := ri) (i := 1) W F Aa EM Aa Aa Aa Aa (D1 F 2 Aa) h28 Aa fun v21 a w W F => ?_
        have F : sy Y w0 [(b3, (Cj x18)), (b2, [Jint x8.1, Jint x8.2.1, (v15.2.2.1)]), (b1, (DP p0 v1 v2 v3 v4 v5 v6))] [row v21 3 ri x27, Bp v16 26 CW (Ah g_x20.1 x18.1 ((v18.1), 2, (Ah (v18.2.2) x18.2.1 ((v19.1), 0, [])))), row v20 3 ri ([x18.2.2.1] : List Int), row v13 41 CI x3, Bp v10 44 Dk g_x19.1] w := F
        have F := F.frontZ (i := 1) Aa Aa
        have h29 : List.map CW.cells g_x20.1 = List.map CW.cells (Ah g_x20.1 x18.1 ((v18.1), 2, (Ah (v18.2.2) x18.2.1 ((v19.1), 0, [])))) := Eq.trans Aa (Eq.symm (Pb h14 Aa))
        have F := F.dSplitE g_x20.1 h29
        have F : sy Y w0 [(b3, (Cj x18)), (b2, [Jint x8.1, Jint x8.2.1, (v15.2.2.1)]), (b1, (DP p0 v1 v2 v3 v4 v5 v6))] [row v21 3 ri x27, row v20 3 ri ([x18.2.2.1] : List Int), row v13 41 CI x3, Bp v10 44 Dk g_x19.1, row v16 26 CW.hr g_x20.1, Gq (List.map CW.it (Ah g_x20.1 x18.1 ((v18.1), 2, (Ah (v18.2.2) x18.2.1 ((v19.1), 0, [])))))] w := F
        refine Cn (N2 := []) (NZ2 := []) (N3 := [(some 21, b3, [Jint x18.1, Jint x18.2.1, Jint x18.2.2.1, Jint x18.2.2.2]), (some 19, b3, [Jint x18.1, Jint x18.2.1, Jint x18.2.2.1, Jint x18.2.2.2]), (some 18, b3, [Jint x18.1, Jint x18.2.1, Jint x18.2.2.1, Jint x18.2.2.2])]) (NZ3 := [(some 21, row v16 26 CW.hr g_x20.1), (some 19, row v16 26 CW.hr g_x20.1), (some 19, Gq (List.map CW.it g_x20.1))]) F Aa Aa (all_cons (fun _ => (.head _)) (all_cons (fun h => AH (by kernel_rfl) h) (all_cons (fun h => AH (by kernel_rfl) h) Ak))) (all_cons (fun _ => (.tail _ (.tail _ (.tail _ (.tail _ (.head _)))))) (all_cons (fun h => AH (by kernel_rfl) h) (all_cons (fun h => AH (by kernel_rfl) h) Ak))) ?_
        obtain ⟨x28, h30, H⟩ := Ac H
        obtain ⟨v22, h31, h32⟩ := EP (er := Fo) h25 h30
        refine A6 (R := []) W Aa Aa (yC fun M Z hN hZ => Ba (r := Dk.hr) XO W Aa Aa (C2 F (NG.hd (Vg.dl (P2 (lx := (Ah g_x20.1 x18.1 ((v18.1), 2, (Ah (v18.2.2) x18.2.1 ((v19.1), 0, []))))) 5 Aa) (KJ h14) Foc.here Aa))) h31) Aa Aa fun a W => ?_
        refine F1 Aa ?_
        have F := Stw.dJoinE (lx := (Ah g_x20.1 x18.1 ((v18.1), 2, (Ah (v18.2.2) x18.2.1 ((v19.1), 0, []))))) [row v21 3 ri x27, row v20 3 ri ([x18.2.2.1] : List Int), row v13 41 CI x3, Bp v10 44 Dk g_x19.1] F h29
        have F : sy Y w0 [(b3, (Cj x18)), (b2, [Jint x8.1, Jint x8.2.1, (v15.2.2.1)]), (b1, (DP p0 v1 v2 v3 v4 v5 v6))] [Bp v16 26 CW (Ah g_x20.1 x18.1 ((v18.1), 2, (Ah (v18.2.2) x18.2.1 ((v19.1), 0, [])))), row v21 3 ri x27, row v20 3 ri ([x18.2.2.1] : List Int), row v13 41 CI x3, Bp v10 44 Dk g_x19.1] w := F
        have F := F.dTakeD (KJ h14) Foc.here Aa
        have h33 : List.map Fp (Ah (Ah g_x20.1 x18.1 ((v18.1), 2, (Ah (v18.2.2) x18.2.1 ((v19.1), 0, [])))) x18.1 ((v18.1), 0, [])) = (Ah (Ah x20 x18.1 (2, (Ah x23.2 x18.2.1 (0, [])))) x18.1 (0, [])) := (JE h27 (congrArg (fun q : Nat × List (Nat × List Int) => (0, [])) h26))
        have F : sy Y w0 [(b3, (Cj x18)), (b2, [Jint x8.1, Jint x8.2.1, (v15.2.2.1)]), (b1, (DP p0 v1 v2 v3 v4 v5 v6))] [Bp (v18.1) 44 Dk (Ah (v18.2.2) x18.2.1 ((v19.1), 0, [])), Bp v16 26 CW (Ah (Ah g_x20.1 x18.1 ((v18.1), 2, (Ah (v18.2.2) x18.2.1 ((v19.1), 0, [])))) x18.1 ((v18.1), 0, [])), row v21 3 ri x27, row v20 3 ri ([x18.2.2.1] : List Int), row v13 41 CI x3, Bp v10 44 Dk g_x19.1] w := F
        have h34 : Value.oneCell' v21 = true := (F.one (k := 2) Aa)
        have F := F.frontZ (i := 2) Aa Aa
        have F := F.toR
        refine Od (D := Dk) (S := (Dp.sl 3 ri)) (b := (v21, 2, x27)) (i := x18.2.1) (j := 0) Foc.here W F Aa Aa Aa h31 NJ (BK h34) Aa h34 Aa fun w F => ?_
        have h35 : List.map Fo (Ah (Ah (v18.2.2) x18.2.1 ((v19.1), 0, [])) x18.2.1 (v21, 2, x27)) = (Ah (Ah x23.2 x18.2.1 (0, [])) x18.2.1 (2, x27)) := (JE h25 (congrArg (fun q : Nat × List Int => (2, x27)) h32))
        have F : sy Y w0 [(b3, (Cj x18)), (b2, [Jint x8.1, Jint x8.2.1, (v15.2.2.1)]), (b1, (DP p0 v1 v2 v3 v4 v5 v6))] [Bp (v18.1) 44 Dk (Ah (Ah (v18.2.2) x18.2.1 ((v19.1), 0, [])) x18.2.1 (v21, 2, x27)), Bp v16 26 CW (Ah (Ah g_x20.1 x18.1 ((v18.1), 2, (Ah (v18.2.2) x18.2.1 ((v19.1), 0, [])))) x18.1 ((v18.1), 0, [])), row v20 3 ri ([x18.2.2.1] : List Int), row v13 41 CI x3, Bp v10 44 Dk g_x19.1] w := F
        have F := F.frontZ (i := 1) Aa Aa
        have F := F.frontZ (i := 1) Aa Aa
        have h36 : Fp ((v18.1), 2, (Ah (Ah (v18.2.2) x18.2.1 ((v19.1), 0, [])) x18.2.1 (v21, 2, x27))) = (2, (Ah (Ah x23.2 x18.2.1 (0, [])) x18.2.1 (2, x27))) := by first | (simp only [Fp, h35]; done) | simp only [h35, ← h26]
        have F := F.dBackD (x2 := ((v18.1), 2, (Ah (Ah (v18.2.2) x18.2.1 ((v19.1), 0, [])) x18.2.1 (v21, 2, x27)))) (KJ h14) Foc.here Aa Aa
        have h37 : List.map Fp (Ah (Ah g_x20.1 x18.1 ((v18.1), 2, (Ah (v18.2.2) x18.2.1 ((v19.1), 0, [])))) x18.1 ((v18.1), 2, (Ah (Ah (v18.2.2) x18.2.1 ((v19.1), 0, [])) x18.2.1 (v21, 2, x27)))) = (Ah (Ah x20 x18.1 (2, (Ah x23.2 x18.2.1 (0, [])))) x18.1 (2, (Ah (Ah x23.2 x18.2.1 (0, [])) x18.2.1 (2, x27)))) := (JE h27 h36)
        have F : sy Y w0 [(b3, (Cj x18)), (b2, [Jint x8.1, Jint x8.2.1, (v15.2.2.1)]), (b1, (DP p0 v1 v2 v3 v4 v5 v6))] [Bp v16 26 CW (Ah (Ah g_x20.1 x18.1 ((v18.1), 2, (Ah (v18.2.2) x18.2.1 ((v19.1), 0, [])))) x18.1 ((v18.1), 2, (Ah (Ah (v18.2.2) x18.2.1 ((v19.1), 0, [])) x18.2.1 (v21, 2, x27)))), row v20 3 ri ([x18.2.2.1] : List Int), row v13 41 CI x3, Bp v10 44 Dk g_x19.1] w := F
        have h38 : List.map CW.cells g_x20.1 = List.map CW.cells (Ah (Ah g_x20.1 x18.1 ((v18.1), 2, (Ah (v18.2.2) x18.2.1 ((v19.1), 0, [])))) x18.1 ((v18.1), 2, (Ah (Ah (v18.2.2) x18.2.1 ((v19.1), 0, [])) x18.2.1 (v21, 2, x27)))) := Eq.trans h29 (Eq.symm (Pb (KJ h14) Aa))
        have F := F.dSplitE g_x20.1 h38
        have F : sy Y w0 [(b3, (Cj x18)), (b2, [Jint x8.1, Jint x8.2.1, (v15.2.2.1)]), (b1, (DP p0 v1 v2 v3 v4 v5 v6))] [row v20 3 ri ([x18.2.2.1] : List Int), row v13 41 CI x3, Bp v10 44 Dk g_x19.1, row v16 26 CW.hr g_x20.1, Gq (List.map CW.it (Ah (Ah g_x20.1 x18.1 ((v18.1), 2, (Ah (v18.2.2) x18.2.1 ((v19.1), 0, [])))) x18.1 ((v18.1), 2, (Ah (Ah (v18.2.2) x18.2.1 ((v19.1), 0, [])) x18.2.1 (v21, 2, x27)))))] w := F
        refine Cn (N2 := []) (NZ2 := []) (N3 := [(some 21, b3, [Jint x18.1, Jint x18.2.1, Jint x18.2.2.1, Jint x18.2.2.2]), (some 19, b3, [Jint x18.1, Jint x18.2.1, Jint x18.2.2.1, Jint x18.2.2.2]), (some 18, b3, [Jint x18.1, Jint x18.2.1, Jint x18.2.2.1, Jint x18.2.2.2])]) (NZ3 := [(some 21, row v16 26 CW.hr g_x20.1), (some 19, row v16 26 CW.hr g_x20.1), (some 19, Gq (List.map CW.it g_x20.1))]) F Aa Aa (all_cons (fun h => AH (by kernel_rfl) h) (all_cons (fun h => AH (by kernel_rfl) h) (all_cons (fun h => AH (by kernel_rfl) h) Ak))) (all_cons (fun h => AH (by kernel_rfl) h) (all_cons (fun h => AH (by kernel_rfl) h) (all_cons (fun h => AH (by kernel_rfl) h) Ak))) ?_
        refine Hd ?_
        have F := Stw.dJoinE (lx := (Ah (Ah g_x20.1 x18.1 ((v18.1), 2, (Ah (v18.2.2) x18.2.1 ((v19.1), 0, [])))) x18.1 ((v18.1), 2, (Ah (Ah (v18.2.2) x18.2.1 ((v19.1), 0, [])) x18.2.1 (v21, 2, x27))))) [row v20 3 ri ([x18.2.2.1] : List Int), row v13 41 CI x3, Bp v10 44 Dk g_x19.1] F h38
        have F : sy Y w0 [(b3, (Cj x18)), (b2, [Jint x8.1, Jint x8.2.1, (v15.2.2.1)]), (b1, (DP p0 v1 v2 v3 v4 v5 v6))] [Bp v16 26 CW (Ah (Ah g_x20.1 x18.1 ((v18.1), 2, (Ah (v18.2.2) x18.2.1 ((v19.1), 0, [])))) x18.1 ((v18.1), 2, (Ah (Ah (v18.2.2) x18.2.1 ((v19.1), 0, [])) x18.2.1 (v21, 2, x27)))), row v20 3 ri ([x18.2.2.1] : List Int), row v13 41 CI x3, Bp v10 44 Dk g_x19.1] w := F
        refine Ab ?_
        refine Ik 10 F MO (by kernel_rfl) ?_
        refine qs W Aa (Ai W Aa).q fun a W => ?_
        refine qs W Aa (Ax I8 Aa Aa Aa T3 W Aa 0 Aa).q fun a W => ?_
        refine qs W Aa (Bx (v := Jint x18.1) 0 W Aa Aa T3 Aa).q fun a W => ?_
        obtain ⟨x29, h39, H⟩ := Ac H
        obtain ⟨v23, h40, h41⟩ := EP (er := Fo) g_x19.2 h39
        refine qs W Aa (Al (r := Dk.hr) PV W Aa Aa (NG.hd (Jr 3 Aa)) h40).q fun a W => ?_
        have h42 : Dk.cells v23 = [(v23.1)] := congrArg (fun q : Nat × List Int => ([(v23.1)] : List Value)) h41
        refine qs W Aa (Ag (y := (v23.1)) (j := 0) (i := x18.1) (enc := Dk.cells) W Aa Aa (NG.hd (Jr 3 Aa)) h40 Dk.flat NJ (by rw [h42]; rfl)).q fun a W => ?_
        refine qs W Aa (Ax I8 Aa Aa Aa T3 W Aa 1 Aa).q fun a W => ?_
        refine qs W Aa (Bx (v := Jint x18.2.1) 0 W Aa Aa T3 Aa).q fun a W => ?_
        refine qs W Aa (Ax I8 Aa Aa Aa T3 W Aa 2 Aa).q fun a W => ?_
        refine qs W Aa (Bx (v := Jint x18.2.2.1) 0 W Aa Aa T3 Aa).q fun a W => ?_
        obtain ⟨x30, h43, H⟩ := Ac H
        obtain ⟨x31, h44, H⟩ := Ac H
        refine qs W Aa (Al (r := ri) EM W Aa Aa (NG.sl (k := x29.1) (l := x29.2) (Jr 3 Aa) h40 Foc.here (congrArg (fun q : Nat × List Int => q) h41) (Ve h44)) h43).q fun a W => ?_
        refine AA fun w F => ?_
        obtain ⟨x32, h45, H⟩ := Ac H
        have F := F.frontZ (i := 3) Aa Aa
        have F := F.dTakeR h40 Foc.here ((congrArg (fun q : Nat × List Int => q) h41).trans (Prod.ext (Lg h45) Aa))
        have h46 : List.map Fo (Ah g_x19.1 x18.1 ((v23.1), 0, [])) = (Ah x19 x18.1 (0, [])) := (JE g_x19.2 (congrArg (fun q : Nat × List Int => (0, [])) h41))
        have F : sy Y w0 [(b3, (Cj x18)), (b2, [Jint x8.1, Jint x8.2.1, (v15.2.2.1)]), (b1, (DP p0 v1 v2 v3 v4 v5 v6))] [row (v23.1) 3 ri x29.2, Bp v10 44 Dk (Ah g_x19.1 x18.1 ((v23.1), 0, [])), Bp v16 26 CW (Ah (Ah g_x20.1 x18.1 ((v18.1), 2, (Ah (v18.2.2) x18.2.1 ((v19.1), 0, [])))) x18.1 ((v18.1), 2, (Ah (Ah (v18.2.2) x18.2.1 ((v19.1), 0, [])) x18.2.1 (v21, 2, x27)))), row v20 3 ri ([x18.2.2.1] : List Int), row v13 41 CI x3] w := F
        refine A0 (i := x18.2.1) (j := 0) (vs := [Jint x18.2.2.1]) (x' := x18.2.2.1) W F Aa Aa Aa (k := 0) Aa Aa h43 T3 Aa Aa Aa Aa (fun A cs _ => Fl.int.sto (by rfl) _ _ _) fun w F => ?_
        have F := F.frontZ (i := 1) Aa Aa
        have F := F.frontZ (i := 1) Aa Aa
        have F := F.dBackR (x2 := ((v23.1), 2, (Ah x29.2 x18.2.1 x18.2.2.1))) h40 Foc.here Aa Aa
        have h47 : List.map Fo (Ah g_x19.1 x18.1 ((v23.1), 2, (Ah x29.2 x18.2.1 x18.2.2.1))) = (Ah x19 x18.1 (2, (Ah x29.2 x18.2.1 x18.2.2.1))) := (JE g_x19.2 (congrArg (fun q : Nat × List Int => (2, (Ah x29.2 x18.2.1 x18.2.2.1))) h41))
        have F : sy Y w0 [(b3, (Cj x18)), (b2, [Jint x8.1, Jint x8.2.1, (v15.2.2.1)]), (b1, (DP p0 v1 v2 v3 v4 v5 v6))] [Bp v10 44 Dk (Ah g_x19.1 x18.1 ((v23.1), 2, (Ah x29.2 x18.2.1 x18.2.2.1))), Bp v16 26 CW (Ah (Ah g_x20.1 x18.1 ((v18.1), 2, (Ah (v18.2.2) x18.2.1 ((v19.1), 0, [])))) x18.1 ((v18.1), 2, (Ah (Ah (v18.2.2) x18.2.1 ((v19.1), 0, [])) x18.2.1 (v21, 2, x27)))), row v20 3 ri ([x18.2.2.1] : List Int), row v13 41 CI x3] w := F
        refine FC (Aw (Ab ?_))
        have F := F.frontZ (i := 1) Aa Aa
        have F := F.frontZ (i := 1) Aa Aa
        have F := F.frontZ (i := 3) Aa Aa
        have F := F.frontM (i := 2) Aa Aa
        have F := F.frontM (i := 2) Aa Aa
        have F := F.sub (M' := [(b2, [Jint x8.1, Jint x8.2.1, (v15.2.2.1)]), (b1, (DP p0 v1 v2 v3 v4 v5 v6))]) (Z' := [row v13 41 CI x3, Bp v10 44 Dk (Ah g_x19.1 x18.1 ((v23.1), 2, (Ah x29.2 x18.2.1 x18.2.2.1))), Bp v16 26 CW (Ah (Ah g_x20.1 x18.1 ((v18.1), 2, (Ah (v18.2.2) x18.2.1 ((v19.1), 0, [])))) x18.1 ((v18.1), 2, (Ah (Ah (v18.2.2) x18.2.1 ((v19.1), 0, [])) x18.2.1 (v21, 2, x27))))]) (sc (sc nl)) (sc (sc (sc nl)))
        exact ⟨_, _, ⟨(Ah g_x19.1 x18.1 ((v23.1), 2, (Ah x29.2 x18.2.1 x18.2.2.1))), h47⟩, ⟨(Ah (Ah g_x20.1 x18.1 ((v18.1), 2, (Ah (v18.2.2) x18.2.1 ((v19.1), 0, [])))) x18.1 ((v18.1), 2, (Ah (Ah (v18.2.2) x18.2.1 ((v19.1), 0, [])) x18.2.1 (v21, 2, x27)))), h37⟩, H, W.ra Aa, F⟩
       refine AE (Aw (Ab ?_))
       have F := F.frontZ (i := 2) Aa Aa
       have F := F.frontZ (i := 2) Aa Aa
       have F := F.frontZ (i := 2) Aa Aa
       have F := F.frontM (i := 2) Aa Aa
       have F := F.frontM (i := 2) Aa Aa
       have F := F.sub (M' := [(b2, [Jint x8.1, Jint x8.2.1, (v15.2.2.1)]), (b1, (DP p0 v1 v2 v3 v4 v5 v6))]) (Z' := [row v13 41 CI x3, Bp v10 44 Dk g_x19.1, Bp v16 26 CW g_x20.1]) (sc (sc nl)) sr
       exact ⟨_, _, ⟨g_x19.1, g_x19.2⟩, ⟨g_x20.1, g_x20.2⟩, H, W.ra Aa, F⟩
      rintro a w ⟨x16, x17, g_x16, g_x17, hj, W, F⟩
      have hj := Ay hj
      subst hj
      have H := K6
      clear G6 K6
      refine vc tk 4 W F fun a w W F => ?_
      refine Ab ?_
      have F := F.frontZ (i := 2) Aa Aa
      have F := F.frontZ (i := 2) Aa Aa
      have F := F.frontZ (i := 2) Aa Aa
      have F := F.frontM (i := 1) Aa Aa
      have F := F.frontM (i := 1) Aa Aa
      exact ⟨_, H, ⟨g_x16.1, g_x16.2⟩, ⟨g_x17.1, g_x17.2⟩, W.ra Aa, F⟩
     refine AC ?_
     iterate 2 refine AR ?_
     refine AD (Ab ?_)
     have F := F.frontZ (i := 2) Aa Aa
     have F := F.frontZ (i := 2) Aa Aa
     have F := F.frontZ (i := 2) Aa Aa
     have F := F.frontM (i := 1) Aa Aa
     have F := F.frontM (i := 1) Aa Aa
     have H := L5 _ H
     exact ⟨_, _, ⟨g_x13.1, g_x13.2⟩, ⟨g_x14.1, g_x14.2⟩, H, W.ra Aa, F⟩
    rintro a w ⟨x11, x12, g_x11, g_x12, hj, W, F⟩
    have hj := Ay hj
    subst hj
    have H := K4
    clear G4 K4
    refine Jk tk 5 [1] W F (ai fun a w W F => ?_)
    refine ls W F Aa (BP (r := IE) (l := p0.1.2.2) OH Aa W Aa (Ae h_v2)).q fun a w W F => ?_
    refine BQ tk 4 W F fun a w W F => ?_
    have F := F.frontZ (i := 2) Aa Aa
    have F := F.frontZ (i := 2) Aa Aa
    have F := F.frontZ (i := 2) Aa Aa
    have F := F.frontM (i := 1) Aa Aa
    have F := F.frontM (i := 1) Aa Aa
    refine AN H (fun s a w => ∃ v24 : Value, Fr 90 [] [(1, pp b1), (2, .slice none 0 0), (3, v24), (4, v10), (5, Jint x5), (7, v16), (16, v6), (17, Jint (p0.2.2.2.2.1.length : Int)), (18, Jint x5), (76, Jint (p0.1.2.2.length : Int)), (77, Jint s.2)] a ∧ sy Y w0 [(b2, [Jint x8.1, Jint x8.2.1, (v15.2.2.1)]), (b1, (DP p0 v1 v2 v3 v4 v5 v6))] [row v24 41 CI s.1, Bp v10 44 Dk g_x11.1, Bp v16 26 CW g_x12.1] w) ⟨(v13), W.ra Aa, F⟩ fun s o a w H L8 hR => ?_
    obtain ⟨x33, x34⟩ := s
    obtain ⟨v24, W, F⟩ := hR
    have W : Fr 90 [] [(1, pp b1), (2, .slice none 0 0), (3, v24), (4, v10), (5, Jint x5), (7, v16), (16, v6), (17, Jint (p0.2.2.2.2.1.length : Int)), (18, Jint x5), (76, Jint (p0.1.2.2.length : Int)), (77, Jint x34)] a := W
    have F : sy Y w0 [(b2, [Jint x8.1, Jint x8.2.1, (v15.2.2.1)]), (b1, (DP p0 v1 v2 v3 v4 v5 v6))] [row v24 41 CI x33, Bp v10 44 Dk g_x11.1, Bp v16 26 CW g_x12.1] w := F
    rw [B0] at H
    refine vc tk 6 W F fun a w W F => ?_
    refine AW W Aa H (fun W H => ?_) fun W H => ?_
    ·
     refine Lj tk 16 [1] W F (ai fun a w W F => ?_)
     obtain ⟨x35, h48, H⟩ := Ac H
     obtain ⟨x36, h49, H⟩ := Ac H
     refine A9 (Ml := []) (Zl := []) (β := Value) (rv := fun x => x) (MM := fun x => []) (ZZ := fun x => [row x 41 CI x36]) W F aY Aa Aa (fun hL => Kz _ w (v1) (v2) (v3) (v4) (v5) (v6) (v16) p0 x35 x5 x34 _ h49 ((Ae h_v1) w F).nx ((Ae h_v2) w F).nx ((AL CK h1 (Ae h_v3)) w F).nx ((AL CK h2 (Ae h_v4)) w F).nx ((Ae h_v5) w F).nx ((AL Gh h3 (Ae h_v6)) w F).nx ((NG.plain Y1 g_x12.2 h48 (Jr 2 Aa)) w F).nx) fun x a w W F => ?_
     obtain ⟨v25, rfl⟩ : ∃ y, y = x := ⟨x, rfl⟩
     have F : sy Y w0 [(b2, [Jint x8.1, Jint x8.2.1, (v15.2.2.1)]), (b1, (DP p0 v1 v2 v3 v4 v5 v6))] [row v25 41 CI x36, row v24 41 CI x33, Bp v10 44 Dk g_x11.1, Bp v16 26 CW g_x12.1] w := F
     obtain ⟨x37, h50, H⟩ := Ac H
     refine Di (r := CI) (i := 1) W F Aa PW Aa Aa Aa Aa (D1 F 0 Aa) h50 Aa fun v26 a w W F => ?_
     have F : sy Y w0 [(b2, [Jint x8.1, Jint x8.2.1, (v15.2.2.1)]), (b1, (DP p0 v1 v2 v3 v4 v5 v6))] [row v26 41 CI x37, row v25 41 CI x36, Bp v10 44 Dk g_x11.1, Bp v16 26 CW g_x12.1] w := F
     refine vl tk 2 W F fun a w W F => ?_
     refine Aw ?_
     refine vn tk 4 W F fun a w W F => ?_
     refine Ab ?_
     have F := F.frontZ (i := 3) Aa Aa
     have F := F.frontZ (i := 3) Aa Aa
     have F := F.frontZ (i := 2) Aa Aa
     have F := F.frontM (i := 1) Aa Aa
     have F := F.frontM (i := 1) Aa Aa
     have F := F.sub (M' := [(b2, [Jint x8.1, Jint x8.2.1, (v15.2.2.1)]), (b1, (DP p0 v1 v2 v3 v4 v5 v6))]) (Z' := [row v26 41 CI x37, Bp v10 44 Dk g_x11.1, Bp v16 26 CW g_x12.1]) sr (sc (sc (sc nl)))
     exact ⟨_, H, (v26), W.ra Aa, F⟩
    refine AC ?_
    iterate 2 refine AR ?_
    refine AD (Aw (Ab ?_))
    have F := F.frontZ (i := 1) Aa Aa
    have F := F.frontZ (i := 1) Aa Aa
    have F := F.frontM (i := 1) Aa Aa
    have F := F.sub (M' := (C3 b1 p0 v1 v2 v3 v4 v5 v6)) (Z' := [row v24 41 CI x33, Bp v10 44 Dk g_x11.1]) (sc nl) (sc (sc nl))
    have H := L8 _ H
    exact ⟨_, _, (v24), ⟨g_x11.1, g_x11.2⟩, H, W.ra Aa, F⟩
   rintro a w ⟨x6, x7, v14, g_x7, hj, W, F⟩
   have hj := Ay hj
   subst hj
   have H := K3
   clear G3 K3
   refine vc tk 4 W F fun a w W F => ?_
   refine Ab ?_
   have F := F.frontZ (i := 1) Aa Aa
   have F := F.frontZ (i := 1) Aa Aa
   exact ⟨_, H, (v14), ⟨g_x7.1, g_x7.2⟩, W.ra Aa, F⟩
  refine AC ?_
  iterate 2 refine AR ?_
  refine AD (Ab ?_)
  have F := F.sub (M' := (C3 b1 p0 v1 v2 v3 v4 v5 v6)) (Z' := [row v13 41 CI x3]) sr (sc nl)
  have H := L2 _ H
  exact ⟨_, (v13), H, W.ra Aa, F⟩
 rintro a w ⟨x2, v12, hj, W, F⟩
 have hj := Ay hj
 subst hj
 have H := K1
 clear G1 K1
 refine vc tk 6 W F fun a w W F => ?_
 refine Ap ?_
 have H := Ay H
 subst H
 refine A1 (.inl Aa) W F Aa (Am W Aa) ?_
 have F := F.sub (M' := []) (Z' := [row v12 41 CI x2]) nl sr
 exact ⟨(v12), Aa, F⟩
theorem WX : type_of% Tryz.underlying76 := Tryz.underlying76
theorem aJ : Has Tryz.prog 19 := Cv Tryz.func19
theorem bS : (Tryz.prog.info? 37).bind (·.zero) = some (.slice none 0 0) := by kernel_rfl
theorem Zd : Et Tryz.prog 76 37 1 24 := Et.of WX (by kernel_rfl) (by kernel_rfl) (by kernel_rfl) (by decide)
abbrev YZ (p : Value × List (Int × Int × Int)) : List (Int × Int × Int) := p.2
theorem W9 : Ex (Rp.slice CI) (Rp.vsl CI) YZ := Ex.sliceF
abbrev TK (a : Value × List (Int × Int × Int)) : List Value := [a.1]
theorem X4 : Ke (Rp.vsl CI) TK := Ke.vsl
theorem Zt : Ty Tryz.prog 37 false 1 := ⟨by kernel_rfl, by kernel_rfl⟩
theorem I9 : (Tryz.prog.underlying 9).map (fun d => match d with | .interface _ => true | _ => false) = some false := by kernel_rfl
def Bh (p1 : Int) : Option (List (Int × Int × Int)) := (if p1 < 0 then none else (if 0 < (An (p1 - (An (0 - (([] : List (Int × Int × Int)).length : Int))))) then (Jz ([] : List (Int × Int × Int)) 0 0).bind fun x2 => (XI 0 (An (p1 - (An (0 - (([] : List (Int × Int × Int)).length : Int))))).toNat).bind fun x3 => (mk (An (p1 - (An (0 - (([] : List (Int × Int × Int)).length : Int))))) ((0, 0, 0) : Int × Int × Int)).bind fun x4 => (Jz x4 0 (([] : List (Int × Int × Int)).length : Int)).bind fun x5 => some x5 else some ([])).bind fun x1 => some x1)
theorem FZ (Y : Nat → Prop) (w0 : World)  (p1 : Int) (r : (List (Int × Int × Int))) (H : Bh p1 = some r)  :
    ca_ 31 #[.slice none 0 0, Jint p1] w0 fun e w' => ∃ x : Value, e = .returned (x) ∧ sy Y w0 [] [row (x) 41 CI r] w' := by
 refine enter Tryz.func31 Aa Tryz.ntmps31 Aa fun a W => ?_
 have F := Stw.start Y w0
 unfold Bh at H
 refine vc tk 12 W F fun a w W F => ?_
 refine AW W Aa H (fun W H => ?_) fun W H => ?_
 ·
  refine On ?_
  refine ls W F Aa (Nd I9 W Aa).q fun a w W F => ?_
  exact nomatch H
 refine AE (Ab ?_)
 obtain ⟨o1, G1, K1⟩ := Ac H
 refine As (fun a w => ∃ x1 : List (Int × Int × Int), ∃ v1 : Value, some (x1) = some o1 ∧ Fr 27 [] [(0, v1), (4, .slice none 0 0)] a ∧ sy Y w0 [] [row v1 41 CI x1] w) ?_ ?_
 ·
  have H := G1
  clear G1 K1
  refine vc tk 4 W F fun a w W F => ?_
  refine ls W F Aa (T7 ON Aa W Aa).q fun a w W F => ?_
  refine ls W F Aa (Ai W Aa).q fun a w W F => ?_
  refine ls W F Aa (BP (r := CI) (l := ([] : List (Int × Int × Int))) ON Aa W Aa PD).q fun a w W F => ?_
  refine BQ tk 11 W F fun a w W F => ?_
  refine AW W Aa H (fun W H => ?_) fun W H => ?_
  ·
   refine vc tk 3 W F fun a w W F => ?_
   refine ls W F Aa (T7 ON Aa W Aa).q fun a w W F => ?_
   obtain ⟨x2, h1, H⟩ := Ac H
   refine ls W F Aa (Kn (r := CI) PW W Aa Aa Aa PD h1).q fun a w W F => ?_
   refine ls W F Aa (Ai W Aa).q fun a w W F => ?_
   obtain ⟨x3, h2, H⟩ := Ac H
   obtain ⟨x4, h3, H⟩ := Ac H
   refine RH (r := CI) ((0, 0, 0) : Int × Int × Int) W F Aa PW WY Q3 Aa Aa (W4 h2) (fun w A => UH.mk' w A ((0, 0, 0) : Int × Int × Int)) h3 Aa fun v2 a w W F => ?_
   have F : sy Y w0 [] [row v2 41 CI x4] w := F
   refine ls W F Aa (Ai W Aa).q fun a w W F => ?_
   refine ls W F Aa (BP (r := CI) (l := ([] : List (Int × Int × Int))) ON Aa W Aa PD).q fun a w W F => ?_
   obtain ⟨x5, h4, H⟩ := Ac H
   refine ls W F Aa (Kn (r := CI) PW W Aa Aa Aa (Af 0 Aa) h4).q fun a w W F => ?_
   refine vl tk 2 W F fun a w W F => ?_
   refine Ab ?_
   have F := F.subRow (k := 0) Aa Aa h4
   exact ⟨_, ((EG v2 (0 : Int) (([] : List (Int × Int × Int)).length : Int) 3)), H, W.ra Aa, F⟩
  refine AE (Ab ?_)
  have F := F.nilRow 41 CI
  exact ⟨_, (Value.slice none 0 0), H, W.ra Aa, F⟩
 rintro a w ⟨x1, v1, hj, W, F⟩
 have hj := Ay hj
 subst hj
 have H := K1
 clear G1 K1
 refine vc tk 6 W F fun a w W F => ?_
 refine Ap ?_
 have H := Ay H
 subst H
 refine A1 (.inl Aa) W F Aa (Am W Aa) ?_
 exact ⟨(v1), Aa, F⟩
theorem aZ : Has Tryz.prog 31 := Cv Tryz.func31
def AU (p0 : List (List (Int × Int × Int))) : (Int × Int) → Option ((Int × Int) ⊕ Int)
  | (x2, x3) => (if x3 < (p0.length : Int) then (ix p0 x3).bind fun x4 => (if (An (x2 + (x4.length : Int))) < 0 then none else some (.inl (An (x2 + (x4.length : Int)), An (x3 + 1)))) else some (.inr x2))
def AS (p0 : List (List (Int × Int × Int))) : ((List (Int × Int × Int)) × Int) → Option (((List (Int × Int × Int)) × Int) ⊕ (List (Int × Int × Int)))
  | (x7, x8) => (if x8 < (p0.length : Int) then (ix p0 x8).bind fun x9 => (HN x7 x9).bind fun x10 => some (.inl (x10, An (x8 + 1))) else some (.inr x7))
def Bd (p0 : List (List (Int × Int × Int))) : Option (List (Int × Int × Int)) := (Aq (AU p0) (0, 0)).bind fun x1 => (Bh x1).bind fun x5 => (Aq (AS p0) (x5, 0)).bind fun x6 => some x6
theorem FM (Y : Nat → Prop) (w0 : World) (v1 : Value) (p0 : List (List (Int × Int × Int))) (r : (List (Int × Int × Int))) (H : Bd p0 = some r) (s_v1 : Sl w0 Y (Rp.slice CI) v1 p0) :
    ca_ 15 #[v1] w0 fun e w' => ∃ x : Value, e = .returned (x) ∧ sy Y w0 [] [row (x) 41 CI r] w' := by
 refine enter Tryz.func15 Aa Tryz.ntmps15 Aa fun a W => ?_
 have F := Stw.start Y w0
 obtain ⟨v2, h1, s_v1⟩ := s_v1.ex W9
 have h_v1 := F.nx s_v1
 unfold Bd at H
 refine vc tk 10 W F fun a w W F => ?_
 obtain ⟨o1, G1, K1⟩ := Ac H
 refine As (fun a w => ∃ x1 : Int, some (x1) = some o1 ∧ Fr 36 [] [(0, v1), (2, .slice none 0 0), (3, Jint x1)] a ∧ sy Y w0 [] [] w) ?_ ?_
 ·
  have H := G1
  clear G1 K1
  refine vc tk 3 W F fun a w W F => ?_
  refine ls W F Aa (BP (r := (Rp.slice CI)) (l := p0) WX Aa W Aa (AL W9 h1 (Ae h_v1))).q fun a w W F => ?_
  refine BQ tk 4 W F fun a w W F => ?_
  refine AN H (fun s a w => Fr 36 [] [(0, v1), (2, .slice none 0 0), (3, Jint s.1), (9, v1), (10, Jint (p0.length : Int)), (11, Jint s.2)] a ∧ sy Y w0 [] [] w) ⟨W.ra Aa, F⟩ fun s o a w H L2 hR => ?_
  obtain ⟨x2, x3⟩ := s
  obtain ⟨W, F⟩ := hR
  have W : Fr 36 [] [(0, v1), (2, .slice none 0 0), (3, Jint x2), (9, v1), (10, Jint (p0.length : Int)), (11, Jint x3)] a := W
  have F : sy Y w0 [] [] w := F
  rw [AU] at H
  refine vc tk 6 W F fun a w W F => ?_
  refine AW W Aa H (fun W H => ?_) fun W H => ?_
  ·
   refine FL tk 6 W F fun a w W F => ?_
   obtain ⟨x4, h2, H⟩ := Ac H
   obtain ⟨v3, h3, h4⟩ := EP h1 h2
   have h5 : TK v3 = [(v3.1)] := congrArg (fun q : List (Int × Int × Int) => ([(v3.1)] : List Value)) h4
   refine ls W F Aa (Al (r := (Rp.vsl CI)) Zd W Aa Aa (Ae h_v1) h3).q fun a w W F => ?_
   refine ls W F Aa (Ag (y := (v3.1)) (j := 0) (i := x3) (enc := TK) W Aa Aa (Ae h_v1) h3 X4 Zt (by rw [h5]; rfl)).q fun a w W F => ?_
   refine BQ tk 7 W F fun a w W F => ?_
   refine ls W F Aa (BP (r := CI) (l := x4) ON Aa W Aa (C9 (Ae h_v1) h3 DA.here (congrArg (fun q : List (Int × Int × Int) => q) h4))).q fun a w W F => ?_
   refine BQ tk 10 W F fun a w W F => ?_
   refine AW W Aa H (fun W H => ?_) fun W H => ?_
   ·
    refine On ?_
    refine ls W F Aa (Nd I9 W Aa).q fun a w W F => ?_
    exact nomatch H
   refine AE (Aw ?_)
   refine vn tk 4 W F fun a w W F => ?_
   refine Ab ?_
   exact ⟨_, H, W.ra Aa, F⟩
  refine AC ?_
  iterate 2 refine AR ?_
  refine AD (Ab ?_)
  have H := L2 _ H
  exact ⟨_, H, W.ra Aa, F⟩
 rintro a w ⟨x1, hj, W, F⟩
 have hj := Ay hj
 subst hj
 have H := K1
 clear G1 K1
 refine vc tk 3 W F fun a w W F => ?_
 obtain ⟨x5, h6, H⟩ := Ac H
 refine A9 (Ml := []) (Zl := []) (β := Value) (rv := fun x => x) (MM := fun x => []) (ZZ := fun x => [row x 41 CI x5]) W F aZ Aa Aa (fun hL => FZ _ w x1 _ h6) fun x a w W F => ?_
 obtain ⟨v4, rfl⟩ : ∃ y, y = x := ⟨x, rfl⟩
 have F : sy Y w0 [] [row v4 41 CI x5] w := F
 refine vl tk 2 W F fun a w W F => ?_
 refine Ab ?_
 obtain ⟨o3, G3, K3⟩ := Ac H
 refine As (fun a w => ∃ x6 : List (Int × Int × Int), ∃ v5 : Value, some (x6) = some o3 ∧ Fr 36 [] [(2, .slice none 0 0), (6, v5)] a ∧ sy Y w0 [] [row v5 41 CI x6] w) ?_ ?_
 ·
  have H := G3
  clear G3 K3
  refine vc tk 3 W F fun a w W F => ?_
  refine ls W F Aa (BP (r := (Rp.slice CI)) (l := p0) WX Aa W Aa (AL W9 h1 (Ae h_v1))).q fun a w W F => ?_
  refine BQ tk 4 W F fun a w W F => ?_
  refine AN H (fun s a w => ∃ v6 : Value, Fr 36 [] [(2, .slice none 0 0), (6, v6), (25, v1), (26, Jint (p0.length : Int)), (27, Jint s.2)] a ∧ sy Y w0 [] [row v6 41 CI s.1] w) ⟨(v4), W.ra Aa, F⟩ fun s o a w H L4 hR => ?_
  obtain ⟨x7, x8⟩ := s
  obtain ⟨v6, W, F⟩ := hR
  have W : Fr 36 [] [(2, .slice none 0 0), (6, v6), (25, v1), (26, Jint (p0.length : Int)), (27, Jint x8)] a := W
  have F : sy Y w0 [] [row v6 41 CI x7] w := F
  rw [AS] at H
  refine vc tk 6 W F fun a w W F => ?_
  refine AW W Aa H (fun W H => ?_) fun W H => ?_
  ·
   refine FL tk 6 W F fun a w W F => ?_
   obtain ⟨x9, h7, H⟩ := Ac H
   obtain ⟨v7, h8, h9⟩ := EP h1 h7
   have h10 : TK v7 = [(v7.1)] := congrArg (fun q : List (Int × Int × Int) => ([(v7.1)] : List Value)) h9
   refine ls W F Aa (Al (r := (Rp.vsl CI)) Zd W Aa Aa (Ae h_v1) h8).q fun a w W F => ?_
   refine ls W F Aa (Ag (y := (v7.1)) (j := 0) (i := x8) (enc := TK) W Aa Aa (Ae h_v1) h8 X4 Zt (by rw [h10]; rfl)).q fun a w W F => ?_
   refine BQ tk 6 W F fun a w W F => ?_
   obtain ⟨x10, h11, H⟩ := Ac H
   refine Di (r := CI) (i := 0) W F Aa PW Aa Aa Aa Aa (Sl.src (Sl.at_ (F.old s_v1) h8 DA.here (congrArg (fun q : List (Int × Int × Int) => q) h9))) h11 Aa fun v8 a w W F => ?_
   have F : sy Y w0 [] [row v8 41 CI x10] w := F
   refine vl tk 2 W F fun a w W F => ?_
   refine Aw ?_
   refine vn tk 4 W F fun a w W F => ?_
   refine Ab ?_
   exact ⟨_, H, (v8), W.ra Aa, F⟩
  refine AC ?_
  iterate 2 refine AR ?_
  refine AD (Ab ?_)
  have H := L4 _ H
  exact ⟨_, (v6), H, W.ra Aa, F⟩
 rintro a w ⟨x6, v5, hj, W, F⟩
 have hj := Ay hj
 subst hj
 have H := K3
 clear G3 K3
 refine vc tk 6 W F fun a w W F => ?_
 refine Ap ?_
 have H := Ay H
 subst H
 refine A1 (.inl Aa) W F Aa (Am W Aa) ?_
 exact ⟨(v5), Aa, F⟩
theorem aK : Has Tryz.prog 15 := Cv Tryz.func15
abbrev J3 (a0 : Int × (List (Int × Int × Int × Int × Int × Int)) × (List (Int × Int))) (a1 : Value) (a2 : Value) (a3 : Value) (a4 : Value) (a5 : Value) (a6 : Value) (a7 : (List (Int × Int × Int × Int)) × (List (Int × Int × List Int)) × Int × Int × Int × Int) : List Value := [Jint a0.1, a1, a2, a3, a4, a5, a6, Jint a7.2.2.1, Jint a7.2.2.2.1, Jint a7.2.2.2.2.1, Jint a7.2.2.2.2.2]
def EH (p0 : Int × (List (Int × Int × Int × Int × Int × Int)) × (List (Int × Int))) (p1 : List (List Int)) (p2 : List (List Int)) (p3 : (List (Int × Int × Int × Int)) × (List (Int × Int × List Int)) × Int × Int × Int × Int) : Option (List (Int × Int × Int)) := ((Fi p0 p1).bind fun x2 => (if (!x2) = true then some true else (Fi p0 p2).bind fun x3 => some (!x3))).bind fun x1 => (if x1 = true then some ([(1, 0, 0)] : List (Int × Int × Int)) else (Do (p0, p1, p2, p3)).bind fun x4 => (DG (p0, p1, p2, p3)).bind fun x5 => (DK (p0, p1, p2, p3)).bind fun x6 => (Dd (p0, p1, p2, p3)).bind fun x7 => (Bd ([x4, x5, x6, x7] : List (List (Int × Int × Int)))).bind fun x8 => some x8)
theorem Ia (Y : Nat → Prop) (w0 : World) (v1 : Value) (v2 : Value) (v3 : Value) (v4 : Value) (v5 : Value) (v6 : Value) (p0 : Int × (List (Int × Int × Int × Int × Int × Int)) × (List (Int × Int))) (p1 : List (List Int)) (p2 : List (List Int)) (p3 : (List (Int × Int × Int × Int)) × (List (Int × Int × List Int)) × Int × Int × Int × Int) (r : (List (Int × Int × Int))) (H : EH p0 p1 p2 p3 = some r) (h_v1 : Sl w0 (NX []) IP v1 p0.2.1) (h_v2 : Sl w0 (NX []) IE v2 p0.2.2) (s_v3 : Sl w0 Y (Rp.slice ri) v3 p1) (h_v4 : Sl w0 (NX []) (Rp.slice ri) v4 p2) (h_v5 : Sl w0 (NX []) AY v5 p3.1) (h_v6 : Sl w0 (NX []) GO v6 p3.2.1) :
    ca_ 8 #[.agg #[Jint p0.1, v1, v2], v3, v4, .agg #[v5, v6, Jint p3.2.2.1, Jint p3.2.2.2.1, Jint p3.2.2.2.2.1, Jint p3.2.2.2.2.2]] w0 fun e w' => ∃ x : Value, e = .returned (x) ∧ sy Y w0 [] [row (x) 41 CI r] w' := by
 refine enter Tryz.func8 Aa Tryz.ntmps8 Aa fun a W => ?_
 have F := Stw.start Y w0
 obtain ⟨v7, h1, s_v3⟩ := s_v3.ex CK
 obtain ⟨v8, h2, h_v4⟩ := h_v4.ex CK
 obtain ⟨v9, h3, h_v6⟩ := h_v6.ex Gh
 have h_v3 := F.nx s_v3
 unfold EH at H
 refine vc tk 2 W F fun a w W F => ?_
 refine D3 (cs := [Jint p0.1, v1, v2]) W F Aa Aa Aa fun b1 a w W F => ?_
 refine D3 (cs := [v5, v6, Jint p3.2.2.1, Jint p3.2.2.2.1, Jint p3.2.2.2.2.1, Jint p3.2.2.2.2.2]) W F Aa Aa Aa fun b2 a w W F => ?_
 refine BQ tk 4 W F fun a w W F => ?_
 obtain ⟨o1, G1, K1⟩ := Ac H
 refine As (fun a w => ∃ x1 : Bool, some (x1) = some o1 ∧ Fr 37 [] [(1, v3), (2, v4), (4, pp b1), (7, pp b2), (8, .slice none 0 0), (19, .bool x1)] a ∧ sy Y w0 [(b2, [v5, v6, Jint p3.2.2.1, Jint p3.2.2.2.1, Jint p3.2.2.2.2.1, Jint p3.2.2.2.2.2]), (b1, [Jint p0.1, v1, v2])] [] w) ?_ ?_
 ·
  have H := G1
  clear G1 K1
  refine Jk tk 3 [1] W F (ai fun a w W F => ?_)
  obtain ⟨x2, h4, H⟩ := Ac H
  refine ls W F Aa (Bc (v := Value.bool x2) W Yu Aa (fun w F => ID any w (v1) (v2) (v3) p0 p1 _ h4 (EJ (Ae h_v1) F) (EJ (Ae h_v2) F) (EJ (AL CK h1 (Ae h_v3)) F))) fun a w W F => ?_
  refine vl tk 2 W F fun a w W F => ?_
  rcases bxq (!x2) with hb | hb
  ·
   have H := DU hb H
   rw [hb] at W
   clear hb
   refine vl tk 6 W F fun a w W F => ?_
   refine Ab ?_
   have F := F.frontM (i := 1) Aa Aa
   have F := F.frontM (i := 1) Aa Aa
   exact ⟨_, H, W.ra Aa, F⟩
  have H := DS (by rw [hb]; decide) H
  rw [hb] at W
  clear hb
  refine Kp tk 2 [1] W F (ai fun a w W F => ?_)
  refine MI (Ad W Aa Aa Aa Aa) ?_
  obtain ⟨x3, h5, H⟩ := Ac H
  refine ls W F Aa (Bc (v := Value.bool x3) W Yu Aa (fun w F => ID any w (v1) (v2) (v4) p0 p2 _ h5 (EJ (Ae h_v1) F) (EJ (Ae h_v2) F) (EJ (AL CK h2 (Ae h_v4)) F))) fun a w W F => ?_
  refine vl tk 3 W F fun a w W F => ?_
  refine Ab ?_
  have F := F.frontM (i := 1) Aa Aa
  have F := F.frontM (i := 1) Aa Aa
  exact ⟨_, H, W.ra Aa, F⟩
 rintro a w ⟨x1, hj, W, F⟩
 have hj := Ay hj
 subst hj
 have H := K1
 clear G1 K1
 refine CS W Aa H (fun W H => ?_) fun W H => ?_
 ·
  refine vc tk 2 W F fun a w W F => ?_
  refine ls W F Aa (B9 (v := Value.agg #[Jint 1, Jint 0, Jint 0]) Vt W Aa Aa Aa).q fun a w W F => ?_
  refine D7 (z := Value.agg #[Jint 0, Jint 0, Jint 0]) (cs := [Jint 1, Jint 0, Jint 0]) CI ([(1, 0, 0)] : List (Int × Int × Int)) W F Aa PW WY Aa Aa Aa Aa Aa Aa (UH.repL _ _ ([(1, 0, 0)] : List (Int × Int × Int))) fun v10 a w W F => ?_
  refine BQ tk 3 W F fun a w W F => ?_
  refine Ap (AF ?_)
  have H := Ay H
  subst H
  refine A1 (.inl Aa) W F Aa (Am W Aa) ?_
  have F := F.sub (M' := []) (Z' := [row v10 41 CI ([(1, 0, 0)] : List (Int × Int × Int))]) nl sr
  exact ⟨(v10), Aa, F⟩
 refine Lj tk 8 [1, 0] W F (ai (ai fun a w W F => ?_))
 refine ls W F Aa (B9 (v := Value.agg #[Jint p0.1, v1, v2, v3, v4, v5, v6, Jint p3.2.2.1, Jint p3.2.2.2.1, Jint p3.2.2.2.2.1, Jint p3.2.2.2.2.2]) bV W Aa (Bb Aa Aa Aa (Bb Aa (BK h_v3.one) Aa (Bb Aa (BK h_v4.one) Aa (Bb Aa Aa Aa Ev)))) Aa).q fun a w W F => ?_
 refine B6 (cs := [Jint 0, .slice none 0 0, .slice none 0 0, .slice none 0 0, .slice none 0 0, .slice none 0 0, .slice none 0 0, Jint 0, Jint 0, Jint 0, Jint 0]) W F Aa b7 Aa fun b3 a w W F => ?_
 refine Ej 0 W F Aa Aa Aa Wt Aa Aa (AB Aa (AB h_v1.one (AB h_v2.one (AB h_v3.one (AB h_v4.one (AB h_v5.one (AB h_v6.one (AB Aa (AB Aa (AB Aa (AB Aa Ez))))))))))) fun w F => ?_
 refine BQ tk 3 W F fun a w W F => ?_
 refine ER [(true, 0), (true, 2), (true, 4), (true, 6), (false, 1), (false, 3), (false, 5), (false, 7), (false, 8), (false, 9), (false, 10)] (CN ⟨Y, [], w0⟩ [(some 1, b3, [Jint p0.1, v1, v2, v3, v4, v5, v6, Jint p3.2.2.1, Jint p3.2.2.2.1, Jint p3.2.2.2.2.1, Jint p3.2.2.2.2.2]), (some 3, b3, [Jint p0.1, v1, v2, v3, v4, v5, v6, Jint p3.2.2.1, Jint p3.2.2.2.1, Jint p3.2.2.2.2.1, Jint p3.2.2.2.2.2]), (some 5, b3, [Jint p0.1, v1, v2, v3, v4, v5, v6, Jint p3.2.2.1, Jint p3.2.2.2.1, Jint p3.2.2.2.2.1, Jint p3.2.2.2.2.2]), (some 7, b3, [Jint p0.1, v1, v2, v3, v4, v5, v6, Jint p3.2.2.1, Jint p3.2.2.2.1, Jint p3.2.2.2.2.1, Jint p3.2.2.2.2.2])] []) (fun ch a d v w h => by cases d <;> exact h) MO (by kernel_rfl) F (fun w F => ⟨_, _, F, (all_cons (fun _ => (.head _)) (all_cons (fun _ => (.head _)) (all_cons (fun _ => (.head _)) (all_cons (fun _ => (.head _)) Ak)))), Ak⟩) fun w F => ?_
 refine A6 (R := [1]) W Aa Aa (yC fun M Z hN hZ => FI (cs := (J3 p0 v1 v2 v3 v4 v5 v6 p3)) (v := Value.agg #[Jint p0.1, v1, v2, v3, v4, v5, v6, Jint p3.2.2.1, Jint p3.2.2.2.1, Jint p3.2.2.2.2.1, Jint p3.2.2.2.2.2]) W Aa (hN ((some 1), b3, (J3 p0 v1 v2 v3 v4 v5 v6 p3)) (.head _) Aa) Wt Aa) (by kernel_rfl) Aa fun a W => ?_
 refine A6 (R := [3]) W Aa Aa (yC fun M Z hN hZ => FI (cs := (J3 p0 v1 v2 v3 v4 v5 v6 p3)) (v := Value.agg #[Jint p0.1, v1, v2, v3, v4, v5, v6, Jint p3.2.2.1, Jint p3.2.2.2.1, Jint p3.2.2.2.2.1, Jint p3.2.2.2.2.2]) W Aa (hN ((some 3), b3, (J3 p0 v1 v2 v3 v4 v5 v6 p3)) (.tail _ (.head _)) Aa) Wt Aa) (by kernel_rfl) Aa fun a W => ?_
 refine A6 (R := [5]) W Aa Aa (yC fun M Z hN hZ => FI (cs := (J3 p0 v1 v2 v3 v4 v5 v6 p3)) (v := Value.agg #[Jint p0.1, v1, v2, v3, v4, v5, v6, Jint p3.2.2.1, Jint p3.2.2.2.1, Jint p3.2.2.2.2.1, Jint p3.2.2.2.2.2]) W Aa (hN ((some 5), b3, (J3 p0 v1 v2 v3 v4 v5 v6 p3)) (.tail _ (.tail _ (.head _))) Aa) Wt Aa) (by kernel_rfl) Aa fun a W => ?_
 refine A6 (R := [7]) W Aa Aa (yC fun M Z hN hZ => FI (cs := (J3 p0 v1 v2 v3 v4 v5 v6 p3)) (v := Value.agg #[Jint p0.1, v1, v2, v3, v4, v5, v6, Jint p3.2.2.1, Jint p3.2.2.2.1, Jint p3.2.2.2.2.1, Jint p3.2.2.2.2.2]) W Aa (hN ((some 7), b3, (J3 p0 v1 v2 v3 v4 v5 v6 p3)) (.tail _ (.tail _ (.tail _ (.head _)))) Aa) Wt Aa) (by kernel_rfl) Aa fun a W => ?_
 refine F1 Aa ?_
 obtain ⟨x4, h6, H⟩ := Ac H
 refine A9 (Ml := []) (Zl := []) (β := Value) (rv := fun x => x) (MM := fun x => []) (ZZ := fun x => [row x 41 CI x4]) W F bO Aa Aa (fun hL => J8 _ w (v1) (v2) (v3) (v4) (v5) (v6) (p0, p1, p2, p3) _ h6 ((Ae h_v1) w F).nx ((Ae h_v2) w F).nx ((AL CK h1 (Ae h_v3)) w F).nx ((AL CK h2 (Ae h_v4)) w F).nx ((Ae h_v5) w F).nx ((AL Gh h3 (Ae h_v6)) w F).nx) fun x a w W F => ?_
 obtain ⟨v11, rfl⟩ : ∃ y, y = x := ⟨x, rfl⟩
 have F : sy Y w0 [(b3, (J3 p0 v1 v2 v3 v4 v5 v6 p3)), (b2, [v5, v6, Jint p3.2.2.1, Jint p3.2.2.2.1, Jint p3.2.2.2.2.1, Jint p3.2.2.2.2.2]), (b1, [Jint p0.1, v1, v2])] [row v11 41 CI x4] w := F
 refine Cn (N2 := []) (NZ2 := []) (N3 := [(some 1, b3, [Jint p0.1, v1, v2, v3, v4, v5, v6, Jint p3.2.2.1, Jint p3.2.2.2.1, Jint p3.2.2.2.2.1, Jint p3.2.2.2.2.2]), (some 3, b3, [Jint p0.1, v1, v2, v3, v4, v5, v6, Jint p3.2.2.1, Jint p3.2.2.2.1, Jint p3.2.2.2.2.1, Jint p3.2.2.2.2.2]), (some 5, b3, [Jint p0.1, v1, v2, v3, v4, v5, v6, Jint p3.2.2.1, Jint p3.2.2.2.1, Jint p3.2.2.2.2.1, Jint p3.2.2.2.2.2]), (some 7, b3, [Jint p0.1, v1, v2, v3, v4, v5, v6, Jint p3.2.2.1, Jint p3.2.2.2.1, Jint p3.2.2.2.2.1, Jint p3.2.2.2.2.2])]) (NZ3 := []) F Aa Aa (all_cons (fun h => AH (by kernel_rfl) h) (all_cons (fun _ => (.head _)) (all_cons (fun _ => (.head _)) (all_cons (fun _ => (.head _)) Ak)))) Ak ?_
 refine F1 Aa ?_
 obtain ⟨x5, h7, H⟩ := Ac H
 refine A9 (Ml := []) (Zl := []) (β := Value) (rv := fun x => x) (MM := fun x => []) (ZZ := fun x => [row x 41 CI x5]) W F Z9 Aa Aa (fun hL => KS _ w (v1) (v2) (v3) (v4) (v5) (v6) (p0, p1, p2, p3) _ h7 ((Ae h_v1) w F).nx ((Ae h_v2) w F).nx ((AL CK h1 (Ae h_v3)) w F).nx ((AL CK h2 (Ae h_v4)) w F).nx ((Ae h_v5) w F).nx ((AL Gh h3 (Ae h_v6)) w F).nx) fun x a w W F => ?_
 obtain ⟨v12, rfl⟩ : ∃ y, y = x := ⟨x, rfl⟩
 have F : sy Y w0 [(b3, (J3 p0 v1 v2 v3 v4 v5 v6 p3)), (b2, [v5, v6, Jint p3.2.2.1, Jint p3.2.2.2.1, Jint p3.2.2.2.2.1, Jint p3.2.2.2.2.2]), (b1, [Jint p0.1, v1, v2])] [row v12 41 CI x5, row v11 41 CI x4] w := F
 refine Cn (N2 := []) (NZ2 := []) (N3 := [(some 1, b3, [Jint p0.1, v1, v2, v3, v4, v5, v6, Jint p3.2.2.1, Jint p3.2.2.2.1, Jint p3.2.2.2.2.1, Jint p3.2.2.2.2.2]), (some 3, b3, [Jint p0.1, v1, v2, v3, v4, v5, v6, Jint p3.2.2.1, Jint p3.2.2.2.1, Jint p3.2.2.2.2.1, Jint p3.2.2.2.2.2]), (some 5, b3, [Jint p0.1, v1, v2, v3, v4, v5, v6, Jint p3.2.2.1, Jint p3.2.2.2.1, Jint p3.2.2.2.2.1, Jint p3.2.2.2.2.2]), (some 7, b3, [Jint p0.1, v1, v2, v3, v4, v5, v6, Jint p3.2.2.1, Jint p3.2.2.2.1, Jint p3.2.2.2.2.1, Jint p3.2.2.2.2.2])]) (NZ3 := []) F Aa Aa (all_cons (fun h => AH (by kernel_rfl) h) (all_cons (fun h => AH (by kernel_rfl) h) (all_cons (fun _ => (.head _)) (all_cons (fun _ => (.head _)) Ak)))) Ak ?_
 refine F1 Aa ?_
 obtain ⟨x6, h8, H⟩ := Ac H
 refine A9 (Ml := []) (Zl := []) (β := Value) (rv := fun x => x) (MM := fun x => []) (ZZ := fun x => [row x 41 CI x6]) W F b8 Aa Aa (fun hL => KH _ w (v1) (v2) (v3) (v4) (v5) (v6) (p0, p1, p2, p3) _ h8 ((Ae h_v1) w F).nx ((Ae h_v2) w F).nx ((AL CK h1 (Ae h_v3)) w F).nx ((AL CK h2 (Ae h_v4)) w F).nx ((Ae h_v5) w F).nx ((AL Gh h3 (Ae h_v6)) w F).nx) fun x a w W F => ?_
 obtain ⟨v13, rfl⟩ : ∃ y, y = x := ⟨x, rfl⟩
 have F : sy Y w0 [(b3, (J3 p0 v1 v2 v3 v4 v5 v6 p3)), (b2, [v5, v6, Jint p3.2.2.1, Jint p3.2.2.2.1, Jint p3.2.2.2.2.1, Jint p3.2.2.2.2.2]), (b1, [Jint p0.1, v1, v2])] [row v13 41 CI x6, row v12 41 CI x5, row v11 41 CI x4] w := F
 refine Cn (N2 := []) (NZ2 := []) (N3 := [(some 1, b3, [Jint p0.1, v1, v2, v3, v4, v5, v6, Jint p3.2.2.1, Jint p3.2.2.2.1, Jint p3.2.2.2.2.1, Jint p3.2.2.2.2.2]), (some 3, b3, [Jint p0.1, v1, v2, v3, v4, v5, v6, Jint p3.2.2.1, Jint p3.2.2.2.1, Jint p3.2.2.2.2.1, Jint p3.2.2.2.2.2]), (some 5, b3, [Jint p0.1, v1, v2, v3, v4, v5, v6, Jint p3.2.2.1, Jint p3.2.2.2.1, Jint p3.2.2.2.2.1, Jint p3.2.2.2.2.2]), (some 7, b3, [Jint p0.1, v1, v2, v3, v4, v5, v6, Jint p3.2.2.1, Jint p3.2.2.2.1, Jint p3.2.2.2.2.1, Jint p3.2.2.2.2.2])]) (NZ3 := []) F Aa Aa (all_cons (fun h => AH (by kernel_rfl) h) (all_cons (fun h => AH (by kernel_rfl) h) (all_cons (fun h => AH (by kernel_rfl) h) (all_cons (fun _ => (.head _)) Ak)))) Ak ?_
 refine F1 Aa ?_
 obtain ⟨x7, h9, H⟩ := Ac H
 refine A9 (Ml := []) (Zl := []) (β := Value) (rv := fun x => x) (MM := fun x => []) (ZZ := fun x => [row x 41 CI x7]) W F aJ Aa Aa (fun hL => JN _ w (v1) (v2) (v3) (v4) (v5) (v6) (p0, p1, p2, p3) _ h9 ((Ae h_v1) w F).nx ((Ae h_v2) w F).nx (Sl.hide CK h1 (F.old s_v3)) ((AL CK h2 (Ae h_v4)) w F).nx ((Ae h_v5) w F).nx ((AL Gh h3 (Ae h_v6)) w F).nx) fun x a w W F => ?_
 obtain ⟨v14, rfl⟩ : ∃ y, y = x := ⟨x, rfl⟩
 have F : sy Y w0 [(b3, (J3 p0 v1 v2 v3 v4 v5 v6 p3)), (b2, [v5, v6, Jint p3.2.2.1, Jint p3.2.2.2.1, Jint p3.2.2.2.2.1, Jint p3.2.2.2.2.2]), (b1, [Jint p0.1, v1, v2])] [row v14 41 CI x7, row v13 41 CI x6, row v12 41 CI x5, row v11 41 CI x4] w := F
 refine Cn (N2 := []) (NZ2 := []) (N3 := [(some 1, b3, [Jint p0.1, v1, v2, v3, v4, v5, v6, Jint p3.2.2.1, Jint p3.2.2.2.1, Jint p3.2.2.2.2.1, Jint p3.2.2.2.2.2]), (some 3, b3, [Jint p0.1, v1, v2, v3, v4, v5, v6, Jint p3.2.2.1, Jint p3.2.2.2.1, Jint p3.2.2.2.2.1, Jint p3.2.2.2.2.2]), (some 5, b3, [Jint p0.1, v1, v2, v3, v4, v5, v6, Jint p3.2.2.1, Jint p3.2.2.2.1, Jint p3.2.2.2.2.1, Jint p3.2.2.2.2.2]), (some 7, b3, [Jint p0.1, v1, v2, v3, v4, v5, v6, Jint p3.2.2.1, Jint p3.2.2.2.1, Jint p3.2.2.2.2.1, Jint p3.2.2.2.2.2])]) (NZ3 := []) F Aa Aa (all_cons (fun h => AH (by kernel_rfl) h) (all_cons (fun h => AH (by kernel_rfl) h) (all_cons (fun h => AH (by kernel_rfl) h) (all_cons (fun h => AH (by kernel_rfl) h) Ak)))) Ak ?_
 refine F1 Aa ?_
 have F := F.frontZ (i := 3) Aa Aa
 have F := F.freeze
 have F := F.frontZ (i := 3) Aa Aa
 have F := F.freeze
 have F := F.frontZ (i := 3) Aa Aa
 have F := F.freeze
 have F := F.frontZ (i := 3) Aa Aa
 have F := F.freeze
 refine D7 (z := Value.slice none 0 0) (cs := [v11, v12, v13, v14]) (Rp.slice CI) ([x4, x5, x6, x7] : List (List (Int × Int × Int))) W F Aa Zd bS Aa Aa Aa (Bb Aa (BK (F.oneF (k := 3) Aa)) Aa (Bb Aa (BK (F.oneF (k := 2) Aa)) Aa (Bb Aa (BK (F.oneF (k := 1) Aa)) Aa (Bb Aa (BK (F.oneF (k := 0) Aa)) Aa Ev)))) Aa Aa ⟨[v11], _, Aa, ⟨_, Aa, (F.item (i := 3) Aa)⟩, ⟨[v12], _, Aa, ⟨_, Aa, (F.item (i := 2) Aa)⟩, ⟨[v13], _, Aa, ⟨_, Aa, (F.item (i := 1) Aa)⟩, ⟨[v14], _, Aa, ⟨_, Aa, (F.item (i := 0) Aa)⟩, Aa⟩⟩⟩⟩ fun v15 a w W F => ?_
 refine Cn (N2 := []) (NZ2 := []) (N3 := [(some 1, b3, [Jint p0.1, v1, v2, v3, v4, v5, v6, Jint p3.2.2.1, Jint p3.2.2.2.1, Jint p3.2.2.2.2.1, Jint p3.2.2.2.2.2]), (some 3, b3, [Jint p0.1, v1, v2, v3, v4, v5, v6, Jint p3.2.2.1, Jint p3.2.2.2.1, Jint p3.2.2.2.2.1, Jint p3.2.2.2.2.2]), (some 5, b3, [Jint p0.1, v1, v2, v3, v4, v5, v6, Jint p3.2.2.1, Jint p3.2.2.2.1, Jint p3.2.2.2.2.1, Jint p3.2.2.2.2.2]), (some 7, b3, [Jint p0.1, v1, v2, v3, v4, v5, v6, Jint p3.2.2.1, Jint p3.2.2.2.1, Jint p3.2.2.2.2.1, Jint p3.2.2.2.2.2])]) (NZ3 := []) F Aa Aa (all_cons (fun h => AH (by kernel_rfl) h) (all_cons (fun h => AH (by kernel_rfl) h) (all_cons (fun h => AH (by kernel_rfl) h) (all_cons (fun h => AH (by kernel_rfl) h) Ak)))) Ak ?_
 refine F1 Aa ?_
 obtain ⟨x8, h10, H⟩ := Ac H
 have F := F.freeze
 refine A9 (Ml := []) (Zl := []) (β := Value) (rv := fun x => x) (MM := fun x => []) (ZZ := fun x => [row x 41 CI x8]) W F aK Aa Aa (fun hL => FM _ w (v15) ([x4, x5, x6, x7] : List (List (Int × Int × Int))) _ h10 (F.item (i := 0) Aa)) fun x a w W F => ?_
 obtain ⟨v16, rfl⟩ : ∃ y, y = x := ⟨x, rfl⟩
 have F : sy Y w0 [(b3, (J3 p0 v1 v2 v3 v4 v5 v6 p3)), (b2, [v5, v6, Jint p3.2.2.1, Jint p3.2.2.2.1, Jint p3.2.2.2.2.1, Jint p3.2.2.2.2.2]), (b1, [Jint p0.1, v1, v2])] [row v16 41 CI x8, Lz v15 (Rp.slice CI) ([x4, x5, x6, x7] : List (List (Int × Int × Int))), Lz v14 CI x7, Lz v13 CI x6, Lz v12 CI x5, Lz v11 CI x4] w := F
 refine Cn (N2 := []) (NZ2 := []) (N3 := [(some 1, b3, [Jint p0.1, v1, v2, v3, v4, v5, v6, Jint p3.2.2.1, Jint p3.2.2.2.1, Jint p3.2.2.2.2.1, Jint p3.2.2.2.2.2]), (some 3, b3, [Jint p0.1, v1, v2, v3, v4, v5, v6, Jint p3.2.2.1, Jint p3.2.2.2.1, Jint p3.2.2.2.2.1, Jint p3.2.2.2.2.2]), (some 5, b3, [Jint p0.1, v1, v2, v3, v4, v5, v6, Jint p3.2.2.1, Jint p3.2.2.2.1, Jint p3.2.2.2.2.1, Jint p3.2.2.2.2.2]), (some 7, b3, [Jint p0.1, v1, v2, v3, v4, v5, v6, Jint p3.2.2.1, Jint p3.2.2.2.1, Jint p3.2.2.2.2.1, Jint p3.2.2.2.2.2])]) (NZ3 := []) F Aa Aa (all_cons (fun h => AH (by kernel_rfl) h) (all_cons (fun h => AH (by kernel_rfl) h) (all_cons (fun h => AH (by kernel_rfl) h) (all_cons (fun h => AH (by kernel_rfl) h) Ak)))) Ak ?_
 refine F1 Aa ?_
 refine ls W F Aa (Dr W Aa).q fun a w W F => ?_
 refine Cn (N2 := []) (NZ2 := []) (N3 := [(some 1, b3, [Jint p0.1, v1, v2, v3, v4, v5, v6, Jint p3.2.2.1, Jint p3.2.2.2.1, Jint p3.2.2.2.2.1, Jint p3.2.2.2.2.2]), (some 3, b3, [Jint p0.1, v1, v2, v3, v4, v5, v6, Jint p3.2.2.1, Jint p3.2.2.2.1, Jint p3.2.2.2.2.1, Jint p3.2.2.2.2.2]), (some 5, b3, [Jint p0.1, v1, v2, v3, v4, v5, v6, Jint p3.2.2.1, Jint p3.2.2.2.1, Jint p3.2.2.2.2.1, Jint p3.2.2.2.2.2]), (some 7, b3, [Jint p0.1, v1, v2, v3, v4, v5, v6, Jint p3.2.2.1, Jint p3.2.2.2.1, Jint p3.2.2.2.2.1, Jint p3.2.2.2.2.2])]) (NZ3 := []) F Aa Aa (all_cons (fun h => AH (by kernel_rfl) h) (all_cons (fun h => AH (by kernel_rfl) h) (all_cons (fun h => AH (by kernel_rfl) h) (all_cons (fun h => AH (by kernel_rfl) h) Ak)))) Ak ?_
 refine Hd (Ab (Ap ?_))
 have H := Ay H
 subst H
 refine A1 (.inl Aa) W F Aa (Am W Aa) ?_
 have F := F.sub (M' := []) (Z' := [row v16 41 CI x8]) nl (sc nl)
 exact ⟨(v16), Aa, F⟩
theorem H8 : Has Tryz.prog 8 := Cv Tryz.func8
theorem YW : Ty Tryz.prog 41 true 3 := ⟨by kernel_rfl, by kernel_rfl⟩
theorem YS (dd : Nat) (x0 : Int) (x1 : Int) (x2 : Int) (y0 : Int) (y1 : Int) (y2 : Int) (w : World) : (Op.equalIn (dd + 2) 41 (.agg #[Jint x0, Jint x1, Jint x2]) (.agg #[Jint y0, Jint y1, Jint y2])).run Tryz.prog w = .ok (decide (x0 = y0 ∧ x1 = y1 ∧ x2 = y2)) w :=
  ML (d := dd + 1) (rs := [decide (x0 = y0), decide (x1 = y1), decide (x2 = y2)]) XC (by kernel_rfl) ⟨rfl, Kg (d := dd + 0) rfl rfl Q3 T3 rfl rfl, rfl, Kg (d := dd + 0) rfl rfl Q3 T3 rfl rfl, rfl, Kg (d := dd + 0) rfl rfl Q3 T3 rfl rfl, trivial⟩ (by simp) w
theorem YN : Tryz.prog.eqGuardType Tryz.prog.depth 41 = false := by kernel_rfl
theorem Y9 (x0 : Int) (x1 : Int) (x2 : Int) (y0 : Int) (y1 : Int) (y2 : Int) (w : World) : (Op.equalIn 10000 41 (.agg #[Jint x0, Jint x1, Jint x2]) (.agg #[Jint y0, Jint y1, Jint y2])).run Tryz.prog w = .ok (decide (x0 = y0 ∧ x1 = y1 ∧ x2 = y2)) w := YS 9998 x0 x1 x2 y0 y1 y2 w
def He (p0 : Int) : lb_ := (if p0 = 1 then ([119, 114, 111, 110, 103] : lb_) else (if p0 = 2 then ([109, 105, 115, 115, 105, 110, 103] : lb_) else (if p0 = 3 then ([101, 120, 116, 114, 97] : lb_) else (if p0 = 4 then ([99, 108, 111, 115, 101] : lb_) else (if p0 = 5 then ([104, 111, 108, 101] : lb_) else (if p0 = 6 then ([108, 111, 111, 112] : lb_) else ([63] : lb_)))))))
theorem PG (Y : Nat → Prop) (w0 : World)  (p0 : Int) (r : lb_) (H : He p0 = r)  :
    ca_ 9 #[Jint p0] w0 fun e w' => e = .returned (.string (bs r)) ∧ Below w0.heap.size w0 w' := by
 refine enter Tryz.func9 Aa Tryz.ntmps9 Aa fun a W => ?_
 have F := Stw.start Y w0
 unfold He at H
 refine vc tk 2 W F fun a w W F => ?_
 refine ls W F Aa (Dr (v := Value.string (bs ([] : lb_))) W Aa).q fun a w W F => ?_
 refine BQ tk 15 W F fun a w W F => ?_
 refine Gv W Aa (fun hb => ?_) fun hb => ?_
 ·
  have H := DU (Fa hb) H
  rw [hb] at W
  clear hb
  refine vc tk 2 W F fun a w W F => ?_
  refine ls W F Aa (Dr (v := Value.string (bs ([119, 114, 111, 110, 103] : lb_))) W Aa).q fun a w W F => ?_
  refine BQ tk 2 W F fun a w W F => ?_
  refine Ap (AV (AF ?_))
  subst H
  refine A1 (.inl Aa) W F Aa (Am W Aa) ?_
  exact ⟨rfl, F.done⟩
 have H := DS (E4 hb) H
 rw [hb] at W
 clear hb
 refine vc tk 6 W F fun a w W F => ?_
 refine Gv W Aa (fun hb => ?_) fun hb => ?_
 ·
  have H := DU (Fa hb) H
  rw [hb] at W
  clear hb
  refine vc tk 2 W F fun a w W F => ?_
  refine ls W F Aa (Dr (v := Value.string (bs ([109, 105, 115, 115, 105, 110, 103] : lb_))) W Aa).q fun a w W F => ?_
  refine BQ tk 2 W F fun a w W F => ?_
  refine Ap (AV (AF ?_))
  subst H
  refine A1 (.inl Aa) W F Aa (Am W Aa) ?_
  exact ⟨rfl, F.done⟩
 have H := DS (E4 hb) H
 rw [hb] at W
 clear hb
 refine vc tk 6 W F fun a w W F => ?_
 refine Gv W Aa (fun hb => ?_) fun hb => ?_
 ·
  have H := DU (Fa hb) H
  rw [hb] at W
  clear hb
  refine vc tk 2 W F fun a w W F => ?_
  refine ls W F Aa (Dr (v := Value.string (bs ([101, 120, 116, 114, 97] : lb_))) W Aa).q fun a w W F => ?_
  refine BQ tk 2 W F fun a w W F => ?_
  refine Ap (AV (AF ?_))
  subst H
  refine A1 (.inl Aa) W F Aa (Am W Aa) ?_
  exact ⟨rfl, F.done⟩
 have H := DS (E4 hb) H
 rw [hb] at W
 clear hb
 refine vc tk 6 W F fun a w W F => ?_
 refine Gv W Aa (fun hb => ?_) fun hb => ?_
 ·
  have H := DU (Fa hb) H
  rw [hb] at W
  clear hb
  refine vc tk 2 W F fun a w W F => ?_
  refine ls W F Aa (Dr (v := Value.string (bs ([99, 108, 111, 115, 101] : lb_))) W Aa).q fun a w W F => ?_
  refine BQ tk 2 W F fun a w W F => ?_
  refine Ap (AV (AF ?_))
  subst H
  refine A1 (.inl Aa) W F Aa (Am W Aa) ?_
  exact ⟨rfl, F.done⟩
 have H := DS (E4 hb) H
 rw [hb] at W
 clear hb
 refine vc tk 6 W F fun a w W F => ?_
 refine Gv W Aa (fun hb => ?_) fun hb => ?_
 ·
  have H := DU (Fa hb) H
  rw [hb] at W
  clear hb
  refine vc tk 2 W F fun a w W F => ?_
  refine ls W F Aa (Dr (v := Value.string (bs ([104, 111, 108, 101] : lb_))) W Aa).q fun a w W F => ?_
  refine BQ tk 2 W F fun a w W F => ?_
  refine Ap (AV (AF ?_))
  subst H
  refine A1 (.inl Aa) W F Aa (Am W Aa) ?_
  exact ⟨rfl, F.done⟩
 have H := DS (E4 hb) H
 rw [hb] at W
 clear hb
 refine vc tk 6 W F fun a w W F => ?_
 refine Gv W Aa (fun hb => ?_) fun hb => ?_
 ·
  have H := DU (Fa hb) H
  rw [hb] at W
  clear hb
  refine vc tk 2 W F fun a w W F => ?_
  refine ls W F Aa (Dr (v := Value.string (bs ([108, 111, 111, 112] : lb_))) W Aa).q fun a w W F => ?_
  refine BQ tk 2 W F fun a w W F => ?_
  refine Ap (AV (AF ?_))
  subst H
  refine A1 (.inl Aa) W F Aa (Am W Aa) ?_
  exact ⟨rfl, F.done⟩
 have H := DS (E4 hb) H
 rw [hb] at W
 clear hb
 refine AE (Aw ?_)
 refine vn tk 2 W F fun a w W F => ?_
 refine ls W F Aa (Dr (v := Value.string (bs ([63] : lb_))) W Aa).q fun a w W F => ?_
 refine BQ tk 2 W F fun a w W F => ?_
 refine Ap ?_
 subst H
 refine A1 (.inl Aa) W F Aa (Am W Aa) ?_
 exact ⟨rfl, F.done⟩
theorem H9 : Has Tryz.prog 9 := Cv Tryz.func9
def GH  : Option Bool := (EH (3, ([(0, 0, 1, 0, 1, 1), (1, 1, 2, 0, 1, 1), (0, 1, 2, 1, 1, 1)] : List (Int × Int × Int × Int × Int × Int)), ([(2, 7)] : List (Int × Int))) ([([0] : List Int), ([1] : List Int), ([7] : List Int)] : List (List Int)) ([([1] : List Int), ([1] : List Int), ([7] : List Int)] : List (List Int)) (([] : List (Int × Int × Int × Int)), ([] : List (Int × Int × List Int)), 0, 0, 0, 0)).bind fun x1 => (if (x1.length : Int) = 1 then (ix x1 0).bind fun x3 => (if x3.1 = 2 ∧ x3.2.1 = 0 ∧ x3.2.2 = 0 then (if (He 6) = ([108, 111, 111, 112] : lb_) then (EH (0, ([] : List (Int × Int × Int × Int × Int × Int)), ([] : List (Int × Int))) ([] : List (List Int)) ([] : List (List Int)) (([] : List (Int × Int × Int × Int)), ([] : List (Int × Int × List Int)), 0, 0, 0, 0)).bind fun x4 => some (decide ((x4.length : Int) = 1)) else some false) else some false) else some false).bind fun x2 => some x2
theorem Js (Y : Nat → Prop) (w0 : World)   (r : Bool) (H : GH  = some r)  :
    ca_ 6 #[] w0 fun e w' => e = .returned (.bool r) ∧ Below w0.heap.size w0 w' := by
 refine enter Tryz.func6 Aa Tryz.ntmps6 Aa fun a W => ?_
 have F := Stw.start Y w0
 unfold GH at H
 refine vc tk 7 W F fun a w W F => ?_
 refine ls W F Aa (B9 (v := Value.agg #[Jint 0, Jint 0, Jint 1, Jint 0, Jint 1, Jint 1]) Zc W Aa Aa Aa).q fun a w W F => ?_
 refine ls W F Aa (B9 (v := Value.agg #[Jint 1, Jint 1, Jint 2, Jint 0, Jint 1, Jint 1]) Zc W Aa Aa Aa).q fun a w W F => ?_
 refine ls W F Aa (B9 (v := Value.agg #[Jint 0, Jint 1, Jint 2, Jint 1, Jint 1, Jint 1]) Zc W Aa Aa Aa).q fun a w W F => ?_
 refine D7 (z := Value.agg #[Jint 0, Jint 0, Jint 0, Jint 0, Jint 0, Jint 0]) (cs := [Jint 0, Jint 0, Jint 1, Jint 0, Jint 1, Jint 1, Jint 1, Jint 1, Jint 2, Jint 0, Jint 1, Jint 1, Jint 0, Jint 1, Jint 2, Jint 1, Jint 1, Jint 1]) IP ([(0, 0, 1, 0, 1, 1), (1, 1, 2, 0, 1, 1), (0, 1, 2, 1, 1, 1)] : List (Int × Int × Int × Int × Int × Int)) W F Aa Xv Yv Aa Aa Aa Aa Aa Aa (Ye.repL _ _ ([(0, 0, 1, 0, 1, 1), (1, 1, 2, 0, 1, 1), (0, 1, 2, 1, 1, 1)] : List (Int × Int × Int × Int × Int × Int))) fun v1 a w W F => ?_
 refine ls W F Aa (B9 (v := Value.agg #[Jint 2, Jint 7]) ZB W Aa Aa Aa).q fun a w W F => ?_
 refine D7 (z := Value.agg #[Jint 0, Jint 0]) (cs := [Jint 2, Jint 7]) IE ([(2, 7)] : List (Int × Int)) W F Aa YM Zo Aa Aa Aa Aa Aa Aa (Y3.repL _ _ ([(2, 7)] : List (Int × Int))) fun v2 a w W F => ?_
 refine ls W F Aa (B9 (v := Value.agg #[Jint 3, v1, v2]) ZC W Aa (Bb Aa Aa Aa (Bb Aa (BK (F.one (k := 1) Aa)) Aa (Bb Aa (BK (F.one (k := 0) Aa)) Aa Ev))) Aa).q fun a w W F => ?_
 refine B6 (cs := [Jint 0, .slice none 0 0, .slice none 0 0]) W F Aa bH Aa fun b1 a w W F => ?_
 refine Ej 0 W F Aa Aa Aa Yl Aa Aa (AB Aa (AB (F.one (k := 1) Aa) (AB (F.one (k := 0) Aa) Ez))) fun w F => ?_
 refine Ii tk 5 [0] W F (ai fun a w W F => ?_)
 refine D7 (z := Jint 0) (cs := [Jint 0]) ri ([0] : List Int) W F Aa EM Z3 Aa Aa Aa Aa Aa Aa (Fl.int.repL _ _ ([0] : List Int)) fun v3 a w W F => ?_
 refine D7 (z := Jint 0) (cs := [Jint 1]) ri ([1] : List Int) W F Aa EM Z3 Aa Aa Aa Aa Aa Aa (Fl.int.repL _ _ ([1] : List Int)) fun v4 a w W F => ?_
 refine D7 (z := Jint 0) (cs := [Jint 7]) ri ([7] : List Int) W F Aa EM Z3 Aa Aa Aa Aa Aa Aa (Fl.int.repL _ _ ([7] : List Int)) fun v5 a w W F => ?_
 have F := F.frontZ (i := 2) Aa Aa
 have F := F.freeze
 have F := F.frontZ (i := 2) Aa Aa
 have F := F.freeze
 have F := F.frontZ (i := 2) Aa Aa
 have F := F.freeze
 refine D7 (z := Value.slice none 0 0) (cs := [v3, v4, v5]) (Rp.slice ri) ([([0] : List Int), ([1] : List Int), ([7] : List Int)] : List (List Int)) W F Aa PV Yp Aa Aa Aa (Bb Aa (BK (F.oneF (k := 2) Aa)) Aa (Bb Aa (BK (F.oneF (k := 1) Aa)) Aa (Bb Aa (BK (F.oneF (k := 0) Aa)) Aa Ev))) Aa Aa ⟨[v3], _, Aa, ⟨_, Aa, (F.item (i := 2) Aa)⟩, ⟨[v4], _, Aa, ⟨_, Aa, (F.item (i := 1) Aa)⟩, ⟨[v5], _, Aa, ⟨_, Aa, (F.item (i := 0) Aa)⟩, Aa⟩⟩⟩ fun v6 a w W F => ?_
 refine D7 (z := Jint 0) (cs := [Jint 1]) ri ([1] : List Int) W F Aa EM Z3 Aa Aa Aa Aa Aa Aa (Fl.int.repL _ _ ([1] : List Int)) fun v7 a w W F => ?_
 refine D7 (z := Jint 0) (cs := [Jint 1]) ri ([1] : List Int) W F Aa EM Z3 Aa Aa Aa Aa Aa Aa (Fl.int.repL _ _ ([1] : List Int)) fun v8 a w W F => ?_
 refine D7 (z := Jint 0) (cs := [Jint 7]) ri ([7] : List Int) W F Aa EM Z3 Aa Aa Aa Aa Aa Aa (Fl.int.repL _ _ ([7] : List Int)) fun v9 a w W F => ?_
 have F := F.frontZ (i := 2) Aa Aa
 have F := F.freeze
 have F := F.frontZ (i := 2) Aa Aa
 have F := F.freeze
 have F := F.frontZ (i := 2) Aa Aa
 have F := F.freeze
 refine D7 (z := Value.slice none 0 0) (cs := [v7, v8, v9]) (Rp.slice ri) ([([1] : List Int), ([1] : List Int), ([7] : List Int)] : List (List Int)) W F Aa PV Yp Aa Aa Aa (Bb Aa (BK (F.oneF (k := 2) Aa)) Aa (Bb Aa (BK (F.oneF (k := 1) Aa)) Aa (Bb Aa (BK (F.oneF (k := 0) Aa)) Aa Ev))) Aa Aa ⟨[v7], _, Aa, ⟨_, Aa, (F.item (i := 2) Aa)⟩, ⟨[v8], _, Aa, ⟨_, Aa, (F.item (i := 1) Aa)⟩, ⟨[v9], _, Aa, ⟨_, Aa, (F.item (i := 0) Aa)⟩, Aa⟩⟩⟩ fun v10 a w W F => ?_
 refine ls W F Aa (B9 (v := Value.agg #[.slice none 0 0, .slice none 0 0, Jint 0, Jint 0, Jint 0, Jint 0]) W0 W Aa Aa Aa).q fun a w W F => ?_
 obtain ⟨x1, h1, H⟩ := Ac H
 have F := F.frontZ (i := 4) Aa Aa
 have F := F.freeze
 refine A9 (Ml := []) (Zl := []) (β := Value) (rv := fun x => x) (MM := fun x => []) (ZZ := fun x => [row x 41 CI x1]) W F H8 Aa Aa (fun hL => Ia _ w (v1) (v2) (v6) (v10) (Value.slice none 0 0) (Value.slice none 0 0) (3, ([(0, 0, 1, 0, 1, 1), (1, 1, 2, 0, 1, 1), (0, 1, 2, 1, 1, 1)] : List (Int × Int × Int × Int × Int × Int)), ([(2, 7)] : List (Int × Int))) ([([0] : List Int), ([1] : List Int), ([7] : List Int)] : List (List Int)) ([([1] : List Int), ([1] : List Int), ([7] : List Int)] : List (List Int)) (([] : List (Int × Int × Int × Int)), ([] : List (Int × Int × List Int)), 0, 0, 0, 0) _ h1 ((Af 9 Aa) w F).nx ((Af 8 Aa) w F).nx (F.item (i := 0) Aa) ((Af 1 Aa) w F).nx Sl.nil Sl.nil) fun x a w W F => ?_
 obtain ⟨v11, rfl⟩ : ∃ y, y = x := ⟨x, rfl⟩
 have F : sy Y w0 [(b1, [Jint 3, v1, v2])] [row v11 41 CI x1, Lz v6 (Rp.slice ri) ([([0] : List Int), ([1] : List Int), ([7] : List Int)] : List (List Int)), row v10 44 (Rp.slice ri) ([([1] : List Int), ([1] : List Int), ([7] : List Int)] : List (List Int)), Lz v9 ri ([7] : List Int), Lz v8 ri ([1] : List Int), Lz v7 ri ([1] : List Int), Lz v5 ri ([7] : List Int), Lz v4 ri ([1] : List Int), Lz v3 ri ([0] : List Int), row v2 51 IE ([(2, 7)] : List (Int × Int)), row v1 49 IP ([(0, 0, 1, 0, 1, 1), (1, 1, 2, 0, 1, 1), (0, 1, 2, 1, 1, 1)] : List (Int × Int × Int × Int × Int × Int))] w := F
 refine vl tk 2 W F fun a w W F => ?_
 refine Ab ?_
 obtain ⟨o1, G1, K1⟩ := Ac H
 refine As (fun a w => ∃ x2 : Bool, some (x2) = some o1 ∧ Fr 42 [] [(0, .bool x2)] a ∧ sy Y w0 [(b1, [Jint 3, v1, v2])] [row v1 49 IP ([(0, 0, 1, 0, 1, 1), (1, 1, 2, 0, 1, 1), (0, 1, 2, 1, 1, 1)] : List (Int × Int × Int × Int × Int × Int)), row v2 51 IE ([(2, 7)] : List (Int × Int))] w) ?_ ?_
 ·
  have H := G1
  clear G1 K1
  refine vc tk 2 W F fun a w W F => ?_
  refine ls W F Aa (BP (r := CI) (l := x1) ON Aa W Aa (Af 0 Aa)).q fun a w W F => ?_
  refine vl tk 2 W F fun a w W F => ?_
  rcases bxq (decide ((x1.length : Int) = 1)) with hb | hb
  ·
   have H := DU (Fa hb) H
   rw [hb] at W
   clear hb
   refine Gb W F (Ad W Aa Aa Aa Aa) Aa (Ao Aa) (Ai W Aa).q fun a w W F => ?_
   obtain ⟨x3, h2, H⟩ := Ac H
   refine Gb W F (Ad W Aa Aa Aa Aa) Aa (Ao Aa) (Al (r := CI) PW W Aa Aa (Af 0 Aa) h2).q fun a w W F => ?_
   refine Gb W F (Ad W Aa Aa Aa Aa) Aa (Ao Aa) (Ag (y := Value.agg #[Jint x3.1, Jint x3.2.1, Jint x3.2.2]) (j := 0) (i := 0) W Aa Aa (Af 0 Aa) h2 UH.to YW Aa).q fun a w W F => ?_
   refine Gb W F (Ad W Aa Aa Aa Aa) Aa (Ao Aa) (B9 (v := Value.agg #[Jint 2, Jint 0, Jint 0]) Vt W Aa Aa Aa).q fun a w W F => ?_
   refine Gb W F (Ad W Aa Aa Aa Aa) Aa (Ao Aa) (QZ (t := decide (x3.1 = 2 ∧ x3.2.1 = 0 ∧ x3.2.2 = 0)) YN (Y9 _ _ _ _ _ _) W Aa Aa).q fun a w W F => ?_
   refine vl tk 2 W F fun a w W F => ?_
   rcases bxq (decide (x3.1 = 2 ∧ x3.2.1 = 0 ∧ x3.2.2 = 0)) with hb | hb
   ·
    have H := DU (Fa hb) H
    rw [hb] at W
    clear hb
    refine MI (Ad W Aa Aa Aa Aa) ?_
    refine ls W F Aa (Bc (v := Value.string (bs (He 6))) W H9 Aa (fun w F => PG any w 6 _ Aa)) fun a w W F => ?_
    refine Gb W F (Ad W Aa Aa Aa Aa) Aa (Ao Aa) (X6 (l := (He 6)) (m := ([108, 111, 111, 112] : lb_)) W Aa Aa).q fun a w W F => ?_
    refine vl tk 2 W F fun a w W F => ?_
    rcases bxq (decide ((He 6) = ([108, 111, 111, 112] : lb_))) with hb | hb
    ·
     have H := DU (Fa hb) H
     rw [hb] at W
     clear hb
     refine Gb W F (Ad W Aa Aa Aa Aa) Aa (Ao Aa) (B9 (v := Value.agg #[Jint 0, .slice none 0 0, .slice none 0 0]) ZC W Aa Aa Aa).q fun a w W F => ?_
     refine Gb W F (Ad W Aa Aa Aa Aa) Aa (Ao Aa) (B9 (v := Value.agg #[.slice none 0 0, .slice none 0 0, Jint 0, Jint 0, Jint 0, Jint 0]) W0 W Aa Aa Aa).q fun a w W F => ?_
     refine MI (Ad W Aa Aa Aa Aa) ?_
     obtain ⟨x4, h3, H⟩ := Ac H
     refine A9 (Ml := []) (Zl := []) (β := Value) (rv := fun x => x) (MM := fun x => []) (ZZ := fun x => [row x 41 CI x4]) W F H8 Aa Aa (fun hL => Ia _ w (Value.slice none 0 0) (Value.slice none 0 0) (Value.slice none 0 0) (Value.slice none 0 0) (Value.slice none 0 0) (Value.slice none 0 0) (0, ([] : List (Int × Int × Int × Int × Int × Int)), ([] : List (Int × Int))) ([] : List (List Int)) ([] : List (List Int)) (([] : List (Int × Int × Int × Int)), ([] : List (Int × Int × List Int)), 0, 0, 0, 0) _ h3 Sl.nil Sl.nil Sl.nil Sl.nil Sl.nil Sl.nil) fun x a w W F => ?_
     obtain ⟨v12, rfl⟩ : ∃ y, y = x := ⟨x, rfl⟩
     have F : sy Y w0 [(b1, [Jint 3, v1, v2])] [row v12 41 CI x4, row v11 41 CI x1, Lz v6 (Rp.slice ri) ([([0] : List Int), ([1] : List Int), ([7] : List Int)] : List (List Int)), row v10 44 (Rp.slice ri) ([([1] : List Int), ([1] : List Int), ([7] : List Int)] : List (List Int)), Lz v9 ri ([7] : List Int), Lz v8 ri ([1] : List Int), Lz v7 ri ([1] : List Int), Lz v5 ri ([7] : List Int), Lz v4 ri ([1] : List Int), Lz v3 ri ([0] : List Int), row v2 51 IE ([(2, 7)] : List (Int × Int)), row v1 49 IP ([(0, 0, 1, 0, 1, 1), (1, 1, 2, 0, 1, 1), (0, 1, 2, 1, 1, 1)] : List (Int × Int × Int × Int × Int × Int))] w := F
     refine Gb W F (Ad W Aa Aa Aa Aa) Aa (Ao Aa) (BP (r := CI) (l := x4) ON Aa W Aa (Af 0 Aa)).q fun a w W F => ?_
     refine vl tk 4 W F fun a w W F => ?_
     refine Ab ?_
     have F := F.frontZ (i := 10) Aa Aa
     have F := F.frontZ (i := 11) Aa Aa
     have F := F.sub (M' := [(b1, [Jint 3, v1, v2])]) (Z' := [row v1 49 IP ([(0, 0, 1, 0, 1, 1), (1, 1, 2, 0, 1, 1), (0, 1, 2, 1, 1, 1)] : List (Int × Int × Int × Int × Int × Int)), row v2 51 IE ([(2, 7)] : List (Int × Int))]) sr (sc (sc nl))
     exact ⟨_, H, W.ra Aa, F⟩
    have H := DS (E4 hb) H
    rw [hb] at W
    clear hb
    refine vl tk 8 W F fun a w W F => ?_
    refine Ab ?_
    have F := F.frontZ (i := 9) Aa Aa
    have F := F.frontZ (i := 10) Aa Aa
    have F := F.sub (M' := [(b1, [Jint 3, v1, v2])]) (Z' := [row v1 49 IP ([(0, 0, 1, 0, 1, 1), (1, 1, 2, 0, 1, 1), (0, 1, 2, 1, 1, 1)] : List (Int × Int × Int × Int × Int × Int)), row v2 51 IE ([(2, 7)] : List (Int × Int))]) sr (sc (sc nl))
    exact ⟨_, H, W.ra Aa, F⟩
   have H := DS (E4 hb) H
   rw [hb] at W
   clear hb
   refine vl tk 12 W F fun a w W F => ?_
   refine Ab ?_
   have F := F.frontZ (i := 9) Aa Aa
   have F := F.frontZ (i := 10) Aa Aa
   have F := F.sub (M' := [(b1, [Jint 3, v1, v2])]) (Z' := [row v1 49 IP ([(0, 0, 1, 0, 1, 1), (1, 1, 2, 0, 1, 1), (0, 1, 2, 1, 1, 1)] : List (Int × Int × Int × Int × Int × Int)), row v2 51 IE ([(2, 7)] : List (Int × Int))]) sr (sc (sc nl))
   exact ⟨_, H, W.ra Aa, F⟩
  have H := DS (E4 hb) H
  rw [hb] at W
  clear hb
  refine vl tk 19 W F fun a w W F => ?_
  refine Ab ?_
  have F := F.frontZ (i := 9) Aa Aa
  have F := F.frontZ (i := 10) Aa Aa
  have F := F.sub (M' := [(b1, [Jint 3, v1, v2])]) (Z' := [row v1 49 IP ([(0, 0, 1, 0, 1, 1), (1, 1, 2, 0, 1, 1), (0, 1, 2, 1, 1, 1)] : List (Int × Int × Int × Int × Int × Int)), row v2 51 IE ([(2, 7)] : List (Int × Int))]) sr (sc (sc nl))
  exact ⟨_, H, W.ra Aa, F⟩
 rintro a w ⟨x2, hj, W, F⟩
 have hj := Ay hj
 subst hj
 have H := K1
 clear G1 K1
 refine Ap ?_
 have H := Ay H
 subst H
 refine A1 (.inl Aa) W F Aa (Am W Aa) ?_
 exact ⟨rfl, F.done⟩
theorem H6 : Has Tryz.prog 6 := Cv Tryz.func6
theorem Yo : (Tryz.prog.info? 33).bind (·.zero) = some (.agg #[.slice none 0 0, .slice none 0 0, Jint 0, Jint 0, Jint 0, Jint 0]) := by kernel_rfl
def GE (p0 : Int × (List (Int × Int × Int × Int × Int × Int)) × (List (Int × Int))) (p1 : List (List Int)) (p2 : Int) : (List Int × Int) → Option ((List Int × Int) ⊕ (List Int))
  | (x4, x5) => (if x5 < (p1.length : Int) then (Gm p0 p1 x5 p2).bind fun x6 => (HN x4 ([An ((x6.1.length : Int) - 1)] : List Int)).bind fun x7 => some (.inl (x7, An (x5 + 1))) else some (.inr x4))
def JS (p0 : Int × (List (Int × Int × Int × Int × Int × Int)) × (List (Int × Int))) (p1 : List (List Int)) (p2 : Int) : Option (List Int) := ((FO p0 p1).bind fun x2 => (if (!x2) = true then some true else (if p2 < 0 then some true else some (decide ((p0.2.2.length : Int) ≤ p2))))).bind fun x1 => (if x1 = true then some ([] : List Int) else (Aq (GE p0 p1 p2) ([], 0)).bind fun x3 => some x3)
theorem QC (Y : Nat → Prop) (w0 : World) (v1 : Value) (v2 : Value) (v3 : Value) (p0 : Int × (List (Int × Int × Int × Int × Int × Int)) × (List (Int × Int))) (p1 : List (List Int)) (p2 : Int) (r : List Int) (H : JS p0 p1 p2 = some r) (h_v1 : Sl w0 (NX []) IP v1 p0.2.1) (h_v2 : Sl w0 (NX []) IE v2 p0.2.2) (h_v3 : Sl w0 (NX []) (Rp.slice ri) v3 p1) :
    ca_ 20 #[.agg #[Jint p0.1, v1, v2], v3, Jint p2] w0 fun e w' => ∃ x : Value, e = .returned (x) ∧ sy Y w0 [] [row (x) 3 ri r] w' := by
 refine enter Tryz.func20 Aa Tryz.ntmps20 Aa fun a W => ?_
 have F := Stw.start Y w0
 obtain ⟨v4, h1, h_v3⟩ := h_v3.ex CK
 unfold JS at H
 refine vc tk 2 W F fun a w W F => ?_
 refine D3 (cs := [Jint p0.1, v1, v2]) W F Aa Aa Aa fun b1 a w W F => ?_
 refine BQ tk 4 W F fun a w W F => ?_
 obtain ⟨o1, G1, K1⟩ := Ac H
 refine As (fun a w => ∃ x1 : Bool, some (x1) = some o1 ∧ Fr 47 [] [(1, v3), (2, Jint p2), (3, pp b1), (6, .slice none 0 0), (25, .bool x1)] a ∧ sy Y w0 [(b1, [Jint p0.1, v1, v2])] [] w) ?_ ?_
 ·
  have H := G1
  clear G1 K1
  refine Jk tk 3 [0] W F (ai fun a w W F => ?_)
  obtain ⟨x2, h2, H⟩ := Ac H
  refine ls W F Aa (Bc (v := Value.bool x2) W Zr Aa (fun w F => Lr any w (v1) (v2) (v3) p0 p1 _ h2 (EJ (Ae h_v1) F) (EJ (Ae h_v2) F) (EJ (AL CK h1 (Ae h_v3)) F))) fun a w W F => ?_
  refine vl tk 2 W F fun a w W F => ?_
  rcases bxq (!x2) with hb | hb
  ·
   have H := DU hb H
   rw [hb] at W
   clear hb
   refine vl tk 11 W F fun a w W F => ?_
   refine Ab ?_
   exact ⟨_, H, W.ra Aa, F⟩
  have H := DS (by rw [hb]; decide) H
  rw [hb] at W
  clear hb
  refine vl tk 4 W F fun a w W F => ?_
  rcases bxq (decide (p2 < 0)) with hb | hb
  ·
   have H := DU (Fa hb) H
   rw [hb] at W
   clear hb
   refine vl tk 7 W F fun a w W F => ?_
   refine Ab ?_
   exact ⟨_, H, W.ra Aa, F⟩
  have H := DS (E4 hb) H
  rw [hb] at W
  clear hb
  refine Kp tk 3 [0] W F (ai fun a w W F => ?_)
  refine Gb W F (Ad W Aa Aa Aa Aa) Aa (Ao Aa) (BP (r := IE) (l := p0.2.2) OH Aa W Aa (Ae h_v2)).q fun a w W F => ?_
  refine vl tk 3 W F fun a w W F => ?_
  refine Ab ?_
  exact ⟨_, H, W.ra Aa, F⟩
 rintro a w ⟨x1, hj, W, F⟩
 have hj := Ay hj
 subst hj
 have H := K1
 clear G1 K1
 refine CS W Aa H (fun W H => ?_) fun W H => ?_
 ·
  refine vc tk 5 W F fun a w W F => ?_
  refine Ap (AF ?_)
  have H := Ay H
  subst H
  refine A1 (.inl Aa) W F Aa (Am W Aa) ?_
  have F := F.nilRow 3 ri
  have F := F.sub (M' := []) (Z' := [row (Value.slice none 0 0) 3 ri ([])]) nl sr
  exact ⟨(Value.slice none 0 0), Aa, F⟩
 refine FL tk 7 W F fun a w W F => ?_
 obtain ⟨o2, G2, K2⟩ := Ac H
 refine As (fun a w => ∃ x3 : List Int, ∃ v5 : Value, some (x3) = some o2 ∧ Fr 47 [] [(6, .slice none 0 0), (7, v5)] a ∧ sy Y w0 [(b1, [Jint p0.1, v1, v2])] [row v5 3 ri x3] w) ?_ ?_
 ·
  have H := G2
  clear G2 K2
  refine vc tk 3 W F fun a w W F => ?_
  refine ls W F Aa (BP (r := (Rp.slice ri)) (l := p1) Nn Aa W Aa (AL CK h1 (Ae h_v3))).q fun a w W F => ?_
  refine BQ tk 4 W F fun a w W F => ?_
  have F := F.nilRow 3 ri
  refine AN H (fun s a w => ∃ v6 : Value, Fr 47 [] [(1, v3), (2, Jint p2), (3, pp b1), (6, .slice none 0 0), (7, v6), (27, Jint (p1.length : Int)), (28, Jint s.2)] a ∧ sy Y w0 [(b1, [Jint p0.1, v1, v2])] [row v6 3 ri s.1] w) ⟨(Value.slice none 0 0), W.ra Aa, F⟩ fun s o a w H L3 hR => ?_
  obtain ⟨x4, x5⟩ := s
  obtain ⟨v6, W, F⟩ := hR
  have W : Fr 47 [] [(1, v3), (2, Jint p2), (3, pp b1), (6, .slice none 0 0), (7, v6), (27, Jint (p1.length : Int)), (28, Jint x5)] a := W
  have F : sy Y w0 [(b1, [Jint p0.1, v1, v2])] [row v6 3 ri x4] w := F
  rw [GE] at H
  refine vc tk 6 W F fun a w W F => ?_
  refine AW W Aa H (fun W H => ?_) fun W H => ?_
  ·
   refine Lj tk 16 [0] W F (ai fun a w W F => ?_)
   obtain ⟨x6, h3, H⟩ := Ac H
   refine A9 (Ml := []) (Zl := []) (β := Value) (rv := fun x => .tuple #[x, Jint x6.2]) (MM := fun x => []) (ZZ := fun x => [row x 3 ri x6.1]) W F Zp Aa Aa (fun hL => Mf _ w (v1) (v2) (v3) p0 p1 x5 p2 _ h3 ((Ae h_v1) w F).nx ((Ae h_v2) w F).nx ((AL CK h1 (Ae h_v3)) w F).nx) fun x a w W F => ?_
   obtain ⟨v7, rfl⟩ : ∃ y, y = x := ⟨x, rfl⟩
   have F : sy Y w0 [(b1, [Jint p0.1, v1, v2])] [row v7 3 ri x6.1, row v6 3 ri x4] w := F
   refine ls W F Aa (Ai W Aa).q fun a w W F => ?_
   refine ls W F Aa (Bi (v := v7) W Aa Aa).q fun a w W F => ?_
   refine ls W F Aa (Bi (v := Jint x6.2) W Aa Aa).q fun a w W F => ?_
   refine BQ tk 7 W F fun a w W F => ?_
   refine ls W F Aa (BP (r := ri) (l := x6.1) Jc Aa W Aa (Af 0 Aa)).q fun a w W F => ?_
   refine ls W F Aa (Ek W Aa Aa Aa).q fun a w W F => ?_
   refine D7 (z := Jint 0) (cs := [Jint (An ((x6.1.length : Int) - 1))]) ri ([An ((x6.1.length : Int) - 1)] : List Int) W F Aa EM Z3 Aa Aa Aa Aa Aa Aa (Fl.int.repL _ _ ([An ((x6.1.length : Int) - 1)] : List Int)) fun v8 a w W F => ?_
   obtain ⟨x7, h4, H⟩ := Ac H
   refine Di (r := ri) (i := 2) W F Aa EM Aa Aa Aa Aa (D1 F 0 Aa) h4 Aa fun v9 a w W F => ?_
   have F : sy Y w0 [(b1, [Jint p0.1, v1, v2])] [row v9 3 ri x7, row v8 3 ri ([An ((x6.1.length : Int) - 1)] : List Int), row v7 3 ri x6.1] w := F
   refine vl tk 2 W F fun a w W F => ?_
   refine Aw ?_
   refine vn tk 4 W F fun a w W F => ?_
   refine Ab ?_
   have F := F.sub (M' := [(b1, [Jint p0.1, v1, v2])]) (Z' := [row v9 3 ri x7]) sr (sc nl)
   exact ⟨_, H, (v9), W.ra Aa, F⟩
  refine AC ?_
  iterate 2 refine AR ?_
  refine AD (Ab ?_)
  have H := L3 _ H
  exact ⟨_, (v6), H, W.ra Aa, F⟩
 rintro a w ⟨x3, v5, hj, W, F⟩
 have hj := Ay hj
 subst hj
 have H := K2
 clear G2 K2
 refine vc tk 6 W F fun a w W F => ?_
 refine Ap ?_
 have H := Ay H
 subst H
 refine A1 (.inl Aa) W F Aa (Am W Aa) ?_
 have F := F.sub (M' := []) (Z' := [row v5 3 ri x3]) nl sr
 exact ⟨(v5), Aa, F⟩
theorem Zn : type_of% Tryz.underlying5 := Tryz.underlying5
theorem aV : type_of% Tryz.underlying9 := Tryz.underlying9
theorem XY : type_of% Tryz.underlying120 := Tryz.underlying120
theorem Z5 : Has Tryz.prog 20 := Cv Tryz.func20
theorem cH : Bt Tryz.prog 43 [Jint 0, Jint 0, Jint 0, Jint 0] [(0, 1), (1, 1), (2, 1), (3, 1)] := ⟨⟨.agg #[Jint 0, Jint 0, Jint 0, Jint 0], by kernel_rfl, rfl⟩, ⟨_, I8, fun w => by kernel_rfl⟩⟩
def G0 (p0 : Int) : Option Int := (if 4294967296 ≤ p0 then some (Jq .u64 p0 32, 32) else some (p0, 0)).bind fun (x1, x2) => (if 65536 ≤ x1 then some (Jq .u64 x1 16, An (x2 + 16)) else some (x1, x2)).bind fun (x3, x4) => (if 256 ≤ x3 then some (Jq .u64 x3 8, An (x4 + 8)) else some (x3, x4)).bind fun (x5, x6) => (ix ([0, 1, 2, 2, 3, 3, 3, 3, 4, 4, 4, 4, 4, 4, 4, 4, 5, 5, 5, 5, 5, 5, 5, 5, 5, 5, 5, 5, 5, 5, 5, 5, 6, 6, 6, 6, 6, 6, 6, 6, 6, 6, 6, 6, 6, 6, 6, 6, 6, 6, 6, 6, 6, 6, 6, 6, 6, 6, 6, 6, 6, 6, 6, 6, 7, 7, 7, 7, 7, 7, 7, 7, 7, 7, 7, 7, 7, 7, 7, 7, 7, 7, 7, 7, 7, 7, 7, 7, 7, 7, 7, 7, 7, 7, 7, 7, 7, 7, 7, 7, 7, 7, 7, 7, 7, 7, 7, 7, 7, 7, 7, 7, 7, 7, 7, 7, 7, 7, 7, 7, 7, 7, 7, 7, 7, 7, 7, 7, 8, 8, 8, 8, 8, 8, 8, 8, 8, 8, 8, 8, 8, 8, 8, 8, 8, 8, 8, 8, 8, 8, 8, 8, 8, 8, 8, 8, 8, 8, 8, 8, 8, 8, 8, 8, 8, 8, 8, 8, 8, 8, 8, 8, 8, 8, 8, 8, 8, 8, 8, 8, 8, 8, 8, 8, 8, 8, 8, 8, 8, 8, 8, 8, 8, 8, 8, 8, 8, 8, 8, 8, 8, 8, 8, 8, 8, 8, 8, 8, 8, 8, 8, 8, 8, 8, 8, 8, 8, 8, 8, 8, 8, 8, 8, 8, 8, 8, 8, 8, 8, 8, 8, 8, 8, 8, 8, 8, 8, 8, 8, 8, 8, 8, 8, 8, 8, 8, 8, 8, 8, 8, 8, 8, 8, 8, 8, 8] : lb_) (IntKind.u8.wrap x5)).bind fun x7 => some (An (x6 + (An (x7.toNat : Int))))
theorem Mk (Y : Nat → Prop) (w0 : World)  (p0 : Int) (r : Int) (H : G0 p0 = some r)  :
    ca_ 69 #[.int .u64 p0] w0 fun e w' => e = .returned (Jint r) ∧ Below w0.heap.size w0 w' := by
 refine enter Tryz.func69 Aa Tryz.ntmps69 Aa fun a W => ?_
 have F := Stw.start Y w0
 unfold G0 at H
 refine vc tk 5 W F fun a w W F => ?_
 obtain ⟨o1, G1, K1⟩ := Ac H
 refine As (fun a w => ∃ x1 : Int, ∃ x2 : Int, some ((x1, x2)) = some o1 ∧ Fr 25 [] [(0, .int .u64 x1), (2, Jint x2)] a ∧ sy Y w0 [] [] w) ?_ ?_
 ·
  have H := G1
  clear G1 K1
  refine vc tk 6 W F fun a w W F => ?_
  refine AW W Aa H (fun W H => ?_) fun W H => ?_
  ·
   refine vc tk 3 W F fun a w W F => ?_
   refine ls W F Aa (QQ W Aa Aa (by decide)).q fun a w W F => ?_
   refine BQ tk 6 W F fun a w W F => ?_
   refine Ab ?_
   exact ⟨_, _, H, W.ra Aa, F⟩
  refine AE (Ab ?_)
  exact ⟨_, _, H, W.ra Aa, F⟩
 rintro a w ⟨x1, x2, hj, W, F⟩
 have hj := Ay hj
 subst hj
 have H := K1
 clear G1 K1
 obtain ⟨o2, G2, K2⟩ := Ac H
 refine As (fun a w => ∃ x3 : Int, ∃ x4 : Int, some ((x3, x4)) = some o2 ∧ Fr 25 [] [(0, .int .u64 x3), (2, Jint x4)] a ∧ sy Y w0 [] [] w) ?_ ?_
 ·
  have H := G2
  clear G2 K2
  refine vc tk 6 W F fun a w W F => ?_
  refine AW W Aa H (fun W H => ?_) fun W H => ?_
  ·
   refine vc tk 3 W F fun a w W F => ?_
   refine ls W F Aa (QQ W Aa Aa (by decide)).q fun a w W F => ?_
   refine BQ tk 8 W F fun a w W F => ?_
   refine Ab ?_
   exact ⟨_, _, H, W.ra Aa, F⟩
  refine AE (Ab ?_)
  exact ⟨_, _, H, W.ra Aa, F⟩
 rintro a w ⟨x3, x4, hj, W, F⟩
 have hj := Ay hj
 subst hj
 have H := K2
 clear G2 K2
 obtain ⟨o3, G3, K3⟩ := Ac H
 refine As (fun a w => ∃ x5 : Int, ∃ x6 : Int, some ((x5, x6)) = some o3 ∧ Fr 25 [] [(0, .int .u64 x5), (2, Jint x6)] a ∧ sy Y w0 [] [] w) ?_ ?_
 ·
  have H := G3
  clear G3 K3
  refine vc tk 6 W F fun a w W F => ?_
  refine AW W Aa H (fun W H => ?_) fun W H => ?_
  ·
   refine vc tk 3 W F fun a w W F => ?_
   refine ls W F Aa (QQ W Aa Aa (by decide)).q fun a w W F => ?_
   refine BQ tk 8 W F fun a w W F => ?_
   refine Ab ?_
   exact ⟨_, _, H, W.ra Aa, F⟩
  refine AE (Ab ?_)
  exact ⟨_, _, H, W.ra Aa, F⟩
 rintro a w ⟨x5, x6, hj, W, F⟩
 have hj := Ay hj
 subst hj
 have H := K3
 clear G3 K3
 refine vc tk 4 W F fun a w W F => ?_
 refine ls W F Aa (Kj XY Zn W Aa).q fun a w W F => ?_
 obtain ⟨x7, h1, H⟩ := Ac H
 refine ls W F Aa (TG (l := ([0, 1, 2, 2, 3, 3, 3, 3, 4, 4, 4, 4, 4, 4, 4, 4, 5, 5, 5, 5, 5, 5, 5, 5, 5, 5, 5, 5, 5, 5, 5, 5, 6, 6, 6, 6, 6, 6, 6, 6, 6, 6, 6, 6, 6, 6, 6, 6, 6, 6, 6, 6, 6, 6, 6, 6, 6, 6, 6, 6, 6, 6, 6, 6, 7, 7, 7, 7, 7, 7, 7, 7, 7, 7, 7, 7, 7, 7, 7, 7, 7, 7, 7, 7, 7, 7, 7, 7, 7, 7, 7, 7, 7, 7, 7, 7, 7, 7, 7, 7, 7, 7, 7, 7, 7, 7, 7, 7, 7, 7, 7, 7, 7, 7, 7, 7, 7, 7, 7, 7, 7, 7, 7, 7, 7, 7, 7, 7, 8, 8, 8, 8, 8, 8, 8, 8, 8, 8, 8, 8, 8, 8, 8, 8, 8, 8, 8, 8, 8, 8, 8, 8, 8, 8, 8, 8, 8, 8, 8, 8, 8, 8, 8, 8, 8, 8, 8, 8, 8, 8, 8, 8, 8, 8, 8, 8, 8, 8, 8, 8, 8, 8, 8, 8, 8, 8, 8, 8, 8, 8, 8, 8, 8, 8, 8, 8, 8, 8, 8, 8, 8, 8, 8, 8, 8, 8, 8, 8, 8, 8, 8, 8, 8, 8, 8, 8, 8, 8, 8, 8, 8, 8, 8, 8, 8, 8, 8, 8, 8, 8, 8, 8, 8, 8, 8, 8, 8, 8, 8, 8, 8, 8, 8, 8, 8, 8, 8, 8, 8, 8, 8, 8, 8, 8, 8, 8] : lb_)) aV W Aa Aa h1).q fun a w W F => ?_
 refine ls W F Aa (Kj Zn Q3 W Aa).q fun a w W F => ?_
 refine BQ tk 4 W F fun a w W F => ?_
 refine Ap ?_
 have H := Ay H
 subst H
 refine A1 (.inl Aa) W F Aa (Am W Aa) ?_
 exact ⟨rfl, F.done⟩
theorem aU : Has Tryz.prog 69 := Cv Tryz.func69
def Fe (p0 : Int) : Option Int := (G0 p0).bind fun x1 => some x1
theorem Iw (Y : Nat → Prop) (w0 : World)  (p0 : Int) (r : Int) (H : Fe p0 = some r)  :
    ca_ 41 #[.int .u64 p0] w0 fun e w' => e = .returned (Jint r) ∧ Below w0.heap.size w0 w' := by
 refine enter Tryz.func41 Aa Tryz.ntmps41 Aa fun a W => ?_
 have F := Stw.start Y w0
 unfold Fe at H
 refine vc tk 12 W F fun a w W F => ?_
 obtain ⟨x1, h1, H⟩ := Ac H
 refine ls W F Aa (Bc (v := Jint x1) W aU Aa (fun w F => Mk any w p0 _ h1)) fun a w W F => ?_
 refine BQ tk 3 W F fun a w W F => ?_
 refine Ap ?_
 have H := Ay H
 subst H
 refine A1 (.inl Aa) W F Aa (Am W Aa) ?_
 exact ⟨rfl, F.done⟩
theorem Zh : Has Tryz.prog 41 := Cv Tryz.func41
def Ck (p0 : Int) : Bool := decide (p0 ≠ p0)
theorem Ha (Y : Nat → Prop) (w0 : World)  (p0 : Int) (r : Bool) (H : Ck p0 = r)  :
    ca_ 42 #[Jint p0] w0 fun e w' => e = .returned (.bool r) ∧ Below w0.heap.size w0 w' := by
 refine enter Tryz.func42 Aa Tryz.ntmps42 Aa fun a W => ?_
 have F := Stw.start Y w0
 unfold Ck at H
 refine vc tk 13 W F fun a w W F => ?_
 refine Ap ?_
 subst H
 refine A1 (.inl Aa) W F Aa (Am W Aa) ?_
 exact ⟨rfl, F.done⟩
end
end Go.Proofs.YthhoflfhegfmcaaGreat
