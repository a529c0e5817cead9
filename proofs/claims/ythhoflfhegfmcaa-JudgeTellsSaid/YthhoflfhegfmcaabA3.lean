/- The functions of layer 25, HU. Conditions: none. -/
import Derived.Test.YthhoflfhegfmcaabA2
namespace Go.Proofs.Ythhoflfhegfmcaa
open Go Go.RowKit
set_option linter.unusedVariables false
set_option linter.unusedSimpArgs false
set_option maxRecDepth 20000
set_option maxHeartbeats 1600000
theorem Xs : Has Try.prog 40 := BS Try.func40
noncomputable def Bc (p0 : (Int × (List (Int × Int × Int × Int × Int × Int)) × (List (Int × Int))) × List (List Int) × List (List Int) × ((List (Int × Int × Int × Int)) × (List (Int × Int × List Int)) × Int × Int × Int × Int)) (x8 : Int × Int × List Int) : ((List (Nat × List Int)) × (List (Nat × List (Nat × List Int))) × Int) → Option (((List (Nat × List Int)) × (List (Nat × List (Nat × List Int))) × Int) ⊕ ((List (Nat × List Int)) × (List (Nat × List (Nat × List Int)))))
  | (x13, x14, x15) => (if x15 < (p0.2.2.2.1.length : Int) then ((ix p0.2.2.2.1 x15).bind fun x18 => (if (A6 p0 x18) = true then (CK x8 x18).bind fun x22 => some (x13, x14, x22) else some (x13, x14, false)).bind fun (x19, x20, x21) => (if x21 = true then (ix x20 x18.1).bind fun x23 => (ix x23.2 x18.2.1).bind fun x24 => (JB x23.1).bind fun x25 => (JB x24.1).bind fun x26 => (Fo x24.2 ([x18.2.2.1] : List Int)).bind fun x27 => (ix (Am x23.2 x18.2.1 (0, [])) x18.2.1).bind fun x28 => (ix x19 x18.1).bind fun x29 => (ix x29.2 x18.2.1).bind fun x30 => (PQ x29.1).bind fun x31 => (JB x29.1).bind fun x32 => some ((Am x19 x18.1 (2, (Am x29.2 x18.2.1 x18.2.2.1))), (Am (Am x20 x18.1 (2, (Am x23.2 x18.2.1 (0, [])))) x18.1 (2, (Am (Am x23.2 x18.2.1 (0, [])) x18.2.1 (2, x27))))) else some (x19, x20))).bind fun (x16, x17) => some (.inl (x16, x17, A3 (x15 + 1))) else some (.inr (x13, x14)))
noncomputable def Bd (p0 : (Int × (List (Int × Int × Int × Int × Int × Int)) × (List (Int × Int))) × List (List Int) × List (List Int) × ((List (Int × Int × Int × Int)) × (List (Int × Int × List Int)) × Int × Int × Int × Int)) (x5 : Int) (x11 : List (Nat × List Int)) (x12 : List (Nat × List (Nat × List Int))) : ((List (Int × Int × Int)) × Int) → Option (((List (Int × Int × Int)) × Int) ⊕ ((List (Int × Int × Int)) × (List (Nat × List Int))))
  | (x33, x34) => (if x34 < (p0.1.2.2.length : Int) then (Hg Tn x12).bind fun x35 => (Ct p0 x35 x5 x34).bind fun x36 => (Fo x33 x36).bind fun x37 => some (.inl (x37, A3 (x34 + 1))) else some (.inr (x33, x11)))
noncomputable def BJ (p0 : (Int × (List (Int × Int × Int × Int × Int × Int)) × (List (Int × Int))) × List (List Int) × List (List Int) × ((List (Int × Int × Int × Int)) × (List (Int × Int × List Int)) × Int × Int × Int × Int)) : ((List (Int × Int × Int)) × (List (Nat × List Int)) × Int) → Option (((List (Int × Int × Int)) × (List (Nat × List Int)) × Int) ⊕ (List (Int × Int × Int)))
  | (x3, x4, x5) => (if x5 < (p0.2.2.2.2.1.length : Int) then ((ix p0.2.2.2.2.1 x5).bind fun x8 => (Hg Rj x4).bind fun x9 => (D7 x9).bind fun x10 => (Au (Bc p0 x8) (x4, x10, 0)).bind fun (x11, x12) => Au (Bd p0 x5 x11 x12) (x3, 0)).bind fun (x6, x7) => some (.inl (x6, x7, A3 (x5 + 1))) else some (.inr x3))
noncomputable def Cc (p0 : (Int × (List (Int × Int × Int × Int × Int × Int)) × (List (Int × Int))) × List (List Int) × List (List Int) × ((List (Int × Int × Int × Int)) × (List (Int × Int × List Int)) × Int × Int × Int × Int)) : Option (List (Int × Int × Int)) := (Dg p0.2.1).bind fun x1 => (Au (BJ p0) ([], x1, 0)).bind fun x2 => some x2
theorem Ic (Y : Nat → Prop) (w0 : World) (v1 : Value) (v2 : Value) (v3 : Value) (v4 : Value) (v5 : Value) (v6 : Value) (p0 : (Int × (List (Int × Int × Int × Int × Int × Int)) × (List (Int × Int))) × List (List Int) × List (List Int) × ((List (Int × Int × Int × Int)) × (List (Int × Int × List Int)) × Int × Int × Int × Int)) (r : (List (Int × Int × Int))) (H : Cc p0 = some r) (h_v1 : Sl w0 (NX []) Er v1 p0.1.2.1) (h_v2 : Sl w0 (NX []) Ec v2 p0.1.2.2) (s_v3 : Sl w0 Y (Rp.slice (Rp.int .i64)) v3 p0.2.1) (h_v4 : Sl w0 (NX []) (Rp.slice (Rp.int .i64)) v4 p0.2.2.1) (h_v5 : Sl w0 (NX []) HV v5 p0.2.2.2.1) (h_v6 : Sl w0 (NX []) Kf v6 p0.2.2.2.2.1) :
    Calls Try.prog 21 #[.agg #[.int .i64 p0.1.1, v1, v2, v3, v4, v5, v6, .int .i64 p0.2.2.2.2.2.1, .int .i64 p0.2.2.2.2.2.2.1, .int .i64 p0.2.2.2.2.2.2.2.1, .int .i64 p0.2.2.2.2.2.2.2.2]] w0 fun e w' => ∃ x : Value, e = .returned (x) ∧ Stw ⟨Y, [], w0⟩ [] [row (x) 58 BK r] w' := by
 refine enter Try.func21 Aa Try.ntmps21 Aa fun a W => ?_
 have F := Stw.start Y w0
 obtain ⟨v7, h1, s_v3⟩ := s_v3.ex Bh
 obtain ⟨v8, h2, h_v4⟩ := h_v4.ex Bh
 obtain ⟨v9, h3, h_v6⟩ := h_v6.ex FR
 have h_v3 := F.nx s_v3
 unfold Cc at H
 refine vc tk 2 W F fun a w W F => ?_
 refine Bq (cs := (CH p0 v1 v2 v3 v4 v5 v6)) W F Aa Aa Aa fun b1 a w W F => ?_
 refine IG tk 12 [0] W F (ai fun a w W F => ?_)
 obtain ⟨x1, h4, H⟩ := Ae H
 refine Cv (Ml := []) (Zl := []) (β := Value × ({x : List (Value × Nat × List Int) // x.map DN = x1})) (rv := fun x => x.1) (MM := fun x => []) (ZZ := fun x => [AX x.1 46 Ck x.2.1]) W F X4 Aa Aa (fun hL => LX _ w (v3) p0.2.1 _ h4 (Sl.hide Bh h1 (F.old s_v3))) fun x a w W F => ?_
 obtain ⟨v10, v11⟩ := x
 have F : Stw ⟨Y, [], w0⟩ (B4 b1 p0 v1 v2 v3 v4 v5 v6) [AX v10 46 Ck v11.1] w := F
 refine vl tk 2 W F fun a w W F => ?_
 refine Ac ?_
 obtain ⟨o1, G1, K1⟩ := Ae H
 refine Aj (fun a w => ∃ x2 : List (Int × Int × Int), ∃ v12 : Value, some (x2) = some o1 ∧ Fr 90 [] [(2, .slice none 0 0), (3, v12)] a ∧ Stw ⟨Y, [], w0⟩ (B4 b1 p0 v1 v2 v3 v4 v5 v6) [row v12 58 BK x2] w) ?_ ?_
 ·
  have H := G1
  clear G1 K1
  refine D3 tk 5 [0] W F (ai fun a w W F => ?_)
  refine ls W F Aa (AR (r := Kf) (l := p0.2.2.2.2.1) Tg Aa W Aa (Aq FR h3 (Ab h_v6))).q fun a w W F => ?_
  refine Bz tk 4 W F fun a w W F => ?_
  have F := F.nilRow 58 BK
  have F := F.frontZ (i := 1) Aa Aa
  have F := F.frontZ (i := 1) Aa Aa
  refine AA H (fun s a w => ∃ v13 : Value, ∃ g_x4 : {x : List (Value × Nat × List Int) // x.map DN = s.2.1}, Fr 90 [] [(1, .pointer (some ⟨b1, 0, none⟩)), (2, .slice none 0 0), (3, v13), (4, v10), (16, v6), (17, .int .i64 (p0.2.2.2.2.1.length : Int)), (18, .int .i64 s.2.2)] a ∧ Stw ⟨Y, [], w0⟩ (B4 b1 p0 v1 v2 v3 v4 v5 v6) [row v13 58 BK s.1, AX v10 46 Ck g_x4.1] w) ⟨(Value.slice none 0 0), ⟨v11.1, v11.2⟩, W.ra Aa, F⟩ fun s o a w H L2 hR => ?_
  obtain ⟨x3, x4, x5⟩ := s
  obtain ⟨v13, g_x4, W, F⟩ := hR
  have W : Fr 90 [] [(1, .pointer (some ⟨b1, 0, none⟩)), (2, .slice none 0 0), (3, v13), (4, v10), (16, v6), (17, .int .i64 (p0.2.2.2.2.1.length : Int)), (18, .int .i64 x5)] a := W
  have F : Stw ⟨Y, [], w0⟩ (B4 b1 p0 v1 v2 v3 v4 v5 v6) [row v13 58 BK x3, AX v10 46 Ck g_x4.1] w := F
  rw [BJ] at H
  refine vc tk 6 W F fun a w W F => ?_
  refine AN W Aa H (fun W H => ?_) fun W H => ?_
  ·
   refine As (Ac ?_)
   obtain ⟨o3, G3, K3⟩ := Ae H
   refine Aj (fun a w => ∃ x6 : List (Int × Int × Int), ∃ x7 : List (Nat × List Int), ∃ v14 : Value, ∃ g_x7 : {x : List (Value × Nat × List Int) // x.map DN = x7}, some ((x6, x7)) = some o3 ∧ Fr 90 [] [(1, .pointer (some ⟨b1, 0, none⟩)), (2, .slice none 0 0), (3, v14), (4, v10), (16, v6), (17, .int .i64 (p0.2.2.2.2.1.length : Int)), (18, .int .i64 x5)] a ∧ Stw ⟨Y, [], w0⟩ (B4 b1 p0 v1 v2 v3 v4 v5 v6) [row v14 58 BK x6, AX v10 46 Ck g_x7.1] w) ?_ ?_
   ·
    have H := G3
    clear G3 K3
    refine vc tk 4 W F fun a w W F => ?_
    obtain ⟨x8, h5, H⟩ := Ae H
    obtain ⟨v15, h6, h7⟩ := Co h3 h5
    have h8 : NJ v15 = [.int .i64 x8.1, .int .i64 x8.2.1, (v15.2.2.1)] := congrArg (fun q : Int × Int × List Int => ([.int .i64 q.1, .int .i64 q.2.1, (v15.2.2.1)] : List Value)) h7
    refine ls W F Aa (Al (r := Q8) U0 W Aa Aa (Ab h_v6) h6).q fun a w W F => ?_
    refine ls W F Aa (Ag (y := Value.agg #[.int .i64 x8.1, .int .i64 x8.2.1, (v15.2.2.1)]) (j := 0) (i := x5) (enc := NJ) W Aa Aa (Ab h_v6) h6 Tc Wc (by rw [h8]; rfl)).q fun a w W F => ?_
    refine BU (cs := [.int .i64 0, .int .i64 0, .slice none 0 0]) W F Aa WK Aa fun b2 a w W F => ?_
    refine ls W F Aa (Bl W Aa).q fun a w W F => ?_
    refine Fv 0 W F Aa Aa Aa Wc Aa Aa (A8 Aa (A8 Aa (A8 ((A4 (Ab h_v6) h6 (BL.snd (BL.snd BL.here)) (congrArg (fun q : Int × Int × List Int => q.2.2) h7)) _ F).one HC))) fun w F => ?_
    refine Bz tk 5 W F fun a w W F => ?_
    obtain ⟨x9, h9, H⟩ := Ae H
    obtain ⟨x10, h10, H⟩ := Ae H
    refine Cv (Ml := []) (Zl := []) (β := Value × ({x : List (Value × Nat × List (Value × Nat × List Int)) // x.map DO = x10})) (rv := fun x => x.1) (MM := fun x => []) (ZZ := fun x => [AX x.1 26 BZ x.2.1]) W F Xj Aa Aa (fun hL => Mp _ w (v10) x9 _ h10 ((LJ.plain VM g_x4.2 h9 (HA 1 Aa)) w F).nx) fun x a w W F => ?_
    obtain ⟨v16, v17⟩ := x
    have F : Stw ⟨Y, [], w0⟩ [(b2, [.int .i64 x8.1, .int .i64 x8.2.1, (v15.2.2.1)]), (b1, (CH p0 v1 v2 v3 v4 v5 v6))] [AX v16 26 BZ v17.1, row v13 58 BK x3, AX v10 46 Ck g_x4.1] w := F
    refine vl tk 2 W F fun a w W F => ?_
    refine Ac ?_
    obtain ⟨o4, G4, K4⟩ := Ae H
    refine Aj (fun a w => ∃ x11 : List (Nat × List Int), ∃ x12 : List (Nat × List (Nat × List Int)), ∃ g_x11 : {x : List (Value × Nat × List Int) // x.map DN = x11}, ∃ g_x12 : {x : List (Value × Nat × List (Value × Nat × List Int)) // x.map DO = x12}, some ((x11, x12)) = some o4 ∧ Fr 90 [] [(1, .pointer (some ⟨b1, 0, none⟩)), (2, .slice none 0 0), (3, v13), (4, v10), (5, .int .i64 x5), (7, v16), (16, v6), (17, .int .i64 (p0.2.2.2.2.1.length : Int)), (18, .int .i64 x5)] a ∧ Stw ⟨Y, [], w0⟩ [(b2, [.int .i64 x8.1, .int .i64 x8.2.1, (v15.2.2.1)]), (b1, (CH p0 v1 v2 v3 v4 v5 v6))] [row v13 58 BK x3, AX v10 46 Ck g_x11.1, AX v16 26 BZ g_x12.1] w) ?_ ?_
    ·
     have H := G4
     clear G4 K4
     refine D3 tk 5 [1] W F (ai fun a w W F => ?_)
     refine ls W F Aa (AR (r := HV) (l := p0.2.2.2.1) SW Aa W Aa (Ab h_v5)).q fun a w W F => ?_
     refine Bz tk 4 W F fun a w W F => ?_
     have F := F.frontZ (i := 2) Aa Aa
     have F := F.frontZ (i := 2) Aa Aa
     have F := F.frontM (i := 1) Aa Aa
     have F := F.frontM (i := 1) Aa Aa
     refine AA H (fun s a w => ∃ g_x13 : {x : List (Value × Nat × List Int) // x.map DN = s.1}, ∃ g_x14 : {x : List (Value × Nat × List (Value × Nat × List Int)) // x.map DO = s.2.1}, Fr 90 [] [(1, .pointer (some ⟨b1, 0, none⟩)), (2, .slice none 0 0), (3, v13), (4, v10), (5, .int .i64 x5), (6, .pointer (some ⟨b2, 0, none⟩)), (7, v16), (16, v6), (17, .int .i64 (p0.2.2.2.2.1.length : Int)), (18, .int .i64 x5), (27, v5), (28, .int .i64 (p0.2.2.2.1.length : Int)), (29, .int .i64 s.2.2)] a ∧ Stw ⟨Y, [], w0⟩ [(b2, [.int .i64 x8.1, .int .i64 x8.2.1, (v15.2.2.1)]), (b1, (CH p0 v1 v2 v3 v4 v5 v6))] [row v13 58 BK x3, AX v10 46 Ck g_x13.1, AX v16 26 BZ g_x14.1] w) ⟨⟨g_x4.1, g_x4.2⟩, ⟨v17.1, v17.2⟩, W.ra Aa, F⟩ fun s o a w H L5 hR => ?_
     obtain ⟨x13, x14, x15⟩ := s
     obtain ⟨g_x13, g_x14, W, F⟩ := hR
     have W : Fr 90 [] [(1, .pointer (some ⟨b1, 0, none⟩)), (2, .slice none 0 0), (3, v13), (4, v10), (5, .int .i64 x5), (6, .pointer (some ⟨b2, 0, none⟩)), (7, v16), (16, v6), (17, .int .i64 (p0.2.2.2.2.1.length : Int)), (18, .int .i64 x5), (27, v5), (28, .int .i64 (p0.2.2.2.1.length : Int)), (29, .int .i64 x15)] a := W
     have F : Stw ⟨Y, [], w0⟩ [(b2, [.int .i64 x8.1, .int .i64 x8.2.1, (v15.2.2.1)]), (b1, (CH p0 v1 v2 v3 v4 v5 v6))] [row v13 58 BK x3, AX v10 46 Ck g_x13.1, AX v16 26 BZ g_x14.1] w := F
     rw [Bc] at H
     refine vc tk 6 W F fun a w W F => ?_
     refine AN W Aa H (fun W H => ?_) fun W H => ?_
     ·
      refine As (Ac ?_)
      obtain ⟨o6, G6, K6⟩ := Ae H
      refine Aj (fun a w => ∃ x16 : List (Nat × List Int), ∃ x17 : List (Nat × List (Nat × List Int)), ∃ g_x16 : {x : List (Value × Nat × List Int) // x.map DN = x16}, ∃ g_x17 : {x : List (Value × Nat × List (Value × Nat × List Int)) // x.map DO = x17}, some ((x16, x17)) = some o6 ∧ Fr 90 [] [(1, .pointer (some ⟨b1, 0, none⟩)), (2, .slice none 0 0), (3, v13), (4, v10), (5, .int .i64 x5), (6, .pointer (some ⟨b2, 0, none⟩)), (7, v16), (16, v6), (17, .int .i64 (p0.2.2.2.2.1.length : Int)), (18, .int .i64 x5), (27, v5), (28, .int .i64 (p0.2.2.2.1.length : Int)), (29, .int .i64 x15)] a ∧ Stw ⟨Y, [], w0⟩ [(b2, [.int .i64 x8.1, .int .i64 x8.2.1, (v15.2.2.1)]), (b1, (CH p0 v1 v2 v3 v4 v5 v6))] [row v13 58 BK x3, AX v10 46 Ck g_x16.1, AX v16 26 BZ g_x17.1] w) ?_ ?_
      ·
       have H := G6
       clear G6 K6
       refine vc tk 3 W F fun a w W F => ?_
       obtain ⟨x18, h11, H⟩ := Ae H
       refine ls W F Aa (Al (r := HV) Vr W Aa Aa (Ab h_v5) h11).q fun a w W F => ?_
       refine ls W F Aa (Ag (y := Value.agg #[.int .i64 x18.1, .int .i64 x18.2.1, .int .i64 x18.2.2.1, .int .i64 x18.2.2.2]) (j := 0) (i := x15) W Aa Aa (Ab h_v5) h11 V2.to To Aa).q fun a w W F => ?_
       refine BU (cs := (Oy)) W F Aa VX Aa fun b3 a w W F => ?_
       refine Fv 0 W F Aa Aa Aa To Aa Aa Aa fun w F => ?_
       refine DP (Ac ?_)
       obtain ⟨o7, G7, K7⟩ := Ae H
       refine Aj (fun a w => ∃ x19 : List (Nat × List Int), ∃ x20 : List (Nat × List (Nat × List Int)), ∃ x21 : Bool, ∃ g_x19 : {x : List (Value × Nat × List Int) // x.map DN = x19}, ∃ g_x20 : {x : List (Value × Nat × List (Value × Nat × List Int)) // x.map DO = x20}, some ((x19, x20, x21)) = some o7 ∧ Fr 90 [] [(1, .pointer (some ⟨b1, 0, none⟩)), (2, .slice none 0 0), (3, v13), (4, v10), (5, .int .i64 x5), (6, .pointer (some ⟨b2, 0, none⟩)), (7, v16), (9, .pointer (some ⟨b3, 0, none⟩)), (16, v6), (17, .int .i64 (p0.2.2.2.2.1.length : Int)), (18, .int .i64 x5), (27, v5), (28, .int .i64 (p0.2.2.2.1.length : Int)), (29, .int .i64 x15), (40, .bool x21)] a ∧ Stw ⟨Y, [], w0⟩ [(b3, (CM x18)), (b2, [.int .i64 x8.1, .int .i64 x8.2.1, (v15.2.2.1)]), (b1, (CH p0 v1 v2 v3 v4 v5 v6))] [row v13 58 BK x3, AX v10 46 Ck g_x19.1, AX v16 26 BZ g_x20.1] w) ?_ ?_
       ·
        have H := G7
        clear G7 K7
        refine D3 tk 3 [2, 0] W F (ai (ai fun a w W F => ?_))
        refine ls W F Aa (AL (v := Value.bool (A6 p0 x18)) W W2 Aa (fun w F => FT any w (v1) (v2) (v3) (v4) (v5) (v6) p0 x18 _ Aa (Ci (Ab h_v1) F) (Ci (Ab h_v2) F) (Ci (Aq Bh h1 (Ab h_v3)) F) (Ci (Aq Bh h2 (Ab h_v4)) F) (Ci (Ab h_v5) F) (Ci (Aq FR h3 (Ab h_v6)) F))) fun a w W F => ?_
        refine ls W F Aa (Ak W Aa).q fun a w W F => ?_
        rcases Bool.eq_false_or_eq_true (A6 p0 x18) with hb | hb
        ·
         have H := B5 hb H
         rw [hb] at W
         clear hb
         refine GL tk 2 [1, 0] W F (ai (ai fun a w W F => ?_))
         refine I3 (Ad W Aa Aa Aa Aa) ?_
         obtain ⟨x22, h12, H⟩ := Ae H
         refine ls W F Aa (AL (v := Value.bool x22) W WV Aa (fun w F => Ir any w ((v15.2.2.1)) x8 x18 _ h12 (Ci (A4 (Ab h_v6) h6 (BL.snd (BL.snd BL.here)) (congrArg (fun q : Int × Int × List Int => q.2.2) h7)) F))) fun a w W F => ?_
         refine vl tk 2 W F fun a w W F => ?_
         refine Ac ?_
         have F := F.frontZ (i := 2) Aa Aa
         have F := F.frontZ (i := 2) Aa Aa
         have F := F.frontZ (i := 2) Aa Aa
         have F := F.frontM (i := 2) Aa Aa
         have F := F.frontM (i := 2) Aa Aa
         have F := F.frontM (i := 2) Aa Aa
         exact ⟨_, _, _, ⟨g_x13.1, g_x13.2⟩, ⟨g_x14.1, g_x14.2⟩, H, W.ra Aa, F⟩
        have H := B6 (by rw [hb]; decide) H
        rw [hb] at W
        clear hb
        refine vl tk 5 W F fun a w W F => ?_
        refine Ac ?_
        have F := F.frontZ (i := 2) Aa Aa
        have F := F.frontZ (i := 2) Aa Aa
        have F := F.frontZ (i := 2) Aa Aa
        have F := F.frontM (i := 2) Aa Aa
        have F := F.frontM (i := 2) Aa Aa
        have F := F.frontM (i := 2) Aa Aa
        exact ⟨_, _, _, ⟨g_x13.1, g_x13.2⟩, ⟨g_x14.1, g_x14.2⟩, H, W.ra Aa, F⟩
       rintro a w ⟨x19, x20, x21, g_x19, g_x20, hj, W, F⟩
       have hj := Av hj
       subst hj
       have H := K7
       clear G7 K7
       refine B0 W Aa H (fun W H => ?_) fun W H => ?_
       ·
        refine Nq ?_
        have F := F.frontZ (i := 2) Aa Aa
        have F := F.dSplitE g_x20.1 Aa
        have F : Stw ⟨Y, [], w0⟩ [(b3, (CM x18)), (b2, [.int .i64 x8.1, .int .i64 x8.2.1, (v15.2.2.1)]), (b1, (CH p0 v1 v2 v3 v4 v5 v6))] [row v13 58 BK x3, AX v10 46 Ck g_x19.1, row v16 26 BZ.hr g_x20.1, EO (List.map BZ.it g_x20.1)] w := F
        refine Kv [(true, 0), (true, 1), (true, 2), (true, 3), (true, 4), (true, 5), (true, 6), (true, 7), (true, 8), (true, 9), (true, 10), (true, 11), (true, 12), (true, 13), (true, 14), (true, 15), (true, 16), (true, 17), (false, 18), (false, 19), (true, 20), (false, 21)] (CN ⟨Y, [], w0⟩ [(some 21, b3, [.int .i64 x18.1, .int .i64 x18.2.1, .int .i64 x18.2.2.1, .int .i64 x18.2.2.2]), (some 19, b3, [.int .i64 x18.1, .int .i64 x18.2.1, .int .i64 x18.2.2.1, .int .i64 x18.2.2.2]), (some 18, b3, [.int .i64 x18.1, .int .i64 x18.2.1, .int .i64 x18.2.2.1, .int .i64 x18.2.2.2])] [(some 21, row v16 26 BZ.hr g_x20.1), (some 19, row v16 26 BZ.hr g_x20.1), (some 19, EO (List.map BZ.it g_x20.1))]) (fun ch a d v w h => by cases d <;> exact h) MO (by kernel_rfl) F (fun w F => ⟨_, _, F, (all_cons (fun _ => (.head _)) (all_cons (fun _ => (.head _)) (all_cons (fun _ => (.head _)) AD))), (all_cons (fun _ => (.tail _ (.tail _ (.head _)))) (all_cons (fun _ => (.tail _ (.tail _ (.head _)))) (all_cons (fun _ => (.tail _ (.tail _ (.tail _ (.head _))))) AD)))⟩) fun w F => ?_
        refine CJ (R := []) W Aa Aa (yC fun M Z hN hZ => Ak W Aa) Aa Aa fun a W => ?_
        refine CJ (R := []) W Aa Aa (yC fun M Z hN hZ => Af J8 Aa Aa Aa T3 W Aa 0 Aa) Aa Aa fun a W => ?_
        refine CJ (R := [21]) W Aa Aa (yC fun M Z hN hZ => Cs (cs := (CM x18)) (v := Value.int .i64 x18.1) W Aa (hN ((some 21), b3, (CM x18)) (.head _) Aa) T3 Aa) (by kernel_rfl) Aa fun a W => ?_
        obtain ⟨x23, h13, H⟩ := Ae H
        obtain ⟨v18, h14, h15⟩ := Co (er := DO) g_x20.2 h13
        refine CJ (R := []) W Aa Aa (yC fun M Z hN hZ => Ku (r := BZ.hr) U6 W Aa Aa (Ql F (Ob (lx := g_x20.1) 2 Aa Aa)) h14) Aa Aa fun a W => ?_
        have h16 : BZ.cells v18 = [(v18.1)] := congrArg (fun q : Nat × List (Nat × List Int) => ([(v18.1)] : List Value)) h15
        refine CJ (R := [21]) W Aa Aa (yC fun M Z hN hZ => Ag (y := (v18.1)) (j := 0) (i := x18.1) (enc := BZ.cells) W Aa Aa (Ns (lx := g_x20.1) (hZ ((some 21), row v16 26 BZ.hr g_x20.1) (.head _) Aa) Aa) h14 BZ.flat Vv (by rw [h16]; rfl)) (by kernel_rfl) Aa fun a W => ?_
        refine CJ (R := []) W Aa Aa (yC fun M Z hN hZ => Af J8 Aa Aa Aa T3 W Aa 1 Aa) Aa Aa fun a W => ?_
        refine CJ (R := [21]) W Aa Aa (yC fun M Z hN hZ => Cs (cs := (CM x18)) (v := Value.int .i64 x18.2.1) W Aa (hN ((some 21), b3, (CM x18)) (.head _) Aa) T3 Aa) (by kernel_rfl) Aa fun a W => ?_
        refine CJ (R := []) W Aa Aa (yC fun M Z hN hZ => Ak W Aa) Aa Aa fun a W => ?_
        refine CJ (R := []) W Aa Aa (yC fun M Z hN hZ => Af J8 Aa Aa Aa T3 W Aa 0 Aa) Aa Aa fun a W => ?_
        refine CJ (R := [19, 15, 14, 11, 10]) W Aa Aa (yC fun M Z hN hZ => Cs (cs := (CM x18)) (v := Value.int .i64 x18.1) W Aa (hN ((some 19), b3, (CM x18)) (.tail _ (.head _)) Aa) T3 Aa) (by kernel_rfl) Aa fun a W => ?_
        refine CJ (R := []) W Aa Aa (yC fun M Z hN hZ => Ku (r := BZ.hr) U6 W Aa Aa (Ql F (Ob (lx := g_x20.1) 2 Aa Aa)) h14) Aa Aa fun a W => ?_
        have h17 : BZ.cells v18 = [(v18.1)] := congrArg (fun q : Nat × List (Nat × List Int) => ([(v18.1)] : List Value)) h15
        refine CJ (R := [19, 15, 14]) W Aa Aa (yC fun M Z hN hZ => Ag (y := (v18.1)) (j := 0) (i := x18.1) (enc := BZ.cells) W Aa Aa (Ns (lx := g_x20.1) (hZ ((some 19), row v16 26 BZ.hr g_x20.1) (.tail _ (.head _)) Aa) Aa) h14 BZ.flat Vv (by rw [h17]; rfl)) (by kernel_rfl) Aa fun a W => ?_
        refine CJ (R := []) W Aa Aa (yC fun M Z hN hZ => Af J8 Aa Aa Aa T3 W Aa 1 Aa) Aa Aa fun a W => ?_
        refine CJ (R := [19, 15, 14]) W Aa Aa (yC fun M Z hN hZ => Cs (cs := (CM x18)) (v := Value.int .i64 x18.2.1) W Aa (hN ((some 19), b3, (CM x18)) (.tail _ (.head _)) Aa) T3 Aa) (by kernel_rfl) Aa fun a W => ?_
        obtain ⟨x24, h18, H⟩ := Ae H
        obtain ⟨v19, h19, h20⟩ := Co (er := DN) (congrArg (fun q : Nat × List (Nat × List Int) => q.2) h15) h18
        obtain ⟨x25, h21, H⟩ := Ae H
        refine CJ (R := []) W Aa Aa (yC fun M Z hN hZ => Ku (r := Ck.hr) Vw W Aa Aa (Ql F (LJ.hd (Th.dl (Oe (lx := g_x20.1) 3 Aa) h14 Foc.here ((congrArg (fun q : Nat × List (Nat × List Int) => q.1) h15).trans (JI h21))))) h19) Aa Aa fun a W => ?_
        have h22 : Ck.cells v19 = [(v19.1)] := congrArg (fun q : Nat × List Int => ([(v19.1)] : List Value)) h20
        refine CJ (R := [19]) W Aa Aa (yC fun M Z hN hZ => Ag (y := (v19.1)) (j := 0) (i := x18.2.1) (enc := Ck.cells) W Aa Aa (LJ.hd (Th.dl (Vd (lx := g_x20.1) (hZ ((some 19), EO (List.map BZ.it g_x20.1)) (.tail _ (.tail _ (.head _))) Aa)) h14 Foc.here ((congrArg (fun q : Nat × List (Nat × List Int) => q.1) h15).trans (JI h21)))) h19 Ck.flat Jv (by rw [h22]; rfl)) (by kernel_rfl) Aa fun a W => ?_
        refine CJ (R := []) W Aa Aa (yC fun M Z hN hZ => Af J8 Aa Aa Aa T3 W Aa 2 Aa) Aa Aa fun a W => ?_
        refine CJ (R := [18]) W Aa Aa (yC fun M Z hN hZ => Cs (cs := (CM x18)) (v := Value.int .i64 x18.2.2.1) W Aa (hN ((some 18), b3, (CM x18)) (.tail _ (.tail _ (.head _))) Aa) T3 Aa) (by kernel_rfl) Aa fun a W => ?_
        refine F4 Aa ?_
        refine Cp (z := Value.int .i64 0) (cs := [.int .i64 x18.2.2.1]) (Rp.int .i64) ([x18.2.2.1] : List Int) W F Aa FS Z3 Aa Aa Aa Aa Aa Aa (Fl.int.repL _ _ ([x18.2.2.1] : List Int)) fun v20 a w W F => ?_
        refine Cq (N2 := []) (NZ2 := []) (N3 := [(some 21, b3, [.int .i64 x18.1, .int .i64 x18.2.1, .int .i64 x18.2.2.1, .int .i64 x18.2.2.2]), (some 19, b3, [.int .i64 x18.1, .int .i64 x18.2.1, .int .i64 x18.2.2.1, .int .i64 x18.2.2.2]), (some 18, b3, [.int .i64 x18.1, .int .i64 x18.2.1, .int .i64 x18.2.2.1, .int .i64 x18.2.2.2])]) (NZ3 := [(some 21, row v16 26 BZ.hr g_x20.1), (some 19, row v16 26 BZ.hr g_x20.1), (some 19, EO (List.map BZ.it g_x20.1))]) F Aa Aa (all_cons (fun _ => (.head _)) (all_cons (fun _ => (.head _)) (all_cons (fun h => Ap (by kernel_rfl) h) AD))) (all_cons (fun _ => (.tail _ (.tail _ (.tail _ (.head _))))) (all_cons (fun _ => (.tail _ (.tail _ (.tail _ (.head _))))) (all_cons (fun _ => (.tail _ (.tail _ (.tail _ (.tail _ (.head _)))))) AD))) ?_
        refine F4 Aa ?_
        obtain ⟨x26, h23, H⟩ := Ae H
        have F := Stw.dJoinE (lx := g_x20.1) [row v20 3 (Rp.int .i64) ([x18.2.2.1] : List Int), row v13 58 BK x3, AX v10 46 Ck g_x19.1] F Aa
        have F : Stw ⟨Y, [], w0⟩ [(b3, (CM x18)), (b2, [.int .i64 x8.1, .int .i64 x8.2.1, (v15.2.2.1)]), (b1, (CH p0 v1 v2 v3 v4 v5 v6))] [AX v16 26 BZ g_x20.1, row v20 3 (Rp.int .i64) ([x18.2.2.1] : List Int), row v13 58 BK x3, AX v10 46 Ck g_x19.1] w := F
        have F := F.dTakeD h14 Foc.here ((congrArg (fun q : Nat × List (Nat × List Int) => q.1) h15).trans (JI h21))
        have h24 : List.map DO (Am g_x20.1 x18.1 ((v18.1), 0, [])) = (Am x20 x18.1 (0, [])) := (HP g_x20.2 (congrArg (fun q : Nat × List (Nat × List Int) => (0, [])) h15))
        have F : Stw ⟨Y, [], w0⟩ [(b3, (CM x18)), (b2, [.int .i64 x8.1, .int .i64 x8.2.1, (v15.2.2.1)]), (b1, (CH p0 v1 v2 v3 v4 v5 v6))] [AX (v18.1) 46 Ck (v18.2.2), AX v16 26 BZ (Am g_x20.1 x18.1 ((v18.1), 0, [])), row v20 3 (Rp.int .i64) ([x18.2.2.1] : List Int), row v13 58 BK x3, AX v10 46 Ck g_x19.1] w := F
        have F := F.dTakeR h19 Foc.here ((congrArg (fun q : Nat × List Int => q) h20).trans (Prod.ext (JI h23) Aa))
        have h25 : List.map DN (Am (v18.2.2) x18.2.1 ((v19.1), 0, [])) = (Am x23.2 x18.2.1 (0, [])) := (HP (congrArg (fun q : Nat × List (Nat × List Int) => q.2) h15) (congrArg (fun q : Nat × List Int => (0, [])) h20))
        have F : Stw ⟨Y, [], w0⟩ [(b3, (CM x18)), (b2, [.int .i64 x8.1, .int .i64 x8.2.1, (v15.2.2.1)]), (b1, (CH p0 v1 v2 v3 v4 v5 v6))] [row (v19.1) 3 (Rp.int .i64) x24.2, AX (v18.1) 46 Ck (Am (v18.2.2) x18.2.1 ((v19.1), 0, [])), AX v16 26 BZ (Am g_x20.1 x18.1 ((v18.1), 0, [])), row v20 3 (Rp.int .i64) ([x18.2.2.1] : List Int), row v13 58 BK x3, AX v10 46 Ck g_x19.1] w := F
        have F := F.frontZ (i := 2) Aa Aa
        have F := F.frontZ (i := 2) Aa Aa
        have h26 : DO ((v18.1), 2, (Am (v18.2.2) x18.2.1 ((v19.1), 0, []))) = (2, (Am x23.2 x18.2.1 (0, []))) := by first | (simp only [DO, h25]; done) | simp only [h25, ← h15]
        have F := F.dBackD (x2 := ((v18.1), 2, (Am (v18.2.2) x18.2.1 ((v19.1), 0, [])))) h14 Foc.here Aa Aa
        have h27 : List.map DO (Am g_x20.1 x18.1 ((v18.1), 2, (Am (v18.2.2) x18.2.1 ((v19.1), 0, [])))) = (Am x20 x18.1 (2, (Am x23.2 x18.2.1 (0, [])))) := (HP g_x20.2 h26)
        have F : Stw ⟨Y, [], w0⟩ [(b3, (CM x18)), (b2, [.int .i64 x8.1, .int .i64 x8.2.1, (v15.2.2.1)]), (b1, (CH p0 v1 v2 v3 v4 v5 v6))] [AX v16 26 BZ (Am g_x20.1 x18.1 ((v18.1), 2, (Am (v18.2.2) x18.2.1 ((v19.1), 0, [])))), row (v19.1) 3 (Rp.int .i64) x24.2, row v20 3 (Rp.int .i64) ([x18.2.2.1] : List Int), row v13 58 BK x3, AX v10 46 Ck g_x19.1] w := F
        obtain ⟨x27, h28, H⟩ := Ae H
        refine BF (r := (Rp.int .i64)) (i := 1) W F Aa FS Aa Aa Aa Aa (Cr F 2 Aa) h28 Aa fun v21 a w W F => ?_
        have F : Stw ⟨Y, [], w0⟩ [(b3, (CM x18)), (b2, [.int .i64 x8.1, .int .i64 x8.2.1, (v15.2.2.1)]), (b1, (CH p0 v1 v2 v3 v4 v5 v6))] [row v21 3 (Rp.int .i64) x27, AX v16 26 BZ (Am g_x20.1 x18.1 ((v18.1), 2, (Am (v18.2.2) x18.2.1 ((v19.1), 0, [])))), row v20 3 (Rp.int .i64) ([x18.2.2.1] : List Int), row v13 58 BK x3, AX v10 46 Ck g_x19.1] w := F
        have F := F.frontZ (i := 1) Aa Aa
        have h29 : List.map BZ.cells g_x20.1 = List.map BZ.cells (Am g_x20.1 x18.1 ((v18.1), 2, (Am (v18.2.2) x18.2.1 ((v19.1), 0, [])))) := Eq.trans Aa (Eq.symm (Nf h14 Aa))
        have F := F.dSplitE g_x20.1 h29
        have F : Stw ⟨Y, [], w0⟩ [(b3, (CM x18)), (b2, [.int .i64 x8.1, .int .i64 x8.2.1, (v15.2.2.1)]), (b1, (CH p0 v1 v2 v3 v4 v5 v6))] [row v21 3 (Rp.int .i64) x27, row v20 3 (Rp.int .i64) ([x18.2.2.1] : List Int), row v13 58 BK x3, AX v10 46 Ck g_x19.1, row v16 26 BZ.hr g_x20.1, EO (List.map BZ.it (Am g_x20.1 x18.1 ((v18.1), 2, (Am (v18.2.2) x18.2.1 ((v19.1), 0, [])))))] w := F
        refine Cq (N2 := []) (NZ2 := []) (N3 := [(some 21, b3, [.int .i64 x18.1, .int .i64 x18.2.1, .int .i64 x18.2.2.1, .int .i64 x18.2.2.2]), (some 19, b3, [.int .i64 x18.1, .int .i64 x18.2.1, .int .i64 x18.2.2.1, .int .i64 x18.2.2.2]), (some 18, b3, [.int .i64 x18.1, .int .i64 x18.2.1, .int .i64 x18.2.2.1, .int .i64 x18.2.2.2])]) (NZ3 := [(some 21, row v16 26 BZ.hr g_x20.1), (some 19, row v16 26 BZ.hr g_x20.1), (some 19, EO (List.map BZ.it g_x20.1))]) F Aa Aa (all_cons (fun _ => (.head _)) (all_cons (fun h => Ap (by kernel_rfl) h) (all_cons (fun h => Ap (by kernel_rfl) h) AD))) (all_cons (fun _ => (.tail _ (.tail _ (.tail _ (.tail _ (.head _)))))) (all_cons (fun h => Ap (by kernel_rfl) h) (all_cons (fun h => Ap (by kernel_rfl) h) AD))) ?_
        obtain ⟨x28, h30, H⟩ := Ae H
        obtain ⟨v22, h31, h32⟩ := Co (er := DN) h25 h30
        refine CJ (R := []) W Aa Aa (yC fun M Z hN hZ => Ku (r := Ck.hr) Vw W Aa Aa (Ql F (LJ.hd (Th.dl (Oe (lx := (Am g_x20.1 x18.1 ((v18.1), 2, (Am (v18.2.2) x18.2.1 ((v19.1), 0, []))))) 5 Aa) (Jw h14) Foc.here Aa))) h31) Aa Aa fun a W => ?_
        refine F4 Aa ?_
        have F := Stw.dJoinE (lx := (Am g_x20.1 x18.1 ((v18.1), 2, (Am (v18.2.2) x18.2.1 ((v19.1), 0, []))))) [row v21 3 (Rp.int .i64) x27, row v20 3 (Rp.int .i64) ([x18.2.2.1] : List Int), row v13 58 BK x3, AX v10 46 Ck g_x19.1] F h29
        have F : Stw ⟨Y, [], w0⟩ [(b3, (CM x18)), (b2, [.int .i64 x8.1, .int .i64 x8.2.1, (v15.2.2.1)]), (b1, (CH p0 v1 v2 v3 v4 v5 v6))] [AX v16 26 BZ (Am g_x20.1 x18.1 ((v18.1), 2, (Am (v18.2.2) x18.2.1 ((v19.1), 0, [])))), row v21 3 (Rp.int .i64) x27, row v20 3 (Rp.int .i64) ([x18.2.2.1] : List Int), row v13 58 BK x3, AX v10 46 Ck g_x19.1] w := F
        have F := F.dTakeD (Jw h14) Foc.here Aa
        have h33 : List.map DO (Am (Am g_x20.1 x18.1 ((v18.1), 2, (Am (v18.2.2) x18.2.1 ((v19.1), 0, [])))) x18.1 ((v18.1), 0, [])) = (Am (Am x20 x18.1 (2, (Am x23.2 x18.2.1 (0, [])))) x18.1 (0, [])) := (HP h27 (congrArg (fun q : Nat × List (Nat × List Int) => (0, [])) h26))
        have F : Stw ⟨Y, [], w0⟩ [(b3, (CM x18)), (b2, [.int .i64 x8.1, .int .i64 x8.2.1, (v15.2.2.1)]), (b1, (CH p0 v1 v2 v3 v4 v5 v6))] [AX (v18.1) 46 Ck (Am (v18.2.2) x18.2.1 ((v19.1), 0, [])), AX v16 26 BZ (Am (Am g_x20.1 x18.1 ((v18.1), 2, (Am (v18.2.2) x18.2.1 ((v19.1), 0, [])))) x18.1 ((v18.1), 0, [])), row v21 3 (Rp.int .i64) x27, row v20 3 (Rp.int .i64) ([x18.2.2.1] : List Int), row v13 58 BK x3, AX v10 46 Ck g_x19.1] w := F
        have h34 : Value.oneCell' v21 = true := (F.one (k := 2) Aa)
        have F := F.frontZ (i := 2) Aa Aa
        have F := F.toR
        refine Mu (D := Ck) (S := (Dp.sl 3 (Rp.int .i64))) (b := (v21, 2, x27)) (i := x18.2.1) (j := 0) Foc.here W F Aa Aa Aa h31 Jv (B1 h34) Aa h34 Aa fun w F => ?_
        have h35 : List.map DN (Am (Am (v18.2.2) x18.2.1 ((v19.1), 0, [])) x18.2.1 (v21, 2, x27)) = (Am (Am x23.2 x18.2.1 (0, [])) x18.2.1 (2, x27)) := (HP h25 (congrArg (fun q : Nat × List Int => (2, x27)) h32))
        have F : Stw ⟨Y, [], w0⟩ [(b3, (CM x18)), (b2, [.int .i64 x8.1, .int .i64 x8.2.1, (v15.2.2.1)]), (b1, (CH p0 v1 v2 v3 v4 v5 v6))] [AX (v18.1) 46 Ck (Am (Am (v18.2.2) x18.2.1 ((v19.1), 0, [])) x18.2.1 (v21, 2, x27)), AX v16 26 BZ (Am (Am g_x20.1 x18.1 ((v18.1), 2, (Am (v18.2.2) x18.2.1 ((v19.1), 0, [])))) x18.1 ((v18.1), 0, [])), row v20 3 (Rp.int .i64) ([x18.2.2.1] : List Int), row v13 58 BK x3, AX v10 46 Ck g_x19.1] w := F
        have F := F.frontZ (i := 1) Aa Aa
        have F := F.frontZ (i := 1) Aa Aa
        have h36 : DO ((v18.1), 2, (Am (Am (v18.2.2) x18.2.1 ((v19.1), 0, [])) x18.2.1 (v21, 2, x27))) = (2, (Am (Am x23.2 x18.2.1 (0, [])) x18.2.1 (2, x27))) := by first | (simp only [DO, h35]; done) | simp only [h35, ← h26]
        have F := F.dBackD (x2 := ((v18.1), 2, (Am (Am (v18.2.2) x18.2.1 ((v19.1), 0, [])) x18.2.1 (v21, 2, x27)))) (Jw h14) Foc.here Aa Aa
        have h37 : List.map DO (Am (Am g_x20.1 x18.1 ((v18.1), 2, (Am (v18.2.2) x18.2.1 ((v19.1), 0, [])))) x18.1 ((v18.1), 2, (Am (Am (v18.2.2) x18.2.1 ((v19.1), 0, [])) x18.2.1 (v21, 2, x27)))) = (Am (Am x20 x18.1 (2, (Am x23.2 x18.2.1 (0, [])))) x18.1 (2, (Am (Am x23.2 x18.2.1 (0, [])) x18.2.1 (2, x27)))) := (HP h27 h36)
        have F : Stw ⟨Y, [], w0⟩ [(b3, (CM x18)), (b2, [.int .i64 x8.1, .int .i64 x8.2.1, (v15.2.2.1)]), (b1, (CH p0 v1 v2 v3 v4 v5 v6))] [AX v16 26 BZ (Am (Am g_x20.1 x18.1 ((v18.1), 2, (Am (v18.2.2) x18.2.1 ((v19.1), 0, [])))) x18.1 ((v18.1), 2, (Am (Am (v18.2.2) x18.2.1 ((v19.1), 0, [])) x18.2.1 (v21, 2, x27)))), row v20 3 (Rp.int .i64) ([x18.2.2.1] : List Int), row v13 58 BK x3, AX v10 46 Ck g_x19.1] w := F
        have h38 : List.map BZ.cells g_x20.1 = List.map BZ.cells (Am (Am g_x20.1 x18.1 ((v18.1), 2, (Am (v18.2.2) x18.2.1 ((v19.1), 0, [])))) x18.1 ((v18.1), 2, (Am (Am (v18.2.2) x18.2.1 ((v19.1), 0, [])) x18.2.1 (v21, 2, x27)))) := Eq.trans h29 (Eq.symm (Nf (Jw h14) Aa))
        have F := F.dSplitE g_x20.1 h38
        have F : Stw ⟨Y, [], w0⟩ [(b3, (CM x18)), (b2, [.int .i64 x8.1, .int .i64 x8.2.1, (v15.2.2.1)]), (b1, (CH p0 v1 v2 v3 v4 v5 v6))] [row v20 3 (Rp.int .i64) ([x18.2.2.1] : List Int), row v13 58 BK x3, AX v10 46 Ck g_x19.1, row v16 26 BZ.hr g_x20.1, EO (List.map BZ.it (Am (Am g_x20.1 x18.1 ((v18.1), 2, (Am (v18.2.2) x18.2.1 ((v19.1), 0, [])))) x18.1 ((v18.1), 2, (Am (Am (v18.2.2) x18.2.1 ((v19.1), 0, [])) x18.2.1 (v21, 2, x27)))))] w := F
        refine Cq (N2 := []) (NZ2 := []) (N3 := [(some 21, b3, [.int .i64 x18.1, .int .i64 x18.2.1, .int .i64 x18.2.2.1, .int .i64 x18.2.2.2]), (some 19, b3, [.int .i64 x18.1, .int .i64 x18.2.1, .int .i64 x18.2.2.1, .int .i64 x18.2.2.2]), (some 18, b3, [.int .i64 x18.1, .int .i64 x18.2.1, .int .i64 x18.2.2.1, .int .i64 x18.2.2.2])]) (NZ3 := [(some 21, row v16 26 BZ.hr g_x20.1), (some 19, row v16 26 BZ.hr g_x20.1), (some 19, EO (List.map BZ.it g_x20.1))]) F Aa Aa (all_cons (fun h => Ap (by kernel_rfl) h) (all_cons (fun h => Ap (by kernel_rfl) h) (all_cons (fun h => Ap (by kernel_rfl) h) AD))) (all_cons (fun h => Ap (by kernel_rfl) h) (all_cons (fun h => Ap (by kernel_rfl) h) (all_cons (fun h => Ap (by kernel_rfl) h) AD))) ?_
        refine KS ?_
        have F := Stw.dJoinE (lx := (Am (Am g_x20.1 x18.1 ((v18.1), 2, (Am (v18.2.2) x18.2.1 ((v19.1), 0, [])))) x18.1 ((v18.1), 2, (Am (Am (v18.2.2) x18.2.1 ((v19.1), 0, [])) x18.2.1 (v21, 2, x27))))) [row v20 3 (Rp.int .i64) ([x18.2.2.1] : List Int), row v13 58 BK x3, AX v10 46 Ck g_x19.1] F h38
        have F : Stw ⟨Y, [], w0⟩ [(b3, (CM x18)), (b2, [.int .i64 x8.1, .int .i64 x8.2.1, (v15.2.2.1)]), (b1, (CH p0 v1 v2 v3 v4 v5 v6))] [AX v16 26 BZ (Am (Am g_x20.1 x18.1 ((v18.1), 2, (Am (v18.2.2) x18.2.1 ((v19.1), 0, [])))) x18.1 ((v18.1), 2, (Am (Am (v18.2.2) x18.2.1 ((v19.1), 0, [])) x18.2.1 (v21, 2, x27)))), row v20 3 (Rp.int .i64) ([x18.2.2.1] : List Int), row v13 58 BK x3, AX v10 46 Ck g_x19.1] w := F
        refine Ac ?_
        refine LV 10 F MO (by kernel_rfl) ?_
        refine qs W Aa (Ak W Aa).q fun a W => ?_
        refine qs W Aa (Af J8 Aa Aa Aa T3 W Aa 0 Aa).q fun a W => ?_
        refine qs W Aa (AK (v := Value.int .i64 x18.1) 0 W Aa Aa T3 Aa).q fun a W => ?_
        obtain ⟨x29, h39, H⟩ := Ae H
        obtain ⟨v23, h40, h41⟩ := Co (er := DN) g_x19.2 h39
        refine qs W Aa (Al (r := Ck.hr) Ke W Aa Aa (LJ.hd (HA 3 Aa)) h40).q fun a W => ?_
        have h42 : Ck.cells v23 = [(v23.1)] := congrArg (fun q : Nat × List Int => ([(v23.1)] : List Value)) h41
        refine qs W Aa (Ag (y := (v23.1)) (j := 0) (i := x18.1) (enc := Ck.cells) W Aa Aa (LJ.hd (HA 3 Aa)) h40 Ck.flat Jv (by rw [h42]; rfl)).q fun a W => ?_
        refine qs W Aa (Af J8 Aa Aa Aa T3 W Aa 1 Aa).q fun a W => ?_
        refine qs W Aa (AK (v := Value.int .i64 x18.2.1) 0 W Aa Aa T3 Aa).q fun a W => ?_
        refine qs W Aa (Af J8 Aa Aa Aa T3 W Aa 2 Aa).q fun a W => ?_
        refine qs W Aa (AK (v := Value.int .i64 x18.2.2.1) 0 W Aa Aa T3 Aa).q fun a W => ?_
        obtain ⟨x30, h43, H⟩ := Ae H
        obtain ⟨x31, h44, H⟩ := Ae H
        refine qs W Aa (Al (r := (Rp.int .i64)) FS W Aa Aa (LJ.sl (k := x29.1) (l := x29.2) (HA 3 Aa) h40 Foc.here (congrArg (fun q : Nat × List Int => q) h41) (Tf h44)) h43).q fun a W => ?_
        refine AB fun w F => ?_
        obtain ⟨x32, h45, H⟩ := Ae H
        have F := F.frontZ (i := 3) Aa Aa
        have F := F.dTakeR h40 Foc.here ((congrArg (fun q : Nat × List Int => q) h41).trans (Prod.ext (JI h45) Aa))
        have h46 : List.map DN (Am g_x19.1 x18.1 ((v23.1), 0, [])) = (Am x19 x18.1 (0, [])) := (HP g_x19.2 (congrArg (fun q : Nat × List Int => (0, [])) h41))
        have F : Stw ⟨Y, [], w0⟩ [(b3, (CM x18)), (b2, [.int .i64 x8.1, .int .i64 x8.2.1, (v15.2.2.1)]), (b1, (CH p0 v1 v2 v3 v4 v5 v6))] [row (v23.1) 3 (Rp.int .i64) x29.2, AX v10 46 Ck (Am g_x19.1 x18.1 ((v23.1), 0, [])), AX v16 26 BZ (Am (Am g_x20.1 x18.1 ((v18.1), 2, (Am (v18.2.2) x18.2.1 ((v19.1), 0, [])))) x18.1 ((v18.1), 2, (Am (Am (v18.2.2) x18.2.1 ((v19.1), 0, [])) x18.2.1 (v21, 2, x27)))), row v20 3 (Rp.int .i64) ([x18.2.2.1] : List Int), row v13 58 BK x3] w := F
        refine Mo (i := x18.2.1) (j := 0) (vs := [.int .i64 x18.2.2.1]) (x' := x18.2.2.1) W F Aa Aa Aa (k := 0) Aa Aa h43 T3 Aa Aa Aa Aa (fun A cs _ => Fl.int.sto (by rfl) _ _ _) fun w F => ?_
        have F := F.frontZ (i := 1) Aa Aa
        have F := F.frontZ (i := 1) Aa Aa
        have F := F.dBackR (x2 := ((v23.1), 2, (Am x29.2 x18.2.1 x18.2.2.1))) h40 Foc.here Aa Aa
        have h47 : List.map DN (Am g_x19.1 x18.1 ((v23.1), 2, (Am x29.2 x18.2.1 x18.2.2.1))) = (Am x19 x18.1 (2, (Am x29.2 x18.2.1 x18.2.2.1))) := (HP g_x19.2 (congrArg (fun q : Nat × List Int => (2, (Am x29.2 x18.2.1 x18.2.2.1))) h41))
        have F : Stw ⟨Y, [], w0⟩ [(b3, (CM x18)), (b2, [.int .i64 x8.1, .int .i64 x8.2.1, (v15.2.2.1)]), (b1, (CH p0 v1 v2 v3 v4 v5 v6))] [AX v10 46 Ck (Am g_x19.1 x18.1 ((v23.1), 2, (Am x29.2 x18.2.1 x18.2.2.1))), AX v16 26 BZ (Am (Am g_x20.1 x18.1 ((v18.1), 2, (Am (v18.2.2) x18.2.1 ((v19.1), 0, [])))) x18.1 ((v18.1), 2, (Am (Am (v18.2.2) x18.2.1 ((v19.1), 0, [])) x18.2.1 (v21, 2, x27)))), row v20 3 (Rp.int .i64) ([x18.2.2.1] : List Int), row v13 58 BK x3] w := F
        refine DP (An (Ac ?_))
        have F := F.frontZ (i := 1) Aa Aa
        have F := F.frontZ (i := 1) Aa Aa
        have F := F.frontZ (i := 3) Aa Aa
        have F := F.frontM (i := 2) Aa Aa
        have F := F.frontM (i := 2) Aa Aa
        have F := F.sub (M' := [(b2, [.int .i64 x8.1, .int .i64 x8.2.1, (v15.2.2.1)]), (b1, (CH p0 v1 v2 v3 v4 v5 v6))]) (Z' := [row v13 58 BK x3, AX v10 46 Ck (Am g_x19.1 x18.1 ((v23.1), 2, (Am x29.2 x18.2.1 x18.2.2.1))), AX v16 26 BZ (Am (Am g_x20.1 x18.1 ((v18.1), 2, (Am (v18.2.2) x18.2.1 ((v19.1), 0, [])))) x18.1 ((v18.1), 2, (Am (Am (v18.2.2) x18.2.1 ((v19.1), 0, [])) x18.2.1 (v21, 2, x27))))]) (List.Sublist.cons_cons _ (List.Sublist.cons_cons _ (List.nil_sublist _))) (List.Sublist.cons_cons _ (List.Sublist.cons_cons _ (List.Sublist.cons_cons _ (List.nil_sublist _))))
        exact ⟨_, _, ⟨(Am g_x19.1 x18.1 ((v23.1), 2, (Am x29.2 x18.2.1 x18.2.2.1))), h47⟩, ⟨(Am (Am g_x20.1 x18.1 ((v18.1), 2, (Am (v18.2.2) x18.2.1 ((v19.1), 0, [])))) x18.1 ((v18.1), 2, (Am (Am (v18.2.2) x18.2.1 ((v19.1), 0, [])) x18.2.1 (v21, 2, x27)))), h37⟩, H, W.ra Aa, F⟩
       refine As (An (Ac ?_))
       have F := F.frontZ (i := 2) Aa Aa
       have F := F.frontZ (i := 2) Aa Aa
       have F := F.frontZ (i := 2) Aa Aa
       have F := F.frontM (i := 2) Aa Aa
       have F := F.frontM (i := 2) Aa Aa
       have F := F.sub (M' := [(b2, [.int .i64 x8.1, .int .i64 x8.2.1, (v15.2.2.1)]), (b1, (CH p0 v1 v2 v3 v4 v5 v6))]) (Z' := [row v13 58 BK x3, AX v10 46 Ck g_x19.1, AX v16 26 BZ g_x20.1]) (List.Sublist.cons_cons _ (List.Sublist.cons_cons _ (List.nil_sublist _))) (List.Sublist.refl _)
       exact ⟨_, _, ⟨g_x19.1, g_x19.2⟩, ⟨g_x20.1, g_x20.2⟩, H, W.ra Aa, F⟩
      rintro a w ⟨x16, x17, g_x16, g_x17, hj, W, F⟩
      have hj := Av hj
      subst hj
      have H := K6
      clear G6 K6
      refine vc tk 4 W F fun a w W F => ?_
      refine Ac ?_
      have F := F.frontZ (i := 2) Aa Aa
      have F := F.frontZ (i := 2) Aa Aa
      have F := F.frontZ (i := 2) Aa Aa
      have F := F.frontM (i := 1) Aa Aa
      have F := F.frontM (i := 1) Aa Aa
      exact ⟨_, H, ⟨g_x16.1, g_x16.2⟩, ⟨g_x17.1, g_x17.2⟩, W.ra Aa, F⟩
     refine Ay ?_
     iterate 2 refine AO ?_
     refine Az (Ac ?_)
     have F := F.frontZ (i := 2) Aa Aa
     have F := F.frontZ (i := 2) Aa Aa
     have F := F.frontZ (i := 2) Aa Aa
     have F := F.frontM (i := 1) Aa Aa
     have F := F.frontM (i := 1) Aa Aa
     have H := L5 _ H
     exact ⟨_, _, ⟨g_x13.1, g_x13.2⟩, ⟨g_x14.1, g_x14.2⟩, H, W.ra Aa, F⟩
    rintro a w ⟨x11, x12, g_x11, g_x12, hj, W, F⟩
    have hj := Av hj
    subst hj
    have H := K4
    clear G4 K4
    refine D3 tk 5 [1] W F (ai fun a w W F => ?_)
    refine ls W F Aa (AR (r := Ec) (l := p0.1.2.2) Jg Aa W Aa (Ab h_v2)).q fun a w W F => ?_
    refine Bz tk 4 W F fun a w W F => ?_
    have F := F.frontZ (i := 2) Aa Aa
    have F := F.frontZ (i := 2) Aa Aa
    have F := F.frontZ (i := 2) Aa Aa
    have F := F.frontM (i := 1) Aa Aa
    have F := F.frontM (i := 1) Aa Aa
    refine AA H (fun s a w => ∃ v24 : Value, Fr 90 [] [(1, .pointer (some ⟨b1, 0, none⟩)), (2, .slice none 0 0), (3, v24), (4, v10), (5, .int .i64 x5), (7, v16), (16, v6), (17, .int .i64 (p0.2.2.2.2.1.length : Int)), (18, .int .i64 x5), (76, .int .i64 (p0.1.2.2.length : Int)), (77, .int .i64 s.2)] a ∧ Stw ⟨Y, [], w0⟩ [(b2, [.int .i64 x8.1, .int .i64 x8.2.1, (v15.2.2.1)]), (b1, (CH p0 v1 v2 v3 v4 v5 v6))] [row v24 58 BK s.1, AX v10 46 Ck g_x11.1, AX v16 26 BZ g_x12.1] w) ⟨(v13), W.ra Aa, F⟩ fun s o a w H L8 hR => ?_
    obtain ⟨x33, x34⟩ := s
    obtain ⟨v24, W, F⟩ := hR
    have W : Fr 90 [] [(1, .pointer (some ⟨b1, 0, none⟩)), (2, .slice none 0 0), (3, v24), (4, v10), (5, .int .i64 x5), (7, v16), (16, v6), (17, .int .i64 (p0.2.2.2.2.1.length : Int)), (18, .int .i64 x5), (76, .int .i64 (p0.1.2.2.length : Int)), (77, .int .i64 x34)] a := W
    have F : Stw ⟨Y, [], w0⟩ [(b2, [.int .i64 x8.1, .int .i64 x8.2.1, (v15.2.2.1)]), (b1, (CH p0 v1 v2 v3 v4 v5 v6))] [row v24 58 BK x33, AX v10 46 Ck g_x11.1, AX v16 26 BZ g_x12.1] w := F
    rw [Bd] at H
    refine vc tk 6 W F fun a w W F => ?_
    refine AN W Aa H (fun W H => ?_) fun W H => ?_
    ·
     refine Jk tk 16 [1] W F (ai fun a w W F => ?_)
     obtain ⟨x35, h48, H⟩ := Ae H
     obtain ⟨x36, h49, H⟩ := Ae H
     refine Cv (Ml := []) (Zl := []) (β := Value) (rv := fun x => x) (MM := fun x => []) (ZZ := fun x => [row x 58 BK x36]) W F Xs Aa Aa (fun hL => IW _ w (v1) (v2) (v3) (v4) (v5) (v6) (v16) p0 x35 x5 x34 _ h49 ((Ab h_v1) w F).nx ((Ab h_v2) w F).nx ((Aq Bh h1 (Ab h_v3)) w F).nx ((Aq Bh h2 (Ab h_v4)) w F).nx ((Ab h_v5) w F).nx ((Aq FR h3 (Ab h_v6)) w F).nx ((LJ.plain Wo g_x12.2 h48 (HA 2 Aa)) w F).nx) fun x a w W F => ?_
     obtain ⟨v25, rfl⟩ : ∃ y, y = x := ⟨x, rfl⟩
     have F : Stw ⟨Y, [], w0⟩ [(b2, [.int .i64 x8.1, .int .i64 x8.2.1, (v15.2.2.1)]), (b1, (CH p0 v1 v2 v3 v4 v5 v6))] [row v25 58 BK x36, row v24 58 BK x33, AX v10 46 Ck g_x11.1, AX v16 26 BZ g_x12.1] w := F
     obtain ⟨x37, h50, H⟩ := Ae H
     refine BF (r := BK) (i := 1) W F Aa Nj Aa Aa Aa Aa (Cr F 0 Aa) h50 Aa fun v26 a w W F => ?_
     have F : Stw ⟨Y, [], w0⟩ [(b2, [.int .i64 x8.1, .int .i64 x8.2.1, (v15.2.2.1)]), (b1, (CH p0 v1 v2 v3 v4 v5 v6))] [row v26 58 BK x37, row v25 58 BK x36, AX v10 46 Ck g_x11.1, AX v16 26 BZ g_x12.1] w := F
     refine vl tk 2 W F fun a w W F => ?_
     refine An ?_
     refine vn tk 4 W F fun a w W F => ?_
     refine Ac ?_
     have F := F.frontZ (i := 3) Aa Aa
     have F := F.frontZ (i := 3) Aa Aa
     have F := F.frontZ (i := 2) Aa Aa
     have F := F.frontM (i := 1) Aa Aa
     have F := F.frontM (i := 1) Aa Aa
     have F := F.sub (M' := [(b2, [.int .i64 x8.1, .int .i64 x8.2.1, (v15.2.2.1)]), (b1, (CH p0 v1 v2 v3 v4 v5 v6))]) (Z' := [row v26 58 BK x37, AX v10 46 Ck g_x11.1, AX v16 26 BZ g_x12.1]) (List.Sublist.refl _) (List.Sublist.cons_cons _ (List.Sublist.cons_cons _ (List.Sublist.cons_cons _ (List.nil_sublist _))))
     exact ⟨_, H, (v26), W.ra Aa, F⟩
    refine Ay ?_
    iterate 2 refine AO ?_
    refine Az (An (Ac ?_))
    have F := F.frontZ (i := 1) Aa Aa
    have F := F.frontZ (i := 1) Aa Aa
    have F := F.frontM (i := 1) Aa Aa
    have F := F.sub (M' := (B4 b1 p0 v1 v2 v3 v4 v5 v6)) (Z' := [row v24 58 BK x33, AX v10 46 Ck g_x11.1]) (List.Sublist.cons_cons _ (List.nil_sublist _)) (List.Sublist.cons_cons _ (List.Sublist.cons_cons _ (List.nil_sublist _)))
    have H := L8 _ H
    exact ⟨_, _, (v24), ⟨g_x11.1, g_x11.2⟩, H, W.ra Aa, F⟩
   rintro a w ⟨x6, x7, v14, g_x7, hj, W, F⟩
   have hj := Av hj
   subst hj
   have H := K3
   clear G3 K3
   refine vc tk 4 W F fun a w W F => ?_
   refine Ac ?_
   have F := F.frontZ (i := 1) Aa Aa
   have F := F.frontZ (i := 1) Aa Aa
   exact ⟨_, H, (v14), ⟨g_x7.1, g_x7.2⟩, W.ra Aa, F⟩
  refine Ay ?_
  iterate 2 refine AO ?_
  refine Az (Ac ?_)
  have F := F.sub (M' := (B4 b1 p0 v1 v2 v3 v4 v5 v6)) (Z' := [row v13 58 BK x3]) (List.Sublist.refl _) (List.Sublist.cons_cons _ (List.nil_sublist _))
  have H := L2 _ H
  exact ⟨_, (v13), H, W.ra Aa, F⟩
 rintro a w ⟨x2, v12, hj, W, F⟩
 have hj := Av hj
 subst hj
 have H := K1
 clear G1 K1
 refine vc tk 6 W F fun a w W F => ?_
 refine Ao ?_
 have H := Av H
 subst H
 refine AE (.inl Aa) W F Aa (Ai W Aa) ?_
 have F := F.sub (M' := []) (Z' := [row v12 58 BK x2]) (List.nil_sublist _) (List.Sublist.refl _)
 exact ⟨(v12), Aa, F⟩
theorem Uf : type_of% Try.underlying74 := Try.underlying74
theorem YF : Has Try.prog 21 := BS Try.func21
theorem Xm : (Try.prog.info? 35).bind (·.zero) = some (.slice none 0 0) := by kernel_rfl
theorem WG : Et Try.prog 74 35 1 24 := Et.of Uf (by kernel_rfl) (by kernel_rfl) (by kernel_rfl) (by decide)
abbrev Wt (p : Value × List (Int × Int × Int)) : List (Int × Int × Int) := p.2
theorem UM : Ex (Rp.slice BK) (Rp.vsl BK) Wt := Ex.sliceF
abbrev Sn (a : Value × List (Int × Int × Int)) : List Value := [a.1]
theorem Vk : Hf (Rp.vsl BK) Sn := Hf.vsl
theorem W7 : Ty Try.prog 35 false 1 := ⟨by kernel_rfl, by kernel_rfl⟩
theorem I9 : (Try.prog.underlying 9).map (fun d => match d with | .interface _ => true | _ => false) = some false := by kernel_rfl
noncomputable def AU (p1 : Int) : Option (List (Int × Int × Int)) := (if p1 < 0 then none else (if 0 < (A3 (p1 - (A3 (0 - (([] : List (Int × Int × Int)).length : Int))))) then (K0 ([] : List (Int × Int × Int)) 0 0).bind fun x2 => (VI 0 (A3 (p1 - (A3 (0 - (([] : List (Int × Int × Int)).length : Int))))).toNat).bind fun x3 => (mk (A3 (p1 - (A3 (0 - (([] : List (Int × Int × Int)).length : Int))))) ((0, 0, 0) : Int × Int × Int)).bind fun x4 => (K0 x4 0 (([] : List (Int × Int × Int)).length : Int)).bind fun x5 => some x5 else some ([])).bind fun x1 => some x1)
theorem Ee (Y : Nat → Prop) (w0 : World)  (p1 : Int) (r : (List (Int × Int × Int))) (H : AU p1 = some r)  :
    Calls Try.prog 31 #[.slice none 0 0, .int .i64 p1] w0 fun e w' => ∃ x : Value, e = .returned (x) ∧ Stw ⟨Y, [], w0⟩ [] [row (x) 58 BK r] w' := by
 refine enter Try.func31 Aa Try.ntmps31 Aa fun a W => ?_
 have F := Stw.start Y w0
 unfold AU at H
 refine vc tk 12 W F fun a w W F => ?_
 refine AN W Aa H (fun W H => ?_) fun W H => ?_
 ·
  refine MD ?_
  refine ls W F Aa (Ln I9 W Aa).q fun a w W F => ?_
  exact nomatch H
 refine As (Ac ?_)
 obtain ⟨o1, G1, K1⟩ := Ae H
 refine Aj (fun a w => ∃ x1 : List (Int × Int × Int), ∃ v1 : Value, some (x1) = some o1 ∧ Fr 27 [] [(0, v1), (4, .slice none 0 0)] a ∧ Stw ⟨Y, [], w0⟩ [] [row v1 58 BK x1] w) ?_ ?_
 ·
  have H := G1
  clear G1 K1
  refine vc tk 4 W F fun a w W F => ?_
  refine ls W F Aa (R2 M5 Aa W Aa).q fun a w W F => ?_
  refine ls W F Aa (Ak W Aa).q fun a w W F => ?_
  refine ls W F Aa (AR (r := BK) (l := ([] : List (Int × Int × Int))) M5 Aa W Aa NM).q fun a w W F => ?_
  refine Bz tk 11 W F fun a w W F => ?_
  refine AN W Aa H (fun W H => ?_) fun W H => ?_
  ·
   refine vc tk 3 W F fun a w W F => ?_
   refine ls W F Aa (R2 M5 Aa W Aa).q fun a w W F => ?_
   obtain ⟨x2, h1, H⟩ := Ae H
   refine ls W F Aa (PY (r := BK) Nj W Aa Aa Aa NM h1).q fun a w W F => ?_
   refine ls W F Aa (Ak W Aa).q fun a w W F => ?_
   obtain ⟨x3, h2, H⟩ := Ae H
   obtain ⟨x4, h3, H⟩ := Ae H
   refine PK (r := BK) ((0, 0, 0) : Int × Int × Int) W F Aa Nj UO SM Aa Aa (Uv h2) (fun w A => SC.mk' w A ((0, 0, 0) : Int × Int × Int)) h3 Aa fun v2 a w W F => ?_
   have F : Stw ⟨Y, [], w0⟩ [] [row v2 58 BK x4] w := F
   refine ls W F Aa (Ak W Aa).q fun a w W F => ?_
   refine ls W F Aa (AR (r := BK) (l := ([] : List (Int × Int × Int))) M5 Aa W Aa NM).q fun a w W F => ?_
   obtain ⟨x5, h4, H⟩ := Ae H
   refine ls W F Aa (PY (r := BK) Nj W Aa Aa Aa (BE 0 Aa) h4).q fun a w W F => ?_
   refine vl tk 2 W F fun a w W F => ?_
   refine Ac ?_
   have F := F.subRow (k := 0) Aa Aa h4
   exact ⟨_, ((E2 v2 (0 : Int) (([] : List (Int × Int × Int)).length : Int) 3)), H, W.ra Aa, F⟩
  refine As (Ac ?_)
  have F := F.nilRow 58 BK
  exact ⟨_, (Value.slice none 0 0), H, W.ra Aa, F⟩
 rintro a w ⟨x1, v1, hj, W, F⟩
 have hj := Av hj
 subst hj
 have H := K1
 clear G1 K1
 refine vc tk 6 W F fun a w W F => ?_
 refine Ao ?_
 have H := Av H
 subst H
 refine AE (.inl Aa) W F Aa (Ai W Aa) ?_
 exact ⟨(v1), Aa, F⟩
theorem XZ : Has Try.prog 31 := BS Try.func31
noncomputable def AG (p0 : List (List (Int × Int × Int))) : (Int × Int) → Option ((Int × Int) ⊕ Int)
  | (x2, x3) => (if x3 < (p0.length : Int) then (ix p0 x3).bind fun x4 => (if (A3 (x2 + (x4.length : Int))) < 0 then none else some (.inl (A3 (x2 + (x4.length : Int)), A3 (x3 + 1)))) else some (.inr x2))
noncomputable def AF (p0 : List (List (Int × Int × Int))) : ((List (Int × Int × Int)) × Int) → Option (((List (Int × Int × Int)) × Int) ⊕ (List (Int × Int × Int)))
  | (x7, x8) => (if x8 < (p0.length : Int) then (ix p0 x8).bind fun x9 => (Fo x7 x9).bind fun x10 => some (.inl (x10, A3 (x8 + 1))) else some (.inr x7))
noncomputable def AP (p0 : List (List (Int × Int × Int))) : Option (List (Int × Int × Int)) := (Au (AG p0) (0, 0)).bind fun x1 => (AU x1).bind fun x5 => (Au (AF p0) (x5, 0)).bind fun x6 => some x6
theorem D1 (Y : Nat → Prop) (w0 : World) (v1 : Value) (p0 : List (List (Int × Int × Int))) (r : (List (Int × Int × Int))) (H : AP p0 = some r) (s_v1 : Sl w0 Y (Rp.slice BK) v1 p0) :
    Calls Try.prog 17 #[v1] w0 fun e w' => ∃ x : Value, e = .returned (x) ∧ Stw ⟨Y, [], w0⟩ [] [row (x) 58 BK r] w' := by
 refine enter Try.func17 Aa Try.ntmps17 Aa fun a W => ?_
 have F := Stw.start Y w0
 obtain ⟨v2, h1, s_v1⟩ := s_v1.ex UM
 have h_v1 := F.nx s_v1
 unfold AP at H
 refine vc tk 10 W F fun a w W F => ?_
 obtain ⟨o1, G1, K1⟩ := Ae H
 refine Aj (fun a w => ∃ x1 : Int, some (x1) = some o1 ∧ Fr 36 [] [(0, v1), (2, .slice none 0 0), (3, .int .i64 x1)] a ∧ Stw ⟨Y, [], w0⟩ [] [] w) ?_ ?_
 ·
  have H := G1
  clear G1 K1
  refine vc tk 3 W F fun a w W F => ?_
  refine ls W F Aa (AR (r := (Rp.slice BK)) (l := p0) Uf Aa W Aa (Aq UM h1 (Ab h_v1))).q fun a w W F => ?_
  refine Bz tk 4 W F fun a w W F => ?_
  refine AA H (fun s a w => Fr 36 [] [(0, v1), (2, .slice none 0 0), (3, .int .i64 s.1), (9, v1), (10, .int .i64 (p0.length : Int)), (11, .int .i64 s.2)] a ∧ Stw ⟨Y, [], w0⟩ [] [] w) ⟨W.ra Aa, F⟩ fun s o a w H L2 hR => ?_
  obtain ⟨x2, x3⟩ := s
  obtain ⟨W, F⟩ := hR
  have W : Fr 36 [] [(0, v1), (2, .slice none 0 0), (3, .int .i64 x2), (9, v1), (10, .int .i64 (p0.length : Int)), (11, .int .i64 x3)] a := W
  have F : Stw ⟨Y, [], w0⟩ [] [] w := F
  rw [AG] at H
  refine vc tk 6 W F fun a w W F => ?_
  refine AN W Aa H (fun W H => ?_) fun W H => ?_
  ·
   refine Gm tk 6 W F fun a w W F => ?_
   obtain ⟨x4, h2, H⟩ := Ae H
   obtain ⟨v3, h3, h4⟩ := Co h1 h2
   have h5 : Sn v3 = [(v3.1)] := congrArg (fun q : List (Int × Int × Int) => ([(v3.1)] : List Value)) h4
   refine ls W F Aa (Al (r := (Rp.vsl BK)) WG W Aa Aa (Ab h_v1) h3).q fun a w W F => ?_
   refine ls W F Aa (Ag (y := (v3.1)) (j := 0) (i := x3) (enc := Sn) W Aa Aa (Ab h_v1) h3 Vk W7 (by rw [h5]; rfl)).q fun a w W F => ?_
   refine Bz tk 7 W F fun a w W F => ?_
   refine ls W F Aa (AR (r := BK) (l := x4) M5 Aa W Aa (A4 (Ab h_v1) h3 BL.here (congrArg (fun q : List (Int × Int × Int) => q) h4))).q fun a w W F => ?_
   refine Bz tk 10 W F fun a w W F => ?_
   refine AN W Aa H (fun W H => ?_) fun W H => ?_
   ·
    refine MD ?_
    refine ls W F Aa (Ln I9 W Aa).q fun a w W F => ?_
    exact nomatch H
   refine As (An ?_)
   refine vn tk 4 W F fun a w W F => ?_
   refine Ac ?_
   exact ⟨_, H, W.ra Aa, F⟩
  refine Ay ?_
  iterate 2 refine AO ?_
  refine Az (Ac ?_)
  have H := L2 _ H
  exact ⟨_, H, W.ra Aa, F⟩
 rintro a w ⟨x1, hj, W, F⟩
 have hj := Av hj
 subst hj
 have H := K1
 clear G1 K1
 refine vc tk 3 W F fun a w W F => ?_
 obtain ⟨x5, h6, H⟩ := Ae H
 refine Cv (Ml := []) (Zl := []) (β := Value) (rv := fun x => x) (MM := fun x => []) (ZZ := fun x => [row x 58 BK x5]) W F XZ Aa Aa (fun hL => Ee _ w x1 _ h6) fun x a w W F => ?_
 obtain ⟨v4, rfl⟩ : ∃ y, y = x := ⟨x, rfl⟩
 have F : Stw ⟨Y, [], w0⟩ [] [row v4 58 BK x5] w := F
 refine vl tk 2 W F fun a w W F => ?_
 refine Ac ?_
 obtain ⟨o3, G3, K3⟩ := Ae H
 refine Aj (fun a w => ∃ x6 : List (Int × Int × Int), ∃ v5 : Value, some (x6) = some o3 ∧ Fr 36 [] [(2, .slice none 0 0), (6, v5)] a ∧ Stw ⟨Y, [], w0⟩ [] [row v5 58 BK x6] w) ?_ ?_
 ·
  have H := G3
  clear G3 K3
  refine vc tk 3 W F fun a w W F => ?_
  refine ls W F Aa (AR (r := (Rp.slice BK)) (l := p0) Uf Aa W Aa (Aq UM h1 (Ab h_v1))).q fun a w W F => ?_
  refine Bz tk 4 W F fun a w W F => ?_
  refine AA H (fun s a w => ∃ v6 : Value, Fr 36 [] [(2, .slice none 0 0), (6, v6), (25, v1), (26, .int .i64 (p0.length : Int)), (27, .int .i64 s.2)] a ∧ Stw ⟨Y, [], w0⟩ [] [row v6 58 BK s.1] w) ⟨(v4), W.ra Aa, F⟩ fun s o a w H L4 hR => ?_
  obtain ⟨x7, x8⟩ := s
  obtain ⟨v6, W, F⟩ := hR
  have W : Fr 36 [] [(2, .slice none 0 0), (6, v6), (25, v1), (26, .int .i64 (p0.length : Int)), (27, .int .i64 x8)] a := W
  have F : Stw ⟨Y, [], w0⟩ [] [row v6 58 BK x7] w := F
  rw [AF] at H
  refine vc tk 6 W F fun a w W F => ?_
  refine AN W Aa H (fun W H => ?_) fun W H => ?_
  ·
   refine Gm tk 6 W F fun a w W F => ?_
   obtain ⟨x9, h7, H⟩ := Ae H
   obtain ⟨v7, h8, h9⟩ := Co h1 h7
   have h10 : Sn v7 = [(v7.1)] := congrArg (fun q : List (Int × Int × Int) => ([(v7.1)] : List Value)) h9
   refine ls W F Aa (Al (r := (Rp.vsl BK)) WG W Aa Aa (Ab h_v1) h8).q fun a w W F => ?_
   refine ls W F Aa (Ag (y := (v7.1)) (j := 0) (i := x8) (enc := Sn) W Aa Aa (Ab h_v1) h8 Vk W7 (by rw [h10]; rfl)).q fun a w W F => ?_
   refine Bz tk 6 W F fun a w W F => ?_
   obtain ⟨x10, h11, H⟩ := Ae H
   refine BF (r := BK) (i := 0) W F Aa Nj Aa Aa Aa Aa (Sl.src (Sl.at_ (F.old s_v1) h8 BL.here (congrArg (fun q : List (Int × Int × Int) => q) h9))) h11 Aa fun v8 a w W F => ?_
   have F : Stw ⟨Y, [], w0⟩ [] [row v8 58 BK x10] w := F
   refine vl tk 2 W F fun a w W F => ?_
   refine An ?_
   refine vn tk 4 W F fun a w W F => ?_
   refine Ac ?_
   exact ⟨_, H, (v8), W.ra Aa, F⟩
  refine Ay ?_
  iterate 2 refine AO ?_
  refine Az (Ac ?_)
  have H := L4 _ H
  exact ⟨_, (v6), H, W.ra Aa, F⟩
 rintro a w ⟨x6, v5, hj, W, F⟩
 have hj := Av hj
 subst hj
 have H := K3
 clear G3 K3
 refine vc tk 6 W F fun a w W F => ?_
 refine Ao ?_
 have H := Av H
 subst H
 refine AE (.inl Aa) W F Aa (Ai W Aa) ?_
 exact ⟨(v5), Aa, F⟩
theorem Ym : Has Try.prog 17 := BS Try.func17
abbrev Ip (a0 : Int × (List (Int × Int × Int × Int × Int × Int)) × (List (Int × Int))) (a1 : Value) (a2 : Value) (a3 : Value) (a4 : Value) (a5 : Value) (a6 : Value) (a7 : (List (Int × Int × Int × Int)) × (List (Int × Int × List Int)) × Int × Int × Int × Int) : List Value := [.int .i64 a0.1, a1, a2, a3, a4, a5, a6, .int .i64 a7.2.2.1, .int .i64 a7.2.2.2.1, .int .i64 a7.2.2.2.2.1, .int .i64 a7.2.2.2.2.2]
noncomputable def DG (p0 : Int × (List (Int × Int × Int × Int × Int × Int)) × (List (Int × Int))) (p1 : List (List Int)) (p2 : List (List Int)) (p3 : (List (Int × Int × Int × Int)) × (List (Int × Int × List Int)) × Int × Int × Int × Int) : Option (List (Int × Int × Int)) := ((EJ p0 p1).bind fun x2 => (if (!x2) = true then some true else (EJ p0 p2).bind fun x3 => some (!x3))).bind fun x1 => (if x1 = true then some ([(1, 0, 0)] : List (Int × Int × Int)) else (Cm (p0, p1, p2, p3)).bind fun x4 => (Cz (p0, p1, p2, p3)).bind fun x5 => (CC (p0, p1, p2, p3)).bind fun x6 => (Cc (p0, p1, p2, p3)).bind fun x7 => (AP ([x4, x5, x6, x7] : List (List (Int × Int × Int)))).bind fun x8 => some x8)
theorem HY (Y : Nat → Prop) (w0 : World) (v1 : Value) (v2 : Value) (v3 : Value) (v4 : Value) (v5 : Value) (v6 : Value) (p0 : Int × (List (Int × Int × Int × Int × Int × Int)) × (List (Int × Int))) (p1 : List (List Int)) (p2 : List (List Int)) (p3 : (List (Int × Int × Int × Int)) × (List (Int × Int × List Int)) × Int × Int × Int × Int) (r : (List (Int × Int × Int))) (H : DG p0 p1 p2 p3 = some r) (h_v1 : Sl w0 (NX []) Er v1 p0.2.1) (h_v2 : Sl w0 (NX []) Ec v2 p0.2.2) (s_v3 : Sl w0 Y (Rp.slice (Rp.int .i64)) v3 p1) (h_v4 : Sl w0 (NX []) (Rp.slice (Rp.int .i64)) v4 p2) (h_v5 : Sl w0 (NX []) HV v5 p3.1) (h_v6 : Sl w0 (NX []) Kf v6 p3.2.1) :
    Calls Try.prog 8 #[.agg #[.int .i64 p0.1, v1, v2], v3, v4, .agg #[v5, v6, .int .i64 p3.2.2.1, .int .i64 p3.2.2.2.1, .int .i64 p3.2.2.2.2.1, .int .i64 p3.2.2.2.2.2]] w0 fun e w' => ∃ x : Value, e = .returned (x) ∧ Stw ⟨Y, [], w0⟩ [] [row (x) 58 BK r] w' := by
 refine enter Try.func8 Aa Try.ntmps8 Aa fun a W => ?_
 have F := Stw.start Y w0
 obtain ⟨v7, h1, s_v3⟩ := s_v3.ex Bh
 obtain ⟨v8, h2, h_v4⟩ := h_v4.ex Bh
 obtain ⟨v9, h3, h_v6⟩ := h_v6.ex FR
 have h_v3 := F.nx s_v3
 unfold DG at H
 refine vc tk 2 W F fun a w W F => ?_
 refine Bq (cs := [.int .i64 p0.1, v1, v2]) W F Aa Aa Aa fun b1 a w W F => ?_
 refine Bq (cs := [v5, v6, .int .i64 p3.2.2.1, .int .i64 p3.2.2.2.1, .int .i64 p3.2.2.2.2.1, .int .i64 p3.2.2.2.2.2]) W F Aa Aa Aa fun b2 a w W F => ?_
 refine Bz tk 4 W F fun a w W F => ?_
 obtain ⟨o1, G1, K1⟩ := Ae H
 refine Aj (fun a w => ∃ x1 : Bool, some (x1) = some o1 ∧ Fr 37 [] [(1, v3), (2, v4), (4, .pointer (some ⟨b1, 0, none⟩)), (7, .pointer (some ⟨b2, 0, none⟩)), (8, .slice none 0 0), (19, .bool x1)] a ∧ Stw ⟨Y, [], w0⟩ (Cf b2 v5 v6 p3 b1 p0 v1 v2) [] w) ?_ ?_
 ·
  have H := G1
  clear G1 K1
  refine D3 tk 3 [1] W F (ai fun a w W F => ?_)
  obtain ⟨x2, h4, H⟩ := Ae H
  refine ls W F Aa (AL (v := Value.bool x2) W WT Aa (fun w F => Kw any w (v1) (v2) (v3) p0 p1 _ h4 (Ci (Ab h_v1) F) (Ci (Ab h_v2) F) (Ci (Aq Bh h1 (Ab h_v3)) F))) fun a w W F => ?_
  refine vl tk 2 W F fun a w W F => ?_
  rcases Bool.eq_false_or_eq_true (!x2) with hb | hb
  ·
   have H := B5 hb H
   rw [hb] at W
   clear hb
   refine vl tk 6 W F fun a w W F => ?_
   refine Ac ?_
   have F := F.frontM (i := 1) Aa Aa
   have F := F.frontM (i := 1) Aa Aa
   exact ⟨_, H, W.ra Aa, F⟩
  have H := B6 (by rw [hb]; decide) H
  rw [hb] at W
  clear hb
  refine GL tk 2 [1] W F (ai fun a w W F => ?_)
  refine I3 (Ad W Aa Aa Aa Aa) ?_
  obtain ⟨x3, h5, H⟩ := Ae H
  refine ls W F Aa (AL (v := Value.bool x3) W WT Aa (fun w F => Kw any w (v1) (v2) (v4) p0 p2 _ h5 (Ci (Ab h_v1) F) (Ci (Ab h_v2) F) (Ci (Aq Bh h2 (Ab h_v4)) F))) fun a w W F => ?_
  refine vl tk 3 W F fun a w W F => ?_
  refine Ac ?_
  have F := F.frontM (i := 1) Aa Aa
  have F := F.frontM (i := 1) Aa Aa
  exact ⟨_, H, W.ra Aa, F⟩
 rintro a w ⟨x1, hj, W, F⟩
 have hj := Av hj
 subst hj
 have H := K1
 clear G1 K1
 refine B0 W Aa H (fun W H => ?_) fun W H => ?_
 ·
  refine vc tk 2 W F fun a w W F => ?_
  refine ls W F Aa (Bx (v := Value.agg #[.int .i64 1, .int .i64 0, .int .i64 0]) Ui W Aa Aa Aa).q fun a w W F => ?_
  refine Cp (z := Value.agg #[.int .i64 0, .int .i64 0, .int .i64 0]) (cs := [.int .i64 1, .int .i64 0, .int .i64 0]) BK ([(1, 0, 0)] : List (Int × Int × Int)) W F Aa Nj UO Aa Aa Aa Aa Aa Aa (SC.repL _ _ ([(1, 0, 0)] : List (Int × Int × Int))) fun v10 a w W F => ?_
  refine Bz tk 3 W F fun a w W F => ?_
  refine Ao (Aw ?_)
  have H := Av H
  subst H
  refine AE (.inl Aa) W F Aa (Ai W Aa) ?_
  have F := F.sub (M' := []) (Z' := [row v10 58 BK ([(1, 0, 0)] : List (Int × Int × Int))]) (List.nil_sublist _) (List.Sublist.refl _)
  exact ⟨(v10), Aa, F⟩
 refine Jk tk 8 [1, 0] W F (ai (ai fun a w W F => ?_))
 refine ls W F Aa (Bx (v := Value.agg #[.int .i64 p0.1, v1, v2, v3, v4, v5, v6, .int .i64 p3.2.2.1, .int .i64 p3.2.2.2.1, .int .i64 p3.2.2.2.2.1, .int .i64 p3.2.2.2.2.2]) Xh W Aa (A5 Aa Aa Aa (A5 Aa (B1 h_v3.one) Aa (A5 Aa (B1 h_v4.one) Aa (A5 Aa Aa Aa Ez)))) Aa).q fun a w W F => ?_
 refine BU (cs := [.int .i64 0, .slice none 0 0, .slice none 0 0, .slice none 0 0, .slice none 0 0, .slice none 0 0, .slice none 0 0, .int .i64 0, .int .i64 0, .int .i64 0, .int .i64 0]) W F Aa Xe Aa fun b3 a w W F => ?_
 refine Fv 0 W F Aa Aa Aa Uj Aa Aa (A8 Aa (A8 h_v1.one (A8 h_v2.one (A8 h_v3.one (A8 h_v4.one (A8 h_v5.one (A8 h_v6.one (A8 Aa (A8 Aa (A8 Aa (A8 Aa HC))))))))))) fun w F => ?_
 refine Bz tk 3 W F fun a w W F => ?_
 refine Kv [(true, 0), (true, 2), (true, 4), (true, 6), (false, 1), (false, 3), (false, 5), (false, 7), (false, 8), (false, 9), (false, 10)] (CN ⟨Y, [], w0⟩ [(some 1, b3, [.int .i64 p0.1, v1, v2, v3, v4, v5, v6, .int .i64 p3.2.2.1, .int .i64 p3.2.2.2.1, .int .i64 p3.2.2.2.2.1, .int .i64 p3.2.2.2.2.2]), (some 3, b3, [.int .i64 p0.1, v1, v2, v3, v4, v5, v6, .int .i64 p3.2.2.1, .int .i64 p3.2.2.2.1, .int .i64 p3.2.2.2.2.1, .int .i64 p3.2.2.2.2.2]), (some 5, b3, [.int .i64 p0.1, v1, v2, v3, v4, v5, v6, .int .i64 p3.2.2.1, .int .i64 p3.2.2.2.1, .int .i64 p3.2.2.2.2.1, .int .i64 p3.2.2.2.2.2]), (some 7, b3, [.int .i64 p0.1, v1, v2, v3, v4, v5, v6, .int .i64 p3.2.2.1, .int .i64 p3.2.2.2.1, .int .i64 p3.2.2.2.2.1, .int .i64 p3.2.2.2.2.2])] []) (fun ch a d v w h => by cases d <;> exact h) MO (by kernel_rfl) F (fun w F => ⟨_, _, F, (all_cons (fun _ => (.head _)) (all_cons (fun _ => (.head _)) (all_cons (fun _ => (.head _)) (all_cons (fun _ => (.head _)) AD)))), AD⟩) fun w F => ?_
 refine CJ (R := [1]) W Aa Aa (yC fun M Z hN hZ => Cs (cs := (Ip p0 v1 v2 v3 v4 v5 v6 p3)) (v := Value.agg #[.int .i64 p0.1, v1, v2, v3, v4, v5, v6, .int .i64 p3.2.2.1, .int .i64 p3.2.2.2.1, .int .i64 p3.2.2.2.2.1, .int .i64 p3.2.2.2.2.2]) W Aa (hN ((some 1), b3, (Ip p0 v1 v2 v3 v4 v5 v6 p3)) (.head _) Aa) Uj Aa) (by kernel_rfl) Aa fun a W => ?_
 refine CJ (R := [3]) W Aa Aa (yC fun M Z hN hZ => Cs (cs := (Ip p0 v1 v2 v3 v4 v5 v6 p3)) (v := Value.agg #[.int .i64 p0.1, v1, v2, v3, v4, v5, v6, .int .i64 p3.2.2.1, .int .i64 p3.2.2.2.1, .int .i64 p3.2.2.2.2.1, .int .i64 p3.2.2.2.2.2]) W Aa (hN ((some 3), b3, (Ip p0 v1 v2 v3 v4 v5 v6 p3)) (.tail _ (.head _)) Aa) Uj Aa) (by kernel_rfl) Aa fun a W => ?_
 refine CJ (R := [5]) W Aa Aa (yC fun M Z hN hZ => Cs (cs := (Ip p0 v1 v2 v3 v4 v5 v6 p3)) (v := Value.agg #[.int .i64 p0.1, v1, v2, v3, v4, v5, v6, .int .i64 p3.2.2.1, .int .i64 p3.2.2.2.1, .int .i64 p3.2.2.2.2.1, .int .i64 p3.2.2.2.2.2]) W Aa (hN ((some 5), b3, (Ip p0 v1 v2 v3 v4 v5 v6 p3)) (.tail _ (.tail _ (.head _))) Aa) Uj Aa) (by kernel_rfl) Aa fun a W => ?_
 refine CJ (R := [7]) W Aa Aa (yC fun M Z hN hZ => Cs (cs := (Ip p0 v1 v2 v3 v4 v5 v6 p3)) (v := Value.agg #[.int .i64 p0.1, v1, v2, v3, v4, v5, v6, .int .i64 p3.2.2.1, .int .i64 p3.2.2.2.1, .int .i64 p3.2.2.2.2.1, .int .i64 p3.2.2.2.2.2]) W Aa (hN ((some 7), b3, (Ip p0 v1 v2 v3 v4 v5 v6 p3)) (.tail _ (.tail _ (.tail _ (.head _)))) Aa) Uj Aa) (by kernel_rfl) Aa fun a W => ?_
 refine F4 Aa ?_
 obtain ⟨x4, h6, H⟩ := Ae H
 refine Cv (Ml := []) (Zl := []) (β := Value) (rv := fun x => x) (MM := fun x => []) (ZZ := fun x => [row x 58 BK x4]) W F XN Aa Aa (fun hL => IA _ w (v1) (v2) (v3) (v4) (v5) (v6) (p0, p1, p2, p3) _ h6 ((Ab h_v1) w F).nx ((Ab h_v2) w F).nx ((Aq Bh h1 (Ab h_v3)) w F).nx ((Aq Bh h2 (Ab h_v4)) w F).nx ((Ab h_v5) w F).nx ((Aq FR h3 (Ab h_v6)) w F).nx) fun x a w W F => ?_
 obtain ⟨v11, rfl⟩ : ∃ y, y = x := ⟨x, rfl⟩
 have F : Stw ⟨Y, [], w0⟩ [(b3, (Ip p0 v1 v2 v3 v4 v5 v6 p3)), (b2, [v5, v6, .int .i64 p3.2.2.1, .int .i64 p3.2.2.2.1, .int .i64 p3.2.2.2.2.1, .int .i64 p3.2.2.2.2.2]), (b1, [.int .i64 p0.1, v1, v2])] [row v11 58 BK x4] w := F
 refine Cq (N2 := []) (NZ2 := []) (N3 := [(some 1, b3, [.int .i64 p0.1, v1, v2, v3, v4, v5, v6, .int .i64 p3.2.2.1, .int .i64 p3.2.2.2.1, .int .i64 p3.2.2.2.2.1, .int .i64 p3.2.2.2.2.2]), (some 3, b3, [.int .i64 p0.1, v1, v2, v3, v4, v5, v6, .int .i64 p3.2.2.1, .int .i64 p3.2.2.2.1, .int .i64 p3.2.2.2.2.1, .int .i64 p3.2.2.2.2.2]), (some 5, b3, [.int .i64 p0.1, v1, v2, v3, v4, v5, v6, .int .i64 p3.2.2.1, .int .i64 p3.2.2.2.1, .int .i64 p3.2.2.2.2.1, .int .i64 p3.2.2.2.2.2]), (some 7, b3, [.int .i64 p0.1, v1, v2, v3, v4, v5, v6, .int .i64 p3.2.2.1, .int .i64 p3.2.2.2.1, .int .i64 p3.2.2.2.2.1, .int .i64 p3.2.2.2.2.2])]) (NZ3 := []) F Aa Aa (all_cons (fun h => Ap (by kernel_rfl) h) (all_cons (fun _ => (.head _)) (all_cons (fun _ => (.head _)) (all_cons (fun _ => (.head _)) AD)))) AD ?_
 refine F4 Aa ?_
 obtain ⟨x5, h7, H⟩ := Ae H
 refine Cv (Ml := []) (Zl := []) (β := Value) (rv := fun x => x) (MM := fun x => []) (ZZ := fun x => [row x 58 BK x5]) W F Yg Aa Aa (fun hL => Jt _ w (v1) (v2) (v3) (v4) (v5) (v6) (p0, p1, p2, p3) _ h7 ((Ab h_v1) w F).nx ((Ab h_v2) w F).nx ((Aq Bh h1 (Ab h_v3)) w F).nx ((Aq Bh h2 (Ab h_v4)) w F).nx ((Ab h_v5) w F).nx ((Aq FR h3 (Ab h_v6)) w F).nx) fun x a w W F => ?_
 obtain ⟨v12, rfl⟩ : ∃ y, y = x := ⟨x, rfl⟩
 have F : Stw ⟨Y, [], w0⟩ [(b3, (Ip p0 v1 v2 v3 v4 v5 v6 p3)), (b2, [v5, v6, .int .i64 p3.2.2.1, .int .i64 p3.2.2.2.1, .int .i64 p3.2.2.2.2.1, .int .i64 p3.2.2.2.2.2]), (b1, [.int .i64 p0.1, v1, v2])] [row v12 58 BK x5, row v11 58 BK x4] w := F
 refine Cq (N2 := []) (NZ2 := []) (N3 := [(some 1, b3, [.int .i64 p0.1, v1, v2, v3, v4, v5, v6, .int .i64 p3.2.2.1, .int .i64 p3.2.2.2.1, .int .i64 p3.2.2.2.2.1, .int .i64 p3.2.2.2.2.2]), (some 3, b3, [.int .i64 p0.1, v1, v2, v3, v4, v5, v6, .int .i64 p3.2.2.1, .int .i64 p3.2.2.2.1, .int .i64 p3.2.2.2.2.1, .int .i64 p3.2.2.2.2.2]), (some 5, b3, [.int .i64 p0.1, v1, v2, v3, v4, v5, v6, .int .i64 p3.2.2.1, .int .i64 p3.2.2.2.1, .int .i64 p3.2.2.2.2.1, .int .i64 p3.2.2.2.2.2]), (some 7, b3, [.int .i64 p0.1, v1, v2, v3, v4, v5, v6, .int .i64 p3.2.2.1, .int .i64 p3.2.2.2.1, .int .i64 p3.2.2.2.2.1, .int .i64 p3.2.2.2.2.2])]) (NZ3 := []) F Aa Aa (all_cons (fun h => Ap (by kernel_rfl) h) (all_cons (fun h => Ap (by kernel_rfl) h) (all_cons (fun _ => (.head _)) (all_cons (fun _ => (.head _)) AD)))) AD ?_
 refine F4 Aa ?_
 obtain ⟨x6, h8, H⟩ := Ae H
 refine Cv (Ml := []) (Zl := []) (β := Value) (rv := fun x => x) (MM := fun x => []) (ZZ := fun x => [row x 58 BK x6]) W F X7 Aa Aa (fun hL => Jn _ w (v1) (v2) (v3) (v4) (v5) (v6) (p0, p1, p2, p3) _ h8 ((Ab h_v1) w F).nx ((Ab h_v2) w F).nx ((Aq Bh h1 (Ab h_v3)) w F).nx ((Aq Bh h2 (Ab h_v4)) w F).nx ((Ab h_v5) w F).nx ((Aq FR h3 (Ab h_v6)) w F).nx) fun x a w W F => ?_
 obtain ⟨v13, rfl⟩ : ∃ y, y = x := ⟨x, rfl⟩
 have F : Stw ⟨Y, [], w0⟩ [(b3, (Ip p0 v1 v2 v3 v4 v5 v6 p3)), (b2, [v5, v6, .int .i64 p3.2.2.1, .int .i64 p3.2.2.2.1, .int .i64 p3.2.2.2.2.1, .int .i64 p3.2.2.2.2.2]), (b1, [.int .i64 p0.1, v1, v2])] [row v13 58 BK x6, row v12 58 BK x5, row v11 58 BK x4] w := F
 refine Cq (N2 := []) (NZ2 := []) (N3 := [(some 1, b3, [.int .i64 p0.1, v1, v2, v3, v4, v5, v6, .int .i64 p3.2.2.1, .int .i64 p3.2.2.2.1, .int .i64 p3.2.2.2.2.1, .int .i64 p3.2.2.2.2.2]), (some 3, b3, [.int .i64 p0.1, v1, v2, v3, v4, v5, v6, .int .i64 p3.2.2.1, .int .i64 p3.2.2.2.1, .int .i64 p3.2.2.2.2.1, .int .i64 p3.2.2.2.2.2]), (some 5, b3, [.int .i64 p0.1, v1, v2, v3, v4, v5, v6, .int .i64 p3.2.2.1, .int .i64 p3.2.2.2.1, .int .i64 p3.2.2.2.2.1, .int .i64 p3.2.2.2.2.2]), (some 7, b3, [.int .i64 p0.1, v1, v2, v3, v4, v5, v6, .int .i64 p3.2.2.1, .int .i64 p3.2.2.2.1, .int .i64 p3.2.2.2.2.1, .int .i64 p3.2.2.2.2.2])]) (NZ3 := []) F Aa Aa (all_cons (fun h => Ap (by kernel_rfl) h) (all_cons (fun h => Ap (by kernel_rfl) h) (all_cons (fun h => Ap (by kernel_rfl) h) (all_cons (fun _ => (.head _)) AD)))) AD ?_
 refine F4 Aa ?_
 obtain ⟨x7, h9, H⟩ := Ae H
 refine Cv (Ml := []) (Zl := []) (β := Value) (rv := fun x => x) (MM := fun x => []) (ZZ := fun x => [row x 58 BK x7]) W F YF Aa Aa (fun hL => Ic _ w (v1) (v2) (v3) (v4) (v5) (v6) (p0, p1, p2, p3) _ h9 ((Ab h_v1) w F).nx ((Ab h_v2) w F).nx (Sl.hide Bh h1 (F.old s_v3)) ((Aq Bh h2 (Ab h_v4)) w F).nx ((Ab h_v5) w F).nx ((Aq FR h3 (Ab h_v6)) w F).nx) fun x a w W F => ?_
 obtain ⟨v14, rfl⟩ : ∃ y, y = x := ⟨x, rfl⟩
 have F : Stw ⟨Y, [], w0⟩ [(b3, (Ip p0 v1 v2 v3 v4 v5 v6 p3)), (b2, [v5, v6, .int .i64 p3.2.2.1, .int .i64 p3.2.2.2.1, .int .i64 p3.2.2.2.2.1, .int .i64 p3.2.2.2.2.2]), (b1, [.int .i64 p0.1, v1, v2])] [row v14 58 BK x7, row v13 58 BK x6, row v12 58 BK x5, row v11 58 BK x4] w := F
 refine Cq (N2 := []) (NZ2 := []) (N3 := [(some 1, b3, [.int .i64 p0.1, v1, v2, v3, v4, v5, v6, .int .i64 p3.2.2.1, .int .i64 p3.2.2.2.1, .int .i64 p3.2.2.2.2.1, .int .i64 p3.2.2.2.2.2]), (some 3, b3, [.int .i64 p0.1, v1, v2, v3, v4, v5, v6, .int .i64 p3.2.2.1, .int .i64 p3.2.2.2.1, .int .i64 p3.2.2.2.2.1, .int .i64 p3.2.2.2.2.2]), (some 5, b3, [.int .i64 p0.1, v1, v2, v3, v4, v5, v6, .int .i64 p3.2.2.1, .int .i64 p3.2.2.2.1, .int .i64 p3.2.2.2.2.1, .int .i64 p3.2.2.2.2.2]), (some 7, b3, [.int .i64 p0.1, v1, v2, v3, v4, v5, v6, .int .i64 p3.2.2.1, .int .i64 p3.2.2.2.1, .int .i64 p3.2.2.2.2.1, .int .i64 p3.2.2.2.2.2])]) (NZ3 := []) F Aa Aa (all_cons (fun h => Ap (by kernel_rfl) h) (all_cons (fun h => Ap (by kernel_rfl) h) (all_cons (fun h => Ap (by kernel_rfl) h) (all_cons (fun h => Ap (by kernel_rfl) h) AD)))) AD ?_
 refine F4 Aa ?_
 have F := F.frontZ (i := 3) Aa Aa
 have F := F.freeze
 have F := F.frontZ (i := 3) Aa Aa
 have F := F.freeze
 have F := F.frontZ (i := 3) Aa Aa
 have F := F.freeze
 have F := F.frontZ (i := 3) Aa Aa
 have F := F.freeze
 refine Cp (z := Value.slice none 0 0) (cs := [v11, v12, v13, v14]) (Rp.slice BK) ([x4, x5, x6, x7] : List (List (Int × Int × Int))) W F Aa WG Xm Aa Aa Aa (A5 Aa (B1 (F.oneF (k := 3) Aa)) Aa (A5 Aa (B1 (F.oneF (k := 2) Aa)) Aa (A5 Aa (B1 (F.oneF (k := 1) Aa)) Aa (A5 Aa (B1 (F.oneF (k := 0) Aa)) Aa Ez)))) Aa Aa ⟨[v11], _, Aa, ⟨_, Aa, (F.item (i := 3) Aa)⟩, ⟨[v12], _, Aa, ⟨_, Aa, (F.item (i := 2) Aa)⟩, ⟨[v13], _, Aa, ⟨_, Aa, (F.item (i := 1) Aa)⟩, ⟨[v14], _, Aa, ⟨_, Aa, (F.item (i := 0) Aa)⟩, Aa⟩⟩⟩⟩ fun v15 a w W F => ?_
 refine Cq (N2 := []) (NZ2 := []) (N3 := [(some 1, b3, [.int .i64 p0.1, v1, v2, v3, v4, v5, v6, .int .i64 p3.2.2.1, .int .i64 p3.2.2.2.1, .int .i64 p3.2.2.2.2.1, .int .i64 p3.2.2.2.2.2]), (some 3, b3, [.int .i64 p0.1, v1, v2, v3, v4, v5, v6, .int .i64 p3.2.2.1, .int .i64 p3.2.2.2.1, .int .i64 p3.2.2.2.2.1, .int .i64 p3.2.2.2.2.2]), (some 5, b3, [.int .i64 p0.1, v1, v2, v3, v4, v5, v6, .int .i64 p3.2.2.1, .int .i64 p3.2.2.2.1, .int .i64 p3.2.2.2.2.1, .int .i64 p3.2.2.2.2.2]), (some 7, b3, [.int .i64 p0.1, v1, v2, v3, v4, v5, v6, .int .i64 p3.2.2.1, .int .i64 p3.2.2.2.1, .int .i64 p3.2.2.2.2.1, .int .i64 p3.2.2.2.2.2])]) (NZ3 := []) F Aa Aa (all_cons (fun h => Ap (by kernel_rfl) h) (all_cons (fun h => Ap (by kernel_rfl) h) (all_cons (fun h => Ap (by kernel_rfl) h) (all_cons (fun h => Ap (by kernel_rfl) h) AD)))) AD ?_
 refine F4 Aa ?_
 obtain ⟨x8, h10, H⟩ := Ae H
 have F := F.freeze
 refine Cv (Ml := []) (Zl := []) (β := Value) (rv := fun x => x) (MM := fun x => []) (ZZ := fun x => [row x 58 BK x8]) W F Ym Aa Aa (fun hL => D1 _ w (v15) ([x4, x5, x6, x7] : List (List (Int × Int × Int))) _ h10 (F.item (i := 0) Aa)) fun x a w W F => ?_
 obtain ⟨v16, rfl⟩ : ∃ y, y = x := ⟨x, rfl⟩
 have F : Stw ⟨Y, [], w0⟩ [(b3, (Ip p0 v1 v2 v3 v4 v5 v6 p3)), (b2, [v5, v6, .int .i64 p3.2.2.1, .int .i64 p3.2.2.2.1, .int .i64 p3.2.2.2.2.1, .int .i64 p3.2.2.2.2.2]), (b1, [.int .i64 p0.1, v1, v2])] [row v16 58 BK x8, Ko v15 (Rp.slice BK) ([x4, x5, x6, x7] : List (List (Int × Int × Int))), Ko v14 BK x7, Ko v13 BK x6, Ko v12 BK x5, Ko v11 BK x4] w := F
 refine Cq (N2 := []) (NZ2 := []) (N3 := [(some 1, b3, [.int .i64 p0.1, v1, v2, v3, v4, v5, v6, .int .i64 p3.2.2.1, .int .i64 p3.2.2.2.1, .int .i64 p3.2.2.2.2.1, .int .i64 p3.2.2.2.2.2]), (some 3, b3, [.int .i64 p0.1, v1, v2, v3, v4, v5, v6, .int .i64 p3.2.2.1, .int .i64 p3.2.2.2.1, .int .i64 p3.2.2.2.2.1, .int .i64 p3.2.2.2.2.2]), (some 5, b3, [.int .i64 p0.1, v1, v2, v3, v4, v5, v6, .int .i64 p3.2.2.1, .int .i64 p3.2.2.2.1, .int .i64 p3.2.2.2.2.1, .int .i64 p3.2.2.2.2.2]), (some 7, b3, [.int .i64 p0.1, v1, v2, v3, v4, v5, v6, .int .i64 p3.2.2.1, .int .i64 p3.2.2.2.1, .int .i64 p3.2.2.2.2.1, .int .i64 p3.2.2.2.2.2])]) (NZ3 := []) F Aa Aa (all_cons (fun h => Ap (by kernel_rfl) h) (all_cons (fun h => Ap (by kernel_rfl) h) (all_cons (fun h => Ap (by kernel_rfl) h) (all_cons (fun h => Ap (by kernel_rfl) h) AD)))) AD ?_
 refine F4 Aa ?_
 refine ls W F Aa (Bl W Aa).q fun a w W F => ?_
 refine Cq (N2 := []) (NZ2 := []) (N3 := [(some 1, b3, [.int .i64 p0.1, v1, v2, v3, v4, v5, v6, .int .i64 p3.2.2.1, .int .i64 p3.2.2.2.1, .int .i64 p3.2.2.2.2.1, .int .i64 p3.2.2.2.2.2]), (some 3, b3, [.int .i64 p0.1, v1, v2, v3, v4, v5, v6, .int .i64 p3.2.2.1, .int .i64 p3.2.2.2.1, .int .i64 p3.2.2.2.2.1, .int .i64 p3.2.2.2.2.2]), (some 5, b3, [.int .i64 p0.1, v1, v2, v3, v4, v5, v6, .int .i64 p3.2.2.1, .int .i64 p3.2.2.2.1, .int .i64 p3.2.2.2.2.1, .int .i64 p3.2.2.2.2.2]), (some 7, b3, [.int .i64 p0.1, v1, v2, v3, v4, v5, v6, .int .i64 p3.2.2.1, .int .i64 p3.2.2.2.1, .int .i64 p3.2.2.2.2.1, .int .i64 p3.2.2.2.2.2])]) (NZ3 := []) F Aa Aa (all_cons (fun h => Ap (by kernel_rfl) h) (all_cons (fun h => Ap (by kernel_rfl) h) (all_cons (fun h => Ap (by kernel_rfl) h) (all_cons (fun h => Ap (by kernel_rfl) h) AD)))) AD ?_
 refine KS (Ac (Ao ?_))
 have H := Av H
 subst H
 refine AE (.inl Aa) W F Aa (Ai W Aa) ?_
 have F := F.sub (M' := []) (Z' := [row v16 58 BK x8]) (List.nil_sublist _) (List.Sublist.cons_cons _ (List.nil_sublist _))
 exact ⟨(v16), Aa, F⟩
theorem H8 : Has Try.prog 8 := BS Try.func8
theorem XL : Ty Try.prog 58 true 3 := ⟨by kernel_rfl, by kernel_rfl⟩
theorem V8 (dd : Nat) (x0 : Int) (x1 : Int) (x2 : Int) (y0 : Int) (y1 : Int) (y2 : Int) (w : World) : (Op.equalIn (dd + 2) 58 (.agg #[.int .i64 x0, .int .i64 x1, .int .i64 x2]) (.agg #[.int .i64 y0, .int .i64 y1, .int .i64 y2])).run Try.prog w = .ok (decide (x0 = y0 ∧ x1 = y1 ∧ x2 = y2)) w :=
  KW (d := dd + 1) (rs := [decide (x0 = y0), decide (x1 = y1), decide (x2 = y2)]) RR (by kernel_rfl) ⟨rfl, II (d := dd + 0) rfl rfl SM T3 rfl rfl, rfl, II (d := dd + 0) rfl rfl SM T3 rfl rfl, rfl, II (d := dd + 0) rfl rfl SM T3 rfl rfl, trivial⟩ (by simp) w
theorem Xn : Try.prog.eqGuardType Try.prog.depth 58 = false := by kernel_rfl
theorem XG (x0 : Int) (x1 : Int) (x2 : Int) (y0 : Int) (y1 : Int) (y2 : Int) (w : World) : (Op.equalIn 10000 58 (.agg #[.int .i64 x0, .int .i64 x1, .int .i64 x2]) (.agg #[.int .i64 y0, .int .i64 y1, .int .i64 y2])).run Try.prog w = .ok (decide (x0 = y0 ∧ x1 = y1 ∧ x2 = y2)) w := V8 9998 x0 x1 x2 y0 y1 y2 w
def CW (p0 : Int) : List UInt8 := (if p0 = 1 then ([119, 114, 111, 110, 103] : List UInt8) else (if p0 = 2 then ([109, 105, 115, 115, 105, 110, 103] : List UInt8) else (if p0 = 3 then ([101, 120, 116, 114, 97] : List UInt8) else (if p0 = 4 then ([99, 108, 111, 115, 101] : List UInt8) else (if p0 = 5 then ([104, 111, 108, 101] : List UInt8) else (if p0 = 6 then ([108, 111, 111, 112] : List UInt8) else ([63] : List UInt8)))))))
theorem Km (Y : Nat → Prop) (w0 : World)  (p0 : Int) (r : List UInt8) (H : CW p0 = r)  :
    Calls Try.prog 11 #[.int .i64 p0] w0 fun e w' => e = .returned (.string (bs r)) ∧ Below w0.heap.size w0 w' := by
 refine enter Try.func11 Aa Try.ntmps11 Aa fun a W => ?_
 have F := Stw.start Y w0
 unfold CW at H
 refine vc tk 2 W F fun a w W F => ?_
 refine ls W F Aa (Bl (v := Value.string (bs ([] : List UInt8))) W Aa).q fun a w W F => ?_
 refine Bz tk 15 W F fun a w W F => ?_
 refine GC W Aa (fun hb => ?_) fun hb => ?_
 ·
  have H := B5 (CT hb) H
  rw [hb] at W
  clear hb
  refine vc tk 2 W F fun a w W F => ?_
  refine ls W F Aa (Bl (v := Value.string (bs ([119, 114, 111, 110, 103] : List UInt8))) W Aa).q fun a w W F => ?_
  refine Bz tk 2 W F fun a w W F => ?_
  refine Ao (Ax (Aw ?_))
  subst H
  refine AE (.inl Aa) W F Aa (Ai W Aa) ?_
  exact ⟨rfl, F.done⟩
 have H := B6 (CV hb) H
 rw [hb] at W
 clear hb
 refine vc tk 6 W F fun a w W F => ?_
 refine GC W Aa (fun hb => ?_) fun hb => ?_
 ·
  have H := B5 (CT hb) H
  rw [hb] at W
  clear hb
  refine vc tk 2 W F fun a w W F => ?_
  refine ls W F Aa (Bl (v := Value.string (bs ([109, 105, 115, 115, 105, 110, 103] : List UInt8))) W Aa).q fun a w W F => ?_
  refine Bz tk 2 W F fun a w W F => ?_
  refine Ao (Ax (Aw ?_))
  subst H
  refine AE (.inl Aa) W F Aa (Ai W Aa) ?_
  exact ⟨rfl, F.done⟩
 have H := B6 (CV hb) H
 rw [hb] at W
 clear hb
 refine vc tk 6 W F fun a w W F => ?_
 refine GC W Aa (fun hb => ?_) fun hb => ?_
 ·
  have H := B5 (CT hb) H
  rw [hb] at W
  clear hb
  refine vc tk 2 W F fun a w W F => ?_
  refine ls W F Aa (Bl (v := Value.string (bs ([101, 120, 116, 114, 97] : List UInt8))) W Aa).q fun a w W F => ?_
  refine Bz tk 2 W F fun a w W F => ?_
  refine Ao (Ax (Aw ?_))
  subst H
  refine AE (.inl Aa) W F Aa (Ai W Aa) ?_
  exact ⟨rfl, F.done⟩
 have H := B6 (CV hb) H
 rw [hb] at W
 clear hb
 refine vc tk 6 W F fun a w W F => ?_
 refine GC W Aa (fun hb => ?_) fun hb => ?_
 ·
  have H := B5 (CT hb) H
  rw [hb] at W
  clear hb
  refine vc tk 2 W F fun a w W F => ?_
  refine ls W F Aa (Bl (v := Value.string (bs ([99, 108, 111, 115, 101] : List UInt8))) W Aa).q fun a w W F => ?_
  refine Bz tk 2 W F fun a w W F => ?_
  refine Ao (Ax (Aw ?_))
  subst H
  refine AE (.inl Aa) W F Aa (Ai W Aa) ?_
  exact ⟨rfl, F.done⟩
 have H := B6 (CV hb) H
 rw [hb] at W
 clear hb
 refine vc tk 6 W F fun a w W F => ?_
 refine GC W Aa (fun hb => ?_) fun hb => ?_
 ·
  have H := B5 (CT hb) H
  rw [hb] at W
  clear hb
  refine vc tk 2 W F fun a w W F => ?_
  refine ls W F Aa (Bl (v := Value.string (bs ([104, 111, 108, 101] : List UInt8))) W Aa).q fun a w W F => ?_
  refine Bz tk 2 W F fun a w W F => ?_
  refine Ao (Ax (Aw ?_))
  subst H
  refine AE (.inl Aa) W F Aa (Ai W Aa) ?_
  exact ⟨rfl, F.done⟩
 have H := B6 (CV hb) H
 rw [hb] at W
 clear hb
 refine vc tk 6 W F fun a w W F => ?_
 refine GC W Aa (fun hb => ?_) fun hb => ?_
 ·
  have H := B5 (CT hb) H
  rw [hb] at W
  clear hb
  refine vc tk 2 W F fun a w W F => ?_
  refine ls W F Aa (Bl (v := Value.string (bs ([108, 111, 111, 112] : List UInt8))) W Aa).q fun a w W F => ?_
  refine Bz tk 2 W F fun a w W F => ?_
  refine Ao (Ax (Aw ?_))
  subst H
  refine AE (.inl Aa) W F Aa (Ai W Aa) ?_
  exact ⟨rfl, F.done⟩
 have H := B6 (CV hb) H
 rw [hb] at W
 clear hb
 refine As (An ?_)
 refine vn tk 2 W F fun a w W F => ?_
 refine ls W F Aa (Bl (v := Value.string (bs ([63] : List UInt8))) W Aa).q fun a w W F => ?_
 refine Bz tk 2 W F fun a w W F => ?_
 refine Ao ?_
 subst H
 refine AE (.inl Aa) W F Aa (Ai W Aa) ?_
 exact ⟨rfl, F.done⟩
theorem WH : Has Try.prog 11 := BS Try.func11
noncomputable def F0  : Option Bool := (DG (3, ([(0, 0, 1, 0, 1, 1), (1, 1, 2, 0, 1, 1), (0, 1, 2, 1, 1, 1)] : List (Int × Int × Int × Int × Int × Int)), ([(2, 7)] : List (Int × Int))) ([([0] : List Int), ([1] : List Int), ([7] : List Int)] : List (List Int)) ([([1] : List Int), ([1] : List Int), ([7] : List Int)] : List (List Int)) (([] : List (Int × Int × Int × Int)), ([] : List (Int × Int × List Int)), 0, 0, 0, 0)).bind fun x1 => (if (x1.length : Int) = 1 then (ix x1 0).bind fun x3 => (if x3.1 = 2 ∧ x3.2.1 = 0 ∧ x3.2.2 = 0 then (if (CW 6) = ([108, 111, 111, 112] : List UInt8) then (DG (0, ([] : List (Int × Int × Int × Int × Int × Int)), ([] : List (Int × Int))) ([] : List (List Int)) ([] : List (List Int)) (([] : List (Int × Int × Int × Int)), ([] : List (Int × Int × List Int)), 0, 0, 0, 0)).bind fun x4 => some (decide ((x4.length : Int) = 1)) else some false) else some false) else some false).bind fun x2 => some x2
theorem Lr (Y : Nat → Prop) (w0 : World)   (r : Bool) (H : F0  = some r)  :
    Calls Try.prog 6 #[] w0 fun e w' => e = .returned (.bool r) ∧ Below w0.heap.size w0 w' := by
 refine enter Try.func6 Aa Try.ntmps6 Aa fun a W => ?_
 have F := Stw.start Y w0
 unfold F0 at H
 refine vc tk 7 W F fun a w W F => ?_
 refine ls W F Aa (Bx (v := Value.agg #[.int .i64 0, .int .i64 0, .int .i64 1, .int .i64 0, .int .i64 1, .int .i64 1]) WD W Aa Aa Aa).q fun a w W F => ?_
 refine ls W F Aa (Bx (v := Value.agg #[.int .i64 1, .int .i64 1, .int .i64 2, .int .i64 0, .int .i64 1, .int .i64 1]) WD W Aa Aa Aa).q fun a w W F => ?_
 refine ls W F Aa (Bx (v := Value.agg #[.int .i64 0, .int .i64 1, .int .i64 2, .int .i64 1, .int .i64 1, .int .i64 1]) WD W Aa Aa Aa).q fun a w W F => ?_
 refine Cp (z := Value.agg #[.int .i64 0, .int .i64 0, .int .i64 0, .int .i64 0, .int .i64 0, .int .i64 0]) (cs := [.int .i64 0, .int .i64 0, .int .i64 1, .int .i64 0, .int .i64 1, .int .i64 1, .int .i64 1, .int .i64 1, .int .i64 2, .int .i64 0, .int .i64 1, .int .i64 1, .int .i64 0, .int .i64 1, .int .i64 2, .int .i64 1, .int .i64 1, .int .i64 1]) Er ([(0, 0, 1, 0, 1, 1), (1, 1, 2, 0, 1, 1), (0, 1, 2, 1, 1, 1)] : List (Int × Int × Int × Int × Int × Int)) W F Aa SQ UI Aa Aa Aa Aa Aa Aa (SO.repL _ _ ([(0, 0, 1, 0, 1, 1), (1, 1, 2, 0, 1, 1), (0, 1, 2, 1, 1, 1)] : List (Int × Int × Int × Int × Int × Int))) fun v1 a w W F => ?_
 refine ls W F Aa (Bx (v := Value.agg #[.int .i64 2, .int .i64 7]) WJ W Aa Aa Aa).q fun a w W F => ?_
 refine Cp (z := Value.agg #[.int .i64 0, .int .i64 0]) (cs := [.int .i64 2, .int .i64 7]) Ec ([(2, 7)] : List (Int × Int)) W F Aa SF WR Aa Aa Aa Aa Aa Aa (Sc.repL _ _ ([(2, 7)] : List (Int × Int))) fun v2 a w W F => ?_
 refine ls W F Aa (Bx (v := Value.agg #[.int .i64 3, v1, v2]) WL W Aa (A5 Aa Aa Aa (A5 Aa (B1 (F.one (k := 1) Aa)) Aa (A5 Aa (B1 (F.one (k := 0) Aa)) Aa Ez))) Aa).q fun a w W F => ?_
 refine BU (cs := [.int .i64 0, .slice none 0 0, .slice none 0 0]) W F Aa Xk Aa fun b1 a w W F => ?_
 refine Fv 0 W F Aa Aa Aa R8 Aa Aa (A8 Aa (A8 (F.one (k := 1) Aa) (A8 (F.one (k := 0) Aa) HC))) fun w F => ?_
 refine IG tk 5 [0] W F (ai fun a w W F => ?_)
 refine Cp (z := Value.int .i64 0) (cs := [.int .i64 0]) (Rp.int .i64) ([0] : List Int) W F Aa FS Z3 Aa Aa Aa Aa Aa Aa (Fl.int.repL _ _ ([0] : List Int)) fun v3 a w W F => ?_
 refine Cp (z := Value.int .i64 0) (cs := [.int .i64 1]) (Rp.int .i64) ([1] : List Int) W F Aa FS Z3 Aa Aa Aa Aa Aa Aa (Fl.int.repL _ _ ([1] : List Int)) fun v4 a w W F => ?_
 refine Cp (z := Value.int .i64 0) (cs := [.int .i64 7]) (Rp.int .i64) ([7] : List Int) W F Aa FS Z3 Aa Aa Aa Aa Aa Aa (Fl.int.repL _ _ ([7] : List Int)) fun v5 a w W F => ?_
 have F := F.frontZ (i := 2) Aa Aa
 have F := F.freeze
 have F := F.frontZ (i := 2) Aa Aa
 have F := F.freeze
 have F := F.frontZ (i := 2) Aa Aa
 have F := F.freeze
 refine Cp (z := Value.slice none 0 0) (cs := [v3, v4, v5]) (Rp.slice (Rp.int .i64)) ([([0] : List Int), ([1] : List Int), ([7] : List Int)] : List (List Int)) W F Aa Ke VW Aa Aa Aa (A5 Aa (B1 (F.oneF (k := 2) Aa)) Aa (A5 Aa (B1 (F.oneF (k := 1) Aa)) Aa (A5 Aa (B1 (F.oneF (k := 0) Aa)) Aa Ez))) Aa Aa ⟨[v3], _, Aa, ⟨_, Aa, (F.item (i := 2) Aa)⟩, ⟨[v4], _, Aa, ⟨_, Aa, (F.item (i := 1) Aa)⟩, ⟨[v5], _, Aa, ⟨_, Aa, (F.item (i := 0) Aa)⟩, Aa⟩⟩⟩ fun v6 a w W F => ?_
 refine Cp (z := Value.int .i64 0) (cs := [.int .i64 1]) (Rp.int .i64) ([1] : List Int) W F Aa FS Z3 Aa Aa Aa Aa Aa Aa (Fl.int.repL _ _ ([1] : List Int)) fun v7 a w W F => ?_
 refine Cp (z := Value.int .i64 0) (cs := [.int .i64 1]) (Rp.int .i64) ([1] : List Int) W F Aa FS Z3 Aa Aa Aa Aa Aa Aa (Fl.int.repL _ _ ([1] : List Int)) fun v8 a w W F => ?_
 refine Cp (z := Value.int .i64 0) (cs := [.int .i64 7]) (Rp.int .i64) ([7] : List Int) W F Aa FS Z3 Aa Aa Aa Aa Aa Aa (Fl.int.repL _ _ ([7] : List Int)) fun v9 a w W F => ?_
 have F := F.frontZ (i := 2) Aa Aa
 have F := F.freeze
 have F := F.frontZ (i := 2) Aa Aa
 have F := F.freeze
 have F := F.frontZ (i := 2) Aa Aa
 have F := F.freeze
 refine Cp (z := Value.slice none 0 0) (cs := [v7, v8, v9]) (Rp.slice (Rp.int .i64)) ([([1] : List Int), ([1] : List Int), ([7] : List Int)] : List (List Int)) W F Aa Ke VW Aa Aa Aa (A5 Aa (B1 (F.oneF (k := 2) Aa)) Aa (A5 Aa (B1 (F.oneF (k := 1) Aa)) Aa (A5 Aa (B1 (F.oneF (k := 0) Aa)) Aa Ez))) Aa Aa ⟨[v7], _, Aa, ⟨_, Aa, (F.item (i := 2) Aa)⟩, ⟨[v8], _, Aa, ⟨_, Aa, (F.item (i := 1) Aa)⟩, ⟨[v9], _, Aa, ⟨_, Aa, (F.item (i := 0) Aa)⟩, Aa⟩⟩⟩ fun v10 a w W F => ?_
 refine ls W F Aa (Bx (v := Value.agg #[.slice none 0 0, .slice none 0 0, .int .i64 0, .int .i64 0, .int .i64 0, .int .i64 0]) VY W Aa Aa Aa).q fun a w W F => ?_
 obtain ⟨x1, h1, H⟩ := Ae H
 have F := F.frontZ (i := 4) Aa Aa
 have F := F.freeze
 refine Cv (Ml := []) (Zl := []) (β := Value) (rv := fun x => x) (MM := fun x => []) (ZZ := fun x => [row x 58 BK x1]) W F H8 Aa Aa (fun hL => HY _ w (v1) (v2) (v6) (v10) (Value.slice none 0 0) (Value.slice none 0 0) (3, ([(0, 0, 1, 0, 1, 1), (1, 1, 2, 0, 1, 1), (0, 1, 2, 1, 1, 1)] : List (Int × Int × Int × Int × Int × Int)), ([(2, 7)] : List (Int × Int))) ([([0] : List Int), ([1] : List Int), ([7] : List Int)] : List (List Int)) ([([1] : List Int), ([1] : List Int), ([7] : List Int)] : List (List Int)) (([] : List (Int × Int × Int × Int)), ([] : List (Int × Int × List Int)), 0, 0, 0, 0) _ h1 ((BE 9 Aa) w F).nx ((BE 8 Aa) w F).nx (F.item (i := 0) Aa) ((BE 1 Aa) w F).nx Sl.nil Sl.nil) fun x a w W F => ?_
 obtain ⟨v11, rfl⟩ : ∃ y, y = x := ⟨x, rfl⟩
 have F : Stw ⟨Y, [], w0⟩ [(b1, [.int .i64 3, v1, v2])] [row v11 58 BK x1, Ko v6 (Rp.slice (Rp.int .i64)) ([([0] : List Int), ([1] : List Int), ([7] : List Int)] : List (List Int)), row v10 46 (Rp.slice (Rp.int .i64)) ([([1] : List Int), ([1] : List Int), ([7] : List Int)] : List (List Int)), Ko v9 (Rp.int .i64) ([7] : List Int), Ko v8 (Rp.int .i64) ([1] : List Int), Ko v7 (Rp.int .i64) ([1] : List Int), Ko v5 (Rp.int .i64) ([7] : List Int), Ko v4 (Rp.int .i64) ([1] : List Int), Ko v3 (Rp.int .i64) ([0] : List Int), row v2 56 Ec ([(2, 7)] : List (Int × Int)), row v1 54 Er ([(0, 0, 1, 0, 1, 1), (1, 1, 2, 0, 1, 1), (0, 1, 2, 1, 1, 1)] : List (Int × Int × Int × Int × Int × Int))] w := F
 refine vl tk 2 W F fun a w W F => ?_
 refine Ac ?_
 obtain ⟨o1, G1, K1⟩ := Ae H
 refine Aj (fun a w => ∃ x2 : Bool, some (x2) = some o1 ∧ Fr 42 [] [(0, .bool x2)] a ∧ Stw ⟨Y, [], w0⟩ [(b1, [.int .i64 3, v1, v2])] [row v1 54 Er ([(0, 0, 1, 0, 1, 1), (1, 1, 2, 0, 1, 1), (0, 1, 2, 1, 1, 1)] : List (Int × Int × Int × Int × Int × Int)), row v2 56 Ec ([(2, 7)] : List (Int × Int))] w) ?_ ?_
 ·
  have H := G1
  clear G1 K1
  refine vc tk 2 W F fun a w W F => ?_
  refine ls W F Aa (AR (r := BK) (l := x1) M5 Aa W Aa (BE 0 Aa)).q fun a w W F => ?_
  refine vl tk 2 W F fun a w W F => ?_
  rcases Bool.eq_false_or_eq_true (decide ((x1.length : Int) = 1)) with hb | hb
  ·
   have H := B5 (CT hb) H
   rw [hb] at W
   clear hb
   refine CO W F (Ad W Aa Aa Aa Aa) Aa (Ah Aa) (Ak W Aa).q fun a w W F => ?_
   obtain ⟨x3, h2, H⟩ := Ae H
   refine CO W F (Ad W Aa Aa Aa Aa) Aa (Ah Aa) (Al (r := BK) Nj W Aa Aa (BE 0 Aa) h2).q fun a w W F => ?_
   refine CO W F (Ad W Aa Aa Aa Aa) Aa (Ah Aa) (Ag (y := Value.agg #[.int .i64 x3.1, .int .i64 x3.2.1, .int .i64 x3.2.2]) (j := 0) (i := 0) W Aa Aa (BE 0 Aa) h2 SC.to XL Aa).q fun a w W F => ?_
   refine CO W F (Ad W Aa Aa Aa Aa) Aa (Ah Aa) (Bx (v := Value.agg #[.int .i64 2, .int .i64 0, .int .i64 0]) Ui W Aa Aa Aa).q fun a w W F => ?_
   refine CO W F (Ad W Aa Aa Aa Aa) Aa (Ah Aa) (QB (t := decide (x3.1 = 2 ∧ x3.2.1 = 0 ∧ x3.2.2 = 0)) Xn (XG _ _ _ _ _ _) W Aa Aa).q fun a w W F => ?_
   refine vl tk 2 W F fun a w W F => ?_
   rcases Bool.eq_false_or_eq_true (decide (x3.1 = 2 ∧ x3.2.1 = 0 ∧ x3.2.2 = 0)) with hb | hb
   ·
    have H := B5 (CT hb) H
    rw [hb] at W
    clear hb
    refine I3 (Ad W Aa Aa Aa Aa) ?_
    refine ls W F Aa (AL (v := Value.string (bs (CW 6))) W WH Aa (fun w F => Km any w 6 _ Aa)) fun a w W F => ?_
    refine CO W F (Ad W Aa Aa Aa Aa) Aa (Ah Aa) (TX (l := (CW 6)) (m := ([108, 111, 111, 112] : List UInt8)) W Aa Aa).q fun a w W F => ?_
    refine vl tk 2 W F fun a w W F => ?_
    rcases Bool.eq_false_or_eq_true (decide ((CW 6) = ([108, 111, 111, 112] : List UInt8))) with hb | hb
    ·
     have H := B5 (CT hb) H
     rw [hb] at W
     clear hb
     refine CO W F (Ad W Aa Aa Aa Aa) Aa (Ah Aa) (Bx (v := Value.agg #[.int .i64 0, .slice none 0 0, .slice none 0 0]) WL W Aa Aa Aa).q fun a w W F => ?_
     refine CO W F (Ad W Aa Aa Aa Aa) Aa (Ah Aa) (Bx (v := Value.agg #[.slice none 0 0, .slice none 0 0, .int .i64 0, .int .i64 0, .int .i64 0, .int .i64 0]) VY W Aa Aa Aa).q fun a w W F => ?_
     refine I3 (Ad W Aa Aa Aa Aa) ?_
     obtain ⟨x4, h3, H⟩ := Ae H
     refine Cv (Ml := []) (Zl := []) (β := Value) (rv := fun x => x) (MM := fun x => []) (ZZ := fun x => [row x 58 BK x4]) W F H8 Aa Aa (fun hL => HY _ w (Value.slice none 0 0) (Value.slice none 0 0) (Value.slice none 0 0) (Value.slice none 0 0) (Value.slice none 0 0) (Value.slice none 0 0) (0, ([] : List (Int × Int × Int × Int × Int × Int)), ([] : List (Int × Int))) ([] : List (List Int)) ([] : List (List Int)) (([] : List (Int × Int × Int × Int)), ([] : List (Int × Int × List Int)), 0, 0, 0, 0) _ h3 Sl.nil Sl.nil Sl.nil Sl.nil Sl.nil Sl.nil) fun x a w W F => ?_
     obtain ⟨v12, rfl⟩ : ∃ y, y = x := ⟨x, rfl⟩
     have F : Stw ⟨Y, [], w0⟩ [(b1, [.int .i64 3, v1, v2])] [row v12 58 BK x4, row v11 58 BK x1, Ko v6 (Rp.slice (Rp.int .i64)) ([([0] : List Int), ([1] : List Int), ([7] : List Int)] : List (List Int)), row v10 46 (Rp.slice (Rp.int .i64)) ([([1] : List Int), ([1] : List Int), ([7] : List Int)] : List (List Int)), Ko v9 (Rp.int .i64) ([7] : List Int), Ko v8 (Rp.int .i64) ([1] : List Int), Ko v7 (Rp.int .i64) ([1] : List Int), Ko v5 (Rp.int .i64) ([7] : List Int), Ko v4 (Rp.int .i64) ([1] : List Int), Ko v3 (Rp.int .i64) ([0] : List Int), row v2 56 Ec ([(2, 7)] : List (Int × Int)), row v1 54 Er ([(0, 0, 1, 0, 1, 1), (1, 1, 2, 0, 1, 1), (0, 1, 2, 1, 1, 1)] : List (Int × Int × Int × Int × Int × Int))] w := F
     refine CO W F (Ad W Aa Aa Aa Aa) Aa (Ah Aa) (AR (r := BK) (l := x4) M5 Aa W Aa (BE 0 Aa)).q fun a w W F => ?_
     refine vl tk 4 W F fun a w W F => ?_
     refine Ac ?_
     have F := F.frontZ (i := 10) Aa Aa
     have F := F.frontZ (i := 11) Aa Aa
     have F := F.sub (M' := [(b1, [.int .i64 3, v1, v2])]) (Z' := [row v1 54 Er ([(0, 0, 1, 0, 1, 1), (1, 1, 2, 0, 1, 1), (0, 1, 2, 1, 1, 1)] : List (Int × Int × Int × Int × Int × Int)), row v2 56 Ec ([(2, 7)] : List (Int × Int))]) (List.Sublist.refl _) (List.Sublist.cons_cons _ (List.Sublist.cons_cons _ (List.nil_sublist _)))
     exact ⟨_, H, W.ra Aa, F⟩
    have H := B6 (CV hb) H
    rw [hb] at W
    clear hb
    refine vl tk 8 W F fun a w W F => ?_
    refine Ac ?_
    have F := F.frontZ (i := 9) Aa Aa
    have F := F.frontZ (i := 10) Aa Aa
    have F := F.sub (M' := [(b1, [.int .i64 3, v1, v2])]) (Z' := [row v1 54 Er ([(0, 0, 1, 0, 1, 1), (1, 1, 2, 0, 1, 1), (0, 1, 2, 1, 1, 1)] : List (Int × Int × Int × Int × Int × Int)), row v2 56 Ec ([(2, 7)] : List (Int × Int))]) (List.Sublist.refl _) (List.Sublist.cons_cons _ (List.Sublist.cons_cons _ (List.nil_sublist _)))
    exact ⟨_, H, W.ra Aa, F⟩
   have H := B6 (CV hb) H
   rw [hb] at W
   clear hb
   refine vl tk 12 W F fun a w W F => ?_
   refine Ac ?_
   have F := F.frontZ (i := 9) Aa Aa
   have F := F.frontZ (i := 10) Aa Aa
   have F := F.sub (M' := [(b1, [.int .i64 3, v1, v2])]) (Z' := [row v1 54 Er ([(0, 0, 1, 0, 1, 1), (1, 1, 2, 0, 1, 1), (0, 1, 2, 1, 1, 1)] : List (Int × Int × Int × Int × Int × Int)), row v2 56 Ec ([(2, 7)] : List (Int × Int))]) (List.Sublist.refl _) (List.Sublist.cons_cons _ (List.Sublist.cons_cons _ (List.nil_sublist _)))
   exact ⟨_, H, W.ra Aa, F⟩
  have H := B6 (CV hb) H
  rw [hb] at W
  clear hb
  refine vl tk 19 W F fun a w W F => ?_
  refine Ac ?_
  have F := F.frontZ (i := 9) Aa Aa
  have F := F.frontZ (i := 10) Aa Aa
  have F := F.sub (M' := [(b1, [.int .i64 3, v1, v2])]) (Z' := [row v1 54 Er ([(0, 0, 1, 0, 1, 1), (1, 1, 2, 0, 1, 1), (0, 1, 2, 1, 1, 1)] : List (Int × Int × Int × Int × Int × Int)), row v2 56 Ec ([(2, 7)] : List (Int × Int))]) (List.Sublist.refl _) (List.Sublist.cons_cons _ (List.Sublist.cons_cons _ (List.nil_sublist _)))
  exact ⟨_, H, W.ra Aa, F⟩
 rintro a w ⟨x2, hj, W, F⟩
 have hj := Av hj
 subst hj
 have H := K1
 clear G1 K1
 refine Ao ?_
 have H := Av H
 subst H
 refine AE (.inl Aa) W F Aa (Ai W Aa) ?_
 exact ⟨rfl, F.done⟩
theorem HM : type_of% Try.underlying87 := Try.underlying87
theorem H6 : Has Try.prog 6 := BS Try.func6
theorem Wq : (Try.prog.info? 40).bind (·.zero) = some (.agg #[.slice none 0 0, .slice none 0 0, .int .i64 0, .int .i64 0, .int .i64 0, .int .i64 0]) := by kernel_rfl
theorem P7 : Et Try.prog 28 87 4 32 := Et.of PD (by kernel_rfl) (by kernel_rfl) (by kernel_rfl) (by decide)
def Yz (a : Int × Int × Int × Int) : List Value := [.int .i64 a.1, .int .i64 a.2.1, .int .i64 a.2.2.1, .int .i64 a.2.2.2]
theorem P2 : Fl I6 Yz := (Fl.pair Fl.int (Fl.pair Fl.int (Fl.pair Fl.int Fl.int)))
theorem Xi : Bt Try.prog 78 [.int .i64 0, .int .i64 0, .int .i64 0, .int .i64 0] [(0, 1), (1, 1), (2, 1), (3, 1)] := ⟨⟨.agg #[.int .i64 0, .int .i64 0, .int .i64 0, .int .i64 0], by kernel_rfl, rfl⟩, ⟨_, J8, fun w => by kernel_rfl⟩⟩
noncomputable def Gp (p0 : List (Int × Int × Int × Int)) : ((List (Int × Int × Int × Int)) × Int) → Option (((List (Int × Int × Int × Int)) × Int) ⊕ (List (Int × Int × Int × Int)))
  | (x2, x3) => (if x3 < (p0.length : Int) then (ix p0 x3).bind fun x4 => (ix p0 x3).bind fun x5 => (ix p0 x3).bind fun x6 => (ix p0 x3).bind fun x7 => (Fo x2 ([(x4.1, x5.2.1, x6.2.2.1, x7.2.2.2)] : List (Int × Int × Int × Int))).bind fun x8 => some (.inl (x8, A3 (x3 + 1))) else some (.inr x2))
noncomputable def KE (p0 : List (Int × Int × Int × Int)) : Option (List (Int × Int × Int × Int)) := (Au (Gp p0) ([], 0)).bind fun x1 => some x1
theorem Mq (Y : Nat → Prop) (w0 : World) (v1 : Value) (p0 : List (Int × Int × Int × Int)) (r : (List (Int × Int × Int × Int))) (H : KE p0 = some r) (h_v1 : Sl w0 (NX []) I6 v1 p0) :
    Calls Try.prog 22 #[v1] w0 fun e w' => ∃ x : Value, e = .returned (x) ∧ Stw ⟨Y, [], w0⟩ [] [row (x) 78 HV r] w' := by
 refine enter Try.func22 Aa Try.ntmps22 Aa fun a W => ?_
 have F := Stw.start Y w0
 unfold KE at H
 refine vc tk 10 W F fun a w W F => ?_
 obtain ⟨o1, G1, K1⟩ := Ae H
 refine Aj (fun a w => ∃ x1 : List (Int × Int × Int × Int), ∃ v2 : Value, some (x1) = some o1 ∧ Fr 36 [] [(2, .slice none 0 0), (3, v2)] a ∧ Stw ⟨Y, [], w0⟩ [] [row v2 78 HV x1] w) ?_ ?_
 ·
  have H := G1
  clear G1 K1
  refine vc tk 6 W F fun a w W F => ?_
  have F := F.nilRow 78 HV
  refine AA H (fun s a w => ∃ v3 : Value, Fr 36 [] [(0, v1), (2, .slice none 0 0), (3, v3), (4, .int .i64 s.2)] a ∧ Stw ⟨Y, [], w0⟩ [] [row v3 78 HV s.1] w) ⟨(Value.slice none 0 0), W.ra Aa, F⟩ fun s o a w H L2 hR => ?_
  obtain ⟨x2, x3⟩ := s
  obtain ⟨v3, W, F⟩ := hR
  have W : Fr 36 [] [(0, v1), (2, .slice none 0 0), (3, v3), (4, .int .i64 x3)] a := W
  have F : Stw ⟨Y, [], w0⟩ [] [row v3 78 HV x2] w := F
  rw [Gp] at H
  refine vc tk 5 W F fun a w W F => ?_
  refine ls W F Aa (AR (r := I6) (l := p0) PD Aa W Aa (Ab h_v1)).q fun a w W F => ?_
  refine Bz tk 3 W F fun a w W F => ?_
  refine AN W Aa H (fun W H => ?_) fun W H => ?_
  ·
   refine Gm tk 4 W F fun a w W F => ?_
   refine TV 22 [0] [1, 2, 3, 4, 5, 6, 7, 8, 9, 10, 11, 12, 13, 14, 15, 16, 17, 18, 19, 20, 21] (fun ch a d v w h => by cases d <;> exact h) F MO (by kernel_rfl) ?_
   refine hm W Aa Aa Aa fun a W => ?_
   refine Ue ?_
   iterate 2 refine hs W Aa Aa Aa (Ak W Aa).q fun a W => ?_
   obtain ⟨x4, h1, H⟩ := Ae H
   refine hs W Aa Aa Aa (Al (r := I6) P7 W Aa Aa (Ab h_v1) h1).q fun a W => ?_
   refine hs W Aa Aa Aa (Af HM Aa Aa Aa T3 W Aa (CS v1 + (x3).toNat * 4) Aa).q fun a W => ?_
   refine hs W Aa Aa Aa (Ag (y := Value.int .i64 x4.1) (j := 0) (i := x3) W Aa Aa (Ab h_v1) h1 P2.to T3 Aa).q fun a W => ?_
   iterate 2 refine hs W Aa Aa Aa (Ak W Aa).q fun a W => ?_
   obtain ⟨x5, h2, H⟩ := Ae H
   refine hs W Aa Aa Aa (Al (r := I6) P7 W Aa Aa (Ab h_v1) h2).q fun a W => ?_
   refine hs W Aa Aa Aa (Af HM Aa Aa Aa T3 W Aa (CS v1 + (x3).toNat * 4 + 1) Aa).q fun a W => ?_
   refine hs W Aa Aa Aa (Ag (y := Value.int .i64 x5.2.1) (j := 1) (i := x3) W Aa Aa (Ab h_v1) h2 P2.to T3 Aa).q fun a W => ?_
   iterate 2 refine hs W Aa Aa Aa (Ak W Aa).q fun a W => ?_
   obtain ⟨x6, h3, H⟩ := Ae H
   refine hs W Aa Aa Aa (Al (r := I6) P7 W Aa Aa (Ab h_v1) h3).q fun a W => ?_
   refine hs W Aa Aa Aa (Af HM Aa Aa Aa T3 W Aa (CS v1 + (x3).toNat * 4 + 2) Aa).q fun a W => ?_
   refine hs W Aa Aa Aa (Ag (y := Value.int .i64 x6.2.2.1) (j := 2) (i := x3) W Aa Aa (Ab h_v1) h3 P2.to T3 Aa).q fun a W => ?_
   iterate 2 refine hs W Aa Aa Aa (Ak W Aa).q fun a W => ?_
   obtain ⟨x7, h4, H⟩ := Ae H
   refine hs W Aa Aa Aa (Al (r := I6) P7 W Aa Aa (Ab h_v1) h4).q fun a W => ?_
   refine hs W Aa Aa Aa (Af HM Aa Aa Aa T3 W Aa (CS v1 + (x3).toNat * 4 + 3) Aa).q fun a W => ?_
   refine hs W Aa Aa Aa (Ag (y := Value.int .i64 x7.2.2.2) (j := 3) (i := x3) W Aa Aa (Ab h_v1) h4 P2.to T3 Aa).q fun a W => ?_
   refine hs W Aa Aa Aa (Bx (v := Value.agg #[.int .i64 x4.1, .int .i64 x5.2.1, .int .i64 x6.2.2.1, .int .i64 x7.2.2.2]) Xi W Aa Aa Aa).q fun a W => ?_
   refine U9 fun w F => ?_
   have F : Stw ⟨Y, [], w0⟩ [] [row v3 78 HV x2] w := F
   refine Cp (z := Value.agg #[.int .i64 0, .int .i64 0, .int .i64 0, .int .i64 0]) (cs := [.int .i64 x4.1, .int .i64 x5.2.1, .int .i64 x6.2.2.1, .int .i64 x7.2.2.2]) HV ([(x4.1, x5.2.1, x6.2.2.1, x7.2.2.2)] : List (Int × Int × Int × Int)) W F Aa Vr VX Aa Aa Aa Aa Aa Aa (V2.repL _ _ ([(x4.1, x5.2.1, x6.2.2.1, x7.2.2.2)] : List (Int × Int × Int × Int))) fun v4 a w W F => ?_
   obtain ⟨x8, h5, H⟩ := Ae H
   refine BF (r := HV) (i := 1) W F Aa Vr Aa Aa Aa Aa (Cr F 0 Aa) h5 Aa fun v5 a w W F => ?_
   have F : Stw ⟨Y, [], w0⟩ [] [row v5 78 HV x8, row v4 78 HV ([(x4.1, x5.2.1, x6.2.2.1, x7.2.2.2)] : List (Int × Int × Int × Int))] w := F
   refine vl tk 2 W F fun a w W F => ?_
   refine An ?_
   refine vn tk 5 W F fun a w W F => ?_
   refine Ac ?_
   have F := F.sub (M' := []) (Z' := [row v5 78 HV x8]) (List.Sublist.refl _) (List.Sublist.cons_cons _ (List.nil_sublist _))
   exact ⟨_, H, (v5), W.ra Aa, F⟩
  refine Ay ?_
  iterate 2 refine AO ?_
  refine Az (Ac ?_)
  have H := L2 _ H
  exact ⟨_, (v3), H, W.ra Aa, F⟩
 rintro a w ⟨x1, v2, hj, W, F⟩
 have hj := Av hj
 subst hj
 have H := K1
 clear G1 K1
 refine vc tk 6 W F fun a w W F => ?_
 refine Ao ?_
 have H := Av H
 subst H
 refine AE (.inl Aa) W F Aa (Ai W Aa) ?_
 exact ⟨(v2), Aa, F⟩
end Go.Proofs.Ythhoflfhegfmcaa
