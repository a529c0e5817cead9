/- The functions of layer 25, GX. Conditions: none. -/
import Derived.Test.YthhoflfhegfmcaacA2
namespace Go.Proofs.Ythhoflfhegfmcaa
open Go Go.RowKit
set_option linter.unusedVariables false
set_option linter.unusedSimpArgs false
set_option maxRecDepth 20000
set_option maxHeartbeats 1600000
theorem VJ : Has Try.prog 40 := Ct Try.func40
noncomputable def A1 (p0 : (Int × (List (Int × Int × Int × Int × Int × Int)) × (List (Int × Int))) × List (List Int) × List (List Int) × ((List (Int × Int × Int × Int)) × (List (Int × Int × List Int)) × Int × Int × Int × Int)) (x8 : Int × Int × List Int) : ((List (Nat × List Int)) × (List (Nat × List (Nat × List Int))) × Int) → Option (((List (Nat × List Int)) × (List (Nat × List (Nat × List Int))) × Int) ⊕ ((List (Nat × List Int)) × (List (Nat × List (Nat × List Int)))))
  | (x13, x14, x15) => (if x15 < (p0.2.2.2.1.length : Int) then ((ix p0.2.2.2.1 x15).bind fun x18 => (if (AU p0 x18) = true then (Cu x8 x18).bind fun x22 => some (x13, x14, x22) else some (x13, x14, false)).bind fun (x19, x20, x21) => (if x21 = true then (ix x20 x18.1).bind fun x23 => (ix x23.2 x18.2.1).bind fun x24 => (Il x23.1).bind fun x25 => (Il x24.1).bind fun x26 => (FD x24.2 ([x18.2.2.1] : List Int)).bind fun x27 => (ix (Ag x23.2 x18.2.1 (0, [])) x18.2.1).bind fun x28 => (ix x19 x18.1).bind fun x29 => (ix x29.2 x18.2.1).bind fun x30 => (Ol x29.1).bind fun x31 => (Il x29.1).bind fun x32 => some ((Ag x19 x18.1 (2, (Ag x29.2 x18.2.1 x18.2.2.1))), (Ag (Ag x20 x18.1 (2, (Ag x23.2 x18.2.1 (0, [])))) x18.1 (2, (Ag (Ag x23.2 x18.2.1 (0, [])) x18.2.1 (2, x27))))) else some (x19, x20))).bind fun (x16, x17) => some (.inl (x16, x17, A7 (x15 + 1))) else some (.inr (x13, x14)))
noncomputable def A2 (p0 : (Int × (List (Int × Int × Int × Int × Int × Int)) × (List (Int × Int))) × List (List Int) × List (List Int) × ((List (Int × Int × Int × Int)) × (List (Int × Int × List Int)) × Int × Int × Int × Int)) (x5 : Int) (x11 : List (Nat × List Int)) (x12 : List (Nat × List (Nat × List Int))) : ((List (Int × Int × Int)) × Int) → Option (((List (Int × Int × Int)) × Int) ⊕ ((List (Int × Int × Int)) × (List (Nat × List Int))))
  | (x33, x34) => (if x34 < (p0.1.2.2.length : Int) then (Gs RP x12).bind fun x35 => (Cb p0 x35 x5 x34).bind fun x36 => (FD x33 x36).bind fun x37 => some (.inl (x37, A7 (x34 + 1))) else some (.inr (x33, x11)))
noncomputable def Br (p0 : (Int × (List (Int × Int × Int × Int × Int × Int)) × (List (Int × Int))) × List (List Int) × List (List Int) × ((List (Int × Int × Int × Int)) × (List (Int × Int × List Int)) × Int × Int × Int × Int)) : ((List (Int × Int × Int)) × (List (Nat × List Int)) × Int) → Option (((List (Int × Int × Int)) × (List (Nat × List Int)) × Int) ⊕ (List (Int × Int × Int)))
  | (x3, x4, x5) => (if x5 < (p0.2.2.2.2.1.length : Int) then ((ix p0.2.2.2.2.1 x5).bind fun x8 => (Gs PO x4).bind fun x9 => (DO x9).bind fun x10 => (An (A1 p0 x8) (x4, x10, 0)).bind fun (x11, x12) => An (A2 p0 x5 x11 x12) (x3, 0)).bind fun (x6, x7) => some (.inl (x6, x7, A7 (x5 + 1))) else some (.inr x3))
noncomputable def BZ (p0 : (Int × (List (Int × Int × Int × Int × Int × Int)) × (List (Int × Int))) × List (List Int) × List (List Int) × ((List (Int × Int × Int × Int)) × (List (Int × Int × List Int)) × Int × Int × Int × Int)) : Option (List (Int × Int × Int)) := (CZ p0.2.1).bind fun x1 => (An (Br p0) ([], x1, 0)).bind fun x2 => some x2
theorem Hk (Y : Nat → Prop) (w0 : World) (v1 : Value) (v2 : Value) (v3 : Value) (v4 : Value) (v5 : Value) (v6 : Value) (p0 : (Int × (List (Int × Int × Int × Int × Int × Int)) × (List (Int × Int))) × List (List Int) × List (List Int) × ((List (Int × Int × Int × Int)) × (List (Int × Int × List Int)) × Int × Int × Int × Int)) (r : (List (Int × Int × Int))) (H : BZ p0 = some r) (h_v1 : Sl w0 (NX []) Gn v1 p0.1.2.1) (h_v2 : Sl w0 (NX []) GE v2 p0.1.2.2) (s_v3 : Sl w0 Y (Rp.slice (Rp.int .i64)) v3 p0.2.1) (h_v4 : Sl w0 (NX []) (Rp.slice (Rp.int .i64)) v4 p0.2.2.1) (h_v5 : Sl w0 (NX []) Hg v5 p0.2.2.2.1) (h_v6 : Sl w0 (NX []) Jw v6 p0.2.2.2.2.1) :
    Calls Try.prog 21 #[.agg #[.int .i64 p0.1.1, v1, v2, v3, v4, v5, v6, .int .i64 p0.2.2.2.2.2.1, .int .i64 p0.2.2.2.2.2.2.1, .int .i64 p0.2.2.2.2.2.2.2.1, .int .i64 p0.2.2.2.2.2.2.2.2]] w0 fun e w' => ∃ x : Value, e = .returned (x) ∧ Stw ⟨Y, [], w0⟩ [] [row (x) 58 Bw r] w' := by
 refine enter Try.func21 Aa Try.ntmps21 Aa fun a W => ?_
 have F := Stw.start Y w0
 obtain ⟨v7, h1, s_v3⟩ := s_v3.ex Bn
 obtain ⟨v8, h2, h_v4⟩ := h_v4.ex Bn
 obtain ⟨v9, h3, h_v6⟩ := h_v6.ex Fj
 have h_v3 := F.nx s_v3
 unfold BZ at H
 refine vc tk 2 W F fun a w W F => ?_
 refine Cq (cs := (Cs p0 v1 v2 v3 v4 v5 v6)) W F Aa Aa Aa fun b1 a w W F => ?_
 refine JK tk 12 [0] W F (ai fun a w W F => ?_)
 obtain ⟨x1, h4, H⟩ := Ad H
 refine CJ (Ml := []) (Zl := []) (β := Value × ({x : List (Value × Nat × List Int) // x.map Dz = x1})) (rv := fun x => x.1) (MM := fun x => []) (ZZ := fun x => [AF x.1 46 B2 x.2.1]) W F Wr Aa Aa (fun hL => KY _ w (v3) p0.2.1 _ h4 (Sl.hide Bn h1 (F.old s_v3))) fun x a w W F => ?_
 obtain ⟨v10, v11⟩ := x
 have F : Stw ⟨Y, [], w0⟩ (BP b1 p0 v1 v2 v3 v4 v5 v6) [AF v10 46 B2 v11.1] w := F
 refine vl tk 2 W F fun a w W F => ?_
 refine Ac ?_
 obtain ⟨o1, G1, K1⟩ := Ad H
 refine Av (fun a w => ∃ x2 : List (Int × Int × Int), ∃ v12 : Value, some (x2) = some o1 ∧ Fr 90 [] [(2, .slice none 0 0), (3, v12)] a ∧ Stw ⟨Y, [], w0⟩ (BP b1 p0 v1 v2 v3 v4 v5 v6) [row v12 58 Bw x2] w) ?_ ?_
 ·
  have H := G1
  clear G1 K1
  refine Ha tk 5 [0] W F (ai fun a w W F => ?_)
  refine ls W F Aa (A0 (r := Jw) (l := p0.2.2.2.2.1) RG Aa W Aa (Ak Fj h3 (Ab h_v6))).q fun a w W F => ?_
  refine Cc tk 4 W F fun a w W F => ?_
  have F := F.nilRow 58 Bw
  have F := F.frontZ (i := 1) Aa Aa
  have F := F.frontZ (i := 1) Aa Aa
  refine AP H (fun s a w => ∃ v13 : Value, ∃ g_x4 : {x : List (Value × Nat × List Int) // x.map Dz = s.2.1}, Fr 90 [] [(1, .pointer (some ⟨b1, 0, none⟩)), (2, .slice none 0 0), (3, v13), (4, v10), (16, v6), (17, .int .i64 (p0.2.2.2.2.1.length : Int)), (18, .int .i64 s.2.2)] a ∧ Stw ⟨Y, [], w0⟩ (BP b1 p0 v1 v2 v3 v4 v5 v6) [row v13 58 Bw s.1, AF v10 46 B2 g_x4.1] w) ⟨(Value.slice none 0 0), ⟨v11.1, v11.2⟩, W.ra Aa, F⟩ fun s o a w H L2 hR => ?_
  obtain ⟨x3, x4, x5⟩ := s
  obtain ⟨v13, g_x4, W, F⟩ := hR
  have W : Fr 90 [] [(1, .pointer (some ⟨b1, 0, none⟩)), (2, .slice none 0 0), (3, v13), (4, v10), (16, v6), (17, .int .i64 (p0.2.2.2.2.1.length : Int)), (18, .int .i64 x5)] a := W
  have F : Stw ⟨Y, [], w0⟩ (BP b1 p0 v1 v2 v3 v4 v5 v6) [row v13 58 Bw x3, AF v10 46 B2 g_x4.1] w := F
  rw [Br] at H
  refine vc tk 6 W F fun a w W F => ?_
  refine A3 W Aa H (fun W H => ?_) fun W H => ?_
  ·
   refine AD (Ac ?_)
   obtain ⟨o3, G3, K3⟩ := Ad H
   refine Av (fun a w => ∃ x6 : List (Int × Int × Int), ∃ x7 : List (Nat × List Int), ∃ v14 : Value, ∃ g_x7 : {x : List (Value × Nat × List Int) // x.map Dz = x7}, some ((x6, x7)) = some o3 ∧ Fr 90 [] [(1, .pointer (some ⟨b1, 0, none⟩)), (2, .slice none 0 0), (3, v14), (4, v10), (16, v6), (17, .int .i64 (p0.2.2.2.2.1.length : Int)), (18, .int .i64 x5)] a ∧ Stw ⟨Y, [], w0⟩ (BP b1 p0 v1 v2 v3 v4 v5 v6) [row v14 58 Bw x6, AF v10 46 B2 g_x7.1] w) ?_ ?_
   ·
    have H := G3
    clear G3 K3
    refine vc tk 4 W F fun a w W F => ?_
    obtain ⟨x8, h5, H⟩ := Ad H
    obtain ⟨v15, h6, h7⟩ := CE h3 h5
    have h8 : MF v15 = [.int .i64 x8.1, .int .i64 x8.2.1, (v15.2.2.1)] := congrArg (fun q : Int × Int × List Int => ([.int .i64 q.1, .int .i64 q.2.1, (v15.2.2.1)] : List Value)) h7
    refine ls W F Aa (Aw (r := PN) TE W Aa Aa (Ab h_v6) h6).q fun a w W F => ?_
    refine ls W F Aa (Ai (y := Value.agg #[.int .i64 x8.1, .int .i64 x8.2.1, (v15.2.2.1)]) (j := 0) (i := x5) (enc := MF) W Aa Aa (Ab h_v6) h6 R3 UN (by rw [h8]; rfl)).q fun a w W F => ?_
    refine B9 (cs := [.int .i64 0, .int .i64 0, .slice none 0 0]) W F Aa Vu Aa fun b2 a w W F => ?_
    refine ls W F Aa (BR W Aa).q fun a w W F => ?_
    refine F6 0 W F Aa Aa Aa UN Aa Aa (AX Aa (AX Aa (AX ((BE (Ab h_v6) h6 (Cd.snd (Cd.snd Cd.here)) (congrArg (fun q : Int × Int × List Int => q.2.2) h7)) _ F).one GO))) fun w F => ?_
    refine Cc tk 5 W F fun a w W F => ?_
    obtain ⟨x9, h9, H⟩ := Ad H
    obtain ⟨x10, h10, H⟩ := Ad H
    refine CJ (Ml := []) (Zl := []) (β := Value × ({x : List (Value × Nat × List (Value × Nat × List Int)) // x.map Dy = x10})) (rv := fun x => x.1) (MM := fun x => []) (ZZ := fun x => [AF x.1 26 BL x.2.1]) W F WH Aa Aa (fun hL => Lz _ w (v10) x9 _ h10 ((KN.plain Us g_x4.2 h9 (GK 1 Aa)) w F).nx) fun x a w W F => ?_
    obtain ⟨v16, v17⟩ := x
    have F : Stw ⟨Y, [], w0⟩ [(b2, [.int .i64 x8.1, .int .i64 x8.2.1, (v15.2.2.1)]), (b1, (Cs p0 v1 v2 v3 v4 v5 v6))] [AF v16 26 BL v17.1, row v13 58 Bw x3, AF v10 46 B2 g_x4.1] w := F
    refine vl tk 2 W F fun a w W F => ?_
    refine Ac ?_
    obtain ⟨o4, G4, K4⟩ := Ad H
    refine Av (fun a w => ∃ x11 : List (Nat × List Int), ∃ x12 : List (Nat × List (Nat × List Int)), ∃ g_x11 : {x : List (Value × Nat × List Int) // x.map Dz = x11}, ∃ g_x12 : {x : List (Value × Nat × List (Value × Nat × List Int)) // x.map Dy = x12}, some ((x11, x12)) = some o4 ∧ Fr 90 [] [(1, .pointer (some ⟨b1, 0, none⟩)), (2, .slice none 0 0), (3, v13), (4, v10), (5, .int .i64 x5), (7, v16), (16, v6), (17, .int .i64 (p0.2.2.2.2.1.length : Int)), (18, .int .i64 x5)] a ∧ Stw ⟨Y, [], w0⟩ [(b2, [.int .i64 x8.1, .int .i64 x8.2.1, (v15.2.2.1)]), (b1, (Cs p0 v1 v2 v3 v4 v5 v6))] [row v13 58 Bw x3, AF v10 46 B2 g_x11.1, AF v16 26 BL g_x12.1] w) ?_ ?_
    ·
     have H := G4
     clear G4 K4
     refine Ha tk 5 [1] W F (ai fun a w W F => ?_)
     refine ls W F Aa (A0 (r := Hg) (l := p0.2.2.2.1) Sj Aa W Aa (Ab h_v5)).q fun a w W F => ?_
     refine Cc tk 4 W F fun a w W F => ?_
     have F := F.frontZ (i := 2) Aa Aa
     have F := F.frontZ (i := 2) Aa Aa
     have F := F.frontM (i := 1) Aa Aa
     have F := F.frontM (i := 1) Aa Aa
     refine AP H (fun s a w => ∃ g_x13 : {x : List (Value × Nat × List Int) // x.map Dz = s.1}, ∃ g_x14 : {x : List (Value × Nat × List (Value × Nat × List Int)) // x.map Dy = s.2.1}, Fr 90 [] [(1, .pointer (some ⟨b1, 0, none⟩)), (2, .slice none 0 0), (3, v13), (4, v10), (5, .int .i64 x5), (6, .pointer (some ⟨b2, 0, none⟩)), (7, v16), (16, v6), (17, .int .i64 (p0.2.2.2.2.1.length : Int)), (18, .int .i64 x5), (27, v5), (28, .int .i64 (p0.2.2.2.1.length : Int)), (29, .int .i64 s.2.2)] a ∧ Stw ⟨Y, [], w0⟩ [(b2, [.int .i64 x8.1, .int .i64 x8.2.1, (v15.2.2.1)]), (b1, (Cs p0 v1 v2 v3 v4 v5 v6))] [row v13 58 Bw x3, AF v10 46 B2 g_x13.1, AF v16 26 BL g_x14.1] w) ⟨⟨g_x4.1, g_x4.2⟩, ⟨v17.1, v17.2⟩, W.ra Aa, F⟩ fun s o a w H L5 hR => ?_
     obtain ⟨x13, x14, x15⟩ := s
     obtain ⟨g_x13, g_x14, W, F⟩ := hR
     have W : Fr 90 [] [(1, .pointer (some ⟨b1, 0, none⟩)), (2, .slice none 0 0), (3, v13), (4, v10), (5, .int .i64 x5), (6, .pointer (some ⟨b2, 0, none⟩)), (7, v16), (16, v6), (17, .int .i64 (p0.2.2.2.2.1.length : Int)), (18, .int .i64 x5), (27, v5), (28, .int .i64 (p0.2.2.2.1.length : Int)), (29, .int .i64 x15)] a := W
     have F : Stw ⟨Y, [], w0⟩ [(b2, [.int .i64 x8.1, .int .i64 x8.2.1, (v15.2.2.1)]), (b1, (Cs p0 v1 v2 v3 v4 v5 v6))] [row v13 58 Bw x3, AF v10 46 B2 g_x13.1, AF v16 26 BL g_x14.1] w := F
     rw [A1] at H
     refine vc tk 6 W F fun a w W F => ?_
     refine A3 W Aa H (fun W H => ?_) fun W H => ?_
     ·
      refine AD (Ac ?_)
      obtain ⟨o6, G6, K6⟩ := Ad H
      refine Av (fun a w => ∃ x16 : List (Nat × List Int), ∃ x17 : List (Nat × List (Nat × List Int)), ∃ g_x16 : {x : List (Value × Nat × List Int) // x.map Dz = x16}, ∃ g_x17 : {x : List (Value × Nat × List (Value × Nat × List Int)) // x.map Dy = x17}, some ((x16, x17)) = some o6 ∧ Fr 90 [] [(1, .pointer (some ⟨b1, 0, none⟩)), (2, .slice none 0 0), (3, v13), (4, v10), (5, .int .i64 x5), (6, .pointer (some ⟨b2, 0, none⟩)), (7, v16), (16, v6), (17, .int .i64 (p0.2.2.2.2.1.length : Int)), (18, .int .i64 x5), (27, v5), (28, .int .i64 (p0.2.2.2.1.length : Int)), (29, .int .i64 x15)] a ∧ Stw ⟨Y, [], w0⟩ [(b2, [.int .i64 x8.1, .int .i64 x8.2.1, (v15.2.2.1)]), (b1, (Cs p0 v1 v2 v3 v4 v5 v6))] [row v13 58 Bw x3, AF v10 46 B2 g_x16.1, AF v16 26 BL g_x17.1] w) ?_ ?_
      ·
       have H := G6
       clear G6 K6
       refine vc tk 3 W F fun a w W F => ?_
       obtain ⟨x18, h11, H⟩ := Ad H
       refine ls W F Aa (Aw (r := Hg) TR W Aa Aa (Ab h_v5) h11).q fun a w W F => ?_
       refine ls W F Aa (Ai (y := Value.agg #[.int .i64 x18.1, .int .i64 x18.2.1, .int .i64 x18.2.2.1, .int .i64 x18.2.2.2]) (j := 0) (i := x15) W Aa Aa (Ab h_v5) h11 UE.to Sc Aa).q fun a w W F => ?_
       refine B9 (cs := (P5)) W F Aa UL Aa fun b3 a w W F => ?_
       refine F6 0 W F Aa Aa Aa Sc Aa Aa Aa fun w F => ?_
       refine EF (Ac ?_)
       obtain ⟨o7, G7, K7⟩ := Ad H
       refine Av (fun a w => ∃ x19 : List (Nat × List Int), ∃ x20 : List (Nat × List (Nat × List Int)), ∃ x21 : Bool, ∃ g_x19 : {x : List (Value × Nat × List Int) // x.map Dz = x19}, ∃ g_x20 : {x : List (Value × Nat × List (Value × Nat × List Int)) // x.map Dy = x20}, some ((x19, x20, x21)) = some o7 ∧ Fr 90 [] [(1, .pointer (some ⟨b1, 0, none⟩)), (2, .slice none 0 0), (3, v13), (4, v10), (5, .int .i64 x5), (6, .pointer (some ⟨b2, 0, none⟩)), (7, v16), (9, .pointer (some ⟨b3, 0, none⟩)), (16, v6), (17, .int .i64 (p0.2.2.2.2.1.length : Int)), (18, .int .i64 x5), (27, v5), (28, .int .i64 (p0.2.2.2.1.length : Int)), (29, .int .i64 x15), (40, .bool x21)] a ∧ Stw ⟨Y, [], w0⟩ [(b3, (CR x18)), (b2, [.int .i64 x8.1, .int .i64 x8.2.1, (v15.2.2.1)]), (b1, (Cs p0 v1 v2 v3 v4 v5 v6))] [row v13 58 Bw x3, AF v10 46 B2 g_x19.1, AF v16 26 BL g_x20.1] w) ?_ ?_
       ·
        have H := G7
        clear G7 K7
        refine Ha tk 3 [2, 0] W F (ai (ai fun a w W F => ?_))
        refine ls W F Aa (AW (v := Value.bool (AU p0 x18)) W Vo Aa (fun w F => Fo any w (v1) (v2) (v3) (v4) (v5) (v6) p0 x18 _ Aa (CW (Ab h_v1) F) (CW (Ab h_v2) F) (CW (Ak Bn h1 (Ab h_v3)) F) (CW (Ak Bn h2 (Ab h_v4)) F) (CW (Ab h_v5) F) (CW (Ak Fj h3 (Ab h_v6)) F))) fun a w W F => ?_
        refine ls W F Aa (Am W Aa).q fun a w W F => ?_
        rcases Bool.eq_false_or_eq_true (AU p0 x18) with hb | hb
        ·
         have H := Di hb H
         rw [hb] at W
         clear hb
         refine Jl tk 2 [1, 0] W F (ai (ai fun a w W F => ?_))
         refine Jg (Ae W Aa Aa Aa Aa) ?_
         obtain ⟨x22, h12, H⟩ := Ad H
         refine ls W F Aa (AW (v := Value.bool x22) W Vz Aa (fun w F => HA any w ((v15.2.2.1)) x8 x18 _ h12 (CW (BE (Ab h_v6) h6 (Cd.snd (Cd.snd Cd.here)) (congrArg (fun q : Int × Int × List Int => q.2.2) h7)) F))) fun a w W F => ?_
         refine vl tk 2 W F fun a w W F => ?_
         refine Ac ?_
         have F := F.frontZ (i := 2) Aa Aa
         have F := F.frontZ (i := 2) Aa Aa
         have F := F.frontZ (i := 2) Aa Aa
         have F := F.frontM (i := 2) Aa Aa
         have F := F.frontM (i := 2) Aa Aa
         have F := F.frontM (i := 2) Aa Aa
         exact ⟨_, _, _, ⟨g_x13.1, g_x13.2⟩, ⟨g_x14.1, g_x14.2⟩, H, W.ra Aa, F⟩
        have H := Dg (by rw [hb]; decide) H
        rw [hb] at W
        clear hb
        refine vl tk 5 W F fun a w W F => ?_
        refine Ac ?_
        have F := F.frontZ (i := 2) Aa Aa
        have F := F.frontZ (i := 2) Aa Aa
        have F := F.frontZ (i := 2) Aa Aa
        have F := F.frontM (i := 2) Aa Aa
        have F := F.frontM (i := 2) Aa Aa
        have F := F.frontM (i := 2) Aa Aa
        exact ⟨_, _, _, ⟨g_x13.1, g_x13.2⟩, ⟨g_x14.1, g_x14.2⟩, H, W.ra Aa, F⟩
       rintro a w ⟨x19, x20, x21, g_x19, g_x20, hj, W, F⟩
       have hj := AA hj
       subst hj
       have H := K7
       clear G7 K7
       refine D8 W Aa H (fun W H => ?_) fun W H => ?_
       ·
        refine Pe ?_
        have F := F.frontZ (i := 2) Aa Aa
        have F := F.dSplitE g_x20.1 Aa
        have F : Stw ⟨Y, [], w0⟩ [(b3, (CR x18)), (b2, [.int .i64 x8.1, .int .i64 x8.2.1, (v15.2.2.1)]), (b1, (Cs p0 v1 v2 v3 v4 v5 v6))] [row v13 58 Bw x3, AF v10 46 B2 g_x19.1, row v16 26 BL.hr g_x20.1, EA (List.map BL.it g_x20.1)] w := F
        refine Is [(true, 0), (true, 1), (true, 2), (true, 3), (true, 4), (true, 5), (true, 6), (true, 7), (true, 8), (true, 9), (true, 10), (true, 11), (true, 12), (true, 13), (true, 14), (true, 15), (true, 16), (true, 17), (false, 18), (false, 19), (true, 20), (false, 21)] (CN ⟨Y, [], w0⟩ [(some 21, b3, [.int .i64 x18.1, .int .i64 x18.2.1, .int .i64 x18.2.2.1, .int .i64 x18.2.2.2]), (some 19, b3, [.int .i64 x18.1, .int .i64 x18.2.1, .int .i64 x18.2.2.1, .int .i64 x18.2.2.2]), (some 18, b3, [.int .i64 x18.1, .int .i64 x18.2.1, .int .i64 x18.2.2.1, .int .i64 x18.2.2.2])] [(some 21, row v16 26 BL.hr g_x20.1), (some 19, row v16 26 BL.hr g_x20.1), (some 19, EA (List.map BL.it g_x20.1))]) (fun ch a d v w h => by cases d <;> exact h) MO (by kernel_rfl) F (fun w F => ⟨_, _, F, (all_cons (fun _ => (.head _)) (all_cons (fun _ => (.head _)) (all_cons (fun _ => (.head _)) Aj))), (all_cons (fun _ => (.tail _ (.tail _ (.head _)))) (all_cons (fun _ => (.tail _ (.tail _ (.head _)))) (all_cons (fun _ => (.tail _ (.tail _ (.tail _ (.head _))))) Aj)))⟩) fun w F => ?_
        refine Bx (R := []) W Aa Aa (yC fun M Z hN hZ => Am W Aa) Aa Aa fun a W => ?_
        refine Bx (R := []) W Aa Aa (yC fun M Z hN hZ => Ah IY Aa Aa Aa T3 W Aa 0 Aa) Aa Aa fun a W => ?_
        refine Bx (R := [21]) W Aa Aa (yC fun M Z hN hZ => BF (cs := (CR x18)) (v := Value.int .i64 x18.1) W Aa (hN ((some 21), b3, (CR x18)) (.head _) Aa) T3 Aa) (by kernel_rfl) Aa fun a W => ?_
        obtain ⟨x23, h13, H⟩ := Ad H
        obtain ⟨v18, h14, h15⟩ := CE (er := Dy) g_x20.2 h13
        refine Bx (R := []) W Aa Aa (yC fun M Z hN hZ => JO (r := BL.hr) TH W Aa Aa (OS F (MW (lx := g_x20.1) 2 Aa Aa)) h14) Aa Aa fun a W => ?_
        have h16 : BL.cells v18 = [(v18.1)] := congrArg (fun q : Nat × List (Nat × List Int) => ([(v18.1)] : List Value)) h15
        refine Bx (R := [21]) W Aa Aa (yC fun M Z hN hZ => Ai (y := (v18.1)) (j := 0) (i := x18.1) (enc := BL.cells) W Aa Aa (Mm (lx := g_x20.1) (hZ ((some 21), row v16 26 BL.hr g_x20.1) (.head _) Aa) Aa) h14 BL.flat Uj (by rw [h16]; rfl)) (by kernel_rfl) Aa fun a W => ?_
        refine Bx (R := []) W Aa Aa (yC fun M Z hN hZ => Ah IY Aa Aa Aa T3 W Aa 1 Aa) Aa Aa fun a W => ?_
        refine Bx (R := [21]) W Aa Aa (yC fun M Z hN hZ => BF (cs := (CR x18)) (v := Value.int .i64 x18.2.1) W Aa (hN ((some 21), b3, (CR x18)) (.head _) Aa) T3 Aa) (by kernel_rfl) Aa fun a W => ?_
        refine Bx (R := []) W Aa Aa (yC fun M Z hN hZ => Am W Aa) Aa Aa fun a W => ?_
        refine Bx (R := []) W Aa Aa (yC fun M Z hN hZ => Ah IY Aa Aa Aa T3 W Aa 0 Aa) Aa Aa fun a W => ?_
        refine Bx (R := [19, 15, 14, 11, 10]) W Aa Aa (yC fun M Z hN hZ => BF (cs := (CR x18)) (v := Value.int .i64 x18.1) W Aa (hN ((some 19), b3, (CR x18)) (.tail _ (.head _)) Aa) T3 Aa) (by kernel_rfl) Aa fun a W => ?_
        refine Bx (R := []) W Aa Aa (yC fun M Z hN hZ => JO (r := BL.hr) TH W Aa Aa (OS F (MW (lx := g_x20.1) 2 Aa Aa)) h14) Aa Aa fun a W => ?_
        have h17 : BL.cells v18 = [(v18.1)] := congrArg (fun q : Nat × List (Nat × List Int) => ([(v18.1)] : List Value)) h15
        refine Bx (R := [19, 15, 14]) W Aa Aa (yC fun M Z hN hZ => Ai (y := (v18.1)) (j := 0) (i := x18.1) (enc := BL.cells) W Aa Aa (Mm (lx := g_x20.1) (hZ ((some 19), row v16 26 BL.hr g_x20.1) (.tail _ (.head _)) Aa) Aa) h14 BL.flat Uj (by rw [h17]; rfl)) (by kernel_rfl) Aa fun a W => ?_
        refine Bx (R := []) W Aa Aa (yC fun M Z hN hZ => Ah IY Aa Aa Aa T3 W Aa 1 Aa) Aa Aa fun a W => ?_
        refine Bx (R := [19, 15, 14]) W Aa Aa (yC fun M Z hN hZ => BF (cs := (CR x18)) (v := Value.int .i64 x18.2.1) W Aa (hN ((some 19), b3, (CR x18)) (.tail _ (.head _)) Aa) T3 Aa) (by kernel_rfl) Aa fun a W => ?_
        obtain ⟨x24, h18, H⟩ := Ad H
        obtain ⟨v19, h19, h20⟩ := CE (er := Dz) (congrArg (fun q : Nat × List (Nat × List Int) => q.2) h15) h18
        obtain ⟨x25, h21, H⟩ := Ad H
        refine Bx (R := []) W Aa Aa (yC fun M Z hN hZ => JO (r := B2.hr) T0 W Aa Aa (OS F (KN.hd (RY.dl (MC (lx := g_x20.1) 3 Aa) h14 Foc.here ((congrArg (fun q : Nat × List (Nat × List Int) => q.1) h15).trans (IG h21))))) h19) Aa Aa fun a W => ?_
        have h22 : B2.cells v19 = [(v19.1)] := congrArg (fun q : Nat × List Int => ([(v19.1)] : List Value)) h20
        refine Bx (R := [19]) W Aa Aa (yC fun M Z hN hZ => Ai (y := (v19.1)) (j := 0) (i := x18.2.1) (enc := B2.cells) W Aa Aa (KN.hd (RY.dl (Uh (lx := g_x20.1) (hZ ((some 19), EA (List.map BL.it g_x20.1)) (.tail _ (.tail _ (.head _))) Aa)) h14 Foc.here ((congrArg (fun q : Nat × List (Nat × List Int) => q.1) h15).trans (IG h21)))) h19 B2.flat Kj (by rw [h22]; rfl)) (by kernel_rfl) Aa fun a W => ?_
        refine Bx (R := []) W Aa Aa (yC fun M Z hN hZ => Ah IY Aa Aa Aa T3 W Aa 2 Aa) Aa Aa fun a W => ?_
        refine Bx (R := [18]) W Aa Aa (yC fun M Z hN hZ => BF (cs := (CR x18)) (v := Value.int .i64 x18.2.2.1) W Aa (hN ((some 18), b3, (CR x18)) (.tail _ (.tail _ (.head _))) Aa) T3 Aa) (by kernel_rfl) Aa fun a W => ?_
        refine Ea Aa ?_
        refine CQ (z := Value.int .i64 0) (cs := [.int .i64 x18.2.2.1]) (Rp.int .i64) ([x18.2.2.1] : List Int) W F Aa HT Z3 Aa Aa Aa Aa Aa Aa (Fl.int.repL _ _ ([x18.2.2.1] : List Int)) fun v20 a w W F => ?_
        refine Bj (N2 := []) (NZ2 := []) (N3 := [(some 21, b3, [.int .i64 x18.1, .int .i64 x18.2.1, .int .i64 x18.2.2.1, .int .i64 x18.2.2.2]), (some 19, b3, [.int .i64 x18.1, .int .i64 x18.2.1, .int .i64 x18.2.2.1, .int .i64 x18.2.2.2]), (some 18, b3, [.int .i64 x18.1, .int .i64 x18.2.1, .int .i64 x18.2.2.1, .int .i64 x18.2.2.2])]) (NZ3 := [(some 21, row v16 26 BL.hr g_x20.1), (some 19, row v16 26 BL.hr g_x20.1), (some 19, EA (List.map BL.it g_x20.1))]) F Aa Aa (all_cons (fun _ => (.head _)) (all_cons (fun _ => (.head _)) (all_cons (fun h => Af (by kernel_rfl) h) Aj))) (all_cons (fun _ => (.tail _ (.tail _ (.tail _ (.head _))))) (all_cons (fun _ => (.tail _ (.tail _ (.tail _ (.head _))))) (all_cons (fun _ => (.tail _ (.tail _ (.tail _ (.tail _ (.head _)))))) Aj))) ?_
        refine Ea Aa ?_
        obtain ⟨x26, h23, H⟩ := Ad H
        have F := Stw.dJoinE (lx := g_x20.1) [row v20 3 (Rp.int .i64) ([x18.2.2.1] : List Int), row v13 58 Bw x3, AF v10 46 B2 g_x19.1] F Aa
        have F : Stw ⟨Y, [], w0⟩ [(b3, (CR x18)), (b2, [.int .i64 x8.1, .int .i64 x8.2.1, (v15.2.2.1)]), (b1, (Cs p0 v1 v2 v3 v4 v5 v6))] [AF v16 26 BL g_x20.1, row v20 3 (Rp.int .i64) ([x18.2.2.1] : List Int), row v13 58 Bw x3, AF v10 46 B2 g_x19.1] w := F
        have F := F.dTakeD h14 Foc.here ((congrArg (fun q : Nat × List (Nat × List Int) => q.1) h15).trans (IG h21))
        have h24 : List.map Dy (Ag g_x20.1 x18.1 ((v18.1), 0, [])) = (Ag x20 x18.1 (0, [])) := (Hb g_x20.2 (congrArg (fun q : Nat × List (Nat × List Int) => (0, [])) h15))
        have F : Stw ⟨Y, [], w0⟩ [(b3, (CR x18)), (b2, [.int .i64 x8.1, .int .i64 x8.2.1, (v15.2.2.1)]), (b1, (Cs p0 v1 v2 v3 v4 v5 v6))] [AF (v18.1) 46 B2 (v18.2.2), AF v16 26 BL (Ag g_x20.1 x18.1 ((v18.1), 0, [])), row v20 3 (Rp.int .i64) ([x18.2.2.1] : List Int), row v13 58 Bw x3, AF v10 46 B2 g_x19.1] w := F
        have F := F.dTakeR h19 Foc.here ((congrArg (fun q : Nat × List Int => q) h20).trans (Prod.ext (IG h23) Aa))
        have h25 : List.map Dz (Ag (v18.2.2) x18.2.1 ((v19.1), 0, [])) = (Ag x23.2 x18.2.1 (0, [])) := (Hb (congrArg (fun q : Nat × List (Nat × List Int) => q.2) h15) (congrArg (fun q : Nat × List Int => (0, [])) h20))
        have F : Stw ⟨Y, [], w0⟩ [(b3, (CR x18)), (b2, [.int .i64 x8.1, .int .i64 x8.2.1, (v15.2.2.1)]), (b1, (Cs p0 v1 v2 v3 v4 v5 v6))] [row (v19.1) 3 (Rp.int .i64) x24.2, AF (v18.1) 46 B2 (Ag (v18.2.2) x18.2.1 ((v19.1), 0, [])), AF v16 26 BL (Ag g_x20.1 x18.1 ((v18.1), 0, [])), row v20 3 (Rp.int .i64) ([x18.2.2.1] : List Int), row v13 58 Bw x3, AF v10 46 B2 g_x19.1] w := F
        have F := F.frontZ (i := 2) Aa Aa
        have F := F.frontZ (i := 2) Aa Aa
        have h26 : Dy ((v18.1), 2, (Ag (v18.2.2) x18.2.1 ((v19.1), 0, []))) = (2, (Ag x23.2 x18.2.1 (0, []))) := by first | (simp only [Dy, h25]; done) | simp only [h25, ← h15]
        have F := F.dBackD (x2 := ((v18.1), 2, (Ag (v18.2.2) x18.2.1 ((v19.1), 0, [])))) h14 Foc.here Aa Aa
        have h27 : List.map Dy (Ag g_x20.1 x18.1 ((v18.1), 2, (Ag (v18.2.2) x18.2.1 ((v19.1), 0, [])))) = (Ag x20 x18.1 (2, (Ag x23.2 x18.2.1 (0, [])))) := (Hb g_x20.2 h26)
        have F : Stw ⟨Y, [], w0⟩ [(b3, (CR x18)), (b2, [.int .i64 x8.1, .int .i64 x8.2.1, (v15.2.2.1)]), (b1, (Cs p0 v1 v2 v3 v4 v5 v6))] [AF v16 26 BL (Ag g_x20.1 x18.1 ((v18.1), 2, (Ag (v18.2.2) x18.2.1 ((v19.1), 0, [])))), row (v19.1) 3 (Rp.int .i64) x24.2, row v20 3 (Rp.int .i64) ([x18.2.2.1] : List Int), row v13 58 Bw x3, AF v10 46 B2 g_x19.1] w := F
        obtain ⟨x27, h28, H⟩ := Ad H
        refine Cp (r := (Rp.int .i64)) (i := 1) W F Aa HT Aa Aa Aa Aa (Db F 2 Aa) h28 Aa fun v21 a w W F => ?_
        have F : Stw ⟨Y, [], w0⟩ [(b3, (CR x18)), (b2, [.int .i64 x8.1, .int .i64 x8.2.1, (v15.2.2.1)]), (b1, (Cs p0 v1 v2 v3 v4 v5 v6))] [row v21 3 (Rp.int .i64) x27, AF v16 26 BL (Ag g_x20.1 x18.1 ((v18.1), 2, (Ag (v18.2.2) x18.2.1 ((v19.1), 0, [])))), row v20 3 (Rp.int .i64) ([x18.2.2.1] : List Int), row v13 58 Bw x3, AF v10 46 B2 g_x19.1] w := F
        have F := F.frontZ (i := 1) Aa Aa
        have h29 : List.map BL.cells g_x20.1 = List.map BL.cells (Ag g_x20.1 x18.1 ((v18.1), 2, (Ag (v18.2.2) x18.2.1 ((v19.1), 0, [])))) := Eq.trans Aa (Eq.symm (Mk h14 Aa))
        have F := F.dSplitE g_x20.1 h29
        have F : Stw ⟨Y, [], w0⟩ [(b3, (CR x18)), (b2, [.int .i64 x8.1, .int .i64 x8.2.1, (v15.2.2.1)]), (b1, (Cs p0 v1 v2 v3 v4 v5 v6))] [row v21 3 (Rp.int .i64) x27, row v20 3 (Rp.int .i64) ([x18.2.2.1] : List Int), row v13 58 Bw x3, AF v10 46 B2 g_x19.1, row v16 26 BL.hr g_x20.1, EA (List.map BL.it (Ag g_x20.1 x18.1 ((v18.1), 2, (Ag (v18.2.2) x18.2.1 ((v19.1), 0, [])))))] w := F
        refine Bj (N2 := []) (NZ2 := []) (N3 := [(some 21, b3, [.int .i64 x18.1, .int .i64 x18.2.1, .int .i64 x18.2.2.1, .int .i64 x18.2.2.2]), (some 19, b3, [.int .i64 x18.1, .int .i64 x18.2.1, .int .i64 x18.2.2.1, .int .i64 x18.2.2.2]), (some 18, b3, [.int .i64 x18.1, .int .i64 x18.2.1, .int .i64 x18.2.2.1, .int .i64 x18.2.2.2])]) (NZ3 := [(some 21, row v16 26 BL.hr g_x20.1), (some 19, row v16 26 BL.hr g_x20.1), (some 19, EA (List.map BL.it g_x20.1))]) F Aa Aa (all_cons (fun _ => (.head _)) (all_cons (fun h => Af (by kernel_rfl) h) (all_cons (fun h => Af (by kernel_rfl) h) Aj))) (all_cons (fun _ => (.tail _ (.tail _ (.tail _ (.tail _ (.head _)))))) (all_cons (fun h => Af (by kernel_rfl) h) (all_cons (fun h => Af (by kernel_rfl) h) Aj))) ?_
        obtain ⟨x28, h30, H⟩ := Ad H
        obtain ⟨v22, h31, h32⟩ := CE (er := Dz) h25 h30
        refine Bx (R := []) W Aa Aa (yC fun M Z hN hZ => JO (r := B2.hr) T0 W Aa Aa (OS F (KN.hd (RY.dl (MC (lx := (Ag g_x20.1 x18.1 ((v18.1), 2, (Ag (v18.2.2) x18.2.1 ((v19.1), 0, []))))) 5 Aa) (Ib h14) Foc.here Aa))) h31) Aa Aa fun a W => ?_
        refine Ea Aa ?_
        have F := Stw.dJoinE (lx := (Ag g_x20.1 x18.1 ((v18.1), 2, (Ag (v18.2.2) x18.2.1 ((v19.1), 0, []))))) [row v21 3 (Rp.int .i64) x27, row v20 3 (Rp.int .i64) ([x18.2.2.1] : List Int), row v13 58 Bw x3, AF v10 46 B2 g_x19.1] F h29
        have F : Stw ⟨Y, [], w0⟩ [(b3, (CR x18)), (b2, [.int .i64 x8.1, .int .i64 x8.2.1, (v15.2.2.1)]), (b1, (Cs p0 v1 v2 v3 v4 v5 v6))] [AF v16 26 BL (Ag g_x20.1 x18.1 ((v18.1), 2, (Ag (v18.2.2) x18.2.1 ((v19.1), 0, [])))), row v21 3 (Rp.int .i64) x27, row v20 3 (Rp.int .i64) ([x18.2.2.1] : List Int), row v13 58 Bw x3, AF v10 46 B2 g_x19.1] w := F
        have F := F.dTakeD (Ib h14) Foc.here Aa
        have h33 : List.map Dy (Ag (Ag g_x20.1 x18.1 ((v18.1), 2, (Ag (v18.2.2) x18.2.1 ((v19.1), 0, [])))) x18.1 ((v18.1), 0, [])) = (Ag (Ag x20 x18.1 (2, (Ag x23.2 x18.2.1 (0, [])))) x18.1 (0, [])) := (Hb h27 (congrArg (fun q : Nat × List (Nat × List Int) => (0, [])) h26))
        have F : Stw ⟨Y, [], w0⟩ [(b3, (CR x18)), (b2, [.int .i64 x8.1, .int .i64 x8.2.1, (v15.2.2.1)]), (b1, (Cs p0 v1 v2 v3 v4 v5 v6))] [AF (v18.1) 46 B2 (Ag (v18.2.2) x18.2.1 ((v19.1), 0, [])), AF v16 26 BL (Ag (Ag g_x20.1 x18.1 ((v18.1), 2, (Ag (v18.2.2) x18.2.1 ((v19.1), 0, [])))) x18.1 ((v18.1), 0, [])), row v21 3 (Rp.int .i64) x27, row v20 3 (Rp.int .i64) ([x18.2.2.1] : List Int), row v13 58 Bw x3, AF v10 46 B2 g_x19.1] w := F
        have h34 : Value.oneCell' v21 = true := (F.one (k := 2) Aa)
        have F := F.frontZ (i := 2) Aa Aa
        have F := F.toR
        refine Lg (D := B2) (S := (Dp.sl 3 (Rp.int .i64))) (b := (v21, 2, x27)) (i := x18.2.1) (j := 0) Foc.here W F Aa Aa Aa h31 Kj (BD h34) Aa h34 Aa fun w F => ?_
        have h35 : List.map Dz (Ag (Ag (v18.2.2) x18.2.1 ((v19.1), 0, [])) x18.2.1 (v21, 2, x27)) = (Ag (Ag x23.2 x18.2.1 (0, [])) x18.2.1 (2, x27)) := (Hb h25 (congrArg (fun q : Nat × List Int => (2, x27)) h32))
        have F : Stw ⟨Y, [], w0⟩ [(b3, (CR x18)), (b2, [.int .i64 x8.1, .int .i64 x8.2.1, (v15.2.2.1)]), (b1, (Cs p0 v1 v2 v3 v4 v5 v6))] [AF (v18.1) 46 B2 (Ag (Ag (v18.2.2) x18.2.1 ((v19.1), 0, [])) x18.2.1 (v21, 2, x27)), AF v16 26 BL (Ag (Ag g_x20.1 x18.1 ((v18.1), 2, (Ag (v18.2.2) x18.2.1 ((v19.1), 0, [])))) x18.1 ((v18.1), 0, [])), row v20 3 (Rp.int .i64) ([x18.2.2.1] : List Int), row v13 58 Bw x3, AF v10 46 B2 g_x19.1] w := F
        have F := F.frontZ (i := 1) Aa Aa
        have F := F.frontZ (i := 1) Aa Aa
        have h36 : Dy ((v18.1), 2, (Ag (Ag (v18.2.2) x18.2.1 ((v19.1), 0, [])) x18.2.1 (v21, 2, x27))) = (2, (Ag (Ag x23.2 x18.2.1 (0, [])) x18.2.1 (2, x27))) := by first | (simp only [Dy, h35]; done) | simp only [h35, ← h26]
        have F := F.dBackD (x2 := ((v18.1), 2, (Ag (Ag (v18.2.2) x18.2.1 ((v19.1), 0, [])) x18.2.1 (v21, 2, x27)))) (Ib h14) Foc.here Aa Aa
        have h37 : List.map Dy (Ag (Ag g_x20.1 x18.1 ((v18.1), 2, (Ag (v18.2.2) x18.2.1 ((v19.1), 0, [])))) x18.1 ((v18.1), 2, (Ag (Ag (v18.2.2) x18.2.1 ((v19.1), 0, [])) x18.2.1 (v21, 2, x27)))) = (Ag (Ag x20 x18.1 (2, (Ag x23.2 x18.2.1 (0, [])))) x18.1 (2, (Ag (Ag x23.2 x18.2.1 (0, [])) x18.2.1 (2, x27)))) := (Hb h27 h36)
        have F : Stw ⟨Y, [], w0⟩ [(b3, (CR x18)), (b2, [.int .i64 x8.1, .int .i64 x8.2.1, (v15.2.2.1)]), (b1, (Cs p0 v1 v2 v3 v4 v5 v6))] [AF v16 26 BL (Ag (Ag g_x20.1 x18.1 ((v18.1), 2, (Ag (v18.2.2) x18.2.1 ((v19.1), 0, [])))) x18.1 ((v18.1), 2, (Ag (Ag (v18.2.2) x18.2.1 ((v19.1), 0, [])) x18.2.1 (v21, 2, x27)))), row v20 3 (Rp.int .i64) ([x18.2.2.1] : List Int), row v13 58 Bw x3, AF v10 46 B2 g_x19.1] w := F
        have h38 : List.map BL.cells g_x20.1 = List.map BL.cells (Ag (Ag g_x20.1 x18.1 ((v18.1), 2, (Ag (v18.2.2) x18.2.1 ((v19.1), 0, [])))) x18.1 ((v18.1), 2, (Ag (Ag (v18.2.2) x18.2.1 ((v19.1), 0, [])) x18.2.1 (v21, 2, x27)))) := Eq.trans h29 (Eq.symm (Mk (Ib h14) Aa))
        have F := F.dSplitE g_x20.1 h38
        have F : Stw ⟨Y, [], w0⟩ [(b3, (CR x18)), (b2, [.int .i64 x8.1, .int .i64 x8.2.1, (v15.2.2.1)]), (b1, (Cs p0 v1 v2 v3 v4 v5 v6))] [row v20 3 (Rp.int .i64) ([x18.2.2.1] : List Int), row v13 58 Bw x3, AF v10 46 B2 g_x19.1, row v16 26 BL.hr g_x20.1, EA (List.map BL.it (Ag (Ag g_x20.1 x18.1 ((v18.1), 2, (Ag (v18.2.2) x18.2.1 ((v19.1), 0, [])))) x18.1 ((v18.1), 2, (Ag (Ag (v18.2.2) x18.2.1 ((v19.1), 0, [])) x18.2.1 (v21, 2, x27)))))] w := F
        refine Bj (N2 := []) (NZ2 := []) (N3 := [(some 21, b3, [.int .i64 x18.1, .int .i64 x18.2.1, .int .i64 x18.2.2.1, .int .i64 x18.2.2.2]), (some 19, b3, [.int .i64 x18.1, .int .i64 x18.2.1, .int .i64 x18.2.2.1, .int .i64 x18.2.2.2]), (some 18, b3, [.int .i64 x18.1, .int .i64 x18.2.1, .int .i64 x18.2.2.1, .int .i64 x18.2.2.2])]) (NZ3 := [(some 21, row v16 26 BL.hr g_x20.1), (some 19, row v16 26 BL.hr g_x20.1), (some 19, EA (List.map BL.it g_x20.1))]) F Aa Aa (all_cons (fun h => Af (by kernel_rfl) h) (all_cons (fun h => Af (by kernel_rfl) h) (all_cons (fun h => Af (by kernel_rfl) h) Aj))) (all_cons (fun h => Af (by kernel_rfl) h) (all_cons (fun h => Af (by kernel_rfl) h) (all_cons (fun h => Af (by kernel_rfl) h) Aj))) ?_
        refine Gz ?_
        have F := Stw.dJoinE (lx := (Ag (Ag g_x20.1 x18.1 ((v18.1), 2, (Ag (v18.2.2) x18.2.1 ((v19.1), 0, [])))) x18.1 ((v18.1), 2, (Ag (Ag (v18.2.2) x18.2.1 ((v19.1), 0, [])) x18.2.1 (v21, 2, x27))))) [row v20 3 (Rp.int .i64) ([x18.2.2.1] : List Int), row v13 58 Bw x3, AF v10 46 B2 g_x19.1] F h38
        have F : Stw ⟨Y, [], w0⟩ [(b3, (CR x18)), (b2, [.int .i64 x8.1, .int .i64 x8.2.1, (v15.2.2.1)]), (b1, (Cs p0 v1 v2 v3 v4 v5 v6))] [AF v16 26 BL (Ag (Ag g_x20.1 x18.1 ((v18.1), 2, (Ag (v18.2.2) x18.2.1 ((v19.1), 0, [])))) x18.1 ((v18.1), 2, (Ag (Ag (v18.2.2) x18.2.1 ((v19.1), 0, [])) x18.2.1 (v21, 2, x27)))), row v20 3 (Rp.int .i64) ([x18.2.2.1] : List Int), row v13 58 Bw x3, AF v10 46 B2 g_x19.1] w := F
        refine Ac ?_
        refine LB 10 F MO (by kernel_rfl) ?_
        refine qs W Aa (Am W Aa).q fun a W => ?_
        refine qs W Aa (Ah IY Aa Aa Aa T3 W Aa 0 Aa).q fun a W => ?_
        refine qs W Aa (A4 (v := Value.int .i64 x18.1) 0 W Aa Aa T3 Aa).q fun a W => ?_
        obtain ⟨x29, h39, H⟩ := Ad H
        obtain ⟨v23, h40, h41⟩ := CE (er := Dz) g_x19.2 h39
        refine qs W Aa (Aw (r := B2.hr) LF W Aa Aa (KN.hd (GK 3 Aa)) h40).q fun a W => ?_
        have h42 : B2.cells v23 = [(v23.1)] := congrArg (fun q : Nat × List Int => ([(v23.1)] : List Value)) h41
        refine qs W Aa (Ai (y := (v23.1)) (j := 0) (i := x18.1) (enc := B2.cells) W Aa Aa (KN.hd (GK 3 Aa)) h40 B2.flat Kj (by rw [h42]; rfl)).q fun a W => ?_
        refine qs W Aa (Ah IY Aa Aa Aa T3 W Aa 1 Aa).q fun a W => ?_
        refine qs W Aa (A4 (v := Value.int .i64 x18.2.1) 0 W Aa Aa T3 Aa).q fun a W => ?_
        refine qs W Aa (Ah IY Aa Aa Aa T3 W Aa 2 Aa).q fun a W => ?_
        refine qs W Aa (A4 (v := Value.int .i64 x18.2.2.1) 0 W Aa Aa T3 Aa).q fun a W => ?_
        obtain ⟨x30, h43, H⟩ := Ad H
        obtain ⟨x31, h44, H⟩ := Ad H
        refine qs W Aa (Aw (r := (Rp.int .i64)) HT W Aa Aa (KN.sl (k := x29.1) (l := x29.2) (GK 3 Aa) h40 Foc.here (congrArg (fun q : Nat × List Int => q) h41) (Ry h44)) h43).q fun a W => ?_
        refine A9 fun w F => ?_
        obtain ⟨x32, h45, H⟩ := Ad H
        have F := F.frontZ (i := 3) Aa Aa
        have F := F.dTakeR h40 Foc.here ((congrArg (fun q : Nat × List Int => q) h41).trans (Prod.ext (IG h45) Aa))
        have h46 : List.map Dz (Ag g_x19.1 x18.1 ((v23.1), 0, [])) = (Ag x19 x18.1 (0, [])) := (Hb g_x19.2 (congrArg (fun q : Nat × List Int => (0, [])) h41))
        have F : Stw ⟨Y, [], w0⟩ [(b3, (CR x18)), (b2, [.int .i64 x8.1, .int .i64 x8.2.1, (v15.2.2.1)]), (b1, (Cs p0 v1 v2 v3 v4 v5 v6))] [row (v23.1) 3 (Rp.int .i64) x29.2, AF v10 46 B2 (Ag g_x19.1 x18.1 ((v23.1), 0, [])), AF v16 26 BL (Ag (Ag g_x20.1 x18.1 ((v18.1), 2, (Ag (v18.2.2) x18.2.1 ((v19.1), 0, [])))) x18.1 ((v18.1), 2, (Ag (Ag (v18.2.2) x18.2.1 ((v19.1), 0, [])) x18.2.1 (v21, 2, x27)))), row v20 3 (Rp.int .i64) ([x18.2.2.1] : List Int), row v13 58 Bw x3] w := F
        refine Lp (i := x18.2.1) (j := 0) (vs := [.int .i64 x18.2.2.1]) (x' := x18.2.2.1) W F Aa Aa Aa (k := 0) Aa Aa h43 T3 Aa Aa Aa Aa (fun A cs _ => Fl.int.sto (by rfl) _ _ _) fun w F => ?_
        have F := F.frontZ (i := 1) Aa Aa
        have F := F.frontZ (i := 1) Aa Aa
        have F := F.dBackR (x2 := ((v23.1), 2, (Ag x29.2 x18.2.1 x18.2.2.1))) h40 Foc.here Aa Aa
        have h47 : List.map Dz (Ag g_x19.1 x18.1 ((v23.1), 2, (Ag x29.2 x18.2.1 x18.2.2.1))) = (Ag x19 x18.1 (2, (Ag x29.2 x18.2.1 x18.2.2.1))) := (Hb g_x19.2 (congrArg (fun q : Nat × List Int => (2, (Ag x29.2 x18.2.1 x18.2.2.1))) h41))
        have F : Stw ⟨Y, [], w0⟩ [(b3, (CR x18)), (b2, [.int .i64 x8.1, .int .i64 x8.2.1, (v15.2.2.1)]), (b1, (Cs p0 v1 v2 v3 v4 v5 v6))] [AF v10 46 B2 (Ag g_x19.1 x18.1 ((v23.1), 2, (Ag x29.2 x18.2.1 x18.2.2.1))), AF v16 26 BL (Ag (Ag g_x20.1 x18.1 ((v18.1), 2, (Ag (v18.2.2) x18.2.1 ((v19.1), 0, [])))) x18.1 ((v18.1), 2, (Ag (Ag (v18.2.2) x18.2.1 ((v19.1), 0, [])) x18.2.1 (v21, 2, x27)))), row v20 3 (Rp.int .i64) ([x18.2.2.1] : List Int), row v13 58 Bw x3] w := F
        refine EF (Aq (Ac ?_))
        have F := F.frontZ (i := 1) Aa Aa
        have F := F.frontZ (i := 1) Aa Aa
        have F := F.frontZ (i := 3) Aa Aa
        have F := F.frontM (i := 2) Aa Aa
        have F := F.frontM (i := 2) Aa Aa
        have F := F.sub (M' := [(b2, [.int .i64 x8.1, .int .i64 x8.2.1, (v15.2.2.1)]), (b1, (Cs p0 v1 v2 v3 v4 v5 v6))]) (Z' := [row v13 58 Bw x3, AF v10 46 B2 (Ag g_x19.1 x18.1 ((v23.1), 2, (Ag x29.2 x18.2.1 x18.2.2.1))), AF v16 26 BL (Ag (Ag g_x20.1 x18.1 ((v18.1), 2, (Ag (v18.2.2) x18.2.1 ((v19.1), 0, [])))) x18.1 ((v18.1), 2, (Ag (Ag (v18.2.2) x18.2.1 ((v19.1), 0, [])) x18.2.1 (v21, 2, x27))))]) (List.Sublist.cons_cons _ (List.Sublist.cons_cons _ (List.nil_sublist _))) (List.Sublist.cons_cons _ (List.Sublist.cons_cons _ (List.Sublist.cons_cons _ (List.nil_sublist _))))
        exact ⟨_, _, ⟨(Ag g_x19.1 x18.1 ((v23.1), 2, (Ag x29.2 x18.2.1 x18.2.2.1))), h47⟩, ⟨(Ag (Ag g_x20.1 x18.1 ((v18.1), 2, (Ag (v18.2.2) x18.2.1 ((v19.1), 0, [])))) x18.1 ((v18.1), 2, (Ag (Ag (v18.2.2) x18.2.1 ((v19.1), 0, [])) x18.2.1 (v21, 2, x27)))), h37⟩, H, W.ra Aa, F⟩
       refine AD (Aq (Ac ?_))
       have F := F.frontZ (i := 2) Aa Aa
       have F := F.frontZ (i := 2) Aa Aa
       have F := F.frontZ (i := 2) Aa Aa
       have F := F.frontM (i := 2) Aa Aa
       have F := F.frontM (i := 2) Aa Aa
       have F := F.sub (M' := [(b2, [.int .i64 x8.1, .int .i64 x8.2.1, (v15.2.2.1)]), (b1, (Cs p0 v1 v2 v3 v4 v5 v6))]) (Z' := [row v13 58 Bw x3, AF v10 46 B2 g_x19.1, AF v16 26 BL g_x20.1]) (List.Sublist.cons_cons _ (List.Sublist.cons_cons _ (List.nil_sublist _))) (List.Sublist.refl _)
       exact ⟨_, _, ⟨g_x19.1, g_x19.2⟩, ⟨g_x20.1, g_x20.2⟩, H, W.ra Aa, F⟩
      rintro a w ⟨x16, x17, g_x16, g_x17, hj, W, F⟩
      have hj := AA hj
      subst hj
      have H := K6
      clear G6 K6
      refine vc tk 4 W F fun a w W F => ?_
      refine Ac ?_
      have F := F.frontZ (i := 2) Aa Aa
      have F := F.frontZ (i := 2) Aa Aa
      have F := F.frontZ (i := 2) Aa Aa
      have F := F.frontM (i := 1) Aa Aa
      have F := F.frontM (i := 1) Aa Aa
      exact ⟨_, H, ⟨g_x16.1, g_x16.2⟩, ⟨g_x17.1, g_x17.2⟩, W.ra Aa, F⟩
     refine AJ ?_
     iterate 2 refine A6 ?_
     refine AM (Ac ?_)
     have F := F.frontZ (i := 2) Aa Aa
     have F := F.frontZ (i := 2) Aa Aa
     have F := F.frontZ (i := 2) Aa Aa
     have F := F.frontM (i := 1) Aa Aa
     have F := F.frontM (i := 1) Aa Aa
     have H := L5 _ H
     exact ⟨_, _, ⟨g_x13.1, g_x13.2⟩, ⟨g_x14.1, g_x14.2⟩, H, W.ra Aa, F⟩
    rintro a w ⟨x11, x12, g_x11, g_x12, hj, W, F⟩
    have hj := AA hj
    subst hj
    have H := K4
    clear G4 K4
    refine Ha tk 5 [1] W F (ai fun a w W F => ?_)
    refine ls W F Aa (A0 (r := GE) (l := p0.1.2.2) Ni Aa W Aa (Ab h_v2)).q fun a w W F => ?_
    refine Cc tk 4 W F fun a w W F => ?_
    have F := F.frontZ (i := 2) Aa Aa
    have F := F.frontZ (i := 2) Aa Aa
    have F := F.frontZ (i := 2) Aa Aa
    have F := F.frontM (i := 1) Aa Aa
    have F := F.frontM (i := 1) Aa Aa
    refine AP H (fun s a w => ∃ v24 : Value, Fr 90 [] [(1, .pointer (some ⟨b1, 0, none⟩)), (2, .slice none 0 0), (3, v24), (4, v10), (5, .int .i64 x5), (7, v16), (16, v6), (17, .int .i64 (p0.2.2.2.2.1.length : Int)), (18, .int .i64 x5), (76, .int .i64 (p0.1.2.2.length : Int)), (77, .int .i64 s.2)] a ∧ Stw ⟨Y, [], w0⟩ [(b2, [.int .i64 x8.1, .int .i64 x8.2.1, (v15.2.2.1)]), (b1, (Cs p0 v1 v2 v3 v4 v5 v6))] [row v24 58 Bw s.1, AF v10 46 B2 g_x11.1, AF v16 26 BL g_x12.1] w) ⟨(v13), W.ra Aa, F⟩ fun s o a w H L8 hR => ?_
    obtain ⟨x33, x34⟩ := s
    obtain ⟨v24, W, F⟩ := hR
    have W : Fr 90 [] [(1, .pointer (some ⟨b1, 0, none⟩)), (2, .slice none 0 0), (3, v24), (4, v10), (5, .int .i64 x5), (7, v16), (16, v6), (17, .int .i64 (p0.2.2.2.2.1.length : Int)), (18, .int .i64 x5), (76, .int .i64 (p0.1.2.2.length : Int)), (77, .int .i64 x34)] a := W
    have F : Stw ⟨Y, [], w0⟩ [(b2, [.int .i64 x8.1, .int .i64 x8.2.1, (v15.2.2.1)]), (b1, (Cs p0 v1 v2 v3 v4 v5 v6))] [row v24 58 Bw x33, AF v10 46 B2 g_x11.1, AF v16 26 BL g_x12.1] w := F
    rw [A2] at H
    refine vc tk 6 W F fun a w W F => ?_
    refine A3 W Aa H (fun W H => ?_) fun W H => ?_
    ·
     refine MY tk 16 [1] W F (ai fun a w W F => ?_)
     obtain ⟨x35, h48, H⟩ := Ad H
     obtain ⟨x36, h49, H⟩ := Ad H
     refine CJ (Ml := []) (Zl := []) (β := Value) (rv := fun x => x) (MM := fun x => []) (ZZ := fun x => [row x 58 Bw x36]) W F VJ Aa Aa (fun hL => H7 _ w (v1) (v2) (v3) (v4) (v5) (v6) (v16) p0 x35 x5 x34 _ h49 ((Ab h_v1) w F).nx ((Ab h_v2) w F).nx ((Ak Bn h1 (Ab h_v3)) w F).nx ((Ak Bn h2 (Ab h_v4)) w F).nx ((Ab h_v5) w F).nx ((Ak Fj h3 (Ab h_v6)) w F).nx ((KN.plain U9 g_x12.2 h48 (GK 2 Aa)) w F).nx) fun x a w W F => ?_
     obtain ⟨v25, rfl⟩ : ∃ y, y = x := ⟨x, rfl⟩
     have F : Stw ⟨Y, [], w0⟩ [(b2, [.int .i64 x8.1, .int .i64 x8.2.1, (v15.2.2.1)]), (b1, (Cs p0 v1 v2 v3 v4 v5 v6))] [row v25 58 Bw x36, row v24 58 Bw x33, AF v10 46 B2 g_x11.1, AF v16 26 BL g_x12.1] w := F
     obtain ⟨x37, h50, H⟩ := Ad H
     refine Cp (r := Bw) (i := 1) W F Aa Nm Aa Aa Aa Aa (Db F 0 Aa) h50 Aa fun v26 a w W F => ?_
     have F : Stw ⟨Y, [], w0⟩ [(b2, [.int .i64 x8.1, .int .i64 x8.2.1, (v15.2.2.1)]), (b1, (Cs p0 v1 v2 v3 v4 v5 v6))] [row v26 58 Bw x37, row v25 58 Bw x36, AF v10 46 B2 g_x11.1, AF v16 26 BL g_x12.1] w := F
     refine vl tk 2 W F fun a w W F => ?_
     refine Aq ?_
     refine vn tk 4 W F fun a w W F => ?_
     refine Ac ?_
     have F := F.frontZ (i := 3) Aa Aa
     have F := F.frontZ (i := 3) Aa Aa
     have F := F.frontZ (i := 2) Aa Aa
     have F := F.frontM (i := 1) Aa Aa
     have F := F.frontM (i := 1) Aa Aa
     have F := F.sub (M' := [(b2, [.int .i64 x8.1, .int .i64 x8.2.1, (v15.2.2.1)]), (b1, (Cs p0 v1 v2 v3 v4 v5 v6))]) (Z' := [row v26 58 Bw x37, AF v10 46 B2 g_x11.1, AF v16 26 BL g_x12.1]) (List.Sublist.refl _) (List.Sublist.cons_cons _ (List.Sublist.cons_cons _ (List.Sublist.cons_cons _ (List.nil_sublist _))))
     exact ⟨_, H, (v26), W.ra Aa, F⟩
    refine AJ ?_
    iterate 2 refine A6 ?_
    refine AM (Aq (Ac ?_))
    have F := F.frontZ (i := 1) Aa Aa
    have F := F.frontZ (i := 1) Aa Aa
    have F := F.frontM (i := 1) Aa Aa
    have F := F.sub (M' := (BP b1 p0 v1 v2 v3 v4 v5 v6)) (Z' := [row v24 58 Bw x33, AF v10 46 B2 g_x11.1]) (List.Sublist.cons_cons _ (List.nil_sublist _)) (List.Sublist.cons_cons _ (List.Sublist.cons_cons _ (List.nil_sublist _)))
    have H := L8 _ H
    exact ⟨_, _, (v24), ⟨g_x11.1, g_x11.2⟩, H, W.ra Aa, F⟩
   rintro a w ⟨x6, x7, v14, g_x7, hj, W, F⟩
   have hj := AA hj
   subst hj
   have H := K3
   clear G3 K3
   refine vc tk 4 W F fun a w W F => ?_
   refine Ac ?_
   have F := F.frontZ (i := 1) Aa Aa
   have F := F.frontZ (i := 1) Aa Aa
   exact ⟨_, H, (v14), ⟨g_x7.1, g_x7.2⟩, W.ra Aa, F⟩
  refine AJ ?_
  iterate 2 refine A6 ?_
  refine AM (Ac ?_)
  have F := F.sub (M' := (BP b1 p0 v1 v2 v3 v4 v5 v6)) (Z' := [row v13 58 Bw x3]) (List.Sublist.refl _) (List.Sublist.cons_cons _ (List.nil_sublist _))
  have H := L2 _ H
  exact ⟨_, (v13), H, W.ra Aa, F⟩
 rintro a w ⟨x2, v12, hj, W, F⟩
 have hj := AA hj
 subst hj
 have H := K1
 clear G1 K1
 refine vc tk 6 W F fun a w W F => ?_
 refine Ao ?_
 have H := AA H
 subst H
 refine AG (.inl Aa) W F Aa (Al W Aa) ?_
 have F := F.sub (M' := []) (Z' := [row v12 58 Bw x2]) (List.nil_sublist _) (List.Sublist.refl _)
 exact ⟨(v12), Aa, F⟩
theorem SE : type_of% Try.underlying74 := Try.underlying74
theorem WU : Has Try.prog 21 := Ct Try.func21
theorem V3 : (Try.prog.info? 35).bind (·.zero) = some (.slice none 0 0) := by kernel_rfl
theorem Ve : Et Try.prog 74 35 1 24 := Et.of SE (by kernel_rfl) (by kernel_rfl) (by kernel_rfl) (by decide)
abbrev Vi (p : Value × List (Int × Int × Int)) : List (Int × Int × Int) := p.2
theorem Ti : Ex (Rp.slice Bw) (Rp.vsl Bw) Vi := Ex.sliceF
abbrev Qc (a : Value × List (Int × Int × Int)) : List Value := [a.1]
theorem Ur : GB (Rp.vsl Bw) Qc := GB.vsl
theorem VD : Ty Try.prog 35 false 1 := ⟨by kernel_rfl, by kernel_rfl⟩
theorem I9 : (Try.prog.underlying 9).map (fun d => match d with | .interface _ => true | _ => false) = some false := by kernel_rfl
noncomputable def AB (p1 : Int) : Option (List (Int × Int × Int)) := (if p1 < 0 then none else (if 0 < (A7 (p1 - (A7 (0 - (([] : List (Int × Int × Int)).length : Int))))) then (JY ([] : List (Int × Int × Int)) 0 0).bind fun x2 => (Uv 0 (A7 (p1 - (A7 (0 - (([] : List (Int × Int × Int)).length : Int))))).toNat).bind fun x3 => (mk (A7 (p1 - (A7 (0 - (([] : List (Int × Int × Int)).length : Int))))) ((0, 0, 0) : Int × Int × Int)).bind fun x4 => (JY x4 0 (([] : List (Int × Int × Int)).length : Int)).bind fun x5 => some x5 else some ([])).bind fun x1 => some x1)
theorem DZ (Y : Nat → Prop) (w0 : World)  (p1 : Int) (r : (List (Int × Int × Int))) (H : AB p1 = some r)  :
    Calls Try.prog 31 #[.slice none 0 0, .int .i64 p1] w0 fun e w' => ∃ x : Value, e = .returned (x) ∧ Stw ⟨Y, [], w0⟩ [] [row (x) 58 Bw r] w' := by
 refine enter Try.func31 Aa Try.ntmps31 Aa fun a W => ?_
 have F := Stw.start Y w0
 unfold AB at H
 refine vc tk 12 W F fun a w W F => ?_
 refine A3 W Aa H (fun W H => ?_) fun W H => ?_
 ·
  refine Ln ?_
  refine ls W F Aa (Kt I9 W Aa).q fun a w W F => ?_
  exact nomatch H
 refine AD (Ac ?_)
 obtain ⟨o1, G1, K1⟩ := Ad H
 refine Av (fun a w => ∃ x1 : List (Int × Int × Int), ∃ v1 : Value, some (x1) = some o1 ∧ Fr 27 [] [(0, v1), (4, .slice none 0 0)] a ∧ Stw ⟨Y, [], w0⟩ [] [row v1 58 Bw x1] w) ?_ ?_
 ·
  have H := G1
  clear G1 K1
  refine vc tk 4 W F fun a w W F => ?_
  refine ls W F Aa (Qr Mp Aa W Aa).q fun a w W F => ?_
  refine ls W F Aa (Am W Aa).q fun a w W F => ?_
  refine ls W F Aa (A0 (r := Bw) (l := ([] : List (Int × Int × Int))) Mp Aa W Aa Mu).q fun a w W F => ?_
  refine Cc tk 11 W F fun a w W F => ?_
  refine A3 W Aa H (fun W H => ?_) fun W H => ?_
  ·
   refine vc tk 3 W F fun a w W F => ?_
   refine ls W F Aa (Qr Mp Aa W Aa).q fun a w W F => ?_
   obtain ⟨x2, h1, H⟩ := Ad H
   refine ls W F Aa (O1 (r := Bw) Nm W Aa Aa Aa Mu h1).q fun a w W F => ?_
   refine ls W F Aa (Am W Aa).q fun a w W F => ?_
   obtain ⟨x3, h2, H⟩ := Ad H
   obtain ⟨x4, h3, H⟩ := Ad H
   refine Om (r := Bw) ((0, 0, 0) : Int × Int × Int) W F Aa Nm Tb Rf Aa Aa (ST h2) (fun w A => SA.mk' w A ((0, 0, 0) : Int × Int × Int)) h3 Aa fun v2 a w W F => ?_
   have F : Stw ⟨Y, [], w0⟩ [] [row v2 58 Bw x4] w := F
   refine ls W F Aa (Am W Aa).q fun a w W F => ?_
   refine ls W F Aa (A0 (r := Bw) (l := ([] : List (Int × Int × Int))) Mp Aa W Aa Mu).q fun a w W F => ?_
   obtain ⟨x5, h4, H⟩ := Ad H
   refine ls W F Aa (O1 (r := Bw) Nm W Aa Aa Aa (CY 0 Aa) h4).q fun a w W F => ?_
   refine vl tk 2 W F fun a w W F => ?_
   refine Ac ?_
   have F := F.subRow (k := 0) Aa Aa h4
   exact ⟨_, ((EH v2 (0 : Int) (([] : List (Int × Int × Int)).length : Int) 3)), H, W.ra Aa, F⟩
  refine AD (Ac ?_)
  have F := F.nilRow 58 Bw
  exact ⟨_, (Value.slice none 0 0), H, W.ra Aa, F⟩
 rintro a w ⟨x1, v1, hj, W, F⟩
 have hj := AA hj
 subst hj
 have H := K1
 clear G1 K1
 refine vc tk 6 W F fun a w W F => ?_
 refine Ao ?_
 have H := AA H
 subst H
 refine AG (.inl Aa) W F Aa (Al W Aa) ?_
 exact ⟨(v1), Aa, F⟩
theorem Wb : Has Try.prog 31 := Ct Try.func31
noncomputable def As (p0 : List (List (Int × Int × Int))) : (Int × Int) → Option ((Int × Int) ⊕ Int)
  | (x2, x3) => (if x3 < (p0.length : Int) then (ix p0 x3).bind fun x4 => (if (A7 (x2 + (x4.length : Int))) < 0 then none else some (.inl (A7 (x2 + (x4.length : Int)), A7 (x3 + 1)))) else some (.inr x2))
noncomputable def Au (p0 : List (List (Int × Int × Int))) : ((List (Int × Int × Int)) × Int) → Option (((List (Int × Int × Int)) × Int) ⊕ (List (Int × Int × Int)))
  | (x7, x8) => (if x8 < (p0.length : Int) then (ix p0 x8).bind fun x9 => (FD x7 x9).bind fun x10 => some (.inl (x10, A7 (x8 + 1))) else some (.inr x7))
noncomputable def Ay (p0 : List (List (Int × Int × Int))) : Option (List (Int × Int × Int)) := (An (As p0) (0, 0)).bind fun x1 => (AB x1).bind fun x5 => (An (Au p0) (x5, 0)).bind fun x6 => some x6
theorem DK (Y : Nat → Prop) (w0 : World) (v1 : Value) (p0 : List (List (Int × Int × Int))) (r : (List (Int × Int × Int))) (H : Ay p0 = some r) (s_v1 : Sl w0 Y (Rp.slice Bw) v1 p0) :
    Calls Try.prog 17 #[v1] w0 fun e w' => ∃ x : Value, e = .returned (x) ∧ Stw ⟨Y, [], w0⟩ [] [row (x) 58 Bw r] w' := by
 refine enter Try.func17 Aa Try.ntmps17 Aa fun a W => ?_
 have F := Stw.start Y w0
 obtain ⟨v2, h1, s_v1⟩ := s_v1.ex Ti
 have h_v1 := F.nx s_v1
 unfold Ay at H
 refine vc tk 10 W F fun a w W F => ?_
 obtain ⟨o1, G1, K1⟩ := Ad H
 refine Av (fun a w => ∃ x1 : Int, some (x1) = some o1 ∧ Fr 36 [] [(0, v1), (2, .slice none 0 0), (3, .int .i64 x1)] a ∧ Stw ⟨Y, [], w0⟩ [] [] w) ?_ ?_
 ·
  have H := G1
  clear G1 K1
  refine vc tk 3 W F fun a w W F => ?_
  refine ls W F Aa (A0 (r := (Rp.slice Bw)) (l := p0) SE Aa W Aa (Ak Ti h1 (Ab h_v1))).q fun a w W F => ?_
  refine Cc tk 4 W F fun a w W F => ?_
  refine AP H (fun s a w => Fr 36 [] [(0, v1), (2, .slice none 0 0), (3, .int .i64 s.1), (9, v1), (10, .int .i64 (p0.length : Int)), (11, .int .i64 s.2)] a ∧ Stw ⟨Y, [], w0⟩ [] [] w) ⟨W.ra Aa, F⟩ fun s o a w H L2 hR => ?_
  obtain ⟨x2, x3⟩ := s
  obtain ⟨W, F⟩ := hR
  have W : Fr 36 [] [(0, v1), (2, .slice none 0 0), (3, .int .i64 x2), (9, v1), (10, .int .i64 (p0.length : Int)), (11, .int .i64 x3)] a := W
  have F : Stw ⟨Y, [], w0⟩ [] [] w := F
  rw [As] at H
  refine vc tk 6 W F fun a w W F => ?_
  refine A3 W Aa H (fun W H => ?_) fun W H => ?_
  ·
   refine Ie tk 6 W F fun a w W F => ?_
   obtain ⟨x4, h2, H⟩ := Ad H
   obtain ⟨v3, h3, h4⟩ := CE h1 h2
   have h5 : Qc v3 = [(v3.1)] := congrArg (fun q : List (Int × Int × Int) => ([(v3.1)] : List Value)) h4
   refine ls W F Aa (Aw (r := (Rp.vsl Bw)) Ve W Aa Aa (Ab h_v1) h3).q fun a w W F => ?_
   refine ls W F Aa (Ai (y := (v3.1)) (j := 0) (i := x3) (enc := Qc) W Aa Aa (Ab h_v1) h3 Ur VD (by rw [h5]; rfl)).q fun a w W F => ?_
   refine Cc tk 7 W F fun a w W F => ?_
   refine ls W F Aa (A0 (r := Bw) (l := x4) Mp Aa W Aa (BE (Ab h_v1) h3 Cd.here (congrArg (fun q : List (Int × Int × Int) => q) h4))).q fun a w W F => ?_
   refine Cc tk 10 W F fun a w W F => ?_
   refine A3 W Aa H (fun W H => ?_) fun W H => ?_
   ·
    refine Ln ?_
    refine ls W F Aa (Kt I9 W Aa).q fun a w W F => ?_
    exact nomatch H
   refine AD (Aq ?_)
   refine vn tk 4 W F fun a w W F => ?_
   refine Ac ?_
   exact ⟨_, H, W.ra Aa, F⟩
  refine AJ ?_
  iterate 2 refine A6 ?_
  refine AM (Ac ?_)
  have H := L2 _ H
  exact ⟨_, H, W.ra Aa, F⟩
 rintro a w ⟨x1, hj, W, F⟩
 have hj := AA hj
 subst hj
 have H := K1
 clear G1 K1
 refine vc tk 3 W F fun a w W F => ?_
 obtain ⟨x5, h6, H⟩ := Ad H
 refine CJ (Ml := []) (Zl := []) (β := Value) (rv := fun x => x) (MM := fun x => []) (ZZ := fun x => [row x 58 Bw x5]) W F Wb Aa Aa (fun hL => DZ _ w x1 _ h6) fun x a w W F => ?_
 obtain ⟨v4, rfl⟩ : ∃ y, y = x := ⟨x, rfl⟩
 have F : Stw ⟨Y, [], w0⟩ [] [row v4 58 Bw x5] w := F
 refine vl tk 2 W F fun a w W F => ?_
 refine Ac ?_
 obtain ⟨o3, G3, K3⟩ := Ad H
 refine Av (fun a w => ∃ x6 : List (Int × Int × Int), ∃ v5 : Value, some (x6) = some o3 ∧ Fr 36 [] [(2, .slice none 0 0), (6, v5)] a ∧ Stw ⟨Y, [], w0⟩ [] [row v5 58 Bw x6] w) ?_ ?_
 ·
  have H := G3
  clear G3 K3
  refine vc tk 3 W F fun a w W F => ?_
  refine ls W F Aa (A0 (r := (Rp.slice Bw)) (l := p0) SE Aa W Aa (Ak Ti h1 (Ab h_v1))).q fun a w W F => ?_
  refine Cc tk 4 W F fun a w W F => ?_
  refine AP H (fun s a w => ∃ v6 : Value, Fr 36 [] [(2, .slice none 0 0), (6, v6), (25, v1), (26, .int .i64 (p0.length : Int)), (27, .int .i64 s.2)] a ∧ Stw ⟨Y, [], w0⟩ [] [row v6 58 Bw s.1] w) ⟨(v4), W.ra Aa, F⟩ fun s o a w H L4 hR => ?_
  obtain ⟨x7, x8⟩ := s
  obtain ⟨v6, W, F⟩ := hR
  have W : Fr 36 [] [(2, .slice none 0 0), (6, v6), (25, v1), (26, .int .i64 (p0.length : Int)), (27, .int .i64 x8)] a := W
  have F : Stw ⟨Y, [], w0⟩ [] [row v6 58 Bw x7] w := F
  rw [Au] at H
  refine vc tk 6 W F fun a w W F => ?_
  refine A3 W Aa H (fun W H => ?_) fun W H => ?_
  ·
   refine Ie tk 6 W F fun a w W F => ?_
   obtain ⟨x9, h7, H⟩ := Ad H
   obtain ⟨v7, h8, h9⟩ := CE h1 h7
   have h10 : Qc v7 = [(v7.1)] := congrArg (fun q : List (Int × Int × Int) => ([(v7.1)] : List Value)) h9
   refine ls W F Aa (Aw (r := (Rp.vsl Bw)) Ve W Aa Aa (Ab h_v1) h8).q fun a w W F => ?_
   refine ls W F Aa (Ai (y := (v7.1)) (j := 0) (i := x8) (enc := Qc) W Aa Aa (Ab h_v1) h8 Ur VD (by rw [h10]; rfl)).q fun a w W F => ?_
   refine Cc tk 6 W F fun a w W F => ?_
   obtain ⟨x10, h11, H⟩ := Ad H
   refine Cp (r := Bw) (i := 0) W F Aa Nm Aa Aa Aa Aa (Sl.src (Sl.at_ (F.old s_v1) h8 Cd.here (congrArg (fun q : List (Int × Int × Int) => q) h9))) h11 Aa fun v8 a w W F => ?_
   have F : Stw ⟨Y, [], w0⟩ [] [row v8 58 Bw x10] w := F
   refine vl tk 2 W F fun a w W F => ?_
   refine Aq ?_
   refine vn tk 4 W F fun a w W F => ?_
   refine Ac ?_
   exact ⟨_, H, (v8), W.ra Aa, F⟩
  refine AJ ?_
  iterate 2 refine A6 ?_
  refine AM (Ac ?_)
  have H := L4 _ H
  exact ⟨_, (v6), H, W.ra Aa, F⟩
 rintro a w ⟨x6, v5, hj, W, F⟩
 have hj := AA hj
 subst hj
 have H := K3
 clear G3 K3
 refine vc tk 6 W F fun a w W F => ?_
 refine Ao ?_
 have H := AA H
 subst H
 refine AG (.inl Aa) W F Aa (Al W Aa) ?_
 exact ⟨(v5), Aa, F⟩
theorem V9 : Has Try.prog 17 := Ct Try.func17
abbrev Hu (a0 : Int × (List (Int × Int × Int × Int × Int × Int)) × (List (Int × Int))) (a1 : Value) (a2 : Value) (a3 : Value) (a4 : Value) (a5 : Value) (a6 : Value) (a7 : (List (Int × Int × Int × Int)) × (List (Int × Int × List Int)) × Int × Int × Int × Int) : List Value := [.int .i64 a0.1, a1, a2, a3, a4, a5, a6, .int .i64 a7.2.2.1, .int .i64 a7.2.2.2.1, .int .i64 a7.2.2.2.2.1, .int .i64 a7.2.2.2.2.2]
noncomputable def Dq (p0 : Int × (List (Int × Int × Int × Int × Int × Int)) × (List (Int × Int))) (p1 : List (List Int)) (p2 : List (List Int)) (p3 : (List (Int × Int × Int × Int)) × (List (Int × Int × List Int)) × Int × Int × Int × Int) : Option (List (Int × Int × Int)) := ((DT p0 p1).bind fun x2 => (if (!x2) = true then some true else (DT p0 p2).bind fun x3 => some (!x3))).bind fun x1 => (if x1 = true then some ([(1, 0, 0)] : List (Int × Int × Int)) else (B7 (p0, p1, p2, p3)).bind fun x4 => (Cg (p0, p1, p2, p3)).bind fun x5 => (Ck (p0, p1, p2, p3)).bind fun x6 => (BZ (p0, p1, p2, p3)).bind fun x7 => (Ay ([x4, x5, x6, x7] : List (List (Int × Int × Int)))).bind fun x8 => some x8)
theorem GW (Y : Nat → Prop) (w0 : World) (v1 : Value) (v2 : Value) (v3 : Value) (v4 : Value) (v5 : Value) (v6 : Value) (p0 : Int × (List (Int × Int × Int × Int × Int × Int)) × (List (Int × Int))) (p1 : List (List Int)) (p2 : List (List Int)) (p3 : (List (Int × Int × Int × Int)) × (List (Int × Int × List Int)) × Int × Int × Int × Int) (r : (List (Int × Int × Int))) (H : Dq p0 p1 p2 p3 = some r) (h_v1 : Sl w0 (NX []) Gn v1 p0.2.1) (h_v2 : Sl w0 (NX []) GE v2 p0.2.2) (s_v3 : Sl w0 Y (Rp.slice (Rp.int .i64)) v3 p1) (h_v4 : Sl w0 (NX []) (Rp.slice (Rp.int .i64)) v4 p2) (h_v5 : Sl w0 (NX []) Hg v5 p3.1) (h_v6 : Sl w0 (NX []) Jw v6 p3.2.1) :
    Calls Try.prog 8 #[.agg #[.int .i64 p0.1, v1, v2], v3, v4, .agg #[v5, v6, .int .i64 p3.2.2.1, .int .i64 p3.2.2.2.1, .int .i64 p3.2.2.2.2.1, .int .i64 p3.2.2.2.2.2]] w0 fun e w' => ∃ x : Value, e = .returned (x) ∧ Stw ⟨Y, [], w0⟩ [] [row (x) 58 Bw r] w' := by
 refine enter Try.func8 Aa Try.ntmps8 Aa fun a W => ?_
 have F := Stw.start Y w0
 obtain ⟨v7, h1, s_v3⟩ := s_v3.ex Bn
 obtain ⟨v8, h2, h_v4⟩ := h_v4.ex Bn
 obtain ⟨v9, h3, h_v6⟩ := h_v6.ex Fj
 have h_v3 := F.nx s_v3
 unfold Dq at H
 refine vc tk 2 W F fun a w W F => ?_
 refine Cq (cs := [.int .i64 p0.1, v1, v2]) W F Aa Aa Aa fun b1 a w W F => ?_
 refine Cq (cs := [v5, v6, .int .i64 p3.2.2.1, .int .i64 p3.2.2.2.1, .int .i64 p3.2.2.2.2.1, .int .i64 p3.2.2.2.2.2]) W F Aa Aa Aa fun b2 a w W F => ?_
 refine Cc tk 4 W F fun a w W F => ?_
 obtain ⟨o1, G1, K1⟩ := Ad H
 refine Av (fun a w => ∃ x1 : Bool, some (x1) = some o1 ∧ Fr 37 [] [(1, v3), (2, v4), (4, .pointer (some ⟨b1, 0, none⟩)), (7, .pointer (some ⟨b2, 0, none⟩)), (8, .slice none 0 0), (19, .bool x1)] a ∧ Stw ⟨Y, [], w0⟩ (Jj b2 v5 v6 p3 b1 p0 v1 v2) [] w) ?_ ?_
 ·
  have H := G1
  clear G1 K1
  refine Ha tk 3 [1] W F (ai fun a w W F => ?_)
  obtain ⟨x2, h4, H⟩ := Ad H
  refine ls W F Aa (AW (v := Value.bool x2) W Vk Aa (fun w F => HF any w (v1) (v2) (v3) p0 p1 _ h4 (CW (Ab h_v1) F) (CW (Ab h_v2) F) (CW (Ak Bn h1 (Ab h_v3)) F))) fun a w W F => ?_
  refine vl tk 2 W F fun a w W F => ?_
  rcases Bool.eq_false_or_eq_true (!x2) with hb | hb
  ·
   have H := Di hb H
   rw [hb] at W
   clear hb
   refine vl tk 6 W F fun a w W F => ?_
   refine Ac ?_
   have F := F.frontM (i := 1) Aa Aa
   have F := F.frontM (i := 1) Aa Aa
   exact ⟨_, H, W.ra Aa, F⟩
  have H := Dg (by rw [hb]; decide) H
  rw [hb] at W
  clear hb
  refine Jl tk 2 [1] W F (ai fun a w W F => ?_)
  refine Jg (Ae W Aa Aa Aa Aa) ?_
  obtain ⟨x3, h5, H⟩ := Ad H
  refine ls W F Aa (AW (v := Value.bool x3) W Vk Aa (fun w F => HF any w (v1) (v2) (v4) p0 p2 _ h5 (CW (Ab h_v1) F) (CW (Ab h_v2) F) (CW (Ak Bn h2 (Ab h_v4)) F))) fun a w W F => ?_
  refine vl tk 3 W F fun a w W F => ?_
  refine Ac ?_
  have F := F.frontM (i := 1) Aa Aa
  have F := F.frontM (i := 1) Aa Aa
  exact ⟨_, H, W.ra Aa, F⟩
 rintro a w ⟨x1, hj, W, F⟩
 have hj := AA hj
 subst hj
 have H := K1
 clear G1 K1
 refine D8 W Aa H (fun W H => ?_) fun W H => ?_
 ·
  refine vc tk 2 W F fun a w W F => ?_
  refine ls W F Aa (B1 (v := Value.agg #[.int .i64 1, .int .i64 0, .int .i64 0]) Ts W Aa Aa Aa).q fun a w W F => ?_
  refine CQ (z := Value.agg #[.int .i64 0, .int .i64 0, .int .i64 0]) (cs := [.int .i64 1, .int .i64 0, .int .i64 0]) Bw ([(1, 0, 0)] : List (Int × Int × Int)) W F Aa Nm Tb Aa Aa Aa Aa Aa Aa (SA.repL _ _ ([(1, 0, 0)] : List (Int × Int × Int))) fun v10 a w W F => ?_
  refine Cc tk 3 W F fun a w W F => ?_
  refine Ao (AN ?_)
  have H := AA H
  subst H
  refine AG (.inl Aa) W F Aa (Al W Aa) ?_
  have F := F.sub (M' := []) (Z' := [row v10 58 Bw ([(1, 0, 0)] : List (Int × Int × Int))]) (List.nil_sublist _) (List.Sublist.refl _)
  exact ⟨(v10), Aa, F⟩
 refine MY tk 8 [1, 0] W F (ai (ai fun a w W F => ?_))
 refine ls W F Aa (B1 (v := Value.agg #[.int .i64 p0.1, v1, v2, v3, v4, v5, v6, .int .i64 p3.2.2.1, .int .i64 p3.2.2.2.1, .int .i64 p3.2.2.2.2.1, .int .i64 p3.2.2.2.2.2]) WV W Aa (AS Aa Aa Aa (AS Aa (BD h_v3.one) Aa (AS Aa (BD h_v4.one) Aa (AS Aa Aa Aa DW)))) Aa).q fun a w W F => ?_
 refine B9 (cs := [.int .i64 0, .slice none 0 0, .slice none 0 0, .slice none 0 0, .slice none 0 0, .slice none 0 0, .slice none 0 0, .int .i64 0, .int .i64 0, .int .i64 0, .int .i64 0]) W F Aa WG Aa fun b3 a w W F => ?_
 refine F6 0 W F Aa Aa Aa SN Aa Aa (AX Aa (AX h_v1.one (AX h_v2.one (AX h_v3.one (AX h_v4.one (AX h_v5.one (AX h_v6.one (AX Aa (AX Aa (AX Aa (AX Aa GO))))))))))) fun w F => ?_
 refine Cc tk 3 W F fun a w W F => ?_
 refine Is [(true, 0), (true, 2), (true, 4), (true, 6), (false, 1), (false, 3), (false, 5), (false, 7), (false, 8), (false, 9), (false, 10)] (CN ⟨Y, [], w0⟩ [(some 1, b3, [.int .i64 p0.1, v1, v2, v3, v4, v5, v6, .int .i64 p3.2.2.1, .int .i64 p3.2.2.2.1, .int .i64 p3.2.2.2.2.1, .int .i64 p3.2.2.2.2.2]), (some 3, b3, [.int .i64 p0.1, v1, v2, v3, v4, v5, v6, .int .i64 p3.2.2.1, .int .i64 p3.2.2.2.1, .int .i64 p3.2.2.2.2.1, .int .i64 p3.2.2.2.2.2]), (some 5, b3, [.int .i64 p0.1, v1, v2, v3, v4, v5, v6, .int .i64 p3.2.2.1, .int .i64 p3.2.2.2.1, .int .i64 p3.2.2.2.2.1, .int .i64 p3.2.2.2.2.2]), (some 7, b3, [.int .i64 p0.1, v1, v2, v3, v4, v5, v6, .int .i64 p3.2.2.1, .int .i64 p3.2.2.2.1, .int .i64 p3.2.2.2.2.1, .int .i64 p3.2.2.2.2.2])] []) (fun ch a d v w h => by cases d <;> exact h) MO (by kernel_rfl) F (fun w F => ⟨_, _, F, (all_cons (fun _ => (.head _)) (all_cons (fun _ => (.head _)) (all_cons (fun _ => (.head _)) (all_cons (fun _ => (.head _)) Aj)))), Aj⟩) fun w F => ?_
 refine Bx (R := [1]) W Aa Aa (yC fun M Z hN hZ => BF (cs := (Hu p0 v1 v2 v3 v4 v5 v6 p3)) (v := Value.agg #[.int .i64 p0.1, v1, v2, v3, v4, v5, v6, .int .i64 p3.2.2.1, .int .i64 p3.2.2.2.1, .int .i64 p3.2.2.2.2.1, .int .i64 p3.2.2.2.2.2]) W Aa (hN ((some 1), b3, (Hu p0 v1 v2 v3 v4 v5 v6 p3)) (.head _) Aa) SN Aa) (by kernel_rfl) Aa fun a W => ?_
 refine Bx (R := [3]) W Aa Aa (yC fun M Z hN hZ => BF (cs := (Hu p0 v1 v2 v3 v4 v5 v6 p3)) (v := Value.agg #[.int .i64 p0.1, v1, v2, v3, v4, v5, v6, .int .i64 p3.2.2.1, .int .i64 p3.2.2.2.1, .int .i64 p3.2.2.2.2.1, .int .i64 p3.2.2.2.2.2]) W Aa (hN ((some 3), b3, (Hu p0 v1 v2 v3 v4 v5 v6 p3)) (.tail _ (.head _)) Aa) SN Aa) (by kernel_rfl) Aa fun a W => ?_
 refine Bx (R := [5]) W Aa Aa (yC fun M Z hN hZ => BF (cs := (Hu p0 v1 v2 v3 v4 v5 v6 p3)) (v := Value.agg #[.int .i64 p0.1, v1, v2, v3, v4, v5, v6, .int .i64 p3.2.2.1, .int .i64 p3.2.2.2.1, .int .i64 p3.2.2.2.2.1, .int .i64 p3.2.2.2.2.2]) W Aa (hN ((some 5), b3, (Hu p0 v1 v2 v3 v4 v5 v6 p3)) (.tail _ (.tail _ (.head _))) Aa) SN Aa) (by kernel_rfl) Aa fun a W => ?_
 refine Bx (R := [7]) W Aa Aa (yC fun M Z hN hZ => BF (cs := (Hu p0 v1 v2 v3 v4 v5 v6 p3)) (v := Value.agg #[.int .i64 p0.1, v1, v2, v3, v4, v5, v6, .int .i64 p3.2.2.1, .int .i64 p3.2.2.2.1, .int .i64 p3.2.2.2.2.1, .int .i64 p3.2.2.2.2.2]) W Aa (hN ((some 7), b3, (Hu p0 v1 v2 v3 v4 v5 v6 p3)) (.tail _ (.tail _ (.tail _ (.head _)))) Aa) SN Aa) (by kernel_rfl) Aa fun a W => ?_
 refine Ea Aa ?_
 obtain ⟨x4, h6, H⟩ := Ad H
 refine CJ (Ml := []) (Zl := []) (β := Value) (rv := fun x => x) (MM := fun x => []) (ZZ := fun x => [row x 58 Bw x4]) W F V6 Aa Aa (fun hL => HG _ w (v1) (v2) (v3) (v4) (v5) (v6) (p0, p1, p2, p3) _ h6 ((Ab h_v1) w F).nx ((Ab h_v2) w F).nx ((Ak Bn h1 (Ab h_v3)) w F).nx ((Ak Bn h2 (Ab h_v4)) w F).nx ((Ab h_v5) w F).nx ((Ak Fj h3 (Ab h_v6)) w F).nx) fun x a w W F => ?_
 obtain ⟨v11, rfl⟩ : ∃ y, y = x := ⟨x, rfl⟩
 have F : Stw ⟨Y, [], w0⟩ [(b3, (Hu p0 v1 v2 v3 v4 v5 v6 p3)), (b2, [v5, v6, .int .i64 p3.2.2.1, .int .i64 p3.2.2.2.1, .int .i64 p3.2.2.2.2.1, .int .i64 p3.2.2.2.2.2]), (b1, [.int .i64 p0.1, v1, v2])] [row v11 58 Bw x4] w := F
 refine Bj (N2 := []) (NZ2 := []) (N3 := [(some 1, b3, [.int .i64 p0.1, v1, v2, v3, v4, v5, v6, .int .i64 p3.2.2.1, .int .i64 p3.2.2.2.1, .int .i64 p3.2.2.2.2.1, .int .i64 p3.2.2.2.2.2]), (some 3, b3, [.int .i64 p0.1, v1, v2, v3, v4, v5, v6, .int .i64 p3.2.2.1, .int .i64 p3.2.2.2.1, .int .i64 p3.2.2.2.2.1, .int .i64 p3.2.2.2.2.2]), (some 5, b3, [.int .i64 p0.1, v1, v2, v3, v4, v5, v6, .int .i64 p3.2.2.1, .int .i64 p3.2.2.2.1, .int .i64 p3.2.2.2.2.1, .int .i64 p3.2.2.2.2.2]), (some 7, b3, [.int .i64 p0.1, v1, v2, v3, v4, v5, v6, .int .i64 p3.2.2.1, .int .i64 p3.2.2.2.1, .int .i64 p3.2.2.2.2.1, .int .i64 p3.2.2.2.2.2])]) (NZ3 := []) F Aa Aa (all_cons (fun h => Af (by kernel_rfl) h) (all_cons (fun _ => (.head _)) (all_cons (fun _ => (.head _)) (all_cons (fun _ => (.head _)) Aj)))) Aj ?_
 refine Ea Aa ?_
 obtain ⟨x5, h7, H⟩ := Ad H
 refine CJ (Ml := []) (Zl := []) (β := Value) (rv := fun x => x) (MM := fun x => []) (ZZ := fun x => [row x 58 Bw x5]) W F WQ Aa Aa (fun hL => Iq _ w (v1) (v2) (v3) (v4) (v5) (v6) (p0, p1, p2, p3) _ h7 ((Ab h_v1) w F).nx ((Ab h_v2) w F).nx ((Ak Bn h1 (Ab h_v3)) w F).nx ((Ak Bn h2 (Ab h_v4)) w F).nx ((Ab h_v5) w F).nx ((Ak Fj h3 (Ab h_v6)) w F).nx) fun x a w W F => ?_
 obtain ⟨v12, rfl⟩ : ∃ y, y = x := ⟨x, rfl⟩
 have F : Stw ⟨Y, [], w0⟩ [(b3, (Hu p0 v1 v2 v3 v4 v5 v6 p3)), (b2, [v5, v6, .int .i64 p3.2.2.1, .int .i64 p3.2.2.2.1, .int .i64 p3.2.2.2.2.1, .int .i64 p3.2.2.2.2.2]), (b1, [.int .i64 p0.1, v1, v2])] [row v12 58 Bw x5, row v11 58 Bw x4] w := F
 refine Bj (N2 := []) (NZ2 := []) (N3 := [(some 1, b3, [.int .i64 p0.1, v1, v2, v3, v4, v5, v6, .int .i64 p3.2.2.1, .int .i64 p3.2.2.2.1, .int .i64 p3.2.2.2.2.1, .int .i64 p3.2.2.2.2.2]), (some 3, b3, [.int .i64 p0.1, v1, v2, v3, v4, v5, v6, .int .i64 p3.2.2.1, .int .i64 p3.2.2.2.1, .int .i64 p3.2.2.2.2.1, .int .i64 p3.2.2.2.2.2]), (some 5, b3, [.int .i64 p0.1, v1, v2, v3, v4, v5, v6, .int .i64 p3.2.2.1, .int .i64 p3.2.2.2.1, .int .i64 p3.2.2.2.2.1, .int .i64 p3.2.2.2.2.2]), (some 7, b3, [.int .i64 p0.1, v1, v2, v3, v4, v5, v6, .int .i64 p3.2.2.1, .int .i64 p3.2.2.2.1, .int .i64 p3.2.2.2.2.1, .int .i64 p3.2.2.2.2.2])]) (NZ3 := []) F Aa Aa (all_cons (fun h => Af (by kernel_rfl) h) (all_cons (fun h => Af (by kernel_rfl) h) (all_cons (fun _ => (.head _)) (all_cons (fun _ => (.head _)) Aj)))) Aj ?_
 refine Ea Aa ?_
 obtain ⟨x6, h8, H⟩ := Ad H
 refine CJ (Ml := []) (Zl := []) (β := Value) (rv := fun x => x) (MM := fun x => []) (ZZ := fun x => [row x 58 Bw x6]) W F Wk Aa Aa (fun hL => Io _ w (v1) (v2) (v3) (v4) (v5) (v6) (p0, p1, p2, p3) _ h8 ((Ab h_v1) w F).nx ((Ab h_v2) w F).nx ((Ak Bn h1 (Ab h_v3)) w F).nx ((Ak Bn h2 (Ab h_v4)) w F).nx ((Ab h_v5) w F).nx ((Ak Fj h3 (Ab h_v6)) w F).nx) fun x a w W F => ?_
 obtain ⟨v13, rfl⟩ : ∃ y, y = x := ⟨x, rfl⟩
 have F : Stw ⟨Y, [], w0⟩ [(b3, (Hu p0 v1 v2 v3 v4 v5 v6 p3)), (b2, [v5, v6, .int .i64 p3.2.2.1, .int .i64 p3.2.2.2.1, .int .i64 p3.2.2.2.2.1, .int .i64 p3.2.2.2.2.2]), (b1, [.int .i64 p0.1, v1, v2])] [row v13 58 Bw x6, row v12 58 Bw x5, row v11 58 Bw x4] w := F
 refine Bj (N2 := []) (NZ2 := []) (N3 := [(some 1, b3, [.int .i64 p0.1, v1, v2, v3, v4, v5, v6, .int .i64 p3.2.2.1, .int .i64 p3.2.2.2.1, .int .i64 p3.2.2.2.2.1, .int .i64 p3.2.2.2.2.2]), (some 3, b3, [.int .i64 p0.1, v1, v2, v3, v4, v5, v6, .int .i64 p3.2.2.1, .int .i64 p3.2.2.2.1, .int .i64 p3.2.2.2.2.1, .int .i64 p3.2.2.2.2.2]), (some 5, b3, [.int .i64 p0.1, v1, v2, v3, v4, v5, v6, .int .i64 p3.2.2.1, .int .i64 p3.2.2.2.1, .int .i64 p3.2.2.2.2.1, .int .i64 p3.2.2.2.2.2]), (some 7, b3, [.int .i64 p0.1, v1, v2, v3, v4, v5, v6, .int .i64 p3.2.2.1, .int .i64 p3.2.2.2.1, .int .i64 p3.2.2.2.2.1, .int .i64 p3.2.2.2.2.2])]) (NZ3 := []) F Aa Aa (all_cons (fun h => Af (by kernel_rfl) h) (all_cons (fun h => Af (by kernel_rfl) h) (all_cons (fun h => Af (by kernel_rfl) h) (all_cons (fun _ => (.head _)) Aj)))) Aj ?_
 refine Ea Aa ?_
 obtain ⟨x7, h9, H⟩ := Ad H
 refine CJ (Ml := []) (Zl := []) (β := Value) (rv := fun x => x) (MM := fun x => []) (ZZ := fun x => [row x 58 Bw x7]) W F WU Aa Aa (fun hL => Hk _ w (v1) (v2) (v3) (v4) (v5) (v6) (p0, p1, p2, p3) _ h9 ((Ab h_v1) w F).nx ((Ab h_v2) w F).nx (Sl.hide Bn h1 (F.old s_v3)) ((Ak Bn h2 (Ab h_v4)) w F).nx ((Ab h_v5) w F).nx ((Ak Fj h3 (Ab h_v6)) w F).nx) fun x a w W F => ?_
 obtain ⟨v14, rfl⟩ : ∃ y, y = x := ⟨x, rfl⟩
 have F : Stw ⟨Y, [], w0⟩ [(b3, (Hu p0 v1 v2 v3 v4 v5 v6 p3)), (b2, [v5, v6, .int .i64 p3.2.2.1, .int .i64 p3.2.2.2.1, .int .i64 p3.2.2.2.2.1, .int .i64 p3.2.2.2.2.2]), (b1, [.int .i64 p0.1, v1, v2])] [row v14 58 Bw x7, row v13 58 Bw x6, row v12 58 Bw x5, row v11 58 Bw x4] w := F
 refine Bj (N2 := []) (NZ2 := []) (N3 := [(some 1, b3, [.int .i64 p0.1, v1, v2, v3, v4, v5, v6, .int .i64 p3.2.2.1, .int .i64 p3.2.2.2.1, .int .i64 p3.2.2.2.2.1, .int .i64 p3.2.2.2.2.2]), (some 3, b3, [.int .i64 p0.1, v1, v2, v3, v4, v5, v6, .int .i64 p3.2.2.1, .int .i64 p3.2.2.2.1, .int .i64 p3.2.2.2.2.1, .int .i64 p3.2.2.2.2.2]), (some 5, b3, [.int .i64 p0.1, v1, v2, v3, v4, v5, v6, .int .i64 p3.2.2.1, .int .i64 p3.2.2.2.1, .int .i64 p3.2.2.2.2.1, .int .i64 p3.2.2.2.2.2]), (some 7, b3, [.int .i64 p0.1, v1, v2, v3, v4, v5, v6, .int .i64 p3.2.2.1, .int .i64 p3.2.2.2.1, .int .i64 p3.2.2.2.2.1, .int .i64 p3.2.2.2.2.2])]) (NZ3 := []) F Aa Aa (all_cons (fun h => Af (by kernel_rfl) h) (all_cons (fun h => Af (by kernel_rfl) h) (all_cons (fun h => Af (by kernel_rfl) h) (all_cons (fun h => Af (by kernel_rfl) h) Aj)))) Aj ?_
 refine Ea Aa ?_
 have F := F.frontZ (i := 3) Aa Aa
 have F := F.freeze
 have F := F.frontZ (i := 3) Aa Aa
 have F := F.freeze
 have F := F.frontZ (i := 3) Aa Aa
 have F := F.freeze
 have F := F.frontZ (i := 3) Aa Aa
 have F := F.freeze
 refine CQ (z := Value.slice none 0 0) (cs := [v11, v12, v13, v14]) (Rp.slice Bw) ([x4, x5, x6, x7] : List (List (Int × Int × Int))) W F Aa Ve V3 Aa Aa Aa (AS Aa (BD (F.oneF (k := 3) Aa)) Aa (AS Aa (BD (F.oneF (k := 2) Aa)) Aa (AS Aa (BD (F.oneF (k := 1) Aa)) Aa (AS Aa (BD (F.oneF (k := 0) Aa)) Aa DW)))) Aa Aa ⟨[v11], _, Aa, ⟨_, Aa, (F.item (i := 3) Aa)⟩, ⟨[v12], _, Aa, ⟨_, Aa, (F.item (i := 2) Aa)⟩, ⟨[v13], _, Aa, ⟨_, Aa, (F.item (i := 1) Aa)⟩, ⟨[v14], _, Aa, ⟨_, Aa, (F.item (i := 0) Aa)⟩, Aa⟩⟩⟩⟩ fun v15 a w W F => ?_
 refine Bj (N2 := []) (NZ2 := []) (N3 := [(some 1, b3, [.int .i64 p0.1, v1, v2, v3, v4, v5, v6, .int .i64 p3.2.2.1, .int .i64 p3.2.2.2.1, .int .i64 p3.2.2.2.2.1, .int .i64 p3.2.2.2.2.2]), (some 3, b3, [.int .i64 p0.1, v1, v2, v3, v4, v5, v6, .int .i64 p3.2.2.1, .int .i64 p3.2.2.2.1, .int .i64 p3.2.2.2.2.1, .int .i64 p3.2.2.2.2.2]), (some 5, b3, [.int .i64 p0.1, v1, v2, v3, v4, v5, v6, .int .i64 p3.2.2.1, .int .i64 p3.2.2.2.1, .int .i64 p3.2.2.2.2.1, .int .i64 p3.2.2.2.2.2]), (some 7, b3, [.int .i64 p0.1, v1, v2, v3, v4, v5, v6, .int .i64 p3.2.2.1, .int .i64 p3.2.2.2.1, .int .i64 p3.2.2.2.2.1, .int .i64 p3.2.2.2.2.2])]) (NZ3 := []) F Aa Aa (all_cons (fun h => Af (by kernel_rfl) h) (all_cons (fun h => Af (by kernel_rfl) h) (all_cons (fun h => Af (by kernel_rfl) h) (all_cons (fun h => Af (by kernel_rfl) h) Aj)))) Aj ?_
 refine Ea Aa ?_
 obtain ⟨x8, h10, H⟩ := Ad H
 have F := F.freeze
 refine CJ (Ml := []) (Zl := []) (β := Value) (rv := fun x => x) (MM := fun x => []) (ZZ := fun x => [row x 58 Bw x8]) W F V9 Aa Aa (fun hL => DK _ w (v15) ([x4, x5, x6, x7] : List (List (Int × Int × Int))) _ h10 (F.item (i := 0) Aa)) fun x a w W F => ?_
 obtain ⟨v16, rfl⟩ : ∃ y, y = x := ⟨x, rfl⟩
 have F : Stw ⟨Y, [], w0⟩ [(b3, (Hu p0 v1 v2 v3 v4 v5 v6 p3)), (b2, [v5, v6, .int .i64 p3.2.2.1, .int .i64 p3.2.2.2.1, .int .i64 p3.2.2.2.2.1, .int .i64 p3.2.2.2.2.2]), (b1, [.int .i64 p0.1, v1, v2])] [row v16 58 Bw x8, Jn v15 (Rp.slice Bw) ([x4, x5, x6, x7] : List (List (Int × Int × Int))), Jn v14 Bw x7, Jn v13 Bw x6, Jn v12 Bw x5, Jn v11 Bw x4] w := F
 refine Bj (N2 := []) (NZ2 := []) (N3 := [(some 1, b3, [.int .i64 p0.1, v1, v2, v3, v4, v5, v6, .int .i64 p3.2.2.1, .int .i64 p3.2.2.2.1, .int .i64 p3.2.2.2.2.1, .int .i64 p3.2.2.2.2.2]), (some 3, b3, [.int .i64 p0.1, v1, v2, v3, v4, v5, v6, .int .i64 p3.2.2.1, .int .i64 p3.2.2.2.1, .int .i64 p3.2.2.2.2.1, .int .i64 p3.2.2.2.2.2]), (some 5, b3, [.int .i64 p0.1, v1, v2, v3, v4, v5, v6, .int .i64 p3.2.2.1, .int .i64 p3.2.2.2.1, .int .i64 p3.2.2.2.2.1, .int .i64 p3.2.2.2.2.2]), (some 7, b3, [.int .i64 p0.1, v1, v2, v3, v4, v5, v6, .int .i64 p3.2.2.1, .int .i64 p3.2.2.2.1, .int .i64 p3.2.2.2.2.1, .int .i64 p3.2.2.2.2.2])]) (NZ3 := []) F Aa Aa (all_cons (fun h => Af (by kernel_rfl) h) (all_cons (fun h => Af (by kernel_rfl) h) (all_cons (fun h => Af (by kernel_rfl) h) (all_cons (fun h => Af (by kernel_rfl) h) Aj)))) Aj ?_
 refine Ea Aa ?_
 refine ls W F Aa (BR W Aa).q fun a w W F => ?_
 refine Bj (N2 := []) (NZ2 := []) (N3 := [(some 1, b3, [.int .i64 p0.1, v1, v2, v3, v4, v5, v6, .int .i64 p3.2.2.1, .int .i64 p3.2.2.2.1, .int .i64 p3.2.2.2.2.1, .int .i64 p3.2.2.2.2.2]), (some 3, b3, [.int .i64 p0.1, v1, v2, v3, v4, v5, v6, .int .i64 p3.2.2.1, .int .i64 p3.2.2.2.1, .int .i64 p3.2.2.2.2.1, .int .i64 p3.2.2.2.2.2]), (some 5, b3, [.int .i64 p0.1, v1, v2, v3, v4, v5, v6, .int .i64 p3.2.2.1, .int .i64 p3.2.2.2.1, .int .i64 p3.2.2.2.2.1, .int .i64 p3.2.2.2.2.2]), (some 7, b3, [.int .i64 p0.1, v1, v2, v3, v4, v5, v6, .int .i64 p3.2.2.1, .int .i64 p3.2.2.2.1, .int .i64 p3.2.2.2.2.1, .int .i64 p3.2.2.2.2.2])]) (NZ3 := []) F Aa Aa (all_cons (fun h => Af (by kernel_rfl) h) (all_cons (fun h => Af (by kernel_rfl) h) (all_cons (fun h => Af (by kernel_rfl) h) (all_cons (fun h => Af (by kernel_rfl) h) Aj)))) Aj ?_
 refine Gz (Ac (Ao ?_))
 have H := AA H
 subst H
 refine AG (.inl Aa) W F Aa (Al W Aa) ?_
 have F := F.sub (M' := []) (Z' := [row v16 58 Bw x8]) (List.nil_sublist _) (List.Sublist.cons_cons _ (List.nil_sublist _))
 exact ⟨(v16), Aa, F⟩
theorem H8 : Has Try.prog 8 := Ct Try.func8
theorem VR : Ty Try.prog 58 true 3 := ⟨by kernel_rfl, by kernel_rfl⟩
theorem U7 (dd : Nat) (x0 : Int) (x1 : Int) (x2 : Int) (y0 : Int) (y1 : Int) (y2 : Int) (w : World) : (Op.equalIn (dd + 2) 58 (.agg #[.int .i64 x0, .int .i64 x1, .int .i64 x2]) (.agg #[.int .i64 y0, .int .i64 y1, .int .i64 y2])).run Try.prog w = .ok (decide (x0 = y0 ∧ x1 = y1 ∧ x2 = y2)) w :=
  J4 (d := dd + 1) (rs := [decide (x0 = y0), decide (x1 = y1), decide (x2 = y2)]) Uc (by kernel_rfl) ⟨rfl, HR (d := dd + 0) rfl rfl Rf T3 rfl rfl, rfl, HR (d := dd + 0) rfl rfl Rf T3 rfl rfl, rfl, HR (d := dd + 0) rfl rfl Rf T3 rfl rfl, trivial⟩ (by simp) w
theorem VZ : Try.prog.eqGuardType Try.prog.depth 58 = false := by kernel_rfl
theorem Wc (x0 : Int) (x1 : Int) (x2 : Int) (y0 : Int) (y1 : Int) (y2 : Int) (w : World) : (Op.equalIn 10000 58 (.agg #[.int .i64 x0, .int .i64 x1, .int .i64 x2]) (.agg #[.int .i64 y0, .int .i64 y1, .int .i64 y2])).run Try.prog w = .ok (decide (x0 = y0 ∧ x1 = y1 ∧ x2 = y2)) w := U7 9998 x0 x1 x2 y0 y1 y2 w
def EN (p0 : Int) : List UInt8 := (if p0 = 1 then ([119, 114, 111, 110, 103] : List UInt8) else (if p0 = 2 then ([109, 105, 115, 115, 105, 110, 103] : List UInt8) else (if p0 = 3 then ([101, 120, 116, 114, 97] : List UInt8) else (if p0 = 4 then ([99, 108, 111, 115, 101] : List UInt8) else (if p0 = 5 then ([104, 111, 108, 101] : List UInt8) else (if p0 = 6 then ([108, 111, 111, 112] : List UInt8) else ([63] : List UInt8)))))))
theorem MZ (Y : Nat → Prop) (w0 : World)  (p0 : Int) (r : List UInt8) (H : EN p0 = r)  :
    Calls Try.prog 11 #[.int .i64 p0] w0 fun e w' => e = .returned (.string (bs r)) ∧ Below w0.heap.size w0 w' := by
 refine enter Try.func11 Aa Try.ntmps11 Aa fun a W => ?_
 have F := Stw.start Y w0
 unfold EN at H
 refine vc tk 2 W F fun a w W F => ?_
 refine ls W F Aa (BR (v := Value.string (bs ([] : List UInt8))) W Aa).q fun a w W F => ?_
 refine Cc tk 15 W F fun a w W F => ?_
 refine GZ W Aa (fun hb => ?_) fun hb => ?_
 ·
  have H := Di (E6 hb) H
  rw [hb] at W
  clear hb
  refine vc tk 2 W F fun a w W F => ?_
  refine ls W F Aa (BR (v := Value.string (bs ([119, 114, 111, 110, 103] : List UInt8))) W Aa).q fun a w W F => ?_
  refine Cc tk 2 W F fun a w W F => ?_
  refine Ao (AR (AN ?_))
  subst H
  refine AG (.inl Aa) W F Aa (Al W Aa) ?_
  exact ⟨rfl, F.done⟩
 have H := Dg (Fh hb) H
 rw [hb] at W
 clear hb
 refine vc tk 6 W F fun a w W F => ?_
 refine GZ W Aa (fun hb => ?_) fun hb => ?_
 ·
  have H := Di (E6 hb) H
  rw [hb] at W
  clear hb
  refine vc tk 2 W F fun a w W F => ?_
  refine ls W F Aa (BR (v := Value.string (bs ([109, 105, 115, 115, 105, 110, 103] : List UInt8))) W Aa).q fun a w W F => ?_
  refine Cc tk 2 W F fun a w W F => ?_
  refine Ao (AR (AN ?_))
  subst H
  refine AG (.inl Aa) W F Aa (Al W Aa) ?_
  exact ⟨rfl, F.done⟩
 have H := Dg (Fh hb) H
 rw [hb] at W
 clear hb
 refine vc tk 6 W F fun a w W F => ?_
 refine GZ W Aa (fun hb => ?_) fun hb => ?_
 ·
  have H := Di (E6 hb) H
  rw [hb] at W
  clear hb
  refine vc tk 2 W F fun a w W F => ?_
  refine ls W F Aa (BR (v := Value.string (bs ([101, 120, 116, 114, 97] : List UInt8))) W Aa).q fun a w W F => ?_
  refine Cc tk 2 W F fun a w W F => ?_
  refine Ao (AR (AN ?_))
  subst H
  refine AG (.inl Aa) W F Aa (Al W Aa) ?_
  exact ⟨rfl, F.done⟩
 have H := Dg (Fh hb) H
 rw [hb] at W
 clear hb
 refine vc tk 6 W F fun a w W F => ?_
 refine GZ W Aa (fun hb => ?_) fun hb => ?_
 ·
  have H := Di (E6 hb) H
  rw [hb] at W
  clear hb
  refine vc tk 2 W F fun a w W F => ?_
  refine ls W F Aa (BR (v := Value.string (bs ([99, 108, 111, 115, 101] : List UInt8))) W Aa).q fun a w W F => ?_
  refine Cc tk 2 W F fun a w W F => ?_
  refine Ao (AR (AN ?_))
  subst H
  refine AG (.inl Aa) W F Aa (Al W Aa) ?_
  exact ⟨rfl, F.done⟩
 have H := Dg (Fh hb) H
 rw [hb] at W
 clear hb
 refine vc tk 6 W F fun a w W F => ?_
 refine GZ W Aa (fun hb => ?_) fun hb => ?_
 ·
  have H := Di (E6 hb) H
  rw [hb] at W
  clear hb
  refine vc tk 2 W F fun a w W F => ?_
  refine ls W F Aa (BR (v := Value.string (bs ([104, 111, 108, 101] : List UInt8))) W Aa).q fun a w W F => ?_
  refine Cc tk 2 W F fun a w W F => ?_
  refine Ao (AR (AN ?_))
  subst H
  refine AG (.inl Aa) W F Aa (Al W Aa) ?_
  exact ⟨rfl, F.done⟩
 have H := Dg (Fh hb) H
 rw [hb] at W
 clear hb
 refine vc tk 6 W F fun a w W F => ?_
 refine GZ W Aa (fun hb => ?_) fun hb => ?_
 ·
  have H := Di (E6 hb) H
  rw [hb] at W
  clear hb
  refine vc tk 2 W F fun a w W F => ?_
  refine ls W F Aa (BR (v := Value.string (bs ([108, 111, 111, 112] : List UInt8))) W Aa).q fun a w W F => ?_
  refine Cc tk 2 W F fun a w W F => ?_
  refine Ao (AR (AN ?_))
  subst H
  refine AG (.inl Aa) W F Aa (Al W Aa) ?_
  exact ⟨rfl, F.done⟩
 have H := Dg (Fh hb) H
 rw [hb] at W
 clear hb
 refine AD (Aq ?_)
 refine vn tk 2 W F fun a w W F => ?_
 refine ls W F Aa (BR (v := Value.string (bs ([63] : List UInt8))) W Aa).q fun a w W F => ?_
 refine Cc tk 2 W F fun a w W F => ?_
 refine Ao ?_
 subst H
 refine AG (.inl Aa) W F Aa (Al W Aa) ?_
 exact ⟨rfl, F.done⟩
theorem V7 : Has Try.prog 11 := Ct Try.func11
noncomputable def Fq  : Option Bool := (Dq (3, ([(0, 0, 1, 0, 1, 1), (1, 1, 2, 0, 1, 1), (0, 1, 2, 1, 1, 1)] : List (Int × Int × Int × Int × Int × Int)), ([(2, 7)] : List (Int × Int))) ([([0] : List Int), ([1] : List Int), ([7] : List Int)] : List (List Int)) ([([1] : List Int), ([1] : List Int), ([7] : List Int)] : List (List Int)) (([] : List (Int × Int × Int × Int)), ([] : List (Int × Int × List Int)), 0, 0, 0, 0)).bind fun x1 => (if (x1.length : Int) = 1 then (ix x1 0).bind fun x3 => (if x3.1 = 2 ∧ x3.2.1 = 0 ∧ x3.2.2 = 0 then (if (EN 6) = ([108, 111, 111, 112] : List UInt8) then (Dq (0, ([] : List (Int × Int × Int × Int × Int × Int)), ([] : List (Int × Int))) ([] : List (List Int)) ([] : List (List Int)) (([] : List (Int × Int × Int × Int)), ([] : List (Int × Int × List Int)), 0, 0, 0, 0)).bind fun x4 => some (decide ((x4.length : Int) = 1)) else some false) else some false) else some false).bind fun x2 => some x2
theorem Kw (Y : Nat → Prop) (w0 : World)   (r : Bool) (H : Fq  = some r)  :
    Calls Try.prog 6 #[] w0 fun e w' => e = .returned (.bool r) ∧ Below w0.heap.size w0 w' := by
 refine enter Try.func6 Aa Try.ntmps6 Aa fun a W => ?_
 have F := Stw.start Y w0
 unfold Fq at H
 refine vc tk 7 W F fun a w W F => ?_
 refine ls W F Aa (B1 (v := Value.agg #[.int .i64 0, .int .i64 0, .int .i64 1, .int .i64 0, .int .i64 1, .int .i64 1]) Vc W Aa Aa Aa).q fun a w W F => ?_
 refine ls W F Aa (B1 (v := Value.agg #[.int .i64 1, .int .i64 1, .int .i64 2, .int .i64 0, .int .i64 1, .int .i64 1]) Vc W Aa Aa Aa).q fun a w W F => ?_
 refine ls W F Aa (B1 (v := Value.agg #[.int .i64 0, .int .i64 1, .int .i64 2, .int .i64 1, .int .i64 1, .int .i64 1]) Vc W Aa Aa Aa).q fun a w W F => ?_
 refine CQ (z := Value.agg #[.int .i64 0, .int .i64 0, .int .i64 0, .int .i64 0, .int .i64 0, .int .i64 0]) (cs := [.int .i64 0, .int .i64 0, .int .i64 1, .int .i64 0, .int .i64 1, .int .i64 1, .int .i64 1, .int .i64 1, .int .i64 2, .int .i64 0, .int .i64 1, .int .i64 1, .int .i64 0, .int .i64 1, .int .i64 2, .int .i64 1, .int .i64 1, .int .i64 1]) Gn ([(0, 0, 1, 0, 1, 1), (1, 1, 2, 0, 1, 1), (0, 1, 2, 1, 1, 1)] : List (Int × Int × Int × Int × Int × Int)) W F Aa Uk UM Aa Aa Aa Aa Aa Aa (T7.repL _ _ ([(0, 0, 1, 0, 1, 1), (1, 1, 2, 0, 1, 1), (0, 1, 2, 1, 1, 1)] : List (Int × Int × Int × Int × Int × Int))) fun v1 a w W F => ?_
 refine ls W F Aa (B1 (v := Value.agg #[.int .i64 2, .int .i64 7]) Vr W Aa Aa Aa).q fun a w W F => ?_
 refine CQ (z := Value.agg #[.int .i64 0, .int .i64 0]) (cs := [.int .i64 2, .int .i64 7]) GE ([(2, 7)] : List (Int × Int)) W F Aa UY VG Aa Aa Aa Aa Aa Aa (UO.repL _ _ ([(2, 7)] : List (Int × Int))) fun v2 a w W F => ?_
 refine ls W F Aa (B1 (v := Value.agg #[.int .i64 3, v1, v2]) Vq W Aa (AS Aa Aa Aa (AS Aa (BD (F.one (k := 1) Aa)) Aa (AS Aa (BD (F.one (k := 0) Aa)) Aa DW))) Aa).q fun a w W F => ?_
 refine B9 (cs := [.int .i64 0, .slice none 0 0, .slice none 0 0]) W F Aa VN Aa fun b1 a w W F => ?_
 refine F6 0 W F Aa Aa Aa Th Aa Aa (AX Aa (AX (F.one (k := 1) Aa) (AX (F.one (k := 0) Aa) GO))) fun w F => ?_
 refine JK tk 5 [0] W F (ai fun a w W F => ?_)
 refine CQ (z := Value.int .i64 0) (cs := [.int .i64 0]) (Rp.int .i64) ([0] : List Int) W F Aa HT Z3 Aa Aa Aa Aa Aa Aa (Fl.int.repL _ _ ([0] : List Int)) fun v3 a w W F => ?_
 refine CQ (z := Value.int .i64 0) (cs := [.int .i64 1]) (Rp.int .i64) ([1] : List Int) W F Aa HT Z3 Aa Aa Aa Aa Aa Aa (Fl.int.repL _ _ ([1] : List Int)) fun v4 a w W F => ?_
 refine CQ (z := Value.int .i64 0) (cs := [.int .i64 7]) (Rp.int .i64) ([7] : List Int) W F Aa HT Z3 Aa Aa Aa Aa Aa Aa (Fl.int.repL _ _ ([7] : List Int)) fun v5 a w W F => ?_
 have F := F.frontZ (i := 2) Aa Aa
 have F := F.freeze
 have F := F.frontZ (i := 2) Aa Aa
 have F := F.freeze
 have F := F.frontZ (i := 2) Aa Aa
 have F := F.freeze
 refine CQ (z := Value.slice none 0 0) (cs := [v3, v4, v5]) (Rp.slice (Rp.int .i64)) ([([0] : List Int), ([1] : List Int), ([7] : List Int)] : List (List Int)) W F Aa LF Uz Aa Aa Aa (AS Aa (BD (F.oneF (k := 2) Aa)) Aa (AS Aa (BD (F.oneF (k := 1) Aa)) Aa (AS Aa (BD (F.oneF (k := 0) Aa)) Aa DW))) Aa Aa ⟨[v3], _, Aa, ⟨_, Aa, (F.item (i := 2) Aa)⟩, ⟨[v4], _, Aa, ⟨_, Aa, (F.item (i := 1) Aa)⟩, ⟨[v5], _, Aa, ⟨_, Aa, (F.item (i := 0) Aa)⟩, Aa⟩⟩⟩ fun v6 a w W F => ?_
 refine CQ (z := Value.int .i64 0) (cs := [.int .i64 1]) (Rp.int .i64) ([1] : List Int) W F Aa HT Z3 Aa Aa Aa Aa Aa Aa (Fl.int.repL _ _ ([1] : List Int)) fun v7 a w W F => ?_
 refine CQ (z := Value.int .i64 0) (cs := [.int .i64 1]) (Rp.int .i64) ([1] : List Int) W F Aa HT Z3 Aa Aa Aa Aa Aa Aa (Fl.int.repL _ _ ([1] : List Int)) fun v8 a w W F => ?_
 refine CQ (z := Value.int .i64 0) (cs := [.int .i64 7]) (Rp.int .i64) ([7] : List Int) W F Aa HT Z3 Aa Aa Aa Aa Aa Aa (Fl.int.repL _ _ ([7] : List Int)) fun v9 a w W F => ?_
 have F := F.frontZ (i := 2) Aa Aa
 have F := F.freeze
 have F := F.frontZ (i := 2) Aa Aa
 have F := F.freeze
 have F := F.frontZ (i := 2) Aa Aa
 have F := F.freeze
 refine CQ (z := Value.slice none 0 0) (cs := [v7, v8, v9]) (Rp.slice (Rp.int .i64)) ([([1] : List Int), ([1] : List Int), ([7] : List Int)] : List (List Int)) W F Aa LF Uz Aa Aa Aa (AS Aa (BD (F.oneF (k := 2) Aa)) Aa (AS Aa (BD (F.oneF (k := 1) Aa)) Aa (AS Aa (BD (F.oneF (k := 0) Aa)) Aa DW))) Aa Aa ⟨[v7], _, Aa, ⟨_, Aa, (F.item (i := 2) Aa)⟩, ⟨[v8], _, Aa, ⟨_, Aa, (F.item (i := 1) Aa)⟩, ⟨[v9], _, Aa, ⟨_, Aa, (F.item (i := 0) Aa)⟩, Aa⟩⟩⟩ fun v10 a w W F => ?_
 refine ls W F Aa (B1 (v := Value.agg #[.slice none 0 0, .slice none 0 0, .int .i64 0, .int .i64 0, .int .i64 0, .int .i64 0]) UJ W Aa Aa Aa).q fun a w W F => ?_
 obtain ⟨x1, h1, H⟩ := Ad H
 have F := F.frontZ (i := 4) Aa Aa
 have F := F.freeze
 refine CJ (Ml := []) (Zl := []) (β := Value) (rv := fun x => x) (MM := fun x => []) (ZZ := fun x => [row x 58 Bw x1]) W F H8 Aa Aa (fun hL => GW _ w (v1) (v2) (v6) (v10) (Value.slice none 0 0) (Value.slice none 0 0) (3, ([(0, 0, 1, 0, 1, 1), (1, 1, 2, 0, 1, 1), (0, 1, 2, 1, 1, 1)] : List (Int × Int × Int × Int × Int × Int)), ([(2, 7)] : List (Int × Int))) ([([0] : List Int), ([1] : List Int), ([7] : List Int)] : List (List Int)) ([([1] : List Int), ([1] : List Int), ([7] : List Int)] : List (List Int)) (([] : List (Int × Int × Int × Int)), ([] : List (Int × Int × List Int)), 0, 0, 0, 0) _ h1 ((CY 9 Aa) w F).nx ((CY 8 Aa) w F).nx (F.item (i := 0) Aa) ((CY 1 Aa) w F).nx Sl.nil Sl.nil) fun x a w W F => ?_
 obtain ⟨v11, rfl⟩ : ∃ y, y = x := ⟨x, rfl⟩
 have F : Stw ⟨Y, [], w0⟩ [(b1, [.int .i64 3, v1, v2])] [row v11 58 Bw x1, Jn v6 (Rp.slice (Rp.int .i64)) ([([0] : List Int), ([1] : List Int), ([7] : List Int)] : List (List Int)), row v10 46 (Rp.slice (Rp.int .i64)) ([([1] : List Int), ([1] : List Int), ([7] : List Int)] : List (List Int)), Jn v9 (Rp.int .i64) ([7] : List Int), Jn v8 (Rp.int .i64) ([1] : List Int), Jn v7 (Rp.int .i64) ([1] : List Int), Jn v5 (Rp.int .i64) ([7] : List Int), Jn v4 (Rp.int .i64) ([1] : List Int), Jn v3 (Rp.int .i64) ([0] : List Int), row v2 56 GE ([(2, 7)] : List (Int × Int)), row v1 54 Gn ([(0, 0, 1, 0, 1, 1), (1, 1, 2, 0, 1, 1), (0, 1, 2, 1, 1, 1)] : List (Int × Int × Int × Int × Int × Int))] w := F
 refine vl tk 2 W F fun a w W F => ?_
 refine Ac ?_
 obtain ⟨o1, G1, K1⟩ := Ad H
 refine Av (fun a w => ∃ x2 : Bool, some (x2) = some o1 ∧ Fr 42 [] [(0, .bool x2)] a ∧ Stw ⟨Y, [], w0⟩ [(b1, [.int .i64 3, v1, v2])] [row v1 54 Gn ([(0, 0, 1, 0, 1, 1), (1, 1, 2, 0, 1, 1), (0, 1, 2, 1, 1, 1)] : List (Int × Int × Int × Int × Int × Int)), row v2 56 GE ([(2, 7)] : List (Int × Int))] w) ?_ ?_
 ·
  have H := G1
  clear G1 K1
  refine vc tk 2 W F fun a w W F => ?_
  refine ls W F Aa (A0 (r := Bw) (l := x1) Mp Aa W Aa (CY 0 Aa)).q fun a w W F => ?_
  refine vl tk 2 W F fun a w W F => ?_
  rcases Bool.eq_false_or_eq_true (decide ((x1.length : Int) = 1)) with hb | hb
  ·
   have H := Di (E6 hb) H
   rw [hb] at W
   clear hb
   refine E2 W F (Ae W Aa Aa Aa Aa) Aa (AC Aa) (Am W Aa).q fun a w W F => ?_
   obtain ⟨x3, h2, H⟩ := Ad H
   refine E2 W F (Ae W Aa Aa Aa Aa) Aa (AC Aa) (Aw (r := Bw) Nm W Aa Aa (CY 0 Aa) h2).q fun a w W F => ?_
   refine E2 W F (Ae W Aa Aa Aa Aa) Aa (AC Aa) (Ai (y := Value.agg #[.int .i64 x3.1, .int .i64 x3.2.1, .int .i64 x3.2.2]) (j := 0) (i := 0) W Aa Aa (CY 0 Aa) h2 SA.to VR Aa).q fun a w W F => ?_
   refine E2 W F (Ae W Aa Aa Aa Aa) Aa (AC Aa) (B1 (v := Value.agg #[.int .i64 2, .int .i64 0, .int .i64 0]) Ts W Aa Aa Aa).q fun a w W F => ?_
   refine E2 W F (Ae W Aa Aa Aa Aa) Aa (AC Aa) (OO (t := decide (x3.1 = 2 ∧ x3.2.1 = 0 ∧ x3.2.2 = 0)) VZ (Wc _ _ _ _ _ _) W Aa Aa).q fun a w W F => ?_
   refine vl tk 2 W F fun a w W F => ?_
   rcases Bool.eq_false_or_eq_true (decide (x3.1 = 2 ∧ x3.2.1 = 0 ∧ x3.2.2 = 0)) with hb | hb
   ·
    have H := Di (E6 hb) H
    rw [hb] at W
    clear hb
    refine Jg (Ae W Aa Aa Aa Aa) ?_
    refine ls W F Aa (AW (v := Value.string (bs (EN 6))) W V7 Aa (fun w F => MZ any w 6 _ Aa)) fun a w W F => ?_
    refine E2 W F (Ae W Aa Aa Aa Aa) Aa (AC Aa) (T2 (l := (EN 6)) (m := ([108, 111, 111, 112] : List UInt8)) W Aa Aa).q fun a w W F => ?_
    refine vl tk 2 W F fun a w W F => ?_
    rcases Bool.eq_false_or_eq_true (decide ((EN 6) = ([108, 111, 111, 112] : List UInt8))) with hb | hb
    ·
     have H := Di (E6 hb) H
     rw [hb] at W
     clear hb
     refine E2 W F (Ae W Aa Aa Aa Aa) Aa (AC Aa) (B1 (v := Value.agg #[.int .i64 0, .slice none 0 0, .slice none 0 0]) Vq W Aa Aa Aa).q fun a w W F => ?_
     refine E2 W F (Ae W Aa Aa Aa Aa) Aa (AC Aa) (B1 (v := Value.agg #[.slice none 0 0, .slice none 0 0, .int .i64 0, .int .i64 0, .int .i64 0, .int .i64 0]) UJ W Aa Aa Aa).q fun a w W F => ?_
     refine Jg (Ae W Aa Aa Aa Aa) ?_
     obtain ⟨x4, h3, H⟩ := Ad H
     refine CJ (Ml := []) (Zl := []) (β := Value) (rv := fun x => x) (MM := fun x => []) (ZZ := fun x => [row x 58 Bw x4]) W F H8 Aa Aa (fun hL => GW _ w (Value.slice none 0 0) (Value.slice none 0 0) (Value.slice none 0 0) (Value.slice none 0 0) (Value.slice none 0 0) (Value.slice none 0 0) (0, ([] : List (Int × Int × Int × Int × Int × Int)), ([] : List (Int × Int))) ([] : List (List Int)) ([] : List (List Int)) (([] : List (Int × Int × Int × Int)), ([] : List (Int × Int × List Int)), 0, 0, 0, 0) _ h3 Sl.nil Sl.nil Sl.nil Sl.nil Sl.nil Sl.nil) fun x a w W F => ?_
     obtain ⟨v12, rfl⟩ : ∃ y, y = x := ⟨x, rfl⟩
     have F : Stw ⟨Y, [], w0⟩ [(b1, [.int .i64 3, v1, v2])] [row v12 58 Bw x4, row v11 58 Bw x1, Jn v6 (Rp.slice (Rp.int .i64)) ([([0] : List Int), ([1] : List Int), ([7] : List Int)] : List (List Int)), row v10 46 (Rp.slice (Rp.int .i64)) ([([1] : List Int), ([1] : List Int), ([7] : List Int)] : List (List Int)), Jn v9 (Rp.int .i64) ([7] : List Int), Jn v8 (Rp.int .i64) ([1] : List Int), Jn v7 (Rp.int .i64) ([1] : List Int), Jn v5 (Rp.int .i64) ([7] : List Int), Jn v4 (Rp.int .i64) ([1] : List Int), Jn v3 (Rp.int .i64) ([0] : List Int), row v2 56 GE ([(2, 7)] : List (Int × Int)), row v1 54 Gn ([(0, 0, 1, 0, 1, 1), (1, 1, 2, 0, 1, 1), (0, 1, 2, 1, 1, 1)] : List (Int × Int × Int × Int × Int × Int))] w := F
     refine E2 W F (Ae W Aa Aa Aa Aa) Aa (AC Aa) (A0 (r := Bw) (l := x4) Mp Aa W Aa (CY 0 Aa)).q fun a w W F => ?_
     refine vl tk 4 W F fun a w W F => ?_
     refine Ac ?_
     have F := F.frontZ (i := 10) Aa Aa
     have F := F.frontZ (i := 11) Aa Aa
     have F := F.sub (M' := [(b1, [.int .i64 3, v1, v2])]) (Z' := [row v1 54 Gn ([(0, 0, 1, 0, 1, 1), (1, 1, 2, 0, 1, 1), (0, 1, 2, 1, 1, 1)] : List (Int × Int × Int × Int × Int × Int)), row v2 56 GE ([(2, 7)] : List (Int × Int))]) (List.Sublist.refl _) (List.Sublist.cons_cons _ (List.Sublist.cons_cons _ (List.nil_sublist _)))
     exact ⟨_, H, W.ra Aa, F⟩
    have H := Dg (Fh hb) H
    rw [hb] at W
    clear hb
    refine vl tk 8 W F fun a w W F => ?_
    refine Ac ?_
    have F := F.frontZ (i := 9) Aa Aa
    have F := F.frontZ (i := 10) Aa Aa
    have F := F.sub (M' := [(b1, [.int .i64 3, v1, v2])]) (Z' := [row v1 54 Gn ([(0, 0, 1, 0, 1, 1), (1, 1, 2, 0, 1, 1), (0, 1, 2, 1, 1, 1)] : List (Int × Int × Int × Int × Int × Int)), row v2 56 GE ([(2, 7)] : List (Int × Int))]) (List.Sublist.refl _) (List.Sublist.cons_cons _ (List.Sublist.cons_cons _ (List.nil_sublist _)))
    exact ⟨_, H, W.ra Aa, F⟩
   have H := Dg (Fh hb) H
   rw [hb] at W
   clear hb
   refine vl tk 12 W F fun a w W F => ?_
   refine Ac ?_
   have F := F.frontZ (i := 9) Aa Aa
   have F := F.frontZ (i := 10) Aa Aa
   have F := F.sub (M' := [(b1, [.int .i64 3, v1, v2])]) (Z' := [row v1 54 Gn ([(0, 0, 1, 0, 1, 1), (1, 1, 2, 0, 1, 1), (0, 1, 2, 1, 1, 1)] : List (Int × Int × Int × Int × Int × Int)), row v2 56 GE ([(2, 7)] : List (Int × Int))]) (List.Sublist.refl _) (List.Sublist.cons_cons _ (List.Sublist.cons_cons _ (List.nil_sublist _)))
   exact ⟨_, H, W.ra Aa, F⟩
  have H := Dg (Fh hb) H
  rw [hb] at W
  clear hb
  refine vl tk 19 W F fun a w W F => ?_
  refine Ac ?_
  have F := F.frontZ (i := 9) Aa Aa
  have F := F.frontZ (i := 10) Aa Aa
  have F := F.sub (M' := [(b1, [.int .i64 3, v1, v2])]) (Z' := [row v1 54 Gn ([(0, 0, 1, 0, 1, 1), (1, 1, 2, 0, 1, 1), (0, 1, 2, 1, 1, 1)] : List (Int × Int × Int × Int × Int × Int)), row v2 56 GE ([(2, 7)] : List (Int × Int))]) (List.Sublist.refl _) (List.Sublist.cons_cons _ (List.Sublist.cons_cons _ (List.nil_sublist _)))
  exact ⟨_, H, W.ra Aa, F⟩
 rintro a w ⟨x2, hj, W, F⟩
 have hj := AA hj
 subst hj
 have H := K1
 clear G1 K1
 refine Ao ?_
 have H := AA H
 subst H
 refine AG (.inl Aa) W F Aa (Al W Aa) ?_
 exact ⟨rfl, F.done⟩
theorem M7 : type_of% Try.underlying87 := Try.underlying87
theorem H6 : Has Try.prog 6 := Ct Try.func6
theorem Vb : (Try.prog.info? 40).bind (·.zero) = some (.agg #[.slice none 0 0, .slice none 0 0, .int .i64 0, .int .i64 0, .int .i64 0, .int .i64 0]) := by kernel_rfl
theorem Su : Et Try.prog 28 87 4 32 := Et.of Sm (by kernel_rfl) (by kernel_rfl) (by kernel_rfl) (by decide)
def V2 (a : Int × Int × Int × Int) : List Value := [.int .i64 a.1, .int .i64 a.2.1, .int .i64 a.2.2.1, .int .i64 a.2.2.2]
theorem Sq : Fl LI V2 := (Fl.pair Fl.int (Fl.pair Fl.int (Fl.pair Fl.int Fl.int)))
theorem Wd : Bt Try.prog 78 [.int .i64 0, .int .i64 0, .int .i64 0, .int .i64 0] [(0, 1), (1, 1), (2, 1), (3, 1)] := ⟨⟨.agg #[.int .i64 0, .int .i64 0, .int .i64 0, .int .i64 0], by kernel_rfl, rfl⟩, ⟨_, IY, fun w => by kernel_rfl⟩⟩
noncomputable def FR (p0 : List (Int × Int × Int × Int)) : ((List (Int × Int × Int × Int)) × Int) → Option (((List (Int × Int × Int × Int)) × Int) ⊕ (List (Int × Int × Int × Int)))
  | (x2, x3) => (if x3 < (p0.length : Int) then (ix p0 x3).bind fun x4 => (ix p0 x3).bind fun x5 => (ix p0 x3).bind fun x6 => (ix p0 x3).bind fun x7 => (FD x2 ([(x4.1, x5.2.1, x6.2.2.1, x7.2.2.2)] : List (Int × Int × Int × Int))).bind fun x8 => some (.inl (x8, A7 (x3 + 1))) else some (.inr x2))
noncomputable def JB (p0 : List (Int × Int × Int × Int)) : Option (List (Int × Int × Int × Int)) := (An (FR p0) ([], 0)).bind fun x1 => some x1
theorem Li (Y : Nat → Prop) (w0 : World) (v1 : Value) (p0 : List (Int × Int × Int × Int)) (r : (List (Int × Int × Int × Int))) (H : JB p0 = some r) (h_v1 : Sl w0 (NX []) LI v1 p0) :
    Calls Try.prog 22 #[v1] w0 fun e w' => ∃ x : Value, e = .returned (x) ∧ Stw ⟨Y, [], w0⟩ [] [row (x) 78 Hg r] w' := by
 refine enter Try.func22 Aa Try.ntmps22 Aa fun a W => ?_
 have F := Stw.start Y w0
 unfold JB at H
 refine vc tk 10 W F fun a w W F => ?_
 obtain ⟨o1, G1, K1⟩ := Ad H
 refine Av (fun a w => ∃ x1 : List (Int × Int × Int × Int), ∃ v2 : Value, some (x1) = some o1 ∧ Fr 36 [] [(2, .slice none 0 0), (3, v2)] a ∧ Stw ⟨Y, [], w0⟩ [] [row v2 78 Hg x1] w) ?_ ?_
 ·
  have H := G1
  clear G1 K1
  refine vc tk 6 W F fun a w W F => ?_
  have F := F.nilRow 78 Hg
  refine AP H (fun s a w => ∃ v3 : Value, Fr 36 [] [(0, v1), (2, .slice none 0 0), (3, v3), (4, .int .i64 s.2)] a ∧ Stw ⟨Y, [], w0⟩ [] [row v3 78 Hg s.1] w) ⟨(Value.slice none 0 0), W.ra Aa, F⟩ fun s o a w H L2 hR => ?_
  obtain ⟨x2, x3⟩ := s
  obtain ⟨v3, W, F⟩ := hR
  have W : Fr 36 [] [(0, v1), (2, .slice none 0 0), (3, v3), (4, .int .i64 x3)] a := W
  have F : Stw ⟨Y, [], w0⟩ [] [row v3 78 Hg x2] w := F
  rw [FR] at H
  refine vc tk 5 W F fun a w W F => ?_
  refine ls W F Aa (A0 (r := LI) (l := p0) Sm Aa W Aa (Ab h_v1)).q fun a w W F => ?_
  refine Cc tk 3 W F fun a w W F => ?_
  refine A3 W Aa H (fun W H => ?_) fun W H => ?_
  ·
   refine Ie tk 4 W F fun a w W F => ?_
   refine RW 22 [0] [1, 2, 3, 4, 5, 6, 7, 8, 9, 10, 11, 12, 13, 14, 15, 16, 17, 18, 19, 20, 21] (fun ch a d v w h => by cases d <;> exact h) F MO (by kernel_rfl) ?_
   refine hm W Aa Aa Aa fun a W => ?_
   refine SX ?_
   iterate 2 refine hs W Aa Aa Aa (Am W Aa).q fun a W => ?_
   obtain ⟨x4, h1, H⟩ := Ad H
   refine hs W Aa Aa Aa (Aw (r := LI) Su W Aa Aa (Ab h_v1) h1).q fun a W => ?_
   refine hs W Aa Aa Aa (Ah M7 Aa Aa Aa T3 W Aa (Fi v1 + (x3).toNat * 4) Aa).q fun a W => ?_
   refine hs W Aa Aa Aa (Ai (y := Value.int .i64 x4.1) (j := 0) (i := x3) W Aa Aa (Ab h_v1) h1 Sq.to T3 Aa).q fun a W => ?_
   iterate 2 refine hs W Aa Aa Aa (Am W Aa).q fun a W => ?_
   obtain ⟨x5, h2, H⟩ := Ad H
   refine hs W Aa Aa Aa (Aw (r := LI) Su W Aa Aa (Ab h_v1) h2).q fun a W => ?_
   refine hs W Aa Aa Aa (Ah M7 Aa Aa Aa T3 W Aa (Fi v1 + (x3).toNat * 4 + 1) Aa).q fun a W => ?_
   refine hs W Aa Aa Aa (Ai (y := Value.int .i64 x5.2.1) (j := 1) (i := x3) W Aa Aa (Ab h_v1) h2 Sq.to T3 Aa).q fun a W => ?_
   iterate 2 refine hs W Aa Aa Aa (Am W Aa).q fun a W => ?_
   obtain ⟨x6, h3, H⟩ := Ad H
   refine hs W Aa Aa Aa (Aw (r := LI) Su W Aa Aa (Ab h_v1) h3).q fun a W => ?_
   refine hs W Aa Aa Aa (Ah M7 Aa Aa Aa T3 W Aa (Fi v1 + (x3).toNat * 4 + 2) Aa).q fun a W => ?_
   refine hs W Aa Aa Aa (Ai (y := Value.int .i64 x6.2.2.1) (j := 2) (i := x3) W Aa Aa (Ab h_v1) h3 Sq.to T3 Aa).q fun a W => ?_
   iterate 2 refine hs W Aa Aa Aa (Am W Aa).q fun a W => ?_
   obtain ⟨x7, h4, H⟩ := Ad H
   refine hs W Aa Aa Aa (Aw (r := LI) Su W Aa Aa (Ab h_v1) h4).q fun a W => ?_
   refine hs W Aa Aa Aa (Ah M7 Aa Aa Aa T3 W Aa (Fi v1 + (x3).toNat * 4 + 3) Aa).q fun a W => ?_
   refine hs W Aa Aa Aa (Ai (y := Value.int .i64 x7.2.2.2) (j := 3) (i := x3) W Aa Aa (Ab h_v1) h4 Sq.to T3 Aa).q fun a W => ?_
   refine hs W Aa Aa Aa (B1 (v := Value.agg #[.int .i64 x4.1, .int .i64 x5.2.1, .int .i64 x6.2.2.1, .int .i64 x7.2.2.2]) Wd W Aa Aa Aa).q fun a W => ?_
   refine TM fun w F => ?_
   have F : Stw ⟨Y, [], w0⟩ [] [row v3 78 Hg x2] w := F
   refine CQ (z := Value.agg #[.int .i64 0, .int .i64 0, .int .i64 0, .int .i64 0]) (cs := [.int .i64 x4.1, .int .i64 x5.2.1, .int .i64 x6.2.2.1, .int .i64 x7.2.2.2]) Hg ([(x4.1, x5.2.1, x6.2.2.1, x7.2.2.2)] : List (Int × Int × Int × Int)) W F Aa TR UL Aa Aa Aa Aa Aa Aa (UE.repL _ _ ([(x4.1, x5.2.1, x6.2.2.1, x7.2.2.2)] : List (Int × Int × Int × Int))) fun v4 a w W F => ?_
   obtain ⟨x8, h5, H⟩ := Ad H
   refine Cp (r := Hg) (i := 1) W F Aa TR Aa Aa Aa Aa (Db F 0 Aa) h5 Aa fun v5 a w W F => ?_
   have F : Stw ⟨Y, [], w0⟩ [] [row v5 78 Hg x8, row v4 78 Hg ([(x4.1, x5.2.1, x6.2.2.1, x7.2.2.2)] : List (Int × Int × Int × Int))] w := F
   refine vl tk 2 W F fun a w W F => ?_
   refine Aq ?_
   refine vn tk 5 W F fun a w W F => ?_
   refine Ac ?_
   have F := F.sub (M' := []) (Z' := [row v5 78 Hg x8]) (List.Sublist.refl _) (List.Sublist.cons_cons _ (List.nil_sublist _))
   exact ⟨_, H, (v5), W.ra Aa, F⟩
  refine AJ ?_
  iterate 2 refine A6 ?_
  refine AM (Ac ?_)
  have H := L2 _ H
  exact ⟨_, (v3), H, W.ra Aa, F⟩
 rintro a w ⟨x1, v2, hj, W, F⟩
 have hj := AA hj
 subst hj
 have H := K1
 clear G1 K1
 refine vc tk 6 W F fun a w W F => ?_
 refine Ao ?_
 have H := AA H
 subst H
 refine AG (.inl Aa) W F Aa (Al W Aa) ?_
 exact ⟨(v2), Aa, F⟩
end Go.Proofs.Ythhoflfhegfmcaa
