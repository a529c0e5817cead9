/- The functions of layer 25, GX. Conditions: none. -/
import Derived.Test.YthhoflfhegfmcaacA5
namespace Go.Proofs.Ythhoflfhegfmcaa
open Go Go.RowKit
set_option linter.unusedVariables false
set_option linter.unusedSimpArgs false
set_option maxRecDepth 20000
set_option maxHeartbeats 1600000
noncomputable def FP (p1 : List (Int × Int)) (x1 : List Int) (x6 : Int) : (List Int × Int) → Option ((List Int × Int) ⊕ (List Int))
  | (x8, x9) => (if x9 < (x1.length : Int) then (((ix x1 x9).bind fun x12 => (JG p1 x12 x6).bind fun x13 => (if x13 = true then (KQ x8 x6).bind fun x14 => some (!x14) else some false)).bind fun x11 => (if x11 = true then (FD x8 ([x6] : List Int)).bind fun x15 => some x15 else some x8)).bind fun x10 => some (.inl (x10, A7 (x9 + 1))) else some (.inr x8))
noncomputable def FK (p0 : Int) (p1 : List (Int × Int)) (x1 : List Int) : (List Int × Int) → Option ((List Int × Int) ⊕ (List Int))
  | (x5, x6) => (if x6 < p0 then (An (FP p1 x1 x6) (x5, 0)).bind fun x7 => some (.inl (x7, A7 (x6 + 1))) else some (.inr x5))
noncomputable def EV (p0 : Int) (p1 : List (Int × Int)) (p3 : Int) : (List Int × Int) → Option ((List Int × Int) ⊕ (Unit ⊕ Int))
  | (x1, x2) => (if x2 ≤ p0 then EZ ((An (FK p0 p1 x1) ([], 0)).bind fun x4 => (KQ x4 p3).bind fun x16 => (if x16 = true then some (.inr (.inr (.inr x2))) else some (.inl x4))) fun x3 => some (.inl (x3, A7 (x2 + 1))) else some (.inr (.inl ())))
noncomputable def Jo (p0 : Int) (p1 : List (Int × Int)) (p2 : Int) (p3 : Int) : Option Int := EZ (An (EV p0 p1 p3) (([p2] : List Int), 1)) fun _ => some 0
noncomputable def Ec (p0 : Int) (p1 : List (Int × Int)) (x2 : Int) (x5 : Int) (x6 : List Int) : (Int × Int) → Option ((Int × Int) ⊕ Int)
  | (x8, x9) => (if 0 ≤ x9 then (((ix x6 (A7 ((x6.length : Int) - 1))).bind fun x12 => (JG p1 x12 x9).bind fun x13 => (if x13 = true then (Jo p0 p1 x9 x2).bind fun x14 => some (decide (x14 = (A7 (x5 - 1)))) else some false)).bind fun x11 => (if x11 = true then some x9 else some x8)).bind fun x10 => some (.inl (x10, A7 (x9 - 1))) else some (.inr x8))
noncomputable def FJ (p0 : Int) (p1 : List (Int × Int)) (x2 : Int) : (Int × List Int) → Option ((Int × List Int) ⊕ (List Int))
  | (x5, x6) => (if 1 < x5 then (An (Ec p0 p1 x2 x5 x6) ((-1), A7 (p0 - 1))).bind fun x7 => (FD x6 ([x7] : List Int)).bind fun x15 => some (.inl (A7 (x5 - 1), x15)) else some (.inr x6))
noncomputable def Im (p0 : Int) (p1 : List (Int × Int)) : Int → Option (Int ⊕ (Unit ⊕ (List Int)))
  | x2 => (if x2 < p0 then EZ ((Jo p0 p1 x2 x2).bind fun x3 => (if x3 = 0 then some (.inl ()) else (An (FJ p0 p1 x2) (x3, ([x2] : List Int))).bind fun x4 => some (.inr (.inr (.inr x4))))) fun _ => some (.inl (A7 (x2 + 1))) else some (.inr (.inl ())))
noncomputable def In (p0 : Int) (p1 : List (Int × Int)) : Option (List Int) := (J6 p0 p1).bind fun x1 => (if (!x1) = true then some ([] : List Int) else EZ (An (Im p0 p1) 0) fun _ => some ([] : List Int))
noncomputable def EX (p3 : List Int) (x3 : Int) : (Bool × Int) → Option ((Bool × Int) ⊕ Bool)
  | (x6, x7) => (if x7 < (p3.length : Int) then (if x6 = true then some (.inl (true, A7 (x7 + 1))) else (ix p3 x7).bind fun x8 => some (.inl (decide (x8 = x3), A7 (x7 + 1)))) else some (.inr x6))
noncomputable def EY (p0 : List (List Int)) (p1 : (List (Int × Int × Int × Int)) × (List (Int × Int × List Int)) × Int × Int × Int × Int) (p2 : Int) (x3 : Int) : (Bool × List Int × Int) → Option ((Bool × List Int × Int) ⊕ (List Int))
  | (x10, x11, x12) => (ix p0 x3).bind fun x13 => (if x12 < (x13.length : Int) then (if x10 = true then (Kh p0 p1 (A7 (p2 + 1)) x3 x12).bind fun x16 => (FD x11 ([x16] : List Int)).bind fun x17 => some (true, x17) else (Kh p0 p1 p2 x3 x12).bind fun x18 => (FD x11 ([x18] : List Int)).bind fun x19 => some (false, x19)).bind fun (x14, x15) => some (.inl (x14, x15, A7 (x12 + 1))) else some (.inr x11))
noncomputable def FQ (p0 : List (List Int)) (p1 : (List (Int × Int × Int × Int)) × (List (Int × Int × List Int)) × Int × Int × Int × Int) (p2 : Int) (p3 : List Int) : (List (List Int) × Int) → Option ((List (List Int) × Int) ⊕ (List (List Int)))
  | (x2, x3) => (if x3 < (p0.length : Int) then ((An (EX p3 x3) (false, 0)).bind fun x5 => (An (EY p0 p1 p2 x3) (x5, [], 0)).bind fun x9 => (FD x2 ([x9] : List (List Int))).bind fun x20 => some x20).bind fun x4 => some (.inl (x4, A7 (x3 + 1))) else some (.inr x2))
noncomputable def Hx (p0 : List (List Int)) (p1 : (List (Int × Int × Int × Int)) × (List (Int × Int × List Int)) × Int × Int × Int × Int) (p2 : Int) (p3 : List Int) : Option (List (List Int)) := (An (FQ p0 p1 p2 p3) ([], 0)).bind fun x1 => some x1
theorem Lo (Y : Nat → Prop) (w0 : World) (v1 : Value) (v2 : Value) (v3 : Value) (v4 : Value) (p0 : List (List Int)) (p1 : (List (Int × Int × Int × Int)) × (List (Int × Int × List Int)) × Int × Int × Int × Int) (p2 : Int) (p3 : List Int) (r : List (List Int)) (H : Hx p0 p1 p2 p3 = some r) (h_v1 : Sl w0 (NX []) (Rp.slice (Rp.int .i64)) v1 p0) (h_v2 : Sl w0 (NX []) LI v2 p1.1) (h_v3 : Sl w0 (NX []) Oh v3 p1.2.1) (h_v4 : Sl w0 (NX []) (Rp.int .i64) v4 p3) :
    Calls Try.prog 14 #[v1, .agg #[v2, v3, .int .i64 p1.2.2.1, .int .i64 p1.2.2.2.1, .int .i64 p1.2.2.2.2.1, .int .i64 p1.2.2.2.2.2], .int .i64 p2, v4] w0 fun e w' => ∃ x : Value, e = .returned (x) ∧ Stw ⟨Y, [], w0⟩ [] [row (x) 46 (Rp.slice (Rp.int .i64)) r] w' := by
 refine enter Try.func14 Aa Try.ntmps14 Aa fun a W => ?_
 have F := Stw.start Y w0
 obtain ⟨v5, h1, h_v1⟩ := h_v1.ex Bn
 obtain ⟨v6, h2, h_v3⟩ := h_v3.ex HY
 unfold Hx at H
 refine vc tk 2 W F fun a w W F => ?_
 refine Cq (cs := [v2, v3, .int .i64 p1.2.2.1, .int .i64 p1.2.2.2.1, .int .i64 p1.2.2.2.2.1, .int .i64 p1.2.2.2.2.2]) W F Aa Aa Aa fun b1 a w W F => ?_
 refine Cc tk 8 W F fun a w W F => ?_
 obtain ⟨o1, G1, K1⟩ := Ad H
 refine Av (fun a w => ∃ x1 : List (List Int), ∃ v7 : Value, some (x1) = some o1 ∧ Fr 70 [] [(8, .slice none 0 0), (9, v7)] a ∧ Stw ⟨Y, [], w0⟩ (DY b1 v2 v3 p1) [row v7 46 (Rp.slice (Rp.int .i64)) x1] w) ?_ ?_
 ·
  have H := G1
  clear G1 K1
  refine vc tk 6 W F fun a w W F => ?_
  have F := F.nilRow 46 (Rp.slice (Rp.int .i64))
  refine AP H (fun s a w => ∃ v8 : Value, Fr 70 [] [(0, v1), (2, .int .i64 p2), (3, v4), (5, .pointer (some ⟨b1, 0, none⟩)), (8, .slice none 0 0), (9, v8), (10, .int .i64 s.2)] a ∧ Stw ⟨Y, [], w0⟩ (DY b1 v2 v3 p1) [row v8 46 (Rp.slice (Rp.int .i64)) s.1] w) ⟨(Value.slice none 0 0), W.ra Aa, F⟩ fun s o a w H L2 hR => ?_
  obtain ⟨x2, x3⟩ := s
  obtain ⟨v8, W, F⟩ := hR
  have W : Fr 70 [] [(0, v1), (2, .int .i64 p2), (3, v4), (5, .pointer (some ⟨b1, 0, none⟩)), (8, .slice none 0 0), (9, v8), (10, .int .i64 x3)] a := W
  have F : Stw ⟨Y, [], w0⟩ (DY b1 v2 v3 p1) [row v8 46 (Rp.slice (Rp.int .i64)) x2] w := F
  rw [FQ] at H
  refine vc tk 5 W F fun a w W F => ?_
  refine ls W F Aa (A0 (r := (Rp.slice (Rp.int .i64))) (l := p0) I7 Aa W Aa (Ak Bn h1 (Ab h_v1))).q fun a w W F => ?_
  refine Cc tk 3 W F fun a w W F => ?_
  refine A3 W Aa H (fun W H => ?_) fun W H => ?_
  ·
   refine AD (Ac ?_)
   obtain ⟨o3, G3, K3⟩ := Ad H
   refine Av (fun a w => ∃ x4 : List (List Int), ∃ v9 : Value, some (x4) = some o3 ∧ Fr 70 [] [(0, v1), (2, .int .i64 p2), (3, v4), (5, .pointer (some ⟨b1, 0, none⟩)), (8, .slice none 0 0), (9, v9), (10, .int .i64 x3)] a ∧ Stw ⟨Y, [], w0⟩ (DY b1 v2 v3 p1) [row v9 46 (Rp.slice (Rp.int .i64)) x4] w) ?_ ?_
   ·
    have H := G3
    clear G3 K3
    refine vc tk 6 W F fun a w W F => ?_
    obtain ⟨o4, G4, K4⟩ := Ad H
    refine Av (fun a w => ∃ x5 : Bool, some (x5) = some o4 ∧ Fr 70 [] [(0, v1), (2, .int .i64 p2), (3, v4), (5, .pointer (some ⟨b1, 0, none⟩)), (8, .slice none 0 0), (9, v8), (10, .int .i64 x3), (11, .bool x5)] a ∧ Stw ⟨Y, [], w0⟩ (DY b1 v2 v3 p1) [row v8 46 (Rp.slice (Rp.int .i64)) x2] w) ?_ ?_
    ·
     have H := G4
     clear G4 K4
     refine vc tk 6 W F fun a w W F => ?_
     refine AP H (fun s a w => Fr 70 [] [(0, v1), (2, .int .i64 p2), (3, v4), (5, .pointer (some ⟨b1, 0, none⟩)), (8, .slice none 0 0), (9, v8), (10, .int .i64 x3), (11, .bool s.1), (12, .int .i64 s.2)] a ∧ Stw ⟨Y, [], w0⟩ (DY b1 v2 v3 p1) [row v8 46 (Rp.slice (Rp.int .i64)) x2] w) ⟨W.ra Aa, F⟩ fun s o a w H L5 hR => ?_
     obtain ⟨x6, x7⟩ := s
     obtain ⟨W, F⟩ := hR
     have W : Fr 70 [] [(0, v1), (2, .int .i64 p2), (3, v4), (5, .pointer (some ⟨b1, 0, none⟩)), (8, .slice none 0 0), (9, v8), (10, .int .i64 x3), (11, .bool x6), (12, .int .i64 x7)] a := W
     have F : Stw ⟨Y, [], w0⟩ (DY b1 v2 v3 p1) [row v8 46 (Rp.slice (Rp.int .i64)) x2] w := F
     rw [EX] at H
     refine vc tk 5 W F fun a w W F => ?_
     refine ls W F Aa (A0 (r := (Rp.int .i64)) (l := p3) GS Aa W Aa (Ab h_v4)).q fun a w W F => ?_
     refine Cc tk 3 W F fun a w W F => ?_
     refine A3 W Aa H (fun W H => ?_) fun W H => ?_
     ·
      refine Ie tk 7 W F fun a w W F => ?_
      rcases Bool.eq_false_or_eq_true x6 with hb | hb
      ·
       have H := Di hb H
       rw [hb] at W
       clear hb
       refine vl tk 9 W F fun a w W F => ?_
       refine Aq ?_
       refine vn tk 5 W F fun a w W F => ?_
       refine Ac ?_
       exact ⟨_, H, W.ra Aa, F⟩
      have H := Dg (by rw [hb]; decide) H
      rw [hb] at W
      clear hb
      refine vl tk 2 W F fun a w W F => ?_
      obtain ⟨x8, h3, H⟩ := Ad H
      refine E2 W F (Ae W Aa Aa Aa Aa) Aa (AC Aa) (Aw (r := (Rp.int .i64)) HT W Aa Aa (Ab h_v4) h3).q fun a w W F => ?_
      refine E2 W F (Ae W Aa Aa Aa Aa) Aa (AC Aa) (Ai (y := Value.int .i64 x8) (j := 0) (i := x7) W Aa Aa (Ab h_v4) h3 Fl.int.to T3 Aa).q fun a w W F => ?_
      refine vl tk 5 W F fun a w W F => ?_
      refine Aq ?_
      refine vn tk 5 W F fun a w W F => ?_
      refine Ac ?_
      exact ⟨_, H, W.ra Aa, F⟩
     refine AJ ?_
     iterate 2 refine A6 ?_
     refine AM (Ac ?_)
     have H := L5 _ H
     exact ⟨_, H, W.ra Aa, F⟩
    rintro a w ⟨x5, hj, W, F⟩
    have hj := AA hj
    subst hj
    have H := K4
    clear G4 K4
    refine vc tk 5 W F fun a w W F => ?_
    obtain ⟨o6, G6, K6⟩ := Ad H
    refine Av (fun a w => ∃ x9 : List Int, ∃ v10 : Value, some (x9) = some o6 ∧ Fr 70 [] [(0, v1), (2, .int .i64 p2), (3, v4), (5, .pointer (some ⟨b1, 0, none⟩)), (8, .slice none 0 0), (9, v8), (10, .int .i64 x3), (13, v10)] a ∧ Stw ⟨Y, [], w0⟩ (DY b1 v2 v3 p1) [row v8 46 (Rp.slice (Rp.int .i64)) x2, row v10 3 (Rp.int .i64) x9] w) ?_ ?_
    ·
     have H := G6
     clear G6 K6
     refine vc tk 6 W F fun a w W F => ?_
     have F := F.nilRow 3 (Rp.int .i64)
     have F := F.frontZ (i := 1) Aa Aa
     refine AP H (fun s a w => ∃ v11 : Value, Fr 70 [] [(0, v1), (2, .int .i64 p2), (3, v4), (5, .pointer (some ⟨b1, 0, none⟩)), (8, .slice none 0 0), (9, v8), (10, .int .i64 x3), (11, .bool s.1), (13, v11), (14, .int .i64 s.2.2)] a ∧ Stw ⟨Y, [], w0⟩ (DY b1 v2 v3 p1) [row v8 46 (Rp.slice (Rp.int .i64)) x2, row v11 3 (Rp.int .i64) s.2.1] w) ⟨(Value.slice none 0 0), W.ra Aa, F⟩ fun s o a w H L7 hR => ?_
     obtain ⟨x10, x11, x12⟩ := s
     obtain ⟨v11, W, F⟩ := hR
     have W : Fr 70 [] [(0, v1), (2, .int .i64 p2), (3, v4), (5, .pointer (some ⟨b1, 0, none⟩)), (8, .slice none 0 0), (9, v8), (10, .int .i64 x3), (11, .bool x10), (13, v11), (14, .int .i64 x12)] a := W
     have F : Stw ⟨Y, [], w0⟩ (DY b1 v2 v3 p1) [row v8 46 (Rp.slice (Rp.int .i64)) x2, row v11 3 (Rp.int .i64) x11] w := F
     rw [EY] at H
     refine vc tk 2 W F fun a w W F => ?_
     obtain ⟨v12, h4, F⟩ := F.exR Bn
     refine vc tk 4 W F fun a w W F => ?_
     obtain ⟨x13, h5, H⟩ := Ad H
     obtain ⟨v13, h6, h7⟩ := CE h1 h5
     have h8 : Em v13 = [(v13.1)] := congrArg (fun q : List Int => ([(v13.1)] : List Value)) h7
     refine ls W F Aa (Aw (r := (Rp.vsl (Rp.int .i64))) LF W Aa Aa (Ab h_v1) h6).q fun a w W F => ?_
     refine ls W F Aa (Ai (y := (v13.1)) (j := 0) (i := x3) (enc := Em) W Aa Aa (Ab h_v1) h6 Ik Kj (by rw [h8]; rfl)).q fun a w W F => ?_
     refine ls W F Aa (A0 (r := (Rp.int .i64)) (l := x13) GS Aa W Aa (BE (Ab h_v1) h6 Cd.here (congrArg (fun q : List Int => q) h7))).q fun a w W F => ?_
     refine Cc tk 3 W F fun a w W F => ?_
     refine A3 W Aa H (fun W H => ?_) fun W H => ?_
     ·
      refine AD (Ac ?_)
      obtain ⟨o8, G8, K8⟩ := Ad H
      refine Av (fun a w => ∃ x14 : Bool, ∃ x15 : List Int, ∃ v14 : Value, some ((x14, x15)) = some o8 ∧ Fr 70 [] [(0, v1), (2, .int .i64 p2), (3, v4), (5, .pointer (some ⟨b1, 0, none⟩)), (8, .slice none 0 0), (9, v8), (10, .int .i64 x3), (11, .bool x14), (13, v14), (14, .int .i64 x12)] a ∧ Stw ⟨Y, [], w0⟩ (DY b1 v2 v3 p1) [row v8 46 (Rp.slice (Rp.int .i64)) x2, row v14 3 (Rp.int .i64) x15] w) ?_ ?_
      ·
       have H := G8
       clear G8 K8
       refine vc tk 6 W F fun a w W F => ?_
       refine GZ W Aa (fun hb => ?_) fun hb => ?_
       ·
        have H := Di hb H
        rw [hb] at W
        clear hb
        refine Ha tk 8 [0] W F (ai fun a w W F => ?_)
        obtain ⟨x16, h9, H⟩ := Ad H
        refine ls W F Aa (AW (v := Value.int .i64 x16) W Vv Aa (fun w F => NQ any w (v1) (v2) (v3) p0 p1 (A7 (p2 + 1)) x3 x12 _ h9 (CW (Ak Bn h1 (Ab h_v1)) F) (CW (Ab h_v2) F) (CW (Ak HY h2 (Ab h_v3)) F))) fun a w W F => ?_
        refine CQ (z := Value.int .i64 0) (cs := [.int .i64 x16]) (Rp.int .i64) ([x16] : List Int) W F Aa HT Z3 Aa Aa Aa Aa Aa Aa (Fl.int.repL _ _ ([x16] : List Int)) fun v15 a w W F => ?_
        obtain ⟨x17, h10, H⟩ := Ad H
        refine Cp (r := (Rp.int .i64)) (i := 2) W F Aa HT Aa Aa Aa Aa (Db F 0 Aa) h10 Aa fun v16 a w W F => ?_
        have F : Stw ⟨Y, [], w0⟩ (DY b1 v2 v3 p1) [row v16 3 (Rp.int .i64) x17, row v15 3 (Rp.int .i64) ([x16] : List Int), row v8 46 (Rp.vsl (Rp.int .i64)) v12] w := F
        refine vl tk 2 W F fun a w W F => ?_
        refine Aq (Ac ?_)
        have F := F.frontZ (i := 2) Aa Aa
        have F := F.hideR Bn h4
        have F := F.frontZ (i := 1) Aa Aa
        have F := F.frontZ (i := 1) Aa Aa
        have F := F.sub (M' := (DY b1 v2 v3 p1)) (Z' := [row v8 46 (Rp.slice (Rp.int .i64)) x2, row v16 3 (Rp.int .i64) x17]) (List.Sublist.refl _) (List.Sublist.cons_cons _ (List.Sublist.cons_cons _ (List.nil_sublist _)))
        exact ⟨_, _, (v16), H, W.ra Aa, F⟩
       have H := Dg (by rw [hb]; decide) H
       rw [hb] at W
       clear hb
       refine Ha tk 7 [0] W F (ai fun a w W F => ?_)
       obtain ⟨x18, h11, H⟩ := Ad H
       refine ls W F Aa (AW (v := Value.int .i64 x18) W Vv Aa (fun w F => NQ any w (v1) (v2) (v3) p0 p1 p2 x3 x12 _ h11 (CW (Ak Bn h1 (Ab h_v1)) F) (CW (Ab h_v2) F) (CW (Ak HY h2 (Ab h_v3)) F))) fun a w W F => ?_
       refine CQ (z := Value.int .i64 0) (cs := [.int .i64 x18]) (Rp.int .i64) ([x18] : List Int) W F Aa HT Z3 Aa Aa Aa Aa Aa Aa (Fl.int.repL _ _ ([x18] : List Int)) fun v17 a w W F => ?_
       obtain ⟨x19, h12, H⟩ := Ad H
       refine Cp (r := (Rp.int .i64)) (i := 2) W F Aa HT Aa Aa Aa Aa (Db F 0 Aa) h12 Aa fun v18 a w W F => ?_
       have F : Stw ⟨Y, [], w0⟩ (DY b1 v2 v3 p1) [row v18 3 (Rp.int .i64) x19, row v17 3 (Rp.int .i64) ([x18] : List Int), row v8 46 (Rp.vsl (Rp.int .i64)) v12] w := F
       refine vl tk 2 W F fun a w W F => ?_
       refine Aq (Ac ?_)
       have F := F.frontZ (i := 2) Aa Aa
       have F := F.hideR Bn h4
       have F := F.frontZ (i := 1) Aa Aa
       have F := F.frontZ (i := 1) Aa Aa
       have F := F.sub (M' := (DY b1 v2 v3 p1)) (Z' := [row v8 46 (Rp.slice (Rp.int .i64)) x2, row v18 3 (Rp.int .i64) x19]) (List.Sublist.refl _) (List.Sublist.cons_cons _ (List.Sublist.cons_cons _ (List.nil_sublist _)))
       exact ⟨_, _, (v18), H, W.ra Aa, F⟩
      rintro a w ⟨x14, x15, v14, hj, W, F⟩
      have hj := AA hj
      subst hj
      have H := K8
      clear G8 K8
      refine vc tk 5 W F fun a w W F => ?_
      refine Ac ?_
      have F := F.frontZ (i := 1) Aa Aa
      have F := F.frontZ (i := 1) Aa Aa
      exact ⟨_, H, (v14), W.ra Aa, F⟩
     refine AJ ?_
     iterate 2 refine A6 ?_
     refine AM (Ac ?_)
     have F := F.hideR Bn h4
     have F := F.frontZ (i := 1) Aa Aa
     have F := F.frontZ (i := 1) Aa Aa
     have H := L7 _ H
     exact ⟨_, (v11), H, W.ra Aa, F⟩
    rintro a w ⟨x9, v10, hj, W, F⟩
    have hj := AA hj
    subst hj
    have H := K6
    clear G6 K6
    refine vc tk 3 W F fun a w W F => ?_
    have F := F.frontZ (i := 1) Aa Aa
    have F := F.freeze
    refine CQ (z := Value.slice none 0 0) (cs := [v10]) (Rp.slice (Rp.int .i64)) ([x9] : List (List Int)) W F Aa LF Uz Aa Aa Aa (AS Aa (BD (F.oneF (k := 0) Aa)) Aa DW) Aa Aa ⟨[v10], _, Aa, ⟨_, Aa, (F.item (i := 0) Aa)⟩, Aa⟩ fun v19 a w W F => ?_
    obtain ⟨x20, h13, H⟩ := Ad H
    refine Cp (r := (Rp.slice (Rp.int .i64))) (i := 2) W F Aa LF Aa Aa Aa Aa (Db F 0 Aa) h13 Aa fun v20 a w W F => ?_
    have F : Stw ⟨Y, [], w0⟩ (DY b1 v2 v3 p1) [row v20 46 (Rp.slice (Rp.int .i64)) x20, row v19 46 (Rp.slice (Rp.int .i64)) ([x9] : List (List Int)), Jn v10 (Rp.int .i64) x9] w := F
    refine vl tk 2 W F fun a w W F => ?_
    refine Aq (Ac ?_)
    have F := F.sub (M' := (DY b1 v2 v3 p1)) (Z' := [row v20 46 (Rp.slice (Rp.int .i64)) x20]) (List.Sublist.refl _) (List.Sublist.cons_cons _ (List.nil_sublist _))
    exact ⟨_, (v20), H, W.ra Aa, F⟩
   rintro a w ⟨x4, v9, hj, W, F⟩
   have hj := AA hj
   subst hj
   have H := K3
   clear G3 K3
   refine vc tk 5 W F fun a w W F => ?_
   refine Ac ?_
   exact ⟨_, H, (v9), W.ra Aa, F⟩
  refine AJ ?_
  iterate 2 refine A6 ?_
  refine AM (Ac ?_)
  have H := L2 _ H
  exact ⟨_, (v8), H, W.ra Aa, F⟩
 rintro a w ⟨x1, v7, hj, W, F⟩
 have hj := AA hj
 subst hj
 have H := K1
 clear G1 K1
 refine vc tk 6 W F fun a w W F => ?_
 refine Ao ?_
 have H := AA H
 subst H
 refine AG (.inl Aa) W F Aa (Al W Aa) ?_
 have F := F.sub (M' := []) (Z' := [row v7 46 (Rp.slice (Rp.int .i64)) x1]) (List.nil_sublist _) (List.Sublist.refl _)
 exact ⟨(v7), Aa, F⟩
end Go.Proofs.Ythhoflfhegfmcaa
