/- The functions of layer 25, JA. Conditions: none. -/
import Derived.Test.YthhoflfhegfmcaaGreatcA0
namespace Go.Proofs.YthhoflfhegfmcaaGreat
noncomputable section
open Go Go.RowKit
set_option linter.unusedVariables false
set_option linter.unusedSimpArgs false
set_option maxRecDepth 20000
set_option maxHeartbeats 1600000
theorem bP : Has Tryz.prog 54 := Cv Tryz.func54
abbrev DP (a0 : (Int × (List (Int × Int × Int × Int × Int × Int)) × (List (Int × Int))) × List (List Int) × List (List Int) × ((List (Int × Int × Int × Int)) × (List (Int × Int × List Int)) × Int × Int × Int × Int)) (a1 : Value) (a2 : Value) (a3 : Value) (a4 : Value) (a5 : Value) (a6 : Value) : List Value := [Jint a0.1.1, a1, a2, a3, a4, a5, a6, Jint a0.2.2.2.2.2.1, Jint a0.2.2.2.2.2.2.1, Jint a0.2.2.2.2.2.2.2.1, Jint a0.2.2.2.2.2.2.2.2]
def Ct (p0 : (Int × (List (Int × Int × Int × Int × Int × Int)) × (List (Int × Int))) × List (List Int) × List (List Int) × ((List (Int × Int × Int × Int)) × (List (Int × Int × List Int)) × Int × Int × Int × Int)) (p1 : Int × Int × Int × Int) : Option Bool := (Bu p0.2.2.2.2.1 p1).bind fun x1 => some x1
theorem GJ (Y : Nat → Prop) (w0 : World) (v1 : Value) (v2 : Value) (v3 : Value) (v4 : Value) (v5 : Value) (v6 : Value) (p0 : (Int × (List (Int × Int × Int × Int × Int × Int)) × (List (Int × Int))) × List (List Int) × List (List Int) × ((List (Int × Int × Int × Int)) × (List (Int × Int × List Int)) × Int × Int × Int × Int)) (p1 : Int × Int × Int × Int) (r : Bool) (H : Ct p0 p1 = some r) (h_v1 : Sl w0 (NX []) IP v1 p0.1.2.1) (h_v2 : Sl w0 (NX []) IE v2 p0.1.2.2) (h_v3 : Sl w0 (NX []) (Rp.slice ri) v3 p0.2.1) (h_v4 : Sl w0 (NX []) (Rp.slice ri) v4 p0.2.2.1) (h_v5 : Sl w0 (NX []) AY v5 p0.2.2.2.1) (h_v6 : Sl w0 (NX []) GO v6 p0.2.2.2.2.1) :
    ca_ 34 #[.agg #[Jint p0.1.1, v1, v2, v3, v4, v5, v6, Jint p0.2.2.2.2.2.1, Jint p0.2.2.2.2.2.2.1, Jint p0.2.2.2.2.2.2.2.1, Jint p0.2.2.2.2.2.2.2.2], .agg #[Jint p1.1, Jint p1.2.1, Jint p1.2.2.1, Jint p1.2.2.2]] w0 fun e w' => e = .returned (.bool r) ∧ Below w0.heap.size w0 w' := by
 refine enter Tryz.func34 Aa Tryz.ntmps34 Aa fun a F => ?_
 have W := Stw.start Y w0
 obtain ⟨v7, h1, h_v3⟩ := h_v3.ex CK
 obtain ⟨v8, h2, h_v4⟩ := h_v4.ex CK
 obtain ⟨v9, h3, h_v6⟩ := h_v6.ex Gh
 unfold Ct at H
 refine vc tk 2 F W fun a w F W => ?_
 refine D3 (cs := (DP p0 v1 v2 v3 v4 v5 v6)) F W Aa Aa Aa fun b1 a w F W => ?_
 refine D3 (cs := (Cj p1)) F W Aa Aa Aa fun b2 a w F W => ?_
 refine Ii tk 8 [1] F W (ai fun a w F W => ?_)
 refine ls F W Aa (Ry (us := []) (vs := [pp b2]) F Aa Aa).q fun a w F W => ?_
 obtain ⟨x1, h4, H⟩ := Ac H
 refine ls F W Aa (Bc (v := Value.bool x1) F bP Aa (fun w W => FN any w (v6) b2 p0.2.2.2.2.1 p1 _ h4 (EJ (AL Gh h3 (Ae h_v6)) W) (Zf W 0 Aa))) fun a w F W => ?_
 refine BQ tk 3 F W fun a w F W => ?_
 refine Ap ?_
 have H := Ay H
 subst H
 refine A1 (.inl Aa) F W Aa (Am F Aa) ?_
 exact ⟨rfl, W.done⟩
theorem Zv : Has Tryz.prog 34 := Cv Tryz.func34
abbrev C3 (a0 : Nat) (a1 : (Int × (List (Int × Int × Int × Int × Int × Int)) × (List (Int × Int))) × List (List Int) × List (List Int) × ((List (Int × Int × Int × Int)) × (List (Int × Int × List Int)) × Int × Int × Int × Int)) (a2 : Value) (a3 : Value) (a4 : Value) (a5 : Value) (a6 : Value) (a7 : Value) : List (Nat × List Value) := [(a0, [Jint a1.1.1, a2, a3, a4, a5, a6, a7, Jint a1.2.2.2.2.2.1, Jint a1.2.2.2.2.2.2.1, Jint a1.2.2.2.2.2.2.2.1, Jint a1.2.2.2.2.2.2.2.2])]
abbrev Qb  : List Value := [Jint 0, Jint 0, Jint 0, Jint 0]
def CO (p0 : (Int × (List (Int × Int × Int × Int × Int × Int)) × (List (Int × Int))) × List (List Int) × List (List Int) × ((List (Int × Int × Int × Int)) × (List (Int × Int × List Int)) × Int × Int × Int × Int)) (p1 : Int) (p2 : Int) (p3 : Int) : (Int × Int) → Option ((Int × Int) ⊕ Int)
  | (x2, x3) => (if x3 < (p0.2.2.2.1.length : Int) then ((ix p0.2.2.2.1 x3).bind fun x5 => (if x5.1 = p1 then (if x5.2.1 = p2 then (if x5.2.2.1 = p3 then (Ct p0 x5).bind fun x7 => some x7 else some false) else some false) else some false).bind fun x6 => (if x6 = true then some (An (x2 + 1)) else some x2)).bind fun x4 => some (.inl (x4, An (x3 + 1))) else some (.inr x2))
def B5 (p0 : (Int × (List (Int × Int × Int × Int × Int × Int)) × (List (Int × Int))) × List (List Int) × List (List Int) × ((List (Int × Int × Int × Int)) × (List (Int × Int × List Int)) × Int × Int × Int × Int)) (p1 : Int) (p2 : Int) (p3 : Int) : Option Int := (Aq (CO p0 p1 p2 p3) (0, 0)).bind fun x1 => some x1
theorem Km (Y : Nat → Prop) (w0 : World) (v1 : Value) (v2 : Value) (v3 : Value) (v4 : Value) (v5 : Value) (v6 : Value) (p0 : (Int × (List (Int × Int × Int × Int × Int × Int)) × (List (Int × Int))) × List (List Int) × List (List Int) × ((List (Int × Int × Int × Int)) × (List (Int × Int × List Int)) × Int × Int × Int × Int)) (p1 : Int) (p2 : Int) (p3 : Int) (r : Int) (H : B5 p0 p1 p2 p3 = some r) (h_v1 : Sl w0 (NX []) IP v1 p0.1.2.1) (h_v2 : Sl w0 (NX []) IE v2 p0.1.2.2) (h_v3 : Sl w0 (NX []) (Rp.slice ri) v3 p0.2.1) (h_v4 : Sl w0 (NX []) (Rp.slice ri) v4 p0.2.2.1) (h_v5 : Sl w0 (NX []) AY v5 p0.2.2.2.1) (h_v6 : Sl w0 (NX []) GO v6 p0.2.2.2.2.1) :
    ca_ 32 #[.agg #[Jint p0.1.1, v1, v2, v3, v4, v5, v6, Jint p0.2.2.2.2.2.1, Jint p0.2.2.2.2.2.2.1, Jint p0.2.2.2.2.2.2.2.1, Jint p0.2.2.2.2.2.2.2.2], Jint p1, Jint p2, Jint p3] w0 fun e w' => e = .returned (Jint r) ∧ Below w0.heap.size w0 w' := by
 refine enter Tryz.func32 Aa Tryz.ntmps32 Aa fun a F => ?_
 have W := Stw.start Y w0
 obtain ⟨v7, h1, h_v3⟩ := h_v3.ex CK
 obtain ⟨v8, h2, h_v4⟩ := h_v4.ex CK
 obtain ⟨v9, h3, h_v6⟩ := h_v6.ex Gh
 unfold B5 at H
 refine vc tk 2 F W fun a w F W => ?_
 refine D3 (cs := (DP p0 v1 v2 v3 v4 v5 v6)) F W Aa Aa Aa fun b1 a w F W => ?_
 refine BQ tk 8 F W fun a w F W => ?_
 obtain ⟨o1, G1, K1⟩ := Ac H
 refine As (fun a w => ∃ x1 : Int, some (x1) = some o1 ∧ Fr 45 [] [(8, Jint 0), (9, Jint x1)] a ∧ sy Y w0 (C3 b1 p0 v1 v2 v3 v4 v5 v6) [] w) ?_ ?_
 ·
  have H := G1
  refine Jk tk 5 [0] F W (ai fun a w F W => ?_)
  refine ls F W Aa (BP (r := AY) (l := p0.2.2.2.1) PR Aa F Aa (Ae h_v5)).q fun a w F W => ?_
  refine BQ tk 4 F W fun a w F W => ?_
  refine AN H (fun s a w => Fr 45 [] [(1, Jint p1), (2, Jint p2), (3, Jint p3), (4, pp b1), (8, Jint 0), (9, Jint s.1), (14, v5), (15, Jint (p0.2.2.2.1.length : Int)), (16, Jint s.2)] a ∧ sy Y w0 (C3 b1 p0 v1 v2 v3 v4 v5 v6) [] w) ⟨F.ra Aa, W⟩ fun s o a w H L2 hR => ?_
  obtain ⟨x2, x3⟩ := s
  obtain ⟨F, W⟩ := hR
  have F : Fr 45 [] [(1, Jint p1), (2, Jint p2), (3, Jint p3), (4, pp b1), (8, Jint 0), (9, Jint x2), (14, v5), (15, Jint (p0.2.2.2.1.length : Int)), (16, Jint x3)] a := F
  have W : sy Y w0 (C3 b1 p0 v1 v2 v3 v4 v5 v6) [] w := W
  rw [CO] at H
  refine vc tk 6 F W fun a w F W => ?_
  refine AW F Aa H (fun F H => ?_) fun F H => ?_
  ·
   refine AE (Ab ?_)
   obtain ⟨o3, G3, K3⟩ := Ac H
   refine As (fun a w => ∃ x4 : Int, some (x4) = some o3 ∧ Fr 45 [] [(1, Jint p1), (2, Jint p2), (3, Jint p3), (4, pp b1), (8, Jint 0), (9, Jint x4), (14, v5), (15, Jint (p0.2.2.2.1.length : Int)), (16, Jint x3)] a ∧ sy Y w0 (C3 b1 p0 v1 v2 v3 v4 v5 v6) [] w) ?_ ?_
   ·
    have H := G3
    refine vc tk 3 F W fun a w F W => ?_
    obtain ⟨x5, h4, H⟩ := Ac H
    refine ls F W Aa (Al (r := AY) Eu F Aa Aa (Ae h_v5) h4).q fun a w F W => ?_
    refine ls F W Aa (Ag (y := Value.agg #[Jint x5.1, Jint x5.2.1, Jint x5.2.2.1, Jint x5.2.2.2]) (j := 0) (i := x3) F Aa Aa (Ae h_v5) h4 EK.to Ey Aa).q fun a w F W => ?_
    refine B6 (cs := (Qb)) F W Aa Xf Aa fun b2 a w F W => ?_
    refine Ej 0 F W Aa Aa Aa Ey Aa Aa Aa fun w W => ?_
    refine FC (Ab ?_)
    obtain ⟨o4, G4, K4⟩ := Ac H
    refine As (fun a w => ∃ x6 : Bool, some (x6) = some o4 ∧ Fr 45 [] [(1, Jint p1), (2, Jint p2), (3, Jint p3), (4, pp b1), (8, Jint 0), (9, Jint x2), (14, v5), (15, Jint (p0.2.2.2.1.length : Int)), (16, Jint x3), (40, .bool x6)] a ∧ sy Y w0 [(b2, (Cj x5)), (b1, (DP p0 v1 v2 v3 v4 v5 v6))] [] w) ?_ ?_
    ·
     have H := G4
     refine Jk tk 6 [0] F W (ai fun a w F W => ?_)
     rcases bxq (decide (x5.1 = p1)) with hb | hb
     ·
      have H := DU (Fa hb) H
      rw [hb] at F
      refine Kp tk 6 [0] F W (ai fun a w F W => ?_)
      rcases bxq (decide (x5.2.1 = p2)) with hb | hb
      ·
       have H := DU (Fa hb) H
       rw [hb] at F
       refine Kp tk 6 [0] F W (ai fun a w F W => ?_)
       rcases bxq (decide (x5.2.2.1 = p3)) with hb | hb
       ·
        have H := DU (Fa hb) H
        rw [hb] at F
        refine Kp tk 2 [1, 0] F W (ai (ai fun a w F W => ?_))
        refine MI (Ad F Aa Aa Aa Aa) ?_
        obtain ⟨x7, h5, H⟩ := Ac H
        refine ls F W Aa (Bc (v := Value.bool x7) F Zv Aa (fun w W => GJ any w (v1) (v2) (v3) (v4) (v5) (v6) p0 x5 _ h5 (EJ (Ae h_v1) W) (EJ (Ae h_v2) W) (EJ (AL CK h1 (Ae h_v3)) W) (EJ (AL CK h2 (Ae h_v4)) W) (EJ (Ae h_v5) W) (EJ (AL Gh h3 (Ae h_v6)) W))) fun a w F W => ?_
        refine vl tk 2 F W fun a w F W => ?_
        refine Ab ?_
        have W := W.frontM (i := 1) Aa Aa
        have W := W.frontM (i := 1) Aa Aa
        exact ⟨_, H, F.ra Aa, W⟩
       have H := DS (E4 hb) H
       rw [hb] at F
       refine vl tk 5 F W fun a w F W => ?_
       refine Ab ?_
       have W := W.frontM (i := 1) Aa Aa
       have W := W.frontM (i := 1) Aa Aa
       exact ⟨_, H, F.ra Aa, W⟩
      have H := DS (E4 hb) H
      rw [hb] at F
      refine vl tk 11 F W fun a w F W => ?_
      refine Ab ?_
      have W := W.frontM (i := 1) Aa Aa
      have W := W.frontM (i := 1) Aa Aa
      exact ⟨_, H, F.ra Aa, W⟩
     have H := DS (E4 hb) H
     rw [hb] at F
     refine vl tk 17 F W fun a w F W => ?_
     refine Ab ?_
     have W := W.frontM (i := 1) Aa Aa
     have W := W.frontM (i := 1) Aa Aa
     exact ⟨_, H, F.ra Aa, W⟩
    rintro a w ⟨x6, hj, F, W⟩
    have hj := Ay hj
    subst hj
    have H := K4
    refine CS F Aa H (fun F H => ?_) fun F H => ?_
    ·
     refine vc tk 5 F W fun a w F W => ?_
     refine Aw (Ab ?_)
     have W := W.frontM (i := 1) Aa Aa
     have W := W.sub (M' := (C3 b1 p0 v1 v2 v3 v4 v5 v6)) (Z' := []) (sc nl) sr
     exact ⟨_, H, F.ra Aa, W⟩
    refine AE (Aw (Ab ?_))
    have W := W.frontM (i := 1) Aa Aa
    have W := W.sub (M' := (C3 b1 p0 v1 v2 v3 v4 v5 v6)) (Z' := []) (sc nl) sr
    exact ⟨_, H, F.ra Aa, W⟩
   rintro a w ⟨x4, hj, F, W⟩
   have hj := Ay hj
   subst hj
   have H := K3
   refine vc tk 4 F W fun a w F W => ?_
   refine Ab ?_
   exact ⟨_, H, F.ra Aa, W⟩
  refine AC ?_
  iterate 2 refine AR ?_
  refine AD (Ab ?_)
  have H := L2 _ H
  exact ⟨_, H, F.ra Aa, W⟩
 rintro a w ⟨x1, hj, F, W⟩
 have hj := Ay hj
 subst hj
 have H := K1
 refine vc tk 6 F W fun a w F W => ?_
 refine Ap ?_
 have H := Ay H
 subst H
 refine A1 (.inl Aa) F W Aa (Am F Aa) ?_
 exact ⟨rfl, W.done⟩
theorem bK : Has Tryz.prog 32 := Cv Tryz.func32
def Cs (p0 : (Int × (List (Int × Int × Int × Int × Int × Int)) × (List (Int × Int))) × List (List Int) × List (List Int) × ((List (Int × Int × Int × Int)) × (List (Int × Int × List Int)) × Int × Int × Int × Int)) (x3 : Int) (x5 : List Int) : ((List (Int × Int × Int)) × Int) → Option (((List (Int × Int × Int)) × Int) ⊕ (List (Int × Int × Int)))
  | (x6, x7) => (if x7 < (x5.length : Int) then ((ix x5 x7).bind fun x9 => ((ix p0.2.1 x3).bind fun x11 => (ix x11 x7).bind fun x12 => (if x9 ≠ x12 then (B5 p0 x3 x7 x9).bind fun x13 => some (decide (x13 ≠ 1)) else some false)).bind fun x10 => (if x10 = true then (HN x6 ([(2, x3, x7)] : List (Int × Int × Int))).bind fun x14 => some x14 else some x6)).bind fun x8 => some (.inl (x8, An (x7 + 1))) else some (.inr x6))
def CQ (p0 : (Int × (List (Int × Int × Int × Int × Int × Int)) × (List (Int × Int))) × List (List Int) × List (List Int) × ((List (Int × Int × Int × Int)) × (List (Int × Int × List Int)) × Int × Int × Int × Int)) : ((List (Int × Int × Int)) × Int) → Option (((List (Int × Int × Int)) × Int) ⊕ (List (Int × Int × Int)))
  | (x2, x3) => (if x3 < (p0.2.2.1.length : Int) then ((ix p0.2.2.1 x3).bind fun x5 => Aq (Cs p0 x3 x5) (x2, 0)).bind fun x4 => some (.inl (x4, An (x3 + 1))) else some (.inr x2))
def Do (p0 : (Int × (List (Int × Int × Int × Int × Int × Int)) × (List (Int × Int))) × List (List Int) × List (List Int) × ((List (Int × Int × Int × Int)) × (List (Int × Int × List Int)) × Int × Int × Int × Int)) : Option (List (Int × Int × Int)) := (Aq (CQ p0) ([], 0)).bind fun x1 => some x1
theorem J8 (Y : Nat → Prop) (w0 : World) (v1 : Value) (v2 : Value) (v3 : Value) (v4 : Value) (v5 : Value) (v6 : Value) (p0 : (Int × (List (Int × Int × Int × Int × Int × Int)) × (List (Int × Int))) × List (List Int) × List (List Int) × ((List (Int × Int × Int × Int)) × (List (Int × Int × List Int)) × Int × Int × Int × Int)) (r : (List (Int × Int × Int))) (H : Do p0 = some r) (h_v1 : Sl w0 (NX []) IP v1 p0.1.2.1) (h_v2 : Sl w0 (NX []) IE v2 p0.1.2.2) (h_v3 : Sl w0 (NX []) (Rp.slice ri) v3 p0.2.1) (h_v4 : Sl w0 (NX []) (Rp.slice ri) v4 p0.2.2.1) (h_v5 : Sl w0 (NX []) AY v5 p0.2.2.2.1) (h_v6 : Sl w0 (NX []) GO v6 p0.2.2.2.2.1) :
    ca_ 16 #[.agg #[Jint p0.1.1, v1, v2, v3, v4, v5, v6, Jint p0.2.2.2.2.2.1, Jint p0.2.2.2.2.2.2.1, Jint p0.2.2.2.2.2.2.2.1, Jint p0.2.2.2.2.2.2.2.2]] w0 fun e w' => ∃ x : Value, e = .returned (x) ∧ sy Y w0 [] [row (x) 41 CI r] w' := by
 refine enter Tryz.func16 Aa Tryz.ntmps16 Aa fun a F => ?_
 have W := Stw.start Y w0
 obtain ⟨v7, h1, h_v3⟩ := h_v3.ex CK
 obtain ⟨v8, h2, h_v4⟩ := h_v4.ex CK
 obtain ⟨v9, h3, h_v6⟩ := h_v6.ex Gh
 unfold Do at H
 refine vc tk 2 F W fun a w F W => ?_
 refine D3 (cs := (DP p0 v1 v2 v3 v4 v5 v6)) F W Aa Aa Aa fun b1 a w F W => ?_
 refine BQ tk 8 F W fun a w F W => ?_
 obtain ⟨o1, G1, K1⟩ := Ac H
 refine As (fun a w => ∃ x1 : List (Int × Int × Int), ∃ v10 : Value, some (x1) = some o1 ∧ Fr 50 [] [(2, .slice none 0 0), (3, v10)] a ∧ sy Y w0 (C3 b1 p0 v1 v2 v3 v4 v5 v6) [row v10 41 CI x1] w) ?_ ?_
 ·
  have H := G1
  refine Jk tk 4 [0] F W (ai fun a w F W => ?_)
  refine ls F W Aa (BP (r := (Rp.slice ri)) (l := p0.2.2.1) Nn Aa F Aa (AL CK h2 (Ae h_v4))).q fun a w F W => ?_
  refine BQ tk 4 F W fun a w F W => ?_
  have W := W.nilRow 41 CI
  refine AN H (fun s a w => ∃ v11 : Value, Fr 50 [] [(1, pp b1), (2, .slice none 0 0), (3, v11), (9, v4), (10, Jint (p0.2.2.1.length : Int)), (11, Jint s.2)] a ∧ sy Y w0 (C3 b1 p0 v1 v2 v3 v4 v5 v6) [row v11 41 CI s.1] w) ⟨(Value.slice none 0 0), F.ra Aa, W⟩ fun s o a w H L2 hR => ?_
  obtain ⟨x2, x3⟩ := s
  obtain ⟨v11, F, W⟩ := hR
  have F : Fr 50 [] [(1, pp b1), (2, .slice none 0 0), (3, v11), (9, v4), (10, Jint (p0.2.2.1.length : Int)), (11, Jint x3)] a := F
  have W : sy Y w0 (C3 b1 p0 v1 v2 v3 v4 v5 v6) [row v11 41 CI x2] w := W
  rw [CQ] at H
  refine vc tk 6 F W fun a w F W => ?_
  refine AW F Aa H (fun F H => ?_) fun F H => ?_
  ·
   refine AE (Ab ?_)
   obtain ⟨o3, G3, K3⟩ := Ac H
   refine As (fun a w => ∃ x4 : List (Int × Int × Int), ∃ v12 : Value, some (x4) = some o3 ∧ Fr 50 [] [(1, pp b1), (2, .slice none 0 0), (3, v12), (9, v4), (10, Jint (p0.2.2.1.length : Int)), (11, Jint x3)] a ∧ sy Y w0 (C3 b1 p0 v1 v2 v3 v4 v5 v6) [row v12 41 CI x4] w) ?_ ?_
   ·
    have H := G3
    refine vc tk 4 F W fun a w F W => ?_
    obtain ⟨x5, h4, H⟩ := Ac H
    obtain ⟨v13, h5, h6⟩ := EP h2 h4
    have h7 : Hh v13 = [(v13.1)] := congrArg (fun q : List Int => ([(v13.1)] : List Value)) h6
    refine ls F W Aa (Al (r := (Rp.vsl ri)) PV F Aa Aa (Ae h_v4) h5).q fun a w F W => ?_
    refine ls F W Aa (Ag (y := (v13.1)) (j := 0) (i := x3) (enc := Hh) F Aa Aa (Ae h_v4) h5 LC NJ (by rw [h7]; rfl)).q fun a w F W => ?_
    refine BQ tk 7 F W fun a w F W => ?_
    refine ls F W Aa (BP (r := ri) (l := x5) Jc Aa F Aa (C9 (Ae h_v4) h5 DA.here (congrArg (fun q : List Int => q) h6))).q fun a w F W => ?_
    refine BQ tk 4 F W fun a w F W => ?_
    refine AN H (fun s a w => ∃ v14 : Value, Fr 50 [] [(1, pp b1), (2, .slice none 0 0), (3, v14), (4, Jint x3), (9, v4), (10, Jint (p0.2.2.1.length : Int)), (11, Jint x3), (16, (v13.1)), (17, Jint (x5.length : Int)), (18, Jint s.2)] a ∧ sy Y w0 (C3 b1 p0 v1 v2 v3 v4 v5 v6) [row v14 41 CI s.1] w) ⟨(v11), F.ra Aa, W⟩ fun s o a w H L4 hR => ?_
    obtain ⟨x6, x7⟩ := s
    obtain ⟨v14, F, W⟩ := hR
    have F : Fr 50 [] [(1, pp b1), (2, .slice none 0 0), (3, v14), (4, Jint x3), (9, v4), (10, Jint (p0.2.2.1.length : Int)), (11, Jint x3), (16, (v13.1)), (17, Jint (x5.length : Int)), (18, Jint x7)] a := F
    have W : sy Y w0 (C3 b1 p0 v1 v2 v3 v4 v5 v6) [row v14 41 CI x6] w := W
    rw [Cs] at H
    refine vc tk 6 F W fun a w F W => ?_
    refine AW F Aa H (fun F H => ?_) fun F H => ?_
    ·
     refine AE (Ab ?_)
     obtain ⟨o5, G5, K5⟩ := Ac H
     refine As (fun a w => ∃ x8 : List (Int × Int × Int), ∃ v15 : Value, some (x8) = some o5 ∧ Fr 50 [] [(1, pp b1), (2, .slice none 0 0), (3, v15), (4, Jint x3), (9, v4), (10, Jint (p0.2.2.1.length : Int)), (11, Jint x3), (16, (v13.1)), (17, Jint (x5.length : Int)), (18, Jint x7)] a ∧ sy Y w0 (C3 b1 p0 v1 v2 v3 v4 v5 v6) [row v15 41 CI x8] w) ?_ ?_
     ·
      have H := G5
      refine vc tk 4 F W fun a w F W => ?_
      obtain ⟨x9, h8, H⟩ := Ac H
      refine ls F W Aa (Al (r := ri) EM F Aa Aa (C9 (Ae h_v4) h5 DA.here (congrArg (fun q : List Int => q) h6)) h8).q fun a w F W => ?_
      refine ls F W Aa (Ag (y := Jint x9) (j := 0) (i := x7) F Aa Aa (C9 (Ae h_v4) h5 DA.here (congrArg (fun q : List Int => q) h6)) h8 Fl.int.to T3 Aa).q fun a w F W => ?_
      refine vl tk 3 F W fun a w F W => ?_
      refine Ab ?_
      obtain ⟨o6, G6, K6⟩ := Ac H
      refine As (fun a w => ∃ x10 : Bool, some (x10) = some o6 ∧ Fr 50 [] [(1, pp b1), (2, .slice none 0 0), (3, v14), (4, Jint x3), (6, Jint x7), (9, v4), (10, Jint (p0.2.2.1.length : Int)), (11, Jint x3), (16, (v13.1)), (17, Jint (x5.length : Int)), (18, Jint x7), (40, .bool x10)] a ∧ sy Y w0 (C3 b1 p0 v1 v2 v3 v4 v5 v6) [row v14 41 CI x6] w) ?_ ?_
      ·
       have H := G6
       refine Jk tk 5 [0] F W (ai fun a w F W => ?_)
       obtain ⟨x11, h9, H⟩ := Ac H
       obtain ⟨v16, h10, h11⟩ := EP h1 h9
       have h12 : Hh v16 = [(v16.1)] := congrArg (fun q : List Int => ([(v16.1)] : List Value)) h11
       refine ls F W Aa (Al (r := (Rp.vsl ri)) PV F Aa Aa (Ae h_v3) h10).q fun a w F W => ?_
       refine ls F W Aa (Ag (y := (v16.1)) (j := 0) (i := x3) (enc := Hh) F Aa Aa (Ae h_v3) h10 LC NJ (by rw [h12]; rfl)).q fun a w F W => ?_
       refine ls F W Aa (Ai F Aa).q fun a w F W => ?_
       obtain ⟨x12, h13, H⟩ := Ac H
       refine ls F W Aa (Al (r := ri) EM F Aa Aa (C9 (Ae h_v3) h10 DA.here (congrArg (fun q : List Int => q) h11)) h13).q fun a w F W => ?_
       refine ls F W Aa (Ag (y := Jint x12) (j := 0) (i := x7) F Aa Aa (C9 (Ae h_v3) h10 DA.here (congrArg (fun q : List Int => q) h11)) h13 Fl.int.to T3 Aa).q fun a w F W => ?_
       refine vl tk 2 F W fun a w F W => ?_
       rcases bxq (decide (x9 ≠ x12)) with hb | hb
       ·
        have H := DU (Fa hb) H
        rw [hb] at F
        refine Kp tk 4 [0] F W (ai fun a w F W => ?_)
        refine MI (Ad F Aa Aa Aa Aa) ?_
        obtain ⟨x13, h14, H⟩ := Ac H
        refine ls F W Aa (Bc (v := Jint x13) F bK Aa (fun w W => Km any w (v1) (v2) (v3) (v4) (v5) (v6) p0 x3 x7 x9 _ h14 (EJ (Ae h_v1) W) (EJ (Ae h_v2) W) (EJ (AL CK h1 (Ae h_v3)) W) (EJ (AL CK h2 (Ae h_v4)) W) (EJ (Ae h_v5) W) (EJ (AL Gh h3 (Ae h_v6)) W))) fun a w F W => ?_
        refine vl tk 3 F W fun a w F W => ?_
        refine Ab ?_
        exact ⟨_, H, F.ra Aa, W⟩
       have H := DS (E4 hb) H
       rw [hb] at F
       refine vl tk 8 F W fun a w F W => ?_
       refine Ab ?_
       exact ⟨_, H, F.ra Aa, W⟩
      rintro a w ⟨x10, hj, F, W⟩
      have hj := Ay hj
      subst hj
      have H := K6
      refine CS F Aa H (fun F H => ?_) fun F H => ?_
      ·
       refine vc tk 4 F W fun a w F W => ?_
       refine ls F W Aa (B9 (v := Value.agg #[Jint 2, Jint x3, Jint x7]) Vt F Aa Aa Aa).q fun a w F W => ?_
       refine D7 (z := Value.agg #[Jint 0, Jint 0, Jint 0]) (cs := [Jint 2, Jint x3, Jint x7]) CI ([(2, x3, x7)] : List (Int × Int × Int)) F W Aa PW WY Aa Aa Aa Aa Aa Aa (UH.repL _ _ ([(2, x3, x7)] : List (Int × Int × Int))) fun v17 a w F W => ?_
       obtain ⟨x14, h15, H⟩ := Ac H
       refine Di (r := CI) (i := 1) F W Aa PW Aa Aa Aa Aa (D1 W 0 Aa) h15 Aa fun v18 a w F W => ?_
       have W : sy Y w0 (C3 b1 p0 v1 v2 v3 v4 v5 v6) [row v18 41 CI x14, row v17 41 CI ([(2, x3, x7)] : List (Int × Int × Int))] w := W
       refine vl tk 2 F W fun a w F W => ?_
       refine Aw (Ab ?_)
       have W := W.sub (M' := (C3 b1 p0 v1 v2 v3 v4 v5 v6)) (Z' := [row v18 41 CI x14]) sr (sc nl)
       exact ⟨_, (v18), H, F.ra Aa, W⟩
      refine AE (Aw (Ab ?_))
      exact ⟨_, (v14), H, F.ra Aa, W⟩
     rintro a w ⟨x8, v15, hj, F, W⟩
     have hj := Ay hj
     subst hj
     have H := K5
     refine vc tk 4 F W fun a w F W => ?_
     refine Ab ?_
     exact ⟨_, H, (v15), F.ra Aa, W⟩
    refine AC ?_
    iterate 2 refine AR ?_
    refine AD (Aw (Ab ?_))
    have H := L4 _ H
    exact ⟨_, (v14), H, F.ra Aa, W⟩
   rintro a w ⟨x4, v12, hj, F, W⟩
   have hj := Ay hj
   subst hj
   have H := K3
   refine vc tk 4 F W fun a w F W => ?_
   refine Ab ?_
   exact ⟨_, H, (v12), F.ra Aa, W⟩
  refine AC ?_
  iterate 2 refine AR ?_
  refine AD (Ab ?_)
  have H := L2 _ H
  exact ⟨_, (v11), H, F.ra Aa, W⟩
 rintro a w ⟨x1, v10, hj, F, W⟩
 have hj := Ay hj
 subst hj
 have H := K1
 refine vc tk 6 F W fun a w F W => ?_
 refine Ap ?_
 have H := Ay H
 subst H
 refine A1 (.inl Aa) F W Aa (Am F Aa) ?_
 have W := W.sub (M' := []) (Z' := [row v10 41 CI x1]) nl sr
 exact ⟨(v10), Aa, W⟩
theorem bO : Has Tryz.prog 16 := Cv Tryz.func16
def BJ (p0 : (Int × (List (Int × Int × Int × Int × Int × Int)) × (List (Int × Int))) × List (List Int) × List (List Int) × ((List (Int × Int × Int × Int)) × (List (Int × Int × List Int)) × Int × Int × Int × Int)) (p1 : Int × Int × Int × Int) : Bool := (decide (0 ≤ p1.1) && (decide (p1.1 < p0.1.1) && (decide (0 ≤ p1.2.1) && decide (p1.2.1 < (p0.1.2.2.length : Int)))))
theorem HQ (Y : Nat → Prop) (w0 : World) (v1 : Value) (v2 : Value) (v3 : Value) (v4 : Value) (v5 : Value) (v6 : Value) (p0 : (Int × (List (Int × Int × Int × Int × Int × Int)) × (List (Int × Int))) × List (List Int) × List (List Int) × ((List (Int × Int × Int × Int)) × (List (Int × Int × List Int)) × Int × Int × Int × Int)) (p1 : Int × Int × Int × Int) (r : Bool) (H : BJ p0 p1 = r) (h_v1 : Sl w0 (NX []) IP v1 p0.1.2.1) (h_v2 : Sl w0 (NX []) IE v2 p0.1.2.2) (h_v3 : Sl w0 (NX []) (Rp.slice ri) v3 p0.2.1) (h_v4 : Sl w0 (NX []) (Rp.slice ri) v4 p0.2.2.1) (h_v5 : Sl w0 (NX []) AY v5 p0.2.2.2.1) (h_v6 : Sl w0 (NX []) GO v6 p0.2.2.2.2.1) :
    ca_ 33 #[.agg #[Jint p0.1.1, v1, v2, v3, v4, v5, v6, Jint p0.2.2.2.2.2.1, Jint p0.2.2.2.2.2.2.1, Jint p0.2.2.2.2.2.2.2.1, Jint p0.2.2.2.2.2.2.2.2], .agg #[Jint p1.1, Jint p1.2.1, Jint p1.2.2.1, Jint p1.2.2.2]] w0 fun e w' => e = .returned (.bool r) ∧ Below w0.heap.size w0 w' := by
 refine enter Tryz.func33 Aa Tryz.ntmps33 Aa fun a F => ?_
 have W := Stw.start Y w0
 obtain ⟨v7, h1, h_v3⟩ := h_v3.ex CK
 obtain ⟨v8, h2, h_v4⟩ := h_v4.ex CK
 obtain ⟨v9, h3, h_v6⟩ := h_v6.ex Gh
 unfold BJ at H
 refine vc tk 2 F W fun a w F W => ?_
 refine D3 (cs := (DP p0 v1 v2 v3 v4 v5 v6)) F W Aa Aa Aa fun b1 a w F W => ?_
 refine D3 (cs := (Cj p1)) F W Aa Aa Aa fun b2 a w F W => ?_
 refine BQ tk 3 F W fun a w F W => ?_
 refine As (fun a w => Fr 30 [] [(4, .bool (decide (0 ≤ p1.1) && (decide (p1.1 < p0.1.1) && (decide (0 ≤ p1.2.1) && decide (p1.2.1 < (p0.1.2.2.length : Int))))))] a ∧ sy Y w0 [(b2, (Cj p1)), (b1, (DP p0 v1 v2 v3 v4 v5 v6))] [] w) ?_ ?_
 ·
  refine Jk tk 5 [0] F W (ai fun a w F W => ?_)
  rcases bxq (decide (0 ≤ p1.1)) with hb0 | hb0
  ·
   rw [hb0] at F
   refine Kp tk 8 [0, 1] F W (ai (ai fun a w F W => ?_))
   rcases bxq (decide (p1.1 < p0.1.1)) with hb1 | hb1
   ·
    rw [hb1] at F
    refine Kp tk 5 [0] F W (ai fun a w F W => ?_)
    rcases bxq (decide (0 ≤ p1.2.1)) with hb2 | hb2
    ·
     rw [hb2] at F
     refine Kp tk 5 [0, 1] F W (ai (ai fun a w F W => ?_))
     refine Gb F W (Ad F Aa Aa Aa Aa) Aa (Ao Aa) (BP (r := IE) (l := p0.1.2.2) OH Aa F Aa (Ae h_v2)).q fun a w F W => ?_
     refine vl tk 4 F W fun a w F W => ?_
     refine Ab ?_
     exact ⟨F.re ⟨(HA (by try rw [hb1]; try rw [hb2]; try rw [hb0]; all_goals simp only [Hw])), trivial⟩, W⟩
    rw [hb2] at F
    refine vl tk 10 F W fun a w F W => ?_
    refine Ab ?_
    exact ⟨F.re ⟨(HA (by try rw [hb1]; try rw [hb2]; try rw [hb0]; all_goals simp only [Hw])), trivial⟩, W⟩
   rw [hb1] at F
   refine vl tk 15 F W fun a w F W => ?_
   refine Ab ?_
   exact ⟨F.re ⟨(HA (by try rw [hb1]; try rw [hb0]; all_goals simp only [Hw])), trivial⟩, W⟩
  rw [hb0] at F
  refine vl tk 23 F W fun a w F W => ?_
  refine Ab ?_
  exact ⟨F.re ⟨(HA (by try rw [hb0]; all_goals simp only [Hw])), trivial⟩, W⟩
 rintro a w ⟨F, W⟩
 refine Ap ?_
 subst H
 refine A1 (.inl Aa) F W Aa (Am F Aa) ?_
 exact ⟨rfl, W.done⟩
theorem ZI : Has Tryz.prog 33 := Cv Tryz.func33
def Db (p0 : (Int × (List (Int × Int × Int × Int × Int × Int)) × (List (Int × Int))) × List (List Int) × List (List Int) × ((List (Int × Int × Int × Int)) × (List (Int × Int × List Int)) × Int × Int × Int × Int)) : ((List (Int × Int × Int)) × Int) → Option (((List (Int × Int × Int)) × Int) ⊕ (List (Int × Int × Int)))
  | (x2, x3) => (if x3 < (p0.2.2.2.1.length : Int) then ((ix p0.2.2.2.1 x3).bind fun x5 => (if (!(BJ p0 x5)) = true then some true else (ix p0.2.2.1 x5.1).bind fun x7 => (ix x7 x5.2.1).bind fun x8 => (if x5.2.2.1 ≠ x8 then some true else (ix p0.2.1 x5.1).bind fun x9 => (ix x9 x5.2.1).bind fun x10 => (if x5.2.2.1 = x10 then some true else (Ct p0 x5).bind fun x11 => some (!x11)))).bind fun x6 => (if x6 = true then (HN x2 ([(3, x3, x5.2.1)] : List (Int × Int × Int))).bind fun x12 => some x12 else some x2)).bind fun x4 => some (.inl (x4, An (x3 + 1))) else some (.inr x2))
def DG (p0 : (Int × (List (Int × Int × Int × Int × Int × Int)) × (List (Int × Int))) × List (List Int) × List (List Int) × ((List (Int × Int × Int × Int)) × (List (Int × Int × List Int)) × Int × Int × Int × Int)) : Option (List (Int × Int × Int)) := (Aq (Db p0) ([], 0)).bind fun x1 => some x1
theorem KS (Y : Nat → Prop) (w0 : World) (v1 : Value) (v2 : Value) (v3 : Value) (v4 : Value) (v5 : Value) (v6 : Value) (p0 : (Int × (List (Int × Int × Int × Int × Int × Int)) × (List (Int × Int))) × List (List Int) × List (List Int) × ((List (Int × Int × Int × Int)) × (List (Int × Int × List Int)) × Int × Int × Int × Int)) (r : (List (Int × Int × Int))) (H : DG p0 = some r) (h_v1 : Sl w0 (NX []) IP v1 p0.1.2.1) (h_v2 : Sl w0 (NX []) IE v2 p0.1.2.2) (h_v3 : Sl w0 (NX []) (Rp.slice ri) v3 p0.2.1) (h_v4 : Sl w0 (NX []) (Rp.slice ri) v4 p0.2.2.1) (h_v5 : Sl w0 (NX []) AY v5 p0.2.2.2.1) (h_v6 : Sl w0 (NX []) GO v6 p0.2.2.2.2.1) :
    ca_ 17 #[.agg #[Jint p0.1.1, v1, v2, v3, v4, v5, v6, Jint p0.2.2.2.2.2.1, Jint p0.2.2.2.2.2.2.1, Jint p0.2.2.2.2.2.2.2.1, Jint p0.2.2.2.2.2.2.2.2]] w0 fun e w' => ∃ x : Value, e = .returned (x) ∧ sy Y w0 [] [row (x) 41 CI r] w' := by
 refine enter Tryz.func17 Aa Tryz.ntmps17 Aa fun a F => ?_
 have W := Stw.start Y w0
 obtain ⟨v7, h1, h_v3⟩ := h_v3.ex CK
 obtain ⟨v8, h2, h_v4⟩ := h_v4.ex CK
 obtain ⟨v9, h3, h_v6⟩ := h_v6.ex Gh
 unfold DG at H
 refine vc tk 2 F W fun a w F W => ?_
 refine D3 (cs := (DP p0 v1 v2 v3 v4 v5 v6)) F W Aa Aa Aa fun b1 a w F W => ?_
 refine BQ tk 8 F W fun a w F W => ?_
 obtain ⟨o1, G1, K1⟩ := Ac H
 refine As (fun a w => ∃ x1 : List (Int × Int × Int), ∃ v10 : Value, some (x1) = some o1 ∧ Fr 64 [] [(2, .slice none 0 0), (3, v10)] a ∧ sy Y w0 (C3 b1 p0 v1 v2 v3 v4 v5 v6) [row v10 41 CI x1] w) ?_ ?_
 ·
  have H := G1
  refine Jk tk 5 [0] F W (ai fun a w F W => ?_)
  refine ls F W Aa (BP (r := AY) (l := p0.2.2.2.1) PR Aa F Aa (Ae h_v5)).q fun a w F W => ?_
  refine BQ tk 4 F W fun a w F W => ?_
  have W := W.nilRow 41 CI
  refine AN H (fun s a w => ∃ v11 : Value, Fr 64 [] [(1, pp b1), (2, .slice none 0 0), (3, v11), (8, v5), (9, Jint (p0.2.2.2.1.length : Int)), (10, Jint s.2)] a ∧ sy Y w0 (C3 b1 p0 v1 v2 v3 v4 v5 v6) [row v11 41 CI s.1] w) ⟨(Value.slice none 0 0), F.ra Aa, W⟩ fun s o a w H L2 hR => ?_
  obtain ⟨x2, x3⟩ := s
  obtain ⟨v11, F, W⟩ := hR
  have F : Fr 64 [] [(1, pp b1), (2, .slice none 0 0), (3, v11), (8, v5), (9, Jint (p0.2.2.2.1.length : Int)), (10, Jint x3)] a := F
  have W : sy Y w0 (C3 b1 p0 v1 v2 v3 v4 v5 v6) [row v11 41 CI x2] w := W
  rw [Db] at H
  refine vc tk 6 F W fun a w F W => ?_
  refine AW F Aa H (fun F H => ?_) fun F H => ?_
  ·
   refine AE (Ab ?_)
   obtain ⟨o3, G3, K3⟩ := Ac H
   refine As (fun a w => ∃ x4 : List (Int × Int × Int), ∃ v12 : Value, some (x4) = some o3 ∧ Fr 64 [] [(1, pp b1), (2, .slice none 0 0), (3, v12), (8, v5), (9, Jint (p0.2.2.2.1.length : Int)), (10, Jint x3)] a ∧ sy Y w0 (C3 b1 p0 v1 v2 v3 v4 v5 v6) [row v12 41 CI x4] w) ?_ ?_
   ·
    have H := G3
    refine vc tk 4 F W fun a w F W => ?_
    obtain ⟨x5, h4, H⟩ := Ac H
    refine ls F W Aa (Al (r := AY) Eu F Aa Aa (Ae h_v5) h4).q fun a w F W => ?_
    refine ls F W Aa (Ag (y := Value.agg #[Jint x5.1, Jint x5.2.1, Jint x5.2.2.1, Jint x5.2.2.2]) (j := 0) (i := x3) F Aa Aa (Ae h_v5) h4 EK.to Ey Aa).q fun a w F W => ?_
    refine B6 (cs := (Qb)) F W Aa Xf Aa fun b2 a w F W => ?_
    refine ls F W Aa (Dr F Aa).q fun a w F W => ?_
    refine Ej 0 F W Aa Aa Aa Ey Aa Aa Aa fun w W => ?_
    refine FC (Ab ?_)
    obtain ⟨o4, G4, K4⟩ := Ac H
    refine As (fun a w => ∃ x6 : Bool, some (x6) = some o4 ∧ Fr 64 [] [(1, pp b1), (2, .slice none 0 0), (3, v11), (4, Jint x3), (5, pp b2), (8, v5), (9, Jint (p0.2.2.2.1.length : Int)), (10, Jint x3), (54, .bool x6)] a ∧ sy Y w0 [(b2, (Cj x5)), (b1, (DP p0 v1 v2 v3 v4 v5 v6))] [row v11 41 CI x2] w) ?_ ?_
    ·
     have H := G4
     refine Bz W MO (by kernel_rfl) ?_
     refine qs F Aa (Bx (v := Value.agg #[Jint p0.1.1, v1, v2, v3, v4, v5, v6, Jint p0.2.2.2.2.2.1, Jint p0.2.2.2.2.2.2.1, Jint p0.2.2.2.2.2.2.2.1, Jint p0.2.2.2.2.2.2.2.2]) 1 F Aa Aa Wt Aa).q fun a F => ?_
     refine qs F Aa (Bx (v := Value.agg #[Jint x5.1, Jint x5.2.1, Jint x5.2.2.1, Jint x5.2.2.2]) 0 F Aa Aa Ey Aa).q fun a F => ?_
     refine qs F Aa (Bc (v := Value.bool (BJ p0 x5)) F ZI Aa (fun w W => HQ any w (v1) (v2) (v3) (v4) (v5) (v6) p0 x5 _ Aa (EJ (Ae h_v1) W) (EJ (Ae h_v2) W) (EJ (AL CK h1 (Ae h_v3)) W) (EJ (AL CK h2 (Ae h_v4)) W) (EJ (Ae h_v5) W) (EJ (AL Gh h3 (Ae h_v6)) W))) fun a F => ?_
     refine qs F Aa (I5 F Aa).q fun a F => ?_
     refine qs F Aa (Ai F Aa).q fun a F => ?_
     rcases bxq (!(BJ p0 x5)) with hb | hb
     ·
      have H := DU hb H
      rw [hb] at F
      iterate 13 refine Dn F (CX F Aa Aa Aa Aa Aa) Aa Aa fun a F => ?_
      refine qs F Aa (C4 F Aa Aa Aa).q fun a F => ?_
      refine qs F Aa (Ai F Aa).q fun a F => ?_
      iterate 13 refine Dn F (CX F Aa Aa Aa Aa Aa) Aa Aa fun a F => ?_
      refine qs F Aa (C4 F Aa Aa Aa).q fun a F => ?_
      refine qs F Aa (Ai F Aa).q fun a F => ?_
      iterate 4 refine Dn F (CX F Aa Aa Aa Aa Aa) Aa Aa fun a F => ?_
      refine qs F Aa (C4 F Aa Aa Aa).q fun a F => ?_
      refine AA fun w W => ?_
      refine Ab ?_
      have W := W.frontM (i := 1) Aa Aa
      have W := W.frontM (i := 1) Aa Aa
      exact ⟨_, H, F.ra Aa, W⟩
     have H := DS (by rw [hb]; decide) H
     rw [hb] at F
     refine AZ F (Ad F Aa Aa Aa Aa) Aa (Ao Aa) (Ax I8 Aa Aa Aa T3 F Aa 2 Aa).q fun a F => ?_
     refine AZ F (Ad F Aa Aa Aa Aa) Aa (Ao Aa) (Bx (v := Jint x5.2.2.1) 0 F Aa Aa T3 Aa).q fun a F => ?_
     refine AZ F (Ad F Aa Aa Aa Aa) Aa (Ao Aa) (Ax T6 Aa Aa Aa Yh F Aa 4 Aa).q fun a F => ?_
     refine AZ F (Ad F Aa Aa Aa Aa) Aa (Ao Aa) (Bx (v := v4) 1 F Aa Aa Yh Aa).q fun a F => ?_
     refine AZ F (Ad F Aa Aa Aa Aa) Aa (Ao Aa) (Ax I8 Aa Aa Aa T3 F Aa 0 Aa).q fun a F => ?_
     refine AZ F (Ad F Aa Aa Aa Aa) Aa (Ao Aa) (Bx (v := Jint x5.1) 0 F Aa Aa T3 Aa).q fun a F => ?_
     obtain ⟨x7, h5, H⟩ := Ac H
     obtain ⟨v13, h6, h7⟩ := EP h2 h5
     have h8 : Hh v13 = [(v13.1)] := congrArg (fun q : List Int => ([(v13.1)] : List Value)) h7
     refine AZ F (Ad F Aa Aa Aa Aa) Aa (Ao Aa) (Al (r := (Rp.vsl ri)) PV F Aa Aa (Ae h_v4) h6).q fun a F => ?_
     refine AZ F (Ad F Aa Aa Aa Aa) Aa (Ao Aa) (Ag (y := (v13.1)) (j := 0) (i := x5.1) (enc := Hh) F Aa Aa (Ae h_v4) h6 LC NJ (by rw [h8]; rfl)).q fun a F => ?_
     refine AZ F (Ad F Aa Aa Aa Aa) Aa (Ao Aa) (Ax I8 Aa Aa Aa T3 F Aa 1 Aa).q fun a F => ?_
     refine AZ F (Ad F Aa Aa Aa Aa) Aa (Ao Aa) (Bx (v := Jint x5.2.1) 0 F Aa Aa T3 Aa).q fun a F => ?_
     obtain ⟨x8, h9, H⟩ := Ac H
     refine AZ F (Ad F Aa Aa Aa Aa) Aa (Ao Aa) (Al (r := ri) EM F Aa Aa (C9 (Ae h_v4) h6 DA.here (congrArg (fun q : List Int => q) h7)) h9).q fun a F => ?_
     refine AZ F (Ad F Aa Aa Aa Aa) Aa (Ao Aa) (Ag (y := Jint x8) (j := 0) (i := x5.2.1) F Aa Aa (C9 (Ae h_v4) h6 DA.here (congrArg (fun q : List Int => q) h7)) h9 Fl.int.to T3 Aa).q fun a F => ?_
     refine AZ F (Ad F Aa Aa Aa Aa) Aa (Ao Aa) (Sc F Aa Aa).q fun a F => ?_
     refine qs F Aa (Dw F Aa Aa Aa).q fun a F => ?_
     refine qs F Aa (Ai F Aa).q fun a F => ?_
     rcases bxq (decide (x5.2.2.1 ≠ x8)) with hb | hb
     ·
      have H := DU (Fa hb) H
      rw [hb] at F
      iterate 13 refine Dn F (CX F Aa Aa Aa Aa Aa) Aa Aa fun a F => ?_
      refine qs F Aa (C4 F Aa Aa Aa).q fun a F => ?_
      refine qs F Aa (Ai F Aa).q fun a F => ?_
      iterate 4 refine Dn F (CX F Aa Aa Aa Aa Aa) Aa Aa fun a F => ?_
      refine qs F Aa (C4 F Aa Aa Aa).q fun a F => ?_
      refine AA fun w W => ?_
      refine Ab ?_
      have W := W.frontM (i := 1) Aa Aa
      have W := W.frontM (i := 1) Aa Aa
      exact ⟨_, H, F.ra Aa, W⟩
     have H := DS (E4 hb) H
     rw [hb] at F
     refine AZ F (Ad F Aa Aa Aa Aa) Aa (Ao Aa) (Ax I8 Aa Aa Aa T3 F Aa 2 Aa).q fun a F => ?_
     refine AZ F (Ad F Aa Aa Aa Aa) Aa (Ao Aa) (Bx (v := Jint x5.2.2.1) 0 F Aa Aa T3 Aa).q fun a F => ?_
     refine AZ F (Ad F Aa Aa Aa Aa) Aa (Ao Aa) (Ax T6 Aa Aa Aa Yh F Aa 3 Aa).q fun a F => ?_
     refine AZ F (Ad F Aa Aa Aa Aa) Aa (Ao Aa) (Bx (v := v3) 1 F Aa Aa Yh Aa).q fun a F => ?_
     refine AZ F (Ad F Aa Aa Aa Aa) Aa (Ao Aa) (Ax I8 Aa Aa Aa T3 F Aa 0 Aa).q fun a F => ?_
     refine AZ F (Ad F Aa Aa Aa Aa) Aa (Ao Aa) (Bx (v := Jint x5.1) 0 F Aa Aa T3 Aa).q fun a F => ?_
     obtain ⟨x9, h10, H⟩ := Ac H
     obtain ⟨v14, h11, h12⟩ := EP h1 h10
     have h13 : Hh v14 = [(v14.1)] := congrArg (fun q : List Int => ([(v14.1)] : List Value)) h12
     refine AZ F (Ad F Aa Aa Aa Aa) Aa (Ao Aa) (Al (r := (Rp.vsl ri)) PV F Aa Aa (Ae h_v3) h11).q fun a F => ?_
     refine AZ F (Ad F Aa Aa Aa Aa) Aa (Ao Aa) (Ag (y := (v14.1)) (j := 0) (i := x5.1) (enc := Hh) F Aa Aa (Ae h_v3) h11 LC NJ (by rw [h13]; rfl)).q fun a F => ?_
     refine AZ F (Ad F Aa Aa Aa Aa) Aa (Ao Aa) (Ax I8 Aa Aa Aa T3 F Aa 1 Aa).q fun a F => ?_
     refine AZ F (Ad F Aa Aa Aa Aa) Aa (Ao Aa) (Bx (v := Jint x5.2.1) 0 F Aa Aa T3 Aa).q fun a F => ?_
     obtain ⟨x10, h14, H⟩ := Ac H
     refine AZ F (Ad F Aa Aa Aa Aa) Aa (Ao Aa) (Al (r := ri) EM F Aa Aa (C9 (Ae h_v3) h11 DA.here (congrArg (fun q : List Int => q) h12)) h14).q fun a F => ?_
     refine AZ F (Ad F Aa Aa Aa Aa) Aa (Ao Aa) (Ag (y := Jint x10) (j := 0) (i := x5.2.1) F Aa Aa (C9 (Ae h_v3) h11 DA.here (congrArg (fun q : List Int => q) h12)) h14 Fl.int.to T3 Aa).q fun a F => ?_
     refine AZ F (Ad F Aa Aa Aa Aa) Aa (Ao Aa) (Sf F Aa Aa).q fun a F => ?_
     refine qs F Aa (Dw F Aa Aa Aa).q fun a F => ?_
     refine qs F Aa (Ai F Aa).q fun a F => ?_
     rcases bxq (decide (x5.2.2.1 = x10)) with hb | hb
     ·
      have H := DU (Fa hb) H
      rw [hb] at F
      iterate 4 refine Dn F (CX F Aa Aa Aa Aa Aa) Aa Aa fun a F => ?_
      refine qs F Aa (C4 F Aa Aa Aa).q fun a F => ?_
      refine AA fun w W => ?_
      refine Ab ?_
      have W := W.frontM (i := 1) Aa Aa
      have W := W.frontM (i := 1) Aa Aa
      exact ⟨_, H, F.ra Aa, W⟩
     have H := DS (E4 hb) H
     rw [hb] at F
     refine AZ F (Ad F Aa Aa Aa Aa) Aa (Ao Aa) (Bx (v := Value.agg #[Jint p0.1.1, v1, v2, v3, v4, v5, v6, Jint p0.2.2.2.2.2.1, Jint p0.2.2.2.2.2.2.1, Jint p0.2.2.2.2.2.2.2.1, Jint p0.2.2.2.2.2.2.2.2]) 1 F Aa Aa Wt Aa).q fun a F => ?_
     refine AZ F (Ad F Aa Aa Aa Aa) Aa (Ao Aa) (Bx (v := Value.agg #[Jint x5.1, Jint x5.2.1, Jint x5.2.2.1, Jint x5.2.2.2]) 0 F Aa Aa Ey Aa).q fun a F => ?_
     obtain ⟨x11, h15, H⟩ := Ac H
     refine AZ F (Ad F Aa Aa Aa Aa) Aa (Ao Aa) (Bc (v := Value.bool x11) F Zv Aa (fun w W => GJ any w (v1) (v2) (v3) (v4) (v5) (v6) p0 x5 _ h15 (EJ (Ae h_v1) W) (EJ (Ae h_v2) W) (EJ (AL CK h1 (Ae h_v3)) W) (EJ (AL CK h2 (Ae h_v4)) W) (EJ (Ae h_v5) W) (EJ (AL Gh h3 (Ae h_v6)) W))) fun a F => ?_
     refine AZ F (Ad F Aa Aa Aa Aa) Aa (Ao Aa) (I5 F Aa).q fun a F => ?_
     refine qs F Aa (Dw F Aa Aa Aa).q fun a F => ?_
     refine AA fun w W => ?_
     refine Ab ?_
     have W := W.frontM (i := 1) Aa Aa
     have W := W.frontM (i := 1) Aa Aa
     exact ⟨_, H, F.ra Aa, W⟩
    rintro a w ⟨x6, hj, F, W⟩
    have hj := Ay hj
    subst hj
    have H := K4
    refine CS F Aa H (fun F H => ?_) fun F H => ?_
    ·
     refine Jk tk 5 [0] F W (ai fun a w F W => ?_)
     refine ls F W Aa (B9 (v := Value.agg #[Jint 3, Jint x3, Jint x5.2.1]) Vt F Aa Aa Aa).q fun a w F W => ?_
     refine D7 (z := Value.agg #[Jint 0, Jint 0, Jint 0]) (cs := [Jint 3, Jint x3, Jint x5.2.1]) CI ([(3, x3, x5.2.1)] : List (Int × Int × Int)) F W Aa PW WY Aa Aa Aa Aa Aa Aa (UH.repL _ _ ([(3, x3, x5.2.1)] : List (Int × Int × Int))) fun v15 a w F W => ?_
     obtain ⟨x12, h16, H⟩ := Ac H
     refine Di (r := CI) (i := 1) F W Aa PW Aa Aa Aa Aa (D1 W 0 Aa) h16 Aa fun v16 a w F W => ?_
     have W : sy Y w0 [(b2, (Cj x5)), (b1, (DP p0 v1 v2 v3 v4 v5 v6))] [row v16 41 CI x12, row v15 41 CI ([(3, x3, x5.2.1)] : List (Int × Int × Int))] w := W
     refine vl tk 2 F W fun a w F W => ?_
     refine Aw (Ab ?_)
     have W := W.frontM (i := 1) Aa Aa
     have W := W.sub (M' := (C3 b1 p0 v1 v2 v3 v4 v5 v6)) (Z' := [row v16 41 CI x12]) (sc nl) (sc nl)
     exact ⟨_, (v16), H, F.ra Aa, W⟩
    refine AE (Aw (Ab ?_))
    have W := W.frontM (i := 1) Aa Aa
    have W := W.sub (M' := (C3 b1 p0 v1 v2 v3 v4 v5 v6)) (Z' := [row v11 41 CI x2]) (sc nl) sr
    exact ⟨_, (v11), H, F.ra Aa, W⟩
   rintro a w ⟨x4, v12, hj, F, W⟩
   have hj := Ay hj
   subst hj
   have H := K3
   refine vc tk 4 F W fun a w F W => ?_
   refine Ab ?_
   exact ⟨_, H, (v12), F.ra Aa, W⟩
  refine AC ?_
  iterate 2 refine AR ?_
  refine AD (Ab ?_)
  have H := L2 _ H
  exact ⟨_, (v11), H, F.ra Aa, W⟩
 rintro a w ⟨x1, v10, hj, F, W⟩
 have hj := Ay hj
 subst hj
 have H := K1
 refine vc tk 6 F W fun a w F W => ?_
 refine Ap ?_
 have H := Ay H
 subst H
 refine A1 (.inl Aa) F W Aa (Am F Aa) ?_
 have W := W.sub (M' := []) (Z' := [row v10 41 CI x1]) nl sr
 exact ⟨(v10), Aa, W⟩
theorem Z9 : Has Tryz.prog 17 := Cv Tryz.func17
def D0 (p0 : Int × (List (Int × Int × Int × Int × Int × Int)) × (List (Int × Int))) : (Int × Int) → Option ((Int × Int) ⊕ Int)
  | (x2, x3) => (if x3 < (p0.2.1.length : Int) then (ix p0.2.1 x3).bind fun x4 => some (.inl (max x2 x4.2.2.2.2.2, An (x3 + 1))) else some (.inr x2))
def E7 (p0 : Int × (List (Int × Int × Int × Int × Int × Int)) × (List (Int × Int))) : Option Int := (Aq (D0 p0) (0, 0)).bind fun x1 => some x1
theorem Oc (Y : Nat → Prop) (w0 : World) (v1 : Value) (v2 : Value) (p0 : Int × (List (Int × Int × Int × Int × Int × Int)) × (List (Int × Int))) (r : Int) (H : E7 p0 = some r) (h_v1 : Sl w0 (NX []) IP v1 p0.2.1) (h_v2 : Sl w0 (NX []) IE v2 p0.2.2) :
    ca_ 25 #[.agg #[Jint p0.1, v1, v2]] w0 fun e w' => e = .returned (Jint r) ∧ Below w0.heap.size w0 w' := by
 refine enter Tryz.func25 Aa Tryz.ntmps25 Aa fun a F => ?_
 have W := Stw.start Y w0
 unfold E7 at H
 refine vc tk 2 F W fun a w F W => ?_
 refine D3 (cs := [Jint p0.1, v1, v2]) F W Aa Aa Aa fun b1 a w F W => ?_
 refine BQ tk 8 F W fun a w F W => ?_
 obtain ⟨o1, G1, K1⟩ := Ac H
 refine As (fun a w => ∃ x1 : Int, some (x1) = some o1 ∧ Fr 19 [] [(2, Jint 0), (3, Jint x1)] a ∧ sy Y w0 [(b1, [Jint p0.1, v1, v2])] [] w) ?_ ?_
 ·
  have H := G1
  refine Jk tk 4 [0] F W (ai fun a w F W => ?_)
  refine ls F W Aa (BP (r := IP) (l := p0.2.1) Rl Aa F Aa (Ae h_v1)).q fun a w F W => ?_
  refine BQ tk 4 F W fun a w F W => ?_
  refine AN H (fun s a w => Fr 19 [] [(2, Jint 0), (3, Jint s.1), (7, v1), (8, Jint (p0.2.1.length : Int)), (9, Jint s.2)] a ∧ sy Y w0 [(b1, [Jint p0.1, v1, v2])] [] w) ⟨F.ra Aa, W⟩ fun s o a w H L2 hR => ?_
  obtain ⟨x2, x3⟩ := s
  obtain ⟨F, W⟩ := hR
  have F : Fr 19 [] [(2, Jint 0), (3, Jint x2), (7, v1), (8, Jint (p0.2.1.length : Int)), (9, Jint x3)] a := F
  have W : sy Y w0 [(b1, [Jint p0.1, v1, v2])] [] w := W
  rw [D0] at H
  refine vc tk 6 F W fun a w F W => ?_
  refine AW F Aa H (fun F H => ?_) fun F H => ?_
  ·
   refine FL tk 6 F W fun a w F W => ?_
   obtain ⟨x4, h1, H⟩ := Ac H
   refine ls F W Aa (Al (r := IP) Xv F Aa Aa (Ae h_v1) h1).q fun a w F W => ?_
   refine ls F W Aa (Ag (y := Value.agg #[Jint x4.1, Jint x4.2.1, Jint x4.2.2.1, Jint x4.2.2.2.1, Jint x4.2.2.2.2.1, Jint x4.2.2.2.2.2]) (j := 0) (i := x3) F Aa Aa (Ae h_v1) h1 Ye.to WL Aa).q fun a w F W => ?_
   refine B6 (cs := (WW)) F W Aa Yv Aa fun b2 a w F W => ?_
   refine Ej 0 F W Aa Aa Aa WL Aa Aa Aa fun w W => ?_
   refine Ii tk 6 [0] F W (ai fun a w F W => ?_)
   refine ls F W Aa (Tu F Aa Aa).q fun a w F W => ?_
   refine vl tk 2 F W fun a w F W => ?_
   refine Aw ?_
   refine vn tk 4 F W fun a w F W => ?_
   refine Ab ?_
   have W := W.frontM (i := 1) Aa Aa
   have W := W.sub (M' := [(b1, [Jint p0.1, v1, v2])]) (Z' := []) (sc nl) sr
   exact ⟨_, H, F.ra Aa, W⟩
  refine AC ?_
  iterate 2 refine AR ?_
  refine AD (Ab ?_)
  have H := L2 _ H
  exact ⟨_, H, F.ra Aa, W⟩
 rintro a w ⟨x1, hj, F, W⟩
 have hj := Ay hj
 subst hj
 have H := K1
 refine vc tk 6 F W fun a w F W => ?_
 refine Ap ?_
 have H := Ay H
 subst H
 refine A1 (.inl Aa) F W Aa (Am F Aa) ?_
 exact ⟨rfl, W.done⟩
theorem aB : Has Tryz.prog 25 := Cv Tryz.func25
def Hm (p0 : Int × (List (Int × Int × Int × Int × Int × Int)) × (List (Int × Int))) : Option Int := (E7 p0).bind fun x1 => some (An (p0.1 * x1))
theorem Nm (Y : Nat → Prop) (w0 : World) (v1 : Value) (v2 : Value) (p0 : Int × (List (Int × Int × Int × Int × Int × Int)) × (List (Int × Int))) (r : Int) (H : Hm p0 = some r) (h_v1 : Sl w0 (NX []) IP v1 p0.2.1) (h_v2 : Sl w0 (NX []) IE v2 p0.2.2) :
    ca_ 11 #[.agg #[Jint p0.1, v1, v2]] w0 fun e w' => e = .returned (Jint r) ∧ Below w0.heap.size w0 w' := by
 refine enter Tryz.func11 Aa Tryz.ntmps11 Aa fun a F => ?_
 have W := Stw.start Y w0
 unfold Hm at H
 refine vc tk 2 F W fun a w F W => ?_
 refine D3 (cs := [Jint p0.1, v1, v2]) F W Aa Aa Aa fun b1 a w F W => ?_
 refine BQ tk 4 F W fun a w F W => ?_
 refine Bz W MO (by kernel_rfl) ?_
 refine qs F Aa (Ax XE Aa Aa Aa T3 F Aa 0 Aa).q fun a F => ?_
 refine qs F Aa (Bx (v := Jint p0.1) 0 F Aa Aa T3 Aa).q fun a F => ?_
 refine qs F Aa (Bx (v := Value.agg #[Jint p0.1, v1, v2]) 0 F Aa Aa Yl Aa).q fun a F => ?_
 obtain ⟨x1, h1, H⟩ := Ac H
 refine qs F Aa (Bc (v := Jint x1) F aB Aa (fun w W => Oc any w (v1) (v2) p0 _ h1 (EJ (Ae h_v1) W) (EJ (Ae h_v2) W))) fun a F => ?_
 refine qs F Aa (V8 F Aa Aa Aa).q fun a F => ?_
 refine qs F Aa (Dr F Aa).q fun a F => ?_
 refine AA fun w W => ?_
 refine Ab (Ap ?_)
 have H := Ay H
 subst H
 refine A1 (.inl Aa) F W Aa (Am F Aa) ?_
 exact ⟨rfl, W.done⟩
theorem ZF : Has Tryz.prog 11 := Cv Tryz.func11
def HG (p0 : Int × (List (Int × Int × Int × Int × Int × Int)) × (List (Int × Int))) (p1 : Int) : Option Int := (Hm p0).bind fun x1 => some (An ((An ((An (2 * p1)) + x1)) + 1))
theorem Ov (Y : Nat → Prop) (w0 : World) (v1 : Value) (v2 : Value) (p0 : Int × (List (Int × Int × Int × Int × Int × Int)) × (List (Int × Int))) (p1 : Int) (r : Int) (H : HG p0 p1 = some r) (h_v1 : Sl w0 (NX []) IP v1 p0.2.1) (h_v2 : Sl w0 (NX []) IE v2 p0.2.2) :
    ca_ 13 #[.agg #[Jint p0.1, v1, v2], Jint p1] w0 fun e w' => e = .returned (Jint r) ∧ Below w0.heap.size w0 w' := by
 refine enter Tryz.func13 Aa Tryz.ntmps13 Aa fun a F => ?_
 have W := Stw.start Y w0
 unfold HG at H
 refine vc tk 2 F W fun a w F W => ?_
 refine D3 (cs := [Jint p0.1, v1, v2]) F W Aa Aa Aa fun b1 a w F W => ?_
 refine Ii tk 8 [0] F W (ai fun a w F W => ?_)
 obtain ⟨x1, h1, H⟩ := Ac H
 refine ls F W Aa (Bc (v := Jint x1) F ZF Aa (fun w W => Nm any w (v1) (v2) p0 _ h1 (EJ (Ae h_v1) W) (EJ (Ae h_v2) W))) fun a w F W => ?_
 refine BQ tk 5 F W fun a w F W => ?_
 refine Ap ?_
 have H := Ay H
 subst H
 refine A1 (.inl Aa) F W Aa (Am F Aa) ?_
 exact ⟨rfl, W.done⟩
theorem Zs : Has Tryz.prog 13 := Cv Tryz.func13
def BG (p0 : Int) : Int := min (max p0 (-1125899906842624)) 1125899906842624
theorem Kr (Y : Nat → Prop) (w0 : World)  (p0 : Int) (r : Int) (H : BG p0 = r)  :
    ca_ 35 #[Jint p0] w0 fun e w' => e = .returned (Jint r) ∧ Below w0.heap.size w0 w' := by
 refine enter Tryz.func35 Aa Tryz.ntmps35 Aa fun a F => ?_
 have W := Stw.start Y w0
 unfold BG at H
 refine vc tk 8 F W fun a w F W => ?_
 refine ls F W Aa (Tu F Aa Aa).q fun a w F W => ?_
 refine ls F W Aa (V2 F Aa Aa).q fun a w F W => ?_
 refine BQ tk 3 F W fun a w F W => ?_
 refine Ap ?_
 subst H
 refine A1 (.inl Aa) F W Aa (Am F Aa) ?_
 exact ⟨rfl, W.done⟩
theorem Zx : Has Tryz.prog 35 := Cv Tryz.func35
def Da (p0 : (Int × (List (Int × Int × Int × Int × Int × Int)) × (List (Int × Int))) × List (List Int) × List (List Int) × ((List (Int × Int × Int × Int)) × (List (Int × Int × List Int)) × Int × Int × Int × Int)) (x1 : Int) : ((List (Int × Int × Int)) × Int) → Option (((List (Int × Int × Int)) × Int) ⊕ (List (Int × Int × Int)))
  | (x3, x4) => (if x4 < (p0.2.2.2.2.1.length : Int) then ((ix p0.2.2.2.2.1 x4).bind fun x6 => (ix p0.2.2.2.2.1 (An (x4 - 1))).bind fun x7 => (if (An ((BG x6.2.1) - (BG x7.2.1))) < x1 then (HN x3 ([(4, x4, 0)] : List (Int × Int × Int))).bind fun x8 => some x8 else some x3)).bind fun x5 => some (.inl (x5, An (x4 + 1))) else some (.inr x3))
def DK (p0 : (Int × (List (Int × Int × Int × Int × Int × Int)) × (List (Int × Int))) × List (List Int) × List (List Int) × ((List (Int × Int × Int × Int)) × (List (Int × Int × List Int)) × Int × Int × Int × Int)) : Option (List (Int × Int × Int)) := (HG p0.1 (min (max p0.2.2.2.2.2.1 0) 1048576)).bind fun x1 => (Aq (Da p0 x1) ([], 1)).bind fun x2 => some x2
theorem KH (Y : Nat → Prop) (w0 : World) (v1 : Value) (v2 : Value) (v3 : Value) (v4 : Value) (v5 : Value) (v6 : Value) (p0 : (Int × (List (Int × Int × Int × Int × Int × Int)) × (List (Int × Int))) × List (List Int) × List (List Int) × ((List (Int × Int × Int × Int)) × (List (Int × Int × List Int)) × Int × Int × Int × Int)) (r : (List (Int × Int × Int))) (H : DK p0 = some r) (h_v1 : Sl w0 (NX []) IP v1 p0.1.2.1) (h_v2 : Sl w0 (NX []) IE v2 p0.1.2.2) (h_v3 : Sl w0 (NX []) (Rp.slice ri) v3 p0.2.1) (h_v4 : Sl w0 (NX []) (Rp.slice ri) v4 p0.2.2.1) (h_v5 : Sl w0 (NX []) AY v5 p0.2.2.2.1) (h_v6 : Sl w0 (NX []) GO v6 p0.2.2.2.2.1) :
    ca_ 18 #[.agg #[Jint p0.1.1, v1, v2, v3, v4, v5, v6, Jint p0.2.2.2.2.2.1, Jint p0.2.2.2.2.2.2.1, Jint p0.2.2.2.2.2.2.2.1, Jint p0.2.2.2.2.2.2.2.2]] w0 fun e w' => ∃ x : Value, e = .returned (x) ∧ sy Y w0 [] [row (x) 41 CI r] w' := by
 refine enter Tryz.func18 Aa Tryz.ntmps18 Aa fun a F => ?_
 have W := Stw.start Y w0
 obtain ⟨v7, h1, h_v3⟩ := h_v3.ex CK
 obtain ⟨v8, h2, h_v4⟩ := h_v4.ex CK
 obtain ⟨v9, h3, h_v6⟩ := h_v6.ex Gh
 unfold DK at H
 refine vc tk 2 F W fun a w F W => ?_
 refine D3 (cs := (DP p0 v1 v2 v3 v4 v5 v6)) F W Aa Aa Aa fun b1 a w F W => ?_
 refine Ii tk 15 [0, 0] F W (ai (ai fun a w F W => ?_))
 refine ls F W Aa (Tu F Aa Aa).q fun a w F W => ?_
 refine ls F W Aa (V2 F Aa Aa).q fun a w F W => ?_
 obtain ⟨x1, h4, H⟩ := Ac H
 refine ls F W Aa (Bc (v := Jint x1) F Zs Aa (fun w W => Ov any w (v1) (v2) p0.1 (min (max p0.2.2.2.2.2.1 0) 1048576) _ h4 (EJ (Ae h_v1) W) (EJ (Ae h_v2) W))) fun a w F W => ?_
 refine vl tk 2 F W fun a w F W => ?_
 refine Ab ?_
 obtain ⟨o1, G1, K1⟩ := Ac H
 refine As (fun a w => ∃ x2 : List (Int × Int × Int), ∃ v10 : Value, some (x2) = some o1 ∧ Fr 48 [] [(2, .slice none 0 0), (3, v10)] a ∧ sy Y w0 (C3 b1 p0 v1 v2 v3 v4 v5 v6) [row v10 41 CI x2] w) ?_ ?_
 ·
  have H := G1
  refine vc tk 6 F W fun a w F W => ?_
  have W := W.nilRow 41 CI
  refine AN H (fun s a w => ∃ v11 : Value, Fr 48 [] [(1, pp b1), (2, .slice none 0 0), (3, v11), (4, Jint x1), (5, Jint s.2)] a ∧ sy Y w0 (C3 b1 p0 v1 v2 v3 v4 v5 v6) [row v11 41 CI s.1] w) ⟨(Value.slice none 0 0), F.ra Aa, W⟩ fun s o a w H L2 hR => ?_
  obtain ⟨x3, x4⟩ := s
  obtain ⟨v11, F, W⟩ := hR
  have F : Fr 48 [] [(1, pp b1), (2, .slice none 0 0), (3, v11), (4, Jint x1), (5, Jint x4)] a := F
  have W : sy Y w0 (C3 b1 p0 v1 v2 v3 v4 v5 v6) [row v11 41 CI x3] w := W
  rw [Da] at H
  refine Jk tk 7 [0] F W (ai fun a w F W => ?_)
  refine ls F W Aa (BP (r := GO) (l := p0.2.2.2.2.1) S1 Aa F Aa (AL Gh h3 (Ae h_v6))).q fun a w F W => ?_
  refine BQ tk 3 F W fun a w F W => ?_
  refine AW F Aa H (fun F H => ?_) fun F H => ?_
  ·
   refine AE (Ab ?_)
   obtain ⟨o3, G3, K3⟩ := Ac H
   refine As (fun a w => ∃ x5 : List (Int × Int × Int), ∃ v12 : Value, some (x5) = some o3 ∧ Fr 48 [] [(1, pp b1), (2, .slice none 0 0), (3, v12), (4, Jint x1), (5, Jint x4)] a ∧ sy Y w0 (C3 b1 p0 v1 v2 v3 v4 v5 v6) [row v12 41 CI x5] w) ?_ ?_
   ·
    have H := G3
    refine vc tk 2 F W fun a w F W => ?_
    refine Bz W MO (by kernel_rfl) ?_
    refine qs F Aa (Ax T6 Aa Aa Aa Q2 F Aa 5 Aa).q fun a F => ?_
    refine qs F Aa (Ax PE Aa Aa Aa SF F Aa 6 Aa).q fun a F => ?_
    refine qs F Aa (Bx (v := v6) 0 F Aa Aa SF Aa).q fun a F => ?_
    refine qs F Aa (Ai F Aa).q fun a F => ?_
    obtain ⟨x6, h5, H⟩ := Ac H
    obtain ⟨v13, h6, h7⟩ := EP h3 h5
    have h8 : LF v13 = [Jint x6.1, Jint x6.2.1, (v13.2.2.1)] := congrArg (fun q : Int × Int × List Int => ([Jint q.1, Jint q.2.1, (v13.2.2.1)] : List Value)) h7
    refine qs F Aa (Al (r := OZ) UG F Aa Aa (Ae h_v6) h6).q fun a F => ?_
    refine qs F Aa (Ax SU Aa Aa Aa T3 F Aa (Jm v6 + (x4).toNat * 3 + 1) Aa).q fun a F => ?_
    refine qs F Aa (Ag (y := Jint x6.2.1) (j := 1) (i := x4) (enc := LF) F Aa Aa (Ae h_v6) h6 Q9 T3 (by rw [h8]; rfl)).q fun a F => ?_
    refine qs F Aa (Bc (v := Jint (BG x6.2.1)) F Zx Aa (fun w W => Kr any w x6.2.1 _ Aa)) fun a F => ?_
    refine qs F Aa (Ax T6 Aa Aa Aa Q2 F Aa 5 Aa).q fun a F => ?_
    refine qs F Aa (Ax PE Aa Aa Aa SF F Aa 6 Aa).q fun a F => ?_
    refine qs F Aa (Bx (v := v6) 0 F Aa Aa SF Aa).q fun a F => ?_
    refine qs F Aa (Ai F Aa).q fun a F => ?_
    refine qs F Aa (Ek F Aa Aa Aa).q fun a F => ?_
    obtain ⟨x7, h9, H⟩ := Ac H
    obtain ⟨v14, h10, h11⟩ := EP h3 h9
    have h12 : LF v14 = [Jint x7.1, Jint x7.2.1, (v14.2.2.1)] := congrArg (fun q : Int × Int × List Int => ([Jint q.1, Jint q.2.1, (v14.2.2.1)] : List Value)) h11
    refine qs F Aa (Al (r := OZ) UG F Aa Aa (Ae h_v6) h10).q fun a F => ?_
    refine qs F Aa (Ax SU Aa Aa Aa T3 F Aa (Jm v6 + (An (x4 - 1)).toNat * 3 + 1) Aa).q fun a F => ?_
    refine qs F Aa (Ag (y := Jint x7.2.1) (j := 1) (i := An (x4 - 1)) (enc := LF) F Aa Aa (Ae h_v6) h10 Q9 T3 (by rw [h12]; rfl)).q fun a F => ?_
    refine qs F Aa (Bc (v := Jint (BG x7.2.1)) F Zx Aa (fun w W => Kr any w x7.2.1 _ Aa)) fun a F => ?_
    refine qs F Aa (Ek F Aa Aa Aa).q fun a F => ?_
    refine qs F Aa (Ai F Aa).q fun a F => ?_
    refine qs F Aa (GV F Aa Aa).q fun a F => ?_
    refine AA fun w W => ?_
    refine Ab ?_
    refine AW F Aa H (fun F H => ?_) fun F H => ?_
    ·
     refine vc tk 3 F W fun a w F W => ?_
     refine ls F W Aa (B9 (v := Value.agg #[Jint 4, Jint x4, Jint 0]) Vt F Aa Aa Aa).q fun a w F W => ?_
     refine D7 (z := Value.agg #[Jint 0, Jint 0, Jint 0]) (cs := [Jint 4, Jint x4, Jint 0]) CI ([(4, x4, 0)] : List (Int × Int × Int)) F W Aa PW WY Aa Aa Aa Aa Aa Aa (UH.repL _ _ ([(4, x4, 0)] : List (Int × Int × Int))) fun v15 a w F W => ?_
     obtain ⟨x8, h13, H⟩ := Ac H
     refine Di (r := CI) (i := 1) F W Aa PW Aa Aa Aa Aa (D1 W 0 Aa) h13 Aa fun v16 a w F W => ?_
     have W : sy Y w0 (C3 b1 p0 v1 v2 v3 v4 v5 v6) [row v16 41 CI x8, row v15 41 CI ([(4, x4, 0)] : List (Int × Int × Int))] w := W
     refine vl tk 2 F W fun a w F W => ?_
     refine Aw (Ab ?_)
     have W := W.sub (M' := (C3 b1 p0 v1 v2 v3 v4 v5 v6)) (Z' := [row v16 41 CI x8]) sr (sc nl)
     exact ⟨_, (v16), H, F.ra Aa, W⟩
    refine AE (Aw (Ab ?_))
    exact ⟨_, (v11), H, F.ra Aa, W⟩
   rintro a w ⟨x5, v12, hj, F, W⟩
   have hj := Ay hj
   subst hj
   have H := K3
   refine vc tk 5 F W fun a w F W => ?_
   refine Ab ?_
   exact ⟨_, H, (v12), F.ra Aa, W⟩
  refine AC ?_
  iterate 2 refine AR ?_
  refine AD (Ab ?_)
  have H := L2 _ H
  exact ⟨_, (v11), H, F.ra Aa, W⟩
 rintro a w ⟨x2, v10, hj, F, W⟩
 have hj := Ay hj
 subst hj
 have H := K1
 refine vc tk 6 F W fun a w F W => ?_
 refine Ap ?_
 have H := Ay H
 subst H
 refine A1 (.inl Aa) F W Aa (Am F Aa) ?_
 have W := W.sub (M' := []) (Z' := [row v10 41 CI x2]) nl sr
 exact ⟨(v10), Aa, W⟩
theorem b8 : Has Tryz.prog 18 := Cv Tryz.func18
def Dq (p0 : List Int) : Option (List Int) := (HN ([] : List Int) p0).bind fun x1 => some x1
theorem J9 (Y : Nat → Prop) (w0 : World) (v1 : Value) (p0 : List Int) (r : List Int) (H : Dq p0 = some r) (s_v1 : Sl w0 Y ri v1 p0) :
    ca_ 56 #[v1] w0 fun e w' => ∃ x : Value, e = .returned (x) ∧ sy Y w0 [] [row (x) 3 ri r] w' := by
 refine enter Tryz.func56 Aa Tryz.ntmps56 Aa fun a F => ?_
 have W := Stw.start Y w0
 have h_v1 := W.nx s_v1
 unfold Dq at H
 refine vc tk 9 F W fun a w F W => ?_
 refine ls F W Aa (TA (r := ri) Jc F Aa (Ae h_v1)).q fun a w F W => ?_
 refine FC (Ab ?_)
 rcases Su (Ae h_v1) W with ⟨hb, hl⟩ | hb
 ·
  rw [hl] at H
  change some ([] : List Int) = _ at H
  rw [hb] at F
  refine vc tk 6 F W fun a w F W => ?_
  refine Ap (AF ?_)
  have H := Ay H
  subst H
  refine A1 (.inl Aa) F W Aa (Am F Aa) ?_
  have W := W.nilRow 3 ri
  exact ⟨(Value.slice none 0 0), Aa, W⟩
 rw [hb] at F
 refine FL tk 5 F W fun a w F W => ?_
 refine D7 (z := Jint 0) (cs := []) ri ([] : List Int) F W Aa EM Z3 Aa Aa Aa Aa Aa Aa (Fl.int.repL _ _ ([] : List Int)) fun v2 a w F W => ?_
 refine ls F W Aa (Ai F Aa).q fun a w F W => ?_
 obtain ⟨x1, h1, H⟩ := Ac H
 refine Di (r := ri) (i := 0) F W Aa EM Aa Aa Aa Aa (U5 W s_v1) h1 Aa fun v3 a w F W => ?_
 have W : sy Y w0 [] [row v3 3 ri x1] w := W
 refine BQ tk 3 F W fun a w F W => ?_
 refine Ap ?_
 have H := Ay H
 subst H
 refine A1 (.inl Aa) F W Aa (Am F Aa) ?_
 exact ⟨(v3), Aa, W⟩
theorem aO : Has Tryz.prog 56 := Cv Tryz.func56
abbrev Dk : Dp (Value × Nat × List Int) := (Dp.sl 3 ri)
abbrev Fo (p : Value × Nat × List Int) : Nat × List Int := p.2
abbrev S4 : (Nat × List Int) → Option (List Int) := WV
theorem Yd : Rst Dk (Rp.slice ri) Fo S4 := Rst.sl
def En (p0 : List (List Int)) : ((List (Nat × List Int)) × Int) → Option (((List (Nat × List Int)) × Int) ⊕ (List (Nat × List Int)))
  | (x2, x3) => (if x3 < (p0.length : Int) then (ix p0 x3).bind fun x4 => (Dq x4).bind fun x5 => (HN x2 ([(2, x5)] : List (Nat × List Int))).bind fun x6 => some (.inl (x6, An (x3 + 1))) else some (.inr x2))
def EB (p0 : List (List Int)) : Option (List (Nat × List Int)) := (Aq (En p0) ([], 0)).bind fun x1 => some x1
theorem NY (Y : Nat → Prop) (w0 : World) (v1 : Value) (p0 : List (List Int)) (r : (List (Nat × List Int))) (H : EB p0 = some r) (s_v1 : Sl w0 Y (Rp.slice ri) v1 p0) :
    ca_ 36 #[v1] w0 fun e w' => ∃ x : Value × ({x : List (Value × Nat × List Int) // x.map Fo = r}), e = .returned (x.1) ∧ sy Y w0 [] [Bp (x.1) 44 Dk (x.2.1)] w' := by
 refine enter Tryz.func36 Aa Tryz.ntmps36 Aa fun a F => ?_
 have W := Stw.start Y w0
 obtain ⟨v2, h1, s_v1⟩ := s_v1.ex CK
 have h_v1 := W.nx s_v1
 unfold EB at H
 refine vc tk 10 F W fun a w F W => ?_
 obtain ⟨o1, G1, K1⟩ := Ac H
 refine As (fun a w => ∃ x1 : List (Nat × List Int), ∃ v3 : Value, ∃ g_x1 : {x : List (Value × Nat × List Int) // x.map Fo = x1}, some (x1) = some o1 ∧ Fr 19 [] [(2, .slice none 0 0), (3, v3)] a ∧ sy Y w0 [] [Bp v3 44 Dk g_x1.1] w) ?_ ?_
 ·
  have H := G1
  refine vc tk 3 F W fun a w F W => ?_
  refine ls F W Aa (BP (r := (Rp.slice ri)) (l := p0) Nn Aa F Aa (AL CK h1 (Ae h_v1))).q fun a w F W => ?_
  refine BQ tk 4 F W fun a w F W => ?_
  have W := W.dNil 44 Dk
  have h2 : List.map Fo ([] : List (Value × Nat × List Int)) = ([] : List (Nat × List Int)) := Aa
  refine AN H (fun s a w => ∃ v4 : Value, ∃ g_x2 : {x : List (Value × Nat × List Int) // x.map Fo = s.1}, Fr 19 [] [(2, .slice none 0 0), (3, v4), (6, v1), (7, Jint (p0.length : Int)), (8, Jint s.2)] a ∧ sy Y w0 [] [Bp v4 44 Dk g_x2.1] w) ⟨(Value.slice none 0 0), ⟨([] : List (Value × Nat × List Int)), h2⟩, F.ra Aa, W⟩ fun s o a w H L2 hR => ?_
  obtain ⟨x2, x3⟩ := s
  obtain ⟨v4, g_x2, F, W⟩ := hR
  have F : Fr 19 [] [(2, .slice none 0 0), (3, v4), (6, v1), (7, Jint (p0.length : Int)), (8, Jint x3)] a := F
  have W : sy Y w0 [] [Bp v4 44 Dk g_x2.1] w := W
  rw [En] at H
  refine vc tk 6 F W fun a w F W => ?_
  refine AW F Aa H (fun F H => ?_) fun F H => ?_
  ·
   refine FL tk 6 F W fun a w F W => ?_
   obtain ⟨x4, h3, H⟩ := Ac H
   obtain ⟨v5, h4, h5⟩ := EP h1 h3
   have h6 : Hh v5 = [(v5.1)] := congrArg (fun q : List Int => ([(v5.1)] : List Value)) h5
   refine ls F W Aa (Al (r := (Rp.vsl ri)) PV F Aa Aa (Ae h_v1) h4).q fun a w F W => ?_
   refine ls F W Aa (Ag (y := (v5.1)) (j := 0) (i := x3) (enc := Hh) F Aa Aa (Ae h_v1) h4 LC NJ (by rw [h6]; rfl)).q fun a w F W => ?_
   refine BQ tk 6 F W fun a w F W => ?_
   obtain ⟨x5, h7, H⟩ := Ac H
   refine A9 (Ml := []) (Zl := []) (β := Value) (rv := fun x => x) (MM := fun x => []) (ZZ := fun x => [row x 3 ri x5]) F W aO Aa Aa (fun hL => J9 _ w ((v5.1)) x4 _ h7 (Sl.at_ (W.old s_v1) h4 DA.here (congrArg (fun q : List Int => q) h5))) fun x a w F W => ?_
   obtain ⟨v6, rfl⟩ : ∃ y, y = x := ⟨x, rfl⟩
   have W : sy Y w0 [] [row v6 3 ri x5, Bp v4 44 Dk g_x2.1] w := W
   have h8 : Value.oneCell' v6 = true := (W.one (k := 0) Aa)
   have W := W.toR
   refine D7 (z := Value.slice none 0 0) (cs := [v6]) Dk.hr ([(v6, 2, x5)] : List (Value × Nat × List Int)) F W Aa PV Yp Aa Aa Aa (Bb Aa (BK h8) Aa Ev) Aa Aa ⟨[v6], _, Aa, ⟨rfl, (AB h8 Ez)⟩, Aa⟩ fun v7 a w F W => ?_
   have W := Stw.dShutL (D := Dk) (lx := ([(v6, 2, x5)] : List (Value × Nat × List Int))) W
   have h9 : List.map Fo ([(v6, 2, x5)] : List (Value × Nat × List Int)) = ([(2, x5)] : List (Nat × List Int)) := Aa
   have W : sy Y w0 [] [Bp v7 44 Dk ([(v6, 2, x5)] : List (Value × Nat × List Int)), Bp v4 44 Dk g_x2.1] w := W
   have W := W.frontZ (i := 1) Aa Aa
   obtain ⟨x6, h10, H⟩ := Ac H
   refine OB (D := Dk) F W Aa PV Aa Aa (PZ (er := Fo) g_x2.2 h9 h10).1 Aa fun v8 a w F W => ?_
   have h11 : List.map Fo (g_x2.1 ++ ([(v6, 2, x5)] : List (Value × Nat × List Int))) = x6 := (PZ (er := Fo) g_x2.2 h9 h10).2
   have W : sy Y w0 [] [Bp v8 44 Dk (g_x2.1 ++ ([(v6, 2, x5)] : List (Value × Nat × List Int)))] w := W
   refine vl tk 2 F W fun a w F W => ?_
   refine Aw ?_
   refine vn tk 4 F W fun a w F W => ?_
   refine Ab ?_
   exact ⟨_, H, (v8), ⟨(g_x2.1 ++ ([(v6, 2, x5)] : List (Value × Nat × List Int))), h11⟩, F.ra Aa, W⟩
  refine AC ?_
  iterate 2 refine AR ?_
  refine AD (Ab ?_)
  have H := L2 _ H
  exact ⟨_, (v4), ⟨g_x2.1, g_x2.2⟩, H, F.ra Aa, W⟩
 rintro a w ⟨x1, v3, g_x1, hj, F, W⟩
 have hj := Ay hj
 subst hj
 have H := K1
 refine vc tk 6 F W fun a w F W => ?_
 refine Ap ?_
 have H := Ay H
 subst H
 refine A1 (.inl Aa) F W Aa (Am F Aa) ?_
 exact ⟨((v3), ⟨g_x1.1, g_x1.2⟩), Aa, W⟩
theorem YC : type_of% Tryz.underlying26 := Tryz.underlying26
theorem XJ : type_of% Tryz.underlying82 := Tryz.underlying82
theorem bF : Has Tryz.prog 36 := Cv Tryz.func36
theorem Zq : (Tryz.prog.info? 46).bind (·.zero) = some (.agg #[Jint 0, Jint 0, .slice none 0 0]) := by kernel_rfl
abbrev CW : Dp (Value × Nat × List (Value × Nat × List Int)) := (Dp.dl 44 Dk)
abbrev Fp (p : Value × Nat × List (Value × Nat × List Int)) : Nat × List (Nat × List Int) := (p.2.1, p.2.2.map Fo)
abbrev UQ : (Nat × List (Nat × List Int)) → Option (List (List Int)) := (XZ S4)
theorem Y1 : Rst CW (Rp.slice (Rp.slice ri)) Fp UQ := (Rst.dl Yd)
theorem Xi : Et Tryz.prog 82 26 1 24 := Et.of XJ (by kernel_rfl) (by kernel_rfl) (by kernel_rfl) (by decide)
theorem ZQ : (Tryz.prog.info? 26).bind (·.zero) = some (.slice none 0 0) := by kernel_rfl
theorem Xn : Ty Tryz.prog 26 false 1 := ⟨by kernel_rfl, by kernel_rfl⟩
theorem XO : Et Tryz.prog 26 44 1 24 := Et.of YC (by kernel_rfl) (by kernel_rfl) (by kernel_rfl) (by decide)
def DX (x4 : Int) (x6 : List Int) : ((List (Nat × List (Nat × List Int))) × Int) → Option (((List (Nat × List (Nat × List Int))) × Int) ⊕ (List (Nat × List (Nat × List Int))))
  | (x7, x8) => (if x8 < (x6.length : Int) then (ix x6 x8).bind fun x9 => (ix x7 x4).bind fun x10 => (KW x10.1).bind fun x11 => (HN x10.2 ([(2, ([x9] : List Int))] : List (Nat × List Int))).bind fun x12 => (ix (Ah x7 x4 (0, [])) x4).bind fun x13 => some (.inl ((Ah (Ah x7 x4 (0, [])) x4 (2, x12)), An (x8 + 1))) else some (.inr x7))
def Eo (p0 : List (List Int)) : ((List (Nat × List (Nat × List Int))) × Int) → Option (((List (Nat × List (Nat × List Int))) × Int) ⊕ (List (Nat × List (Nat × List Int))))
  | (x3, x4) => (if x4 < (p0.length : Int) then ((ix p0 x4).bind fun x6 => Aq (DX x4 x6) (x3, 0)).bind fun x5 => some (.inl (x5, An (x4 + 1))) else some (.inr x3))
def FR (p0 : List (List Int)) : Option (List (Nat × List (Nat × List Int))) := (mk (p0.length : Int) ((2, []) : Nat × List (Nat × List Int))).bind fun x1 => (Aq (Eo p0) (x1, 0)).bind fun x2 => some x2
theorem NT (Y : Nat → Prop) (w0 : World) (v1 : Value) (p0 : List (List Int)) (r : (List (Nat × List (Nat × List Int)))) (H : FR p0 = some r) (h_v1 : Sl w0 (NX []) (Rp.slice ri) v1 p0) :
    ca_ 37 #[v1] w0 fun e w' => ∃ x : Value × ({x : List (Value × Nat × List (Value × Nat × List Int)) // x.map Fp = r}), e = .returned (x.1) ∧ sy Y w0 [] [Bp (x.1) 26 CW (x.2.1)] w' := by
 refine enter Tryz.func37 Aa Tryz.ntmps37 Aa fun a F => ?_
 have W := Stw.start Y w0
 obtain ⟨v2, h1, h_v1⟩ := h_v1.ex CK
 unfold FR at H
 refine vc tk 8 F W fun a w F W => ?_
 refine ls F W Aa (BP (r := (Rp.slice ri)) (l := p0) Nn Aa F Aa (AL CK h1 (Ae h_v1))).q fun a w F W => ?_
 obtain ⟨x1, h2, H⟩ := Ac H
 have h3 := XG (er := Fp) (z := (Value.slice none 0 0, 2, [])) h2
 refine IX (r := CW.hr) (Value.slice none 0 0, 2, []) F W Aa Xi ZQ Aa Aa (fun w A => ⟨rfl, Aa⟩) h3.1 Aa fun v3 a w F W => ?_
 have W := Stw.dNew (D := CW) Nl.dl W
 have h4 : List.map Fp (List.replicate ((p0.length : Int)).toNat ((Value.slice none 0 0, 2, []) : Value × Nat × List (Value × Nat × List Int))) = x1 := h3.2
 have W : sy Y w0 [] [Bp v3 26 CW (List.replicate ((p0.length : Int)).toNat ((Value.slice none 0 0, 2, []) : Value × Nat × List (Value × Nat × List Int)))] w := W
 refine vl tk 2 F W fun a w F W => ?_
 refine Ab ?_
 obtain ⟨o1, G1, K1⟩ := Ac H
 refine As (fun a w => ∃ x2 : List (Nat × List (Nat × List Int)), ∃ g_x2 : {x : List (Value × Nat × List (Value × Nat × List Int)) // x.map Fp = x2}, some (x2) = some o1 ∧ Fr 38 [] [(2, .slice none 0 0), (3, v3)] a ∧ sy Y w0 [] [Bp v3 26 CW g_x2.1] w) ?_ ?_
 ·
  have H := G1
  refine vc tk 3 F W fun a w F W => ?_
  refine ls F W Aa (BP (r := (Rp.slice ri)) (l := p0) Nn Aa F Aa (AL CK h1 (Ae h_v1))).q fun a w F W => ?_
  refine BQ tk 4 F W fun a w F W => ?_
  refine AN H (fun s a w => ∃ g_x3 : {x : List (Value × Nat × List (Value × Nat × List Int)) // x.map Fp = s.1}, Fr 38 [] [(2, .slice none 0 0), (3, v3), (11, v1), (12, Jint (p0.length : Int)), (13, Jint s.2)] a ∧ sy Y w0 [] [Bp v3 26 CW g_x3.1] w) ⟨⟨(List.replicate ((p0.length : Int)).toNat ((Value.slice none 0 0, 2, []) : Value × Nat × List (Value × Nat × List Int))), h4⟩, F.ra Aa, W⟩ fun s o a w H L2 hR => ?_
  obtain ⟨x3, x4⟩ := s
  obtain ⟨g_x3, F, W⟩ := hR
  have F : Fr 38 [] [(2, .slice none 0 0), (3, v3), (11, v1), (12, Jint (p0.length : Int)), (13, Jint x4)] a := F
  have W : sy Y w0 [] [Bp v3 26 CW g_x3.1] w := W
  rw [Eo] at H
  refine vc tk 6 F W fun a w F W => ?_
  refine AW F Aa H (fun F H => ?_) fun F H => ?_
  ·
   refine AE (Ab ?_)
   obtain ⟨o3, G3, K3⟩ := Ac H
   refine As (fun a w => ∃ x5 : List (Nat × List (Nat × List Int)), ∃ g_x5 : {x : List (Value × Nat × List (Value × Nat × List Int)) // x.map Fp = x5}, some (x5) = some o3 ∧ Fr 38 [] [(2, .slice none 0 0), (3, v3), (11, v1), (12, Jint (p0.length : Int)), (13, Jint x4)] a ∧ sy Y w0 [] [Bp v3 26 CW g_x5.1] w) ?_ ?_
   ·
    have H := G3
    refine vc tk 4 F W fun a w F W => ?_
    obtain ⟨x6, h5, H⟩ := Ac H
    obtain ⟨v4, h6, h7⟩ := EP h1 h5
    have h8 : Hh v4 = [(v4.1)] := congrArg (fun q : List Int => ([(v4.1)] : List Value)) h7
    refine ls F W Aa (Al (r := (Rp.vsl ri)) PV F Aa Aa (Ae h_v1) h6).q fun a w F W => ?_
    refine ls F W Aa (Ag (y := (v4.1)) (j := 0) (i := x4) (enc := Hh) F Aa Aa (Ae h_v1) h6 LC NJ (by rw [h8]; rfl)).q fun a w F W => ?_
    refine BQ tk 7 F W fun a w F W => ?_
    refine ls F W Aa (BP (r := ri) (l := x6) Jc Aa F Aa (C9 (Ae h_v1) h6 DA.here (congrArg (fun q : List Int => q) h7))).q fun a w F W => ?_
    refine BQ tk 4 F W fun a w F W => ?_
    refine AN H (fun s a w => ∃ g_x7 : {x : List (Value × Nat × List (Value × Nat × List Int)) // x.map Fp = s.1}, Fr 38 [] [(2, .slice none 0 0), (3, v3), (4, Jint x4), (11, v1), (12, Jint (p0.length : Int)), (13, Jint x4), (18, (v4.1)), (19, Jint (x6.length : Int)), (20, Jint s.2)] a ∧ sy Y w0 [] [Bp v3 26 CW g_x7.1] w) ⟨⟨g_x3.1, g_x3.2⟩, F.ra Aa, W⟩ fun s o a w H L4 hR => ?_
    obtain ⟨x7, x8⟩ := s
    obtain ⟨g_x7, F, W⟩ := hR
    have F : Fr 38 [] [(2, .slice none 0 0), (3, v3), (4, Jint x4), (11, v1), (12, Jint (p0.length : Int)), (13, Jint x4), (18, (v4.1)), (19, Jint (x6.length : Int)), (20, Jint x8)] a := F
    have W : sy Y w0 [] [Bp v3 26 CW g_x7.1] w := W
    rw [DX] at H
    refine vc tk 6 F W fun a w F W => ?_
    refine AW F Aa H (fun F H => ?_) fun F H => ?_
    ·
     refine FL tk 6 F W fun a w F W => ?_
     obtain ⟨x9, h9, H⟩ := Ac H
     refine ls F W Aa (Al (r := ri) EM F Aa Aa (C9 (Ae h_v1) h6 DA.here (congrArg (fun q : List Int => q) h7)) h9).q fun a w F W => ?_
     refine ls F W Aa (Ag (y := Jint x9) (j := 0) (i := x8) F Aa Aa (C9 (Ae h_v1) h6 DA.here (congrArg (fun q : List Int => q) h7)) h9 Fl.int.to T3 Aa).q fun a w F W => ?_
     refine BQ tk 8 F W fun a w F W => ?_
     obtain ⟨x10, h10, H⟩ := Ac H
     obtain ⟨v5, h11, h12⟩ := EP (er := Fp) g_x7.2 h10
     refine ls F W Aa (Al (r := CW.hr) Xi F Aa Aa (NG.hd (Jr 0 Aa)) h11).q fun a w F W => ?_
     have h13 : CW.cells v5 = [(v5.1)] := congrArg (fun q : Nat × List (Nat × List Int) => ([(v5.1)] : List Value)) h12
     refine ls F W Aa (Ag (y := (v5.1)) (j := 0) (i := x4) (enc := CW.cells) F Aa Aa (NG.hd (Jr 0 Aa)) h11 CW.flat Xn (by rw [h13]; rfl)).q fun a w F W => ?_
     refine ls F W Aa (Ai F Aa).q fun a w F W => ?_
     refine D7 (z := Jint 0) (cs := [Jint x9]) ri ([x9] : List Int) F W Aa EM Z3 Aa Aa Aa Aa Aa Aa (Fl.int.repL _ _ ([x9] : List Int)) fun v6 a w F W => ?_
     have h14 : Value.oneCell' v6 = true := (W.one (k := 0) Aa)
     have W := W.toR
     refine D7 (z := Value.slice none 0 0) (cs := [v6]) Dk.hr ([(v6, 2, ([x9] : List Int))] : List (Value × Nat × List Int)) F W Aa XO Yp Aa Aa Aa (Bb Aa (BK h14) Aa Ev) Aa Aa ⟨[v6], _, Aa, ⟨rfl, (AB h14 Ez)⟩, Aa⟩ fun v7 a w F W => ?_
     have W := Stw.dShutL (D := Dk) (lx := ([(v6, 2, ([x9] : List Int))] : List (Value × Nat × List Int))) W
     have h15 : List.map Fo ([(v6, 2, ([x9] : List Int))] : List (Value × Nat × List Int)) = ([(2, ([x9] : List Int))] : List (Nat × List Int)) := Aa
     have W : sy Y w0 [] [Bp v7 44 Dk ([(v6, 2, ([x9] : List Int))] : List (Value × Nat × List Int)), Bp v3 26 CW g_x7.1] w := W
     obtain ⟨x11, h16, H⟩ := Ac H
     have W := W.frontZ (i := 1) Aa Aa
     have W := W.dTakeD h11 Foc.here ((congrArg (fun q : Nat × List (Nat × List Int) => q.1) h12).trans (Lg h16))
     have h17 : List.map Fp (Ah g_x7.1 x4 ((v5.1), 0, [])) = (Ah x7 x4 (0, [])) := (JE g_x7.2 (congrArg (fun q : Nat × List (Nat × List Int) => (0, [])) h12))
     have W : sy Y w0 [] [Bp (v5.1) 44 Dk (v5.2.2), Bp v3 26 CW (Ah g_x7.1 x4 ((v5.1), 0, [])), Bp v7 44 Dk ([(v6, 2, ([x9] : List Int))] : List (Value × Nat × List Int))] w := W
     have W := W.frontZ (i := 2) Aa Aa
     have W := W.frontZ (i := 1) Aa Aa
     obtain ⟨x12, h18, H⟩ := Ac H
     refine OB (D := Dk) F W Aa XO Aa Aa (PZ (er := Fo) (congrArg (fun q : Nat × List (Nat × List Int) => q.2) h12) h15 h18).1 Aa fun v8 a w F W => ?_
     have h19 : List.map Fo ((v5.2.2) ++ ([(v6, 2, ([x9] : List Int))] : List (Value × Nat × List Int))) = x12 := (PZ (er := Fo) (congrArg (fun q : Nat × List (Nat × List Int) => q.2) h12) h15 h18).2
     have W : sy Y w0 [] [Bp v8 44 Dk ((v5.2.2) ++ ([(v6, 2, ([x9] : List Int))] : List (Value × Nat × List Int))), Bp v3 26 CW (Ah g_x7.1 x4 ((v5.1), 0, []))] w := W
     obtain ⟨x13, h20, H⟩ := Ac H
     obtain ⟨v9, h21, h22⟩ := EP (er := Fp) h17 h20
     refine ls F W Aa (Al (r := CW.hr) Xi F Aa Aa (NG.hd (Jr 1 Aa)) h21).q fun a w F W => ?_
     have h23 : Value.oneCell' v8 = true := (W.oneD 0 Aa)
     have W := W.frontZ (i := 1) Aa Aa
     have W := W.frontZ (i := 1) Aa Aa
     have W := W.toD
     refine Od (D := CW) (S := (Dp.dl 44 Dk)) (b := (v8, 2, ((v5.2.2) ++ ([(v6, 2, ([x9] : List Int))] : List (Value × Nat × List Int))))) (i := x4) (j := 0) Foc.here F W Aa Aa Aa h21 Xn (BK h23) Aa h23 Aa fun w W => ?_
     have h24 : Fp (v8, 2, ((v5.2.2) ++ ([(v6, 2, ([x9] : List Int))] : List (Value × Nat × List Int)))) = (2, x12) := by simp only [Fp, h19]
     have h25 : List.map Fp (Ah (Ah g_x7.1 x4 ((v5.1), 0, [])) x4 (v8, 2, ((v5.2.2) ++ ([(v6, 2, ([x9] : List Int))] : List (Value × Nat × List Int))))) = (Ah (Ah x7 x4 (0, [])) x4 (2, x12)) := (JE h17 h24)
     have W : sy Y w0 [] [Bp v3 26 CW (Ah (Ah g_x7.1 x4 ((v5.1), 0, [])) x4 (v8, 2, ((v5.2.2) ++ ([(v6, 2, ([x9] : List Int))] : List (Value × Nat × List Int)))))] w := W
     refine FC (Aw ?_)
     refine vn tk 4 F W fun a w F W => ?_
     refine Ab ?_
     exact ⟨_, H, ⟨(Ah (Ah g_x7.1 x4 ((v5.1), 0, [])) x4 (v8, 2, ((v5.2.2) ++ ([(v6, 2, ([x9] : List Int))] : List (Value × Nat × List Int))))), h25⟩, F.ra Aa, W⟩
    refine AC ?_
    iterate 2 refine AR ?_
    refine AD (Aw (Ab ?_))
    have H := L4 _ H
    exact ⟨_, ⟨g_x7.1, g_x7.2⟩, H, F.ra Aa, W⟩
   rintro a w ⟨x5, g_x5, hj, F, W⟩
   have hj := Ay hj
   subst hj
   have H := K3
   refine vc tk 4 F W fun a w F W => ?_
   refine Ab ?_
   exact ⟨_, H, ⟨g_x5.1, g_x5.2⟩, F.ra Aa, W⟩
  refine AC ?_
  iterate 2 refine AR ?_
  refine AD (Ab ?_)
  have H := L2 _ H
  exact ⟨_, ⟨g_x3.1, g_x3.2⟩, H, F.ra Aa, W⟩
 rintro a w ⟨x2, g_x2, hj, F, W⟩
 have hj := Ay hj
 subst hj
 have H := K1
 refine vc tk 6 F W fun a w F W => ?_
 refine Ap ?_
 have H := Ay H
 subst H
 refine A1 (.inl Aa) F W Aa (Am F Aa) ?_
 exact ⟨((v3), ⟨g_x2.1, g_x2.2⟩), Aa, W⟩
theorem R5 : type_of% Tryz.underlying104 := Tryz.underlying104
theorem N5 : type_of% Tryz.underlying108 := Tryz.underlying108
theorem bE : Has Tryz.prog 37 := Cv Tryz.func37
abbrev Y6 (p : Value × List (Value × List Int)) : List (List Int) := (p.2.map Xr)
theorem Xu : Ex (Rp.slice (Rp.slice ri)) (Rp.vsl (Rp.vsl ri)) Y6 := (Ex.slice CK)
abbrev W3 (a : Value × List (Value × List Int)) : List Value := [a.1]
theorem Y0 : Ke (Rp.vsl (Rp.vsl ri)) W3 := Ke.vsl
theorem YB : Bt Tryz.prog 108 [Jint 0, Jint 0] [(0, 1), (1, 1)] := ⟨⟨.agg #[Jint 0, Jint 0], by kernel_rfl, rfl⟩, ⟨_, N5, fun w => by kernel_rfl⟩⟩
theorem UN : (Tryz.prog.info? 108).bind (·.zero) = some (.agg #[Jint 0, Jint 0]) := by kernel_rfl
abbrev HF : Rp (Int × Int) := (Rp.pair ri ri)
def YK (a : Int × Int) : List Value := [Jint a.1, Jint a.2]
theorem UX : Fl HF YK := (Fl.pair Fl.int Fl.int)
theorem TS : Et Tryz.prog 104 108 2 16 := Et.of R5 (by kernel_rfl) (by kernel_rfl) (by kernel_rfl) (by decide)
theorem S3 : Ty Tryz.prog 108 true 2 := ⟨by kernel_rfl, by kernel_rfl⟩
def FJ (p0 : Int) (p1 : List (Int × Int)) : Int → Option (Int ⊕ (Unit ⊕ Bool))
  | x1 => (if x1 < (p1.length : Int) then (ix p1 x1).bind fun x2 => (if (decide (x2.1 < 0) || (decide (p0 ≤ x2.1) || (decide (x2.2 < 0) || decide (p0 ≤ x2.2)))) = true then some (.inr (.inr false)) else some (.inl (An (x1 + 1)))) else some (.inr (.inl ())))
def Gr (p0 : Int) (p1 : List (Int × Int)) : Option Bool := (if (decide (p0 < 0) || decide (16 < p0)) = true then some false else GT (Aq (FJ p0 p1) 0) fun _ => some true)
theorem OR (Y : Nat → Prop) (w0 : World) (v1 : Value) (p0 : Int) (p1 : List (Int × Int)) (r : Bool) (H : Gr p0 p1 = some r) (h_v1 : Sl w0 (NX []) HF v1 p1) :
    ca_ 78 #[Jint p0, v1] w0 fun e w' => e = .returned (.bool r) ∧ Below w0.heap.size w0 w' := by
 refine enter Tryz.func78 Aa Tryz.ntmps78 Aa fun a F => ?_
 have W := Stw.start Y w0
 unfold Gr at H
 refine vc tk 6 F W fun a w F W => ?_
 refine As (fun a w => Fr 40 [] [(0, Jint p0), (1, v1), (4, .bool false), (12, .bool (decide (p0 < 0) || decide (16 < p0)))] a ∧ sy Y w0 [] [] w) ?_ ?_
 ·
  refine vc tk 4 F W fun a w F W => ?_
  rcases bxq (decide (p0 < 0)) with hb0 | hb0
  ·
   rw [hb0] at F
   refine vl tk 4 F W fun a w F W => ?_
   refine Ab ?_
   exact ⟨F.re ⟨rfl, Aa, Aa, (HA (by try rw [hb0]; all_goals simp only [Hw])), trivial⟩, W⟩
  rw [hb0] at F
  refine vl tk 4 F W fun a w F W => ?_
  refine Ab ?_
  exact ⟨F.re ⟨rfl, Aa, Aa, (HA (by try rw [hb0]; all_goals simp only [Hw])), trivial⟩, W⟩
 rintro a w ⟨F, W⟩
 refine CS F Aa H (fun F H => ?_) fun F H => ?_
 ·
  refine vc tk 5 F W fun a w F W => ?_
  refine Ap (AF ?_)
  have H := Ay H
  subst H
  refine A1 (.inl Aa) F W Aa (Am F Aa) ?_
  exact ⟨rfl, W.done⟩
 refine AE (Ab ?_)
 obtain ⟨o1, G1, K1, L1⟩ := Md H
 refine As (fun a w => some (Sum.inl ()) = some o1 ∧ Fr 40 [] [(4, .bool false)] a ∧ sy Y w0 [] [] w) ?_ ?_
 ·
  have H := G1
  refine vc tk 3 F W fun a w F W => ?_
  refine ls F W Aa (BP (r := HF) (l := p1) R5 Aa F Aa (Ae h_v1)).q fun a w F W => ?_
  refine BQ tk 4 F W fun a w F W => ?_
  refine AN H (fun s a w => Fr 40 [] [(0, Jint p0), (4, .bool false), (13, v1), (14, Jint (p1.length : Int)), (15, Jint s)] a ∧ sy Y w0 [] [] w) ⟨F.ra Aa, W⟩ fun s o a w H L2 hR => ?_
  obtain ⟨x1, rfl⟩ : ∃ x, x = s := ⟨s, rfl⟩
  obtain ⟨F, W⟩ := hR
  have F : Fr 40 [] [(0, Jint p0), (4, .bool false), (13, v1), (14, Jint (p1.length : Int)), (15, Jint x1)] a := F
  have W : sy Y w0 [] [] w := W
  rw [FJ] at H
  refine vc tk 6 F W fun a w F W => ?_
  refine AW F Aa H (fun F H => ?_) fun F H => ?_
  ·
   refine FL tk 6 F W fun a w F W => ?_
   obtain ⟨x2, h1, H⟩ := Ac H
   refine ls F W Aa (Al (r := HF) TS F Aa Aa (Ae h_v1) h1).q fun a w F W => ?_
   refine ls F W Aa (Ag (y := Value.agg #[Jint x2.1, Jint x2.2]) (j := 0) (i := x1) F Aa Aa (Ae h_v1) h1 UX.to S3 Aa).q fun a w F W => ?_
   refine B6 (cs := [Jint 0, Jint 0]) F W Aa UN Aa fun b1 a w F W => ?_
   refine Ej 0 F W Aa Aa Aa S3 Aa Aa Aa fun w W => ?_
   refine BQ tk 2 F W fun a w F W => ?_
   refine As (fun a w => Fr 40 [] [(0, Jint p0), (4, .bool false), (13, v1), (14, Jint (p1.length : Int)), (15, Jint x1), (38, .bool (decide (x2.1 < 0) || (decide (p0 ≤ x2.1) || (decide (x2.2 < 0) || decide (p0 ≤ x2.2)))))] a ∧ sy Y w0 (VO b1 x2) [] w) ?_ ?_
   ·
    refine Jk tk 5 [0] F W (ai fun a w F W => ?_)
    rcases bxq (decide (x2.1 < 0)) with hb0 | hb0
    ·
     rw [hb0] at F
     refine vl tk 17 F W fun a w F W => ?_
     refine Ab ?_
     exact ⟨F.re ⟨rfl, Aa, Aa, Aa, Aa, (HA (by try rw [hb0]; all_goals simp only [Hw])), trivial⟩, W⟩
    rw [hb0] at F
    refine Kp tk 6 [0] F W (ai fun a w F W => ?_)
    rcases bxq (decide (p0 ≤ x2.1)) with hb1 | hb1
    ·
     rw [hb1] at F
     refine vl tk 11 F W fun a w F W => ?_
     refine Ab ?_
     exact ⟨F.re ⟨rfl, Aa, Aa, Aa, Aa, (HA (by try rw [hb1]; try rw [hb0]; all_goals simp only [Hw])), trivial⟩, W⟩
    rw [hb1] at F
    refine Kp tk 5 [0] F W (ai fun a w F W => ?_)
    rcases bxq (decide (x2.2 < 0)) with hb2 | hb2
    ·
     rw [hb2] at F
     refine vl tk 6 F W fun a w F W => ?_
     refine Ab ?_
     exact ⟨F.re ⟨rfl, Aa, Aa, Aa, Aa, (HA (by try rw [hb1]; try rw [hb0]; try rw [hb2]; all_goals simp only [Hw])), trivial⟩, W⟩
    rw [hb2] at F
    refine Kp tk 6 [0] F W (ai fun a w F W => ?_)
    refine Ab ?_
    exact ⟨F.re ⟨rfl, Aa, Aa, Aa, Aa, (HA (by try rw [hb1]; try rw [hb0]; try rw [hb2]; all_goals simp only [Hw])), trivial⟩, W⟩
   rintro a w ⟨F, W⟩
   refine CS F Aa H (fun F H => ?_) fun F H => ?_
   ·
    refine vc tk 5 F W fun a w F W => ?_
    refine Ap (AV ?_)
    iterate 2 refine AF ?_
    refine AV (AF ?_)
    have H := L2 _ H
    have H := L1 _ H
    have H := Ay H
    subst H
    refine A1 (.inl Aa) F W Aa (Am F Aa) ?_
    exact ⟨rfl, W.done⟩
   refine AE (Aw ?_)
   refine vn tk 4 F W fun a w F W => ?_
   refine Ab ?_
   have W := W.sub (M' := []) (Z' := []) nl sr
   exact ⟨_, H, F.ra Aa, W⟩
  refine AC ?_
  iterate 2 refine AR ?_
  refine AD (Ab ?_)
  have H := L2 _ H
  exact ⟨H, F.ra Aa, W⟩
 rintro a w ⟨hj, F, W⟩
 have H := K1 _ hj
 refine vc tk 5 F W fun a w F W => ?_
 refine Ap ?_
 have H := Ay H
 subst H
 refine A1 (.inl Aa) F W Aa (Am F Aa) ?_
 exact ⟨rfl, W.done⟩
theorem XX : type_of% Tryz.underlying137 := Tryz.underlying137
theorem Z0 : Has Tryz.prog 78 := Cv Tryz.func78
theorem T2 : (Tryz.prog.info? 137).bind (·.zero) = some (.agg #[.int .u32 0, .int .u32 0, .int .u32 0, .int .u32 0, .int .u32 0, .int .u32 0, .int .u32 0, .int .u32 0, .int .u32 0, .int .u32 0, .int .u32 0, .int .u32 0, .int .u32 0, .int .u32 0, .int .u32 0, .int .u32 0]) := by kernel_rfl
theorem Na : Ar Tryz.prog 137 16 136 1 := ⟨XX, by kernel_rfl⟩
theorem Qc : Ty Tryz.prog 136 false 1 := ⟨by kernel_rfl, by kernel_rfl⟩
def C7 (p0 : Int) (p1 : Int) : Option Int := (Vh (HL .u32 1 p1) p1).bind fun x1 => some (Ta .u32 p0 x1)
theorem HV (Y : Nat → Prop) (w0 : World)  (p0 : Int) (p1 : Int) (r : Int) (H : C7 p0 p1 = some r)  :
    ca_ 98 #[.int .u32 p0, Jint p1] w0 fun e w' => e = .returned (.int .u32 r) ∧ Below w0.heap.size w0 w' := by
 refine enter Tryz.func98 Aa Tryz.ntmps98 Aa fun a F => ?_
 have W := Stw.start Y w0
 unfold C7 at H
 refine vc tk 9 F W fun a w F W => ?_
 obtain ⟨x1, h1, H⟩ := Ac H
 refine ls F W Aa (T5 (JT h1).2 (Sb F Aa Aa (JT h1).1)).q fun a w F W => ?_
 refine BQ tk 4 F W fun a w F W => ?_
 refine Ap ?_
 have H := Ay H
 subst H
 refine A1 (.inl Aa) F W Aa (Am F Aa) ?_
 exact ⟨rfl, W.done⟩
theorem YA : Has Tryz.prog 98 := Cv Tryz.func98
theorem Ti : Ty Tryz.prog 137 true 16 := ⟨by kernel_rfl, by kernel_rfl⟩
abbrev I0  : List Value := [.int .u32 0, .int .u32 0, .int .u32 0, .int .u32 0, .int .u32 0, .int .u32 0, .int .u32 0, .int .u32 0, .int .u32 0, .int .u32 0, .int .u32 0, .int .u32 0, .int .u32 0, .int .u32 0, .int .u32 0, .int .u32 0]
abbrev VV (a0 : Int × Int) : List Value := [Jint a0.1, Jint a0.2]
def CL (p0 : List (Int × Int)) : (Int × Int × Int × Int × Int × Int × Int × Int × Int × Int × Int × Int × Int × Int × Int × Int × Int) → Option ((Int × Int × Int × Int × Int × Int × Int × Int × Int × Int × Int × Int × Int × Int × Int × Int × Int) ⊕ (Int × Int × Int × Int × Int × Int × Int × Int × Int × Int × Int × Int × Int × Int × Int × Int))
  | (x17, x18, x19, x20, x21, x22, x23, x24, x25, x26, x27, x28, x29, x30, x31, x32, x33) => (if x17 < (p0.length : Int) then (ix p0 x17).bind fun x34 => (ix ([x18, x19, x20, x21, x22, x23, x24, x25, x26, x27, x28, x29, x30, x31, x32, x33] : List Int) x34.1).bind fun x35 => (C7 x35 x34.2).bind fun x36 => (ix ([x18, x19, x20, x21, x22, x23, x24, x25, x26, x27, x28, x29, x30, x31, x32, x33] : List Int) x34.1).bind fun x37 => some (.inl (An (x17 + 1), (if x34.1 = 0 then x36 else x18), (if x34.1 = 1 then x36 else x19), (if x34.1 = 2 then x36 else x20), (if x34.1 = 3 then x36 else x21), (if x34.1 = 4 then x36 else x22), (if x34.1 = 5 then x36 else x23), (if x34.1 = 6 then x36 else x24), (if x34.1 = 7 then x36 else x25), (if x34.1 = 8 then x36 else x26), (if x34.1 = 9 then x36 else x27), (if x34.1 = 10 then x36 else x28), (if x34.1 = 11 then x36 else x29), (if x34.1 = 12 then x36 else x30), (if x34.1 = 13 then x36 else x31), (if x34.1 = 14 then x36 else x32), (if x34.1 = 15 then x36 else x33))) else some (.inr (x18, x19, x20, x21, x22, x23, x24, x25, x26, x27, x28, x29, x30, x31, x32, x33)))
def D5 (p0 : List (Int × Int)) : Option (Int × Int × Int × Int × Int × Int × Int × Int × Int × Int × Int × Int × Int × Int × Int × Int) := (Aq (CL p0) (0, 0, 0, 0, 0, 0, 0, 0, 0, 0, 0, 0, 0, 0, 0, 0, 0)).bind fun (x1, x2, x3, x4, x5, x6, x7, x8, x9, x10, x11, x12, x13, x14, x15, x16) => some (x1, x2, x3, x4, x5, x6, x7, x8, x9, x10, x11, x12, x13, x14, x15, x16)
theorem LL (Y : Nat → Prop) (w0 : World) (v1 : Value) (p0 : List (Int × Int)) (r : (Int × Int × Int × Int × Int × Int × Int × Int × Int × Int × Int × Int × Int × Int × Int × Int)) (H : D5 p0 = some r) (h_v1 : Sl w0 (NX []) HF v1 p0) :
    ca_ 79 #[v1] w0 fun e w' => e = .returned (.agg #[.int .u32 r.1, .int .u32 r.2.1, .int .u32 r.2.2.1, .int .u32 r.2.2.2.1, .int .u32 r.2.2.2.2.1, .int .u32 r.2.2.2.2.2.1, .int .u32 r.2.2.2.2.2.2.1, .int .u32 r.2.2.2.2.2.2.2.1, .int .u32 r.2.2.2.2.2.2.2.2.1, .int .u32 r.2.2.2.2.2.2.2.2.2.1, .int .u32 r.2.2.2.2.2.2.2.2.2.2.1, .int .u32 r.2.2.2.2.2.2.2.2.2.2.2.1, .int .u32 r.2.2.2.2.2.2.2.2.2.2.2.2.1, .int .u32 r.2.2.2.2.2.2.2.2.2.2.2.2.2.1, .int .u32 r.2.2.2.2.2.2.2.2.2.2.2.2.2.2.1, .int .u32 r.2.2.2.2.2.2.2.2.2.2.2.2.2.2.2]) ∧ Below w0.heap.size w0 w' := by
 refine enter Tryz.func79 Aa Tryz.ntmps79 Aa fun a F => ?_
 have W := Stw.start Y w0
 unfold D5 at H
 refine vc tk 2 F W fun a w F W => ?_
 refine B6 (cs := (I0)) F W Aa T2 Aa fun b1 a w F W => ?_
 refine BQ tk 4 F W fun a w F W => ?_
 refine B6 (cs := (I0)) F W Aa T2 Aa fun b2 a w F W => ?_
 refine FC (Ab ?_)
 obtain ⟨o1, G1, K1⟩ := Ac H
 refine As (fun a w => ∃ x1 : Int, ∃ x2 : Int, ∃ x3 : Int, ∃ x4 : Int, ∃ x5 : Int, ∃ x6 : Int, ∃ x7 : Int, ∃ x8 : Int, ∃ x9 : Int, ∃ x10 : Int, ∃ x11 : Int, ∃ x12 : Int, ∃ x13 : Int, ∃ x14 : Int, ∃ x15 : Int, ∃ x16 : Int, some ((x1, x2, x3, x4, x5, x6, x7, x8, x9, x10, x11, x12, x13, x14, x15, x16)) = some o1 ∧ Fr 24 [] [(2, pp b1), (3, pp b2)] a ∧ sy Y w0 [(b2, [.int .u32 x1, .int .u32 x2, .int .u32 x3, .int .u32 x4, .int .u32 x5, .int .u32 x6, .int .u32 x7, .int .u32 x8, .int .u32 x9, .int .u32 x10, .int .u32 x11, .int .u32 x12, .int .u32 x13, .int .u32 x14, .int .u32 x15, .int .u32 x16]), (b1, (I0))] [] w) ?_ ?_
 ·
  have H := G1
  refine vc tk 3 F W fun a w F W => ?_
  refine ls F W Aa (BP (r := HF) (l := p0) R5 Aa F Aa (Ae h_v1)).q fun a w F W => ?_
  refine BQ tk 4 F W fun a w F W => ?_
  have W := W.frontM (i := 1) Aa Aa
  have W := W.frontM (i := 1) Aa Aa
  refine AN H (fun s a w => Fr 24 [] [(2, pp b1), (3, pp b2), (6, v1), (7, Jint (p0.length : Int)), (8, Jint s.1)] a ∧ sy Y w0 [(b2, [.int .u32 s.2.1, .int .u32 s.2.2.1, .int .u32 s.2.2.2.1, .int .u32 s.2.2.2.2.1, .int .u32 s.2.2.2.2.2.1, .int .u32 s.2.2.2.2.2.2.1, .int .u32 s.2.2.2.2.2.2.2.1, .int .u32 s.2.2.2.2.2.2.2.2.1, .int .u32 s.2.2.2.2.2.2.2.2.2.1, .int .u32 s.2.2.2.2.2.2.2.2.2.2.1, .int .u32 s.2.2.2.2.2.2.2.2.2.2.2.1, .int .u32 s.2.2.2.2.2.2.2.2.2.2.2.2.1, .int .u32 s.2.2.2.2.2.2.2.2.2.2.2.2.2.1, .int .u32 s.2.2.2.2.2.2.2.2.2.2.2.2.2.2.1, .int .u32 s.2.2.2.2.2.2.2.2.2.2.2.2.2.2.2.1, .int .u32 s.2.2.2.2.2.2.2.2.2.2.2.2.2.2.2.2]), (b1, (I0))] [] w) ⟨F.ra Aa, W⟩ fun s o a w H L2 hR => ?_
  obtain ⟨x17, x18, x19, x20, x21, x22, x23, x24, x25, x26, x27, x28, x29, x30, x31, x32, x33⟩ := s
  obtain ⟨F, W⟩ := hR
  have F : Fr 24 [] [(2, pp b1), (3, pp b2), (6, v1), (7, Jint (p0.length : Int)), (8, Jint x17)] a := F
  have W : sy Y w0 [(b2, [.int .u32 x18, .int .u32 x19, .int .u32 x20, .int .u32 x21, .int .u32 x22, .int .u32 x23, .int .u32 x24, .int .u32 x25, .int .u32 x26, .int .u32 x27, .int .u32 x28, .int .u32 x29, .int .u32 x30, .int .u32 x31, .int .u32 x32, .int .u32 x33]), (b1, (I0))] [] w := W
  rw [CL] at H
  refine vc tk 6 F W fun a w F W => ?_
  refine AW F Aa H (fun F H => ?_) fun F H => ?_
  ·
   refine FL tk 6 F W fun a w F W => ?_
   obtain ⟨x34, h1, H⟩ := Ac H
   refine ls F W Aa (Al (r := HF) TS F Aa Aa (Ae h_v1) h1).q fun a w F W => ?_
   refine ls F W Aa (Ag (y := Value.agg #[Jint x34.1, Jint x34.2]) (j := 0) (i := x17) F Aa Aa (Ae h_v1) h1 UX.to S3 Aa).q fun a w F W => ?_
   refine B6 (cs := [Jint 0, Jint 0]) F W Aa UN Aa fun b3 a w F W => ?_
   refine Ej 0 F W Aa Aa Aa S3 Aa Aa Aa fun w W => ?_
   refine BQ tk 2 F W fun a w F W => ?_
   refine Ik 10 W MO (by kernel_rfl) ?_
   refine qs F Aa (Ax N5 Aa Aa Aa T3 F Aa 0 Aa).q fun a F => ?_
   refine qs F Aa (Bx (v := Jint x34.1) 0 F Aa Aa T3 Aa).q fun a F => ?_
   refine qs F Aa (Ax N5 Aa Aa Aa T3 F Aa 0 Aa).q fun a F => ?_
   refine qs F Aa (Bx (v := Jint x34.1) 0 F Aa Aa T3 Aa).q fun a F => ?_
   obtain ⟨x35, h2, H⟩ := Ac H
   refine qs F Aa (E9 (0 + (x34.1).toNat * 1) Na F Aa Aa Aa h2 Aa).q fun a F => ?_
   refine qs F Aa (Bx (v := Value.int .u32 x35) 1 F Aa Aa Qc (IK (base := 0) (m := 16) (l := [x18, x19, x20, x21, x22, x23, x24, x25, x26, x27, x28, x29, x30, x31, x32, x33]) (enc := Value.int .u32) Aa h2)).q fun a F => ?_
   refine qs F Aa (Ax N5 Aa Aa Aa T3 F Aa 1 Aa).q fun a F => ?_
   refine qs F Aa (Bx (v := Jint x34.2) 0 F Aa Aa T3 Aa).q fun a F => ?_
   obtain ⟨x36, h3, H⟩ := Ac H
   refine qs F Aa (Bc (v := Value.int .u32 x36) F YA Aa (fun w W => HV any w x35 x34.2 _ h3)) fun a F => ?_
   obtain ⟨x37, h4, H⟩ := Ac H
   refine qs F Aa (E9 (0 + (x34.1).toNat * 1) Na F Aa Aa Aa h4 Aa).q fun a F => ?_
   refine AA fun w W => ?_
   refine Ib (o := 0) (m := 16) (i := x34.1) (l := ([x18, x19, x20, x21, x22, x23, x24, x25, x26, x27, x28, x29, x30, x31, x32, x33] : List Int)) (x := x37) (cs := [.int .u32 x18, .int .u32 x19, .int .u32 x20, .int .u32 x21, .int .u32 x22, .int .u32 x23, .int .u32 x24, .int .u32 x25, .int .u32 x26, .int .u32 x27, .int .u32 x28, .int .u32 x29, .int .u32 x30, .int .u32 x31, .int .u32 x32, .int .u32 x33]) (cs' := [.int .u32 (if x34.1 = 0 then x36 else x18), .int .u32 (if x34.1 = 1 then x36 else x19), .int .u32 (if x34.1 = 2 then x36 else x20), .int .u32 (if x34.1 = 3 then x36 else x21), .int .u32 (if x34.1 = 4 then x36 else x22), .int .u32 (if x34.1 = 5 then x36 else x23), .int .u32 (if x34.1 = 6 then x36 else x24), .int .u32 (if x34.1 = 7 then x36 else x25), .int .u32 (if x34.1 = 8 then x36 else x26), .int .u32 (if x34.1 = 9 then x36 else x27), .int .u32 (if x34.1 = 10 then x36 else x28), .int .u32 (if x34.1 = 11 then x36 else x29), .int .u32 (if x34.1 = 12 then x36 else x30), .int .u32 (if x34.1 = 13 then x36 else x31), .int .u32 (if x34.1 = 14 then x36 else x32), .int .u32 (if x34.1 = 15 then x36 else x33)]) 1 F W Aa Aa Aa Qc Aa Aa Aa Aa h4 (by intro k hk hn; rw [hk]; match k, hn with | 0, _ => rfl | 1, _ => rfl | 2, _ => rfl | 3, _ => rfl | 4, _ => rfl | 5, _ => rfl | 6, _ => rfl | 7, _ => rfl | 8, _ => rfl | 9, _ => rfl | 10, _ => rfl | 11, _ => rfl | 12, _ => rfl | 13, _ => rfl | 14, _ => rfl | 15, _ => rfl | (z + 16), h => exact absurd h (by omega)) fun w W => ?_
   have W : sy Y w0 [(b3, (VV x34)), (b2, [.int .u32 (if x34.1 = 0 then x36 else x18), .int .u32 (if x34.1 = 1 then x36 else x19), .int .u32 (if x34.1 = 2 then x36 else x20), .int .u32 (if x34.1 = 3 then x36 else x21), .int .u32 (if x34.1 = 4 then x36 else x22), .int .u32 (if x34.1 = 5 then x36 else x23), .int .u32 (if x34.1 = 6 then x36 else x24), .int .u32 (if x34.1 = 7 then x36 else x25), .int .u32 (if x34.1 = 8 then x36 else x26), .int .u32 (if x34.1 = 9 then x36 else x27), .int .u32 (if x34.1 = 10 then x36 else x28), .int .u32 (if x34.1 = 11 then x36 else x29), .int .u32 (if x34.1 = 12 then x36 else x30), .int .u32 (if x34.1 = 13 then x36 else x31), .int .u32 (if x34.1 = 14 then x36 else x32), .int .u32 (if x34.1 = 15 then x36 else x33)]), (b1, (I0))] [] w := W
   refine FC (Aw ?_)
   refine vn tk 4 F W fun a w F W => ?_
   refine Ab ?_
   have W := W.frontM (i := 2) Aa Aa
   have W := W.frontM (i := 2) Aa Aa
   have W := W.sub (M' := [(b2, [.int .u32 (if x34.1 = 0 then x36 else x18), .int .u32 (if x34.1 = 1 then x36 else x19), .int .u32 (if x34.1 = 2 then x36 else x20), .int .u32 (if x34.1 = 3 then x36 else x21), .int .u32 (if x34.1 = 4 then x36 else x22), .int .u32 (if x34.1 = 5 then x36 else x23), .int .u32 (if x34.1 = 6 then x36 else x24), .int .u32 (if x34.1 = 7 then x36 else x25), .int .u32 (if x34.1 = 8 then x36 else x26), .int .u32 (if x34.1 = 9 then x36 else x27), .int .u32 (if x34.1 = 10 then x36 else x28), .int .u32 (if x34.1 = 11 then x36 else x29), .int .u32 (if x34.1 = 12 then x36 else x30), .int .u32 (if x34.1 = 13 then x36 else x31), .int .u32 (if x34.1 = 14 then x36 else x32), .int .u32 (if x34.1 = 15 then x36 else x33)]), (b1, (I0))]) (Z' := []) (sc (sc nl)) sr
   exact ⟨_, H, F.ra Aa, W⟩
  refine AC ?_
  iterate 2 refine AR ?_
  refine AD (Ab ?_)
  have W := W.frontM (i := 1) Aa Aa
  have W := W.frontM (i := 1) Aa Aa
  have H := L2 _ H
  exact ⟨_, _, _, _, _, _, _, _, _, _, _, _, _, _, _, _, H, F.ra Aa, W⟩
 rintro a w ⟨x1, x2, x3, x4, x5, x6, x7, x8, x9, x10, x11, x12, x13, x14, x15, x16, hj, F, W⟩
 have hj := Ay hj
 subst hj
 have H := K1
 refine Jk tk 3 [0] F W (ai fun a w F W => ?_)
 refine Ej 1 F W Aa Aa Aa Ti Aa Aa Aa fun w W => ?_
 refine BQ tk 2 F W fun a w F W => ?_
 refine Ap ?_
 have H := Ay H
 subst H
 refine A1 (.inl Aa) F W Aa (IC 1 F Aa Aa Ti Aa) ?_
 exact ⟨rfl, W.done⟩
end
end Go.Proofs.YthhoflfhegfmcaaGreat
