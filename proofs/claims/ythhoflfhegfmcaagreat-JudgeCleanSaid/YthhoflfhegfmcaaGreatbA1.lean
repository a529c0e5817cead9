/- The functions of layer 25, JD. Conditions: none. -/
import Derived.Test.YthhoflfhegfmcaaGreatbA0
namespace Go.Proofs.YthhoflfhegfmcaaGreat
open Go Go.RowKit
set_option linter.unusedVariables false
set_option linter.unusedSimpArgs false
set_option maxRecDepth 20000
set_option maxHeartbeats 1600000
theorem ZS : Has Tryz.prog 54 := Cu Tryz.func54
abbrev DN (a0 : (Int × (List (Int × Int × Int × Int × Int × Int)) × (List (Int × Int))) × List (List Int) × List (List Int) × ((List (Int × Int × Int × Int)) × (List (Int × Int × List Int)) × Int × Int × Int × Int)) (a1 : Value) (a2 : Value) (a3 : Value) (a4 : Value) (a5 : Value) (a6 : Value) : List Value := [.int .i64 a0.1.1, a1, a2, a3, a4, a5, a6, .int .i64 a0.2.2.2.2.2.1, .int .i64 a0.2.2.2.2.2.2.1, .int .i64 a0.2.2.2.2.2.2.2.1, .int .i64 a0.2.2.2.2.2.2.2.2]
noncomputable def Cr (p0 : (Int × (List (Int × Int × Int × Int × Int × Int)) × (List (Int × Int))) × List (List Int) × List (List Int) × ((List (Int × Int × Int × Int)) × (List (Int × Int × List Int)) × Int × Int × Int × Int)) (p1 : Int × Int × Int × Int) : Option Bool := (Br p0.2.2.2.2.1 p1).bind fun x1 => some x1
theorem GG (Y : Nat → Prop) (w0 : World) (v1 : Value) (v2 : Value) (v3 : Value) (v4 : Value) (v5 : Value) (v6 : Value) (p0 : (Int × (List (Int × Int × Int × Int × Int × Int)) × (List (Int × Int))) × List (List Int) × List (List Int) × ((List (Int × Int × Int × Int)) × (List (Int × Int × List Int)) × Int × Int × Int × Int)) (p1 : Int × Int × Int × Int) (r : Bool) (H : Cr p0 p1 = some r) (h_v1 : Sl w0 (NX []) IG v1 p0.1.2.1) (h_v2 : Sl w0 (NX []) IB v2 p0.1.2.2) (h_v3 : Sl w0 (NX []) (Rp.slice (Rp.int .i64)) v3 p0.2.1) (h_v4 : Sl w0 (NX []) (Rp.slice (Rp.int .i64)) v4 p0.2.2.1) (h_v5 : Sl w0 (NX []) A5 v5 p0.2.2.2.1) (h_v6 : Sl w0 (NX []) Jg v6 p0.2.2.2.2.1) :
    Calls Tryz.prog 34 #[.agg #[.int .i64 p0.1.1, v1, v2, v3, v4, v5, v6, .int .i64 p0.2.2.2.2.2.1, .int .i64 p0.2.2.2.2.2.2.1, .int .i64 p0.2.2.2.2.2.2.2.1, .int .i64 p0.2.2.2.2.2.2.2.2], .agg #[.int .i64 p1.1, .int .i64 p1.2.1, .int .i64 p1.2.2.1, .int .i64 p1.2.2.2]] w0 fun e w' => e = .returned (.bool r) ∧ Below w0.heap.size w0 w' := by
 refine enter Tryz.func34 Aa Tryz.ntmps34 Aa fun a F => ?_
 have W := Stw.start Y w0
 obtain ⟨v7, h1, h_v3⟩ := h_v3.ex CM
 obtain ⟨v8, h2, h_v4⟩ := h_v4.ex CM
 obtain ⟨v9, h3, h_v6⟩ := h_v6.ex HF
 unfold Cr at H
 refine vc tk 2 F W fun a w F W => ?_
 refine D2 (cs := (DN p0 v1 v2 v3 v4 v5 v6)) F W Aa Aa Aa fun b1 a w F W => ?_
 refine D2 (cs := (Ck p1)) F W Aa Aa Aa fun b2 a w F W => ?_
 refine JG tk 8 [1] F W (ai fun a w F W => ?_)
 refine ls F W Aa (Rb (us := []) (vs := [.pointer (some ⟨b2, 0, none⟩)]) F Aa Aa).q fun a w F W => ?_
 obtain ⟨x1, h4, H⟩ := Ac H
 refine ls F W Aa (Be (v := Value.bool x1) F ZS Aa (fun w W => FL any w (v6) b2 p0.2.2.2.2.1 p1 _ h4 (EG (AN HF h3 (Ad h_v6)) W) (YV W 0 Aa))) fun a w F W => ?_
 refine BR tk 3 F W fun a w F W => ?_
 refine Ao ?_
 have H := Ax H
 subst H
 refine A1 (.inl Aa) F W Aa (Am F Aa) ?_
 exact ⟨rfl, W.done⟩
theorem Zt : Has Tryz.prog 34 := Cu Tryz.func34
abbrev C0 (a0 : Nat) (a1 : (Int × (List (Int × Int × Int × Int × Int × Int)) × (List (Int × Int))) × List (List Int) × List (List Int) × ((List (Int × Int × Int × Int)) × (List (Int × Int × List Int)) × Int × Int × Int × Int)) (a2 : Value) (a3 : Value) (a4 : Value) (a5 : Value) (a6 : Value) (a7 : Value) : List (Nat × List Value) := [(a0, [.int .i64 a1.1.1, a2, a3, a4, a5, a6, a7, .int .i64 a1.2.2.2.2.2.1, .int .i64 a1.2.2.2.2.2.2.1, .int .i64 a1.2.2.2.2.2.2.2.1, .int .i64 a1.2.2.2.2.2.2.2.2])]
abbrev QM  : List Value := [.int .i64 0, .int .i64 0, .int .i64 0, .int .i64 0]
noncomputable def CL (p0 : (Int × (List (Int × Int × Int × Int × Int × Int)) × (List (Int × Int))) × List (List Int) × List (List Int) × ((List (Int × Int × Int × Int)) × (List (Int × Int × List Int)) × Int × Int × Int × Int)) (p1 : Int) (p2 : Int) (p3 : Int) : (Int × Int) → Option ((Int × Int) ⊕ Int)
  | (x2, x3) => (if x3 < (p0.2.2.2.1.length : Int) then ((ix p0.2.2.2.1 x3).bind fun x5 => (if x5.1 = p1 then (if x5.2.1 = p2 then (if x5.2.2.1 = p3 then (Cr p0 x5).bind fun x7 => some x7 else some false) else some false) else some false).bind fun x6 => (if x6 = true then some (An (x2 + 1)) else some x2)).bind fun x4 => some (.inl (x4, An (x3 + 1))) else some (.inr x2))
noncomputable def B5 (p0 : (Int × (List (Int × Int × Int × Int × Int × Int)) × (List (Int × Int))) × List (List Int) × List (List Int) × ((List (Int × Int × Int × Int)) × (List (Int × Int × List Int)) × Int × Int × Int × Int)) (p1 : Int) (p2 : Int) (p3 : Int) : Option Int := (Ap (CL p0 p1 p2 p3) (0, 0)).bind fun x1 => some x1
theorem Ka (Y : Nat → Prop) (w0 : World) (v1 : Value) (v2 : Value) (v3 : Value) (v4 : Value) (v5 : Value) (v6 : Value) (p0 : (Int × (List (Int × Int × Int × Int × Int × Int)) × (List (Int × Int))) × List (List Int) × List (List Int) × ((List (Int × Int × Int × Int)) × (List (Int × Int × List Int)) × Int × Int × Int × Int)) (p1 : Int) (p2 : Int) (p3 : Int) (r : Int) (H : B5 p0 p1 p2 p3 = some r) (h_v1 : Sl w0 (NX []) IG v1 p0.1.2.1) (h_v2 : Sl w0 (NX []) IB v2 p0.1.2.2) (h_v3 : Sl w0 (NX []) (Rp.slice (Rp.int .i64)) v3 p0.2.1) (h_v4 : Sl w0 (NX []) (Rp.slice (Rp.int .i64)) v4 p0.2.2.1) (h_v5 : Sl w0 (NX []) A5 v5 p0.2.2.2.1) (h_v6 : Sl w0 (NX []) Jg v6 p0.2.2.2.2.1) :
    Calls Tryz.prog 32 #[.agg #[.int .i64 p0.1.1, v1, v2, v3, v4, v5, v6, .int .i64 p0.2.2.2.2.2.1, .int .i64 p0.2.2.2.2.2.2.1, .int .i64 p0.2.2.2.2.2.2.2.1, .int .i64 p0.2.2.2.2.2.2.2.2], .int .i64 p1, .int .i64 p2, .int .i64 p3] w0 fun e w' => e = .returned (.int .i64 r) ∧ Below w0.heap.size w0 w' := by
 refine enter Tryz.func32 Aa Tryz.ntmps32 Aa fun a F => ?_
 have W := Stw.start Y w0
 obtain ⟨v7, h1, h_v3⟩ := h_v3.ex CM
 obtain ⟨v8, h2, h_v4⟩ := h_v4.ex CM
 obtain ⟨v9, h3, h_v6⟩ := h_v6.ex HF
 unfold B5 at H
 refine vc tk 2 F W fun a w F W => ?_
 refine D2 (cs := (DN p0 v1 v2 v3 v4 v5 v6)) F W Aa Aa Aa fun b1 a w F W => ?_
 refine BR tk 8 F W fun a w F W => ?_
 obtain ⟨o1, G1, K1⟩ := Ac H
 refine Aq (fun a w => ∃ x1 : Int, some (x1) = some o1 ∧ Fr 45 [] [(8, .int .i64 0), (9, .int .i64 x1)] a ∧ Stw ⟨Y, [], w0⟩ (C0 b1 p0 v1 v2 v3 v4 v5 v6) [] w) ?_ ?_
 ·
  have H := G1
  clear G1 K1
  refine IL tk 5 [0] F W (ai fun a w F W => ?_)
  refine ls F W Aa (BS (r := A5) (l := p0.2.2.2.1) Qz Aa F Aa (Ad h_v5)).q fun a w F W => ?_
  refine BR tk 4 F W fun a w F W => ?_
  refine AL H (fun s a w => Fr 45 [] [(1, .int .i64 p1), (2, .int .i64 p2), (3, .int .i64 p3), (4, .pointer (some ⟨b1, 0, none⟩)), (8, .int .i64 0), (9, .int .i64 s.1), (14, v5), (15, .int .i64 (p0.2.2.2.1.length : Int)), (16, .int .i64 s.2)] a ∧ Stw ⟨Y, [], w0⟩ (C0 b1 p0 v1 v2 v3 v4 v5 v6) [] w) ⟨F.ra Aa, W⟩ fun s o a w H L2 hR => ?_
  obtain ⟨x2, x3⟩ := s
  obtain ⟨F, W⟩ := hR
  have F : Fr 45 [] [(1, .int .i64 p1), (2, .int .i64 p2), (3, .int .i64 p3), (4, .pointer (some ⟨b1, 0, none⟩)), (8, .int .i64 0), (9, .int .i64 x2), (14, v5), (15, .int .i64 (p0.2.2.2.1.length : Int)), (16, .int .i64 x3)] a := F
  have W : Stw ⟨Y, [], w0⟩ (C0 b1 p0 v1 v2 v3 v4 v5 v6) [] w := W
  rw [CL] at H
  refine vc tk 6 F W fun a w F W => ?_
  refine AU F Aa H (fun F H => ?_) fun F H => ?_
  ·
   refine AB (Ab ?_)
   obtain ⟨o3, G3, K3⟩ := Ac H
   refine Aq (fun a w => ∃ x4 : Int, some (x4) = some o3 ∧ Fr 45 [] [(1, .int .i64 p1), (2, .int .i64 p2), (3, .int .i64 p3), (4, .pointer (some ⟨b1, 0, none⟩)), (8, .int .i64 0), (9, .int .i64 x4), (14, v5), (15, .int .i64 (p0.2.2.2.1.length : Int)), (16, .int .i64 x3)] a ∧ Stw ⟨Y, [], w0⟩ (C0 b1 p0 v1 v2 v3 v4 v5 v6) [] w) ?_ ?_
   ·
    have H := G3
    clear G3 K3
    refine vc tk 3 F W fun a w F W => ?_
    obtain ⟨x5, h4, H⟩ := Ac H
    refine ls F W Aa (Al (r := A5) EM F Aa Aa (Ad h_v5) h4).q fun a w F W => ?_
    refine ls F W Aa (Ag (y := Value.agg #[.int .i64 x5.1, .int .i64 x5.2.1, .int .i64 x5.2.2.1, .int .i64 x5.2.2.2]) (j := 0) (i := x3) F Aa Aa (Ad h_v5) h4 ES.to Er Aa).q fun a w F W => ?_
    refine B8 (cs := (QM)) F W Aa W3 Aa fun b2 a w F W => ?_
    refine Ey 0 F W Aa Aa Aa Er Aa Aa Aa fun w W => ?_
    refine FG (Ab ?_)
    obtain ⟨o4, G4, K4⟩ := Ac H
    refine Aq (fun a w => ∃ x6 : Bool, some (x6) = some o4 ∧ Fr 45 [] [(1, .int .i64 p1), (2, .int .i64 p2), (3, .int .i64 p3), (4, .pointer (some ⟨b1, 0, none⟩)), (8, .int .i64 0), (9, .int .i64 x2), (14, v5), (15, .int .i64 (p0.2.2.2.1.length : Int)), (16, .int .i64 x3), (40, .bool x6)] a ∧ Stw ⟨Y, [], w0⟩ [(b2, (Ck x5)), (b1, (DN p0 v1 v2 v3 v4 v5 v6))] [] w) ?_ ?_
    ·
     have H := G4
     clear G4 K4
     refine IL tk 6 [0] F W (ai fun a w F W => ?_)
     rcases Bool.eq_false_or_eq_true (decide (x5.1 = p1)) with hb | hb
     ·
      have H := D0 (Fm hb) H
      rw [hb] at F
      clear hb
      refine Ky tk 6 [0] F W (ai fun a w F W => ?_)
      rcases Bool.eq_false_or_eq_true (decide (x5.2.1 = p2)) with hb | hb
      ·
       have H := D0 (Fm hb) H
       rw [hb] at F
       clear hb
       refine Ky tk 6 [0] F W (ai fun a w F W => ?_)
       rcases Bool.eq_false_or_eq_true (decide (x5.2.2.1 = p3)) with hb | hb
       ·
        have H := D0 (Fm hb) H
        rw [hb] at F
        clear hb
        refine Ky tk 2 [1, 0] F W (ai (ai fun a w F W => ?_))
        refine MB (Ae F Aa Aa Aa Aa) ?_
        obtain ⟨x7, h5, H⟩ := Ac H
        refine ls F W Aa (Be (v := Value.bool x7) F Zt Aa (fun w W => GG any w (v1) (v2) (v3) (v4) (v5) (v6) p0 x5 _ h5 (EG (Ad h_v1) W) (EG (Ad h_v2) W) (EG (AN CM h1 (Ad h_v3)) W) (EG (AN CM h2 (Ad h_v4)) W) (EG (Ad h_v5) W) (EG (AN HF h3 (Ad h_v6)) W))) fun a w F W => ?_
        refine vl tk 2 F W fun a w F W => ?_
        refine Ab ?_
        have W := W.frontM (i := 1) Aa Aa
        have W := W.frontM (i := 1) Aa Aa
        exact ⟨_, H, F.ra Aa, W⟩
       have H := DZ (Fo hb) H
       rw [hb] at F
       clear hb
       refine vl tk 5 F W fun a w F W => ?_
       refine Ab ?_
       have W := W.frontM (i := 1) Aa Aa
       have W := W.frontM (i := 1) Aa Aa
       exact ⟨_, H, F.ra Aa, W⟩
      have H := DZ (Fo hb) H
      rw [hb] at F
      clear hb
      refine vl tk 11 F W fun a w F W => ?_
      refine Ab ?_
      have W := W.frontM (i := 1) Aa Aa
      have W := W.frontM (i := 1) Aa Aa
      exact ⟨_, H, F.ra Aa, W⟩
     have H := DZ (Fo hb) H
     rw [hb] at F
     clear hb
     refine vl tk 17 F W fun a w F W => ?_
     refine Ab ?_
     have W := W.frontM (i := 1) Aa Aa
     have W := W.frontM (i := 1) Aa Aa
     exact ⟨_, H, F.ra Aa, W⟩
    rintro a w ⟨x6, hj, F, W⟩
    have hj := Ax hj
    subst hj
    have H := K4
    clear G4 K4
    refine C2 F Aa H (fun F H => ?_) fun F H => ?_
    ·
     refine vc tk 5 F W fun a w F W => ?_
     refine Aw (Ab ?_)
     have W := W.frontM (i := 1) Aa Aa
     have W := W.sub (M' := (C0 b1 p0 v1 v2 v3 v4 v5 v6)) (Z' := []) (List.Sublist.cons_cons _ (List.nil_sublist _)) (List.Sublist.refl _)
     exact ⟨_, H, F.ra Aa, W⟩
    refine AB (Aw (Ab ?_))
    have W := W.frontM (i := 1) Aa Aa
    have W := W.sub (M' := (C0 b1 p0 v1 v2 v3 v4 v5 v6)) (Z' := []) (List.Sublist.cons_cons _ (List.nil_sublist _)) (List.Sublist.refl _)
    exact ⟨_, H, F.ra Aa, W⟩
   rintro a w ⟨x4, hj, F, W⟩
   have hj := Ax hj
   subst hj
   have H := K3
   clear G3 K3
   refine vc tk 4 F W fun a w F W => ?_
   refine Ab ?_
   exact ⟨_, H, F.ra Aa, W⟩
  refine AA ?_
  iterate 2 refine AQ ?_
  refine AC (Ab ?_)
  have H := L2 _ H
  exact ⟨_, H, F.ra Aa, W⟩
 rintro a w ⟨x1, hj, F, W⟩
 have hj := Ax hj
 subst hj
 have H := K1
 clear G1 K1
 refine vc tk 6 F W fun a w F W => ?_
 refine Ao ?_
 have H := Ax H
 subst H
 refine A1 (.inl Aa) F W Aa (Am F Aa) ?_
 exact ⟨rfl, W.done⟩
theorem bD : Has Tryz.prog 32 := Cu Tryz.func32
noncomputable def Ct (p0 : (Int × (List (Int × Int × Int × Int × Int × Int)) × (List (Int × Int))) × List (List Int) × List (List Int) × ((List (Int × Int × Int × Int)) × (List (Int × Int × List Int)) × Int × Int × Int × Int)) (x3 : Int) (x5 : List Int) : ((List (Int × Int × Int)) × Int) → Option (((List (Int × Int × Int)) × Int) ⊕ (List (Int × Int × Int)))
  | (x6, x7) => (if x7 < (x5.length : Int) then ((ix x5 x7).bind fun x9 => ((ix p0.2.1 x3).bind fun x11 => (ix x11 x7).bind fun x12 => (if x9 ≠ x12 then (B5 p0 x3 x7 x9).bind fun x13 => some (decide (x13 ≠ 1)) else some false)).bind fun x10 => (if x10 = true then (H4 x6 ([(2, x3, x7)] : List (Int × Int × Int))).bind fun x14 => some x14 else some x6)).bind fun x8 => some (.inl (x8, An (x7 + 1))) else some (.inr x6))
noncomputable def CP (p0 : (Int × (List (Int × Int × Int × Int × Int × Int)) × (List (Int × Int))) × List (List Int) × List (List Int) × ((List (Int × Int × Int × Int)) × (List (Int × Int × List Int)) × Int × Int × Int × Int)) : ((List (Int × Int × Int)) × Int) → Option (((List (Int × Int × Int)) × Int) ⊕ (List (Int × Int × Int)))
  | (x2, x3) => (if x3 < (p0.2.2.1.length : Int) then ((ix p0.2.2.1 x3).bind fun x5 => Ap (Ct p0 x3 x5) (x2, 0)).bind fun x4 => some (.inl (x4, An (x3 + 1))) else some (.inr x2))
noncomputable def Do (p0 : (Int × (List (Int × Int × Int × Int × Int × Int)) × (List (Int × Int))) × List (List Int) × List (List Int) × ((List (Int × Int × Int × Int)) × (List (Int × Int × List Int)) × Int × Int × Int × Int)) : Option (List (Int × Int × Int)) := (Ap (CP p0) ([], 0)).bind fun x1 => some x1
theorem J6 (Y : Nat → Prop) (w0 : World) (v1 : Value) (v2 : Value) (v3 : Value) (v4 : Value) (v5 : Value) (v6 : Value) (p0 : (Int × (List (Int × Int × Int × Int × Int × Int)) × (List (Int × Int))) × List (List Int) × List (List Int) × ((List (Int × Int × Int × Int)) × (List (Int × Int × List Int)) × Int × Int × Int × Int)) (r : (List (Int × Int × Int))) (H : Do p0 = some r) (h_v1 : Sl w0 (NX []) IG v1 p0.1.2.1) (h_v2 : Sl w0 (NX []) IB v2 p0.1.2.2) (h_v3 : Sl w0 (NX []) (Rp.slice (Rp.int .i64)) v3 p0.2.1) (h_v4 : Sl w0 (NX []) (Rp.slice (Rp.int .i64)) v4 p0.2.2.1) (h_v5 : Sl w0 (NX []) A5 v5 p0.2.2.2.1) (h_v6 : Sl w0 (NX []) Jg v6 p0.2.2.2.2.1) :
    Calls Tryz.prog 16 #[.agg #[.int .i64 p0.1.1, v1, v2, v3, v4, v5, v6, .int .i64 p0.2.2.2.2.2.1, .int .i64 p0.2.2.2.2.2.2.1, .int .i64 p0.2.2.2.2.2.2.2.1, .int .i64 p0.2.2.2.2.2.2.2.2]] w0 fun e w' => ∃ x : Value, e = .returned (x) ∧ Stw ⟨Y, [], w0⟩ [] [row (x) 41 CJ r] w' := by
 refine enter Tryz.func16 Aa Tryz.ntmps16 Aa fun a F => ?_
 have W := Stw.start Y w0
 obtain ⟨v7, h1, h_v3⟩ := h_v3.ex CM
 obtain ⟨v8, h2, h_v4⟩ := h_v4.ex CM
 obtain ⟨v9, h3, h_v6⟩ := h_v6.ex HF
 unfold Do at H
 refine vc tk 2 F W fun a w F W => ?_
 refine D2 (cs := (DN p0 v1 v2 v3 v4 v5 v6)) F W Aa Aa Aa fun b1 a w F W => ?_
 refine BR tk 8 F W fun a w F W => ?_
 obtain ⟨o1, G1, K1⟩ := Ac H
 refine Aq (fun a w => ∃ x1 : List (Int × Int × Int), ∃ v10 : Value, some (x1) = some o1 ∧ Fr 50 [] [(2, .slice none 0 0), (3, v10)] a ∧ Stw ⟨Y, [], w0⟩ (C0 b1 p0 v1 v2 v3 v4 v5 v6) [row v10 41 CJ x1] w) ?_ ?_
 ·
  have H := G1
  clear G1 K1
  refine IL tk 4 [0] F W (ai fun a w F W => ?_)
  refine ls F W Aa (BS (r := (Rp.slice (Rp.int .i64))) (l := p0.2.2.1) Nn Aa F Aa (AN CM h2 (Ad h_v4))).q fun a w F W => ?_
  refine BR tk 4 F W fun a w F W => ?_
  have W := W.nilRow 41 CJ
  refine AL H (fun s a w => ∃ v11 : Value, Fr 50 [] [(1, .pointer (some ⟨b1, 0, none⟩)), (2, .slice none 0 0), (3, v11), (9, v4), (10, .int .i64 (p0.2.2.1.length : Int)), (11, .int .i64 s.2)] a ∧ Stw ⟨Y, [], w0⟩ (C0 b1 p0 v1 v2 v3 v4 v5 v6) [row v11 41 CJ s.1] w) ⟨(Value.slice none 0 0), F.ra Aa, W⟩ fun s o a w H L2 hR => ?_
  obtain ⟨x2, x3⟩ := s
  obtain ⟨v11, F, W⟩ := hR
  have F : Fr 50 [] [(1, .pointer (some ⟨b1, 0, none⟩)), (2, .slice none 0 0), (3, v11), (9, v4), (10, .int .i64 (p0.2.2.1.length : Int)), (11, .int .i64 x3)] a := F
  have W : Stw ⟨Y, [], w0⟩ (C0 b1 p0 v1 v2 v3 v4 v5 v6) [row v11 41 CJ x2] w := W
  rw [CP] at H
  refine vc tk 6 F W fun a w F W => ?_
  refine AU F Aa H (fun F H => ?_) fun F H => ?_
  ·
   refine AB (Ab ?_)
   obtain ⟨o3, G3, K3⟩ := Ac H
   refine Aq (fun a w => ∃ x4 : List (Int × Int × Int), ∃ v12 : Value, some (x4) = some o3 ∧ Fr 50 [] [(1, .pointer (some ⟨b1, 0, none⟩)), (2, .slice none 0 0), (3, v12), (9, v4), (10, .int .i64 (p0.2.2.1.length : Int)), (11, .int .i64 x3)] a ∧ Stw ⟨Y, [], w0⟩ (C0 b1 p0 v1 v2 v3 v4 v5 v6) [row v12 41 CJ x4] w) ?_ ?_
   ·
    have H := G3
    clear G3 K3
    refine vc tk 4 F W fun a w F W => ?_
    obtain ⟨x5, h4, H⟩ := Ac H
    obtain ⟨v13, h5, h6⟩ := E5 h2 h4
    have h7 : Hd v13 = [(v13.1)] := congrArg (fun q : List Int => ([(v13.1)] : List Value)) h6
    refine ls F W Aa (Al (r := (Rp.vsl (Rp.int .i64))) Ps F Aa Aa (Ad h_v4) h5).q fun a w F W => ?_
    refine ls F W Aa (Ag (y := (v13.1)) (j := 0) (i := x3) (enc := Hd) F Aa Aa (Ad h_v4) h5 LI NA (by rw [h7]; rfl)).q fun a w F W => ?_
    refine BR tk 7 F W fun a w F W => ?_
    refine ls F W Aa (BS (r := (Rp.int .i64)) (l := x5) IV Aa F Aa (Dc (Ad h_v4) h5 DP.here (congrArg (fun q : List Int => q) h6))).q fun a w F W => ?_
    refine BR tk 4 F W fun a w F W => ?_
    refine AL H (fun s a w => ∃ v14 : Value, Fr 50 [] [(1, .pointer (some ⟨b1, 0, none⟩)), (2, .slice none 0 0), (3, v14), (4, .int .i64 x3), (9, v4), (10, .int .i64 (p0.2.2.1.length : Int)), (11, .int .i64 x3), (16, (v13.1)), (17, .int .i64 (x5.length : Int)), (18, .int .i64 s.2)] a ∧ Stw ⟨Y, [], w0⟩ (C0 b1 p0 v1 v2 v3 v4 v5 v6) [row v14 41 CJ s.1] w) ⟨(v11), F.ra Aa, W⟩ fun s o a w H L4 hR => ?_
    obtain ⟨x6, x7⟩ := s
    obtain ⟨v14, F, W⟩ := hR
    have F : Fr 50 [] [(1, .pointer (some ⟨b1, 0, none⟩)), (2, .slice none 0 0), (3, v14), (4, .int .i64 x3), (9, v4), (10, .int .i64 (p0.2.2.1.length : Int)), (11, .int .i64 x3), (16, (v13.1)), (17, .int .i64 (x5.length : Int)), (18, .int .i64 x7)] a := F
    have W : Stw ⟨Y, [], w0⟩ (C0 b1 p0 v1 v2 v3 v4 v5 v6) [row v14 41 CJ x6] w := W
    rw [Ct] at H
    refine vc tk 6 F W fun a w F W => ?_
    refine AU F Aa H (fun F H => ?_) fun F H => ?_
    ·
     refine AB (Ab ?_)
     obtain ⟨o5, G5, K5⟩ := Ac H
     refine Aq (fun a w => ∃ x8 : List (Int × Int × Int), ∃ v15 : Value, some (x8) = some o5 ∧ Fr 50 [] [(1, .pointer (some ⟨b1, 0, none⟩)), (2, .slice none 0 0), (3, v15), (4, .int .i64 x3), (9, v4), (10, .int .i64 (p0.2.2.1.length : Int)), (11, .int .i64 x3), (16, (v13.1)), (17, .int .i64 (x5.length : Int)), (18, .int .i64 x7)] a ∧ Stw ⟨Y, [], w0⟩ (C0 b1 p0 v1 v2 v3 v4 v5 v6) [row v15 41 CJ x8] w) ?_ ?_
     ·
      have H := G5
      clear G5 K5
      refine vc tk 4 F W fun a w F W => ?_
      obtain ⟨x9, h8, H⟩ := Ac H
      refine ls F W Aa (Al (r := (Rp.int .i64)) EJ F Aa Aa (Dc (Ad h_v4) h5 DP.here (congrArg (fun q : List Int => q) h6)) h8).q fun a w F W => ?_
      refine ls F W Aa (Ag (y := Value.int .i64 x9) (j := 0) (i := x7) F Aa Aa (Dc (Ad h_v4) h5 DP.here (congrArg (fun q : List Int => q) h6)) h8 Fl.int.to T3 Aa).q fun a w F W => ?_
      refine vl tk 3 F W fun a w F W => ?_
      refine Ab ?_
      obtain ⟨o6, G6, K6⟩ := Ac H
      refine Aq (fun a w => ∃ x10 : Bool, some (x10) = some o6 ∧ Fr 50 [] [(1, .pointer (some ⟨b1, 0, none⟩)), (2, .slice none 0 0), (3, v14), (4, .int .i64 x3), (6, .int .i64 x7), (9, v4), (10, .int .i64 (p0.2.2.1.length : Int)), (11, .int .i64 x3), (16, (v13.1)), (17, .int .i64 (x5.length : Int)), (18, .int .i64 x7), (40, .bool x10)] a ∧ Stw ⟨Y, [], w0⟩ (C0 b1 p0 v1 v2 v3 v4 v5 v6) [row v14 41 CJ x6] w) ?_ ?_
      ·
       have H := G6
       clear G6 K6
       refine IL tk 5 [0] F W (ai fun a w F W => ?_)
       obtain ⟨x11, h9, H⟩ := Ac H
       obtain ⟨v16, h10, h11⟩ := E5 h1 h9
       have h12 : Hd v16 = [(v16.1)] := congrArg (fun q : List Int => ([(v16.1)] : List Value)) h11
       refine ls F W Aa (Al (r := (Rp.vsl (Rp.int .i64))) Ps F Aa Aa (Ad h_v3) h10).q fun a w F W => ?_
       refine ls F W Aa (Ag (y := (v16.1)) (j := 0) (i := x3) (enc := Hd) F Aa Aa (Ad h_v3) h10 LI NA (by rw [h12]; rfl)).q fun a w F W => ?_
       refine ls F W Aa (Ai F Aa).q fun a w F W => ?_
       obtain ⟨x12, h13, H⟩ := Ac H
       refine ls F W Aa (Al (r := (Rp.int .i64)) EJ F Aa Aa (Dc (Ad h_v3) h10 DP.here (congrArg (fun q : List Int => q) h11)) h13).q fun a w F W => ?_
       refine ls F W Aa (Ag (y := Value.int .i64 x12) (j := 0) (i := x7) F Aa Aa (Dc (Ad h_v3) h10 DP.here (congrArg (fun q : List Int => q) h11)) h13 Fl.int.to T3 Aa).q fun a w F W => ?_
       refine vl tk 2 F W fun a w F W => ?_
       rcases Bool.eq_false_or_eq_true (decide (x9 ≠ x12)) with hb | hb
       ·
        have H := D0 (Fm hb) H
        rw [hb] at F
        clear hb
        refine Ky tk 4 [0] F W (ai fun a w F W => ?_)
        refine MB (Ae F Aa Aa Aa Aa) ?_
        obtain ⟨x13, h14, H⟩ := Ac H
        refine ls F W Aa (Be (v := Value.int .i64 x13) F bD Aa (fun w W => Ka any w (v1) (v2) (v3) (v4) (v5) (v6) p0 x3 x7 x9 _ h14 (EG (Ad h_v1) W) (EG (Ad h_v2) W) (EG (AN CM h1 (Ad h_v3)) W) (EG (AN CM h2 (Ad h_v4)) W) (EG (Ad h_v5) W) (EG (AN HF h3 (Ad h_v6)) W))) fun a w F W => ?_
        refine vl tk 3 F W fun a w F W => ?_
        refine Ab ?_
        exact ⟨_, H, F.ra Aa, W⟩
       have H := DZ (Fo hb) H
       rw [hb] at F
       clear hb
       refine vl tk 8 F W fun a w F W => ?_
       refine Ab ?_
       exact ⟨_, H, F.ra Aa, W⟩
      rintro a w ⟨x10, hj, F, W⟩
      have hj := Ax hj
      subst hj
      have H := K6
      clear G6 K6
      refine C2 F Aa H (fun F H => ?_) fun F H => ?_
      ·
       refine vc tk 4 F W fun a w F W => ?_
       refine ls F W Aa (Cg (v := Value.agg #[.int .i64 2, .int .i64 x3, .int .i64 x7]) WH F Aa Aa Aa).q fun a w F W => ?_
       refine D6 (z := Value.agg #[.int .i64 0, .int .i64 0, .int .i64 0]) (cs := [.int .i64 2, .int .i64 x3, .int .i64 x7]) CJ ([(2, x3, x7)] : List (Int × Int × Int)) F W Aa Qf WO Aa Aa Aa Aa Aa Aa (VJ.repL _ _ ([(2, x3, x7)] : List (Int × Int × Int))) fun v17 a w F W => ?_
       obtain ⟨x14, h15, H⟩ := Ac H
       refine DB (r := CJ) (i := 1) F W Aa Qf Aa Aa Aa Aa (Ez W 0 Aa) h15 Aa fun v18 a w F W => ?_
       have W : Stw ⟨Y, [], w0⟩ (C0 b1 p0 v1 v2 v3 v4 v5 v6) [row v18 41 CJ x14, row v17 41 CJ ([(2, x3, x7)] : List (Int × Int × Int))] w := W
       refine vl tk 2 F W fun a w F W => ?_
       refine Aw (Ab ?_)
       have W := W.sub (M' := (C0 b1 p0 v1 v2 v3 v4 v5 v6)) (Z' := [row v18 41 CJ x14]) (List.Sublist.refl _) (List.Sublist.cons_cons _ (List.nil_sublist _))
       exact ⟨_, (v18), H, F.ra Aa, W⟩
      refine AB (Aw (Ab ?_))
      exact ⟨_, (v14), H, F.ra Aa, W⟩
     rintro a w ⟨x8, v15, hj, F, W⟩
     have hj := Ax hj
     subst hj
     have H := K5
     clear G5 K5
     refine vc tk 4 F W fun a w F W => ?_
     refine Ab ?_
     exact ⟨_, H, (v15), F.ra Aa, W⟩
    refine AA ?_
    iterate 2 refine AQ ?_
    refine AC (Aw (Ab ?_))
    have H := L4 _ H
    exact ⟨_, (v14), H, F.ra Aa, W⟩
   rintro a w ⟨x4, v12, hj, F, W⟩
   have hj := Ax hj
   subst hj
   have H := K3
   clear G3 K3
   refine vc tk 4 F W fun a w F W => ?_
   refine Ab ?_
   exact ⟨_, H, (v12), F.ra Aa, W⟩
  refine AA ?_
  iterate 2 refine AQ ?_
  refine AC (Ab ?_)
  have H := L2 _ H
  exact ⟨_, (v11), H, F.ra Aa, W⟩
 rintro a w ⟨x1, v10, hj, F, W⟩
 have hj := Ax hj
 subst hj
 have H := K1
 clear G1 K1
 refine vc tk 6 F W fun a w F W => ?_
 refine Ao ?_
 have H := Ax H
 subst H
 refine A1 (.inl Aa) F W Aa (Am F Aa) ?_
 have W := W.sub (M' := []) (Z' := [row v10 41 CJ x1]) (List.nil_sublist _) (List.Sublist.refl _)
 exact ⟨(v10), Aa, W⟩
theorem bK : Has Tryz.prog 16 := Cu Tryz.func16
def BK (p0 : (Int × (List (Int × Int × Int × Int × Int × Int)) × (List (Int × Int))) × List (List Int) × List (List Int) × ((List (Int × Int × Int × Int)) × (List (Int × Int × List Int)) × Int × Int × Int × Int)) (p1 : Int × Int × Int × Int) : Bool := (decide (0 ≤ p1.1) && (decide (p1.1 < p0.1.1) && (decide (0 ≤ p1.2.1) && decide (p1.2.1 < (p0.1.2.2.length : Int)))))
theorem HL (Y : Nat → Prop) (w0 : World) (v1 : Value) (v2 : Value) (v3 : Value) (v4 : Value) (v5 : Value) (v6 : Value) (p0 : (Int × (List (Int × Int × Int × Int × Int × Int)) × (List (Int × Int))) × List (List Int) × List (List Int) × ((List (Int × Int × Int × Int)) × (List (Int × Int × List Int)) × Int × Int × Int × Int)) (p1 : Int × Int × Int × Int) (r : Bool) (H : BK p0 p1 = r) (h_v1 : Sl w0 (NX []) IG v1 p0.1.2.1) (h_v2 : Sl w0 (NX []) IB v2 p0.1.2.2) (h_v3 : Sl w0 (NX []) (Rp.slice (Rp.int .i64)) v3 p0.2.1) (h_v4 : Sl w0 (NX []) (Rp.slice (Rp.int .i64)) v4 p0.2.2.1) (h_v5 : Sl w0 (NX []) A5 v5 p0.2.2.2.1) (h_v6 : Sl w0 (NX []) Jg v6 p0.2.2.2.2.1) :
    Calls Tryz.prog 33 #[.agg #[.int .i64 p0.1.1, v1, v2, v3, v4, v5, v6, .int .i64 p0.2.2.2.2.2.1, .int .i64 p0.2.2.2.2.2.2.1, .int .i64 p0.2.2.2.2.2.2.2.1, .int .i64 p0.2.2.2.2.2.2.2.2], .agg #[.int .i64 p1.1, .int .i64 p1.2.1, .int .i64 p1.2.2.1, .int .i64 p1.2.2.2]] w0 fun e w' => e = .returned (.bool r) ∧ Below w0.heap.size w0 w' := by
 refine enter Tryz.func33 Aa Tryz.ntmps33 Aa fun a F => ?_
 have W := Stw.start Y w0
 obtain ⟨v7, h1, h_v3⟩ := h_v3.ex CM
 obtain ⟨v8, h2, h_v4⟩ := h_v4.ex CM
 obtain ⟨v9, h3, h_v6⟩ := h_v6.ex HF
 unfold BK at H
 refine vc tk 2 F W fun a w F W => ?_
 refine D2 (cs := (DN p0 v1 v2 v3 v4 v5 v6)) F W Aa Aa Aa fun b1 a w F W => ?_
 refine D2 (cs := (Ck p1)) F W Aa Aa Aa fun b2 a w F W => ?_
 refine BR tk 3 F W fun a w F W => ?_
 refine Aq (fun a w => Fr 30 [] [(4, .bool (decide (0 ≤ p1.1) && (decide (p1.1 < p0.1.1) && (decide (0 ≤ p1.2.1) && decide (p1.2.1 < (p0.1.2.2.length : Int))))))] a ∧ Stw ⟨Y, [], w0⟩ [(b2, (Ck p1)), (b1, (DN p0 v1 v2 v3 v4 v5 v6))] [] w) ?_ ?_
 ·
  refine IL tk 5 [0] F W (ai fun a w F W => ?_)
  rcases Bool.eq_false_or_eq_true (decide (0 ≤ p1.1)) with hb0 | hb0
  ·
   rw [hb0] at F
   refine Ky tk 8 [0, 1] F W (ai (ai fun a w F W => ?_))
   rcases Bool.eq_false_or_eq_true (decide (p1.1 < p0.1.1)) with hb1 | hb1
   ·
    rw [hb1] at F
    refine Ky tk 5 [0] F W (ai fun a w F W => ?_)
    rcases Bool.eq_false_or_eq_true (decide (0 ≤ p1.2.1)) with hb2 | hb2
    ·
     rw [hb2] at F
     refine Ky tk 5 [0, 1] F W (ai (ai fun a w F W => ?_))
     refine Hs F W (Ae F Aa Aa Aa Aa) Aa (As Aa) (BS (r := IB) (l := p0.1.2.2) OE Aa F Aa (Ad h_v2)).q fun a w F W => ?_
     refine vl tk 4 F W fun a w F W => ?_
     refine Ab ?_
     exact ⟨F.re ⟨(H0 (by try rw [hb1]; try rw [hb2]; try rw [hb0]; all_goals simp only [H2])), trivial⟩, W⟩
    rw [hb2] at F
    refine vl tk 10 F W fun a w F W => ?_
    refine Ab ?_
    exact ⟨F.re ⟨(H0 (by try rw [hb1]; try rw [hb2]; try rw [hb0]; all_goals simp only [H2])), trivial⟩, W⟩
   rw [hb1] at F
   refine vl tk 15 F W fun a w F W => ?_
   refine Ab ?_
   exact ⟨F.re ⟨(H0 (by try rw [hb1]; try rw [hb0]; all_goals simp only [H2])), trivial⟩, W⟩
  rw [hb0] at F
  refine vl tk 23 F W fun a w F W => ?_
  refine Ab ?_
  exact ⟨F.re ⟨(H0 (by try rw [hb0]; all_goals simp only [H2])), trivial⟩, W⟩
 rintro a w ⟨F, W⟩
 refine Ao ?_
 subst H
 refine A1 (.inl Aa) F W Aa (Am F Aa) ?_
 exact ⟨rfl, W.done⟩
theorem Zx : Has Tryz.prog 33 := Cu Tryz.func33
noncomputable def Dd (p0 : (Int × (List (Int × Int × Int × Int × Int × Int)) × (List (Int × Int))) × List (List Int) × List (List Int) × ((List (Int × Int × Int × Int)) × (List (Int × Int × List Int)) × Int × Int × Int × Int)) : ((List (Int × Int × Int)) × Int) → Option (((List (Int × Int × Int)) × Int) ⊕ (List (Int × Int × Int)))
  | (x2, x3) => (if x3 < (p0.2.2.2.1.length : Int) then ((ix p0.2.2.2.1 x3).bind fun x5 => (if (!(BK p0 x5)) = true then some true else (ix p0.2.2.1 x5.1).bind fun x7 => (ix x7 x5.2.1).bind fun x8 => (if x5.2.2.1 ≠ x8 then some true else (ix p0.2.1 x5.1).bind fun x9 => (ix x9 x5.2.1).bind fun x10 => (if x5.2.2.1 = x10 then some true else (Cr p0 x5).bind fun x11 => some (!x11)))).bind fun x6 => (if x6 = true then (H4 x2 ([(3, x3, x5.2.1)] : List (Int × Int × Int))).bind fun x12 => some x12 else some x2)).bind fun x4 => some (.inl (x4, An (x3 + 1))) else some (.inr x2))
noncomputable def DF (p0 : (Int × (List (Int × Int × Int × Int × Int × Int)) × (List (Int × Int))) × List (List Int) × List (List Int) × ((List (Int × Int × Int × Int)) × (List (Int × Int × List Int)) × Int × Int × Int × Int)) : Option (List (Int × Int × Int)) := (Ap (Dd p0) ([], 0)).bind fun x1 => some x1
theorem KE (Y : Nat → Prop) (w0 : World) (v1 : Value) (v2 : Value) (v3 : Value) (v4 : Value) (v5 : Value) (v6 : Value) (p0 : (Int × (List (Int × Int × Int × Int × Int × Int)) × (List (Int × Int))) × List (List Int) × List (List Int) × ((List (Int × Int × Int × Int)) × (List (Int × Int × List Int)) × Int × Int × Int × Int)) (r : (List (Int × Int × Int))) (H : DF p0 = some r) (h_v1 : Sl w0 (NX []) IG v1 p0.1.2.1) (h_v2 : Sl w0 (NX []) IB v2 p0.1.2.2) (h_v3 : Sl w0 (NX []) (Rp.slice (Rp.int .i64)) v3 p0.2.1) (h_v4 : Sl w0 (NX []) (Rp.slice (Rp.int .i64)) v4 p0.2.2.1) (h_v5 : Sl w0 (NX []) A5 v5 p0.2.2.2.1) (h_v6 : Sl w0 (NX []) Jg v6 p0.2.2.2.2.1) :
    Calls Tryz.prog 17 #[.agg #[.int .i64 p0.1.1, v1, v2, v3, v4, v5, v6, .int .i64 p0.2.2.2.2.2.1, .int .i64 p0.2.2.2.2.2.2.1, .int .i64 p0.2.2.2.2.2.2.2.1, .int .i64 p0.2.2.2.2.2.2.2.2]] w0 fun e w' => ∃ x : Value, e = .returned (x) ∧ Stw ⟨Y, [], w0⟩ [] [row (x) 41 CJ r] w' := by
 refine enter Tryz.func17 Aa Tryz.ntmps17 Aa fun a F => ?_
 have W := Stw.start Y w0
 obtain ⟨v7, h1, h_v3⟩ := h_v3.ex CM
 obtain ⟨v8, h2, h_v4⟩ := h_v4.ex CM
 obtain ⟨v9, h3, h_v6⟩ := h_v6.ex HF
 unfold DF at H
 refine vc tk 2 F W fun a w F W => ?_
 refine D2 (cs := (DN p0 v1 v2 v3 v4 v5 v6)) F W Aa Aa Aa fun b1 a w F W => ?_
 refine BR tk 8 F W fun a w F W => ?_
 obtain ⟨o1, G1, K1⟩ := Ac H
 refine Aq (fun a w => ∃ x1 : List (Int × Int × Int), ∃ v10 : Value, some (x1) = some o1 ∧ Fr 64 [] [(2, .slice none 0 0), (3, v10)] a ∧ Stw ⟨Y, [], w0⟩ (C0 b1 p0 v1 v2 v3 v4 v5 v6) [row v10 41 CJ x1] w) ?_ ?_
 ·
  have H := G1
  clear G1 K1
  refine IL tk 5 [0] F W (ai fun a w F W => ?_)
  refine ls F W Aa (BS (r := A5) (l := p0.2.2.2.1) Qz Aa F Aa (Ad h_v5)).q fun a w F W => ?_
  refine BR tk 4 F W fun a w F W => ?_
  have W := W.nilRow 41 CJ
  refine AL H (fun s a w => ∃ v11 : Value, Fr 64 [] [(1, .pointer (some ⟨b1, 0, none⟩)), (2, .slice none 0 0), (3, v11), (8, v5), (9, .int .i64 (p0.2.2.2.1.length : Int)), (10, .int .i64 s.2)] a ∧ Stw ⟨Y, [], w0⟩ (C0 b1 p0 v1 v2 v3 v4 v5 v6) [row v11 41 CJ s.1] w) ⟨(Value.slice none 0 0), F.ra Aa, W⟩ fun s o a w H L2 hR => ?_
  obtain ⟨x2, x3⟩ := s
  obtain ⟨v11, F, W⟩ := hR
  have F : Fr 64 [] [(1, .pointer (some ⟨b1, 0, none⟩)), (2, .slice none 0 0), (3, v11), (8, v5), (9, .int .i64 (p0.2.2.2.1.length : Int)), (10, .int .i64 x3)] a := F
  have W : Stw ⟨Y, [], w0⟩ (C0 b1 p0 v1 v2 v3 v4 v5 v6) [row v11 41 CJ x2] w := W
  rw [Dd] at H
  refine vc tk 6 F W fun a w F W => ?_
  refine AU F Aa H (fun F H => ?_) fun F H => ?_
  ·
   refine AB (Ab ?_)
   obtain ⟨o3, G3, K3⟩ := Ac H
   refine Aq (fun a w => ∃ x4 : List (Int × Int × Int), ∃ v12 : Value, some (x4) = some o3 ∧ Fr 64 [] [(1, .pointer (some ⟨b1, 0, none⟩)), (2, .slice none 0 0), (3, v12), (8, v5), (9, .int .i64 (p0.2.2.2.1.length : Int)), (10, .int .i64 x3)] a ∧ Stw ⟨Y, [], w0⟩ (C0 b1 p0 v1 v2 v3 v4 v5 v6) [row v12 41 CJ x4] w) ?_ ?_
   ·
    have H := G3
    clear G3 K3
    refine vc tk 4 F W fun a w F W => ?_
    obtain ⟨x5, h4, H⟩ := Ac H
    refine ls F W Aa (Al (r := A5) EM F Aa Aa (Ad h_v5) h4).q fun a w F W => ?_
    refine ls F W Aa (Ag (y := Value.agg #[.int .i64 x5.1, .int .i64 x5.2.1, .int .i64 x5.2.2.1, .int .i64 x5.2.2.2]) (j := 0) (i := x3) F Aa Aa (Ad h_v5) h4 ES.to Er Aa).q fun a w F W => ?_
    refine B8 (cs := (QM)) F W Aa W3 Aa fun b2 a w F W => ?_
    refine ls F W Aa (Dn F Aa).q fun a w F W => ?_
    refine Ey 0 F W Aa Aa Aa Er Aa Aa Aa fun w W => ?_
    refine FG (Ab ?_)
    obtain ⟨o4, G4, K4⟩ := Ac H
    refine Aq (fun a w => ∃ x6 : Bool, some (x6) = some o4 ∧ Fr 64 [] [(1, .pointer (some ⟨b1, 0, none⟩)), (2, .slice none 0 0), (3, v11), (4, .int .i64 x3), (5, .pointer (some ⟨b2, 0, none⟩)), (8, v5), (9, .int .i64 (p0.2.2.2.1.length : Int)), (10, .int .i64 x3), (54, .bool x6)] a ∧ Stw ⟨Y, [], w0⟩ [(b2, (Ck x5)), (b1, (DN p0 v1 v2 v3 v4 v5 v6))] [row v11 41 CJ x2] w) ?_ ?_
    ·
     have H := G4
     clear G4 K4
     refine BB W MO (by kernel_rfl) ?_
     refine qs F Aa (BE (v := Value.agg #[.int .i64 p0.1.1, v1, v2, v3, v4, v5, v6, .int .i64 p0.2.2.2.2.2.1, .int .i64 p0.2.2.2.2.2.2.1, .int .i64 p0.2.2.2.2.2.2.2.1, .int .i64 p0.2.2.2.2.2.2.2.2]) 1 F Aa Aa WF Aa).q fun a F => ?_
     refine qs F Aa (BE (v := Value.agg #[.int .i64 x5.1, .int .i64 x5.2.1, .int .i64 x5.2.2.1, .int .i64 x5.2.2.2]) 0 F Aa Aa Er Aa).q fun a F => ?_
     refine qs F Aa (Be (v := Value.bool (BK p0 x5)) F Zx Aa (fun w W => HL any w (v1) (v2) (v3) (v4) (v5) (v6) p0 x5 _ Aa (EG (Ad h_v1) W) (EG (Ad h_v2) W) (EG (AN CM h1 (Ad h_v3)) W) (EG (AN CM h2 (Ad h_v4)) W) (EG (Ad h_v5) W) (EG (AN HF h3 (Ad h_v6)) W))) fun a F => ?_
     refine qs F Aa (IY F Aa).q fun a F => ?_
     refine qs F Aa (Ai F Aa).q fun a F => ?_
     rcases Bool.eq_false_or_eq_true (!(BK p0 x5)) with hb | hb
     ·
      have H := D0 hb H
      rw [hb] at F
      clear hb
      iterate 13 refine Ds F (C3 F Aa Aa Aa Aa Aa) Aa Aa fun a F => ?_
      refine qs F Aa (Dh F Aa Aa Aa).q fun a F => ?_
      refine qs F Aa (Ai F Aa).q fun a F => ?_
      iterate 13 refine Ds F (C3 F Aa Aa Aa Aa Aa) Aa Aa fun a F => ?_
      refine qs F Aa (Dh F Aa Aa Aa).q fun a F => ?_
      refine qs F Aa (Ai F Aa).q fun a F => ?_
      iterate 4 refine Ds F (C3 F Aa Aa Aa Aa Aa) Aa Aa fun a F => ?_
      refine qs F Aa (Dh F Aa Aa Aa).q fun a F => ?_
      refine AD fun w W => ?_
      refine Ab ?_
      have W := W.frontM (i := 1) Aa Aa
      have W := W.frontM (i := 1) Aa Aa
      exact ⟨_, H, F.ra Aa, W⟩
     have H := DZ (by rw [hb]; decide) H
     rw [hb] at F
     clear hb
     refine A8 F (Ae F Aa Aa Aa Aa) Aa (As Aa) (Az Jv Aa Aa Aa T3 F Aa 2 Aa).q fun a F => ?_
     refine A8 F (Ae F Aa Aa Aa Aa) Aa (As Aa) (BE (v := Value.int .i64 x5.2.2.1) 0 F Aa Aa T3 Aa).q fun a F => ?_
     refine A8 F (Ae F Aa Aa Aa Aa) Aa (As Aa) (Az TI Aa Aa Aa Yc F Aa 4 Aa).q fun a F => ?_
     refine A8 F (Ae F Aa Aa Aa Aa) Aa (As Aa) (BE (v := v4) 1 F Aa Aa Yc Aa).q fun a F => ?_
     refine A8 F (Ae F Aa Aa Aa Aa) Aa (As Aa) (Az Jv Aa Aa Aa T3 F Aa 0 Aa).q fun a F => ?_
     refine A8 F (Ae F Aa Aa Aa Aa) Aa (As Aa) (BE (v := Value.int .i64 x5.1) 0 F Aa Aa T3 Aa).q fun a F => ?_
     obtain ⟨x7, h5, H⟩ := Ac H
     obtain ⟨v13, h6, h7⟩ := E5 h2 h5
     have h8 : Hd v13 = [(v13.1)] := congrArg (fun q : List Int => ([(v13.1)] : List Value)) h7
     refine A8 F (Ae F Aa Aa Aa Aa) Aa (As Aa) (Al (r := (Rp.vsl (Rp.int .i64))) Ps F Aa Aa (Ad h_v4) h6).q fun a F => ?_
     refine A8 F (Ae F Aa Aa Aa Aa) Aa (As Aa) (Ag (y := (v13.1)) (j := 0) (i := x5.1) (enc := Hd) F Aa Aa (Ad h_v4) h6 LI NA (by rw [h8]; rfl)).q fun a F => ?_
     refine A8 F (Ae F Aa Aa Aa Aa) Aa (As Aa) (Az Jv Aa Aa Aa T3 F Aa 1 Aa).q fun a F => ?_
     refine A8 F (Ae F Aa Aa Aa Aa) Aa (As Aa) (BE (v := Value.int .i64 x5.2.1) 0 F Aa Aa T3 Aa).q fun a F => ?_
     obtain ⟨x8, h9, H⟩ := Ac H
     refine A8 F (Ae F Aa Aa Aa Aa) Aa (As Aa) (Al (r := (Rp.int .i64)) EJ F Aa Aa (Dc (Ad h_v4) h6 DP.here (congrArg (fun q : List Int => q) h7)) h9).q fun a F => ?_
     refine A8 F (Ae F Aa Aa Aa Aa) Aa (As Aa) (Ag (y := Value.int .i64 x8) (j := 0) (i := x5.2.1) F Aa Aa (Dc (Ad h_v4) h6 DP.here (congrArg (fun q : List Int => q) h7)) h9 Fl.int.to T3 Aa).q fun a F => ?_
     refine A8 F (Ae F Aa Aa Aa Aa) Aa (As Aa) (Sg F Aa Aa).q fun a F => ?_
     refine qs F Aa (DC F Aa Aa Aa).q fun a F => ?_
     refine qs F Aa (Ai F Aa).q fun a F => ?_
     rcases Bool.eq_false_or_eq_true (decide (x5.2.2.1 ≠ x8)) with hb | hb
     ·
      have H := D0 (Fm hb) H
      rw [hb] at F
      clear hb
      iterate 13 refine Ds F (C3 F Aa Aa Aa Aa Aa) Aa Aa fun a F => ?_
      refine qs F Aa (Dh F Aa Aa Aa).q fun a F => ?_
      refine qs F Aa (Ai F Aa).q fun a F => ?_
      iterate 4 refine Ds F (C3 F Aa Aa Aa Aa Aa) Aa Aa fun a F => ?_
      refine qs F Aa (Dh F Aa Aa Aa).q fun a F => ?_
      refine AD fun w W => ?_
      refine Ab ?_
      have W := W.frontM (i := 1) Aa Aa
      have W := W.frontM (i := 1) Aa Aa
      exact ⟨_, H, F.ra Aa, W⟩
     have H := DZ (Fo hb) H
     rw [hb] at F
     clear hb
     refine A8 F (Ae F Aa Aa Aa Aa) Aa (As Aa) (Az Jv Aa Aa Aa T3 F Aa 2 Aa).q fun a F => ?_
     refine A8 F (Ae F Aa Aa Aa Aa) Aa (As Aa) (BE (v := Value.int .i64 x5.2.2.1) 0 F Aa Aa T3 Aa).q fun a F => ?_
     refine A8 F (Ae F Aa Aa Aa Aa) Aa (As Aa) (Az TI Aa Aa Aa Yc F Aa 3 Aa).q fun a F => ?_
     refine A8 F (Ae F Aa Aa Aa Aa) Aa (As Aa) (BE (v := v3) 1 F Aa Aa Yc Aa).q fun a F => ?_
     refine A8 F (Ae F Aa Aa Aa Aa) Aa (As Aa) (Az Jv Aa Aa Aa T3 F Aa 0 Aa).q fun a F => ?_
     refine A8 F (Ae F Aa Aa Aa Aa) Aa (As Aa) (BE (v := Value.int .i64 x5.1) 0 F Aa Aa T3 Aa).q fun a F => ?_
     obtain ⟨x9, h10, H⟩ := Ac H
     obtain ⟨v14, h11, h12⟩ := E5 h1 h10
     have h13 : Hd v14 = [(v14.1)] := congrArg (fun q : List Int => ([(v14.1)] : List Value)) h12
     refine A8 F (Ae F Aa Aa Aa Aa) Aa (As Aa) (Al (r := (Rp.vsl (Rp.int .i64))) Ps F Aa Aa (Ad h_v3) h11).q fun a F => ?_
     refine A8 F (Ae F Aa Aa Aa Aa) Aa (As Aa) (Ag (y := (v14.1)) (j := 0) (i := x5.1) (enc := Hd) F Aa Aa (Ad h_v3) h11 LI NA (by rw [h13]; rfl)).q fun a F => ?_
     refine A8 F (Ae F Aa Aa Aa Aa) Aa (As Aa) (Az Jv Aa Aa Aa T3 F Aa 1 Aa).q fun a F => ?_
     refine A8 F (Ae F Aa Aa Aa Aa) Aa (As Aa) (BE (v := Value.int .i64 x5.2.1) 0 F Aa Aa T3 Aa).q fun a F => ?_
     obtain ⟨x10, h14, H⟩ := Ac H
     refine A8 F (Ae F Aa Aa Aa Aa) Aa (As Aa) (Al (r := (Rp.int .i64)) EJ F Aa Aa (Dc (Ad h_v3) h11 DP.here (congrArg (fun q : List Int => q) h12)) h14).q fun a F => ?_
     refine A8 F (Ae F Aa Aa Aa Aa) Aa (As Aa) (Ag (y := Value.int .i64 x10) (j := 0) (i := x5.2.1) F Aa Aa (Dc (Ad h_v3) h11 DP.here (congrArg (fun q : List Int => q) h12)) h14 Fl.int.to T3 Aa).q fun a F => ?_
     refine A8 F (Ae F Aa Aa Aa Aa) Aa (As Aa) (T9 F Aa Aa).q fun a F => ?_
     refine qs F Aa (DC F Aa Aa Aa).q fun a F => ?_
     refine qs F Aa (Ai F Aa).q fun a F => ?_
     rcases Bool.eq_false_or_eq_true (decide (x5.2.2.1 = x10)) with hb | hb
     ·
      have H := D0 (Fm hb) H
      rw [hb] at F
      clear hb
      iterate 4 refine Ds F (C3 F Aa Aa Aa Aa Aa) Aa Aa fun a F => ?_
      refine qs F Aa (Dh F Aa Aa Aa).q fun a F => ?_
      refine AD fun w W => ?_
      refine Ab ?_
      have W := W.frontM (i := 1) Aa Aa
      have W := W.frontM (i := 1) Aa Aa
      exact ⟨_, H, F.ra Aa, W⟩
     have H := DZ (Fo hb) H
     rw [hb] at F
     clear hb
     refine A8 F (Ae F Aa Aa Aa Aa) Aa (As Aa) (BE (v := Value.agg #[.int .i64 p0.1.1, v1, v2, v3, v4, v5, v6, .int .i64 p0.2.2.2.2.2.1, .int .i64 p0.2.2.2.2.2.2.1, .int .i64 p0.2.2.2.2.2.2.2.1, .int .i64 p0.2.2.2.2.2.2.2.2]) 1 F Aa Aa WF Aa).q fun a F => ?_
     refine A8 F (Ae F Aa Aa Aa Aa) Aa (As Aa) (BE (v := Value.agg #[.int .i64 x5.1, .int .i64 x5.2.1, .int .i64 x5.2.2.1, .int .i64 x5.2.2.2]) 0 F Aa Aa Er Aa).q fun a F => ?_
     obtain ⟨x11, h15, H⟩ := Ac H
     refine A8 F (Ae F Aa Aa Aa Aa) Aa (As Aa) (Be (v := Value.bool x11) F Zt Aa (fun w W => GG any w (v1) (v2) (v3) (v4) (v5) (v6) p0 x5 _ h15 (EG (Ad h_v1) W) (EG (Ad h_v2) W) (EG (AN CM h1 (Ad h_v3)) W) (EG (AN CM h2 (Ad h_v4)) W) (EG (Ad h_v5) W) (EG (AN HF h3 (Ad h_v6)) W))) fun a F => ?_
     refine A8 F (Ae F Aa Aa Aa Aa) Aa (As Aa) (IY F Aa).q fun a F => ?_
     refine qs F Aa (DC F Aa Aa Aa).q fun a F => ?_
     refine AD fun w W => ?_
     refine Ab ?_
     have W := W.frontM (i := 1) Aa Aa
     have W := W.frontM (i := 1) Aa Aa
     exact ⟨_, H, F.ra Aa, W⟩
    rintro a w ⟨x6, hj, F, W⟩
    have hj := Ax hj
    subst hj
    have H := K4
    clear G4 K4
    refine C2 F Aa H (fun F H => ?_) fun F H => ?_
    ·
     refine IL tk 5 [0] F W (ai fun a w F W => ?_)
     refine ls F W Aa (Cg (v := Value.agg #[.int .i64 3, .int .i64 x3, .int .i64 x5.2.1]) WH F Aa Aa Aa).q fun a w F W => ?_
     refine D6 (z := Value.agg #[.int .i64 0, .int .i64 0, .int .i64 0]) (cs := [.int .i64 3, .int .i64 x3, .int .i64 x5.2.1]) CJ ([(3, x3, x5.2.1)] : List (Int × Int × Int)) F W Aa Qf WO Aa Aa Aa Aa Aa Aa (VJ.repL _ _ ([(3, x3, x5.2.1)] : List (Int × Int × Int))) fun v15 a w F W => ?_
     obtain ⟨x12, h16, H⟩ := Ac H
     refine DB (r := CJ) (i := 1) F W Aa Qf Aa Aa Aa Aa (Ez W 0 Aa) h16 Aa fun v16 a w F W => ?_
     have W : Stw ⟨Y, [], w0⟩ [(b2, (Ck x5)), (b1, (DN p0 v1 v2 v3 v4 v5 v6))] [row v16 41 CJ x12, row v15 41 CJ ([(3, x3, x5.2.1)] : List (Int × Int × Int))] w := W
     refine vl tk 2 F W fun a w F W => ?_
     refine Aw (Ab ?_)
     have W := W.frontM (i := 1) Aa Aa
     have W := W.sub (M' := (C0 b1 p0 v1 v2 v3 v4 v5 v6)) (Z' := [row v16 41 CJ x12]) (List.Sublist.cons_cons _ (List.nil_sublist _)) (List.Sublist.cons_cons _ (List.nil_sublist _))
     exact ⟨_, (v16), H, F.ra Aa, W⟩
    refine AB (Aw (Ab ?_))
    have W := W.frontM (i := 1) Aa Aa
    have W := W.sub (M' := (C0 b1 p0 v1 v2 v3 v4 v5 v6)) (Z' := [row v11 41 CJ x2]) (List.Sublist.cons_cons _ (List.nil_sublist _)) (List.Sublist.refl _)
    exact ⟨_, (v11), H, F.ra Aa, W⟩
   rintro a w ⟨x4, v12, hj, F, W⟩
   have hj := Ax hj
   subst hj
   have H := K3
   clear G3 K3
   refine vc tk 4 F W fun a w F W => ?_
   refine Ab ?_
   exact ⟨_, H, (v12), F.ra Aa, W⟩
  refine AA ?_
  iterate 2 refine AQ ?_
  refine AC (Ab ?_)
  have H := L2 _ H
  exact ⟨_, (v11), H, F.ra Aa, W⟩
 rintro a w ⟨x1, v10, hj, F, W⟩
 have hj := Ax hj
 subst hj
 have H := K1
 clear G1 K1
 refine vc tk 6 F W fun a w F W => ?_
 refine Ao ?_
 have H := Ax H
 subst H
 refine A1 (.inl Aa) F W Aa (Am F Aa) ?_
 have W := W.sub (M' := []) (Z' := [row v10 41 CJ x1]) (List.nil_sublist _) (List.Sublist.refl _)
 exact ⟨(v10), Aa, W⟩
theorem ZE : Has Tryz.prog 17 := Cu Tryz.func17
noncomputable def DY (p0 : Int × (List (Int × Int × Int × Int × Int × Int)) × (List (Int × Int))) : (Int × Int) → Option ((Int × Int) ⊕ Int)
  | (x2, x3) => (if x3 < (p0.2.1.length : Int) then (ix p0.2.1 x3).bind fun x4 => some (.inl (max x2 x4.2.2.2.2.2, An (x3 + 1))) else some (.inr x2))
noncomputable def E6 (p0 : Int × (List (Int × Int × Int × Int × Int × Int)) × (List (Int × Int))) : Option Int := (Ap (DY p0) (0, 0)).bind fun x1 => some x1
theorem Ol (Y : Nat → Prop) (w0 : World) (v1 : Value) (v2 : Value) (p0 : Int × (List (Int × Int × Int × Int × Int × Int)) × (List (Int × Int))) (r : Int) (H : E6 p0 = some r) (h_v1 : Sl w0 (NX []) IG v1 p0.2.1) (h_v2 : Sl w0 (NX []) IB v2 p0.2.2) :
    Calls Tryz.prog 25 #[.agg #[.int .i64 p0.1, v1, v2]] w0 fun e w' => e = .returned (.int .i64 r) ∧ Below w0.heap.size w0 w' := by
 refine enter Tryz.func25 Aa Tryz.ntmps25 Aa fun a F => ?_
 have W := Stw.start Y w0
 unfold E6 at H
 refine vc tk 2 F W fun a w F W => ?_
 refine D2 (cs := [.int .i64 p0.1, v1, v2]) F W Aa Aa Aa fun b1 a w F W => ?_
 refine BR tk 8 F W fun a w F W => ?_
 obtain ⟨o1, G1, K1⟩ := Ac H
 refine Aq (fun a w => ∃ x1 : Int, some (x1) = some o1 ∧ Fr 19 [] [(2, .int .i64 0), (3, .int .i64 x1)] a ∧ Stw ⟨Y, [], w0⟩ [(b1, [.int .i64 p0.1, v1, v2])] [] w) ?_ ?_
 ·
  have H := G1
  clear G1 K1
  refine IL tk 4 [0] F W (ai fun a w F W => ?_)
  refine ls F W Aa (BS (r := IG) (l := p0.2.1) Rk Aa F Aa (Ad h_v1)).q fun a w F W => ?_
  refine BR tk 4 F W fun a w F W => ?_
  refine AL H (fun s a w => Fr 19 [] [(2, .int .i64 0), (3, .int .i64 s.1), (7, v1), (8, .int .i64 (p0.2.1.length : Int)), (9, .int .i64 s.2)] a ∧ Stw ⟨Y, [], w0⟩ [(b1, [.int .i64 p0.1, v1, v2])] [] w) ⟨F.ra Aa, W⟩ fun s o a w H L2 hR => ?_
  obtain ⟨x2, x3⟩ := s
  obtain ⟨F, W⟩ := hR
  have F : Fr 19 [] [(2, .int .i64 0), (3, .int .i64 x2), (7, v1), (8, .int .i64 (p0.2.1.length : Int)), (9, .int .i64 x3)] a := F
  have W : Stw ⟨Y, [], w0⟩ [(b1, [.int .i64 p0.1, v1, v2])] [] w := W
  rw [DY] at H
  refine vc tk 6 F W fun a w F W => ?_
  refine AU F Aa H (fun F H => ?_) fun F H => ?_
  ·
   refine FP tk 6 F W fun a w F W => ?_
   obtain ⟨x4, h1, H⟩ := Ac H
   refine ls F W Aa (Al (r := IG) Xg F Aa Aa (Ad h_v1) h1).q fun a w F W => ?_
   refine ls F W Aa (Ag (y := Value.agg #[.int .i64 x4.1, .int .i64 x4.2.1, .int .i64 x4.2.2.1, .int .i64 x4.2.2.2.1, .int .i64 x4.2.2.2.2.1, .int .i64 x4.2.2.2.2.2]) (j := 0) (i := x3) F Aa Aa (Ad h_v1) h1 X1.to V8 Aa).q fun a w F W => ?_
   refine B8 (cs := (We)) F W Aa Yj Aa fun b2 a w F W => ?_
   refine Ey 0 F W Aa Aa Aa V8 Aa Aa Aa fun w W => ?_
   refine JG tk 6 [0] F W (ai fun a w F W => ?_)
   refine ls F W Aa (TE F Aa Aa).q fun a w F W => ?_
   refine vl tk 2 F W fun a w F W => ?_
   refine Aw ?_
   refine vn tk 4 F W fun a w F W => ?_
   refine Ab ?_
   have W := W.frontM (i := 1) Aa Aa
   have W := W.sub (M' := [(b1, [.int .i64 p0.1, v1, v2])]) (Z' := []) (List.Sublist.cons_cons _ (List.nil_sublist _)) (List.Sublist.refl _)
   exact ⟨_, H, F.ra Aa, W⟩
  refine AA ?_
  iterate 2 refine AQ ?_
  refine AC (Ab ?_)
  have H := L2 _ H
  exact ⟨_, H, F.ra Aa, W⟩
 rintro a w ⟨x1, hj, F, W⟩
 have hj := Ax hj
 subst hj
 have H := K1
 clear G1 K1
 refine vc tk 6 F W fun a w F W => ?_
 refine Ao ?_
 have H := Ax H
 subst H
 refine A1 (.inl Aa) F W Aa (Am F Aa) ?_
 exact ⟨rfl, W.done⟩
theorem aM : Has Tryz.prog 25 := Cu Tryz.func25
noncomputable def Hj (p0 : Int × (List (Int × Int × Int × Int × Int × Int)) × (List (Int × Int))) : Option Int := (E6 p0).bind fun x1 => some (An (p0.1 * x1))
theorem M4 (Y : Nat → Prop) (w0 : World) (v1 : Value) (v2 : Value) (p0 : Int × (List (Int × Int × Int × Int × Int × Int)) × (List (Int × Int))) (r : Int) (H : Hj p0 = some r) (h_v1 : Sl w0 (NX []) IG v1 p0.2.1) (h_v2 : Sl w0 (NX []) IB v2 p0.2.2) :
    Calls Tryz.prog 11 #[.agg #[.int .i64 p0.1, v1, v2]] w0 fun e w' => e = .returned (.int .i64 r) ∧ Below w0.heap.size w0 w' := by
 refine enter Tryz.func11 Aa Tryz.ntmps11 Aa fun a F => ?_
 have W := Stw.start Y w0
 unfold Hj at H
 refine vc tk 2 F W fun a w F W => ?_
 refine D2 (cs := [.int .i64 p0.1, v1, v2]) F W Aa Aa Aa fun b1 a w F W => ?_
 refine BR tk 4 F W fun a w F W => ?_
 refine BB W MO (by kernel_rfl) ?_
 refine qs F Aa (Az Xh Aa Aa Aa T3 F Aa 0 Aa).q fun a F => ?_
 refine qs F Aa (BE (v := Value.int .i64 p0.1) 0 F Aa Aa T3 Aa).q fun a F => ?_
 refine qs F Aa (BE (v := Value.agg #[.int .i64 p0.1, v1, v2]) 0 F Aa Aa Ye Aa).q fun a F => ?_
 obtain ⟨x1, h1, H⟩ := Ac H
 refine qs F Aa (Be (v := Value.int .i64 x1) F aM Aa (fun w W => Ol any w (v1) (v2) p0 _ h1 (EG (Ad h_v1) W) (EG (Ad h_v2) W))) fun a F => ?_
 refine qs F Aa (VO F Aa Aa Aa).q fun a F => ?_
 refine qs F Aa (Dn F Aa).q fun a F => ?_
 refine AD fun w W => ?_
 refine Ab (Ao ?_)
 have H := Ax H
 subst H
 refine A1 (.inl Aa) F W Aa (Am F Aa) ?_
 exact ⟨rfl, W.done⟩
theorem Zf : Has Tryz.prog 11 := Cu Tryz.func11
noncomputable def Hw (p0 : Int × (List (Int × Int × Int × Int × Int × Int)) × (List (Int × Int))) (p1 : Int) : Option Int := (Hj p0).bind fun x1 => some (An ((An ((An (2 * p1)) + x1)) + 1))
theorem NN (Y : Nat → Prop) (w0 : World) (v1 : Value) (v2 : Value) (p0 : Int × (List (Int × Int × Int × Int × Int × Int)) × (List (Int × Int))) (p1 : Int) (r : Int) (H : Hw p0 p1 = some r) (h_v1 : Sl w0 (NX []) IG v1 p0.2.1) (h_v2 : Sl w0 (NX []) IB v2 p0.2.2) :
    Calls Tryz.prog 13 #[.agg #[.int .i64 p0.1, v1, v2], .int .i64 p1] w0 fun e w' => e = .returned (.int .i64 r) ∧ Below w0.heap.size w0 w' := by
 refine enter Tryz.func13 Aa Tryz.ntmps13 Aa fun a F => ?_
 have W := Stw.start Y w0
 unfold Hw at H
 refine vc tk 2 F W fun a w F W => ?_
 refine D2 (cs := [.int .i64 p0.1, v1, v2]) F W Aa Aa Aa fun b1 a w F W => ?_
 refine JG tk 8 [0] F W (ai fun a w F W => ?_)
 obtain ⟨x1, h1, H⟩ := Ac H
 refine ls F W Aa (Be (v := Value.int .i64 x1) F Zf Aa (fun w W => M4 any w (v1) (v2) p0 _ h1 (EG (Ad h_v1) W) (EG (Ad h_v2) W))) fun a w F W => ?_
 refine BR tk 5 F W fun a w F W => ?_
 refine Ao ?_
 have H := Ax H
 subst H
 refine A1 (.inl Aa) F W Aa (Am F Aa) ?_
 exact ⟨rfl, W.done⟩
theorem Zp : Has Tryz.prog 13 := Cu Tryz.func13
def BG (p0 : Int) : Int := min (max p0 (-1125899906842624)) 1125899906842624
theorem Kk (Y : Nat → Prop) (w0 : World)  (p0 : Int) (r : Int) (H : BG p0 = r)  :
    Calls Tryz.prog 35 #[.int .i64 p0] w0 fun e w' => e = .returned (.int .i64 r) ∧ Below w0.heap.size w0 w' := by
 refine enter Tryz.func35 Aa Tryz.ntmps35 Aa fun a F => ?_
 have W := Stw.start Y w0
 unfold BG at H
 refine vc tk 8 F W fun a w F W => ?_
 refine ls F W Aa (TE F Aa Aa).q fun a w F W => ?_
 refine ls F W Aa (VP F Aa Aa).q fun a w F W => ?_
 refine BR tk 3 F W fun a w F W => ?_
 refine Ao ?_
 subst H
 refine A1 (.inl Aa) F W Aa (Am F Aa) ?_
 exact ⟨rfl, W.done⟩
theorem Ze : Has Tryz.prog 35 := Cu Tryz.func35
noncomputable def Db (p0 : (Int × (List (Int × Int × Int × Int × Int × Int)) × (List (Int × Int))) × List (List Int) × List (List Int) × ((List (Int × Int × Int × Int)) × (List (Int × Int × List Int)) × Int × Int × Int × Int)) (x1 : Int) : ((List (Int × Int × Int)) × Int) → Option (((List (Int × Int × Int)) × Int) ⊕ (List (Int × Int × Int)))
  | (x3, x4) => (if x4 < (p0.2.2.2.2.1.length : Int) then ((ix p0.2.2.2.2.1 x4).bind fun x6 => (ix p0.2.2.2.2.1 (An (x4 - 1))).bind fun x7 => (if (An ((BG x6.2.1) - (BG x7.2.1))) < x1 then (H4 x3 ([(4, x4, 0)] : List (Int × Int × Int))).bind fun x8 => some x8 else some x3)).bind fun x5 => some (.inl (x5, An (x4 + 1))) else some (.inr x3))
noncomputable def DG (p0 : (Int × (List (Int × Int × Int × Int × Int × Int)) × (List (Int × Int))) × List (List Int) × List (List Int) × ((List (Int × Int × Int × Int)) × (List (Int × Int × List Int)) × Int × Int × Int × Int)) : Option (List (Int × Int × Int)) := (Hw p0.1 (min (max p0.2.2.2.2.2.1 0) 1048576)).bind fun x1 => (Ap (Db p0 x1) ([], 1)).bind fun x2 => some x2
theorem KQ (Y : Nat → Prop) (w0 : World) (v1 : Value) (v2 : Value) (v3 : Value) (v4 : Value) (v5 : Value) (v6 : Value) (p0 : (Int × (List (Int × Int × Int × Int × Int × Int)) × (List (Int × Int))) × List (List Int) × List (List Int) × ((List (Int × Int × Int × Int)) × (List (Int × Int × List Int)) × Int × Int × Int × Int)) (r : (List (Int × Int × Int))) (H : DG p0 = some r) (h_v1 : Sl w0 (NX []) IG v1 p0.1.2.1) (h_v2 : Sl w0 (NX []) IB v2 p0.1.2.2) (h_v3 : Sl w0 (NX []) (Rp.slice (Rp.int .i64)) v3 p0.2.1) (h_v4 : Sl w0 (NX []) (Rp.slice (Rp.int .i64)) v4 p0.2.2.1) (h_v5 : Sl w0 (NX []) A5 v5 p0.2.2.2.1) (h_v6 : Sl w0 (NX []) Jg v6 p0.2.2.2.2.1) :
    Calls Tryz.prog 18 #[.agg #[.int .i64 p0.1.1, v1, v2, v3, v4, v5, v6, .int .i64 p0.2.2.2.2.2.1, .int .i64 p0.2.2.2.2.2.2.1, .int .i64 p0.2.2.2.2.2.2.2.1, .int .i64 p0.2.2.2.2.2.2.2.2]] w0 fun e w' => ∃ x : Value, e = .returned (x) ∧ Stw ⟨Y, [], w0⟩ [] [row (x) 41 CJ r] w' := by
 refine enter Tryz.func18 Aa Tryz.ntmps18 Aa fun a F => ?_
 have W := Stw.start Y w0
 obtain ⟨v7, h1, h_v3⟩ := h_v3.ex CM
 obtain ⟨v8, h2, h_v4⟩ := h_v4.ex CM
 obtain ⟨v9, h3, h_v6⟩ := h_v6.ex HF
 unfold DG at H
 refine vc tk 2 F W fun a w F W => ?_
 refine D2 (cs := (DN p0 v1 v2 v3 v4 v5 v6)) F W Aa Aa Aa fun b1 a w F W => ?_
 refine JG tk 15 [0, 0] F W (ai (ai fun a w F W => ?_))
 refine ls F W Aa (TE F Aa Aa).q fun a w F W => ?_
 refine ls F W Aa (VP F Aa Aa).q fun a w F W => ?_
 obtain ⟨x1, h4, H⟩ := Ac H
 refine ls F W Aa (Be (v := Value.int .i64 x1) F Zp Aa (fun w W => NN any w (v1) (v2) p0.1 (min (max p0.2.2.2.2.2.1 0) 1048576) _ h4 (EG (Ad h_v1) W) (EG (Ad h_v2) W))) fun a w F W => ?_
 refine vl tk 2 F W fun a w F W => ?_
 refine Ab ?_
 obtain ⟨o1, G1, K1⟩ := Ac H
 refine Aq (fun a w => ∃ x2 : List (Int × Int × Int), ∃ v10 : Value, some (x2) = some o1 ∧ Fr 48 [] [(2, .slice none 0 0), (3, v10)] a ∧ Stw ⟨Y, [], w0⟩ (C0 b1 p0 v1 v2 v3 v4 v5 v6) [row v10 41 CJ x2] w) ?_ ?_
 ·
  have H := G1
  clear G1 K1
  refine vc tk 6 F W fun a w F W => ?_
  have W := W.nilRow 41 CJ
  refine AL H (fun s a w => ∃ v11 : Value, Fr 48 [] [(1, .pointer (some ⟨b1, 0, none⟩)), (2, .slice none 0 0), (3, v11), (4, .int .i64 x1), (5, .int .i64 s.2)] a ∧ Stw ⟨Y, [], w0⟩ (C0 b1 p0 v1 v2 v3 v4 v5 v6) [row v11 41 CJ s.1] w) ⟨(Value.slice none 0 0), F.ra Aa, W⟩ fun s o a w H L2 hR => ?_
  obtain ⟨x3, x4⟩ := s
  obtain ⟨v11, F, W⟩ := hR
  have F : Fr 48 [] [(1, .pointer (some ⟨b1, 0, none⟩)), (2, .slice none 0 0), (3, v11), (4, .int .i64 x1), (5, .int .i64 x4)] a := F
  have W : Stw ⟨Y, [], w0⟩ (C0 b1 p0 v1 v2 v3 v4 v5 v6) [row v11 41 CJ x3] w := W
  rw [Db] at H
  refine IL tk 7 [0] F W (ai fun a w F W => ?_)
  refine ls F W Aa (BS (r := Jg) (l := p0.2.2.2.2.1) T4 Aa F Aa (AN HF h3 (Ad h_v6))).q fun a w F W => ?_
  refine BR tk 3 F W fun a w F W => ?_
  refine AU F Aa H (fun F H => ?_) fun F H => ?_
  ·
   refine AB (Ab ?_)
   obtain ⟨o3, G3, K3⟩ := Ac H
   refine Aq (fun a w => ∃ x5 : List (Int × Int × Int), ∃ v12 : Value, some (x5) = some o3 ∧ Fr 48 [] [(1, .pointer (some ⟨b1, 0, none⟩)), (2, .slice none 0 0), (3, v12), (4, .int .i64 x1), (5, .int .i64 x4)] a ∧ Stw ⟨Y, [], w0⟩ (C0 b1 p0 v1 v2 v3 v4 v5 v6) [row v12 41 CJ x5] w) ?_ ?_
   ·
    have H := G3
    clear G3 K3
    refine vc tk 2 F W fun a w F W => ?_
    refine BB W MO (by kernel_rfl) ?_
    refine qs F Aa (Az TI Aa Aa Aa RN F Aa 5 Aa).q fun a F => ?_
    refine qs F Aa (Az Uz Aa Aa Aa W6 F Aa 6 Aa).q fun a F => ?_
    refine qs F Aa (BE (v := v6) 0 F Aa Aa W6 Aa).q fun a F => ?_
    refine qs F Aa (Ai F Aa).q fun a F => ?_
    obtain ⟨x6, h5, H⟩ := Ac H
    obtain ⟨v13, h6, h7⟩ := E5 h3 h5
    have h8 : Oh v13 = [.int .i64 x6.1, .int .i64 x6.2.1, (v13.2.2.1)] := congrArg (fun q : Int × Int × List Int => ([.int .i64 q.1, .int .i64 q.2.1, (v13.2.2.1)] : List Value)) h7
    refine qs F Aa (Al (r := Rj) Ws F Aa Aa (Ad h_v6) h6).q fun a F => ?_
    refine qs F Aa (Az Vq Aa Aa Aa T3 F Aa (Kx v6 + (x4).toNat * 3 + 1) Aa).q fun a F => ?_
    refine qs F Aa (Ag (y := Value.int .i64 x6.2.1) (j := 1) (i := x4) (enc := Oh) F Aa Aa (Ad h_v6) h6 Tb T3 (by rw [h8]; rfl)).q fun a F => ?_
    refine qs F Aa (Be (v := Value.int .i64 (BG x6.2.1)) F Ze Aa (fun w W => Kk any w x6.2.1 _ Aa)) fun a F => ?_
    refine qs F Aa (Az TI Aa Aa Aa RN F Aa 5 Aa).q fun a F => ?_
    refine qs F Aa (Az Uz Aa Aa Aa W6 F Aa 6 Aa).q fun a F => ?_
    refine qs F Aa (BE (v := v6) 0 F Aa Aa W6 Aa).q fun a F => ?_
    refine qs F Aa (Ai F Aa).q fun a F => ?_
    refine qs F Aa (Eu F Aa Aa Aa).q fun a F => ?_
    obtain ⟨x7, h9, H⟩ := Ac H
    obtain ⟨v14, h10, h11⟩ := E5 h3 h9
    have h12 : Oh v14 = [.int .i64 x7.1, .int .i64 x7.2.1, (v14.2.2.1)] := congrArg (fun q : Int × Int × List Int => ([.int .i64 q.1, .int .i64 q.2.1, (v14.2.2.1)] : List Value)) h11
    refine qs F Aa (Al (r := Rj) Ws F Aa Aa (Ad h_v6) h10).q fun a F => ?_
    refine qs F Aa (Az Vq Aa Aa Aa T3 F Aa (Kx v6 + (An (x4 - 1)).toNat * 3 + 1) Aa).q fun a F => ?_
    refine qs F Aa (Ag (y := Value.int .i64 x7.2.1) (j := 1) (i := An (x4 - 1)) (enc := Oh) F Aa Aa (Ad h_v6) h10 Tb T3 (by rw [h12]; rfl)).q fun a F => ?_
    refine qs F Aa (Be (v := Value.int .i64 (BG x7.2.1)) F Ze Aa (fun w W => Kk any w x7.2.1 _ Aa)) fun a F => ?_
    refine qs F Aa (Eu F Aa Aa Aa).q fun a F => ?_
    refine qs F Aa (Ai F Aa).q fun a F => ?_
    refine qs F Aa (GM F Aa Aa).q fun a F => ?_
    refine AD fun w W => ?_
    refine Ab ?_
    refine AU F Aa H (fun F H => ?_) fun F H => ?_
    ·
     refine vc tk 3 F W fun a w F W => ?_
     refine ls F W Aa (Cg (v := Value.agg #[.int .i64 4, .int .i64 x4, .int .i64 0]) WH F Aa Aa Aa).q fun a w F W => ?_
     refine D6 (z := Value.agg #[.int .i64 0, .int .i64 0, .int .i64 0]) (cs := [.int .i64 4, .int .i64 x4, .int .i64 0]) CJ ([(4, x4, 0)] : List (Int × Int × Int)) F W Aa Qf WO Aa Aa Aa Aa Aa Aa (VJ.repL _ _ ([(4, x4, 0)] : List (Int × Int × Int))) fun v15 a w F W => ?_
     obtain ⟨x8, h13, H⟩ := Ac H
     refine DB (r := CJ) (i := 1) F W Aa Qf Aa Aa Aa Aa (Ez W 0 Aa) h13 Aa fun v16 a w F W => ?_
     have W : Stw ⟨Y, [], w0⟩ (C0 b1 p0 v1 v2 v3 v4 v5 v6) [row v16 41 CJ x8, row v15 41 CJ ([(4, x4, 0)] : List (Int × Int × Int))] w := W
     refine vl tk 2 F W fun a w F W => ?_
     refine Aw (Ab ?_)
     have W := W.sub (M' := (C0 b1 p0 v1 v2 v3 v4 v5 v6)) (Z' := [row v16 41 CJ x8]) (List.Sublist.refl _) (List.Sublist.cons_cons _ (List.nil_sublist _))
     exact ⟨_, (v16), H, F.ra Aa, W⟩
    refine AB (Aw (Ab ?_))
    exact ⟨_, (v11), H, F.ra Aa, W⟩
   rintro a w ⟨x5, v12, hj, F, W⟩
   have hj := Ax hj
   subst hj
   have H := K3
   clear G3 K3
   refine vc tk 5 F W fun a w F W => ?_
   refine Ab ?_
   exact ⟨_, H, (v12), F.ra Aa, W⟩
  refine AA ?_
  iterate 2 refine AQ ?_
  refine AC (Ab ?_)
  have H := L2 _ H
  exact ⟨_, (v11), H, F.ra Aa, W⟩
 rintro a w ⟨x2, v10, hj, F, W⟩
 have hj := Ax hj
 subst hj
 have H := K1
 clear G1 K1
 refine vc tk 6 F W fun a w F W => ?_
 refine Ao ?_
 have H := Ax H
 subst H
 refine A1 (.inl Aa) F W Aa (Am F Aa) ?_
 have W := W.sub (M' := []) (Z' := [row v10 41 CJ x2]) (List.nil_sublist _) (List.Sublist.refl _)
 exact ⟨(v10), Aa, W⟩
theorem bS : Has Tryz.prog 18 := Cu Tryz.func18
noncomputable def Dm (p0 : List Int) : Option (List Int) := (H4 ([] : List Int) p0).bind fun x1 => some x1
theorem J2 (Y : Nat → Prop) (w0 : World) (v1 : Value) (p0 : List Int) (r : List Int) (H : Dm p0 = some r) (s_v1 : Sl w0 Y (Rp.int .i64) v1 p0) :
    Calls Tryz.prog 56 #[v1] w0 fun e w' => ∃ x : Value, e = .returned (x) ∧ Stw ⟨Y, [], w0⟩ [] [row (x) 3 (Rp.int .i64) r] w' := by
 refine enter Tryz.func56 Aa Tryz.ntmps56 Aa fun a F => ?_
 have W := Stw.start Y w0
 have h_v1 := W.nx s_v1
 unfold Dm at H
 refine vc tk 9 F W fun a w F W => ?_
 refine ls F W Aa (T1 (r := (Rp.int .i64)) IV F Aa (Ad h_v1)).q fun a w F W => ?_
 refine FG (Ab ?_)
 rcases SG (Ad h_v1) W with ⟨hb, hl⟩ | hb
 ·
  rw [hl] at H
  change some ([] : List Int) = _ at H
  rw [hb] at F
  refine vc tk 6 F W fun a w F W => ?_
  refine Ao (AE ?_)
  have H := Ax H
  subst H
  refine A1 (.inl Aa) F W Aa (Am F Aa) ?_
  have W := W.nilRow 3 (Rp.int .i64)
  exact ⟨(Value.slice none 0 0), Aa, W⟩
 rw [hb] at F
 refine FP tk 5 F W fun a w F W => ?_
 refine D6 (z := Value.int .i64 0) (cs := []) (Rp.int .i64) ([] : List Int) F W Aa EJ Z3 Aa Aa Aa Aa Aa Aa (Fl.int.repL _ _ ([] : List Int)) fun v2 a w F W => ?_
 refine ls F W Aa (Ai F Aa).q fun a w F W => ?_
 obtain ⟨x1, h1, H⟩ := Ac H
 refine DB (r := (Rp.int .i64)) (i := 0) F W Aa EJ Aa Aa Aa Aa (Vk W s_v1) h1 Aa fun v3 a w F W => ?_
 have W : Stw ⟨Y, [], w0⟩ [] [row v3 3 (Rp.int .i64) x1] w := W
 refine BR tk 3 F W fun a w F W => ?_
 refine Ao ?_
 have H := Ax H
 subst H
 refine A1 (.inl Aa) F W Aa (Am F Aa) ?_
 exact ⟨(v3), Aa, W⟩
theorem Z7 : Has Tryz.prog 56 := Cu Tryz.func56
abbrev Dj : Dp (Value × Nat × List Int) := (Dp.sl 3 (Rp.int .i64))
abbrev Fj (p : Value × Nat × List Int) : Nat × List Int := p.2
abbrev SW : (Nat × List Int) → Option (List Int) := Wp
theorem XG : Rst Dj (Rp.slice (Rp.int .i64)) Fj SW := Rst.sl
noncomputable def Ek (p0 : List (List Int)) : ((List (Nat × List Int)) × Int) → Option (((List (Nat × List Int)) × Int) ⊕ (List (Nat × List Int)))
  | (x2, x3) => (if x3 < (p0.length : Int) then (ix p0 x3).bind fun x4 => (Dm x4).bind fun x5 => (H4 x2 ([(2, x5)] : List (Nat × List Int))).bind fun x6 => some (.inl (x6, An (x3 + 1))) else some (.inr x2))
noncomputable def Ev (p0 : List (List Int)) : Option (List (Nat × List Int)) := (Ap (Ek p0) ([], 0)).bind fun x1 => some x1
theorem NU (Y : Nat → Prop) (w0 : World) (v1 : Value) (p0 : List (List Int)) (r : (List (Nat × List Int))) (H : Ev p0 = some r) (s_v1 : Sl w0 Y (Rp.slice (Rp.int .i64)) v1 p0) :
    Calls Tryz.prog 36 #[v1] w0 fun e w' => ∃ x : Value × ({x : List (Value × Nat × List Int) // x.map Fj = r}), e = .returned (x.1) ∧ Stw ⟨Y, [], w0⟩ [] [Bo (x.1) 44 Dj (x.2.1)] w' := by
 refine enter Tryz.func36 Aa Tryz.ntmps36 Aa fun a F => ?_
 have W := Stw.start Y w0
 obtain ⟨v2, h1, s_v1⟩ := s_v1.ex CM
 have h_v1 := W.nx s_v1
 unfold Ev at H
 refine vc tk 10 F W fun a w F W => ?_
 obtain ⟨o1, G1, K1⟩ := Ac H
 refine Aq (fun a w => ∃ x1 : List (Nat × List Int), ∃ v3 : Value, ∃ g_x1 : {x : List (Value × Nat × List Int) // x.map Fj = x1}, some (x1) = some o1 ∧ Fr 19 [] [(2, .slice none 0 0), (3, v3)] a ∧ Stw ⟨Y, [], w0⟩ [] [Bo v3 44 Dj g_x1.1] w) ?_ ?_
 ·
  have H := G1
  clear G1 K1
  refine vc tk 3 F W fun a w F W => ?_
  refine ls F W Aa (BS (r := (Rp.slice (Rp.int .i64))) (l := p0) Nn Aa F Aa (AN CM h1 (Ad h_v1))).q fun a w F W => ?_
  refine BR tk 4 F W fun a w F W => ?_
  have W := W.dNil 44 Dj
  have h2 : List.map Fj ([] : List (Value × Nat × List Int)) = ([] : List (Nat × List Int)) := Aa
  refine AL H (fun s a w => ∃ v4 : Value, ∃ g_x2 : {x : List (Value × Nat × List Int) // x.map Fj = s.1}, Fr 19 [] [(2, .slice none 0 0), (3, v4), (6, v1), (7, .int .i64 (p0.length : Int)), (8, .int .i64 s.2)] a ∧ Stw ⟨Y, [], w0⟩ [] [Bo v4 44 Dj g_x2.1] w) ⟨(Value.slice none 0 0), ⟨([] : List (Value × Nat × List Int)), h2⟩, F.ra Aa, W⟩ fun s o a w H L2 hR => ?_
  obtain ⟨x2, x3⟩ := s
  obtain ⟨v4, g_x2, F, W⟩ := hR
  have F : Fr 19 [] [(2, .slice none 0 0), (3, v4), (6, v1), (7, .int .i64 (p0.length : Int)), (8, .int .i64 x3)] a := F
  have W : Stw ⟨Y, [], w0⟩ [] [Bo v4 44 Dj g_x2.1] w := W
  rw [Ek] at H
  refine vc tk 6 F W fun a w F W => ?_
  refine AU F Aa H (fun F H => ?_) fun F H => ?_
  ·
   refine FP tk 6 F W fun a w F W => ?_
   obtain ⟨x4, h3, H⟩ := Ac H
   obtain ⟨v5, h4, h5⟩ := E5 h1 h3
   have h6 : Hd v5 = [(v5.1)] := congrArg (fun q : List Int => ([(v5.1)] : List Value)) h5
   refine ls F W Aa (Al (r := (Rp.vsl (Rp.int .i64))) Ps F Aa Aa (Ad h_v1) h4).q fun a w F W => ?_
   refine ls F W Aa (Ag (y := (v5.1)) (j := 0) (i := x3) (enc := Hd) F Aa Aa (Ad h_v1) h4 LI NA (by rw [h6]; rfl)).q fun a w F W => ?_
   refine BR tk 6 F W fun a w F W => ?_
   obtain ⟨x5, h7, H⟩ := Ac H
   refine A9 (Ml := []) (Zl := []) (β := Value) (rv := fun x => x) (MM := fun x => []) (ZZ := fun x => [row x 3 (Rp.int .i64) x5]) F W Z7 Aa Aa (fun hL => J2 _ w ((v5.1)) x4 _ h7 (Sl.at_ (W.old s_v1) h4 DP.here (congrArg (fun q : List Int => q) h5))) fun x a w F W => ?_
   obtain ⟨v6, rfl⟩ : ∃ y, y = x := ⟨x, rfl⟩
   have W : Stw ⟨Y, [], w0⟩ [] [row v6 3 (Rp.int .i64) x5, Bo v4 44 Dj g_x2.1] w := W
   have h8 : Value.oneCell' v6 = true := (W.one (k := 0) Aa)
   have W := W.toR
   refine D6 (z := Value.slice none 0 0) (cs := [v6]) Dj.hr ([(v6, 2, x5)] : List (Value × Nat × List Int)) F W Aa Ps Yg Aa Aa Aa (Bb Aa (BM h8) Aa Eo) Aa Aa ⟨[v6], _, Aa, ⟨rfl, (AV h8 Fp)⟩, Aa⟩ fun v7 a w F W => ?_
   have W := Stw.dShutL (D := Dj) (lx := ([(v6, 2, x5)] : List (Value × Nat × List Int))) W
   have h9 : List.map Fj ([(v6, 2, x5)] : List (Value × Nat × List Int)) = ([(2, x5)] : List (Nat × List Int)) := Aa
   have W : Stw ⟨Y, [], w0⟩ [] [Bo v7 44 Dj ([(v6, 2, x5)] : List (Value × Nat × List Int)), Bo v4 44 Dj g_x2.1] w := W
   have W := W.frontZ (i := 1) Aa Aa
   obtain ⟨x6, h10, H⟩ := Ac H
   refine NV (D := Dj) F W Aa Ps Aa Aa (PR (er := Fj) g_x2.2 h9 h10).1 Aa fun v8 a w F W => ?_
   have h11 : List.map Fj (g_x2.1 ++ ([(v6, 2, x5)] : List (Value × Nat × List Int))) = x6 := (PR (er := Fj) g_x2.2 h9 h10).2
   have W : Stw ⟨Y, [], w0⟩ [] [Bo v8 44 Dj (g_x2.1 ++ ([(v6, 2, x5)] : List (Value × Nat × List Int)))] w := W
   refine vl tk 2 F W fun a w F W => ?_
   refine Aw ?_
   refine vn tk 4 F W fun a w F W => ?_
   refine Ab ?_
   exact ⟨_, H, (v8), ⟨(g_x2.1 ++ ([(v6, 2, x5)] : List (Value × Nat × List Int))), h11⟩, F.ra Aa, W⟩
  refine AA ?_
  iterate 2 refine AQ ?_
  refine AC (Ab ?_)
  have H := L2 _ H
  exact ⟨_, (v4), ⟨g_x2.1, g_x2.2⟩, H, F.ra Aa, W⟩
 rintro a w ⟨x1, v3, g_x1, hj, F, W⟩
 have hj := Ax hj
 subst hj
 have H := K1
 clear G1 K1
 refine vc tk 6 F W fun a w F W => ?_
 refine Ao ?_
 have H := Ax H
 subst H
 refine A1 (.inl Aa) F W Aa (Am F Aa) ?_
 exact ⟨((v3), ⟨g_x1.1, g_x1.2⟩), Aa, W⟩
theorem YU : type_of% Tryz.underlying26 := Tryz.underlying26
theorem Xk : type_of% Tryz.underlying82 := Tryz.underlying82
theorem ZQ : Has Tryz.prog 36 := Cu Tryz.func36
theorem Zo : (Tryz.prog.info? 46).bind (·.zero) = some (.agg #[.int .i64 0, .int .i64 0, .slice none 0 0]) := by kernel_rfl
abbrev CU : Dp (Value × Nat × List (Value × Nat × List Int)) := (Dp.dl 44 Dj)
abbrev Fi (p : Value × Nat × List (Value × Nat × List Int)) : Nat × List (Nat × List Int) := (p.2.1, p.2.2.map Fj)
abbrev U8 : (Nat × List (Nat × List Int)) → Option (List (List Int)) := (XN SW)
theorem YQ : Rst CU (Rp.slice (Rp.slice (Rp.int .i64))) Fi U8 := (Rst.dl XG)
theorem W9 : Et Tryz.prog 82 26 1 24 := Et.of Xk (by kernel_rfl) (by kernel_rfl) (by kernel_rfl) (by decide)
theorem Z8 : (Tryz.prog.info? 26).bind (·.zero) = some (.slice none 0 0) := by kernel_rfl
theorem Xe : Ty Tryz.prog 26 false 1 := ⟨by kernel_rfl, by kernel_rfl⟩
theorem Xz : Et Tryz.prog 26 44 1 24 := Et.of YU (by kernel_rfl) (by kernel_rfl) (by kernel_rfl) (by decide)
noncomputable def DX (x4 : Int) (x6 : List Int) : ((List (Nat × List (Nat × List Int))) × Int) → Option (((List (Nat × List (Nat × List Int))) × Int) ⊕ (List (Nat × List (Nat × List Int))))
  | (x7, x8) => (if x8 < (x6.length : Int) then (ix x6 x8).bind fun x9 => (ix x7 x4).bind fun x10 => (KH x10.1).bind fun x11 => (H4 x10.2 ([(2, ([x9] : List Int))] : List (Nat × List Int))).bind fun x12 => (ix (Ah x7 x4 (0, [])) x4).bind fun x13 => some (.inl ((Ah (Ah x7 x4 (0, [])) x4 (2, x12)), An (x8 + 1))) else some (.inr x7))
noncomputable def El (p0 : List (List Int)) : ((List (Nat × List (Nat × List Int))) × Int) → Option (((List (Nat × List (Nat × List Int))) × Int) ⊕ (List (Nat × List (Nat × List Int))))
  | (x3, x4) => (if x4 < (p0.length : Int) then ((ix p0 x4).bind fun x6 => Ap (DX x4 x6) (x3, 0)).bind fun x5 => some (.inl (x5, An (x4 + 1))) else some (.inr x3))
noncomputable def FR (p0 : List (List Int)) : Option (List (Nat × List (Nat × List Int))) := (mk (p0.length : Int) ((2, []) : Nat × List (Nat × List Int))).bind fun x1 => (Ap (El p0) (x1, 0)).bind fun x2 => some x2
theorem NQ (Y : Nat → Prop) (w0 : World) (v1 : Value) (p0 : List (List Int)) (r : (List (Nat × List (Nat × List Int)))) (H : FR p0 = some r) (h_v1 : Sl w0 (NX []) (Rp.slice (Rp.int .i64)) v1 p0) :
    Calls Tryz.prog 37 #[v1] w0 fun e w' => ∃ x : Value × ({x : List (Value × Nat × List (Value × Nat × List Int)) // x.map Fi = r}), e = .returned (x.1) ∧ Stw ⟨Y, [], w0⟩ [] [Bo (x.1) 26 CU (x.2.1)] w' := by
 refine enter Tryz.func37 Aa Tryz.ntmps37 Aa fun a F => ?_
 have W := Stw.start Y w0
 obtain ⟨v2, h1, h_v1⟩ := h_v1.ex CM
 unfold FR at H
 refine vc tk 8 F W fun a w F W => ?_
 refine ls F W Aa (BS (r := (Rp.slice (Rp.int .i64))) (l := p0) Nn Aa F Aa (AN CM h1 (Ad h_v1))).q fun a w F W => ?_
 obtain ⟨x1, h2, H⟩ := Ac H
 have h3 := XW (er := Fi) (z := (Value.slice none 0 0, 2, [])) h2
 refine IW (r := CU.hr) (Value.slice none 0 0, 2, []) F W Aa W9 Z8 Aa Aa (fun w A => ⟨rfl, Aa⟩) h3.1 Aa fun v3 a w F W => ?_
 have W := Stw.dNew (D := CU) Nl.dl W
 have h4 : List.map Fi (List.replicate ((p0.length : Int)).toNat ((Value.slice none 0 0, 2, []) : Value × Nat × List (Value × Nat × List Int))) = x1 := h3.2
 have W : Stw ⟨Y, [], w0⟩ [] [Bo v3 26 CU (List.replicate ((p0.length : Int)).toNat ((Value.slice none 0 0, 2, []) : Value × Nat × List (Value × Nat × List Int)))] w := W
 refine vl tk 2 F W fun a w F W => ?_
 refine Ab ?_
 obtain ⟨o1, G1, K1⟩ := Ac H
 refine Aq (fun a w => ∃ x2 : List (Nat × List (Nat × List Int)), ∃ g_x2 : {x : List (Value × Nat × List (Value × Nat × List Int)) // x.map Fi = x2}, some (x2) = some o1 ∧ Fr 38 [] [(2, .slice none 0 0), (3, v3)] a ∧ Stw ⟨Y, [], w0⟩ [] [Bo v3 26 CU g_x2.1] w) ?_ ?_
 ·
  have H := G1
  clear G1 K1
  refine vc tk 3 F W fun a w F W => ?_
  refine ls F W Aa (BS (r := (Rp.slice (Rp.int .i64))) (l := p0) Nn Aa F Aa (AN CM h1 (Ad h_v1))).q fun a w F W => ?_
  refine BR tk 4 F W fun a w F W => ?_
  refine AL H (fun s a w => ∃ g_x3 : {x : List (Value × Nat × List (Value × Nat × List Int)) // x.map Fi = s.1}, Fr 38 [] [(2, .slice none 0 0), (3, v3), (11, v1), (12, .int .i64 (p0.length : Int)), (13, .int .i64 s.2)] a ∧ Stw ⟨Y, [], w0⟩ [] [Bo v3 26 CU g_x3.1] w) ⟨⟨(List.replicate ((p0.length : Int)).toNat ((Value.slice none 0 0, 2, []) : Value × Nat × List (Value × Nat × List Int))), h4⟩, F.ra Aa, W⟩ fun s o a w H L2 hR => ?_
  obtain ⟨x3, x4⟩ := s
  obtain ⟨g_x3, F, W⟩ := hR
  have F : Fr 38 [] [(2, .slice none 0 0), (3, v3), (11, v1), (12, .int .i64 (p0.length : Int)), (13, .int .i64 x4)] a := F
  have W : Stw ⟨Y, [], w0⟩ [] [Bo v3 26 CU g_x3.1] w := W
  rw [El] at H
  refine vc tk 6 F W fun a w F W => ?_
  refine AU F Aa H (fun F H => ?_) fun F H => ?_
  ·
   refine AB (Ab ?_)
   obtain ⟨o3, G3, K3⟩ := Ac H
   refine Aq (fun a w => ∃ x5 : List (Nat × List (Nat × List Int)), ∃ g_x5 : {x : List (Value × Nat × List (Value × Nat × List Int)) // x.map Fi = x5}, some (x5) = some o3 ∧ Fr 38 [] [(2, .slice none 0 0), (3, v3), (11, v1), (12, .int .i64 (p0.length : Int)), (13, .int .i64 x4)] a ∧ Stw ⟨Y, [], w0⟩ [] [Bo v3 26 CU g_x5.1] w) ?_ ?_
   ·
    have H := G3
    clear G3 K3
    refine vc tk 4 F W fun a w F W => ?_
    obtain ⟨x6, h5, H⟩ := Ac H
    obtain ⟨v4, h6, h7⟩ := E5 h1 h5
    have h8 : Hd v4 = [(v4.1)] := congrArg (fun q : List Int => ([(v4.1)] : List Value)) h7
    refine ls F W Aa (Al (r := (Rp.vsl (Rp.int .i64))) Ps F Aa Aa (Ad h_v1) h6).q fun a w F W => ?_
    refine ls F W Aa (Ag (y := (v4.1)) (j := 0) (i := x4) (enc := Hd) F Aa Aa (Ad h_v1) h6 LI NA (by rw [h8]; rfl)).q fun a w F W => ?_
    refine BR tk 7 F W fun a w F W => ?_
    refine ls F W Aa (BS (r := (Rp.int .i64)) (l := x6) IV Aa F Aa (Dc (Ad h_v1) h6 DP.here (congrArg (fun q : List Int => q) h7))).q fun a w F W => ?_
    refine BR tk 4 F W fun a w F W => ?_
    refine AL H (fun s a w => ∃ g_x7 : {x : List (Value × Nat × List (Value × Nat × List Int)) // x.map Fi = s.1}, Fr 38 [] [(2, .slice none 0 0), (3, v3), (4, .int .i64 x4), (11, v1), (12, .int .i64 (p0.length : Int)), (13, .int .i64 x4), (18, (v4.1)), (19, .int .i64 (x6.length : Int)), (20, .int .i64 s.2)] a ∧ Stw ⟨Y, [], w0⟩ [] [Bo v3 26 CU g_x7.1] w) ⟨⟨g_x3.1, g_x3.2⟩, F.ra Aa, W⟩ fun s o a w H L4 hR => ?_
    obtain ⟨x7, x8⟩ := s
    obtain ⟨g_x7, F, W⟩ := hR
    have F : Fr 38 [] [(2, .slice none 0 0), (3, v3), (4, .int .i64 x4), (11, v1), (12, .int .i64 (p0.length : Int)), (13, .int .i64 x4), (18, (v4.1)), (19, .int .i64 (x6.length : Int)), (20, .int .i64 x8)] a := F
    have W : Stw ⟨Y, [], w0⟩ [] [Bo v3 26 CU g_x7.1] w := W
    rw [DX] at H
    refine vc tk 6 F W fun a w F W => ?_
    refine AU F Aa H (fun F H => ?_) fun F H => ?_
    ·
     refine FP tk 6 F W fun a w F W => ?_
     obtain ⟨x9, h9, H⟩ := Ac H
     refine ls F W Aa (Al (r := (Rp.int .i64)) EJ F Aa Aa (Dc (Ad h_v1) h6 DP.here (congrArg (fun q : List Int => q) h7)) h9).q fun a w F W => ?_
     refine ls F W Aa (Ag (y := Value.int .i64 x9) (j := 0) (i := x8) F Aa Aa (Dc (Ad h_v1) h6 DP.here (congrArg (fun q : List Int => q) h7)) h9 Fl.int.to T3 Aa).q fun a w F W => ?_
     refine BR tk 8 F W fun a w F W => ?_
     obtain ⟨x10, h10, H⟩ := Ac H
     obtain ⟨v5, h11, h12⟩ := E5 (er := Fi) g_x7.2 h10
     refine ls F W Aa (Al (r := CU.hr) W9 F Aa Aa (NE.hd (Jp 0 Aa)) h11).q fun a w F W => ?_
     have h13 : CU.cells v5 = [(v5.1)] := congrArg (fun q : Nat × List (Nat × List Int) => ([(v5.1)] : List Value)) h12
     refine ls F W Aa (Ag (y := (v5.1)) (j := 0) (i := x4) (enc := CU.cells) F Aa Aa (NE.hd (Jp 0 Aa)) h11 CU.flat Xe (by rw [h13]; rfl)).q fun a w F W => ?_
     refine ls F W Aa (Ai F Aa).q fun a w F W => ?_
     refine D6 (z := Value.int .i64 0) (cs := [.int .i64 x9]) (Rp.int .i64) ([x9] : List Int) F W Aa EJ Z3 Aa Aa Aa Aa Aa Aa (Fl.int.repL _ _ ([x9] : List Int)) fun v6 a w F W => ?_
     have h14 : Value.oneCell' v6 = true := (W.one (k := 0) Aa)
     have W := W.toR
     refine D6 (z := Value.slice none 0 0) (cs := [v6]) Dj.hr ([(v6, 2, ([x9] : List Int))] : List (Value × Nat × List Int)) F W Aa Xz Yg Aa Aa Aa (Bb Aa (BM h14) Aa Eo) Aa Aa ⟨[v6], _, Aa, ⟨rfl, (AV h14 Fp)⟩, Aa⟩ fun v7 a w F W => ?_
     have W := Stw.dShutL (D := Dj) (lx := ([(v6, 2, ([x9] : List Int))] : List (Value × Nat × List Int))) W
     have h15 : List.map Fj ([(v6, 2, ([x9] : List Int))] : List (Value × Nat × List Int)) = ([(2, ([x9] : List Int))] : List (Nat × List Int)) := Aa
     have W : Stw ⟨Y, [], w0⟩ [] [Bo v7 44 Dj ([(v6, 2, ([x9] : List Int))] : List (Value × Nat × List Int)), Bo v3 26 CU g_x7.1] w := W
     obtain ⟨x11, h16, H⟩ := Ac H
     have W := W.frontZ (i := 1) Aa Aa
     have W := W.dTakeD h11 Foc.here ((congrArg (fun q : Nat × List (Nat × List Int) => q.1) h12).trans (KZ h16))
     have h17 : List.map Fi (Ah g_x7.1 x4 ((v5.1), 0, [])) = (Ah x7 x4 (0, [])) := (Js g_x7.2 (congrArg (fun q : Nat × List (Nat × List Int) => (0, [])) h12))
     have W : Stw ⟨Y, [], w0⟩ [] [Bo (v5.1) 44 Dj (v5.2.2), Bo v3 26 CU (Ah g_x7.1 x4 ((v5.1), 0, [])), Bo v7 44 Dj ([(v6, 2, ([x9] : List Int))] : List (Value × Nat × List Int))] w := W
     have W := W.frontZ (i := 2) Aa Aa
     have W := W.frontZ (i := 1) Aa Aa
     obtain ⟨x12, h18, H⟩ := Ac H
     refine NV (D := Dj) F W Aa Xz Aa Aa (PR (er := Fj) (congrArg (fun q : Nat × List (Nat × List Int) => q.2) h12) h15 h18).1 Aa fun v8 a w F W => ?_
     have h19 : List.map Fj ((v5.2.2) ++ ([(v6, 2, ([x9] : List Int))] : List (Value × Nat × List Int))) = x12 := (PR (er := Fj) (congrArg (fun q : Nat × List (Nat × List Int) => q.2) h12) h15 h18).2
     have W : Stw ⟨Y, [], w0⟩ [] [Bo v8 44 Dj ((v5.2.2) ++ ([(v6, 2, ([x9] : List Int))] : List (Value × Nat × List Int))), Bo v3 26 CU (Ah g_x7.1 x4 ((v5.1), 0, []))] w := W
     obtain ⟨x13, h20, H⟩ := Ac H
     obtain ⟨v9, h21, h22⟩ := E5 (er := Fi) h17 h20
     refine ls F W Aa (Al (r := CU.hr) W9 F Aa Aa (NE.hd (Jp 1 Aa)) h21).q fun a w F W => ?_
     have h23 : Value.oneCell' v8 = true := (W.oneD 0 Aa)
     have W := W.frontZ (i := 1) Aa Aa
     have W := W.frontZ (i := 1) Aa Aa
     have W := W.toD
     refine N0 (D := CU) (S := (Dp.dl 44 Dj)) (b := (v8, 2, ((v5.2.2) ++ ([(v6, 2, ([x9] : List Int))] : List (Value × Nat × List Int))))) (i := x4) (j := 0) Foc.here F W Aa Aa Aa h21 Xe (BM h23) Aa h23 Aa fun w W => ?_
     have h24 : Fi (v8, 2, ((v5.2.2) ++ ([(v6, 2, ([x9] : List Int))] : List (Value × Nat × List Int)))) = (2, x12) := by simp only [Fi, h19]
     have h25 : List.map Fi (Ah (Ah g_x7.1 x4 ((v5.1), 0, [])) x4 (v8, 2, ((v5.2.2) ++ ([(v6, 2, ([x9] : List Int))] : List (Value × Nat × List Int))))) = (Ah (Ah x7 x4 (0, [])) x4 (2, x12)) := (Js h17 h24)
     have W : Stw ⟨Y, [], w0⟩ [] [Bo v3 26 CU (Ah (Ah g_x7.1 x4 ((v5.1), 0, [])) x4 (v8, 2, ((v5.2.2) ++ ([(v6, 2, ([x9] : List Int))] : List (Value × Nat × List Int)))))] w := W
     refine FG (Aw ?_)
     refine vn tk 4 F W fun a w F W => ?_
     refine Ab ?_
     exact ⟨_, H, ⟨(Ah (Ah g_x7.1 x4 ((v5.1), 0, [])) x4 (v8, 2, ((v5.2.2) ++ ([(v6, 2, ([x9] : List Int))] : List (Value × Nat × List Int))))), h25⟩, F.ra Aa, W⟩
    refine AA ?_
    iterate 2 refine AQ ?_
    refine AC (Aw (Ab ?_))
    have H := L4 _ H
    exact ⟨_, ⟨g_x7.1, g_x7.2⟩, H, F.ra Aa, W⟩
   rintro a w ⟨x5, g_x5, hj, F, W⟩
   have hj := Ax hj
   subst hj
   have H := K3
   clear G3 K3
   refine vc tk 4 F W fun a w F W => ?_
   refine Ab ?_
   exact ⟨_, H, ⟨g_x5.1, g_x5.2⟩, F.ra Aa, W⟩
  refine AA ?_
  iterate 2 refine AQ ?_
  refine AC (Ab ?_)
  have H := L2 _ H
  exact ⟨_, ⟨g_x3.1, g_x3.2⟩, H, F.ra Aa, W⟩
 rintro a w ⟨x2, g_x2, hj, F, W⟩
 have hj := Ax hj
 subst hj
 have H := K1
 clear G1 K1
 refine vc tk 6 F W fun a w F W => ?_
 refine Ao ?_
 have H := Ax H
 subst H
 refine A1 (.inl Aa) F W Aa (Am F Aa) ?_
 exact ⟨((v3), ⟨g_x2.1, g_x2.2⟩), Aa, W⟩
theorem R2 : type_of% Tryz.underlying104 := Tryz.underlying104
theorem NR : type_of% Tryz.underlying108 := Tryz.underlying108
theorem a9 : Has Tryz.prog 37 := Cu Tryz.func37
abbrev YB (p : Value × List (Value × List Int)) : List (List Int) := (p.2.map XP)
theorem XE : Ex (Rp.slice (Rp.slice (Rp.int .i64))) (Rp.vsl (Rp.vsl (Rp.int .i64))) YB := (Ex.slice CM)
abbrev Wk (a : Value × List (Value × List Int)) : List Value := [a.1]
theorem YE : Kj (Rp.vsl (Rp.vsl (Rp.int .i64))) Wk := Kj.vsl
theorem Y8 : Bt Tryz.prog 108 [.int .i64 0, .int .i64 0] [(0, 1), (1, 1)] := ⟨⟨.agg #[.int .i64 0, .int .i64 0], by kernel_rfl, rfl⟩, ⟨_, NR, fun w => by kernel_rfl⟩⟩
theorem Vn : (Tryz.prog.info? 108).bind (·.zero) = some (.agg #[.int .i64 0, .int .i64 0]) := by kernel_rfl
abbrev HA : Rp (Int × Int) := (Rp.pair (Rp.int .i64) (Rp.int .i64))
def YO (a : Int × Int) : List Value := [.int .i64 a.1, .int .i64 a.2]
theorem Ux : Fl HA YO := (Fl.pair Fl.int Fl.int)
theorem TY : Et Tryz.prog 104 108 2 16 := Et.of R2 (by kernel_rfl) (by kernel_rfl) (by kernel_rfl) (by decide)
theorem ST : Ty Tryz.prog 108 true 2 := ⟨by kernel_rfl, by kernel_rfl⟩
noncomputable def FB (p0 : Int) (p1 : List (Int × Int)) : Int → Option (Int ⊕ (Unit ⊕ Bool))
  | x1 => (if x1 < (p1.length : Int) then (ix p1 x1).bind fun x2 => (if (decide (x2.1 < 0) || (decide (p0 ≤ x2.1) || (decide (x2.2 < 0) || decide (p0 ≤ x2.2)))) = true then some (.inr (.inr false)) else some (.inl (An (x1 + 1)))) else some (.inr (.inl ())))
noncomputable def GA (p0 : Int) (p1 : List (Int × Int)) : Option Bool := (if (decide (p0 < 0) || decide (16 < p0)) = true then some false else GN (Ap (FB p0 p1) 0) fun _ => some true)
theorem OK (Y : Nat → Prop) (w0 : World) (v1 : Value) (p0 : Int) (p1 : List (Int × Int)) (r : Bool) (H : GA p0 p1 = some r) (h_v1 : Sl w0 (NX []) HA v1 p1) :
    Calls Tryz.prog 78 #[.int .i64 p0, v1] w0 fun e w' => e = .returned (.bool r) ∧ Below w0.heap.size w0 w' := by
 refine enter Tryz.func78 Aa Tryz.ntmps78 Aa fun a F => ?_
 have W := Stw.start Y w0
 unfold GA at H
 refine vc tk 6 F W fun a w F W => ?_
 refine Aq (fun a w => Fr 40 [] [(0, .int .i64 p0), (1, v1), (4, .bool false), (12, .bool (decide (p0 < 0) || decide (16 < p0)))] a ∧ Stw ⟨Y, [], w0⟩ [] [] w) ?_ ?_
 ·
  refine vc tk 4 F W fun a w F W => ?_
  rcases Bool.eq_false_or_eq_true (decide (p0 < 0)) with hb0 | hb0
  ·
   rw [hb0] at F
   refine vl tk 4 F W fun a w F W => ?_
   refine Ab ?_
   exact ⟨F.re ⟨rfl, Aa, Aa, (H0 (by try rw [hb0]; all_goals simp only [H2])), trivial⟩, W⟩
  rw [hb0] at F
  refine vl tk 4 F W fun a w F W => ?_
  refine Ab ?_
  exact ⟨F.re ⟨rfl, Aa, Aa, (H0 (by try rw [hb0]; all_goals simp only [H2])), trivial⟩, W⟩
 rintro a w ⟨F, W⟩
 refine C2 F Aa H (fun F H => ?_) fun F H => ?_
 ·
  refine vc tk 5 F W fun a w F W => ?_
  refine Ao (AE ?_)
  have H := Ax H
  subst H
  refine A1 (.inl Aa) F W Aa (Am F Aa) ?_
  exact ⟨rfl, W.done⟩
 refine AB (Ab ?_)
 obtain ⟨o1, G1, K1, L1⟩ := Mg H
 refine Aq (fun a w => some (Sum.inl ()) = some o1 ∧ Fr 40 [] [(4, .bool false)] a ∧ Stw ⟨Y, [], w0⟩ [] [] w) ?_ ?_
 ·
  have H := G1
  clear G1 K1
  refine vc tk 3 F W fun a w F W => ?_
  refine ls F W Aa (BS (r := HA) (l := p1) R2 Aa F Aa (Ad h_v1)).q fun a w F W => ?_
  refine BR tk 4 F W fun a w F W => ?_
  refine AL H (fun s a w => Fr 40 [] [(0, .int .i64 p0), (4, .bool false), (13, v1), (14, .int .i64 (p1.length : Int)), (15, .int .i64 s)] a ∧ Stw ⟨Y, [], w0⟩ [] [] w) ⟨F.ra Aa, W⟩ fun s o a w H L2 hR => ?_
  obtain ⟨x1, rfl⟩ : ∃ x, x = s := ⟨s, rfl⟩
  obtain ⟨F, W⟩ := hR
  have F : Fr 40 [] [(0, .int .i64 p0), (4, .bool false), (13, v1), (14, .int .i64 (p1.length : Int)), (15, .int .i64 x1)] a := F
  have W : Stw ⟨Y, [], w0⟩ [] [] w := W
  rw [FB] at H
  refine vc tk 6 F W fun a w F W => ?_
  refine AU F Aa H (fun F H => ?_) fun F H => ?_
  ·
   refine FP tk 6 F W fun a w F W => ?_
   obtain ⟨x2, h1, H⟩ := Ac H
   refine ls F W Aa (Al (r := HA) TY F Aa Aa (Ad h_v1) h1).q fun a w F W => ?_
   refine ls F W Aa (Ag (y := Value.agg #[.int .i64 x2.1, .int .i64 x2.2]) (j := 0) (i := x1) F Aa Aa (Ad h_v1) h1 Ux.to ST Aa).q fun a w F W => ?_
   refine B8 (cs := [.int .i64 0, .int .i64 0]) F W Aa Vn Aa fun b1 a w F W => ?_
   refine Ey 0 F W Aa Aa Aa ST Aa Aa Aa fun w W => ?_
   refine BR tk 2 F W fun a w F W => ?_
   refine Aq (fun a w => Fr 40 [] [(0, .int .i64 p0), (4, .bool false), (13, v1), (14, .int .i64 (p1.length : Int)), (15, .int .i64 x1), (38, .bool (decide (x2.1 < 0) || (decide (p0 ≤ x2.1) || (decide (x2.2 < 0) || decide (p0 ≤ x2.2)))))] a ∧ Stw ⟨Y, [], w0⟩ (Vj b1 x2) [] w) ?_ ?_
   ·
    refine IL tk 5 [0] F W (ai fun a w F W => ?_)
    rcases Bool.eq_false_or_eq_true (decide (x2.1 < 0)) with hb0 | hb0
    ·
     rw [hb0] at F
     refine vl tk 17 F W fun a w F W => ?_
     refine Ab ?_
     exact ⟨F.re ⟨rfl, Aa, Aa, Aa, Aa, (H0 (by try rw [hb0]; all_goals simp only [H2])), trivial⟩, W⟩
    rw [hb0] at F
    refine Ky tk 6 [0] F W (ai fun a w F W => ?_)
    rcases Bool.eq_false_or_eq_true (decide (p0 ≤ x2.1)) with hb1 | hb1
    ·
     rw [hb1] at F
     refine vl tk 11 F W fun a w F W => ?_
     refine Ab ?_
     exact ⟨F.re ⟨rfl, Aa, Aa, Aa, Aa, (H0 (by try rw [hb1]; try rw [hb0]; all_goals simp only [H2])), trivial⟩, W⟩
    rw [hb1] at F
    refine Ky tk 5 [0] F W (ai fun a w F W => ?_)
    rcases Bool.eq_false_or_eq_true (decide (x2.2 < 0)) with hb2 | hb2
    ·
     rw [hb2] at F
     refine vl tk 6 F W fun a w F W => ?_
     refine Ab ?_
     exact ⟨F.re ⟨rfl, Aa, Aa, Aa, Aa, (H0 (by try rw [hb1]; try rw [hb0]; try rw [hb2]; all_goals simp only [H2])), trivial⟩, W⟩
    rw [hb2] at F
    refine Ky tk 6 [0] F W (ai fun a w F W => ?_)
    refine Ab ?_
    exact ⟨F.re ⟨rfl, Aa, Aa, Aa, Aa, (H0 (by try rw [hb1]; try rw [hb0]; try rw [hb2]; all_goals simp only [H2])), trivial⟩, W⟩
   rintro a w ⟨F, W⟩
   refine C2 F Aa H (fun F H => ?_) fun F H => ?_
   ·
    refine vc tk 5 F W fun a w F W => ?_
    refine Ao (AW ?_)
    iterate 2 refine AE ?_
    refine AW (AE ?_)
    have H := L2 _ H
    have H := L1 _ H
    have H := Ax H
    subst H
    refine A1 (.inl Aa) F W Aa (Am F Aa) ?_
    exact ⟨rfl, W.done⟩
   refine AB (Aw ?_)
   refine vn tk 4 F W fun a w F W => ?_
   refine Ab ?_
   have W := W.sub (M' := []) (Z' := []) (List.nil_sublist _) (List.Sublist.refl _)
   exact ⟨_, H, F.ra Aa, W⟩
  refine AA ?_
  iterate 2 refine AQ ?_
  refine AC (Ab ?_)
  have H := L2 _ H
  exact ⟨H, F.ra Aa, W⟩
 rintro a w ⟨hj, F, W⟩
 have H := K1 _ hj
 clear hj G1 K1 L1
 refine vc tk 5 F W fun a w F W => ?_
 refine Ao ?_
 have H := Ax H
 subst H
 refine A1 (.inl Aa) F W Aa (Am F Aa) ?_
 exact ⟨rfl, W.done⟩
theorem XL : type_of% Tryz.underlying137 := Tryz.underlying137
theorem bQ : Has Tryz.prog 78 := Cu Tryz.func78
theorem TA : (Tryz.prog.info? 137).bind (·.zero) = some (.agg #[.int .u32 0, .int .u32 0, .int .u32 0, .int .u32 0, .int .u32 0, .int .u32 0, .int .u32 0, .int .u32 0, .int .u32 0, .int .u32 0, .int .u32 0, .int .u32 0, .int .u32 0, .int .u32 0, .int .u32 0, .int .u32 0]) := by kernel_rfl
theorem M7 : Ar Tryz.prog 137 16 136 1 := ⟨XL, by kernel_rfl⟩
theorem QO : Ty Tryz.prog 136 false 1 := ⟨by kernel_rfl, by kernel_rfl⟩
noncomputable def C6 (p0 : Int) (p1 : Int) : Option Int := (Uv (HG .u32 1 p1) p1).bind fun x1 => some (SY .u32 p0 x1)
theorem HP (Y : Nat → Prop) (w0 : World)  (p0 : Int) (p1 : Int) (r : Int) (H : C6 p0 p1 = some r)  :
    Calls Tryz.prog 98 #[.int .u32 p0, .int .i64 p1] w0 fun e w' => e = .returned (.int .u32 r) ∧ Below w0.heap.size w0 w' := by
 refine enter Tryz.func98 Aa Tryz.ntmps98 Aa fun a F => ?_
 have W := Stw.start Y w0
 unfold C6 at H
 refine vc tk 9 F W fun a w F W => ?_
 obtain ⟨x1, h1, H⟩ := Ac H
 refine ls F W Aa (S0 (JS h1).2 (R7 F Aa Aa (JS h1).1)).q fun a w F W => ?_
 refine BR tk 4 F W fun a w F W => ?_
 refine Ao ?_
 have H := Ax H
 subst H
 refine A1 (.inl Aa) F W Aa (Am F Aa) ?_
 exact ⟨rfl, W.done⟩
theorem Y4 : Has Tryz.prog 98 := Cu Tryz.func98
theorem TH : Ty Tryz.prog 137 true 16 := ⟨by kernel_rfl, by kernel_rfl⟩
abbrev IZ  : List Value := [.int .u32 0, .int .u32 0, .int .u32 0, .int .u32 0, .int .u32 0, .int .u32 0, .int .u32 0, .int .u32 0, .int .u32 0, .int .u32 0, .int .u32 0, .int .u32 0, .int .u32 0, .int .u32 0, .int .u32 0, .int .u32 0]
abbrev VT (a0 : Int × Int) : List Value := [.int .i64 a0.1, .int .i64 a0.2]
noncomputable def CH (p0 : List (Int × Int)) : (Int × Int × Int × Int × Int × Int × Int × Int × Int × Int × Int × Int × Int × Int × Int × Int × Int) → Option ((Int × Int × Int × Int × Int × Int × Int × Int × Int × Int × Int × Int × Int × Int × Int × Int × Int) ⊕ (Int × Int × Int × Int × Int × Int × Int × Int × Int × Int × Int × Int × Int × Int × Int × Int))
  | (x17, x18, x19, x20, x21, x22, x23, x24, x25, x26, x27, x28, x29, x30, x31, x32, x33) => (if x17 < (p0.length : Int) then (ix p0 x17).bind fun x34 => (ix ([x18, x19, x20, x21, x22, x23, x24, x25, x26, x27, x28, x29, x30, x31, x32, x33] : List Int) x34.1).bind fun x35 => (C6 x35 x34.2).bind fun x36 => (ix ([x18, x19, x20, x21, x22, x23, x24, x25, x26, x27, x28, x29, x30, x31, x32, x33] : List Int) x34.1).bind fun x37 => some (.inl (An (x17 + 1), (if x34.1 = 0 then x36 else x18), (if x34.1 = 1 then x36 else x19), (if x34.1 = 2 then x36 else x20), (if x34.1 = 3 then x36 else x21), (if x34.1 = 4 then x36 else x22), (if x34.1 = 5 then x36 else x23), (if x34.1 = 6 then x36 else x24), (if x34.1 = 7 then x36 else x25), (if x34.1 = 8 then x36 else x26), (if x34.1 = 9 then x36 else x27), (if x34.1 = 10 then x36 else x28), (if x34.1 = 11 then x36 else x29), (if x34.1 = 12 then x36 else x30), (if x34.1 = 13 then x36 else x31), (if x34.1 = 14 then x36 else x32), (if x34.1 = 15 then x36 else x33))) else some (.inr (x18, x19, x20, x21, x22, x23, x24, x25, x26, x27, x28, x29, x30, x31, x32, x33)))
noncomputable def D4 (p0 : List (Int × Int)) : Option (Int × Int × Int × Int × Int × Int × Int × Int × Int × Int × Int × Int × Int × Int × Int × Int) := (Ap (CH p0) (0, 0, 0, 0, 0, 0, 0, 0, 0, 0, 0, 0, 0, 0, 0, 0, 0)).bind fun (x1, x2, x3, x4, x5, x6, x7, x8, x9, x10, x11, x12, x13, x14, x15, x16) => some (x1, x2, x3, x4, x5, x6, x7, x8, x9, x10, x11, x12, x13, x14, x15, x16)
theorem LK (Y : Nat → Prop) (w0 : World) (v1 : Value) (p0 : List (Int × Int)) (r : (Int × Int × Int × Int × Int × Int × Int × Int × Int × Int × Int × Int × Int × Int × Int × Int)) (H : D4 p0 = some r) (h_v1 : Sl w0 (NX []) HA v1 p0) :
    Calls Tryz.prog 79 #[v1] w0 fun e w' => e = .returned (.agg #[.int .u32 r.1, .int .u32 r.2.1, .int .u32 r.2.2.1, .int .u32 r.2.2.2.1, .int .u32 r.2.2.2.2.1, .int .u32 r.2.2.2.2.2.1, .int .u32 r.2.2.2.2.2.2.1, .int .u32 r.2.2.2.2.2.2.2.1, .int .u32 r.2.2.2.2.2.2.2.2.1, .int .u32 r.2.2.2.2.2.2.2.2.2.1, .int .u32 r.2.2.2.2.2.2.2.2.2.2.1, .int .u32 r.2.2.2.2.2.2.2.2.2.2.2.1, .int .u32 r.2.2.2.2.2.2.2.2.2.2.2.2.1, .int .u32 r.2.2.2.2.2.2.2.2.2.2.2.2.2.1, .int .u32 r.2.2.2.2.2.2.2.2.2.2.2.2.2.2.1, .int .u32 r.2.2.2.2.2.2.2.2.2.2.2.2.2.2.2]) ∧ Below w0.heap.size w0 w' := by
 refine enter Tryz.func79 Aa Tryz.ntmps79 Aa fun a F => ?_
 have W := Stw.start Y w0
 unfold D4 at H
 refine vc tk 2 F W fun a w F W => ?_
 refine B8 (cs := (IZ)) F W Aa TA Aa fun b1 a w F W => ?_
 refine BR tk 4 F W fun a w F W => ?_
 refine B8 (cs := (IZ)) F W Aa TA Aa fun b2 a w F W => ?_
 refine FG (Ab ?_)
 obtain ⟨o1, G1, K1⟩ := Ac H
 refine Aq (fun a w => ∃ x1 : Int, ∃ x2 : Int, ∃ x3 : Int, ∃ x4 : Int, ∃ x5 : Int, ∃ x6 : Int, ∃ x7 : Int, ∃ x8 : Int, ∃ x9 : Int, ∃ x10 : Int, ∃ x11 : Int, ∃ x12 : Int, ∃ x13 : Int, ∃ x14 : Int, ∃ x15 : Int, ∃ x16 : Int, some ((x1, x2, x3, x4, x5, x6, x7, x8, x9, x10, x11, x12, x13, x14, x15, x16)) = some o1 ∧ Fr 24 [] [(2, .pointer (some ⟨b1, 0, none⟩)), (3, .pointer (some ⟨b2, 0, none⟩))] a ∧ Stw ⟨Y, [], w0⟩ [(b2, [.int .u32 x1, .int .u32 x2, .int .u32 x3, .int .u32 x4, .int .u32 x5, .int .u32 x6, .int .u32 x7, .int .u32 x8, .int .u32 x9, .int .u32 x10, .int .u32 x11, .int .u32 x12, .int .u32 x13, .int .u32 x14, .int .u32 x15, .int .u32 x16]), (b1, (IZ))] [] w) ?_ ?_
 ·
  have H := G1
  clear G1 K1
  refine vc tk 3 F W fun a w F W => ?_
  refine ls F W Aa (BS (r := HA) (l := p0) R2 Aa F Aa (Ad h_v1)).q fun a w F W => ?_
  refine BR tk 4 F W fun a w F W => ?_
  have W := W.frontM (i := 1) Aa Aa
  have W := W.frontM (i := 1) Aa Aa
  refine AL H (fun s a w => Fr 24 [] [(2, .pointer (some ⟨b1, 0, none⟩)), (3, .pointer (some ⟨b2, 0, none⟩)), (6, v1), (7, .int .i64 (p0.length : Int)), (8, .int .i64 s.1)] a ∧ Stw ⟨Y, [], w0⟩ [(b2, [.int .u32 s.2.1, .int .u32 s.2.2.1, .int .u32 s.2.2.2.1, .int .u32 s.2.2.2.2.1, .int .u32 s.2.2.2.2.2.1, .int .u32 s.2.2.2.2.2.2.1, .int .u32 s.2.2.2.2.2.2.2.1, .int .u32 s.2.2.2.2.2.2.2.2.1, .int .u32 s.2.2.2.2.2.2.2.2.2.1, .int .u32 s.2.2.2.2.2.2.2.2.2.2.1, .int .u32 s.2.2.2.2.2.2.2.2.2.2.2.1, .int .u32 s.2.2.2.2.2.2.2.2.2.2.2.2.1, .int .u32 s.2.2.2.2.2.2.2.2.2.2.2.2.2.1, .int .u32 s.2.2.2.2.2.2.2.2.2.2.2.2.2.2.1, .int .u32 s.2.2.2.2.2.2.2.2.2.2.2.2.2.2.2.1, .int .u32 s.2.2.2.2.2.2.2.2.2.2.2.2.2.2.2.2]), (b1, (IZ))] [] w) ⟨F.ra Aa, W⟩ fun s o a w H L2 hR => ?_
  obtain ⟨x17, x18, x19, x20, x21, x22, x23, x24, x25, x26, x27, x28, x29, x30, x31, x32, x33⟩ := s
  obtain ⟨F, W⟩ := hR
  have F : Fr 24 [] [(2, .pointer (some ⟨b1, 0, none⟩)), (3, .pointer (some ⟨b2, 0, none⟩)), (6, v1), (7, .int .i64 (p0.length : Int)), (8, .int .i64 x17)] a := F
  have W : Stw ⟨Y, [], w0⟩ [(b2, [.int .u32 x18, .int .u32 x19, .int .u32 x20, .int .u32 x21, .int .u32 x22, .int .u32 x23, .int .u32 x24, .int .u32 x25, .int .u32 x26, .int .u32 x27, .int .u32 x28, .int .u32 x29, .int .u32 x30, .int .u32 x31, .int .u32 x32, .int .u32 x33]), (b1, (IZ))] [] w := W
  rw [CH] at H
  refine vc tk 6 F W fun a w F W => ?_
  refine AU F Aa H (fun F H => ?_) fun F H => ?_
  ·
   refine FP tk 6 F W fun a w F W => ?_
   obtain ⟨x34, h1, H⟩ := Ac H
   refine ls F W Aa (Al (r := HA) TY F Aa Aa (Ad h_v1) h1).q fun a w F W => ?_
   refine ls F W Aa (Ag (y := Value.agg #[.int .i64 x34.1, .int .i64 x34.2]) (j := 0) (i := x17) F Aa Aa (Ad h_v1) h1 Ux.to ST Aa).q fun a w F W => ?_
   refine B8 (cs := [.int .i64 0, .int .i64 0]) F W Aa Vn Aa fun b3 a w F W => ?_
   refine Ey 0 F W Aa Aa Aa ST Aa Aa Aa fun w W => ?_
   refine BR tk 2 F W fun a w F W => ?_
   refine Jd 10 W MO (by kernel_rfl) ?_
   refine qs F Aa (Az NR Aa Aa Aa T3 F Aa 0 Aa).q fun a F => ?_
   refine qs F Aa (BE (v := Value.int .i64 x34.1) 0 F Aa Aa T3 Aa).q fun a F => ?_
   refine qs F Aa (Az NR Aa Aa Aa T3 F Aa 0 Aa).q fun a F => ?_
   refine qs F Aa (BE (v := Value.int .i64 x34.1) 0 F Aa Aa T3 Aa).q fun a F => ?_
   obtain ⟨x35, h2, H⟩ := Ac H
   refine qs F Aa (E3 (0 + (x34.1).toNat * 1) M7 F Aa Aa Aa h2 Aa).q fun a F => ?_
   refine qs F Aa (BE (v := Value.int .u32 x35) 1 F Aa Aa QO (IE (base := 0) (m := 16) (l := [x18, x19, x20, x21, x22, x23, x24, x25, x26, x27, x28, x29, x30, x31, x32, x33]) (enc := Value.int .u32) Aa h2)).q fun a F => ?_
   refine qs F Aa (Az NR Aa Aa Aa T3 F Aa 1 Aa).q fun a F => ?_
   refine qs F Aa (BE (v := Value.int .i64 x34.2) 0 F Aa Aa T3 Aa).q fun a F => ?_
   obtain ⟨x36, h3, H⟩ := Ac H
   refine qs F Aa (Be (v := Value.int .u32 x36) F Y4 Aa (fun w W => HP any w x35 x34.2 _ h3)) fun a F => ?_
   obtain ⟨x37, h4, H⟩ := Ac H
   refine qs F Aa (E3 (0 + (x34.1).toNat * 1) M7 F Aa Aa Aa h4 Aa).q fun a F => ?_
   refine AD fun w W => ?_
   refine H3 (o := 0) (m := 16) (i := x34.1) (l := ([x18, x19, x20, x21, x22, x23, x24, x25, x26, x27, x28, x29, x30, x31, x32, x33] : List Int)) (x := x37) (cs := [.int .u32 x18, .int .u32 x19, .int .u32 x20, .int .u32 x21, .int .u32 x22, .int .u32 x23, .int .u32 x24, .int .u32 x25, .int .u32 x26, .int .u32 x27, .int .u32 x28, .int .u32 x29, .int .u32 x30, .int .u32 x31, .int .u32 x32, .int .u32 x33]) (cs' := [.int .u32 (if x34.1 = 0 then x36 else x18), .int .u32 (if x34.1 = 1 then x36 else x19), .int .u32 (if x34.1 = 2 then x36 else x20), .int .u32 (if x34.1 = 3 then x36 else x21), .int .u32 (if x34.1 = 4 then x36 else x22), .int .u32 (if x34.1 = 5 then x36 else x23), .int .u32 (if x34.1 = 6 then x36 else x24), .int .u32 (if x34.1 = 7 then x36 else x25), .int .u32 (if x34.1 = 8 then x36 else x26), .int .u32 (if x34.1 = 9 then x36 else x27), .int .u32 (if x34.1 = 10 then x36 else x28), .int .u32 (if x34.1 = 11 then x36 else x29), .int .u32 (if x34.1 = 12 then x36 else x30), .int .u32 (if x34.1 = 13 then x36 else x31), .int .u32 (if x34.1 = 14 then x36 else x32), .int .u32 (if x34.1 = 15 then x36 else x33)]) 1 F W Aa Aa Aa QO Aa Aa Aa Aa h4 (by intro k hk hn; rw [hk]; match k, hn with | 0, _ => rfl | 1, _ => rfl | 2, _ => rfl | 3, _ => rfl | 4, _ => rfl | 5, _ => rfl | 6, _ => rfl | 7, _ => rfl | 8, _ => rfl | 9, _ => rfl | 10, _ => rfl | 11, _ => rfl | 12, _ => rfl | 13, _ => rfl | 14, _ => rfl | 15, _ => rfl | (z + 16), h => exact absurd h (by omega)) fun w W => ?_
   have W : Stw ⟨Y, [], w0⟩ [(b3, (VT x34)), (b2, [.int .u32 (if x34.1 = 0 then x36 else x18), .int .u32 (if x34.1 = 1 then x36 else x19), .int .u32 (if x34.1 = 2 then x36 else x20), .int .u32 (if x34.1 = 3 then x36 else x21), .int .u32 (if x34.1 = 4 then x36 else x22), .int .u32 (if x34.1 = 5 then x36 else x23), .int .u32 (if x34.1 = 6 then x36 else x24), .int .u32 (if x34.1 = 7 then x36 else x25), .int .u32 (if x34.1 = 8 then x36 else x26), .int .u32 (if x34.1 = 9 then x36 else x27), .int .u32 (if x34.1 = 10 then x36 else x28), .int .u32 (if x34.1 = 11 then x36 else x29), .int .u32 (if x34.1 = 12 then x36 else x30), .int .u32 (if x34.1 = 13 then x36 else x31), .int .u32 (if x34.1 = 14 then x36 else x32), .int .u32 (if x34.1 = 15 then x36 else x33)]), (b1, (IZ))] [] w := W
   refine FG (Aw ?_)
   refine vn tk 4 F W fun a w F W => ?_
   refine Ab ?_
   have W := W.frontM (i := 2) Aa Aa
   have W := W.frontM (i := 2) Aa Aa
   have W := W.sub (M' := [(b2, [.int .u32 (if x34.1 = 0 then x36 else x18), .int .u32 (if x34.1 = 1 then x36 else x19), .int .u32 (if x34.1 = 2 then x36 else x20), .int .u32 (if x34.1 = 3 then x36 else x21), .int .u32 (if x34.1 = 4 then x36 else x22), .int .u32 (if x34.1 = 5 then x36 else x23), .int .u32 (if x34.1 = 6 then x36 else x24), .int .u32 (if x34.1 = 7 then x36 else x25), .int .u32 (if x34.1 = 8 then x36 else x26), .int .u32 (if x34.1 = 9 then x36 else x27), .int .u32 (if x34.1 = 10 then x36 else x28), .int .u32 (if x34.1 = 11 then x36 else x29), .int .u32 (if x34.1 = 12 then x36 else x30), .int .u32 (if x34.1 = 13 then x36 else x31), .int .u32 (if x34.1 = 14 then x36 else x32), .int .u32 (if x34.1 = 15 then x36 else x33)]), (b1, (IZ))]) (Z' := []) (List.Sublist.cons_cons _ (List.Sublist.cons_cons _ (List.nil_sublist _))) (List.Sublist.refl _)
   exact ⟨_, H, F.ra Aa, W⟩
  refine AA ?_
  iterate 2 refine AQ ?_
  refine AC (Ab ?_)
  have W := W.frontM (i := 1) Aa Aa
  have W := W.frontM (i := 1) Aa Aa
  have H := L2 _ H
  exact ⟨_, _, _, _, _, _, _, _, _, _, _, _, _, _, _, _, H, F.ra Aa, W⟩
 rintro a w ⟨x1, x2, x3, x4, x5, x6, x7, x8, x9, x10, x11, x12, x13, x14, x15, x16, hj, F, W⟩
 have hj := Ax hj
 subst hj
 have H := K1
 clear G1 K1
 refine IL tk 3 [0] F W (ai fun a w F W => ?_)
 refine Ey 1 F W Aa Aa Aa TH Aa Aa Aa fun w W => ?_
 refine BR tk 2 F W fun a w F W => ?_
 refine Ao ?_
 have H := Ax H
 subst H
 refine A1 (.inl Aa) F W Aa (Iz 1 F Aa Aa TH Aa) ?_
 exact ⟨rfl, W.done⟩
end Go.Proofs.YthhoflfhegfmcaaGreat
