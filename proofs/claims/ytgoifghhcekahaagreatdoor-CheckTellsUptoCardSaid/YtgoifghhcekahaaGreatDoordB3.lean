/- The functions of layer 30, HQ. Conditions: none. -/
import Derived.Test.YtgoifghhcekahaaGreatDoordB2
namespace Go.Proofs.YtgoifghhcekahaaGreatDoor
noncomputable section
open Go Go.RowKit
set_option linter.unusedVariables false
set_option linter.unusedSimpArgs false
set_option maxRecDepth 20000
theorem aX : Has Tryz.prog 56 := BM Tryz.func56
def Cb (p0 : List Int) (x1 : Int) : (List Int × Int × Int) → Option ((List Int × Int × Int) ⊕ (List Int × Int))
  | (x7, x8, x9) => (Ld x7 x1 (p0.length : Int)).bind fun x10 => (if x9 < (x10.length : Int) then ((ix x10 x9).bind fun x13 => (ix x10 (AJ (x9 - 1))).bind fun x14 => (if x13 ≠ x14 then (ix x10 x9).bind fun x15 => (ix x7 x8).bind fun x16 => some ((AZ x7 x8 x15), AJ (x8 + 1)) else some (x7, x8))).bind fun (x11, x12) => some (.inl (x11, x12, AJ (x9 + 1))) else some (.inr (x7, x8)))
def BR (p0 : List Int) : Int → Option (Int ⊕ (Unit ⊕ (List Int)))
  | x1 => (if x1 < (p0.length : Int) then HA ((ix p0 x1).bind fun x2 => (ix p0 (AJ (x1 - 1))).bind fun x3 => (if x2 = x3 then (Ld p0 x1 (p0.length : Int)).bind fun x4 => (AB (Cb p0 x1) (p0, x1, 1)).bind fun (x5, x6) => (Ld x5 x6 (x5.length : Int)).bind fun x17 => (XE x5 x6 (List.replicate (x17.length) (0 : Int))).bind fun x18 => (Ld x18 0 x6).bind fun x19 => some (.inr (.inr (.inr x19))) else some (.inl ()))) fun _ => some (.inl (AJ (x1 + 1))) else some (.inr (.inl ())))
def C1 (p0 : List Int) : Option (List Int) := (if (p0.length : Int) < 2 then some p0 else HA (AB (BR p0) 1) fun _ => some p0)
theorem F7 (Y : Nat → Prop) (X : List Nat) (w0 : World) (v1 : Value) (p0 : List Int) (r : List Int) (H : C1 p0 = some r) (hL : Stw ⟨Y, X, w0⟩ [] [row v1 3 ri p0] w0) :
    ca_ 57 #[v1] w0 fun e w' => ∃ x : Value, e = .returned (x) ∧ Stw ⟨Y, X, w0⟩ [] [row (x) 3 ri r] w' := by
 refine enter Tryz.func57 Aa Tryz.ntmps57 Aa fun a F => ?_
 have W := hL
 unfold C1 at H
 refine vc tk 9 F W fun a w F W => ?_
 refine ls F W Aa (Bz (r := ri) (l := p0) RN Aa F Aa (Ai 0 Aa)).q fun a w F W => ?_
 refine Bo tk 3 F W fun a w F W => ?_
 refine A1 F Aa H (fun F H => ?_) fun F H => ?_
 ·
  refine vc tk 6 F W fun a w F W => ?_
  refine Ah (Aw ?_)
  have H := Ay H
  subst H
  refine Av (.inl Aa) F W Aa (Am F Aa) ?_
  exact ⟨(v1), Aa, W⟩
 refine AD (Ab ?_)
 obtain ⟨o1, G1, K1, L1⟩ := Lh H
 refine Ap (fun a w => some (Sum.inl ()) = some o1 ∧ Fr 61 [] [(0, v1), (2, .slice none 0 0)] a ∧ Stw ⟨Y, X, w0⟩ [] [row v1 3 ri p0] w) ?_ ?_
 ·
  have H := G1
  refine vc tk 6 F W fun a w F W => ?_
  refine AQ H (fun s a w => Fr 61 [] [(0, v1), (2, .slice none 0 0), (3, Jint s)] a ∧ Stw ⟨Y, X, w0⟩ [] [row v1 3 ri p0] w) ⟨F.ra Aa, W⟩ fun s o a w H L2 hR => ?_
  obtain ⟨x1, rfl⟩ : ∃ x, x = s := ⟨s, rfl⟩
  obtain ⟨F, W⟩ := hR
  have F : Fr 61 [] [(0, v1), (2, .slice none 0 0), (3, Jint x1)] a := F
  have W : Stw ⟨Y, X, w0⟩ [] [row v1 3 ri p0] w := W
  rw [BR] at H
  refine vc tk 5 F W fun a w F W => ?_
  refine ls F W Aa (Bz (r := ri) (l := p0) RN Aa F Aa (Ai 0 Aa)).q fun a w F W => ?_
  refine Bo tk 3 F W fun a w F W => ?_
  refine A1 F Aa H (fun F H => ?_) fun F H => ?_
  ·
   refine AD (Ab ?_)
   obtain ⟨o3, G3, K3, L3⟩ := Lh H
   refine Ap (fun a w => some (Sum.inl ()) = some o3 ∧ Fr 61 [] [(0, v1), (2, .slice none 0 0), (3, Jint x1)] a ∧ Stw ⟨Y, X, w0⟩ [] [row v1 3 ri p0] w) ?_ ?_
   ·
    have H := G3
    refine vc tk 2 F W fun a w F W => ?_
    refine B5 W MO (by kernel_rfl) ?_
    iterate 2 refine qs F Aa (Ao F Aa).q fun a F => ?_
    obtain ⟨x2, h1, H⟩ := Af H
    refine qs F Aa (Au (r := ri) DT F Aa Aa (Ai 0 Aa) h1).q fun a F => ?_
    refine qs F Aa (Aj (y := Jint x2) (j := 0) (i := x1) F Aa Aa (Ai 0 Aa) h1 Fl.int.to T3 Aa).q fun a F => ?_
    iterate 2 refine qs F Aa (Ao F Aa).q fun a F => ?_
    refine qs F Aa (Hp F Aa Aa Aa).q fun a F => ?_
    obtain ⟨x3, h2, H⟩ := Af H
    refine qs F Aa (Au (r := ri) DT F Aa Aa (Ai 0 Aa) h2).q fun a F => ?_
    refine qs F Aa (Aj (y := Jint x3) (j := 0) (i := AJ (x1 - 1)) F Aa Aa (Ai 0 Aa) h2 Fl.int.to T3 Aa).q fun a F => ?_
    refine qs F Aa (NK F Aa Aa).q fun a F => ?_
    refine AK fun w W => ?_
    refine Ab ?_
    refine A1 F Aa H (fun F H => ?_) fun F H => ?_
    ·
     refine vc tk 4 F W fun a w F W => ?_
     obtain ⟨x4, h3, H⟩ := Af H
     refine ls F W Aa (Qu (r := ri) DT F Aa Aa Aa (Ai 0 Aa) h3).q fun a w F W => ?_
     refine vl tk 2 F W fun a w F W => ?_
     refine Ab ?_
     obtain ⟨o4, G4, K4⟩ := Af H
     refine Ap (fun a w => ∃ x5 : List Int, ∃ x6 : Int, some ((x5, x6)) = some o4 ∧ Fr 61 [] [(0, v1), (2, .slice none 0 0), (3, Jint x6)] a ∧ Stw ⟨Y, X, w0⟩ [] [row v1 3 ri x5] w) ?_ ?_
     ·
      have H := G4
      refine vc tk 6 F W fun a w F W => ?_
      refine AQ H (fun s a w => Fr 61 [] [(0, v1), (2, .slice none 0 0), (3, Jint s.2.1), (4, (Eh v1 x1 (p0.length : Int) 1)), (5, Jint s.2.2)] a ∧ Stw ⟨Y, X, w0⟩ [] [row v1 3 ri s.1] w) ⟨F.ra Aa, W⟩ fun s o a w H L5 hR => ?_
      obtain ⟨x7, x8, x9⟩ := s
      obtain ⟨F, W⟩ := hR
      have F : Fr 61 [] [(0, v1), (2, .slice none 0 0), (3, Jint x8), (4, (Eh v1 x1 (p0.length : Int) 1)), (5, Jint x9)] a := F
      have W : Stw ⟨Y, X, w0⟩ [] [row v1 3 ri x7] w := W
      rw [Cb] at H
      refine vc tk 5 F W fun a w F W => ?_
      obtain ⟨x10, h4, H⟩ := Af H
      refine ls F W Aa (Bz (r := ri) (l := x10) RN Aa F Aa (Jb (Ai 0 Aa) h4)).q fun a w F W => ?_
      refine Bo tk 3 F W fun a w F W => ?_
      refine A1 F Aa H (fun F H => ?_) fun F H => ?_
      ·
       refine AD (Ab ?_)
       obtain ⟨o6, G6, K6⟩ := Af H
       refine Ap (fun a w => ∃ x11 : List Int, ∃ x12 : Int, some ((x11, x12)) = some o6 ∧ Fr 61 [] [(0, v1), (2, .slice none 0 0), (3, Jint x12), (4, (Eh v1 x1 (p0.length : Int) 1)), (5, Jint x9)] a ∧ Stw ⟨Y, X, w0⟩ [] [row v1 3 ri x11] w) ?_ ?_
       ·
        have H := G6
        refine vc tk 2 F W fun a w F W => ?_
        refine B5 W MO (by kernel_rfl) ?_
        iterate 2 refine qs F Aa (Ao F Aa).q fun a F => ?_
        obtain ⟨x13, h5, H⟩ := Af H
        refine qs F Aa (Au (r := ri) DT F Aa Aa (Jb (Ai 0 Aa) h4) h5).q fun a F => ?_
        refine qs F Aa (Aj (y := Jint x13) (j := 0) (i := x9) F Aa Aa (Jb (Ai 0 Aa) h4) h5 Fl.int.to T3 Aa).q fun a F => ?_
        iterate 2 refine qs F Aa (Ao F Aa).q fun a F => ?_
        refine qs F Aa (Hp F Aa Aa Aa).q fun a F => ?_
        obtain ⟨x14, h6, H⟩ := Af H
        refine qs F Aa (Au (r := ri) DT F Aa Aa (Jb (Ai 0 Aa) h4) h6).q fun a F => ?_
        refine qs F Aa (Aj (y := Jint x14) (j := 0) (i := AJ (x9 - 1)) F Aa Aa (Jb (Ai 0 Aa) h4) h6 Fl.int.to T3 Aa).q fun a F => ?_
        refine qs F Aa (UU F Aa Aa).q fun a F => ?_
        refine AK fun w W => ?_
        refine Ab ?_
        refine A1 F Aa H (fun F H => ?_) fun F H => ?_
        ·
         refine vc tk 6 F W fun a w F W => ?_
         obtain ⟨x15, h7, H⟩ := Af H
         refine ls F W Aa (Au (r := ri) DT F Aa Aa (Jb (Ai 0 Aa) h4) h7).q fun a w F W => ?_
         refine ls F W Aa (Aj (y := Jint x15) (j := 0) (i := x9) F Aa Aa (Jb (Ai 0 Aa) h4) h7 Fl.int.to T3 Aa).q fun a w F W => ?_
         obtain ⟨x16, h8, H⟩ := Af H
         refine ls F W Aa (Au (r := ri) DT F Aa Aa (Ai 0 Aa) h8).q fun a w F W => ?_
         refine Br (i := x8) (j := 0) (vs := [Jint x15]) (x' := x15) F W Aa Aa Aa (k := 0) Aa Aa h8 T3 Aa Aa Aa Aa (fun A cs _ => Fl.int.sto (by rfl) _ _ _) fun w W => ?_
         refine Bo tk 7 F W fun a w F W => ?_
         refine Az (Ab ?_)
         exact ⟨_, _, H, F.ra Aa, W⟩
        refine AD (Az (Ab ?_))
        exact ⟨_, _, H, F.ra Aa, W⟩
       rintro a w ⟨x11, x12, hj, F, W⟩
       have hj := Ay hj
       subst hj
       have H := K6
       refine vc tk 5 F W fun a w F W => ?_
       refine Ab ?_
       exact ⟨_, H, F.ra Aa, W⟩
      refine AN ?_
      iterate 2 refine A6 ?_
      refine AP (Ab ?_)
      have H := L5 _ H
      exact ⟨_, _, H, F.ra Aa, W⟩
     rintro a w ⟨x5, x6, hj, F, W⟩
     have hj := Ay hj
     subst hj
     have H := K4
     refine vc tk 4 F W fun a w F W => ?_
     obtain ⟨x17, h9, H⟩ := Af H
     refine ls F W Aa (Qu (r := ri) DT F Aa Aa Aa (Ai 0 Aa) h9).q fun a w F W => ?_
     obtain ⟨x18, h10, H⟩ := Af H
     refine V1 (r := ri) (v := v1) (k := 0) (0 : Int) F W DT Z3 Aa Aa Aa h9 (fun w A => Fl.int.mk' w A (0 : Int)) h10 fun w W => ?_
     have W : Stw ⟨Y, X, w0⟩ [] [row v1 3 ri x18] w := W
     refine Bo tk 6 F W fun a w F W => ?_
     obtain ⟨x19, h11, H⟩ := Af H
     refine ls F W Aa (Qu (r := ri) DT F Aa Aa Aa (Ai 0 Aa) h11).q fun a w F W => ?_
     refine Bo tk 3 F W fun a w F W => ?_
     refine Ah (AC ?_)
     iterate 2 refine Aw ?_
     refine AC (Aw ?_)
     have H := L3 _ H
     have H := L2 _ H
     have H := L1 _ H
     have H := Ay H
     subst H
     refine Av (.inl Aa) F W Aa (Am F Aa) ?_
     have W := W.subRow (k := 0) Aa Aa h11
     exact ⟨((Eh v1 (0 : Int) x6 1)), Aa, W⟩
    refine AD (Az (Ab ?_))
    exact ⟨H, F.ra Aa, W⟩
   rintro a w ⟨hj, F, W⟩
   have H := K3 _ hj
   refine vc tk 5 F W fun a w F W => ?_
   refine Ab ?_
   exact ⟨_, H, F.ra Aa, W⟩
  refine AN ?_
  iterate 2 refine A6 ?_
  refine AP (Ab ?_)
  have H := L2 _ H
  exact ⟨H, F.ra Aa, W⟩
 rintro a w ⟨hj, F, W⟩
 have H := K1 _ hj
 refine vc tk 6 F W fun a w F W => ?_
 refine Ah ?_
 have H := Ay H
 subst H
 refine Av (.inl Aa) F W Aa (Am F Aa) ?_
 exact ⟨(v1), Aa, W⟩
theorem aY : Has Tryz.prog 57 := BM Tryz.func57
def Ho (p0 : Tr36) (p1 : Int) : Option (List Int) := (Iy p0 p1).bind fun x1 => (Ds x1).bind fun x2 => (C1 x2).bind fun x3 => some x3
theorem Pe (Y : Nat → Prop) (w0 : World) (v1 : Value) (p0 : Tr36) (p1 : Int) (r : List Int) (H : Ho p0 p1 = some r) (h_v1 : Sl w0 (NX []) Bm v1 p0.un.2.2.2) :
    ca_ 28 #[.agg #[Jint p0.un.1, Jint p0.un.2.1, Jint p0.un.2.2.1, v1], Jint p1] w0 fun e w' => ∃ x : Value, e = .returned (x) ∧ sy Y w0 [] [row (x) 3 ri r] w' := by
 refine enter Tryz.func28 Aa Tryz.ntmps28 Aa fun a F => ?_
 have W := Stw.start Y w0
 obtain ⟨v2, h1, h_v1⟩ := h_v1.ex BK
 unfold Ho at H
 refine vc tk 2 F W fun a w F W => ?_
 refine BQ (cs := (Hl p0 v1)) F W Aa Aa Aa fun b1 a w F W => ?_
 refine Es tk 7 [0] F W (ai fun a w F W => ?_)
 obtain ⟨x1, h2, H⟩ := Af H
 refine AO (Ml := []) (Zl := []) (β := Value) (rv := fun x => x) (MM := fun x => []) (ZZ := fun x => [row x 3 ri x1]) F W aO Aa Aa (fun hL => Nd _ w (v1) p0 p1 _ h2 ((Al BK h1 (Ae h_v1)) w W).nx) fun x a w F W => ?_
 obtain ⟨v3, rfl⟩ : ∃ y, y = x := ⟨x, rfl⟩
 have W : sy Y w0 (Gv b1 p0 v1) [row v3 3 ri x1] w := W
 refine Bo tk 6 F W fun a w F W => ?_
 obtain ⟨x2, h3, H⟩ := Af H
 refine AO (Ml := []) (Zl := [row v3 3 ri x1]) (β := Unit) (rv := fun x => .tuple #[]) (MM := fun x => []) (ZZ := fun x => [row v3 3 ri x2]) F W aX Aa Aa (fun hL => GS _ _ w (v3) x1 _ h3 hL) fun x a w F W => ?_
 have W : sy Y w0 (Gv b1 p0 v1) [row v3 3 ri x2] w := W
 refine Bo tk 5 F W fun a w F W => ?_
 obtain ⟨x3, h4, H⟩ := Af H
 refine AO (Ml := []) (Zl := [row v3 3 ri x2]) (β := Value) (rv := fun x => x) (MM := fun x => []) (ZZ := fun x => [row x 3 ri x3]) F W aY Aa Aa (fun hL => F7 _ _ w (v3) x2 _ h4 hL) fun x a w F W => ?_
 obtain ⟨v4, rfl⟩ : ∃ y, y = x := ⟨x, rfl⟩
 have W : sy Y w0 (Gv b1 p0 v1) [row v4 3 ri x3] w := W
 refine Bo tk 3 F W fun a w F W => ?_
 refine Ah ?_
 have H := Ay H
 subst H
 refine Av (.inl Aa) F W Aa (Am F Aa) ?_
 have W := W.sub (M' := []) (Z' := [row v4 3 ri x3]) nl sr
 exact ⟨(v4), Aa, W⟩
theorem bC : Has Tryz.prog 28 := BM Tryz.func28
theorem aS : Has Tryz.prog 66 := BM Tryz.func66
def CW (fRec : Tr39 → Int → Option (List Int)) (p0 : Tr39) (p1 : Int) : (List Int × Int) → Option ((List Int × Int) ⊕ (List Int))
  | (x5, x6) => (if x6 < (p0.un.2.2.2.2.length : Int) then (ix p0.un.2.2.2.2 x6).bind fun x7 => (fRec (Tr39.of (x7.un.1, Tr36.of (x7.un.2.1.un.1, x7.un.2.1.un.2.1, x7.un.2.1.un.2.2.1, x7.un.2.1.un.2.2.2), x7.un.2.2.1, x7.un.2.2.2.1, x7.un.2.2.2.2)) p1).bind fun x8 => (GP x5 x8).bind fun x9 => some (.inl (x9, AJ (x6 + 1))) else some (.inr x5))
def DG (fRec : Tr39 → Int → Option (List Int)) (p0 : Tr39) (p1 : Int) : Option (List Int) := (Ho (Tr36.of (p0.un.2.1.un.1, p0.un.2.1.un.2.1, p0.un.2.1.un.2.2.1, p0.un.2.1.un.2.2.2)) p1).bind fun x1 => (if (decide (p0.un.1 = 2) && decide (p0.un.2.2.1 = p1)) = true then (GP x1 ([p0.un.2.2.2.1] : List Int)).bind fun x3 => some x3 else some x1).bind fun x2 => (AB (CW fRec p0 p1) (x2, 0)).bind fun x4 => some x4
def Dc : Nat → Tr39 → Int → Option (List Int)
  | 0 => fun _ _ => none
  | n + 1 => DG (Dc n)
def Ju (p0 : Tr39) (p1 : Int) : Option (List Int) := FT fun n => Dc n p0 p1
theorem M8 (fRec : Tr39 → Int → Option (List Int)) (ih : ∀ (Y : Nat → Prop) (w0 : World) (v1 : Value) (v2 : Value) (p0 : Tr39) (p1 : Int) (r : List Int) (H : fRec p0 p1 = some r) (h_v1 : Sl w0 (NX []) Bm v1 p0.un.2.1.un.2.2.2) (h_v2 : Sl w0 (NX []) DF v2 p0.un.2.2.2.2), ca_ 66 #[.agg #[Jint p0.un.1, Jint p0.un.2.1.un.1, Jint p0.un.2.1.un.2.1, Jint p0.un.2.1.un.2.2.1, v1, Jint p0.un.2.2.1, Jint p0.un.2.2.2.1, v2], Jint p1] w0 fun e w' => ∃ x : Value, e = .returned (x) ∧ sy Y w0 [] [row (x) 3 ri r] w') (Y : Nat → Prop) (w0 : World) (v1 : Value) (v2 : Value) (p0 : Tr39) (p1 : Int) (r : List Int) (H : DG fRec p0 p1 = some r) (h_v1 : Sl w0 (NX []) Bm v1 p0.un.2.1.un.2.2.2) (h_v2 : Sl w0 (NX []) DF v2 p0.un.2.2.2.2) :
    ca_ 66 #[.agg #[Jint p0.un.1, Jint p0.un.2.1.un.1, Jint p0.un.2.1.un.2.1, Jint p0.un.2.1.un.2.2.1, v1, Jint p0.un.2.2.1, Jint p0.un.2.2.2.1, v2], Jint p1] w0 fun e w' => ∃ x : Value, e = .returned (x) ∧ sy Y w0 [] [row (x) 3 ri r] w' := by
 refine enter Tryz.func66 Aa Tryz.ntmps66 Aa fun a F => ?_
 have W := Stw.start Y w0
 obtain ⟨v3, h1, h_v1⟩ := h_v1.ex BK
 obtain ⟨v4, h2, h_v2⟩ := h_v2.ex Er
 unfold DG at H
 refine vc tk 2 F W fun a w F W => ?_
 refine BQ (cs := (C7 p0 v1 v2)) F W Aa Aa Aa fun b1 a w F W => ?_
 refine Es tk 8 [0] F W (ai fun a w F W => ?_)
 obtain ⟨x1, h3, H⟩ := Af H
 refine AO (Ml := []) (Zl := []) (β := Value) (rv := fun x => x) (MM := fun x => []) (ZZ := fun x => [row x 3 ri x1]) F W bC Aa Aa (fun hL => Pe _ w (v1) (Tr36.of (p0.un.2.1.un.1, p0.un.2.1.un.2.1, p0.un.2.1.un.2.2.1, p0.un.2.1.un.2.2.2)) p1 _ h3 ((Al BK h1 (Ae h_v1)) w W).nx) fun x a w F W => ?_
 obtain ⟨v5, rfl⟩ : ∃ y, y = x := ⟨x, rfl⟩
 have W : sy Y w0 (DV b1 p0 v1 v2) [row v5 3 ri x1] w := W
 refine vl tk 2 F W fun a w F W => ?_
 refine Ab ?_
 obtain ⟨o1, G1, K1⟩ := Af H
 refine Ap (fun a w => ∃ x2 : List Int, ∃ v6 : Value, some (x2) = some o1 ∧ Fr 40 [] [(1, Jint p1), (2, pp b1), (4, .slice none 0 0), (5, v6)] a ∧ sy Y w0 (DV b1 p0 v1 v2) [row v6 3 ri x2] w) ?_ ?_
 ·
  have H := G1
  refine Ap (fun a w => Fr 40 [] [(1, Jint p1), (2, pp b1), (4, .slice none 0 0), (5, v5), (20, .bool (decide (p0.un.1 = 2) && decide (p0.un.2.2.1 = p1)))] a ∧ sy Y w0 (DV b1 p0 v1 v2) [row v5 3 ri x1] w) ?_ ?_
  ·
   refine CT tk 5 [0] F W (ai fun a w F W => ?_)
   rcases bxq (decide (p0.un.1 = 2)) with hb0 | hb0
   ·
    rw [hb0] at F
    refine DU tk 6 [0] F W (ai fun a w F W => ?_)
    refine Ab ?_
    exact ⟨F.re ⟨rfl, Aa, Aa, Aa, (CL (by try rw [hb0]; all_goals simp only [CM])), trivial⟩, W⟩
   rw [hb0] at F
   refine vl tk 6 F W fun a w F W => ?_
   refine Ab ?_
   exact ⟨F.re ⟨rfl, Aa, Aa, Aa, (CL (by try rw [hb0]; all_goals simp only [CM])), trivial⟩, W⟩
  rintro a w ⟨F, W⟩
  refine Bi F Aa H (fun F H => ?_) fun F H => ?_
  ·
   refine CT tk 4 [0] F W (ai fun a w F W => ?_)
   refine GT (z := Jint 0) (cs := [Jint p0.un.2.2.2.1]) ri ([p0.un.2.2.2.1] : List Int) F W Aa DT Z3 Aa Aa Aa Aa Aa Aa (Fl.int.repL _ _ ([p0.un.2.2.2.1] : List Int)) fun v7 a w F W => ?_
   obtain ⟨x3, h4, H⟩ := Af H
   refine DL (r := ri) (i := 1) F W Aa DT Aa Aa Aa Aa (EB W 0 Aa) h4 Aa fun v8 a w F W => ?_
   have W : sy Y w0 (DV b1 p0 v1 v2) [row v8 3 ri x3, row v7 3 ri ([p0.un.2.2.2.1] : List Int)] w := W
   refine vl tk 2 F W fun a w F W => ?_
   refine Ab ?_
   have W := W.sub (M' := (DV b1 p0 v1 v2)) (Z' := [row v8 3 ri x3]) sr (sc nl)
   exact ⟨_, (v8), H, F.ra Aa, W⟩
  refine AD (Ab ?_)
  exact ⟨_, (v5), H, F.ra Aa, W⟩
 rintro a w ⟨x2, v6, hj, F, W⟩
 have hj := Ay hj
 subst hj
 have H := K1
 obtain ⟨o2, G2, K2⟩ := Af H
 refine Ap (fun a w => ∃ x4 : List Int, ∃ v9 : Value, some (x4) = some o2 ∧ Fr 40 [] [(4, .slice none 0 0), (5, v9)] a ∧ sy Y w0 (DV b1 p0 v1 v2) [row v9 3 ri x4] w) ?_ ?_
 ·
  have H := G2
  refine CT tk 4 [0] F W (ai fun a w F W => ?_)
  refine ls F W Aa (Bz (r := DF) (l := p0.un.2.2.2.2) Km Aa F Aa (Al Er h2 (Ae h_v2))).q fun a w F W => ?_
  refine Bo tk 4 F W fun a w F W => ?_
  refine AQ H (fun s a w => ∃ v10 : Value, Fr 40 [] [(1, Jint p1), (4, .slice none 0 0), (5, v10), (27, v2), (28, Jint (p0.un.2.2.2.2.length : Int)), (29, Jint s.2)] a ∧ sy Y w0 (DV b1 p0 v1 v2) [row v10 3 ri s.1] w) ⟨(v6), F.ra Aa, W⟩ fun s o a w H L3 hR => ?_
  obtain ⟨x5, x6⟩ := s
  obtain ⟨v10, F, W⟩ := hR
  have F : Fr 40 [] [(1, Jint p1), (4, .slice none 0 0), (5, v10), (27, v2), (28, Jint (p0.un.2.2.2.2.length : Int)), (29, Jint x6)] a := F
  have W : sy Y w0 (DV b1 p0 v1 v2) [row v10 3 ri x5] w := W
  rw [CW] at H
  refine vc tk 6 F W fun a w F W => ?_
  refine A1 F Aa H (fun F H => ?_) fun F H => ?_
  ·
   refine EX tk 6 F W fun a w F W => ?_
   obtain ⟨x7, h5, H⟩ := Af H
   obtain ⟨v11, h6, h7⟩ := CS h2 h5
   have h8 : Ip v11 = [Jint x7.un.1, Jint x7.un.2.1.un.1, Jint x7.un.2.1.un.2.1, Jint x7.un.2.1.un.2.2.1, (v11.2.1.2.2.2.1), Jint x7.un.2.2.1, Jint x7.un.2.2.2.1, (v11.2.2.2.2.1)] := congrArg (fun q : Tr39 => ([Jint q.un.1, Jint q.un.2.1.un.1, Jint q.un.2.1.un.2.1, Jint q.un.2.1.un.2.2.1, (v11.2.1.2.2.2.1), Jint q.un.2.2.1, Jint q.un.2.2.2.1, (v11.2.2.2.2.1)] : List Value)) h7
   refine ls F W Aa (Au (r := LM) Ta F Aa Aa (Ae h_v2) h6).q fun a w F W => ?_
   refine ls F W Aa (Aj (y := Value.agg #[Jint x7.un.1, Jint x7.un.2.1.un.1, Jint x7.un.2.1.un.2.1, Jint x7.un.2.1.un.2.2.1, (v11.2.1.2.2.2.1), Jint x7.un.2.2.1, Jint x7.un.2.2.2.1, (v11.2.2.2.2.1)]) (j := 0) (i := x6) (enc := Ip) F Aa Aa (Ae h_v2) h6 Pt I7 (by rw [h8]; rfl)).q fun a w F W => ?_
   refine Bw (cs := (Gt)) F W Aa Sv Aa fun b2 a w F W => ?_
   refine CE 0 F W Aa Aa Aa I7 Aa Aa (Ac Aa (Ac Aa (Ac Aa (Ac Aa (Ac ((Bf (Ae h_v2) h6 (Ag.snd (Ag.fst (Ag.snd (Ag.snd (Ag.snd Ag.here))))) (congrArg (fun q : Tr39 => q.un.2.1.un.2.2.2) h7)) _ W).one (Ac Aa (Ac Aa (Ac ((Bf (Ae h_v2) h6 (Ag.snd (Ag.snd (Ag.snd (Ag.snd Ag.here)))) (congrArg (fun q : Tr39 => q.un.2.2.2.2) h7)) _ W).one Bn)))))))) fun w W => ?_
   refine Es tk 6 [0] F W (ai fun a w F W => ?_)
   obtain ⟨x8, h9, H⟩ := Af H
   refine AO (Ml := []) (Zl := []) (β := Value) (rv := fun x => x) (MM := fun x => []) (ZZ := fun x => [row x 3 ri x8]) F W aS Aa Aa (fun hL => ih _ w ((v11.2.1.2.2.2.1)) ((v11.2.2.2.2.1)) (Tr39.of (x7.un.1, Tr36.of (x7.un.2.1.un.1, x7.un.2.1.un.2.1, x7.un.2.1.un.2.2.1, x7.un.2.1.un.2.2.2), x7.un.2.2.1, x7.un.2.2.2.1, x7.un.2.2.2.2)) p1 _ h9 ((Bf (Ae h_v2) h6 (Ag.snd (Ag.fst (Ag.snd (Ag.snd (Ag.snd Ag.here))))) (congrArg (fun q : Tr39 => q.un.2.1.un.2.2.2) h7)) w W).nx ((Bf (Ae h_v2) h6 (Ag.snd (Ag.snd (Ag.snd (Ag.snd Ag.here)))) (congrArg (fun q : Tr39 => q.un.2.2.2.2) h7)) w W).nx) fun x a w F W => ?_
   obtain ⟨v12, rfl⟩ : ∃ y, y = x := ⟨x, rfl⟩
   have W : sy Y w0 [(b2, [Jint x7.un.1, Jint x7.un.2.1.un.1, Jint x7.un.2.1.un.2.1, Jint x7.un.2.1.un.2.2.1, (v11.2.1.2.2.2.1), Jint x7.un.2.2.1, Jint x7.un.2.2.2.1, (v11.2.2.2.2.1)]), (b1, (C7 p0 v1 v2))] [row v12 3 ri x8, row v10 3 ri x5] w := W
   obtain ⟨x9, h10, H⟩ := Af H
   refine DL (r := ri) (i := 1) F W Aa DT Aa Aa Aa Aa (EB W 0 Aa) h10 Aa fun v13 a w F W => ?_
   have W : sy Y w0 [(b2, [Jint x7.un.1, Jint x7.un.2.1.un.1, Jint x7.un.2.1.un.2.1, Jint x7.un.2.1.un.2.2.1, (v11.2.1.2.2.2.1), Jint x7.un.2.2.1, Jint x7.un.2.2.2.1, (v11.2.2.2.2.1)]), (b1, (C7 p0 v1 v2))] [row v13 3 ri x9, row v12 3 ri x8] w := W
   refine vl tk 2 F W fun a w F W => ?_
   refine Az ?_
   refine vn tk 4 F W fun a w F W => ?_
   refine Ab ?_
   have W := W.frontM (i := 1) Aa Aa
   have W := W.sub (M' := (DV b1 p0 v1 v2)) (Z' := [row v13 3 ri x9]) (sc nl) (sc nl)
   exact ⟨_, H, (v13), F.ra Aa, W⟩
  refine AN ?_
  iterate 2 refine A6 ?_
  refine AP (Ab ?_)
  have H := L3 _ H
  exact ⟨_, (v10), H, F.ra Aa, W⟩
 rintro a w ⟨x4, v9, hj, F, W⟩
 have hj := Ay hj
 subst hj
 have H := K2
 refine vc tk 6 F W fun a w F W => ?_
 refine Ah ?_
 have H := Ay H
 subst H
 refine Av (.inl Aa) F W Aa (Am F Aa) ?_
 have W := W.sub (M' := []) (Z' := [row v9 3 ri x4]) nl sr
 exact ⟨(v9), Aa, W⟩
theorem Od : ∀ (n : Nat) (Y : Nat → Prop) (w0 : World) (v1 : Value) (v2 : Value) (p0 : Tr39) (p1 : Int) (r : List Int) (H : Dc n p0 p1 = some r) (h_v1 : Sl w0 (NX []) Bm v1 p0.un.2.1.un.2.2.2) (h_v2 : Sl w0 (NX []) DF v2 p0.un.2.2.2.2), ca_ 66 #[.agg #[Jint p0.un.1, Jint p0.un.2.1.un.1, Jint p0.un.2.1.un.2.1, Jint p0.un.2.1.un.2.2.1, v1, Jint p0.un.2.2.1, Jint p0.un.2.2.2.1, v2], Jint p1] w0 fun e w' => ∃ x : Value, e = .returned (x) ∧ sy Y w0 [] [row (x) 3 ri r] w' := by
  intro n
  induction n with
  | zero => intro Y w0 v1 v2 p0 p1 r H; exact nomatch H
  | succ n ih => intro Y w0 v1 v2 p0 p1 r H h_v1 h_v2; exact M8 (Dc n) ih Y w0 v1 v2 p0 p1 r H h_v1 h_v2
theorem Pl (Y : Nat → Prop) (w0 : World) (v1 : Value) (v2 : Value) (p0 : Tr39) (p1 : Int) (r : List Int) (H : Ju p0 p1 = some r) (h_v1 : Sl w0 (NX []) Bm v1 p0.un.2.1.un.2.2.2) (h_v2 : Sl w0 (NX []) DF v2 p0.un.2.2.2.2) :
    ca_ 66 #[.agg #[Jint p0.un.1, Jint p0.un.2.1.un.1, Jint p0.un.2.1.un.2.1, Jint p0.un.2.1.un.2.2.1, v1, Jint p0.un.2.2.1, Jint p0.un.2.2.2.1, v2], Jint p1] w0 fun e w' => ∃ x : Value, e = .returned (x) ∧ sy Y w0 [] [row (x) 3 ri r] w' := by
  obtain ⟨n, H⟩ := BP H
  exact Od n Y w0 v1 v2 p0 p1 r H h_v1 h_v2
def EJ (p0 : Tr39) (p1 : Int) : Option (List Int) := (Ju (Tr39.of (p0.un.1, Tr36.of (p0.un.2.1.un.1, p0.un.2.1.un.2.1, p0.un.2.1.un.2.2.1, p0.un.2.1.un.2.2.2), p0.un.2.2.1, p0.un.2.2.2.1, p0.un.2.2.2.2)) p1).bind fun x1 => (Ds x1).bind fun x2 => (C1 x2).bind fun x3 => some x3
theorem HC (Y : Nat → Prop) (w0 : World) (v1 : Value) (v2 : Value) (p0 : Tr39) (p1 : Int) (r : List Int) (H : EJ p0 p1 = some r) (h_v1 : Sl w0 (NX []) Bm v1 p0.un.2.1.un.2.2.2) (h_v2 : Sl w0 (NX []) DF v2 p0.un.2.2.2.2) :
    ca_ 32 #[.agg #[Jint p0.un.1, Jint p0.un.2.1.un.1, Jint p0.un.2.1.un.2.1, Jint p0.un.2.1.un.2.2.1, v1, Jint p0.un.2.2.1, Jint p0.un.2.2.2.1, v2], Jint p1] w0 fun e w' => ∃ x : Value, e = .returned (x) ∧ sy Y w0 [] [row (x) 3 ri r] w' := by
 refine enter Tryz.func32 Aa Tryz.ntmps32 Aa fun a F => ?_
 have W := Stw.start Y w0
 obtain ⟨v3, h1, h_v1⟩ := h_v1.ex BK
 obtain ⟨v4, h2, h_v2⟩ := h_v2.ex Er
 unfold EJ at H
 refine vc tk 2 F W fun a w F W => ?_
 refine BQ (cs := (C7 p0 v1 v2)) F W Aa Aa Aa fun b1 a w F W => ?_
 refine Es tk 7 [0] F W (ai fun a w F W => ?_)
 obtain ⟨x1, h3, H⟩ := Af H
 refine AO (Ml := []) (Zl := []) (β := Value) (rv := fun x => x) (MM := fun x => []) (ZZ := fun x => [row x 3 ri x1]) F W aS Aa Aa (fun hL => Pl _ w (v1) (v2) (Tr39.of (p0.un.1, Tr36.of (p0.un.2.1.un.1, p0.un.2.1.un.2.1, p0.un.2.1.un.2.2.1, p0.un.2.1.un.2.2.2), p0.un.2.2.1, p0.un.2.2.2.1, p0.un.2.2.2.2)) p1 _ h3 ((Al BK h1 (Ae h_v1)) w W).nx ((Al Er h2 (Ae h_v2)) w W).nx) fun x a w F W => ?_
 obtain ⟨v5, rfl⟩ : ∃ y, y = x := ⟨x, rfl⟩
 have W : sy Y w0 (DV b1 p0 v1 v2) [row v5 3 ri x1] w := W
 refine Bo tk 6 F W fun a w F W => ?_
 obtain ⟨x2, h4, H⟩ := Af H
 refine AO (Ml := []) (Zl := [row v5 3 ri x1]) (β := Unit) (rv := fun x => .tuple #[]) (MM := fun x => []) (ZZ := fun x => [row v5 3 ri x2]) F W aX Aa Aa (fun hL => GS _ _ w (v5) x1 _ h4 hL) fun x a w F W => ?_
 have W : sy Y w0 (DV b1 p0 v1 v2) [row v5 3 ri x2] w := W
 refine Bo tk 5 F W fun a w F W => ?_
 obtain ⟨x3, h5, H⟩ := Af H
 refine AO (Ml := []) (Zl := [row v5 3 ri x2]) (β := Value) (rv := fun x => x) (MM := fun x => []) (ZZ := fun x => [row x 3 ri x3]) F W aY Aa Aa (fun hL => F7 _ _ w (v5) x2 _ h5 hL) fun x a w F W => ?_
 obtain ⟨v6, rfl⟩ : ∃ y, y = x := ⟨x, rfl⟩
 have W : sy Y w0 (DV b1 p0 v1 v2) [row v6 3 ri x3] w := W
 refine Bo tk 3 F W fun a w F W => ?_
 refine Ah ?_
 have H := Ay H
 subst H
 refine Av (.inl Aa) F W Aa (Am F Aa) ?_
 have W := W.sub (M' := []) (Z' := [row v6 3 ri x3]) nl sr
 exact ⟨(v6), Aa, W⟩
theorem ZI : Has Tryz.prog 32 := BM Tryz.func32
def ES (p0 : Tr39) : (Int × Int) → Option ((Int × Int) ⊕ Int)
  | (x2, x3) => (if x3 ≤ 4 then (EJ (Tr39.of (p0.un.1, Tr36.of (p0.un.2.1.un.1, p0.un.2.1.un.2.1, p0.un.2.1.un.2.2.1, p0.un.2.1.un.2.2.2), p0.un.2.2.1, p0.un.2.2.2.1, p0.un.2.2.2.2)) x3).bind fun x4 => some (.inl (min (AJ (x2 * (AJ ((x4.length : Int) + 1)))) 100000, AJ (x3 + 1))) else some (.inr x2))
def Ev (p0 : Tr39) : Option Int := (AB (ES p0) (1, 0)).bind fun x1 => some x1
theorem Iz (Y : Nat → Prop) (w0 : World) (v1 : Value) (v2 : Value) (p0 : Tr39) (r : Int) (H : Ev p0 = some r) (h_v1 : Sl w0 (NX []) Bm v1 p0.un.2.1.un.2.2.2) (h_v2 : Sl w0 (NX []) DF v2 p0.un.2.2.2.2) :
    ca_ 14 #[.agg #[Jint p0.un.1, Jint p0.un.2.1.un.1, Jint p0.un.2.1.un.2.1, Jint p0.un.2.1.un.2.2.1, v1, Jint p0.un.2.2.1, Jint p0.un.2.2.2.1, v2]] w0 fun e w' => e = .returned (Jint r) ∧ Below w0.heap.size w0 w' := by
 refine enter Tryz.func14 Aa Tryz.ntmps14 Aa fun a F => ?_
 have W := Stw.start Y w0
 obtain ⟨v3, h1, h_v1⟩ := h_v1.ex BK
 obtain ⟨v4, h2, h_v2⟩ := h_v2.ex Er
 unfold Ev at H
 refine vc tk 2 F W fun a w F W => ?_
 refine BQ (cs := (C7 p0 v1 v2)) F W Aa Aa Aa fun b1 a w F W => ?_
 refine Bo tk 8 F W fun a w F W => ?_
 obtain ⟨o1, G1, K1⟩ := Af H
 refine Ap (fun a w => ∃ x1 : Int, some (x1) = some o1 ∧ Fr 18 [] [(2, Jint 0), (3, Jint x1)] a ∧ sy Y w0 (DV b1 p0 v1 v2) [] w) ?_ ?_
 ·
  have H := G1
  refine vc tk 6 F W fun a w F W => ?_
  refine AQ H (fun s a w => Fr 18 [] [(1, pp b1), (2, Jint 0), (3, Jint s.1), (4, Jint s.2)] a ∧ sy Y w0 (DV b1 p0 v1 v2) [] w) ⟨F.ra Aa, W⟩ fun s o a w H L2 hR => ?_
  obtain ⟨x2, x3⟩ := s
  obtain ⟨F, W⟩ := hR
  have F : Fr 18 [] [(1, pp b1), (2, Jint 0), (3, Jint x2), (4, Jint x3)] a := F
  have W : sy Y w0 (DV b1 p0 v1 v2) [] w := W
  rw [ES] at H
  refine vc tk 7 F W fun a w F W => ?_
  refine A1 F Aa H (fun F H => ?_) fun F H => ?_
  ·
   refine Hr tk 8 [0] F W (ai fun a w F W => ?_)
   obtain ⟨x4, h3, H⟩ := Af H
   refine AO (Ml := []) (Zl := []) (β := Value) (rv := fun x => x) (MM := fun x => []) (ZZ := fun x => [row x 3 ri x4]) F W ZI Aa Aa (fun hL => HC _ w (v1) (v2) (Tr39.of (p0.un.1, Tr36.of (p0.un.2.1.un.1, p0.un.2.1.un.2.1, p0.un.2.1.un.2.2.1, p0.un.2.1.un.2.2.2), p0.un.2.2.1, p0.un.2.2.2.1, p0.un.2.2.2.2)) x3 _ h3 ((Al BK h1 (Ae h_v1)) w W).nx ((Al Er h2 (Ae h_v2)) w W).nx) fun x a w F W => ?_
   obtain ⟨v5, rfl⟩ : ∃ y, y = x := ⟨x, rfl⟩
   have W : sy Y w0 (DV b1 p0 v1 v2) [row v5 3 ri x4] w := W
   refine ls F W Aa (Bz (r := ri) (l := x4) RN Aa F Aa (Ai 0 Aa)).q fun a w F W => ?_
   refine vl tk 2 F W fun a w F W => ?_
   refine ls F W Aa (UK F Aa Aa).q fun a w F W => ?_
   refine vl tk 2 F W fun a w F W => ?_
   refine Az ?_
   refine vn tk 5 F W fun a w F W => ?_
   refine Ab ?_
   have W := W.sub (M' := (DV b1 p0 v1 v2)) (Z' := []) sr nl
   exact ⟨_, H, F.ra Aa, W⟩
  refine AN ?_
  iterate 2 refine A6 ?_
  refine AP (Ab ?_)
  have H := L2 _ H
  exact ⟨_, H, F.ra Aa, W⟩
 rintro a w ⟨x1, hj, F, W⟩
 have hj := Ay hj
 subst hj
 have H := K1
 refine vc tk 6 F W fun a w F W => ?_
 refine Ah ?_
 have H := Ay H
 subst H
 refine Av (.inl Aa) F W Aa (Am F Aa) ?_
 exact ⟨rfl, W.done⟩
theorem Ya : type_of% Tryz.underlying78 := Tryz.underlying78
theorem U6 : type_of% Tryz.underlying82 := Tryz.underlying82
theorem Ws : type_of% Tryz.underlying115 := Tryz.underlying115
theorem Tj : type_of% Tryz.underlying118 := Tryz.underlying118
theorem ZU : Has Tryz.prog 14 := BM Tryz.func14
theorem aD : Bt Tryz.prog 25 [Jint 0, .slice none 0 0, .slice none 0 0] [(0, 1), (1, 1), (2, 1)] := ⟨⟨.agg #[Jint 0, .slice none 0 0, .slice none 0 0], by kernel_rfl, rfl⟩, ⟨_, Xi, fun w => by kernel_rfl⟩⟩
abbrev IL (x : Int × Int) : Value := .agg #[Jint x.1, Jint x.2]
abbrev Jg (x : Unit) : Value := .agg #[]
theorem Xa : Et Tryz.prog 22 78 6 48 := Et.of Py (by kernel_rfl) (by kernel_rfl) (by kernel_rfl) (by decide)
def bL (a : Int × Int × Int × Int × Int × Int) : List Value := [Jint a.1, Jint a.2.1, Jint a.2.2.1, Jint a.2.2.2.1, Jint a.2.2.2.2.1, Jint a.2.2.2.2.2]
theorem Xd : Fl IP bL := (Fl.pair Fl.int (Fl.pair Fl.int (Fl.pair Fl.int (Fl.pair Fl.int (Fl.pair Fl.int Fl.int)))))
theorem Wp : Ty Tryz.prog 78 true 6 := ⟨by kernel_rfl, by kernel_rfl⟩
theorem Y7 : (Tryz.prog.info? 78).bind (·.zero) = some (.agg #[Jint 0, Jint 0, Jint 0, Jint 0, Jint 0, Jint 0]) := by kernel_rfl
theorem Xg : Bt Tryz.prog 118 [Jint 0, Jint 0] [(0, 1), (1, 1)] := ⟨⟨.agg #[Jint 0, Jint 0], by kernel_rfl, rfl⟩, ⟨_, Tj, fun w => by kernel_rfl⟩⟩
theorem W7 : (Tryz.prog.info? 118).bind (·.zero) = some (.agg #[Jint 0, Jint 0]) := by kernel_rfl
abbrev GK : Rp (Int × Int) := (Rp.pair ri ri)
def Zo (a : Int × Int) : List Value := [Jint a.1, Jint a.2]
theorem W5 : Fl GK Zo := (Fl.pair Fl.int Fl.int)
theorem Vd : Et Tryz.prog 115 118 2 16 := Et.of Ws (by kernel_rfl) (by kernel_rfl) (by kernel_rfl) (by decide)
theorem Xe : Et Tryz.prog 23 82 2 16 := Et.of QV (by kernel_rfl) (by kernel_rfl) (by kernel_rfl) (by decide)
def cT (a : Int × Int) : List Value := [Jint a.1, Jint a.2]
theorem W1 : Fl Jj cT := (Fl.pair Fl.int Fl.int)
theorem ZE : Ty Tryz.prog 82 true 2 := ⟨by kernel_rfl, by kernel_rfl⟩
theorem bU : (Tryz.prog.info? 82).bind (·.zero) = some (.agg #[Jint 0, Jint 0]) := by kernel_rfl
abbrev UV  : List Value := [Jint 0, Jint 0, Jint 0, Jint 0, Jint 0, Jint 0]
abbrev Ww (a0 : Int × Int × Int × Int × Int × Int) : List Value := [Jint a0.1, Jint a0.2.1, Jint a0.2.2.1, Jint a0.2.2.2.1, Jint a0.2.2.2.2.1, Jint a0.2.2.2.2.2]
abbrev Rq (a0 : Nat) (a1 : Int × Int × Int × Int × Int × Int) (a2 : Nat) (a3 : Int × (List (Int × Int × Int × Int × Int × Int)) × (List (Int × Int))) (a4 : Value) (a5 : Value) : List (Nat × List Value) := [(a0, [Jint a1.1, Jint a1.2.1, Jint a1.2.2.1, Jint a1.2.2.2.1, Jint a1.2.2.2.2.1, Jint a1.2.2.2.2.2]), (a2, [Jint a3.1, a4, a5])]
def EV (p0 : Int × (List (Int × Int × Int × Int × Int × Int)) × (List (Int × Int))) : ((List (Int × Int)) × Int) → Option (((List (Int × Int)) × Int) ⊕ (List (Int × Int)))
  | (x2, x3) => (if x3 < (p0.2.1.length : Int) then (ix p0.2.1 x3).bind fun x4 => (GP x2 ([(x4.1, x4.2.1), (x4.2.2.1, x4.2.2.2.1)] : List (Int × Int))).bind fun x5 => some (.inl (x5, AJ (x3 + 1))) else some (.inr x2))
def EW (p0 : Int × (List (Int × Int × Int × Int × Int × Int)) × (List (Int × Int))) : ((List (Int × Int)) × Int) → Option (((List (Int × Int)) × Int) ⊕ (List (Int × Int)))
  | (x7, x8) => (if x8 < (p0.2.2.length : Int) then (ix p0.2.2 x8).bind fun x9 => (GP x7 ([x9] : List (Int × Int))).bind fun x10 => some (.inl (x10, AJ (x8 + 1))) else some (.inr x7))
def Hj (p0 : Int × (List (Int × Int × Int × Int × Int × Int)) × (List (Int × Int))) : Option (List (Int × Int)) := (AB (EV p0) ([], 0)).bind fun x1 => (AB (EW p0) (x1, 0)).bind fun x6 => some x6
theorem Pj (Y : Nat → Prop) (w0 : World) (v1 : Value) (v2 : Value) (p0 : Int × (List (Int × Int × Int × Int × Int × Int)) × (List (Int × Int))) (r : (List (Int × Int))) (H : Hj p0 = some r) (h_v1 : Sl w0 (NX []) IP v1 p0.2.1) (h_v2 : Sl w0 (NX []) Jj v2 p0.2.2) :
    ca_ 73 #[.agg #[Jint p0.1, v1, v2]] w0 fun e w' => ∃ x : Value, e = .returned (x) ∧ sy Y w0 [] [row (x) 118 GK r] w' := by
 refine enter Tryz.func73 Aa Tryz.ntmps73 Aa fun a F => ?_
 have W := Stw.start Y w0
 unfold Hj at H
 refine vc tk 2 F W fun a w F W => ?_
 refine BQ (cs := [Jint p0.1, v1, v2]) F W Aa Aa Aa fun b1 a w F W => ?_
 refine Bo tk 8 F W fun a w F W => ?_
 obtain ⟨o1, G1, K1⟩ := Af H
 refine Ap (fun a w => ∃ x1 : List (Int × Int), ∃ v3 : Value, some (x1) = some o1 ∧ Fr 46 [] [(1, pp b1), (2, .slice none 0 0), (3, v3)] a ∧ sy Y w0 [(b1, [Jint p0.1, v1, v2])] [row v3 118 GK x1] w) ?_ ?_
 ·
  have H := G1
  refine CT tk 4 [0] F W (ai fun a w F W => ?_)
  refine ls F W Aa (Bz (r := IP) (l := p0.2.1) Py Aa F Aa (Ae h_v1)).q fun a w F W => ?_
  refine Bo tk 4 F W fun a w F W => ?_
  have W := W.nilRow 118 GK
  refine AQ H (fun s a w => ∃ v4 : Value, Fr 46 [] [(1, pp b1), (2, .slice none 0 0), (3, v4), (9, v1), (10, Jint (p0.2.1.length : Int)), (11, Jint s.2)] a ∧ sy Y w0 [(b1, [Jint p0.1, v1, v2])] [row v4 118 GK s.1] w) ⟨(Value.slice none 0 0), F.ra Aa, W⟩ fun s o a w H L2 hR => ?_
  obtain ⟨x2, x3⟩ := s
  obtain ⟨v4, F, W⟩ := hR
  have F : Fr 46 [] [(1, pp b1), (2, .slice none 0 0), (3, v4), (9, v1), (10, Jint (p0.2.1.length : Int)), (11, Jint x3)] a := F
  have W : sy Y w0 [(b1, [Jint p0.1, v1, v2])] [row v4 118 GK x2] w := W
  rw [EV] at H
  refine vc tk 6 F W fun a w F W => ?_
  refine A1 F Aa H (fun F H => ?_) fun F H => ?_
  ·
   refine EX tk 6 F W fun a w F W => ?_
   obtain ⟨x4, h1, H⟩ := Af H
   refine ls F W Aa (Au (r := IP) Xa F Aa Aa (Ae h_v1) h1).q fun a w F W => ?_
   refine ls F W Aa (Aj (y := Value.agg #[Jint x4.1, Jint x4.2.1, Jint x4.2.2.1, Jint x4.2.2.2.1, Jint x4.2.2.2.2.1, Jint x4.2.2.2.2.2]) (j := 0) (i := x3) F Aa Aa (Ae h_v1) h1 Xd.to Wp Aa).q fun a w F W => ?_
   refine Bw (cs := (UV)) F W Aa Y7 Aa fun b2 a w F W => ?_
   refine CE 0 F W Aa Aa Aa Wp Aa Aa Aa fun w W => ?_
   refine Es tk 8 [0, 0] F W (ai (ai fun a w F W => ?_))
   refine ls F W Aa (Cf (v := Value.agg #[Jint x4.1, Jint x4.2.1]) Xg F Aa Aa Aa).q fun a w F W => ?_
   refine DU tk 4 [0, 0] F W (ai (ai fun a w F W => ?_))
   refine ls F W Aa (Cf (v := Value.agg #[Jint x4.2.2.1, Jint x4.2.2.2.1]) Xg F Aa Aa Aa).q fun a w F W => ?_
   refine GT (z := Value.agg #[Jint 0, Jint 0]) (cs := [Jint x4.1, Jint x4.2.1, Jint x4.2.2.1, Jint x4.2.2.2.1]) GK ([(x4.1, x4.2.1), (x4.2.2.1, x4.2.2.2.1)] : List (Int × Int)) F W Aa Vd W7 Aa Aa Aa Aa Aa Aa (W5.repL _ _ ([(x4.1, x4.2.1), (x4.2.2.1, x4.2.2.2.1)] : List (Int × Int))) fun v5 a w F W => ?_
   obtain ⟨x5, h2, H⟩ := Af H
   refine DL (r := GK) (i := 1) F W Aa Vd Aa Aa Aa Aa (EB W 0 Aa) h2 Aa fun v6 a w F W => ?_
   have W : sy Y w0 (Rq b2 x4 b1 p0 v1 v2) [row v6 118 GK x5, row v5 118 GK ([(x4.1, x4.2.1), (x4.2.2.1, x4.2.2.2.1)] : List (Int × Int))] w := W
   refine vl tk 2 F W fun a w F W => ?_
   refine Az ?_
   refine vn tk 4 F W fun a w F W => ?_
   refine Ab ?_
   have W := W.frontM (i := 1) Aa Aa
   have W := W.sub (M' := [(b1, [Jint p0.1, v1, v2])]) (Z' := [row v6 118 GK x5]) (sc nl) (sc nl)
   exact ⟨_, H, (v6), F.ra Aa, W⟩
  refine AN ?_
  iterate 2 refine A6 ?_
  refine AP (Ab ?_)
  have H := L2 _ H
  exact ⟨_, (v4), H, F.ra Aa, W⟩
 rintro a w ⟨x1, v3, hj, F, W⟩
 have hj := Ay hj
 subst hj
 have H := K1
 obtain ⟨o3, G3, K3⟩ := Af H
 refine Ap (fun a w => ∃ x6 : List (Int × Int), ∃ v7 : Value, some (x6) = some o3 ∧ Fr 46 [] [(2, .slice none 0 0), (3, v7)] a ∧ sy Y w0 [(b1, [Jint p0.1, v1, v2])] [row v7 118 GK x6] w) ?_ ?_
 ·
  have H := G3
  refine CT tk 4 [0] F W (ai fun a w F W => ?_)
  refine ls F W Aa (Bz (r := Jj) (l := p0.2.2) QV Aa F Aa (Ae h_v2)).q fun a w F W => ?_
  refine Bo tk 4 F W fun a w F W => ?_
  refine AQ H (fun s a w => ∃ v8 : Value, Fr 46 [] [(2, .slice none 0 0), (3, v8), (30, v2), (31, Jint (p0.2.2.length : Int)), (32, Jint s.2)] a ∧ sy Y w0 [(b1, [Jint p0.1, v1, v2])] [row v8 118 GK s.1] w) ⟨(v3), F.ra Aa, W⟩ fun s o a w H L4 hR => ?_
  obtain ⟨x7, x8⟩ := s
  obtain ⟨v8, F, W⟩ := hR
  have F : Fr 46 [] [(2, .slice none 0 0), (3, v8), (30, v2), (31, Jint (p0.2.2.length : Int)), (32, Jint x8)] a := F
  have W : sy Y w0 [(b1, [Jint p0.1, v1, v2])] [row v8 118 GK x7] w := W
  rw [EW] at H
  refine vc tk 6 F W fun a w F W => ?_
  refine A1 F Aa H (fun F H => ?_) fun F H => ?_
  ·
   refine EX tk 6 F W fun a w F W => ?_
   obtain ⟨x9, h3, H⟩ := Af H
   refine ls F W Aa (Au (r := Jj) Xe F Aa Aa (Ae h_v2) h3).q fun a w F W => ?_
   refine ls F W Aa (Aj (y := Value.agg #[Jint x9.1, Jint x9.2]) (j := 0) (i := x8) F Aa Aa (Ae h_v2) h3 W1.to ZE Aa).q fun a w F W => ?_
   refine Bw (cs := [Jint 0, Jint 0]) F W Aa bU Aa fun b3 a w F W => ?_
   refine CE 0 F W Aa Aa Aa ZE Aa Aa Aa fun w W => ?_
   refine Es tk 8 [0, 0] F W (ai (ai fun a w F W => ?_))
   refine ls F W Aa (Cf (v := Value.agg #[Jint x9.1, Jint x9.2]) Xg F Aa Aa Aa).q fun a w F W => ?_
   refine GT (z := Value.agg #[Jint 0, Jint 0]) (cs := [Jint x9.1, Jint x9.2]) GK ([x9] : List (Int × Int)) F W Aa Vd W7 Aa Aa Aa Aa Aa Aa (W5.repL _ _ ([x9] : List (Int × Int))) fun v9 a w F W => ?_
   obtain ⟨x10, h4, H⟩ := Af H
   refine DL (r := GK) (i := 1) F W Aa Vd Aa Aa Aa Aa (EB W 0 Aa) h4 Aa fun v10 a w F W => ?_
   have W : sy Y w0 [(b3, [Jint x9.1, Jint x9.2]), (b1, [Jint p0.1, v1, v2])] [row v10 118 GK x10, row v9 118 GK ([x9] : List (Int × Int))] w := W
   refine vl tk 2 F W fun a w F W => ?_
   refine Az ?_
   refine vn tk 4 F W fun a w F W => ?_
   refine Ab ?_
   have W := W.frontM (i := 1) Aa Aa
   have W := W.sub (M' := [(b1, [Jint p0.1, v1, v2])]) (Z' := [row v10 118 GK x10]) (sc nl) (sc nl)
   exact ⟨_, H, (v10), F.ra Aa, W⟩
  refine AN ?_
  iterate 2 refine A6 ?_
  refine AP (Ab ?_)
  have H := L4 _ H
  exact ⟨_, (v8), H, F.ra Aa, W⟩
 rintro a w ⟨x6, v7, hj, F, W⟩
 have hj := Ay hj
 subst hj
 have H := K3
 refine vc tk 6 F W fun a w F W => ?_
 refine Ah ?_
 have H := Ay H
 subst H
 refine Av (.inl Aa) F W Aa (Am F Aa) ?_
 have W := W.sub (M' := []) (Z' := [row v7 118 GK x6]) nl sr
 exact ⟨(v7), Aa, W⟩
theorem Yy : type_of% Tryz.underlying119 := Tryz.underlying119
theorem bT : Has Tryz.prog 73 := BM Tryz.func73
theorem X9 : Ty Tryz.prog 118 true 2 := ⟨by kernel_rfl, by kernel_rfl⟩
theorem Yl (dd : Nat) (x0 : Int) (x1 : Int) (y0 : Int) (y1 : Int) (w : World) : (Op.equalIn (dd + 2) 118 (.agg #[Jint x0, Jint x1]) (.agg #[Jint y0, Jint y1])).run Tryz.prog w = .ok (decide (x0 = y0 ∧ x1 = y1)) w :=
  T4 (d := dd + 1) (rs := [decide (x0 = y0), decide (x1 = y1)]) Tj (by kernel_rfl) ⟨rfl, S5 (d := dd + 0) rfl rfl V9 T3 rfl rfl, rfl, S5 (d := dd + 0) rfl rfl V9 T3 rfl rfl, trivial⟩ (by simp) w
theorem Zy (x0 : Int) (x1 : Int) (y0 : Int) (y1 : Int) (w : World) : (Op.equalIn 10000 118 (.agg #[Jint x0, Jint x1]) (.agg #[Jint y0, Jint y1])).run Tryz.prog w = .ok (decide (x0 = y0 ∧ x1 = y1)) w := Yl 9998 x0 x1 y0 y1 w
theorem WN : KeyEnc Tryz.prog 118 IL := ⟨⟨_, Tj, .inl fun _ _ => rfl⟩, fun x y w => (Zy x.1 x.2 y.1 y.2 w).trans (by congr 1; exact decide_eq_decide.2 (by simp only [Prod.ext_iff])), fun b x w => Nq (m := 9999) (cs := List.toArray [Jint x.1, Jint x.2]) Tj ⟨⟨_, RK T3 rfl, LT (m := 9998) V9⟩, ⟨_, RK T3 rfl, LT (m := 9998) V9⟩, trivial⟩ b w, fun x => by simp [Instr.sameBits]⟩
theorem Yt : (Tryz.prog.info? 119).bind (·.zero) = some (.agg #[]) := by kernel_rfl
theorem ZC : Ty Tryz.prog 119 true 0 := ⟨by kernel_rfl, by kernel_rfl⟩
theorem Zf : Bt Tryz.prog 119 [] [] := ⟨⟨.agg #[], by kernel_rfl, rfl⟩, ⟨_, Yy, fun w => by kernel_rfl⟩⟩
abbrev Wt (a0 : Nat) (a1 : Int × Int × Int × Int × Int × Int) : List (Nat × List Value) := [(a0, [Jint a1.1, Jint a1.2.1, Jint a1.2.2.1, Jint a1.2.2.2.1, Jint a1.2.2.2.2.1, Jint a1.2.2.2.2.2])]
def Ct (p0 : Int × Int × Int × Int × Int × Int) : Bool := (decide (p0.1 = p0.2.2.1) || (decide (p0.2.2.2.2.1 < 1) || (decide (p0.2.2.2.2.2 < p0.2.2.2.2.1) || decide (1000 < p0.2.2.2.2.2))))
theorem Mu (Y : Nat → Prop) (w0 : World)  (p0 : Int × Int × Int × Int × Int × Int) (r : Bool) (H : Ct p0 = r)  :
    ca_ 74 #[.agg #[Jint p0.1, Jint p0.2.1, Jint p0.2.2.1, Jint p0.2.2.2.1, Jint p0.2.2.2.2.1, Jint p0.2.2.2.2.2]] w0 fun e w' => e = .returned (.bool r) ∧ Below w0.heap.size w0 w' := by
 refine enter Tryz.func74 Aa Tryz.ntmps74 Aa fun a F => ?_
 have W := Stw.start Y w0
 unfold Ct at H
 refine vc tk 2 F W fun a w F W => ?_
 refine BQ (cs := (Ww p0)) F W Aa Aa Aa fun b1 a w F W => ?_
 refine Bo tk 3 F W fun a w F W => ?_
 refine Ap (fun a w => Fr 25 [] [(2, .bool (decide (p0.1 = p0.2.2.1) || (decide (p0.2.2.2.2.1 < 1) || (decide (p0.2.2.2.2.2 < p0.2.2.2.2.1) || decide (1000 < p0.2.2.2.2.2)))))] a ∧ sy Y w0 (Wt b1 p0) [] w) ?_ ?_
 ·
  refine CT tk 7 [0, 0] F W (ai (ai fun a w F W => ?_))
  rcases bxq (decide (p0.1 = p0.2.2.1)) with hb0 | hb0
  ·
   rw [hb0] at F
   refine vl tk 18 F W fun a w F W => ?_
   refine Ab ?_
   exact ⟨F.re ⟨(CL (by try rw [hb0]; all_goals simp only [CM])), trivial⟩, W⟩
  rw [hb0] at F
  refine DU tk 5 [0] F W (ai fun a w F W => ?_)
  rcases bxq (decide (p0.2.2.2.2.1 < 1)) with hb1 | hb1
  ·
   rw [hb1] at F
   refine vl tk 13 F W fun a w F W => ?_
   refine Ab ?_
   exact ⟨F.re ⟨(CL (by try rw [hb1]; try rw [hb0]; all_goals simp only [CM])), trivial⟩, W⟩
  rw [hb1] at F
  refine DU tk 7 [0, 0] F W (ai (ai fun a w F W => ?_))
  rcases bxq (decide (p0.2.2.2.2.2 < p0.2.2.2.2.1)) with hb2 | hb2
  ·
   rw [hb2] at F
   refine vl tk 6 F W fun a w F W => ?_
   refine Ab ?_
   exact ⟨F.re ⟨(CL (by try rw [hb2]; try rw [hb1]; try rw [hb0]; all_goals simp only [CM])), trivial⟩, W⟩
  rw [hb2] at F
  refine DU tk 6 [0] F W (ai fun a w F W => ?_)
  refine Ab ?_
  exact ⟨F.re ⟨(CL (by try rw [hb2]; try rw [hb1]; try rw [hb0]; all_goals simp only [CM])), trivial⟩, W⟩
 rintro a w ⟨F, W⟩
 refine Ah ?_
 subst H
 refine Av (.inl Aa) F W Aa (Am F Aa) ?_
 exact ⟨rfl, W.done⟩
theorem bJ : Has Tryz.prog 74 := BM Tryz.func74
def A7 (p0 : List (Int × Int × Int × Int × Int × Int)) : Int → Option (Int ⊕ (Unit ⊕ Int))
  | x1 => (if x1 < (p0.length : Int) then (ix p0 x1).bind fun x2 => (if (Ct x2) = true then some (.inr (.inr x1)) else some (.inl (AJ (x1 + 1)))) else some (.inr (.inl ())))
def CH (p0 : List (Int × Int × Int × Int × Int × Int)) : Option Int := HA (AB (A7 p0) 0) fun _ => some (-1)
theorem F3 (Y : Nat → Prop) (w0 : World) (v1 : Value) (p0 : List (Int × Int × Int × Int × Int × Int)) (r : Int) (H : CH p0 = some r) (h_v1 : Sl w0 (NX []) IP v1 p0) :
    ca_ 80 #[v1, .func (.func 74) #[] #[]] w0 fun e w' => e = .returned (Jint r) ∧ Below w0.heap.size w0 w' := by
 refine enter Tryz.func80 Aa Tryz.ntmps80 Aa fun a F => ?_
 have W := Stw.start Y w0
 unfold CH at H
 refine vc tk 5 F W fun a w F W => ?_
 obtain ⟨o1, G1, K1, L1⟩ := Lh H
 refine Ap (fun a w => some (Sum.inl ()) = some o1 ∧ Fr 19 [] [(4, Jint 0)] a ∧ sy Y w0 [] [] w) ?_ ?_
 ·
  have H := G1
  refine vc tk 3 F W fun a w F W => ?_
  refine ls F W Aa (Bz (r := IP) (l := p0) Py Aa F Aa (Ae h_v1)).q fun a w F W => ?_
  refine Bo tk 4 F W fun a w F W => ?_
  refine AQ H (fun s a w => Fr 19 [] [(0, v1), (1, .func (.func 74) #[] #[]), (4, Jint 0), (7, Jint (p0.length : Int)), (8, Jint s)] a ∧ sy Y w0 [] [] w) ⟨F.ra Aa, W⟩ fun s o a w H L2 hR => ?_
  obtain ⟨x1, rfl⟩ : ∃ x, x = s := ⟨s, rfl⟩
  obtain ⟨F, W⟩ := hR
  have F : Fr 19 [] [(0, v1), (1, .func (.func 74) #[] #[]), (4, Jint 0), (7, Jint (p0.length : Int)), (8, Jint x1)] a := F
  have W : sy Y w0 [] [] w := W
  rw [A7] at H
  refine vc tk 6 F W fun a w F W => ?_
  refine A1 F Aa H (fun F H => ?_) fun F H => ?_
  ·
   refine EX tk 15 F W fun a w F W => ?_
   obtain ⟨x2, h1, H⟩ := Af H
   refine ls F W Aa (Au (r := IP) Xa F Aa Aa (Ae h_v1) h1).q fun a w F W => ?_
   refine ls F W Aa (Aj (y := Value.agg #[Jint x2.1, Jint x2.2.1, Jint x2.2.2.1, Jint x2.2.2.2.1, Jint x2.2.2.2.2.1, Jint x2.2.2.2.2.2]) (j := 0) (i := x1) F Aa Aa (Ae h_v1) h1 Xd.to Wp Aa).q fun a w F W => ?_
   refine ls F W Aa (Ib (ws := [.agg #[Jint x2.1, Jint x2.2.1, Jint x2.2.2.1, Jint x2.2.2.2.1, Jint x2.2.2.2.2.1, Jint x2.2.2.2.2.2]]) (v := Value.bool (Ct x2)) F bJ Aa (fun w W => Mu any w x2 _ Aa)) fun a w F W => ?_
   refine Bo tk 2 F W fun a w F W => ?_
   refine Bi F Aa H (fun F H => ?_) fun F H => ?_
   ·
    refine vc tk 6 F W fun a w F W => ?_
    refine Ah (AC ?_)
    iterate 2 refine Aw ?_
    refine AC (Aw ?_)
    have H := L2 _ H
    have H := L1 _ H
    have H := Ay H
    subst H
    refine Av (.inl Aa) F W Aa (Am F Aa) ?_
    exact ⟨rfl, W.done⟩
   refine AD (Az ?_)
   refine vn tk 4 F W fun a w F W => ?_
   refine Ab ?_
   exact ⟨_, H, F.ra Aa, W⟩
  refine AN ?_
  iterate 2 refine A6 ?_
  refine AP (Ab ?_)
  have H := L2 _ H
  exact ⟨H, F.ra Aa, W⟩
 rintro a w ⟨hj, F, W⟩
 have H := K1 _ hj
 refine vc tk 5 F W fun a w F W => ?_
 refine Ah ?_
 have H := Ay H
 subst H
 refine Av (.inl Aa) F W Aa (Am F Aa) ?_
 exact ⟨rfl, W.done⟩
theorem aE : Has Tryz.prog 80 := BM Tryz.func80
def BO (p0 : List (Int × Int × Int × Int × Int × Int)) : Option Bool := (CH p0).bind fun x1 => some (decide (0 ≤ x1))
theorem FK (Y : Nat → Prop) (w0 : World) (v1 : Value) (p0 : List (Int × Int × Int × Int × Int × Int)) (r : Bool) (H : BO p0 = some r) (h_v1 : Sl w0 (NX []) IP v1 p0) :
    ca_ 39 #[v1, .func (.func 74) #[] #[]] w0 fun e w' => e = .returned (.bool r) ∧ Below w0.heap.size w0 w' := by
 refine enter Tryz.func39 Aa Tryz.ntmps39 Aa fun a F => ?_
 have W := Stw.start Y w0
 unfold BO at H
 refine vc tk 9 F W fun a w F W => ?_
 obtain ⟨x1, h1, H⟩ := Af H
 refine ls F W Aa (AA (v := Jint x1) F aE Aa (fun w W => F3 any w (v1) p0 _ h1 (Cl (Ae h_v1) W))) fun a w F W => ?_
 refine Bo tk 4 F W fun a w F W => ?_
 refine Ah ?_
 have H := Ay H
 subst H
 refine Av (.inl Aa) F W Aa (Am F Aa) ?_
 exact ⟨rfl, W.done⟩
theorem Wr : type_of% Tryz.underlying114 := Tryz.underlying114
theorem aZ : Has Tryz.prog 39 := BM Tryz.func39
def DC (p0 : Int × (List (Int × Int × Int × Int × Int × Int)) × (List (Int × Int))) (x2 : (List (Int × Int))) : (Int × (List ((Int × Int) × Unit))) → Option ((Int × (List ((Int × Int) × Unit))) ⊕ ((List ((Int × Int) × Unit)) ⊕ Bool))
  | (x3, x4) => (if x3 < (x2.length : Int) then (ix x2 x3).bind fun x5 => (if (decide (x5.1 < 0) || (decide (p0.1 ≤ x5.1) || (decide (x5.2 < 0) || decide (8 ≤ x5.2)))) = true then some (.inr (.inr false)) else (if ((Nb x4 x5).isSome) = true then some (.inr (.inr false)) else some (.inl (AJ (x3 + 1), MW x4 x5 ())))) else some (.inr (.inl x4)))
def H4 (p0 : Int × (List (Int × Int × Int × Int × Int × Int)) × (List (Int × Int))) : Option Bool := (if (decide (p0.1 < 1) || (decide (8 < p0.1) || (decide (24 < (p0.2.1.length : Int)) || decide (8 < (p0.2.2.length : Int))))) = true then some false else HA ((Hj p0).bind fun x2 => AB (DC p0 x2) (0, ([] : List ((Int × Int) × Unit)))) fun x1 => (BO p0.2.1).bind fun x6 => some (!x6))
theorem Qs (Y : Nat → Prop) (w0 : World) (v1 : Value) (v2 : Value) (p0 : Int × (List (Int × Int × Int × Int × Int × Int)) × (List (Int × Int))) (r : Bool) (H : H4 p0 = some r) (h_v1 : Sl w0 (NX []) IP v1 p0.2.1) (h_v2 : Sl w0 (NX []) Jj v2 p0.2.2) :
    ca_ 35 #[.agg #[Jint p0.1, v1, v2]] w0 fun e w' => e = .returned (.bool r) ∧ Below w0.heap.size w0 w' := by
 refine enter Tryz.func35 Aa Tryz.ntmps35 Aa fun a F => ?_
 have W := Stw.start Y w0
 unfold H4 at H
 refine vc tk 2 F W fun a w F W => ?_
 refine BQ (cs := [Jint p0.1, v1, v2]) F W Aa Aa Aa fun b1 a w F W => ?_
 refine Bo tk 4 F W fun a w F W => ?_
 refine Ap (fun a w => Fr 71 [] [(1, pp b1), (2, .bool false), (27, .bool (decide (p0.1 < 1) || (decide (8 < p0.1) || (decide (24 < (p0.2.1.length : Int)) || decide (8 < (p0.2.2.length : Int))))))] a ∧ sy Y w0 [(b1, [Jint p0.1, v1, v2])] [] w) ?_ ?_
 ·
  refine CT tk 5 [0] F W (ai fun a w F W => ?_)
  rcases bxq (decide (p0.1 < 1)) with hb0 | hb0
  ·
   rw [hb0] at F
   refine vl tk 17 F W fun a w F W => ?_
   refine Ab ?_
   exact ⟨F.re ⟨rfl, Aa, (CL (by try rw [hb0]; all_goals simp only [CM])), trivial⟩, W⟩
  rw [hb0] at F
  refine DU tk 5 [0] F W (ai fun a w F W => ?_)
  rcases bxq (decide (8 < p0.1)) with hb1 | hb1
  ·
   rw [hb1] at F
   refine vl tk 12 F W fun a w F W => ?_
   refine Ab ?_
   exact ⟨F.re ⟨rfl, Aa, (CL (by try rw [hb0]; try rw [hb1]; all_goals simp only [CM])), trivial⟩, W⟩
  rw [hb1] at F
  refine DU tk 2 [0] F W (ai fun a w F W => ?_)
  refine Dy F W (Ad F Aa Aa Aa Aa) Aa (As Aa) (Bz (r := IP) (l := p0.2.1) Py Aa F Aa (Ae h_v1)).q fun a w F W => ?_
  refine vl tk 3 F W fun a w F W => ?_
  rcases bxq (decide (24 < (p0.2.1.length : Int))) with hb2 | hb2
  ·
   rw [hb2] at F
   refine vl tk 6 F W fun a w F W => ?_
   refine Ab ?_
   exact ⟨F.re ⟨rfl, Aa, (CL (by try rw [hb2]; try rw [hb0]; try rw [hb1]; all_goals simp only [CM])), trivial⟩, W⟩
  rw [hb2] at F
  refine DU tk 2 [0] F W (ai fun a w F W => ?_)
  refine Dy F W (Ad F Aa Aa Aa Aa) Aa (As Aa) (Bz (r := Jj) (l := p0.2.2) QV Aa F Aa (Ae h_v2)).q fun a w F W => ?_
  refine vl tk 3 F W fun a w F W => ?_
  refine Ab ?_
  exact ⟨F.re ⟨rfl, Aa, (CL (by try rw [hb2]; try rw [hb0]; try rw [hb1]; all_goals simp only [CM])), trivial⟩, W⟩
 rintro a w ⟨F, W⟩
 refine Bi F Aa H (fun F H => ?_) fun F H => ?_
 ·
  refine vc tk 5 F W fun a w F W => ?_
  refine Ah (Aw ?_)
  have H := Ay H
  subst H
  refine Av (.inl Aa) F W Aa (Am F Aa) ?_
  exact ⟨rfl, W.done⟩
 refine EX tk 4 F W fun a w F W => ?_
 refine T6 IL Jg F W Aa fun b2 a w F W => ?_
 have W : sy Y w0 [(b1, [Jint p0.1, v1, v2])] [mp b2 IL Jg ([] : List ((Int × Int) × Unit))] w := W
 refine vl tk 2 F W fun a w F W => ?_
 refine Ab ?_
 obtain ⟨o1, G1, K1, L1⟩ := Lh H
 refine Ap (fun a w => ∃ x1 : List ((Int × Int) × Unit), some (Sum.inl x1) = some o1 ∧ Fr 71 [] [(1, pp b1), (2, .bool false)] a ∧ sy Y w0 [(b1, [Jint p0.1, v1, v2])] [mp b2 IL Jg x1] w) ?_ ?_
 ·
  have H := G1
  refine CT tk 3 [0] F W (ai fun a w F W => ?_)
  obtain ⟨x2, h1, H⟩ := Af H
  refine AO (Ml := []) (Zl := []) (β := Value) (rv := fun x => x) (MM := fun x => []) (ZZ := fun x => [row x 118 GK x2]) F W bT Aa Aa (fun hL => Pj _ w (v1) (v2) p0 _ h1 ((Ae h_v1) w W).nx ((Ae h_v2) w W).nx) fun x a w F W => ?_
  obtain ⟨v3, rfl⟩ : ∃ y, y = x := ⟨x, rfl⟩
  have W : sy Y w0 [(b1, [Jint p0.1, v1, v2])] [row v3 118 GK x2, mp b2 IL Jg ([] : List ((Int × Int) × Unit))] w := W
  refine ls F W Aa (Bz (r := GK) (l := x2) Ws Aa F Aa (Ai 0 Aa)).q fun a w F W => ?_
  refine Bo tk 4 F W fun a w F W => ?_
  have W := W.frontZ (i := 1) Aa Aa
  have W := W.frontZ (i := 1) Aa Aa
  refine AQ H (fun s a w => Fr 71 [] [(1, pp b1), (2, .bool false), (3, .map (some b2)), (30, v3), (31, Jint (x2.length : Int)), (32, Jint s.1)] a ∧ sy Y w0 [(b1, [Jint p0.1, v1, v2])] [row v3 118 GK x2, mp b2 IL Jg s.2] w) ⟨F.ra Aa, W⟩ fun s o a w H L2 hR => ?_
  obtain ⟨x3, x4⟩ := s
  obtain ⟨F, W⟩ := hR
  have F : Fr 71 [] [(1, pp b1), (2, .bool false), (3, .map (some b2)), (30, v3), (31, Jint (x2.length : Int)), (32, Jint x3)] a := F
  have W : sy Y w0 [(b1, [Jint p0.1, v1, v2])] [row v3 118 GK x2, mp b2 IL Jg x4] w := W
  rw [DC] at H
  refine vc tk 6 F W fun a w F W => ?_
  refine A1 F Aa H (fun F H => ?_) fun F H => ?_
  ·
   refine EX tk 6 F W fun a w F W => ?_
   obtain ⟨x5, h2, H⟩ := Af H
   refine ls F W Aa (Au (r := GK) Vd F Aa Aa (Ai 0 Aa) h2).q fun a w F W => ?_
   refine ls F W Aa (Aj (y := Value.agg #[Jint x5.1, Jint x5.2]) (j := 0) (i := x3) F Aa Aa (Ai 0 Aa) h2 W5.to X9 Aa).q fun a w F W => ?_
   refine Bw (cs := [Jint 0, Jint 0]) F W Aa W7 Aa fun b3 a w F W => ?_
   refine CE 0 F W Aa Aa Aa X9 Aa Aa Aa fun w W => ?_
   refine Bo tk 3 F W fun a w F W => ?_
   refine Ap (fun a w => Fr 71 [] [(1, pp b1), (2, .bool false), (3, .map (some b2)), (5, pp b3), (30, v3), (31, Jint (x2.length : Int)), (32, Jint x3), (55, .bool (decide (x5.1 < 0) || (decide (p0.1 ≤ x5.1) || (decide (x5.2 < 0) || decide (8 ≤ x5.2)))))] a ∧ sy Y w0 [(b3, [Jint x5.1, Jint x5.2]), (b1, [Jint p0.1, v1, v2])] [row v3 118 GK x2, mp b2 IL Jg x4] w) ?_ ?_
   ·
    refine CT tk 5 [0] F W (ai fun a w F W => ?_)
    rcases bxq (decide (x5.1 < 0)) with hb0 | hb0
    ·
     rw [hb0] at F
     refine vl tk 17 F W fun a w F W => ?_
     refine Ab ?_
     exact ⟨F.re ⟨rfl, Aa, Aa, Aa, Aa, Aa, Aa, (CL (by try rw [hb0]; all_goals simp only [CM])), trivial⟩, W⟩
    rw [hb0] at F
    refine DU tk 7 [0, 1] F W (ai (ai fun a w F W => ?_))
    rcases bxq (decide (p0.1 ≤ x5.1)) with hb1 | hb1
    ·
     rw [hb1] at F
     refine vl tk 10 F W fun a w F W => ?_
     refine Ab ?_
     exact ⟨F.re ⟨rfl, Aa, Aa, Aa, Aa, Aa, Aa, (CL (by try rw [hb1]; try rw [hb0]; all_goals simp only [CM])), trivial⟩, W⟩
    rw [hb1] at F
    refine DU tk 5 [0] F W (ai fun a w F W => ?_)
    rcases bxq (decide (x5.2 < 0)) with hb2 | hb2
    ·
     rw [hb2] at F
     refine vl tk 5 F W fun a w F W => ?_
     refine Ab ?_
     exact ⟨F.re ⟨rfl, Aa, Aa, Aa, Aa, Aa, Aa, (CL (by try rw [hb1]; try rw [hb0]; try rw [hb2]; all_goals simp only [CM])), trivial⟩, W⟩
    rw [hb2] at F
    refine DU tk 5 [0] F W (ai fun a w F W => ?_)
    refine Ab ?_
    exact ⟨F.re ⟨rfl, Aa, Aa, Aa, Aa, Aa, Aa, (CL (by try rw [hb1]; try rw [hb0]; try rw [hb2]; all_goals simp only [CM])), trivial⟩, W⟩
   rintro a w ⟨F, W⟩
   refine Bi F Aa H (fun F H => ?_) fun F H => ?_
   ·
    refine vc tk 5 F W fun a w F W => ?_
    refine Ah (Aw (AC ?_))
    iterate 2 refine Aw ?_
    refine AC (Aw ?_)
    have H := L2 _ H
    have H := L1 _ H
    have H := Ay H
    subst H
    refine Av (.inl Aa) F W Aa (Am F Aa) ?_
    exact ⟨rfl, W.done⟩
   refine Hr tk 7 [0] F W (ai fun a w F W => ?_)
   refine ls F W Aa (Ua (zv := (() : Unit)) (kx := (x5 : Int × Int)) (q := 1) (E := IL) (V := Jg) F Aa Aa Aa WN Wr Yt).q fun a w F W => ?_
   refine ls F W Aa (Ao F Aa).q fun a w F W => ?_
   refine ls F W Aa (Eb (v := Value.agg #[]) F Aa Aa).q fun a w F W => ?_
   refine ls F W Aa (Eb (v := Value.bool ((Nb x4 x5).isSome)) F Aa Aa).q fun a w F W => ?_
   refine Bw (cs := []) F W Aa Yt Aa fun b4 a w F W => ?_
   refine CE 0 F W Aa Aa Aa ZC Aa Aa Aa fun w W => ?_
   refine Bo tk 8 F W fun a w F W => ?_
   refine BS F Aa (fun hb => ?_) fun hb => ?_
   ·
    have H := BB hb H
    rw [hb] at F
    refine vc tk 5 F W fun a w F W => ?_
    refine Ah (Aw (AC ?_))
    iterate 2 refine Aw ?_
    refine AC (Aw ?_)
    have H := L2 _ H
    have H := L1 _ H
    have H := Ay H
    subst H
    refine Av (.inl Aa) F W Aa (Am F Aa) ?_
    exact ⟨rfl, W.done⟩
   have H := BC (by rw [hb]; decide) H
   rw [hb] at F
   refine Hr tk 5 [1] F W (ai fun a w F W => ?_)
   refine ls F W Aa (Cf (v := Value.agg #[]) Zf F Aa Aa Aa).q fun a w F W => ?_
   refine Vy (q := 1) (kx := (x5 : Int × Int)) (vx := (() : Unit)) (E := IL) (V := Jg) F W Aa Aa Aa Aa Aa WN Wr fun w W => ?_
   have W : sy Y w0 [(b4, []), (b3, [Jint x5.1, Jint x5.2]), (b1, [Jint p0.1, v1, v2])] [mp b2 IL Jg (MW x4 x5 ()), row v3 118 GK x2] w := W
   refine F6 (Az ?_)
   refine vn tk 4 F W fun a w F W => ?_
   refine Ab ?_
   have W := W.frontZ (i := 1) Aa Aa
   have W := W.frontM (i := 2) Aa Aa
   have W := W.sub (M' := [(b1, [Jint p0.1, v1, v2])]) (Z' := [row v3 118 GK x2, mp b2 IL Jg (MW x4 x5 ())]) (sc nl) sr
   exact ⟨_, H, F.ra Aa, W⟩
  refine AN ?_
  iterate 2 refine A6 ?_
  refine AP (Ab ?_)
  have W := W.frontZ (i := 1) Aa Aa
  have W := W.sub (M' := [(b1, [Jint p0.1, v1, v2])]) (Z' := [mp b2 IL Jg x4]) sr (sc nl)
  have H := L2 _ H
  exact ⟨_, H, F.ra Aa, W⟩
 rintro a w ⟨x1, hj, F, W⟩
 have H := K1 _ hj
 refine CT tk 4 [0] F W (ai fun a w F W => ?_)
 obtain ⟨x6, h3, H⟩ := Af H
 refine ls F W Aa (AA (v := Value.bool x6) F aZ Aa (fun w W => FK any w (v1) p0.2.1 _ h3 (Cl (Ae h_v1) W))) fun a w F W => ?_
 refine Bo tk 4 F W fun a w F W => ?_
 refine Ah ?_
 have H := Ay H
 subst H
 refine Av (.inl Aa) F W Aa (Am F Aa) ?_
 exact ⟨rfl, W.done⟩
theorem Tl : type_of% Tryz.underlying107 := Tryz.underlying107
theorem cO : Has Tryz.prog 35 := BM Tryz.func35
theorem ZW : Bt Tryz.prog 107 [Jint 0] [(0, 1)] := ⟨⟨.agg #[Jint 0], by kernel_rfl, rfl⟩, ⟨_, Tl, fun w => by kernel_rfl⟩⟩
theorem Zp : (Tryz.prog.info? 107).bind (·.zero) = some (.agg #[Jint 0]) := by kernel_rfl
theorem Zk : Ty Tryz.prog 107 true 1 := ⟨by kernel_rfl, by kernel_rfl⟩
theorem XO : Has Tryz.prog 148 := BM Tryz.func148
def AE (fRec_pred_Same : Tr36 → Tr36 → Option Bool) (p0 : List Tr36) (p1 : List Tr36) : Int → Option (Int ⊕ (Unit ⊕ Bool))
  | x1 => (if x1 < (p0.length : Int) then (ix p0 x1).bind fun x2 => (ix p1 x1).bind fun x3 => (fRec_pred_Same x2 x3).bind fun x4 => (if (!x4) = true then some (.inr (.inr false)) else some (.inl (AJ (x1 + 1)))) else some (.inr (.inl ())))
def AH (fRec_pred_Same : Tr36 → Tr36 → Option Bool) (p0 : List Tr36) (p1 : List Tr36) : Option Bool := (if (p0.length : Int) ≠ (p1.length : Int) then some false else HA (AB (AE fRec_pred_Same p0 p1) 0) fun _ => some true)
theorem Dz (fRec_pred_Same : Tr36 → Tr36 → Option Bool) (ih_pred_Same : ∀ (Y : Nat → Prop) (w0 : World) (v1 : Value) (v2 : Value) (p0 : Tr36) (p1 : Tr36) (r : Bool) (H : fRec_pred_Same p0 p1 = some r) (h_v1 : Sl w0 (NX []) Bm v1 p0.un.2.2.2) (h_v2 : Sl w0 (NX []) Bm v2 p1.un.2.2.2), ca_ 148 #[.agg #[Jint p0.un.1, Jint p0.un.2.1, Jint p0.un.2.2.1, v1], .agg #[Jint p1.un.1, Jint p1.un.2.1, Jint p1.un.2.2.1, v2]] w0 fun e w' => e = .returned (.bool r) ∧ Below w0.heap.size w0 w') (Y : Nat → Prop) (w0 : World) (v1 : Value) (v2 : Value) (p0 : List Tr36) (p1 : List Tr36) (r : Bool) (H : AH fRec_pred_Same p0 p1 = some r) (h_v1 : Sl w0 (NX []) Bm v1 p0) (h_v2 : Sl w0 (NX []) Bm v2 p1) :
    ca_ 158 #[v1, v2, .func (.func 148) #[] #[]] w0 fun e w' => e = .returned (.bool r) ∧ Below w0.heap.size w0 w' := by
 refine enter Tryz.func158 Aa Tryz.ntmps158 Aa fun a F => ?_
 have W := Stw.start Y w0
 obtain ⟨v3, h1, h_v1⟩ := h_v1.ex BK
 obtain ⟨v4, h2, h_v2⟩ := h_v2.ex BK
 unfold AH at H
 refine vc tk 9 F W fun a w F W => ?_
 refine ls F W Aa (Bz (r := Bm) (l := p0) IU Aa F Aa (Al BK h1 (Ae h_v1))).q fun a w F W => ?_
 refine ls F W Aa (Ao F Aa).q fun a w F W => ?_
 refine ls F W Aa (Bz (r := Bm) (l := p1) IU Aa F Aa (Al BK h2 (Ae h_v2))).q fun a w F W => ?_
 refine Bo tk 3 F W fun a w F W => ?_
 refine A1 F Aa H (fun F H => ?_) fun F H => ?_
 ·
  refine vc tk 5 F W fun a w F W => ?_
  refine Ah (Aw ?_)
  have H := Ay H
  subst H
  refine Av (.inl Aa) F W Aa (Am F Aa) ?_
  exact ⟨rfl, W.done⟩
 refine AD (Ab ?_)
 obtain ⟨o1, G1, K1, L1⟩ := Lh H
 refine Ap (fun a w => some (Sum.inl ()) = some o1 ∧ Fr 32 [] [(6, .bool false)] a ∧ sy Y w0 [] [] w) ?_ ?_
 ·
  have H := G1
  refine vc tk 3 F W fun a w F W => ?_
  refine ls F W Aa (Bz (r := Bm) (l := p0) IU Aa F Aa (Al BK h1 (Ae h_v1))).q fun a w F W => ?_
  refine Bo tk 4 F W fun a w F W => ?_
  refine AQ H (fun s a w => Fr 32 [] [(1, v2), (2, .func (.func 148) #[] #[]), (6, .bool false), (15, v1), (16, Jint (p0.length : Int)), (17, Jint s)] a ∧ sy Y w0 [] [] w) ⟨F.ra Aa, W⟩ fun s o a w H L2 hR => ?_
  obtain ⟨x1, rfl⟩ : ∃ x, x = s := ⟨s, rfl⟩
  obtain ⟨F, W⟩ := hR
  have F : Fr 32 [] [(1, v2), (2, .func (.func 148) #[] #[]), (6, .bool false), (15, v1), (16, Jint (p0.length : Int)), (17, Jint x1)] a := F
  have W : sy Y w0 [] [] w := W
  rw [AE] at H
  refine vc tk 6 F W fun a w F W => ?_
  refine A1 F Aa H (fun F H => ?_) fun F H => ?_
  ·
   refine EX tk 7 F W fun a w F W => ?_
   obtain ⟨x2, h3, H⟩ := Af H
   obtain ⟨v5, h4, h5⟩ := CS h1 h3
   have h6 : He v5 = [Jint x2.un.1, Jint x2.un.2.1, Jint x2.un.2.2.1, (v5.2.2.2.1)] := congrArg (fun q : Tr36 => ([Jint q.un.1, Jint q.un.2.1, Jint q.un.2.2.1, (v5.2.2.2.1)] : List Value)) h5
   refine ls F W Aa (Au (r := HE) PI F Aa Aa (Ae h_v1) h4).q fun a w F W => ?_
   refine ls F W Aa (Aj (y := Value.agg #[Jint x2.un.1, Jint x2.un.2.1, Jint x2.un.2.2.1, (v5.2.2.2.1)]) (j := 0) (i := x1) (enc := He) F Aa Aa (Ae h_v1) h4 Mp GN (by rw [h6]; rfl)).q fun a w F W => ?_
   refine Bw (cs := (Is)) F W Aa Q0 Aa fun b1 a w F W => ?_
   refine ls F W Aa (Bj F Aa).q fun a w F W => ?_
   refine CE 0 F W Aa Aa Aa GN Aa Aa (Ac Aa (Ac Aa (Ac Aa (Ac ((Bf (Ae h_v1) h4 (Ag.snd (Ag.snd (Ag.snd Ag.here))) (congrArg (fun q : Tr36 => q.un.2.2.2) h5)) _ W).one Bn)))) fun w W => ?_
   refine Bo tk 3 F W fun a w F W => ?_
   obtain ⟨v6, h7, h8⟩ := Sl.ex BK (Sl.at_ h_v1 h4 (Ag.snd (Ag.snd (Ag.snd Ag.here))) (congrArg (fun q : Tr36 => q.un.2.2.2) h5))
   refine vc tk 3 F W fun a w F W => ?_
   obtain ⟨x3, h9, H⟩ := Af H
   obtain ⟨v7, h10, h11⟩ := CS h2 h9
   have h12 : He v7 = [Jint x3.un.1, Jint x3.un.2.1, Jint x3.un.2.2.1, (v7.2.2.2.1)] := congrArg (fun q : Tr36 => ([Jint q.un.1, Jint q.un.2.1, Jint q.un.2.2.1, (v7.2.2.2.1)] : List Value)) h11
   refine ls F W Aa (Au (r := HE) PI F Aa Aa (Ae h_v2) h10).q fun a w F W => ?_
   refine ls F W Aa (Aj (y := Value.agg #[Jint x3.un.1, Jint x3.un.2.1, Jint x3.un.2.2.1, (v7.2.2.2.1)]) (j := 0) (i := x1) (enc := He) F Aa Aa (Ae h_v2) h10 Mp GN (by rw [h12]; rfl)).q fun a w F W => ?_
   refine Bw (cs := (Is)) F W Aa Q0 Aa fun b2 a w F W => ?_
   refine CE 0 F W Aa Aa Aa GN Aa Aa (Ac Aa (Ac Aa (Ac Aa (Ac ((Bf (Ae h_v2) h10 (Ag.snd (Ag.snd (Ag.snd Ag.here))) (congrArg (fun q : Tr36 => q.un.2.2.2) h11)) _ W).one Bn)))) fun w W => ?_
   refine Es tk 7 [1, 0] F W (ai (ai fun a w F W => ?_))
   obtain ⟨x4, h13, H⟩ := Af H
   refine ls F W Aa (Ib (ws := [.agg #[Jint x2.un.1, Jint x2.un.2.1, Jint x2.un.2.2.1, (v5.2.2.2.1)], .agg #[Jint x3.un.1, Jint x3.un.2.1, Jint x3.un.2.2.1, (v7.2.2.2.1)]]) (v := Value.bool x4) F XO Aa (fun w W => ih_pred_Same any w ((v5.2.2.2.1)) ((v7.2.2.2.1)) x2 x3 _ h13 (Cl (Al BK h7 (Ae h8)) W) (Cl (Bf (Ae h_v2) h10 (Ag.snd (Ag.snd (Ag.snd Ag.here))) (congrArg (fun q : Tr36 => q.un.2.2.2) h11)) W))) fun a w F W => ?_
   refine Bo tk 3 F W fun a w F W => ?_
   refine Bi F Aa H (fun F H => ?_) fun F H => ?_
   ·
    refine vc tk 5 F W fun a w F W => ?_
    refine Ah (AC ?_)
    iterate 2 refine Aw ?_
    refine AC (Aw ?_)
    have H := L2 _ H
    have H := L1 _ H
    have H := Ay H
    subst H
    refine Av (.inl Aa) F W Aa (Am F Aa) ?_
    exact ⟨rfl, W.done⟩
   refine AD (Az ?_)
   refine vn tk 4 F W fun a w F W => ?_
   refine Ab ?_
   have W := W.sub (M' := []) (Z' := []) nl sr
   exact ⟨_, H, F.ra Aa, W⟩
  refine AN ?_
  iterate 2 refine A6 ?_
  refine AP (Ab ?_)
  have H := L2 _ H
  exact ⟨H, F.ra Aa, W⟩
 rintro a w ⟨hj, F, W⟩
 have H := K1 _ hj
 refine vc tk 5 F W fun a w F W => ?_
 refine Ah ?_
 have H := Ay H
 subst H
 refine Av (.inl Aa) F W Aa (Am F Aa) ?_
 exact ⟨rfl, W.done⟩
theorem ZT : Has Tryz.prog 158 := BM Tryz.func158
def EE (fRec : Tr36 → Tr36 → Option Bool) (p0 : Tr36) (p1 : Tr36) : Option Bool := (if p0.un.1 = p1.un.1 then (if p0.un.2.1 = p1.un.2.1 then (if p0.un.2.2.1 = p1.un.2.2.1 then ((AH fRec) p0.un.2.2.2 p1.un.2.2.2).bind fun x2 => some x2 else some false) else some false) else some false).bind fun x1 => some x1
def D9 : Nat → Tr36 → Tr36 → Option Bool
  | 0 => fun _ _ => none
  | n + 1 => EE (D9 n)
def Mc (p0 : Tr36) (p1 : Tr36) : Option Bool := FT fun n => D9 n p0 p1
theorem Pk (fRec : Tr36 → Tr36 → Option Bool) (ih : ∀ (Y : Nat → Prop) (w0 : World) (v1 : Value) (v2 : Value) (p0 : Tr36) (p1 : Tr36) (r : Bool) (H : fRec p0 p1 = some r) (h_v1 : Sl w0 (NX []) Bm v1 p0.un.2.2.2) (h_v2 : Sl w0 (NX []) Bm v2 p1.un.2.2.2), ca_ 148 #[.agg #[Jint p0.un.1, Jint p0.un.2.1, Jint p0.un.2.2.1, v1], .agg #[Jint p1.un.1, Jint p1.un.2.1, Jint p1.un.2.2.1, v2]] w0 fun e w' => e = .returned (.bool r) ∧ Below w0.heap.size w0 w') (Y : Nat → Prop) (w0 : World) (v1 : Value) (v2 : Value) (p0 : Tr36) (p1 : Tr36) (r : Bool) (H : EE fRec p0 p1 = some r) (h_v1 : Sl w0 (NX []) Bm v1 p0.un.2.2.2) (h_v2 : Sl w0 (NX []) Bm v2 p1.un.2.2.2) :
    ca_ 148 #[.agg #[Jint p0.un.1, Jint p0.un.2.1, Jint p0.un.2.2.1, v1], .agg #[Jint p1.un.1, Jint p1.un.2.1, Jint p1.un.2.2.1, v2]] w0 fun e w' => e = .returned (.bool r) ∧ Below w0.heap.size w0 w' := by
 refine enter Tryz.func148 Aa Tryz.ntmps148 Aa fun a F => ?_
 have W := Stw.start Y w0
 obtain ⟨v3, h1, h_v1⟩ := h_v1.ex BK
 obtain ⟨v4, h2, h_v2⟩ := h_v2.ex BK
 unfold EE at H
 refine vc tk 2 F W fun a w F W => ?_
 refine BQ (cs := (Hl p0 v1)) F W Aa Aa Aa fun b1 a w F W => ?_
 refine BQ (cs := (Hl p1 v2)) F W Aa Aa Aa fun b2 a w F W => ?_
 refine vl tk 2 F W fun a w F W => ?_
 refine Ab ?_
 obtain ⟨o1, G1, K1⟩ := Af H
 refine Ap (fun a w => ∃ x1 : Bool, some (x1) = some o1 ∧ Fr 31 [] [(4, .bool x1)] a ∧ sy Y w0 (Ye b2 p1 v2 b1 p0 v1) [] w) ?_ ?_
 ·
  have H := G1
  refine CT tk 7 [1, 0] F W (ai (ai fun a w F W => ?_))
  rcases bxq (decide (p0.un.1 = p1.un.1)) with hb | hb
  ·
   have H := BB (B4 hb) H
   rw [hb] at F
   refine DU tk 7 [1, 0] F W (ai (ai fun a w F W => ?_))
   rcases bxq (decide (p0.un.2.1 = p1.un.2.1)) with hb | hb
   ·
    have H := BB (B4 hb) H
    rw [hb] at F
    refine DU tk 7 [1, 0] F W (ai (ai fun a w F W => ?_))
    rcases bxq (decide (p0.un.2.2.1 = p1.un.2.2.1)) with hb | hb
    ·
     have H := BB (B4 hb) H
     rw [hb] at F
     refine DU tk 4 [1, 0] F W (ai (ai fun a w F W => ?_))
     refine FU (Ad F Aa Aa Aa Aa) ?_
     obtain ⟨x2, h3, H⟩ := Af H
     refine ls F W Aa (AA (v := Value.bool x2) F ZT Aa (fun w W => (Dz fRec ih) any w (v1) (v2) p0.un.2.2.2 p1.un.2.2.2 _ h3 (Cl (Al BK h1 (Ae h_v1)) W) (Cl (Al BK h2 (Ae h_v2)) W))) fun a w F W => ?_
     refine vl tk 3 F W fun a w F W => ?_
     refine Ab ?_
     have W := W.frontM (i := 1) Aa Aa
     have W := W.frontM (i := 1) Aa Aa
     exact ⟨_, H, F.ra Aa, W⟩
    have H := BC (B1 hb) H
    rw [hb] at F
    refine vl tk 8 F W fun a w F W => ?_
    refine Ab ?_
    have W := W.frontM (i := 1) Aa Aa
    have W := W.frontM (i := 1) Aa Aa
    exact ⟨_, H, F.ra Aa, W⟩
   have H := BC (B1 hb) H
   rw [hb] at F
   refine vl tk 15 F W fun a w F W => ?_
   refine Ab ?_
   have W := W.frontM (i := 1) Aa Aa
   have W := W.frontM (i := 1) Aa Aa
   exact ⟨_, H, F.ra Aa, W⟩
  have H := BC (B1 hb) H
  rw [hb] at F
  refine vl tk 22 F W fun a w F W => ?_
  refine Ab ?_
  have W := W.frontM (i := 1) Aa Aa
  have W := W.frontM (i := 1) Aa Aa
  exact ⟨_, H, F.ra Aa, W⟩
 rintro a w ⟨x1, hj, F, W⟩
 have hj := Ay hj
 subst hj
 have H := K1
 refine Ah ?_
 have H := Ay H
 subst H
 refine Av (.inl Aa) F W Aa (Am F Aa) ?_
 exact ⟨rfl, W.done⟩
theorem Qq : ∀ (n : Nat) (Y : Nat → Prop) (w0 : World) (v1 : Value) (v2 : Value) (p0 : Tr36) (p1 : Tr36) (r : Bool) (H : D9 n p0 p1 = some r) (h_v1 : Sl w0 (NX []) Bm v1 p0.un.2.2.2) (h_v2 : Sl w0 (NX []) Bm v2 p1.un.2.2.2), ca_ 148 #[.agg #[Jint p0.un.1, Jint p0.un.2.1, Jint p0.un.2.2.1, v1], .agg #[Jint p1.un.1, Jint p1.un.2.1, Jint p1.un.2.2.1, v2]] w0 fun e w' => e = .returned (.bool r) ∧ Below w0.heap.size w0 w' := by
  intro n
  induction n with
  | zero => intro Y w0 v1 v2 p0 p1 r H; exact nomatch H
  | succ n ih => intro Y w0 v1 v2 p0 p1 r H h_v1 h_v2; exact Pk (D9 n) ih Y w0 v1 v2 p0 p1 r H h_v1 h_v2
theorem RB (Y : Nat → Prop) (w0 : World) (v1 : Value) (v2 : Value) (p0 : Tr36) (p1 : Tr36) (r : Bool) (H : Mc p0 p1 = some r) (h_v1 : Sl w0 (NX []) Bm v1 p0.un.2.2.2) (h_v2 : Sl w0 (NX []) Bm v2 p1.un.2.2.2) :
    ca_ 148 #[.agg #[Jint p0.un.1, Jint p0.un.2.1, Jint p0.un.2.2.1, v1], .agg #[Jint p1.un.1, Jint p1.un.2.1, Jint p1.un.2.2.1, v2]] w0 fun e w' => e = .returned (.bool r) ∧ Below w0.heap.size w0 w' := by
  obtain ⟨n, H⟩ := BP H
  exact Qq n Y w0 v1 v2 p0 p1 r H h_v1 h_v2
def F8 (p0 : Tr36) : Option Bool := (Mc p0 (Tr36.of (0, 0, 0, ([] : List Tr36)))).bind fun x1 => some x1
theorem Jk (Y : Nat → Prop) (w0 : World) (v1 : Value) (p0 : Tr36) (r : Bool) (H : F8 p0 = some r) (h_v1 : Sl w0 (NX []) Bm v1 p0.un.2.2.2) :
    ca_ 133 #[.agg #[Jint p0.un.1, Jint p0.un.2.1, Jint p0.un.2.2.1, v1]] w0 fun e w' => e = .returned (.bool r) ∧ Below w0.heap.size w0 w' := by
 refine enter Tryz.func133 Aa Tryz.ntmps133 Aa fun a F => ?_
 have W := Stw.start Y w0
 obtain ⟨v2, h1, h_v1⟩ := h_v1.ex BK
 unfold F8 at H
 refine vc tk 2 F W fun a w F W => ?_
 refine BQ (cs := (Hl p0 v1)) F W Aa Aa Aa fun b1 a w F W => ?_
 refine Es tk 6 [0] F W (ai fun a w F W => ?_)
 refine ls F W Aa (Cf (v := Value.agg #[Jint 0, Jint 0, Jint 0, .slice none 0 0]) Us F Aa Aa Aa).q fun a w F W => ?_
 obtain ⟨x1, h2, H⟩ := Af H
 refine ls F W Aa (AA (v := Value.bool x1) F XO Aa (fun w W => RB any w (v1) (Value.slice none 0 0) p0 (Tr36.of (0, 0, 0, ([] : List Tr36))) _ h2 (Cl (Al BK h1 (Ae h_v1)) W) Sl.nil)) fun a w F W => ?_
 refine Bo tk 3 F W fun a w F W => ?_
 refine Ah ?_
 have H := Ay H
 subst H
 refine Av (.inl Aa) F W Aa (Am F Aa) ?_
 exact ⟨rfl, W.done⟩
theorem X1 : Has Tryz.prog 133 := BM Tryz.func133
def Ie (p0 : Int) : Option Int := (if p0 = 0 then some true else (if p0 = 1 then some true else some (decide (p0 = 3)))).bind fun x1 => (if x1 = true then some 8 else (if p0 = 2 then some 4 else some 0))
theorem Pg (Y : Nat → Prop) (w0 : World)  (p0 : Int) (r : Int) (H : Ie p0 = some r)  :
    ca_ 155 #[Jint p0] w0 fun e w' => e = .returned (Jint r) ∧ Below w0.heap.size w0 w' := by
 refine enter Tryz.func155 Aa Tryz.ntmps155 Aa fun a F => ?_
 have W := Stw.start Y w0
 unfold Ie at H
 refine vc tk 12 F W fun a w F W => ?_
 obtain ⟨o1, G1, K1⟩ := Af H
 refine Ap (fun a w => ∃ x1 : Bool, some (x1) = some o1 ∧ Fr 10 [] [(2, Jint 0), (3, Jint p0), (4, .bool x1)] a ∧ sy Y w0 [] [] w) ?_ ?_
 ·
  have H := G1
  refine vc tk 6 F W fun a w F W => ?_
  refine BS F Aa (fun hb => ?_) fun hb => ?_
  ·
   have H := BB (B4 hb) H
   rw [hb] at F
   refine AD (Ab ?_)
   exact ⟨_, H, F.ra Aa, W⟩
  have H := BC (B1 hb) H
  rw [hb] at F
  refine vc tk 6 F W fun a w F W => ?_
  refine BS F Aa (fun hb => ?_) fun hb => ?_
  ·
   have H := BB (B4 hb) H
   rw [hb] at F
   refine AD (Ab ?_)
   exact ⟨_, H, F.ra Aa, W⟩
  have H := BC (B1 hb) H
  rw [hb] at F
  refine vc tk 4 F W fun a w F W => ?_
  refine Ab ?_
  exact ⟨_, H, F.ra Aa, W⟩
 rintro a w ⟨x1, hj, F, W⟩
 have hj := Ay hj
 subst hj
 have H := K1
 refine Bi F Aa H (fun F H => ?_) fun F H => ?_
 ·
  refine vc tk 5 F W fun a w F W => ?_
  refine Ah (AC (Aw ?_))
  have H := Ay H
  subst H
  refine Av (.inl Aa) F W Aa (Am F Aa) ?_
  exact ⟨rfl, W.done⟩
 refine vc tk 6 F W fun a w F W => ?_
 refine BS F Aa (fun hb => ?_) fun hb => ?_
 ·
  have H := BB (B4 hb) H
  rw [hb] at F
  refine vc tk 5 F W fun a w F W => ?_
  refine Ah (AC (Aw ?_))
  have H := Ay H
  subst H
  refine Av (.inl Aa) F W Aa (Am F Aa) ?_
  exact ⟨rfl, W.done⟩
 have H := BC (B1 hb) H
 rw [hb] at F
 refine AD (Az ?_)
 refine vn tk 5 F W fun a w F W => ?_
 refine Ah ?_
 have H := Ay H
 subst H
 refine Av (.inl Aa) F W Aa (Am F Aa) ?_
 exact ⟨rfl, W.done⟩
theorem Zs : Has Tryz.prog 155 := BM Tryz.func155
def Je (p0 : Int) : Option Int := (Ie p0).bind fun x1 => (XB (Ht .i64 1 x1) x1).bind fun x2 => some (AJ (x2 - 1))
theorem QW (Y : Nat → Prop) (w0 : World)  (p0 : Int) (r : Int) (H : Je p0 = some r)  :
    ca_ 138 #[Jint p0] w0 fun e w' => e = .returned (Jint r) ∧ Below w0.heap.size w0 w' := by
 refine enter Tryz.func138 Aa Tryz.ntmps138 Aa fun a F => ?_
 have W := Stw.start Y w0
 unfold Je at H
 refine vc tk 8 F W fun a w F W => ?_
 obtain ⟨x1, h1, H⟩ := Af H
 refine ls F W Aa (AA (v := Jint x1) F Zs Aa (fun w W => Pg any w p0 _ h1)) fun a w F W => ?_
 obtain ⟨x2, h2, H⟩ := Af H
 refine ls F W Aa (WB (LC h2).2 (ST F Aa Aa (LC h2).1)).q fun a w F W => ?_
 refine Bo tk 4 F W fun a w F W => ?_
 refine Ah ?_
 have H := Ay H
 subst H
 refine Av (.inl Aa) F W Aa (Am F Aa) ?_
 exact ⟨rfl, W.done⟩
theorem Ze : Has Tryz.prog 138 := BM Tryz.func138
def IJ (p0 : Int) : Option Int := (if (decide (p0 = 4) || decide (p0 = 5)) = true then some 7 else (Je p0).bind fun x1 => some x1)
theorem Oa (Y : Nat → Prop) (w0 : World)  (p0 : Int) (r : Int) (H : IJ p0 = some r)  :
    ca_ 112 #[Jint p0] w0 fun e w' => e = .returned (Jint r) ∧ Below w0.heap.size w0 w' := by
 refine enter Tryz.func112 Aa Tryz.ntmps112 Aa fun a F => ?_
 have W := Stw.start Y w0
 unfold IJ at H
 refine vc tk 6 F W fun a w F W => ?_
 refine Ap (fun a w => Fr 11 [] [(0, Jint p0), (2, Jint 0), (8, .bool (decide (p0 = 4) || decide (p0 = 5)))] a ∧ sy Y w0 [] [] w) ?_ ?_
 ·
  refine vc tk 4 F W fun a w F W => ?_
  rcases bxq (decide (p0 = 4)) with hb0 | hb0
  ·
   rw [hb0] at F
   refine vl tk 4 F W fun a w F W => ?_
   refine Ab ?_
   exact ⟨F.re ⟨rfl, Aa, (CL (by try rw [hb0]; all_goals simp only [CM])), trivial⟩, W⟩
  rw [hb0] at F
  refine vl tk 4 F W fun a w F W => ?_
  refine Ab ?_
  exact ⟨F.re ⟨rfl, Aa, (CL (by try rw [hb0]; all_goals simp only [CM])), trivial⟩, W⟩
 rintro a w ⟨F, W⟩
 refine Bi F Aa H (fun F H => ?_) fun F H => ?_
 ·
  refine vc tk 5 F W fun a w F W => ?_
  refine Ah (Aw ?_)
  have H := Ay H
  subst H
  refine Av (.inl Aa) F W Aa (Am F Aa) ?_
  exact ⟨rfl, W.done⟩
 refine EX tk 5 F W fun a w F W => ?_
 obtain ⟨x1, h1, H⟩ := Af H
 refine ls F W Aa (AA (v := Jint x1) F Ze Aa (fun w W => QW any w p0 _ h1)) fun a w F W => ?_
 refine Bo tk 3 F W fun a w F W => ?_
 refine Ah ?_
 have H := Ay H
 subst H
 refine Av (.inl Aa) F W Aa (Am F Aa) ?_
 exact ⟨rfl, W.done⟩
theorem YC : Has Tryz.prog 112 := BM Tryz.func112
def Hq (p0 : Tr39) : Option Bool := (if p0.un.1 = 2 then ((F8 (Tr36.of (p0.un.2.1.un.1, p0.un.2.1.un.2.1, p0.un.2.1.un.2.2.1, p0.un.2.1.un.2.2.2))).bind fun x2 => (if x2 = true then (if (p0.un.2.2.2.2.length : Int) = 0 then (if 0 ≤ p0.un.2.2.1 then (if p0.un.2.2.1 ≤ 4 then (if 0 ≤ p0.un.2.2.2.1 then (IJ p0.un.2.2.1).bind fun x3 => some (decide (p0.un.2.2.2.1 ≤ x3)) else some false) else some false) else some false) else some false) else some false)).bind fun x1 => some x1 else (if (decide (p0.un.2.2.1 ≠ 0) || decide (p0.un.2.2.2.1 ≠ 0)) = true then some false else (if p0.un.1 = 1 then some (decide ((p0.un.2.2.2.2.length : Int) = 0)) else (if p0.un.1 = 3 then some true else some (decide (p0.un.1 = 4))).bind fun x4 => (if x4 = true then ((F8 (Tr36.of (p0.un.2.1.un.1, p0.un.2.1.un.2.1, p0.un.2.1.un.2.2.1, p0.un.2.1.un.2.2.2))).bind fun x6 => (if x6 = true then (if 2 ≤ (p0.un.2.2.2.2.length : Int) then some (decide ((p0.un.2.2.2.2.length : Int) ≤ 8)) else some false) else some false)).bind fun x5 => some x5 else (if p0.un.1 = 5 then some (decide ((p0.un.2.2.2.2.length : Int) = 2)) else some false)))))
theorem Ps (Y : Nat → Prop) (w0 : World) (v1 : Value) (v2 : Value) (p0 : Tr39) (r : Bool) (H : Hq p0 = some r) (h_v1 : Sl w0 (NX []) Bm v1 p0.un.2.1.un.2.2.2) (h_v2 : Sl w0 (NX []) DF v2 p0.un.2.2.2.2) :
    ca_ 100 #[.agg #[Jint p0.un.1, Jint p0.un.2.1.un.1, Jint p0.un.2.1.un.2.1, Jint p0.un.2.1.un.2.2.1, v1, Jint p0.un.2.2.1, Jint p0.un.2.2.2.1, v2]] w0 fun e w' => e = .returned (.bool r) ∧ Below w0.heap.size w0 w' := by
 refine enter Tryz.func100 Aa Tryz.ntmps100 Aa fun a F => ?_
 have W := Stw.start Y w0
 obtain ⟨v3, h1, h_v1⟩ := h_v1.ex BK
 obtain ⟨v4, h2, h_v2⟩ := h_v2.ex Er
 unfold Hq at H
 refine vc tk 2 F W fun a w F W => ?_
 refine BQ (cs := (C7 p0 v1 v2)) F W Aa Aa Aa fun b1 a w F W => ?_
 refine Es tk 11 [0] F W (ai fun a w F W => ?_)
 refine A1 F Aa H (fun F H => ?_) fun F H => ?_
 ·
  obtain ⟨o1, G1, K1⟩ := Af H
  refine Ap (fun a w => ∃ x1 : Bool, some (x1) = some o1 ∧ Fr 78 [] [(1, pp b1), (2, .bool x1)] a ∧ sy Y w0 (DV b1 p0 v1 v2) [] w) ?_ ?_
  ·
   have H := G1
   refine B5 W MO (by kernel_rfl) ?_
   refine qs F Aa (Aq Ih Aa Aa Aa GN F Aa 1 Aa).q fun a F => ?_
   refine qs F Aa (Bk (v := Value.agg #[Jint p0.un.2.1.un.1, Jint p0.un.2.1.un.2.1, Jint p0.un.2.1.un.2.2.1, v1]) 0 F Aa Aa GN Aa).q fun a F => ?_
   obtain ⟨x2, h3, H⟩ := Af H
   refine qs F Aa (AA (v := Value.bool x2) F X1 Aa (fun w W => Jk any w (v1) (Tr36.of (p0.un.2.1.un.1, p0.un.2.1.un.2.1, p0.un.2.1.un.2.2.1, p0.un.2.1.un.2.2.2)) _ h3 (Cl (Al BK h1 (Ae h_v1)) W))) fun a F => ?_
   refine qs F Aa (Ao F Aa).q fun a F => ?_
   rcases bxq x2 with hb | hb
   ·
    have H := BB hb H
    rw [hb] at F
    refine AR F (Ad F Aa Aa Aa Aa) Aa (As Aa) (Aq Ih Aa Aa Aa UB F Aa 7 Aa).q fun a F => ?_
    refine AR F (Ad F Aa Aa Aa Aa) Aa (As Aa) (Bk (v := v2) 0 F Aa Aa UB Aa).q fun a F => ?_
    refine AR F (Ad F Aa Aa Aa Aa) Aa (As Aa) (Bz (r := DF) (l := p0.un.2.2.2.2) Km Aa F Aa (Al Er h2 (Ae h_v2))).q fun a F => ?_
    refine AR F (Ad F Aa Aa Aa Aa) Aa (As Aa) (NK F Aa Aa).q fun a F => ?_
    refine qs F Aa (Bq F Aa Aa Aa).q fun a F => ?_
    refine qs F Aa (Ao F Aa).q fun a F => ?_
    rcases bxq (decide ((p0.un.2.2.2.2.length : Int) = 0)) with hb | hb
    ·
     have H := BB (B4 hb) H
     rw [hb] at F
     refine AR F (Ad F Aa Aa Aa Aa) Aa (As Aa) (Aq Ih Aa Aa Aa T3 F Aa 5 Aa).q fun a F => ?_
     refine AR F (Ad F Aa Aa Aa Aa) Aa (As Aa) (Bk (v := Jint p0.un.2.2.1) 0 F Aa Aa T3 Aa).q fun a F => ?_
     refine AR F (Ad F Aa Aa Aa Aa) Aa (As Aa) (Tw F Aa Aa).q fun a F => ?_
     refine qs F Aa (Bq F Aa Aa Aa).q fun a F => ?_
     refine qs F Aa (Ao F Aa).q fun a F => ?_
     rcases bxq (decide (0 ≤ p0.un.2.2.1)) with hb | hb
     ·
      have H := BB (B4 hb) H
      rw [hb] at F
      refine AR F (Ad F Aa Aa Aa Aa) Aa (As Aa) (Aq Ih Aa Aa Aa T3 F Aa 5 Aa).q fun a F => ?_
      refine AR F (Ad F Aa Aa Aa Aa) Aa (As Aa) (Bk (v := Jint p0.un.2.2.1) 0 F Aa Aa T3 Aa).q fun a F => ?_
      refine AR F (Ad F Aa Aa Aa Aa) Aa (As Aa) (KE F Aa Aa).q fun a F => ?_
      refine qs F Aa (Bq F Aa Aa Aa).q fun a F => ?_
      refine qs F Aa (Ao F Aa).q fun a F => ?_
      rcases bxq (decide (p0.un.2.2.1 ≤ 4)) with hb | hb
      ·
       have H := BB (B4 hb) H
       rw [hb] at F
       refine AR F (Ad F Aa Aa Aa Aa) Aa (As Aa) (Aq Ih Aa Aa Aa T3 F Aa 6 Aa).q fun a F => ?_
       refine AR F (Ad F Aa Aa Aa Aa) Aa (As Aa) (Bk (v := Jint p0.un.2.2.2.1) 0 F Aa Aa T3 Aa).q fun a F => ?_
       refine AR F (Ad F Aa Aa Aa Aa) Aa (As Aa) (Tw F Aa Aa).q fun a F => ?_
       refine qs F Aa (Bq F Aa Aa Aa).q fun a F => ?_
       refine qs F Aa (Ao F Aa).q fun a F => ?_
       rcases bxq (decide (0 ≤ p0.un.2.2.2.1)) with hb | hb
       ·
        have H := BB (B4 hb) H
        rw [hb] at F
        refine AR F (Ad F Aa Aa Aa Aa) Aa (As Aa) (Aq Ih Aa Aa Aa T3 F Aa 6 Aa).q fun a F => ?_
        refine AR F (Ad F Aa Aa Aa Aa) Aa (As Aa) (Bk (v := Jint p0.un.2.2.2.1) 0 F Aa Aa T3 Aa).q fun a F => ?_
        refine AR F (Ad F Aa Aa Aa Aa) Aa (As Aa) (Aq Ih Aa Aa Aa T3 F Aa 5 Aa).q fun a F => ?_
        refine AR F (Ad F Aa Aa Aa Aa) Aa (As Aa) (Bk (v := Jint p0.un.2.2.1) 0 F Aa Aa T3 Aa).q fun a F => ?_
        obtain ⟨x3, h4, H⟩ := Af H
        refine AR F (Ad F Aa Aa Aa Aa) Aa (As Aa) (AA (v := Jint x3) F YC Aa (fun w W => Oa any w p0.un.2.2.1 _ h4)) fun a F => ?_
        refine AR F (Ad F Aa Aa Aa Aa) Aa (As Aa) (KE F Aa Aa).q fun a F => ?_
        refine qs F Aa (Bq F Aa Aa Aa).q fun a F => ?_
        refine qs F Aa (Bj F Aa).q fun a F => ?_
        refine AK fun w W => ?_
        refine Ab ?_
        exact ⟨_, H, F.ra Aa, W⟩
       have H := BC (B1 hb) H
       rw [hb] at F
       iterate 6 refine Bb F (A3 F Aa Aa Aa Aa Aa) Aa Aa fun a F => ?_
       refine qs F Aa (Bh F Aa Aa Aa).q fun a F => ?_
       refine qs F Aa (Bj F Aa).q fun a F => ?_
       refine AK fun w W => ?_
       refine Ab ?_
       exact ⟨_, H, F.ra Aa, W⟩
      have H := BC (B1 hb) H
      rw [hb] at F
      iterate 3 refine Bb F (A3 F Aa Aa Aa Aa Aa) Aa Aa fun a F => ?_
      refine qs F Aa (Bh F Aa Aa Aa).q fun a F => ?_
      refine qs F Aa (Ao F Aa).q fun a F => ?_
      iterate 6 refine Bb F (A3 F Aa Aa Aa Aa Aa) Aa Aa fun a F => ?_
      refine qs F Aa (Bh F Aa Aa Aa).q fun a F => ?_
      refine qs F Aa (Bj F Aa).q fun a F => ?_
      refine AK fun w W => ?_
      refine Ab ?_
      exact ⟨_, H, F.ra Aa, W⟩
     have H := BC (B1 hb) H
     rw [hb] at F
     iterate 3 refine Bb F (A3 F Aa Aa Aa Aa Aa) Aa Aa fun a F => ?_
     refine qs F Aa (Bh F Aa Aa Aa).q fun a F => ?_
     refine qs F Aa (Ao F Aa).q fun a F => ?_
     iterate 3 refine Bb F (A3 F Aa Aa Aa Aa Aa) Aa Aa fun a F => ?_
     refine qs F Aa (Bh F Aa Aa Aa).q fun a F => ?_
     refine qs F Aa (Ao F Aa).q fun a F => ?_
     iterate 6 refine Bb F (A3 F Aa Aa Aa Aa Aa) Aa Aa fun a F => ?_
     refine qs F Aa (Bh F Aa Aa Aa).q fun a F => ?_
     refine qs F Aa (Bj F Aa).q fun a F => ?_
     refine AK fun w W => ?_
     refine Ab ?_
     exact ⟨_, H, F.ra Aa, W⟩
    have H := BC (B1 hb) H
    rw [hb] at F
    iterate 3 refine Bb F (A3 F Aa Aa Aa Aa Aa) Aa Aa fun a F => ?_
    refine qs F Aa (Bh F Aa Aa Aa).q fun a F => ?_
    refine qs F Aa (Ao F Aa).q fun a F => ?_
    iterate 3 refine Bb F (A3 F Aa Aa Aa Aa Aa) Aa Aa fun a F => ?_
    refine qs F Aa (Bh F Aa Aa Aa).q fun a F => ?_
    refine qs F Aa (Ao F Aa).q fun a F => ?_
    iterate 3 refine Bb F (A3 F Aa Aa Aa Aa Aa) Aa Aa fun a F => ?_
    refine qs F Aa (Bh F Aa Aa Aa).q fun a F => ?_
    refine qs F Aa (Ao F Aa).q fun a F => ?_
    iterate 6 refine Bb F (A3 F Aa Aa Aa Aa Aa) Aa Aa fun a F => ?_
    refine qs F Aa (Bh F Aa Aa Aa).q fun a F => ?_
    refine qs F Aa (Bj F Aa).q fun a F => ?_
    refine AK fun w W => ?_
    refine Ab ?_
    exact ⟨_, H, F.ra Aa, W⟩
   have H := BC (by rw [hb]; decide) H
   rw [hb] at F
   iterate 4 refine Bb F (A3 F Aa Aa Aa Aa Aa) Aa Aa fun a F => ?_
   refine qs F Aa (Bh F Aa Aa Aa).q fun a F => ?_
   refine qs F Aa (Ao F Aa).q fun a F => ?_
   iterate 3 refine Bb F (A3 F Aa Aa Aa Aa Aa) Aa Aa fun a F => ?_
   refine qs F Aa (Bh F Aa Aa Aa).q fun a F => ?_
   refine qs F Aa (Ao F Aa).q fun a F => ?_
   iterate 3 refine Bb F (A3 F Aa Aa Aa Aa Aa) Aa Aa fun a F => ?_
   refine qs F Aa (Bh F Aa Aa Aa).q fun a F => ?_
   refine qs F Aa (Ao F Aa).q fun a F => ?_
   iterate 3 refine Bb F (A3 F Aa Aa Aa Aa Aa) Aa Aa fun a F => ?_
   refine qs F Aa (Bh F Aa Aa Aa).q fun a F => ?_
   refine qs F Aa (Ao F Aa).q fun a F => ?_
   iterate 6 refine Bb F (A3 F Aa Aa Aa Aa Aa) Aa Aa fun a F => ?_
   refine qs F Aa (Bh F Aa Aa Aa).q fun a F => ?_
   refine qs F Aa (Bj F Aa).q fun a F => ?_
   refine AK fun w W => ?_
   refine Ab ?_
   exact ⟨_, H, F.ra Aa, W⟩
  rintro a w ⟨x1, hj, F, W⟩
  have hj := Ay hj
  subst hj
  have H := K1
  refine Ah (Aw ?_)
  have H := Ay H
  subst H
  refine Av (.inl Aa) F W Aa (Am F Aa) ?_
  exact ⟨rfl, W.done⟩
 refine EX tk 3 F W fun a w F W => ?_
 refine Ap (fun a w => Fr 78 [] [(1, pp b1), (2, .bool false), (45, .bool (decide (p0.un.2.2.1 ≠ 0) || decide (p0.un.2.2.2.1 ≠ 0)))] a ∧ sy Y w0 (DV b1 p0 v1 v2) [] w) ?_ ?_
 ·
  refine CT tk 5 [0] F W (ai fun a w F W => ?_)
  rcases bxq (decide (p0.un.2.2.1 ≠ 0)) with hb0 | hb0
  ·
   rw [hb0] at F
   refine vl tk 5 F W fun a w F W => ?_
   refine Ab ?_
   exact ⟨F.re ⟨rfl, Aa, (CL (by try rw [hb0]; all_goals simp only [CM])), trivial⟩, W⟩
  rw [hb0] at F
  refine DU tk 5 [0] F W (ai fun a w F W => ?_)
  refine Ab ?_
  exact ⟨F.re ⟨rfl, Aa, (CL (by try rw [hb0]; all_goals simp only [CM])), trivial⟩, W⟩
 rintro a w ⟨F, W⟩
 refine Bi F Aa H (fun F H => ?_) fun F H => ?_
 ·
  refine vc tk 5 F W fun a w F W => ?_
  refine Ah (Aw ?_)
  have H := Ay H
  subst H
  refine Av (.inl Aa) F W Aa (Am F Aa) ?_
  exact ⟨rfl, W.done⟩
 refine Hr tk 16 [0] F W (ai fun a w F W => ?_)
 refine BS F Aa (fun hb => ?_) fun hb => ?_
 ·
  have H := BB (B4 hb) H
  rw [hb] at F
  refine CT tk 4 [0] F W (ai fun a w F W => ?_)
  refine ls F W Aa (Bz (r := DF) (l := p0.un.2.2.2.2) Km Aa F Aa (Al Er h2 (Ae h_v2))).q fun a w F W => ?_
  refine Bo tk 4 F W fun a w F W => ?_
  refine Ah (AC (Aw ?_))
  have H := Ay H
  subst H
  refine Av (.inl Aa) F W Aa (Am F Aa) ?_
  exact ⟨rfl, W.done⟩
 have H := BC (B1 hb) H
 rw [hb] at F
 obtain ⟨o2, G2, K2⟩ := Af H
 refine Ap (fun a w => ∃ x4 : Bool, some (x4) = some o2 ∧ Fr 78 [] [(1, pp b1), (2, .bool false), (47, Jint p0.un.1), (54, .bool x4)] a ∧ sy Y w0 (DV b1 p0 v1 v2) [] w) ?_ ?_
 ·
  have H := G2
  refine vc tk 6 F W fun a w F W => ?_
  refine BS F Aa (fun hb => ?_) fun hb => ?_
  ·
   have H := BB (B4 hb) H
   rw [hb] at F
   refine AD (Ab ?_)
   exact ⟨_, H, F.ra Aa, W⟩
  have H := BC (B1 hb) H
  rw [hb] at F
  refine vc tk 4 F W fun a w F W => ?_
  refine Ab ?_
  exact ⟨_, H, F.ra Aa, W⟩
 rintro a w ⟨x4, hj, F, W⟩
 have hj := Ay hj
 subst hj
 have H := K2
 refine Bi F Aa H (fun F H => ?_) fun F H => ?_
 ·
  obtain ⟨o3, G3, K3⟩ := Af H
  refine Ap (fun a w => ∃ x5 : Bool, some (x5) = some o3 ∧ Fr 78 [] [(2, .bool x5)] a ∧ sy Y w0 (DV b1 p0 v1 v2) [] w) ?_ ?_
  ·
   have H := G3
   refine CT tk 3 [0] F W (ai fun a w F W => ?_)
   obtain ⟨x6, h5, H⟩ := Af H
   refine ls F W Aa (AA (v := Value.bool x6) F X1 Aa (fun w W => Jk any w (v1) (Tr36.of (p0.un.2.1.un.1, p0.un.2.1.un.2.1, p0.un.2.1.un.2.2.1, p0.un.2.1.un.2.2.2)) _ h5 (Cl (Al BK h1 (Ae h_v1)) W))) fun a w F W => ?_
   refine ls F W Aa (Ao F Aa).q fun a w F W => ?_
   rcases bxq x6 with hb | hb
   ·
    have H := BB hb H
    rw [hb] at F
    refine DU tk 2 [0] F W (ai fun a w F W => ?_)
    refine Dy F W (Ad F Aa Aa Aa Aa) Aa (As Aa) (Bz (r := DF) (l := p0.un.2.2.2.2) Km Aa F Aa (Al Er h2 (Ae h_v2))).q fun a w F W => ?_
    refine vl tk 3 F W fun a w F W => ?_
    rcases bxq (decide (2 ≤ (p0.un.2.2.2.2.length : Int))) with hb | hb
    ·
     have H := BB (B4 hb) H
     rw [hb] at F
     refine DU tk 2 [0] F W (ai fun a w F W => ?_)
     refine Dy F W (Ad F Aa Aa Aa Aa) Aa (As Aa) (Bz (r := DF) (l := p0.un.2.2.2.2) Km Aa F Aa (Al Er h2 (Ae h_v2))).q fun a w F W => ?_
     refine vl tk 4 F W fun a w F W => ?_
     refine Ab ?_
     exact ⟨_, H, F.ra Aa, W⟩
    have H := BC (B1 hb) H
    rw [hb] at F
    refine vl tk 7 F W fun a w F W => ?_
    refine Ab ?_
    exact ⟨_, H, F.ra Aa, W⟩
   have H := BC (by rw [hb]; decide) H
   rw [hb] at F
   refine vl tk 13 F W fun a w F W => ?_
   refine Ab ?_
   exact ⟨_, H, F.ra Aa, W⟩
  rintro a w ⟨x5, hj, F, W⟩
  have hj := Ay hj
  subst hj
  have H := K3
  refine Ah (AC (Aw ?_))
  have H := Ay H
  subst H
  refine Av (.inl Aa) F W Aa (Am F Aa) ?_
  exact ⟨rfl, W.done⟩
 refine vc tk 6 F W fun a w F W => ?_
 refine BS F Aa (fun hb => ?_) fun hb => ?_
 ·
  have H := BB (B4 hb) H
  rw [hb] at F
  refine CT tk 4 [0] F W (ai fun a w F W => ?_)
  refine ls F W Aa (Bz (r := DF) (l := p0.un.2.2.2.2) Km Aa F Aa (Al Er h2 (Ae h_v2))).q fun a w F W => ?_
  refine Bo tk 4 F W fun a w F W => ?_
  refine Ah (AC (Aw ?_))
  have H := Ay H
  subst H
  refine Av (.inl Aa) F W Aa (Am F Aa) ?_
  exact ⟨rfl, W.done⟩
 have H := BC (B1 hb) H
 rw [hb] at F
 refine AD (Az ?_)
 refine vn tk 5 F W fun a w F W => ?_
 refine Ah ?_
 have H := Ay H
 subst H
 refine Av (.inl Aa) F W Aa (Am F Aa) ?_
 exact ⟨rfl, W.done⟩
theorem XV : type_of% Tryz.underlying92 := Tryz.underlying92
theorem ZJ : Has Tryz.prog 100 := BM Tryz.func100
theorem bQ : Bt Tryz.prog 92 [Jint 0] [(0, 1)] := ⟨⟨.agg #[Jint 0], by kernel_rfl, rfl⟩, ⟨_, XV, fun w => by kernel_rfl⟩⟩
theorem cA : (Tryz.prog.info? 92).bind (·.zero) = some (.agg #[Jint 0]) := by kernel_rfl
theorem cB : Ty Tryz.prog 92 true 1 := ⟨by kernel_rfl, by kernel_rfl⟩
def Hd (p0 : Int) : Bool := (decide (0 ≤ p0) && decide (p0 ≤ 5))
theorem Qa (Y : Nat → Prop) (w0 : World)  (p0 : Int) (r : Bool) (H : Hd p0 = r)  :
    ca_ 88 #[Jint p0] w0 fun e w' => e = .returned (.bool r) ∧ Below w0.heap.size w0 w' := by
 refine enter Tryz.func88 Aa Tryz.ntmps88 Aa fun a F => ?_
 have W := Stw.start Y w0
 unfold Hd at H
 refine vc tk 5 F W fun a w F W => ?_
 refine Ap (fun a w => Fr 9 [] [(2, .bool (decide (0 ≤ p0) && decide (p0 ≤ 5)))] a ∧ sy Y w0 [] [] w) ?_ ?_
 ·
  refine vc tk 4 F W fun a w F W => ?_
  rcases bxq (decide (0 ≤ p0)) with hb0 | hb0
  ·
   rw [hb0] at F
   refine vl tk 5 F W fun a w F W => ?_
   refine Ab ?_
   exact ⟨F.re ⟨(CL (by try rw [hb0]; all_goals simp only [CM])), trivial⟩, W⟩
  rw [hb0] at F
  refine vl tk 5 F W fun a w F W => ?_
  refine Ab ?_
  exact ⟨F.re ⟨(CL (by try rw [hb0]; all_goals simp only [CM])), trivial⟩, W⟩
 rintro a w ⟨F, W⟩
 refine Ah ?_
 subst H
 refine Av (.inl Aa) F W Aa (Am F Aa) ?_
 exact ⟨rfl, W.done⟩
end
end Go.Proofs.YtgoifghhcekahaaGreatDoor
