/- The functions of layer 29, EF. Conditions: none. -/
import Derived.Test.YtlgjpoapclifbaaDoordA12
namespace Go.Proofs.YtlgjpoapclifbaaDoor
open Go Go.RowKit
set_option linter.unusedVariables false
set_option linter.unusedSimpArgs false
set_option maxRecDepth 20000
theorem TR : Has Tryd.prog 54 := ⟨fun args w => Am Tryd.func54 rfl (by decide) args w⟩
noncomputable def Cp (fRec : Tr28 → Option Int) (p0 : Tr28) : (Int × Int) → Option ((Int × Int) ⊕ Int)
  | (x2, x3) => (if x3 < (p0.un.2.2.2.2.length : Int) then (ix p0.un.2.2.2.2 x3).bind fun x4 => (fRec (Tr28.of (x4.un.1, Tr25.of (x4.un.2.1.un.1, x4.un.2.1.un.2.1, x4.un.2.1.un.2.2.1, x4.un.2.1.un.2.2.2), x4.un.2.2.1, x4.un.2.2.2.1, x4.un.2.2.2.2))).bind fun x5 => some (.inl (min (CI (x2 * x5)) 1000, CI (x3 + 1))) else some (.inr x2))
noncomputable def Cn (fRec : Tr28 → Option Int) (p0 : Tr28) : (Int × Int) → Option ((Int × Int) ⊕ Int)
  | (x6, x7) => (if x7 < (p0.un.2.2.2.2.length : Int) then (ix p0.un.2.2.2.2 x7).bind fun x8 => (fRec (Tr28.of (x8.un.1, Tr25.of (x8.un.2.1.un.1, x8.un.2.1.un.2.1, x8.un.2.1.un.2.2.1, x8.un.2.1.un.2.2.2), x8.un.2.2.1, x8.un.2.2.2.1, x8.un.2.2.2.2))).bind fun x9 => some (.inl (min (CI (x6 + x9)) 1000, CI (x7 + 1))) else some (.inr x6))
noncomputable def Cm (fRec : Tr28 → Option Int) (p0 : Tr28) : (Int × Int) → Option ((Int × Int) ⊕ Int)
  | (x10, x11) => (if x11 < (p0.un.2.2.2.2.length : Int) then (ix p0.un.2.2.2.2 x11).bind fun x12 => (fRec (Tr28.of (x12.un.1, Tr25.of (x12.un.2.1.un.1, x12.un.2.1.un.2.1, x12.un.2.1.un.2.2.1, x12.un.2.1.un.2.2.2), x12.un.2.2.1, x12.un.2.2.2.1, x12.un.2.2.2.2))).bind fun x13 => some (.inl (max x10 x13, CI (x11 + 1))) else some (.inr x10))
noncomputable def C4 (fRec : Tr28 → Option Int) (p0 : Tr28) : Option Int := (if p0.un.1 = 3 then Bo (Cp fRec p0) (1, 0) else (if p0.un.1 = 4 then Bo (Cn fRec p0) (0, 0) else (if p0.un.1 = 5 then Bo (Cm fRec p0) (0, 0) else some 1))).bind fun x1 => some x1
noncomputable def BZ : Nat → Tr28 → Option Int
  | 0 => fun _ => none
  | n + 1 => C4 (BZ n)
noncomputable def IJ (p0 : Tr28) : Option Int := Ge fun n => BZ n p0
theorem Lb (fRec : Tr28 → Option Int) (ih : ∀ (Y : Nat → Prop) (w0 : World) (v1 : Value) (v2 : Value) (p0 : Tr28) (r : Int) (H : fRec p0 = some r) (h_v1 : Sl w0 (NX []) A6 v1 p0.un.2.1.un.2.2.2) (h_v2 : Sl w0 (NX []) BJ v2 p0.un.2.2.2.2), Calls Tryd.prog 54 #[.agg #[.int .i64 p0.un.1, .int .i64 p0.un.2.1.un.1, .int .i64 p0.un.2.1.un.2.1, .int .i64 p0.un.2.1.un.2.2.1, v1, .int .i64 p0.un.2.2.1, .int .i64 p0.un.2.2.2.1, v2]] w0 fun e w' => e = .returned (.int .i64 r) ∧ Below w0.heap.size w0 w') (Y : Nat → Prop) (w0 : World) (v1 : Value) (v2 : Value) (p0 : Tr28) (r : Int) (H : C4 fRec p0 = some r) (h_v1 : Sl w0 (NX []) A6 v1 p0.un.2.1.un.2.2.2) (h_v2 : Sl w0 (NX []) BJ v2 p0.un.2.2.2.2) :
    Calls Tryd.prog 54 #[.agg #[.int .i64 p0.un.1, .int .i64 p0.un.2.1.un.1, .int .i64 p0.un.2.1.un.2.1, .int .i64 p0.un.2.1.un.2.2.1, v1, .int .i64 p0.un.2.2.1, .int .i64 p0.un.2.2.2.1, v2]] w0 fun e w' => e = .returned (.int .i64 r) ∧ Below w0.heap.size w0 w' := by
 refine enter Tryd.func54 Aa Tryd.ntmps54 Aa fun a F => ?_
 have W := Stw.start Y w0
 obtain ⟨v3, h1, h_v1⟩ := h_v1.ex CF
 obtain ⟨v4, h2, h_v2⟩ := h_v2.ex Eg
 unfold C4 at H
 refine Ah (Ab ?_)
 refine FH (cs := (Fa p0 v1 v2)) F W Aa Aa Aa fun b1 a w F W => ?_
 refine ls F W Aa (Ag F Aa).q fun a w F W => ?_
 refine Ae (Ac (Ah (Ab ?_)))
 refine ls F W Aa (Ag F Aa).q fun a w F W => ?_
 refine Ae (Ac ?_)
 obtain ⟨o1, G1, K1⟩ := Aq H
 refine BK (fun a w => ∃ x1 : Int, some (x1) = some o1 ∧ Fr 57 [] [(2, .int .i64 0), (3, .int .i64 x1)] a ∧ Stw ⟨Y, [], w0⟩ (E8 b1 p0 v1 v2) [] w) ?_ ?_
 ·
  have H := G1
  clear G1 K1
  refine Ah (Ab ?_)
  refine ls F W Aa (Al Dm Aa Aa Aa T3 F Aa 0 Aa).q fun a w F W => ?_
  refine ls F W Aa (Aw (v := Value.int .i64 p0.un.1) 0 F Aa Aa T3 Aa).q fun a w F W => ?_
  refine Ae (Ac (Bb (Ah (Ab ?_))))
  refine ls F W Aa (Bw F Aa Aa).q fun a w F W => ?_
  refine ls F W Aa (Ag F Aa).q fun a w F W => ?_
  refine Ae (Ac ?_)
  refine AC F Aa (fun hb => ?_) fun hb => ?_
  ·
   have H := Ba (BM hb) H
   rw [hb] at F
   clear hb
   refine Ah (Ab ?_)
   refine ls F W Aa (Ag F Aa).q fun a w F W => ?_
   refine Ae (Ac (Ah (Ab ?_)))
   refine ls F W Aa (Al Dm Aa Aa Aa JM F Aa 7 Aa).q fun a w F W => ?_
   refine ls F W Aa (Aw (v := v2) 0 F Aa Aa JM Aa).q fun a w F W => ?_
   refine ls F W Aa (DC (r := BJ) (l := p0.un.2.2.2.2) IX Aa F Aa (Bd Eg h2 (AG h_v2))).q fun a w F W => ?_
   refine ls F W Aa (Ai F Aa).q fun a w F W => ?_
   refine Ae (Ac (Bb ?_))
   refine Dl H (fun s a w => Fr 57 [] [(2, .int .i64 0), (3, .int .i64 s.1), (15, v2), (16, .int .i64 (p0.un.2.2.2.2.length : Int)), (17, .int .i64 s.2)] a ∧ Stw ⟨Y, [], w0⟩ (E8 b1 p0 v1 v2) [] w) ⟨F.re ⟨rfl, Aa, Aa, Aa, Aa, trivial⟩, W⟩ fun s o a w H L2 hR => ?_
   obtain ⟨x2, x3⟩ := s
   obtain ⟨F, W⟩ := hR
   have F : Fr 57 [] [(2, .int .i64 0), (3, .int .i64 x2), (15, v2), (16, .int .i64 (p0.un.2.2.2.2.length : Int)), (17, .int .i64 x3)] a := F
   have W : Stw ⟨Y, [], w0⟩ (E8 b1 p0 v1 v2) [] w := W
   rw [Cp] at H
   refine Ah (Ab ?_)
   refine ls F W Aa (Fx F Aa Aa).q fun a w F W => ?_
   refine Ae (Ac (Ah ?_))
   refine AC F Aa (fun hb => ?_) fun hb => ?_
   ·
    have H := Ba (BM hb) H
    rw [hb] at F
    clear hb
    refine AM (Ac (Ah (Bb (Ah (Ab ?_)))))
    obtain ⟨x4, h3, H⟩ := Aq H
    obtain ⟨v5, h4, h5⟩ := Gy h2 h3
    have h6 : Ic v5 = [.int .i64 x4.un.1, .int .i64 x4.un.2.1.un.1, .int .i64 x4.un.2.1.un.2.1, .int .i64 x4.un.2.1.un.2.2.1, (v5.2.1.2.2.2.1), .int .i64 x4.un.2.2.1, .int .i64 x4.un.2.2.2.1, (v5.2.2.2.2.1)] := congrArg (fun q : Tr28 => ([.int .i64 q.un.1, .int .i64 q.un.2.1.un.1, .int .i64 q.un.2.1.un.2.1, .int .i64 q.un.2.1.un.2.2.1, (v5.2.1.2.2.2.1), .int .i64 q.un.2.2.1, .int .i64 q.un.2.2.2.1, (v5.2.2.2.2.1)] : List Value)) h5
    refine ls F W Aa (DS (r := Mr) OM F Aa Aa (AG h_v2) h4).q fun a w F W => ?_
    refine ls F W Aa (CG (y := Value.agg #[.int .i64 x4.un.1, .int .i64 x4.un.2.1.un.1, .int .i64 x4.un.2.1.un.2.1, .int .i64 x4.un.2.1.un.2.2.1, (v5.2.1.2.2.2.1), .int .i64 x4.un.2.2.1, .int .i64 x4.un.2.2.2.1, (v5.2.2.2.2.1)]) (j := 0) (i := x3) (enc := Ic) F Aa Aa (AG h_v2) h4 NE D1 (by rw [h6]; rfl)).q fun a w F W => ?_
    refine BA (cs := (BU)) F W Aa JT Aa fun b2 a w F W => ?_
    refine AP (vs := [.int .i64 x4.un.1, .int .i64 x4.un.2.1.un.1, .int .i64 x4.un.2.1.un.2.1, .int .i64 x4.un.2.1.un.2.2.1, (v5.2.1.2.2.2.1), .int .i64 x4.un.2.2.1, .int .i64 x4.un.2.2.2.1, (v5.2.2.2.2.1)]) (M' := [(b2, [.int .i64 x4.un.1, .int .i64 x4.un.2.1.un.1, .int .i64 x4.un.2.1.un.2.1, .int .i64 x4.un.2.1.un.2.2.1, (v5.2.1.2.2.2.1), .int .i64 x4.un.2.2.1, .int .i64 x4.un.2.2.2.1, (v5.2.2.2.2.1)]), (b1, (Fa p0 v1 v2))]) 0 F W Aa Aa Aa D1 Aa Aa Aa (Af Aa (Af Aa (Af Aa (Af Aa (Af ((Cz (AG h_v2) h4 (AE.snd (AE.fst (AE.snd (AE.snd (AE.snd AE.here))))) (congrArg (fun q : Tr28 => q.un.2.1.un.2.2.2) h5)) _ W).one (Af Aa (Af Aa (Af ((Cz (AG h_v2) h4 (AE.snd (AE.snd (AE.snd (AE.snd AE.here)))) (congrArg (fun q : Tr28 => q.un.2.2.2.2) h5)) _ W).one BC)))))))) Aa fun w W => ?_
    refine Ae (Ac (Ab ?_))
    refine ls F W Aa (Ai F Aa).q fun a w F W => ?_
    refine ls F W Aa (Aw (v := Value.agg #[.int .i64 x4.un.1, .int .i64 x4.un.2.1.un.1, .int .i64 x4.un.2.1.un.2.1, .int .i64 x4.un.2.1.un.2.2.1, (v5.2.1.2.2.2.1), .int .i64 x4.un.2.2.1, .int .i64 x4.un.2.2.2.1, (v5.2.2.2.2.1)]) 0 F Aa Aa D1 Aa).q fun a w F W => ?_
    obtain ⟨x5, h7, H⟩ := Aq H
    refine ls F W Aa (Bx (v := Value.int .i64 x5) F TR Aa (fun w W => ih any w ((v5.2.1.2.2.2.1)) ((v5.2.2.2.2.1)) (Tr28.of (x4.un.1, Tr25.of (x4.un.2.1.un.1, x4.un.2.1.un.2.1, x4.un.2.1.un.2.2.1, x4.un.2.1.un.2.2.2), x4.un.2.2.1, x4.un.2.2.2.1, x4.un.2.2.2.2)) _ h7 (((Cz (AG h_v2) h4 (AE.snd (AE.fst (AE.snd (AE.snd (AE.snd AE.here))))) (congrArg (fun q : Tr28 => q.un.2.1.un.2.2.2) h5)) : EB _ _ _ _ _ _) w W).nx (((Cz (AG h_v2) h4 (AE.snd (AE.snd (AE.snd (AE.snd AE.here)))) (congrArg (fun q : Tr28 => q.un.2.2.2.2) h5)) : EB _ _ _ _ _ _) w W).nx)) fun a w F W => ?_
    refine ls F W Aa (Sa F Aa Aa Aa).q fun a w F W => ?_
    refine ls F W Aa (R9 F Aa Aa).q fun a w F W => ?_
    refine ls F W Aa (Ag F Aa).q fun a w F W => ?_
    refine Ae (BI (Ac (Ab ?_)))
    refine ls F W Aa (Fe F Aa Aa Aa).q fun a w F W => ?_
    refine ls F W Aa (Ai F Aa).q fun a w F W => ?_
    refine Ae (Ac ?_)
    have W := W.frontM (i := 1) Aa Aa
    have W := W.sub (M' := (E8 b1 p0 v1 v2)) (Z' := []) (List.Sublist.cons_cons _ (List.nil_sublist _)) (List.Sublist.refl _)
    exact ⟨_, H, F.re ⟨rfl, Aa, Aa, Aa, Aa, trivial⟩, W⟩
   have H := Bc (BL hb) H
   rw [hb] at F
   clear hb
   refine Do ?_
   iterate 2 refine Er ?_
   refine Dk (BI (Ac ?_))
   have H := L2 _ H
   exact ⟨_, H, F.re ⟨rfl, Aa, trivial⟩, W⟩
  have H := Bc (BL hb) H
  rw [hb] at F
  clear hb
  refine Ah (Ab ?_)
  refine ls F W Aa (Bw F Aa Aa).q fun a w F W => ?_
  refine ls F W Aa (Ag F Aa).q fun a w F W => ?_
  refine Ae (Ac ?_)
  refine AC F Aa (fun hb => ?_) fun hb => ?_
  ·
   have H := Ba (BM hb) H
   rw [hb] at F
   clear hb
   refine Ah (Ab ?_)
   refine ls F W Aa (Al Dm Aa Aa Aa JM F Aa 7 Aa).q fun a w F W => ?_
   refine ls F W Aa (Aw (v := v2) 0 F Aa Aa JM Aa).q fun a w F W => ?_
   refine ls F W Aa (DC (r := BJ) (l := p0.un.2.2.2.2) IX Aa F Aa (Bd Eg h2 (AG h_v2))).q fun a w F W => ?_
   refine ls F W Aa (Ai F Aa).q fun a w F W => ?_
   refine Ae (Ac (Bb ?_))
   refine Dl H (fun s a w => Fr 57 [] [(2, .int .i64 0), (3, .int .i64 s.1), (30, v2), (31, .int .i64 (p0.un.2.2.2.2.length : Int)), (32, .int .i64 s.2)] a ∧ Stw ⟨Y, [], w0⟩ (E8 b1 p0 v1 v2) [] w) ⟨F.re ⟨rfl, Aa, Aa, Aa, Aa, trivial⟩, W⟩ fun s o a w H L3 hR => ?_
   obtain ⟨x6, x7⟩ := s
   obtain ⟨F, W⟩ := hR
   have F : Fr 57 [] [(2, .int .i64 0), (3, .int .i64 x6), (30, v2), (31, .int .i64 (p0.un.2.2.2.2.length : Int)), (32, .int .i64 x7)] a := F
   have W : Stw ⟨Y, [], w0⟩ (E8 b1 p0 v1 v2) [] w := W
   rw [Cn] at H
   refine Ah (Ab ?_)
   refine ls F W Aa (Fx F Aa Aa).q fun a w F W => ?_
   refine Ae (Ac (Ah ?_))
   refine AC F Aa (fun hb => ?_) fun hb => ?_
   ·
    have H := Ba (BM hb) H
    rw [hb] at F
    clear hb
    refine AM (Ac (Ah (Bb (Ah (Ab ?_)))))
    obtain ⟨x8, h8, H⟩ := Aq H
    obtain ⟨v6, h9, h10⟩ := Gy h2 h8
    have h11 : Ic v6 = [.int .i64 x8.un.1, .int .i64 x8.un.2.1.un.1, .int .i64 x8.un.2.1.un.2.1, .int .i64 x8.un.2.1.un.2.2.1, (v6.2.1.2.2.2.1), .int .i64 x8.un.2.2.1, .int .i64 x8.un.2.2.2.1, (v6.2.2.2.2.1)] := congrArg (fun q : Tr28 => ([.int .i64 q.un.1, .int .i64 q.un.2.1.un.1, .int .i64 q.un.2.1.un.2.1, .int .i64 q.un.2.1.un.2.2.1, (v6.2.1.2.2.2.1), .int .i64 q.un.2.2.1, .int .i64 q.un.2.2.2.1, (v6.2.2.2.2.1)] : List Value)) h10
    refine ls F W Aa (DS (r := Mr) OM F Aa Aa (AG h_v2) h9).q fun a w F W => ?_
    refine ls F W Aa (CG (y := Value.agg #[.int .i64 x8.un.1, .int .i64 x8.un.2.1.un.1, .int .i64 x8.un.2.1.un.2.1, .int .i64 x8.un.2.1.un.2.2.1, (v6.2.1.2.2.2.1), .int .i64 x8.un.2.2.1, .int .i64 x8.un.2.2.2.1, (v6.2.2.2.2.1)]) (j := 0) (i := x7) (enc := Ic) F Aa Aa (AG h_v2) h9 NE D1 (by rw [h11]; rfl)).q fun a w F W => ?_
    refine BA (cs := (BU)) F W Aa JT Aa fun b3 a w F W => ?_
    refine AP (vs := [.int .i64 x8.un.1, .int .i64 x8.un.2.1.un.1, .int .i64 x8.un.2.1.un.2.1, .int .i64 x8.un.2.1.un.2.2.1, (v6.2.1.2.2.2.1), .int .i64 x8.un.2.2.1, .int .i64 x8.un.2.2.2.1, (v6.2.2.2.2.1)]) (M' := [(b3, [.int .i64 x8.un.1, .int .i64 x8.un.2.1.un.1, .int .i64 x8.un.2.1.un.2.1, .int .i64 x8.un.2.1.un.2.2.1, (v6.2.1.2.2.2.1), .int .i64 x8.un.2.2.1, .int .i64 x8.un.2.2.2.1, (v6.2.2.2.2.1)]), (b1, (Fa p0 v1 v2))]) 0 F W Aa Aa Aa D1 Aa Aa Aa (Af Aa (Af Aa (Af Aa (Af Aa (Af ((Cz (AG h_v2) h9 (AE.snd (AE.fst (AE.snd (AE.snd (AE.snd AE.here))))) (congrArg (fun q : Tr28 => q.un.2.1.un.2.2.2) h10)) _ W).one (Af Aa (Af Aa (Af ((Cz (AG h_v2) h9 (AE.snd (AE.snd (AE.snd (AE.snd AE.here)))) (congrArg (fun q : Tr28 => q.un.2.2.2.2) h10)) _ W).one BC)))))))) Aa fun w W => ?_
    refine Ae (Ac (Ab ?_))
    refine ls F W Aa (Ai F Aa).q fun a w F W => ?_
    refine ls F W Aa (Aw (v := Value.agg #[.int .i64 x8.un.1, .int .i64 x8.un.2.1.un.1, .int .i64 x8.un.2.1.un.2.1, .int .i64 x8.un.2.1.un.2.2.1, (v6.2.1.2.2.2.1), .int .i64 x8.un.2.2.1, .int .i64 x8.un.2.2.2.1, (v6.2.2.2.2.1)]) 0 F Aa Aa D1 Aa).q fun a w F W => ?_
    obtain ⟨x9, h12, H⟩ := Aq H
    refine ls F W Aa (Bx (v := Value.int .i64 x9) F TR Aa (fun w W => ih any w ((v6.2.1.2.2.2.1)) ((v6.2.2.2.2.1)) (Tr28.of (x8.un.1, Tr25.of (x8.un.2.1.un.1, x8.un.2.1.un.2.1, x8.un.2.1.un.2.2.1, x8.un.2.1.un.2.2.2), x8.un.2.2.1, x8.un.2.2.2.1, x8.un.2.2.2.2)) _ h12 (((Cz (AG h_v2) h9 (AE.snd (AE.fst (AE.snd (AE.snd (AE.snd AE.here))))) (congrArg (fun q : Tr28 => q.un.2.1.un.2.2.2) h10)) : EB _ _ _ _ _ _) w W).nx (((Cz (AG h_v2) h9 (AE.snd (AE.snd (AE.snd (AE.snd AE.here)))) (congrArg (fun q : Tr28 => q.un.2.2.2.2) h10)) : EB _ _ _ _ _ _) w W).nx)) fun a w F W => ?_
    refine ls F W Aa (Fe F Aa Aa Aa).q fun a w F W => ?_
    refine ls F W Aa (R9 F Aa Aa).q fun a w F W => ?_
    refine ls F W Aa (Ag F Aa).q fun a w F W => ?_
    refine Ae (BI (Ac (Ab ?_)))
    refine ls F W Aa (Fe F Aa Aa Aa).q fun a w F W => ?_
    refine ls F W Aa (Ai F Aa).q fun a w F W => ?_
    refine Ae (Ac ?_)
    have W := W.frontM (i := 1) Aa Aa
    have W := W.sub (M' := (E8 b1 p0 v1 v2)) (Z' := []) (List.Sublist.cons_cons _ (List.nil_sublist _)) (List.Sublist.refl _)
    exact ⟨_, H, F.re ⟨rfl, Aa, Aa, Aa, Aa, trivial⟩, W⟩
   have H := Bc (BL hb) H
   rw [hb] at F
   clear hb
   refine Do ?_
   iterate 2 refine Er ?_
   refine Dk (BI (Ac ?_))
   have H := L3 _ H
   exact ⟨_, H, F.re ⟨rfl, Aa, trivial⟩, W⟩
  have H := Bc (BL hb) H
  rw [hb] at F
  clear hb
  refine Ah (Ab ?_)
  refine ls F W Aa (Bw F Aa Aa).q fun a w F W => ?_
  refine ls F W Aa (Ag F Aa).q fun a w F W => ?_
  refine Ae (Ac ?_)
  refine AC F Aa (fun hb => ?_) fun hb => ?_
  ·
   have H := Ba (BM hb) H
   rw [hb] at F
   clear hb
   refine Ah (Ab ?_)
   refine ls F W Aa (Al Dm Aa Aa Aa JM F Aa 7 Aa).q fun a w F W => ?_
   refine ls F W Aa (Aw (v := v2) 0 F Aa Aa JM Aa).q fun a w F W => ?_
   refine ls F W Aa (DC (r := BJ) (l := p0.un.2.2.2.2) IX Aa F Aa (Bd Eg h2 (AG h_v2))).q fun a w F W => ?_
   refine ls F W Aa (Ai F Aa).q fun a w F W => ?_
   refine Ae (Ac (Bb ?_))
   refine Dl H (fun s a w => Fr 57 [] [(2, .int .i64 0), (3, .int .i64 s.1), (45, v2), (46, .int .i64 (p0.un.2.2.2.2.length : Int)), (47, .int .i64 s.2)] a ∧ Stw ⟨Y, [], w0⟩ (E8 b1 p0 v1 v2) [] w) ⟨F.re ⟨rfl, Aa, Aa, Aa, Aa, trivial⟩, W⟩ fun s o a w H L4 hR => ?_
   obtain ⟨x10, x11⟩ := s
   obtain ⟨F, W⟩ := hR
   have F : Fr 57 [] [(2, .int .i64 0), (3, .int .i64 x10), (45, v2), (46, .int .i64 (p0.un.2.2.2.2.length : Int)), (47, .int .i64 x11)] a := F
   have W : Stw ⟨Y, [], w0⟩ (E8 b1 p0 v1 v2) [] w := W
   rw [Cm] at H
   refine Ah (Ab ?_)
   refine ls F W Aa (Fx F Aa Aa).q fun a w F W => ?_
   refine Ae (Ac (Ah ?_))
   refine AC F Aa (fun hb => ?_) fun hb => ?_
   ·
    have H := Ba (BM hb) H
    rw [hb] at F
    clear hb
    refine AM (Ac (Ah (Bb (Ah (Ab ?_)))))
    obtain ⟨x12, h13, H⟩ := Aq H
    obtain ⟨v7, h14, h15⟩ := Gy h2 h13
    have h16 : Ic v7 = [.int .i64 x12.un.1, .int .i64 x12.un.2.1.un.1, .int .i64 x12.un.2.1.un.2.1, .int .i64 x12.un.2.1.un.2.2.1, (v7.2.1.2.2.2.1), .int .i64 x12.un.2.2.1, .int .i64 x12.un.2.2.2.1, (v7.2.2.2.2.1)] := congrArg (fun q : Tr28 => ([.int .i64 q.un.1, .int .i64 q.un.2.1.un.1, .int .i64 q.un.2.1.un.2.1, .int .i64 q.un.2.1.un.2.2.1, (v7.2.1.2.2.2.1), .int .i64 q.un.2.2.1, .int .i64 q.un.2.2.2.1, (v7.2.2.2.2.1)] : List Value)) h15
    refine ls F W Aa (DS (r := Mr) OM F Aa Aa (AG h_v2) h14).q fun a w F W => ?_
    refine ls F W Aa (CG (y := Value.agg #[.int .i64 x12.un.1, .int .i64 x12.un.2.1.un.1, .int .i64 x12.un.2.1.un.2.1, .int .i64 x12.un.2.1.un.2.2.1, (v7.2.1.2.2.2.1), .int .i64 x12.un.2.2.1, .int .i64 x12.un.2.2.2.1, (v7.2.2.2.2.1)]) (j := 0) (i := x11) (enc := Ic) F Aa Aa (AG h_v2) h14 NE D1 (by rw [h16]; rfl)).q fun a w F W => ?_
    refine BA (cs := (BU)) F W Aa JT Aa fun b4 a w F W => ?_
    refine AP (vs := [.int .i64 x12.un.1, .int .i64 x12.un.2.1.un.1, .int .i64 x12.un.2.1.un.2.1, .int .i64 x12.un.2.1.un.2.2.1, (v7.2.1.2.2.2.1), .int .i64 x12.un.2.2.1, .int .i64 x12.un.2.2.2.1, (v7.2.2.2.2.1)]) (M' := [(b4, [.int .i64 x12.un.1, .int .i64 x12.un.2.1.un.1, .int .i64 x12.un.2.1.un.2.1, .int .i64 x12.un.2.1.un.2.2.1, (v7.2.1.2.2.2.1), .int .i64 x12.un.2.2.1, .int .i64 x12.un.2.2.2.1, (v7.2.2.2.2.1)]), (b1, (Fa p0 v1 v2))]) 0 F W Aa Aa Aa D1 Aa Aa Aa (Af Aa (Af Aa (Af Aa (Af Aa (Af ((Cz (AG h_v2) h14 (AE.snd (AE.fst (AE.snd (AE.snd (AE.snd AE.here))))) (congrArg (fun q : Tr28 => q.un.2.1.un.2.2.2) h15)) _ W).one (Af Aa (Af Aa (Af ((Cz (AG h_v2) h14 (AE.snd (AE.snd (AE.snd (AE.snd AE.here)))) (congrArg (fun q : Tr28 => q.un.2.2.2.2) h15)) _ W).one BC)))))))) Aa fun w W => ?_
    refine Ae (Ac (Ab ?_))
    refine ls F W Aa (Ai F Aa).q fun a w F W => ?_
    refine ls F W Aa (Aw (v := Value.agg #[.int .i64 x12.un.1, .int .i64 x12.un.2.1.un.1, .int .i64 x12.un.2.1.un.2.1, .int .i64 x12.un.2.1.un.2.2.1, (v7.2.1.2.2.2.1), .int .i64 x12.un.2.2.1, .int .i64 x12.un.2.2.2.1, (v7.2.2.2.2.1)]) 0 F Aa Aa D1 Aa).q fun a w F W => ?_
    obtain ⟨x13, h17, H⟩ := Aq H
    refine ls F W Aa (Bx (v := Value.int .i64 x13) F TR Aa (fun w W => ih any w ((v7.2.1.2.2.2.1)) ((v7.2.2.2.2.1)) (Tr28.of (x12.un.1, Tr25.of (x12.un.2.1.un.1, x12.un.2.1.un.2.1, x12.un.2.1.un.2.2.1, x12.un.2.1.un.2.2.2), x12.un.2.2.1, x12.un.2.2.2.1, x12.un.2.2.2.2)) _ h17 (((Cz (AG h_v2) h14 (AE.snd (AE.fst (AE.snd (AE.snd (AE.snd AE.here))))) (congrArg (fun q : Tr28 => q.un.2.1.un.2.2.2) h15)) : EB _ _ _ _ _ _) w W).nx (((Cz (AG h_v2) h14 (AE.snd (AE.snd (AE.snd (AE.snd AE.here)))) (congrArg (fun q : Tr28 => q.un.2.2.2.2) h15)) : EB _ _ _ _ _ _) w W).nx)) fun a w F W => ?_
    refine ls F W Aa (Tv F Aa Aa).q fun a w F W => ?_
    refine ls F W Aa (Ag F Aa).q fun a w F W => ?_
    refine Ae (BI (Ac (Ab ?_)))
    refine ls F W Aa (Fe F Aa Aa Aa).q fun a w F W => ?_
    refine ls F W Aa (Ai F Aa).q fun a w F W => ?_
    refine Ae (Ac ?_)
    have W := W.frontM (i := 1) Aa Aa
    have W := W.sub (M' := (E8 b1 p0 v1 v2)) (Z' := []) (List.Sublist.cons_cons _ (List.nil_sublist _)) (List.Sublist.refl _)
    exact ⟨_, H, F.re ⟨rfl, Aa, Aa, Aa, Aa, trivial⟩, W⟩
   have H := Bc (BL hb) H
   rw [hb] at F
   clear hb
   refine Do ?_
   iterate 2 refine Er ?_
   refine Dk (BI (Ac ?_))
   have H := L4 _ H
   exact ⟨_, H, F.re ⟨rfl, Aa, trivial⟩, W⟩
  have H := Bc (BL hb) H
  rw [hb] at F
  clear hb
  refine Ab ?_
  refine ls F W Aa (Ag F Aa).q fun a w F W => ?_
  refine Ae (BI (Ac ?_))
  exact ⟨_, H, F.re ⟨rfl, Aa, trivial⟩, W⟩
 rintro a w ⟨x1, hj, F, W⟩
 have hj := AR hj
 subst hj
 have H := K1
 clear G1 K1
 refine Ah (Ab ?_)
 refine ls F W Aa (Ai F Aa).q fun a w F W => ?_
 refine ls F W Aa (Ag F Aa).q fun a w F W => ?_
 refine Ae (Ac (Au ?_))
 have H := AR H
 subst H
 refine AO (.inl Aa) F W Aa (AD F Aa) ?_
 exact ⟨rfl, W.done⟩
theorem Mc : ∀ (n : Nat) (Y : Nat → Prop) (w0 : World) (v1 : Value) (v2 : Value) (p0 : Tr28) (r : Int) (H : BZ n p0 = some r) (h_v1 : Sl w0 (NX []) A6 v1 p0.un.2.1.un.2.2.2) (h_v2 : Sl w0 (NX []) BJ v2 p0.un.2.2.2.2), Calls Tryd.prog 54 #[.agg #[.int .i64 p0.un.1, .int .i64 p0.un.2.1.un.1, .int .i64 p0.un.2.1.un.2.1, .int .i64 p0.un.2.1.un.2.2.1, v1, .int .i64 p0.un.2.2.1, .int .i64 p0.un.2.2.2.1, v2]] w0 fun e w' => e = .returned (.int .i64 r) ∧ Below w0.heap.size w0 w' := by
  intro n
  induction n with
  | zero => intro Y w0 v1 v2 p0 r H; exact nomatch H
  | succ n ih => intro Y w0 v1 v2 p0 r H h_v1 h_v2; exact Lb (BZ n) ih Y w0 v1 v2 p0 r H h_v1 h_v2
theorem MD (Y : Nat → Prop) (w0 : World) (v1 : Value) (v2 : Value) (p0 : Tr28) (r : Int) (H : IJ p0 = some r) (h_v1 : Sl w0 (NX []) A6 v1 p0.un.2.1.un.2.2.2) (h_v2 : Sl w0 (NX []) BJ v2 p0.un.2.2.2.2) :
    Calls Tryd.prog 54 #[.agg #[.int .i64 p0.un.1, .int .i64 p0.un.2.1.un.1, .int .i64 p0.un.2.1.un.2.1, .int .i64 p0.un.2.1.un.2.2.1, v1, .int .i64 p0.un.2.2.1, .int .i64 p0.un.2.2.2.1, v2]] w0 fun e w' => e = .returned (.int .i64 r) ∧ Below w0.heap.size w0 w' := by
  obtain ⟨n, H⟩ := Cy H
  exact Mc n Y w0 v1 v2 p0 r H h_v1 h_v2
noncomputable def FK (p0 : Tr28) : Option Bool := ((DI 64 (Tr28.of (p0.un.1, Tr25.of (p0.un.2.1.un.1, p0.un.2.1.un.2.1, p0.un.2.1.un.2.2.1, p0.un.2.1.un.2.2.2), p0.un.2.2.1, p0.un.2.2.2.1, p0.un.2.2.2.2)) 8).bind fun x3 => (if x3.1 = true then (IJ (Tr28.of (p0.un.1, Tr25.of (p0.un.2.1.un.1, p0.un.2.1.un.2.1, p0.un.2.1.un.2.2.1, p0.un.2.1.un.2.2.2), p0.un.2.2.1, p0.un.2.2.2.1, p0.un.2.2.2.2))).bind fun x4 => some (decide (x4 ≤ 64), x3.2) else some (false, x3.2))).bind fun (x1, x2) => some x1
theorem LG (Y : Nat → Prop) (w0 : World) (v1 : Value) (v2 : Value) (p0 : Tr28) (r : Bool) (H : FK p0 = some r) (h_v1 : Sl w0 (NX []) A6 v1 p0.un.2.1.un.2.2.2) (h_v2 : Sl w0 (NX []) BJ v2 p0.un.2.2.2.2) :
    Calls Tryd.prog 24 #[.agg #[.int .i64 p0.un.1, .int .i64 p0.un.2.1.un.1, .int .i64 p0.un.2.1.un.2.1, .int .i64 p0.un.2.1.un.2.2.1, v1, .int .i64 p0.un.2.2.1, .int .i64 p0.un.2.2.2.1, v2]] w0 fun e w' => e = .returned (.bool r) ∧ Below w0.heap.size w0 w' := by
 refine enter Tryd.func24 Aa Tryd.ntmps24 Aa fun a F => ?_
 have W := Stw.start Y w0
 obtain ⟨v3, h1, h_v1⟩ := h_v1.ex CF
 obtain ⟨v4, h2, h_v2⟩ := h_v2.ex Eg
 unfold FK at H
 refine Ah (Ab ?_)
 refine FH (cs := (Fa p0 v1 v2)) F W Aa Aa Aa fun b1 a w F W => ?_
 refine ls F W Aa (Ag F Aa).q fun a w F W => ?_
 refine Ae (Ac (Ah (Ab ?_)))
 refine ls F W Aa (Cx (v := Value.agg #[.int .i64 64]) UW F Aa Aa Aa).q fun a w F W => ?_
 refine BA (cs := [.int .i64 0]) F W Aa U1 Aa fun b2 a w F W => ?_
 refine AP (vs := [.int .i64 64]) (M' := [(b2, [.int .i64 64]), (b1, [.int .i64 p0.un.1, .int .i64 p0.un.2.1.un.1, .int .i64 p0.un.2.1.un.2.1, .int .i64 p0.un.2.1.un.2.2.1, v1, .int .i64 p0.un.2.2.1, .int .i64 p0.un.2.2.2.1, v2])]) 0 F W Aa Aa Aa U6 Aa Aa Aa Aa Aa fun w W => ?_
 refine Ae (Ac ?_)
 obtain ⟨o1, G1, K1⟩ := Aq H
 refine BK (fun a w => ∃ x1 : Bool, ∃ x2 : Int, some ((x1, x2)) = some o1 ∧ Fr 12 [] [(2, .bool x1)] a ∧ Stw ⟨Y, [], w0⟩ [(b2, [.int .i64 x2]), (b1, [.int .i64 p0.un.1, .int .i64 p0.un.2.1.un.1, .int .i64 p0.un.2.1.un.2.1, .int .i64 p0.un.2.1.un.2.2.1, v1, .int .i64 p0.un.2.2.1, .int .i64 p0.un.2.2.2.1, v2])] [] w) ?_ ?_
 ·
  have H := G1
  clear G1 K1
  refine Ab ?_
  refine ls F W Aa (Aw (v := Value.agg #[.int .i64 p0.un.1, .int .i64 p0.un.2.1.un.1, .int .i64 p0.un.2.1.un.2.1, .int .i64 p0.un.2.1.un.2.2.1, v1, .int .i64 p0.un.2.2.1, .int .i64 p0.un.2.2.2.1, v2]) 1 F Aa Aa D1 Aa).q fun a w F W => ?_
  obtain ⟨x3, h3, H⟩ := Aq H
  refine Bp (Ml := [(b2, [.int .i64 64])]) (Zl := []) (M := (E8 b1 p0 v1 v2)) (Z := []) (β := Unit) (rv := fun x => .bool x3.1) (MM := fun x => [(b2, [.int .i64 x3.2])]) (ZZ := fun x => []) F W Uy Aa Aa (fun hL => H9 _ _ w b2 (v1) (v2) 64 (Tr28.of (p0.un.1, Tr25.of (p0.un.2.1.un.1, p0.un.2.1.un.2.1, p0.un.2.1.un.2.2.1, p0.un.2.1.un.2.2.2), p0.un.2.2.1, p0.un.2.2.2.1, p0.un.2.2.2.2)) 8 _ h3 (Sl.hide CF h1 (W.roX h_v1 (fun g hg => Jb hg))) (Sl.hide Eg h2 (W.roX h_v2 (fun g hg => Jb hg))) hL) fun x a w F W => ?_
  have W : Stw ⟨Y, [], w0⟩ [(b2, [.int .i64 x3.2]), (b1, [.int .i64 p0.un.1, .int .i64 p0.un.2.1.un.1, .int .i64 p0.un.2.1.un.2.1, .int .i64 p0.un.2.1.un.2.2.1, v1, .int .i64 p0.un.2.2.1, .int .i64 p0.un.2.2.2.1, v2])] [] w := W
  refine ls F W Aa (Ai F Aa).q fun a w F W => ?_
  rcases Bool.eq_false_or_eq_true x3.1 with hb | hb
  ·
   have H := Ba hb H
   rw [hb] at F
   clear hb
   refine Bn F W (Ak F Aa Aa Aa Aa) Aa (Ay Aa) (Aw (v := Value.agg #[.int .i64 p0.un.1, .int .i64 p0.un.2.1.un.1, .int .i64 p0.un.2.1.un.2.1, .int .i64 p0.un.2.1.un.2.2.1, v1, .int .i64 p0.un.2.2.1, .int .i64 p0.un.2.2.2.1, v2]) 1 F Aa Aa D1 Aa).q fun a w F W => ?_
   refine Kj (Ak F Aa Aa Aa Aa) ?_
   obtain ⟨x4, h4, H⟩ := Aq H
   refine ls F W Aa (Bx (v := Value.int .i64 x4) F TR Aa (fun w W => MD any w (v1) (v2) (Tr28.of (p0.un.1, Tr25.of (p0.un.2.1.un.1, p0.un.2.1.un.2.1, p0.un.2.1.un.2.2.1, p0.un.2.1.un.2.2.2), p0.un.2.2.1, p0.un.2.2.2.1, p0.un.2.2.2.2)) _ h4 (((Bd CF h1 (AG h_v1)) : EB _ _ _ _ _ _) w W).nx (((Bd Eg h2 (AG h_v2)) : EB _ _ _ _ _ _) w W).nx)) fun a w F W => ?_
   refine Bn F W (Ak F Aa Aa Aa Aa) Aa (Ay Aa) (I9 F Aa Aa).q fun a w F W => ?_
   refine ls F W Aa (A2 F Aa Aa Aa).q fun a w F W => ?_
   refine ls F W Aa (Ag F Aa).q fun a w F W => ?_
   refine Ae (Ac ?_)
   have W := W.frontM (i := 1) Aa Aa
   have W := W.frontM (i := 1) Aa Aa
   exact ⟨_, _, H, F.re ⟨rfl, trivial⟩, W⟩
  have H := Bc (by rw [hb]; decide) H
  rw [hb] at F
  clear hb
  iterate 3 refine EX F Aa Aa Aa Aa Aa Aa Aa fun a F => ?_
  refine ls F W Aa (Ax F Aa Aa Aa).q fun a w F W => ?_
  refine ls F W Aa (Ag F Aa).q fun a w F W => ?_
  refine Ae (Ac ?_)
  have W := W.frontM (i := 1) Aa Aa
  have W := W.frontM (i := 1) Aa Aa
  exact ⟨_, _, H, F.re ⟨rfl, trivial⟩, W⟩
 rintro a w ⟨x1, x2, hj, F, W⟩
 have hj := AR hj
 subst hj
 have H := K1
 clear G1 K1
 refine Au ?_
 have H := AR H
 subst H
 refine AO (.inl Aa) F W Aa (AD F Aa) ?_
 exact ⟨rfl, W.done⟩
theorem U7 : Has Tryd.prog 24 := ⟨fun args w => Am Tryd.func24 rfl (by decide) args w⟩
abbrev LW (a0 : Nat) (a1 : Tr28 × Int × Int) (a2 : Value) (a3 : Value) (a4 : Nat) (a5 : Tr28 × Int × Int) (a6 : Value) (a7 : Value) : List (Nat × List Value) := [(a0, [.int .i64 a1.1.un.1, .int .i64 a1.1.un.2.1.un.1, .int .i64 a1.1.un.2.1.un.2.1, .int .i64 a1.1.un.2.1.un.2.2.1, a2, .int .i64 a1.1.un.2.2.1, .int .i64 a1.1.un.2.2.2.1, a3]), (a4, [.int .i64 a5.1.un.1, .int .i64 a5.1.un.2.1.un.1, .int .i64 a5.1.un.2.1.un.2.1, .int .i64 a5.1.un.2.1.un.2.2.1, a6, .int .i64 a5.1.un.2.2.1, .int .i64 a5.1.un.2.2.2.1, a7])]
noncomputable def EC (p0 : List UInt8) : Option Bool := (if 1000 < (p0.length : Int) then (EN).bind fun x1 => some x1 else (B0 p0).bind fun x2 => (if x2.2.2 ≠ 0 then (EN).bind fun x3 => some x3 else (D0 ([40] : List UInt8) p0).bind fun x4 => (D0 x4 ([10, 41, 32, 35, 32, 101, 110, 100] : List UInt8)).bind fun x5 => (B0 x5).bind fun x6 => (if x6.2.2 ≠ 6 then (if x6.2.2 ≠ 0 then some true else (Gm (Tr28.of (x2.1.un.1, Tr25.of (x2.1.un.2.1.un.1, x2.1.un.2.1.un.2.1, x2.1.un.2.1.un.2.2.1, x2.1.un.2.1.un.2.2.2), x2.1.un.2.2.1, x2.1.un.2.2.2.1, x2.1.un.2.2.2.2)) (Tr28.of (x6.1.un.1, Tr25.of (x6.1.un.2.1.un.1, x6.1.un.2.1.un.2.1, x6.1.un.2.1.un.2.2.1, x6.1.un.2.1.un.2.2.2), x6.1.un.2.2.1, x6.1.un.2.2.2.1, x6.1.un.2.2.2.2))).bind fun x8 => some (!x8)) else some false).bind fun x7 => (if x7 = true then some false else ((FK (Tr28.of (x2.1.un.1, Tr25.of (x2.1.un.2.1.un.1, x2.1.un.2.1.un.2.1, x2.1.un.2.1.un.2.2.1, x2.1.un.2.1.un.2.2.2), x2.1.un.2.2.1, x2.1.un.2.2.2.1, x2.1.un.2.2.2.2))).bind fun x10 => (if (!x10) = true then some true else (Fv (Tr28.of (x2.1.un.1, Tr25.of (x2.1.un.2.1.un.1, x2.1.un.2.1.un.2.1, x2.1.un.2.1.un.2.2.1, x2.1.un.2.1.un.2.2.2), x2.1.un.2.2.1, x2.1.un.2.2.2.1, x2.1.un.2.2.2.2))).bind fun x11 => some (decide (4000 < (x11.length : Int))))).bind fun x9 => (if x9 = true then (EN).bind fun x12 => some x12 else (Fv (Tr28.of (x2.1.un.1, Tr25.of (x2.1.un.2.1.un.1, x2.1.un.2.1.un.2.1, x2.1.un.2.1.un.2.2.1, x2.1.un.2.1.un.2.2.2), x2.1.un.2.2.1, x2.1.un.2.2.2.1, x2.1.un.2.2.2.2))).bind fun x13 => (B0 x13).bind fun x14 => (if x14.2.2 = 0 then (Gm (Tr28.of (x2.1.un.1, Tr25.of (x2.1.un.2.1.un.1, x2.1.un.2.1.un.2.1, x2.1.un.2.1.un.2.2.1, x2.1.un.2.1.un.2.2.2), x2.1.un.2.2.1, x2.1.un.2.2.2.1, x2.1.un.2.2.2.2)) (Tr28.of (x14.1.un.1, Tr25.of (x14.1.un.2.1.un.1, x14.1.un.2.1.un.2.1, x14.1.un.2.1.un.2.2.1, x14.1.un.2.1.un.2.2.2), x14.1.un.2.2.1, x14.1.un.2.2.2.1, x14.1.un.2.2.2.2))).bind fun x16 => (if x16 = true then (EN).bind fun x17 => some x17 else some false) else some false).bind fun x15 => some x15))))
theorem Kr (Y : Nat → Prop) (w0 : World)  (p0 : List UInt8) (r : Bool) (H : EC p0 = some r) (hG : Gk [] w0) :
    Calls Tryd.prog 5 #[.string (bs p0)] w0 fun e w' => e = .returned (.bool r) ∧ Below w0.heap.size w0 w' := by
 refine enter Tryd.func5 Aa Tryd.ntmps5 Aa fun a F => ?_
 have W := Stw.start Y w0
 unfold EC at H
 refine Ah (Ab ?_)
 refine ls F W Aa (Ag F Aa).q fun a w F W => ?_
 refine Ae (Ac (Ah (Ah (Ab ?_))))
 refine ls F W Aa (Ai F Aa).q fun a w F W => ?_
 refine ls F W Aa (Fo (l := p0) KM Aa F Aa).q fun a w F W => ?_
 refine ls F W Aa (KQ F Aa Aa).q fun a w F W => ?_
 refine Ae (Ac ?_)
 refine AC F Aa (fun hb => ?_) fun hb => ?_
 ·
  have H := Ba (BM hb) H
  rw [hb] at F
  clear hb
  refine Ah (Ab ?_)
  obtain ⟨x1, h1, H⟩ := Aq H
  refine ls F W Aa (Bx (v := Value.bool x1) F H6 Aa (fun w W => Hk any w _ h1 (hG.go0 W))) fun a w F W => ?_
  refine ls F W Aa (Ag F Aa).q fun a w F W => ?_
  refine Ae (Ac (Au (AV ?_)))
  have H := AR H
  subst H
  refine AO (.inl Aa) F W Aa (AD F Aa) ?_
  exact ⟨rfl, W.done⟩
 have H := Bc (BL hb) H
 rw [hb] at F
 clear hb
 refine AM (Ac (Ah (Ab ?_)))
 refine ls F W Aa (Ai F Aa).q fun a w F W => ?_
 obtain ⟨x2, h2, H⟩ := Aq H
 refine Bp (Ml := []) (Zl := []) (M := []) (Z := []) (β := Value × Value) (rv := fun x => .tuple #[.agg #[.int .i64 x2.1.un.1, .int .i64 x2.1.un.2.1.un.1, .int .i64 x2.1.un.2.1.un.2.1, .int .i64 x2.1.un.2.1.un.2.2.1, x.1, .int .i64 x2.1.un.2.2.1, .int .i64 x2.1.un.2.2.2.1, x.2], .int .i64 x2.2.1, .int .i64 x2.2.2]) (MM := fun x => []) (ZZ := fun x => [A4 x.1 A6 x2.1.un.2.1.un.2.2.2, A4 x.2 BJ x2.1.un.2.2.2.2]) F W H7 Aa Aa (fun hL => F7 _ w p0 _ h2) fun x a w F W => ?_
 obtain ⟨v1, v2⟩ := x
 have W : Stw ⟨Y, [], w0⟩ [] [A4 v1 A6 x2.1.un.2.1.un.2.2.2, A4 v2 BJ x2.1.un.2.2.2.2] w := W
 refine ls F W Aa (Ai F Aa).q fun a w F W => ?_
 refine ls F W Aa (B9 (v := Value.agg #[.int .i64 x2.1.un.1, .int .i64 x2.1.un.2.1.un.1, .int .i64 x2.1.un.2.1.un.2.1, .int .i64 x2.1.un.2.1.un.2.2.1, v1, .int .i64 x2.1.un.2.2.1, .int .i64 x2.1.un.2.2.2.1, v2]) F Aa Aa).q fun a w F W => ?_
 refine ls F W Aa (B9 (v := Value.int .i64 x2.2.1) F Aa Aa).q fun a w F W => ?_
 refine ls F W Aa (B9 (v := Value.int .i64 x2.2.2) F Aa Aa).q fun a w F W => ?_
 refine BA (cs := (BU)) F W Aa JT Aa fun b1 a w F W => ?_
 refine AP (vs := (Jv x2 v1 v2)) (M' := (OA b1 x2 v1 v2)) 0 F W Aa Aa Aa D1 Aa Aa Aa (Af Aa (Af Aa (Af Aa (Af Aa (Af (W.oneF (k := 0) Aa) (Af Aa (Af Aa (Af (W.oneF (k := 1) Aa) BC)))))))) Aa fun w W => ?_
 iterate 2 refine ls F W Aa (Ag F Aa).q fun a w F W => ?_
 refine Ae (Ac (Ah (Ah (Ab ?_))))
 refine ls F W Aa (Ai F Aa).q fun a w F W => ?_
 refine ls F W Aa (Gn F Aa Aa).q fun a w F W => ?_
 refine Ae (Ac ?_)
 refine AC F Aa (fun hb => ?_) fun hb => ?_
 ·
  have H := Ba (BM hb) H
  rw [hb] at F
  clear hb
  refine Ah (Ab ?_)
  obtain ⟨x3, h3, H⟩ := Aq H
  refine ls F W Aa (Bx (v := Value.bool x3) F H6 Aa (fun w W => Hk any w _ h3 (hG.go0 W))) fun a w F W => ?_
  refine ls F W Aa (Ag F Aa).q fun a w F W => ?_
  refine Ae (Ac (Au (AV ?_)))
  have H := AR H
  subst H
  refine AO (.inl Aa) F W Aa (AD F Aa) ?_
  exact ⟨rfl, W.done⟩
 have H := Bc (BL hb) H
 rw [hb] at F
 clear hb
 refine AM (Ac (Ah (Ab ?_)))
 refine ls F W Aa (Ai F Aa).q fun a w F W => ?_
 obtain ⟨x4, h4, H⟩ := Aq H
 refine ls F W Aa (Fm (l := ([40] : List UInt8)) (m := p0) F Aa Aa h4).q fun a w F W => ?_
 obtain ⟨x5, h5, H⟩ := Aq H
 refine ls F W Aa (Fm (l := x4) (m := ([10, 41, 32, 35, 32, 101, 110, 100] : List UInt8)) F Aa Aa h5).q fun a w F W => ?_
 obtain ⟨x6, h6, H⟩ := Aq H
 refine Bp (Ml := []) (Zl := []) (M := (OA b1 x2 v1 v2)) (Z := [A4 v1 A6 x2.1.un.2.1.un.2.2.2, A4 v2 BJ x2.1.un.2.2.2.2]) (β := Value × Value) (rv := fun x => .tuple #[.agg #[.int .i64 x6.1.un.1, .int .i64 x6.1.un.2.1.un.1, .int .i64 x6.1.un.2.1.un.2.1, .int .i64 x6.1.un.2.1.un.2.2.1, x.1, .int .i64 x6.1.un.2.2.1, .int .i64 x6.1.un.2.2.2.1, x.2], .int .i64 x6.2.1, .int .i64 x6.2.2]) (MM := fun x => []) (ZZ := fun x => [A4 x.1 A6 x6.1.un.2.1.un.2.2.2, A4 x.2 BJ x6.1.un.2.2.2.2]) F W H7 Aa Aa (fun hL => F7 _ w x5 _ h6) fun x a w F W => ?_
 obtain ⟨v3, v4⟩ := x
 have W : Stw ⟨Y, [], w0⟩ (OA b1 x2 v1 v2) [A4 v3 A6 x6.1.un.2.1.un.2.2.2, A4 v4 BJ x6.1.un.2.2.2.2, A4 v1 A6 x2.1.un.2.1.un.2.2.2, A4 v2 BJ x2.1.un.2.2.2.2] w := W
 refine ls F W Aa (Ai F Aa).q fun a w F W => ?_
 refine ls F W Aa (B9 (v := Value.agg #[.int .i64 x6.1.un.1, .int .i64 x6.1.un.2.1.un.1, .int .i64 x6.1.un.2.1.un.2.1, .int .i64 x6.1.un.2.1.un.2.2.1, v3, .int .i64 x6.1.un.2.2.1, .int .i64 x6.1.un.2.2.2.1, v4]) F Aa Aa).q fun a w F W => ?_
 refine ls F W Aa (B9 (v := Value.int .i64 x6.2.1) F Aa Aa).q fun a w F W => ?_
 refine ls F W Aa (B9 (v := Value.int .i64 x6.2.2) F Aa Aa).q fun a w F W => ?_
 refine BA (cs := (BU)) F W Aa JT Aa fun b2 a w F W => ?_
 refine AP (vs := (Jv x6 v3 v4)) (M' := (LW b2 x6 v3 v4 b1 x2 v1 v2)) 0 F W Aa Aa Aa D1 Aa Aa Aa (Af Aa (Af Aa (Af Aa (Af Aa (Af (W.oneF (k := 0) Aa) (Af Aa (Af Aa (Af (W.oneF (k := 1) Aa) BC)))))))) Aa fun w W => ?_
 iterate 2 refine ls F W Aa (Ag F Aa).q fun a w F W => ?_
 refine Ae (Ac (Ah ?_))
 obtain ⟨o1, G1, K1⟩ := Aq H
 refine BK (fun a w => ∃ x7 : Bool, some (x7) = some o1 ∧ Fr 72 [] [(2, .bool false), (3, .pointer (some ⟨b1, 0, none⟩)), (44, .bool x7)] a ∧ Stw ⟨Y, [], w0⟩ (LW b2 x6 v3 v4 b1 x2 v1 v2) [A4 v3 A6 x6.1.un.2.1.un.2.2.2, A4 v4 BJ x6.1.un.2.2.2.2, A4 v1 A6 x2.1.un.2.1.un.2.2.2, A4 v2 BJ x2.1.un.2.2.2.2] w) ?_ ?_
 ·
  have H := G1
  clear G1 K1
  refine Ab ?_
  refine ls F W Aa (Ai F Aa).q fun a w F W => ?_
  refine ls F W Aa (Gn F Aa Aa).q fun a w F W => ?_
  refine ls F W Aa (Ai F Aa).q fun a w F W => ?_
  rcases Bool.eq_false_or_eq_true (decide (x6.2.2 ≠ 6)) with hb | hb
  ·
   have H := Ba (BM hb) H
   rw [hb] at F
   clear hb
   refine Bn F W (Ak F Aa Aa Aa Aa) Aa (Ay Aa) (Ai F Aa).q fun a w F W => ?_
   refine Bn F W (Ak F Aa Aa Aa Aa) Aa (Ay Aa) (Gn F Aa Aa).q fun a w F W => ?_
   refine Bn F W (Ak F Aa Aa Aa Aa) Aa (Ay Aa) (Ai F Aa).q fun a w F W => ?_
   rcases Bool.eq_false_or_eq_true (decide (x6.2.2 ≠ 0)) with hb | hb
   ·
    have H := Ba (BM hb) H
    rw [hb] at F
    clear hb
    iterate 4 refine EX F Aa Aa Aa Aa Aa Aa Aa fun a F => ?_
    refine Bn F W (Ak F Aa Aa Aa Aa) Aa (Ay Aa) (A2 F Aa Aa Aa).q fun a w F W => ?_
    refine ls F W Aa (A2 F Aa Aa Aa).q fun a w F W => ?_
    refine Ae (Ac ?_)
    have W := W.frontZ (i := 3) Aa Aa
    have W := W.frontZ (i := 3) Aa Aa
    have W := W.frontZ (i := 3) Aa Aa
    have W := W.frontZ (i := 3) Aa Aa
    have W := W.frontM (i := 1) Aa Aa
    have W := W.frontM (i := 1) Aa Aa
    exact ⟨_, H, F.re ⟨rfl, Aa, Aa, trivial⟩, W⟩
   have H := Bc (BL hb) H
   rw [hb] at F
   clear hb
   refine Bn F W (Ak F Aa Aa Aa Aa) Aa (Ay Aa) (Aw (v := Value.agg #[.int .i64 x2.1.un.1, .int .i64 x2.1.un.2.1.un.1, .int .i64 x2.1.un.2.1.un.2.1, .int .i64 x2.1.un.2.1.un.2.2.1, v1, .int .i64 x2.1.un.2.2.1, .int .i64 x2.1.un.2.2.2.1, v2]) 1 F Aa Aa D1 Aa).q fun a w F W => ?_
   refine Bn F W (Ak F Aa Aa Aa Aa) Aa (Ay Aa) (Aw (v := Value.agg #[.int .i64 x6.1.un.1, .int .i64 x6.1.un.2.1.un.1, .int .i64 x6.1.un.2.1.un.2.1, .int .i64 x6.1.un.2.1.un.2.2.1, v3, .int .i64 x6.1.un.2.2.1, .int .i64 x6.1.un.2.2.2.1, v4]) 0 F Aa Aa D1 Aa).q fun a w F W => ?_
   refine Kj (Ak F Aa Aa Aa Aa) ?_
   obtain ⟨x8, h7, H⟩ := Aq H
   refine ls F W Aa (Bx (v := Value.bool x8) F TY Aa (fun w W => Jr any w (v1) (v2) (v3) (v4) (Tr28.of (x2.1.un.1, Tr25.of (x2.1.un.2.1.un.1, x2.1.un.2.1.un.2.1, x2.1.un.2.1.un.2.2.1, x2.1.un.2.1.un.2.2.2), x2.1.un.2.2.1, x2.1.un.2.2.2.1, x2.1.un.2.2.2.2)) (Tr28.of (x6.1.un.1, Tr25.of (x6.1.un.2.1.un.1, x6.1.un.2.1.un.2.1, x6.1.un.2.1.un.2.2.1, x6.1.un.2.1.un.2.2.2), x6.1.un.2.2.1, x6.1.un.2.2.2.1, x6.1.un.2.2.2.2)) _ h7 (((DK 2 Aa) : EB _ _ _ _ _ _) w W).nx (((DK 3 Aa) : EB _ _ _ _ _ _) w W).nx (((DK 0 Aa) : EB _ _ _ _ _ _) w W).nx (((DK 1 Aa) : EB _ _ _ _ _ _) w W).nx)) fun a w F W => ?_
   refine Bn F W (Ak F Aa Aa Aa Aa) Aa (Ay Aa) (Iu F Aa).q fun a w F W => ?_
   refine Bn F W (Ak F Aa Aa Aa Aa) Aa (Ay Aa) (Ax F Aa Aa Aa).q fun a w F W => ?_
   refine ls F W Aa (A2 F Aa Aa Aa).q fun a w F W => ?_
   refine Ae (Ac ?_)
   have W := W.frontZ (i := 3) Aa Aa
   have W := W.frontZ (i := 3) Aa Aa
   have W := W.frontZ (i := 3) Aa Aa
   have W := W.frontZ (i := 3) Aa Aa
   have W := W.frontM (i := 1) Aa Aa
   have W := W.frontM (i := 1) Aa Aa
   exact ⟨_, H, F.re ⟨rfl, Aa, Aa, trivial⟩, W⟩
  have H := Bc (BL hb) H
  rw [hb] at F
  clear hb
  iterate 3 refine EX F Aa Aa Aa Aa Aa Aa Aa fun a F => ?_
  iterate 4 refine UC F Aa Aa Aa Aa Aa Aa fun a F => ?_
  refine EX F Aa Aa Aa Aa Aa Aa Aa fun a F => ?_
  refine ls F W Aa (Ax F Aa Aa Aa).q fun a w F W => ?_
  refine Ae (Ac ?_)
  have W := W.frontZ (i := 3) Aa Aa
  have W := W.frontZ (i := 3) Aa Aa
  have W := W.frontZ (i := 3) Aa Aa
  have W := W.frontZ (i := 3) Aa Aa
  have W := W.frontM (i := 1) Aa Aa
  have W := W.frontM (i := 1) Aa Aa
  exact ⟨_, H, F.re ⟨rfl, Aa, Aa, trivial⟩, W⟩
 rintro a w ⟨x7, hj, F, W⟩
 have hj := AR hj
 subst hj
 have H := K1
 clear G1 K1
 refine AC F Aa (fun hb => ?_) fun hb => ?_
 ·
  have H := Ba hb H
  rw [hb] at F
  clear hb
  refine Ah (Ab ?_)
  refine ls F W Aa (Ag F Aa).q fun a w F W => ?_
  refine Ae (Ac (Au (AV ?_)))
  have H := AR H
  subst H
  refine AO (.inl Aa) F W Aa (AD F Aa) ?_
  exact ⟨rfl, W.done⟩
 have H := Bc (by rw [hb]; decide) H
 rw [hb] at F
 clear hb
 refine AM (Ac (Ah ?_))
 obtain ⟨o2, G2, K2⟩ := Aq H
 refine BK (fun a w => ∃ x9 : Bool, some (x9) = some o2 ∧ Fr 72 [] [(2, .bool false), (3, .pointer (some ⟨b1, 0, none⟩)), (53, .bool x9)] a ∧ Stw ⟨Y, [], w0⟩ (LW b2 x6 v3 v4 b1 x2 v1 v2) [A4 v3 A6 x6.1.un.2.1.un.2.2.2, A4 v4 BJ x6.1.un.2.2.2.2, A4 v1 A6 x2.1.un.2.1.un.2.2.2, A4 v2 BJ x2.1.un.2.2.2.2] w) ?_ ?_
 ·
  have H := G2
  clear G2 K2
  refine Ab ?_
  refine ls F W Aa (Aw (v := Value.agg #[.int .i64 x2.1.un.1, .int .i64 x2.1.un.2.1.un.1, .int .i64 x2.1.un.2.1.un.2.1, .int .i64 x2.1.un.2.1.un.2.2.1, v1, .int .i64 x2.1.un.2.2.1, .int .i64 x2.1.un.2.2.2.1, v2]) 1 F Aa Aa D1 Aa).q fun a w F W => ?_
  obtain ⟨x10, h8, H⟩ := Aq H
  refine ls F W Aa (Bx (v := Value.bool x10) F U7 Aa (fun w W => LG any w (v1) (v2) (Tr28.of (x2.1.un.1, Tr25.of (x2.1.un.2.1.un.1, x2.1.un.2.1.un.2.1, x2.1.un.2.1.un.2.2.1, x2.1.un.2.1.un.2.2.2), x2.1.un.2.2.1, x2.1.un.2.2.2.1, x2.1.un.2.2.2.2)) _ h8 (((DK 2 Aa) : EB _ _ _ _ _ _) w W).nx (((DK 3 Aa) : EB _ _ _ _ _ _) w W).nx)) fun a w F W => ?_
  refine ls F W Aa (Iu F Aa).q fun a w F W => ?_
  refine ls F W Aa (Ai F Aa).q fun a w F W => ?_
  rcases Bool.eq_false_or_eq_true (!x10) with hb | hb
  ·
   have H := Ba hb H
   rw [hb] at F
   clear hb
   iterate 4 refine EX F Aa Aa Aa Aa Aa Aa Aa fun a F => ?_
   refine ls F W Aa (A2 F Aa Aa Aa).q fun a w F W => ?_
   refine Ae (Ac ?_)
   have W := W.frontZ (i := 3) Aa Aa
   have W := W.frontZ (i := 3) Aa Aa
   have W := W.frontZ (i := 3) Aa Aa
   have W := W.frontZ (i := 3) Aa Aa
   have W := W.frontM (i := 1) Aa Aa
   have W := W.frontM (i := 1) Aa Aa
   exact ⟨_, H, F.re ⟨rfl, Aa, Aa, trivial⟩, W⟩
  have H := Bc (by rw [hb]; decide) H
  rw [hb] at F
  clear hb
  refine Bn F W (Ak F Aa Aa Aa Aa) Aa (Ay Aa) (Aw (v := Value.agg #[.int .i64 x2.1.un.1, .int .i64 x2.1.un.2.1.un.1, .int .i64 x2.1.un.2.1.un.2.1, .int .i64 x2.1.un.2.1.un.2.2.1, v1, .int .i64 x2.1.un.2.2.1, .int .i64 x2.1.un.2.2.2.1, v2]) 1 F Aa Aa D1 Aa).q fun a w F W => ?_
  refine Kj (Ak F Aa Aa Aa Aa) ?_
  obtain ⟨x11, h9, H⟩ := Aq H
  refine ls F W Aa (Bx (v := Value.string (bs x11)) F TJ Aa (fun w W => Hu any w (v1) (v2) (Tr28.of (x2.1.un.1, Tr25.of (x2.1.un.2.1.un.1, x2.1.un.2.1.un.2.1, x2.1.un.2.1.un.2.2.1, x2.1.un.2.1.un.2.2.2), x2.1.un.2.2.1, x2.1.un.2.2.2.1, x2.1.un.2.2.2.2)) _ h9 (((DK 2 Aa) : EB _ _ _ _ _ _) w W).nx (((DK 3 Aa) : EB _ _ _ _ _ _) w W).nx (hG.go0 W))) fun a w F W => ?_
  refine Bn F W (Ak F Aa Aa Aa Aa) Aa (Ay Aa) (Fo (l := x11) KM Aa F Aa).q fun a w F W => ?_
  refine Bn F W (Ak F Aa Aa Aa Aa) Aa (Ay Aa) (KQ F Aa Aa).q fun a w F W => ?_
  refine ls F W Aa (Ax F Aa Aa Aa).q fun a w F W => ?_
  refine Ae (Ac ?_)
  have W := W.frontZ (i := 3) Aa Aa
  have W := W.frontZ (i := 3) Aa Aa
  have W := W.frontZ (i := 3) Aa Aa
  have W := W.frontZ (i := 3) Aa Aa
  have W := W.frontM (i := 1) Aa Aa
  have W := W.frontM (i := 1) Aa Aa
  exact ⟨_, H, F.re ⟨rfl, Aa, Aa, trivial⟩, W⟩
 rintro a w ⟨x9, hj, F, W⟩
 have hj := AR hj
 subst hj
 have H := K2
 clear G2 K2
 refine AC F Aa (fun hb => ?_) fun hb => ?_
 ·
  have H := Ba hb H
  rw [hb] at F
  clear hb
  refine Ah (Ab ?_)
  obtain ⟨x12, h10, H⟩ := Aq H
  refine ls F W Aa (Bx (v := Value.bool x12) F H6 Aa (fun w W => Hk any w _ h10 (hG.go0 W))) fun a w F W => ?_
  refine ls F W Aa (Ag F Aa).q fun a w F W => ?_
  refine Ae (Ac (Au (AV ?_)))
  have H := AR H
  subst H
  refine AO (.inl Aa) F W Aa (AD F Aa) ?_
  exact ⟨rfl, W.done⟩
 have H := Bc (by rw [hb]; decide) H
 rw [hb] at F
 clear hb
 refine AM (Ac (Ah (Ab ?_)))
 refine ls F W Aa (Aw (v := Value.agg #[.int .i64 x2.1.un.1, .int .i64 x2.1.un.2.1.un.1, .int .i64 x2.1.un.2.1.un.2.1, .int .i64 x2.1.un.2.1.un.2.2.1, v1, .int .i64 x2.1.un.2.2.1, .int .i64 x2.1.un.2.2.2.1, v2]) 1 F Aa Aa D1 Aa).q fun a w F W => ?_
 obtain ⟨x13, h11, H⟩ := Aq H
 refine ls F W Aa (Bx (v := Value.string (bs x13)) F TJ Aa (fun w W => Hu any w (v1) (v2) (Tr28.of (x2.1.un.1, Tr25.of (x2.1.un.2.1.un.1, x2.1.un.2.1.un.2.1, x2.1.un.2.1.un.2.2.1, x2.1.un.2.1.un.2.2.2), x2.1.un.2.2.1, x2.1.un.2.2.2.1, x2.1.un.2.2.2.2)) _ h11 (((DK 2 Aa) : EB _ _ _ _ _ _) w W).nx (((DK 3 Aa) : EB _ _ _ _ _ _) w W).nx (hG.go0 W))) fun a w F W => ?_
 obtain ⟨x14, h12, H⟩ := Aq H
 refine Bp (Ml := []) (Zl := []) (M := (LW b2 x6 v3 v4 b1 x2 v1 v2)) (Z := [A4 v3 A6 x6.1.un.2.1.un.2.2.2, A4 v4 BJ x6.1.un.2.2.2.2, A4 v1 A6 x2.1.un.2.1.un.2.2.2, A4 v2 BJ x2.1.un.2.2.2.2]) (β := Value × Value) (rv := fun x => .tuple #[.agg #[.int .i64 x14.1.un.1, .int .i64 x14.1.un.2.1.un.1, .int .i64 x14.1.un.2.1.un.2.1, .int .i64 x14.1.un.2.1.un.2.2.1, x.1, .int .i64 x14.1.un.2.2.1, .int .i64 x14.1.un.2.2.2.1, x.2], .int .i64 x14.2.1, .int .i64 x14.2.2]) (MM := fun x => []) (ZZ := fun x => [A4 x.1 A6 x14.1.un.2.1.un.2.2.2, A4 x.2 BJ x14.1.un.2.2.2.2]) F W H7 Aa Aa (fun hL => F7 _ w x13 _ h12) fun x a w F W => ?_
 obtain ⟨v5, v6⟩ := x
 have W : Stw ⟨Y, [], w0⟩ (LW b2 x6 v3 v4 b1 x2 v1 v2) [A4 v5 A6 x14.1.un.2.1.un.2.2.2, A4 v6 BJ x14.1.un.2.2.2.2, A4 v3 A6 x6.1.un.2.1.un.2.2.2, A4 v4 BJ x6.1.un.2.2.2.2, A4 v1 A6 x2.1.un.2.1.un.2.2.2, A4 v2 BJ x2.1.un.2.2.2.2] w := W
 refine ls F W Aa (Ai F Aa).q fun a w F W => ?_
 refine ls F W Aa (B9 (v := Value.agg #[.int .i64 x14.1.un.1, .int .i64 x14.1.un.2.1.un.1, .int .i64 x14.1.un.2.1.un.2.1, .int .i64 x14.1.un.2.1.un.2.2.1, v5, .int .i64 x14.1.un.2.2.1, .int .i64 x14.1.un.2.2.2.1, v6]) F Aa Aa).q fun a w F W => ?_
 refine ls F W Aa (B9 (v := Value.int .i64 x14.2.1) F Aa Aa).q fun a w F W => ?_
 refine ls F W Aa (B9 (v := Value.int .i64 x14.2.2) F Aa Aa).q fun a w F W => ?_
 refine BA (cs := (BU)) F W Aa JT Aa fun b3 a w F W => ?_
 refine AP (vs := (Jv x14 v5 v6)) (M' := [(b3, (Jv x14 v5 v6)), (b2, (Jv x6 v3 v4)), (b1, (Jv x2 v1 v2))]) 0 F W Aa Aa Aa D1 Aa Aa Aa (Af Aa (Af Aa (Af Aa (Af Aa (Af (W.oneF (k := 0) Aa) (Af Aa (Af Aa (Af (W.oneF (k := 1) Aa) BC)))))))) Aa fun w W => ?_
 iterate 2 refine ls F W Aa (Ag F Aa).q fun a w F W => ?_
 refine Ae (Ac ?_)
 obtain ⟨o3, G3, K3⟩ := Aq H
 refine BK (fun a w => ∃ x15 : Bool, some (x15) = some o3 ∧ Fr 72 [] [(2, .bool x15)] a ∧ Stw ⟨Y, [], w0⟩ [(b3, (Jv x14 v5 v6)), (b2, (Jv x6 v3 v4)), (b1, (Jv x2 v1 v2))] [A4 v5 A6 x14.1.un.2.1.un.2.2.2, A4 v6 BJ x14.1.un.2.2.2.2, A4 v3 A6 x6.1.un.2.1.un.2.2.2, A4 v4 BJ x6.1.un.2.2.2.2, A4 v1 A6 x2.1.un.2.1.un.2.2.2, A4 v2 BJ x2.1.un.2.2.2.2] w) ?_ ?_
 ·
  have H := G3
  clear G3 K3
  refine Ab ?_
  refine ls F W Aa (Ai F Aa).q fun a w F W => ?_
  refine ls F W Aa (Bw F Aa Aa).q fun a w F W => ?_
  refine ls F W Aa (Ai F Aa).q fun a w F W => ?_
  rcases Bool.eq_false_or_eq_true (decide (x14.2.2 = 0)) with hb | hb
  ·
   have H := Ba (BM hb) H
   rw [hb] at F
   clear hb
   refine Bn F W (Ak F Aa Aa Aa Aa) Aa (Ay Aa) (Aw (v := Value.agg #[.int .i64 x2.1.un.1, .int .i64 x2.1.un.2.1.un.1, .int .i64 x2.1.un.2.1.un.2.1, .int .i64 x2.1.un.2.1.un.2.2.1, v1, .int .i64 x2.1.un.2.2.1, .int .i64 x2.1.un.2.2.2.1, v2]) 2 F Aa Aa D1 Aa).q fun a w F W => ?_
   refine Bn F W (Ak F Aa Aa Aa Aa) Aa (Ay Aa) (Aw (v := Value.agg #[.int .i64 x14.1.un.1, .int .i64 x14.1.un.2.1.un.1, .int .i64 x14.1.un.2.1.un.2.1, .int .i64 x14.1.un.2.1.un.2.2.1, v5, .int .i64 x14.1.un.2.2.1, .int .i64 x14.1.un.2.2.2.1, v6]) 0 F Aa Aa D1 Aa).q fun a w F W => ?_
   refine Kj (Ak F Aa Aa Aa Aa) ?_
   obtain ⟨x16, h13, H⟩ := Aq H
   refine ls F W Aa (Bx (v := Value.bool x16) F TY Aa (fun w W => Jr any w (v1) (v2) (v5) (v6) (Tr28.of (x2.1.un.1, Tr25.of (x2.1.un.2.1.un.1, x2.1.un.2.1.un.2.1, x2.1.un.2.1.un.2.2.1, x2.1.un.2.1.un.2.2.2), x2.1.un.2.2.1, x2.1.un.2.2.2.1, x2.1.un.2.2.2.2)) (Tr28.of (x14.1.un.1, Tr25.of (x14.1.un.2.1.un.1, x14.1.un.2.1.un.2.1, x14.1.un.2.1.un.2.2.1, x14.1.un.2.1.un.2.2.2), x14.1.un.2.2.1, x14.1.un.2.2.2.1, x14.1.un.2.2.2.2)) _ h13 (((DK 4 Aa) : EB _ _ _ _ _ _) w W).nx (((DK 5 Aa) : EB _ _ _ _ _ _) w W).nx (((DK 0 Aa) : EB _ _ _ _ _ _) w W).nx (((DK 1 Aa) : EB _ _ _ _ _ _) w W).nx)) fun a w F W => ?_
   refine ls F W Aa (A2 F Aa Aa Aa).q fun a w F W => ?_
   refine ls F W Aa (Ai F Aa).q fun a w F W => ?_
   rcases Bool.eq_false_or_eq_true x16 with hb | hb
   ·
    have H := Ba hb H
    rw [hb] at F
    clear hb
    refine Kj (Ak F Aa Aa Aa Aa) ?_
    obtain ⟨x17, h14, H⟩ := Aq H
    refine ls F W Aa (Bx (v := Value.bool x17) F H6 Aa (fun w W => Hk any w _ h14 (hG.go0 W))) fun a w F W => ?_
    refine ls F W Aa (A2 F Aa Aa Aa).q fun a w F W => ?_
    refine ls F W Aa (Ag F Aa).q fun a w F W => ?_
    refine Ae (Ac ?_)
    have W := W.frontZ (i := 5) Aa Aa
    have W := W.frontZ (i := 5) Aa Aa
    have W := W.frontZ (i := 5) Aa Aa
    have W := W.frontZ (i := 5) Aa Aa
    have W := W.frontZ (i := 5) Aa Aa
    have W := W.frontZ (i := 5) Aa Aa
    have W := W.frontM (i := 2) Aa Aa
    have W := W.frontM (i := 2) Aa Aa
    have W := W.frontM (i := 2) Aa Aa
    exact ⟨_, H, F.re ⟨rfl, trivial⟩, W⟩
   have H := Bc (by rw [hb]; decide) H
   rw [hb] at F
   clear hb
   refine EX F Aa Aa Aa Aa Aa Aa Aa fun a F => ?_
   refine ls F W Aa (Ax F Aa Aa Aa).q fun a w F W => ?_
   refine ls F W Aa (Ag F Aa).q fun a w F W => ?_
   refine Ae (Ac ?_)
   have W := W.frontZ (i := 5) Aa Aa
   have W := W.frontZ (i := 5) Aa Aa
   have W := W.frontZ (i := 5) Aa Aa
   have W := W.frontZ (i := 5) Aa Aa
   have W := W.frontZ (i := 5) Aa Aa
   have W := W.frontZ (i := 5) Aa Aa
   have W := W.frontM (i := 2) Aa Aa
   have W := W.frontM (i := 2) Aa Aa
   have W := W.frontM (i := 2) Aa Aa
   exact ⟨_, H, F.re ⟨rfl, trivial⟩, W⟩
  have H := Bc (BL hb) H
  rw [hb] at F
  clear hb
  iterate 3 refine EX F Aa Aa Aa Aa Aa Aa Aa fun a F => ?_
  refine ls F W Aa (Ax F Aa Aa Aa).q fun a w F W => ?_
  refine ls F W Aa (Ai F Aa).q fun a w F W => ?_
  refine EX F Aa Aa Aa Aa Aa Aa Aa fun a F => ?_
  refine ls F W Aa (Ax F Aa Aa Aa).q fun a w F W => ?_
  refine ls F W Aa (Ag F Aa).q fun a w F W => ?_
  refine Ae (Ac ?_)
  have W := W.frontZ (i := 5) Aa Aa
  have W := W.frontZ (i := 5) Aa Aa
  have W := W.frontZ (i := 5) Aa Aa
  have W := W.frontZ (i := 5) Aa Aa
  have W := W.frontZ (i := 5) Aa Aa
  have W := W.frontZ (i := 5) Aa Aa
  have W := W.frontM (i := 2) Aa Aa
  have W := W.frontM (i := 2) Aa Aa
  have W := W.frontM (i := 2) Aa Aa
  exact ⟨_, H, F.re ⟨rfl, trivial⟩, W⟩
 rintro a w ⟨x15, hj, F, W⟩
 have hj := AR hj
 subst hj
 have H := K3
 clear G3 K3
 refine Au ?_
 have H := AR H
 subst H
 refine AO (.inl Aa) F W Aa (AD F Aa) ?_
 exact ⟨rfl, W.done⟩
end Go.Proofs.YtlgjpoapclifbaaDoor
