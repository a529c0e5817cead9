/- The functions of layer 29, EF. Conditions: none. -/
import Derived.Test.YtlgjpoapclifbaaDoordA10
namespace Go.Proofs.YtlgjpoapclifbaaDoor
open Go Go.RowKit
set_option linter.unusedVariables false
set_option linter.unusedSimpArgs false
set_option maxRecDepth 20000
theorem Uh : Has Tryd.prog 51 := ⟨fun args w => Am Tryd.func51 rfl (by decide) args w⟩
noncomputable def Az (fRec_pred_Same : Tr25 → Tr25 → Option Bool) (p0 : List Tr25) (p1 : List Tr25) : Int → Option (Int ⊕ (Unit ⊕ Bool))
  | x1 => (if x1 < (p0.length : Int) then (ix p0 x1).bind fun x2 => (ix p1 x1).bind fun x3 => (fRec_pred_Same x2 x3).bind fun x4 => (if (!x4) = true then some (.inr (.inr false)) else some (.inl (CI (x1 + 1)))) else some (.inr (.inl ())))
noncomputable def AL (fRec_pred_Same : Tr25 → Tr25 → Option Bool) (p0 : List Tr25) (p1 : List Tr25) : Option Bool := (if (p0.length : Int) ≠ (p1.length : Int) then some false else HX (Bo (Az fRec_pred_Same p0 p1) 0) fun _ => some true)
theorem CZ (fRec_pred_Same : Tr25 → Tr25 → Option Bool) (ih_pred_Same : ∀ (Y : Nat → Prop) (w0 : World) (v1 : Value) (v2 : Value) (p0 : Tr25) (p1 : Tr25) (r : Bool) (H : fRec_pred_Same p0 p1 = some r) (h_v1 : Sl w0 (NX []) A6 v1 p0.un.2.2.2) (h_v2 : Sl w0 (NX []) A6 v2 p1.un.2.2.2), Calls Tryd.prog 51 #[.agg #[.int .i64 p0.un.1, .int .i64 p0.un.2.1, .int .i64 p0.un.2.2.1, v1], .agg #[.int .i64 p1.un.1, .int .i64 p1.un.2.1, .int .i64 p1.un.2.2.1, v2]] w0 fun e w' => e = .returned (.bool r) ∧ Below w0.heap.size w0 w') (Y : Nat → Prop) (w0 : World) (v1 : Value) (v2 : Value) (p0 : List Tr25) (p1 : List Tr25) (r : Bool) (H : AL fRec_pred_Same p0 p1 = some r) (h_v1 : Sl w0 (NX []) A6 v1 p0) (h_v2 : Sl w0 (NX []) A6 v2 p1) :
    Calls Tryd.prog 77 #[v1, v2, .func (.func 51) #[] #[]] w0 fun e w' => e = .returned (.bool r) ∧ Below w0.heap.size w0 w' := by
 refine enter Tryd.func77 Aa Tryd.ntmps77 Aa fun a F => ?_
 have W := Stw.start Y w0
 obtain ⟨v3, h1, h_v1⟩ := h_v1.ex CF
 obtain ⟨v4, h2, h_v2⟩ := h_v2.ex CF
 unfold AL at H
 refine Ah (Ab ?_)
 refine ls F W Aa (Ag F Aa).q fun a w F W => ?_
 refine Ae (Ac (Ah (Ah (Ab ?_))))
 refine ls F W Aa (Ai F Aa).q fun a w F W => ?_
 refine ls F W Aa (DC (r := A6) (l := p0) J7 Aa F Aa (Bd CF h1 (AG h_v1))).q fun a w F W => ?_
 refine ls F W Aa (Ai F Aa).q fun a w F W => ?_
 refine ls F W Aa (DC (r := A6) (l := p1) J7 Aa F Aa (Bd CF h2 (AG h_v2))).q fun a w F W => ?_
 refine ls F W Aa (Gn F Aa Aa).q fun a w F W => ?_
 refine Ae (Ac ?_)
 refine AC F Aa (fun hb => ?_) fun hb => ?_
 ·
  have H := Ba (BM hb) H
  rw [hb] at F
  clear hb
  refine Ah (Ab ?_)
  refine ls F W Aa (Ag F Aa).q fun a w F W => ?_
  refine Ae (Ac (Au (AV ?_)))
  have H := AR H
  subst H
  refine AO (.inl Aa) F W Aa (AD F Aa) ?_
  exact ⟨rfl, W.done⟩
 have H := Bc (BL hb) H
 rw [hb] at F
 clear hb
 refine AM (Ac ?_)
 obtain ⟨o1, G1, K1, L1⟩ := Qb H
 refine BK (fun a w => some (Sum.inl ()) = some o1 ∧ Fr 32 [] [(6, .bool false)] a ∧ Stw ⟨Y, [], w0⟩ [] [] w) ?_ ?_
 ·
  have H := G1
  clear G1 K1
  refine Ah (Ab ?_)
  refine ls F W Aa (Ai F Aa).q fun a w F W => ?_
  refine ls F W Aa (DC (r := A6) (l := p0) J7 Aa F Aa (Bd CF h1 (AG h_v1))).q fun a w F W => ?_
  refine ls F W Aa (Ai F Aa).q fun a w F W => ?_
  refine Ae (Ac (Bb ?_))
  refine Dl H (fun s a w => Fr 32 [] [(1, v2), (2, .func (.func 51) #[] #[]), (6, .bool false), (15, v1), (16, .int .i64 (p0.length : Int)), (17, .int .i64 s)] a ∧ Stw ⟨Y, [], w0⟩ [] [] w) ⟨F.re ⟨rfl, Aa, Aa, Aa, Aa, Aa, trivial⟩, W⟩ fun s o a w H L2 hR => ?_
  obtain ⟨x1, rfl⟩ : ∃ x, x = s := ⟨s, rfl⟩
  obtain ⟨F, W⟩ := hR
  have F : Fr 32 [] [(1, v2), (2, .func (.func 51) #[] #[]), (6, .bool false), (15, v1), (16, .int .i64 (p0.length : Int)), (17, .int .i64 x1)] a := F
  have W : Stw ⟨Y, [], w0⟩ [] [] w := W
  rw [Az] at H
  refine Ah (Ab ?_)
  refine ls F W Aa (Fx F Aa Aa).q fun a w F W => ?_
  refine Ae (Ac (Ah ?_))
  refine AC F Aa (fun hb => ?_) fun hb => ?_
  ·
   have H := Ba (BM hb) H
   rw [hb] at F
   clear hb
   refine AM (Ac (Ah (Bb (Ah (Ab ?_)))))
   refine ls F W Aa (Ai F Aa).q fun a w F W => ?_
   obtain ⟨x2, h3, H⟩ := Aq H
   obtain ⟨v5, h4, h5⟩ := Gy h1 h3
   have h6 : JE v5 = [.int .i64 x2.un.1, .int .i64 x2.un.2.1, .int .i64 x2.un.2.2.1, (v5.2.2.2.1)] := congrArg (fun q : Tr25 => ([.int .i64 q.un.1, .int .i64 q.un.2.1, .int .i64 q.un.2.2.1, (v5.2.2.2.1)] : List Value)) h5
   refine ls F W Aa (DS (r := MJ) Pi F Aa Aa (AG h_v1) h4).q fun a w F W => ?_
   refine ls F W Aa (CG (y := Value.agg #[.int .i64 x2.un.1, .int .i64 x2.un.2.1, .int .i64 x2.un.2.2.1, (v5.2.2.2.1)]) (j := 0) (i := x1) (enc := JE) F Aa Aa (AG h_v1) h4 ON ER (by rw [h6]; rfl)).q fun a w F W => ?_
   refine BA (cs := (CH)) F W Aa Ny Aa fun b1 a w F W => ?_
   refine ls F W Aa (Ag F Aa).q fun a w F W => ?_
   refine AP (vs := [.int .i64 x2.un.1, .int .i64 x2.un.2.1, .int .i64 x2.un.2.2.1, (v5.2.2.2.1)]) (M' := [(b1, [.int .i64 x2.un.1, .int .i64 x2.un.2.1, .int .i64 x2.un.2.2.1, (v5.2.2.2.1)])]) 0 F W Aa Aa Aa ER Aa Aa Aa (Af Aa (Af Aa (Af Aa (Af ((Cz (AG h_v1) h4 (AE.snd (AE.snd (AE.snd AE.here))) (congrArg (fun q : Tr25 => q.un.2.2.2) h5)) _ W).one BC)))) Aa fun w W => ?_
   refine Ae (Ac (Ah ?_))
   obtain ⟨v6, h7, h8⟩ := Sl.ex CF (Sl.at_ h_v1 h4 (AE.snd (AE.snd (AE.snd AE.here))) (congrArg (fun q : Tr25 => q.un.2.2.2) h5))
   refine Ab ?_
   iterate 2 refine ls F W Aa (Ai F Aa).q fun a w F W => ?_
   obtain ⟨x3, h9, H⟩ := Aq H
   obtain ⟨v7, h10, h11⟩ := Gy h2 h9
   have h12 : JE v7 = [.int .i64 x3.un.1, .int .i64 x3.un.2.1, .int .i64 x3.un.2.2.1, (v7.2.2.2.1)] := congrArg (fun q : Tr25 => ([.int .i64 q.un.1, .int .i64 q.un.2.1, .int .i64 q.un.2.2.1, (v7.2.2.2.1)] : List Value)) h11
   refine ls F W Aa (DS (r := MJ) Pi F Aa Aa (AG h_v2) h10).q fun a w F W => ?_
   refine ls F W Aa (CG (y := Value.agg #[.int .i64 x3.un.1, .int .i64 x3.un.2.1, .int .i64 x3.un.2.2.1, (v7.2.2.2.1)]) (j := 0) (i := x1) (enc := JE) F Aa Aa (AG h_v2) h10 ON ER (by rw [h12]; rfl)).q fun a w F W => ?_
   refine BA (cs := (CH)) F W Aa Ny Aa fun b2 a w F W => ?_
   refine AP (vs := [.int .i64 x3.un.1, .int .i64 x3.un.2.1, .int .i64 x3.un.2.2.1, (v7.2.2.2.1)]) (M' := [(b2, [.int .i64 x3.un.1, .int .i64 x3.un.2.1, .int .i64 x3.un.2.2.1, (v7.2.2.2.1)]), (b1, [.int .i64 x2.un.1, .int .i64 x2.un.2.1, .int .i64 x2.un.2.2.1, (v5.2.2.2.1)])]) 0 F W Aa Aa Aa ER Aa Aa Aa (Af Aa (Af Aa (Af Aa (Af ((Cz (AG h_v2) h10 (AE.snd (AE.snd (AE.snd AE.here))) (congrArg (fun q : Tr25 => q.un.2.2.2) h11)) _ W).one BC)))) Aa fun w W => ?_
   refine Ae (Ac (Ah (Ab ?_)))
   refine ls F W Aa (Ai F Aa).q fun a w F W => ?_
   refine ls F W Aa (Aw (v := Value.agg #[.int .i64 x2.un.1, .int .i64 x2.un.2.1, .int .i64 x2.un.2.2.1, (v5.2.2.2.1)]) 1 F Aa Aa ER Aa).q fun a w F W => ?_
   refine ls F W Aa (Aw (v := Value.agg #[.int .i64 x3.un.1, .int .i64 x3.un.2.1, .int .i64 x3.un.2.2.1, (v7.2.2.2.1)]) 0 F Aa Aa ER Aa).q fun a w F W => ?_
   obtain ⟨x4, h13, H⟩ := Aq H
   refine ls F W Aa (Ls (ws := [.agg #[.int .i64 x2.un.1, .int .i64 x2.un.2.1, .int .i64 x2.un.2.2.1, (v5.2.2.2.1)], .agg #[.int .i64 x3.un.1, .int .i64 x3.un.2.1, .int .i64 x3.un.2.2.1, (v7.2.2.2.1)]]) (v := Value.bool x4) F Uh Aa (fun w W => ih_pred_Same any w ((v5.2.2.2.1)) ((v7.2.2.2.1)) x2 x3 _ h13 (((Bd CF h7 (AG h8)) : EB _ _ _ _ _ _) w W).nx (((Cz (AG h_v2) h10 (AE.snd (AE.snd (AE.snd AE.here))) (congrArg (fun q : Tr25 => q.un.2.2.2) h11)) : EB _ _ _ _ _ _) w W).nx)) fun a w F W => ?_
   refine ls F W Aa (Iu F Aa).q fun a w F W => ?_
   refine Ae (Ac ?_)
   refine AC F Aa (fun hb => ?_) fun hb => ?_
   ·
    have H := Ba hb H
    rw [hb] at F
    clear hb
    refine Ah (Ab ?_)
    refine ls F W Aa (Ag F Aa).q fun a w F W => ?_
    refine Ae (Ac (Au (Be ?_)))
    iterate 2 refine AV ?_
    refine Be (AV ?_)
    have H := L2 _ H
    have H := L1 _ H
    have H := AR H
    subst H
    refine AO (.inl Aa) F W Aa (AD F Aa) ?_
    exact ⟨rfl, W.done⟩
   have H := Bc (by rw [hb]; decide) H
   rw [hb] at F
   clear hb
   refine AM (BI (Ac (Ab ?_)))
   refine ls F W Aa (Fe F Aa Aa Aa).q fun a w F W => ?_
   refine ls F W Aa (Ai F Aa).q fun a w F W => ?_
   refine Ae (Ac ?_)
   have W := W.sub (M' := []) (Z' := []) (List.nil_sublist _) (List.Sublist.refl _)
   exact ⟨_, H, F.re ⟨rfl, Aa, Aa, Aa, Aa, Aa, trivial⟩, W⟩
  have H := Bc (BL hb) H
  rw [hb] at F
  clear hb
  refine Do ?_
  iterate 2 refine Er ?_
  refine Dk (Ac ?_)
  have H := L2 _ H
  exact ⟨H, F.re ⟨rfl, trivial⟩, W⟩
 rintro a w ⟨hj, F, W⟩
 have H := K1 _ hj
 clear hj G1 K1 L1
 refine Ah (Ab ?_)
 refine ls F W Aa (Ag F Aa).q fun a w F W => ?_
 refine Ae (Ac (Au ?_))
 have H := AR H
 subst H
 refine AO (.inl Aa) F W Aa (AD F Aa) ?_
 exact ⟨rfl, W.done⟩
theorem U4 : Has Tryd.prog 77 := ⟨fun args w => Am Tryd.func77 rfl (by decide) args w⟩
noncomputable def DL (fRec : Tr25 → Tr25 → Option Bool) (p0 : Tr25) (p1 : Tr25) : Option Bool := (if p0.un.1 = p1.un.1 then (if p0.un.2.1 = p1.un.2.1 then (if p0.un.2.2.1 = p1.un.2.2.1 then ((AL fRec) p0.un.2.2.2 p1.un.2.2.2).bind fun x2 => some x2 else some false) else some false) else some false).bind fun x1 => some x1
noncomputable def Dq : Nat → Tr25 → Tr25 → Option Bool
  | 0 => fun _ _ => none
  | n + 1 => DL (Dq n)
noncomputable def Jj (p0 : Tr25) (p1 : Tr25) : Option Bool := Ge fun n => Dq n p0 p1
theorem MK (fRec : Tr25 → Tr25 → Option Bool) (ih : ∀ (Y : Nat → Prop) (w0 : World) (v1 : Value) (v2 : Value) (p0 : Tr25) (p1 : Tr25) (r : Bool) (H : fRec p0 p1 = some r) (h_v1 : Sl w0 (NX []) A6 v1 p0.un.2.2.2) (h_v2 : Sl w0 (NX []) A6 v2 p1.un.2.2.2), Calls Tryd.prog 51 #[.agg #[.int .i64 p0.un.1, .int .i64 p0.un.2.1, .int .i64 p0.un.2.2.1, v1], .agg #[.int .i64 p1.un.1, .int .i64 p1.un.2.1, .int .i64 p1.un.2.2.1, v2]] w0 fun e w' => e = .returned (.bool r) ∧ Below w0.heap.size w0 w') (Y : Nat → Prop) (w0 : World) (v1 : Value) (v2 : Value) (p0 : Tr25) (p1 : Tr25) (r : Bool) (H : DL fRec p0 p1 = some r) (h_v1 : Sl w0 (NX []) A6 v1 p0.un.2.2.2) (h_v2 : Sl w0 (NX []) A6 v2 p1.un.2.2.2) :
    Calls Tryd.prog 51 #[.agg #[.int .i64 p0.un.1, .int .i64 p0.un.2.1, .int .i64 p0.un.2.2.1, v1], .agg #[.int .i64 p1.un.1, .int .i64 p1.un.2.1, .int .i64 p1.un.2.2.1, v2]] w0 fun e w' => e = .returned (.bool r) ∧ Below w0.heap.size w0 w' := by
 refine enter Tryd.func51 Aa Tryd.ntmps51 Aa fun a F => ?_
 have W := Stw.start Y w0
 obtain ⟨v3, h1, h_v1⟩ := h_v1.ex CF
 obtain ⟨v4, h2, h_v2⟩ := h_v2.ex CF
 unfold DL at H
 refine Ah (Ab ?_)
 refine FH (cs := (IY p0 v1)) F W Aa Aa Aa fun b1 a w F W => ?_
 refine FH (cs := (IY p1 v2)) F W Aa Aa Aa fun b2 a w F W => ?_
 refine ls F W Aa (Ag F Aa).q fun a w F W => ?_
 refine Ae (Ac ?_)
 obtain ⟨o1, G1, K1⟩ := Aq H
 refine BK (fun a w => ∃ x1 : Bool, some (x1) = some o1 ∧ Fr 31 [] [(4, .bool x1)] a ∧ Stw ⟨Y, [], w0⟩ [(b2, [.int .i64 p1.un.1, .int .i64 p1.un.2.1, .int .i64 p1.un.2.2.1, v2]), (b1, [.int .i64 p0.un.1, .int .i64 p0.un.2.1, .int .i64 p0.un.2.2.1, v1])] [] w) ?_ ?_
 ·
  have H := G1
  clear G1 K1
  refine Ab ?_
  refine ls F W Aa (Al ET Aa Aa Aa T3 F Aa 0 Aa).q fun a w F W => ?_
  refine ls F W Aa (Aw (v := Value.int .i64 p0.un.1) 1 F Aa Aa T3 Aa).q fun a w F W => ?_
  refine ls F W Aa (Al ET Aa Aa Aa T3 F Aa 0 Aa).q fun a w F W => ?_
  refine ls F W Aa (Aw (v := Value.int .i64 p1.un.1) 0 F Aa Aa T3 Aa).q fun a w F W => ?_
  refine ls F W Aa (Bw F Aa Aa).q fun a w F W => ?_
  refine ls F W Aa (Ai F Aa).q fun a w F W => ?_
  rcases Bool.eq_false_or_eq_true (decide (p0.un.1 = p1.un.1)) with hb | hb
  ·
   have H := Ba (BM hb) H
   rw [hb] at F
   clear hb
   refine Bn F W (Ak F Aa Aa Aa Aa) Aa (Ay Aa) (Al ET Aa Aa Aa T3 F Aa 1 Aa).q fun a w F W => ?_
   refine Bn F W (Ak F Aa Aa Aa Aa) Aa (Ay Aa) (Aw (v := Value.int .i64 p0.un.2.1) 1 F Aa Aa T3 Aa).q fun a w F W => ?_
   refine Bn F W (Ak F Aa Aa Aa Aa) Aa (Ay Aa) (Al ET Aa Aa Aa T3 F Aa 1 Aa).q fun a w F W => ?_
   refine Bn F W (Ak F Aa Aa Aa Aa) Aa (Ay Aa) (Aw (v := Value.int .i64 p1.un.2.1) 0 F Aa Aa T3 Aa).q fun a w F W => ?_
   refine Bn F W (Ak F Aa Aa Aa Aa) Aa (Ay Aa) (Bw F Aa Aa).q fun a w F W => ?_
   refine ls F W Aa (A2 F Aa Aa Aa).q fun a w F W => ?_
   refine ls F W Aa (Ai F Aa).q fun a w F W => ?_
   rcases Bool.eq_false_or_eq_true (decide (p0.un.2.1 = p1.un.2.1)) with hb | hb
   ·
    have H := Ba (BM hb) H
    rw [hb] at F
    clear hb
    refine Bn F W (Ak F Aa Aa Aa Aa) Aa (Ay Aa) (Al ET Aa Aa Aa T3 F Aa 2 Aa).q fun a w F W => ?_
    refine Bn F W (Ak F Aa Aa Aa Aa) Aa (Ay Aa) (Aw (v := Value.int .i64 p0.un.2.2.1) 1 F Aa Aa T3 Aa).q fun a w F W => ?_
    refine Bn F W (Ak F Aa Aa Aa Aa) Aa (Ay Aa) (Al ET Aa Aa Aa T3 F Aa 2 Aa).q fun a w F W => ?_
    refine Bn F W (Ak F Aa Aa Aa Aa) Aa (Ay Aa) (Aw (v := Value.int .i64 p1.un.2.2.1) 0 F Aa Aa T3 Aa).q fun a w F W => ?_
    refine Bn F W (Ak F Aa Aa Aa Aa) Aa (Ay Aa) (Bw F Aa Aa).q fun a w F W => ?_
    refine ls F W Aa (A2 F Aa Aa Aa).q fun a w F W => ?_
    refine ls F W Aa (Ai F Aa).q fun a w F W => ?_
    rcases Bool.eq_false_or_eq_true (decide (p0.un.2.2.1 = p1.un.2.2.1)) with hb | hb
    ·
     have H := Ba (BM hb) H
     rw [hb] at F
     clear hb
     refine Bn F W (Ak F Aa Aa Aa Aa) Aa (Ay Aa) (Al ET Aa Aa Aa Lv F Aa 3 Aa).q fun a w F W => ?_
     refine Bn F W (Ak F Aa Aa Aa Aa) Aa (Ay Aa) (Aw (v := v1) 1 F Aa Aa Lv Aa).q fun a w F W => ?_
     refine Bn F W (Ak F Aa Aa Aa Aa) Aa (Ay Aa) (Al ET Aa Aa Aa Lv F Aa 3 Aa).q fun a w F W => ?_
     refine Bn F W (Ak F Aa Aa Aa Aa) Aa (Ay Aa) (Aw (v := v2) 0 F Aa Aa Lv Aa).q fun a w F W => ?_
     refine Kj (Ak F Aa Aa Aa Aa) ?_
     obtain ⟨x2, h3, H⟩ := Aq H
     refine ls F W Aa (Bx (v := Value.bool x2) F U4 Aa (fun w W => (CZ fRec ih) any w (v1) (v2) p0.un.2.2.2 p1.un.2.2.2 _ h3 (((Bd CF h1 (AG h_v1)) : EB _ _ _ _ _ _) w W).nx (((Bd CF h2 (AG h_v2)) : EB _ _ _ _ _ _) w W).nx)) fun a w F W => ?_
     refine ls F W Aa (A2 F Aa Aa Aa).q fun a w F W => ?_
     refine ls F W Aa (Ag F Aa).q fun a w F W => ?_
     refine Ae (Ac ?_)
     have W := W.frontM (i := 1) Aa Aa
     have W := W.frontM (i := 1) Aa Aa
     exact ⟨_, H, F.re ⟨rfl, trivial⟩, W⟩
    have H := Bc (BL hb) H
    rw [hb] at F
    clear hb
    iterate 5 refine EX F Aa Aa Aa Aa Aa Aa Aa fun a F => ?_
    refine ls F W Aa (Ax F Aa Aa Aa).q fun a w F W => ?_
    refine ls F W Aa (Ag F Aa).q fun a w F W => ?_
    refine Ae (Ac ?_)
    have W := W.frontM (i := 1) Aa Aa
    have W := W.frontM (i := 1) Aa Aa
    exact ⟨_, H, F.re ⟨rfl, trivial⟩, W⟩
   have H := Bc (BL hb) H
   rw [hb] at F
   clear hb
   iterate 5 refine EX F Aa Aa Aa Aa Aa Aa Aa fun a F => ?_
   refine ls F W Aa (Ax F Aa Aa Aa).q fun a w F W => ?_
   refine ls F W Aa (Ai F Aa).q fun a w F W => ?_
   iterate 5 refine EX F Aa Aa Aa Aa Aa Aa Aa fun a F => ?_
   refine ls F W Aa (Ax F Aa Aa Aa).q fun a w F W => ?_
   refine ls F W Aa (Ag F Aa).q fun a w F W => ?_
   refine Ae (Ac ?_)
   have W := W.frontM (i := 1) Aa Aa
   have W := W.frontM (i := 1) Aa Aa
   exact ⟨_, H, F.re ⟨rfl, trivial⟩, W⟩
  have H := Bc (BL hb) H
  rw [hb] at F
  clear hb
  iterate 5 refine EX F Aa Aa Aa Aa Aa Aa Aa fun a F => ?_
  refine ls F W Aa (Ax F Aa Aa Aa).q fun a w F W => ?_
  refine ls F W Aa (Ai F Aa).q fun a w F W => ?_
  iterate 5 refine EX F Aa Aa Aa Aa Aa Aa Aa fun a F => ?_
  refine ls F W Aa (Ax F Aa Aa Aa).q fun a w F W => ?_
  refine ls F W Aa (Ai F Aa).q fun a w F W => ?_
  iterate 5 refine EX F Aa Aa Aa Aa Aa Aa Aa fun a F => ?_
  refine ls F W Aa (Ax F Aa Aa Aa).q fun a w F W => ?_
  refine ls F W Aa (Ag F Aa).q fun a w F W => ?_
  refine Ae (Ac ?_)
  have W := W.frontM (i := 1) Aa Aa
  have W := W.frontM (i := 1) Aa Aa
  exact ⟨_, H, F.re ⟨rfl, trivial⟩, W⟩
 rintro a w ⟨x1, hj, F, W⟩
 have hj := AR hj
 subst hj
 have H := K1
 clear G1 K1
 refine Au ?_
 have H := AR H
 subst H
 refine AO (.inl Aa) F W Aa (AD F Aa) ?_
 exact ⟨rfl, W.done⟩
theorem Nr : ∀ (n : Nat) (Y : Nat → Prop) (w0 : World) (v1 : Value) (v2 : Value) (p0 : Tr25) (p1 : Tr25) (r : Bool) (H : Dq n p0 p1 = some r) (h_v1 : Sl w0 (NX []) A6 v1 p0.un.2.2.2) (h_v2 : Sl w0 (NX []) A6 v2 p1.un.2.2.2), Calls Tryd.prog 51 #[.agg #[.int .i64 p0.un.1, .int .i64 p0.un.2.1, .int .i64 p0.un.2.2.1, v1], .agg #[.int .i64 p1.un.1, .int .i64 p1.un.2.1, .int .i64 p1.un.2.2.1, v2]] w0 fun e w' => e = .returned (.bool r) ∧ Below w0.heap.size w0 w' := by
  intro n
  induction n with
  | zero => intro Y w0 v1 v2 p0 p1 r H; exact nomatch H
  | succ n ih => intro Y w0 v1 v2 p0 p1 r H h_v1 h_v2; exact MK (Dq n) ih Y w0 v1 v2 p0 p1 r H h_v1 h_v2
theorem KN (Y : Nat → Prop) (w0 : World) (v1 : Value) (v2 : Value) (p0 : Tr25) (p1 : Tr25) (r : Bool) (H : Jj p0 p1 = some r) (h_v1 : Sl w0 (NX []) A6 v1 p0.un.2.2.2) (h_v2 : Sl w0 (NX []) A6 v2 p1.un.2.2.2) :
    Calls Tryd.prog 51 #[.agg #[.int .i64 p0.un.1, .int .i64 p0.un.2.1, .int .i64 p0.un.2.2.1, v1], .agg #[.int .i64 p1.un.1, .int .i64 p1.un.2.1, .int .i64 p1.un.2.2.1, v2]] w0 fun e w' => e = .returned (.bool r) ∧ Below w0.heap.size w0 w' := by
  obtain ⟨n, H⟩ := Cy H
  exact Nr n Y w0 v1 v2 p0 p1 r H h_v1 h_v2
theorem TY : Has Tryd.prog 23 := ⟨fun args w => Am Tryd.func23 rfl (by decide) args w⟩
noncomputable def Av (fRec_policy_Same : Tr28 → Tr28 → Option Bool) (p0 : List Tr28) (p1 : List Tr28) : Int → Option (Int ⊕ (Unit ⊕ Bool))
  | x1 => (if x1 < (p0.length : Int) then (ix p0 x1).bind fun x2 => (ix p1 x1).bind fun x3 => (fRec_policy_Same (Tr28.of (x2.un.1, Tr25.of (x2.un.2.1.un.1, x2.un.2.1.un.2.1, x2.un.2.1.un.2.2.1, x2.un.2.1.un.2.2.2), x2.un.2.2.1, x2.un.2.2.2.1, x2.un.2.2.2.2)) (Tr28.of (x3.un.1, Tr25.of (x3.un.2.1.un.1, x3.un.2.1.un.2.1, x3.un.2.1.un.2.2.1, x3.un.2.1.un.2.2.2), x3.un.2.2.1, x3.un.2.2.2.1, x3.un.2.2.2.2))).bind fun x4 => (if (!x4) = true then some (.inr (.inr false)) else some (.inl (CI (x1 + 1)))) else some (.inr (.inl ())))
noncomputable def AF (fRec_policy_Same : Tr28 → Tr28 → Option Bool) (p0 : List Tr28) (p1 : List Tr28) : Option Bool := (if (p0.length : Int) ≠ (p1.length : Int) then some false else HX (Bo (Av fRec_policy_Same p0 p1) 0) fun _ => some true)
theorem CP (fRec_policy_Same : Tr28 → Tr28 → Option Bool) (ih_policy_Same : ∀ (Y : Nat → Prop) (w0 : World) (v1 : Value) (v2 : Value) (v3 : Value) (v4 : Value) (p0 : Tr28) (p1 : Tr28) (r : Bool) (H : fRec_policy_Same p0 p1 = some r) (h_v1 : Sl w0 (NX []) A6 v1 p0.un.2.1.un.2.2.2) (h_v2 : Sl w0 (NX []) BJ v2 p0.un.2.2.2.2) (h_v3 : Sl w0 (NX []) A6 v3 p1.un.2.1.un.2.2.2) (h_v4 : Sl w0 (NX []) BJ v4 p1.un.2.2.2.2), Calls Tryd.prog 23 #[.agg #[.int .i64 p0.un.1, .int .i64 p0.un.2.1.un.1, .int .i64 p0.un.2.1.un.2.1, .int .i64 p0.un.2.1.un.2.2.1, v1, .int .i64 p0.un.2.2.1, .int .i64 p0.un.2.2.2.1, v2], .agg #[.int .i64 p1.un.1, .int .i64 p1.un.2.1.un.1, .int .i64 p1.un.2.1.un.2.1, .int .i64 p1.un.2.1.un.2.2.1, v3, .int .i64 p1.un.2.2.1, .int .i64 p1.un.2.2.2.1, v4]] w0 fun e w' => e = .returned (.bool r) ∧ Below w0.heap.size w0 w') (Y : Nat → Prop) (w0 : World) (v1 : Value) (v2 : Value) (p0 : List Tr28) (p1 : List Tr28) (r : Bool) (H : AF fRec_policy_Same p0 p1 = some r) (h_v1 : Sl w0 (NX []) BJ v1 p0) (h_v2 : Sl w0 (NX []) BJ v2 p1) :
    Calls Tryd.prog 52 #[v1, v2, .func (.func 23) #[] #[]] w0 fun e w' => e = .returned (.bool r) ∧ Below w0.heap.size w0 w' := by
 refine enter Tryd.func52 Aa Tryd.ntmps52 Aa fun a F => ?_
 have W := Stw.start Y w0
 obtain ⟨v3, h1, h_v1⟩ := h_v1.ex Eg
 obtain ⟨v4, h2, h_v2⟩ := h_v2.ex Eg
 unfold AF at H
 refine Ah (Ab ?_)
 refine ls F W Aa (Ag F Aa).q fun a w F W => ?_
 refine Ae (Ac (Ah (Ah (Ab ?_))))
 refine ls F W Aa (Ai F Aa).q fun a w F W => ?_
 refine ls F W Aa (DC (r := BJ) (l := p0) IX Aa F Aa (Bd Eg h1 (AG h_v1))).q fun a w F W => ?_
 refine ls F W Aa (Ai F Aa).q fun a w F W => ?_
 refine ls F W Aa (DC (r := BJ) (l := p1) IX Aa F Aa (Bd Eg h2 (AG h_v2))).q fun a w F W => ?_
 refine ls F W Aa (Gn F Aa Aa).q fun a w F W => ?_
 refine Ae (Ac ?_)
 refine AC F Aa (fun hb => ?_) fun hb => ?_
 ·
  have H := Ba (BM hb) H
  rw [hb] at F
  clear hb
  refine Ah (Ab ?_)
  refine ls F W Aa (Ag F Aa).q fun a w F W => ?_
  refine Ae (Ac (Au (AV ?_)))
  have H := AR H
  subst H
  refine AO (.inl Aa) F W Aa (AD F Aa) ?_
  exact ⟨rfl, W.done⟩
 have H := Bc (BL hb) H
 rw [hb] at F
 clear hb
 refine AM (Ac ?_)
 obtain ⟨o1, G1, K1, L1⟩ := Qb H
 refine BK (fun a w => some (Sum.inl ()) = some o1 ∧ Fr 32 [] [(6, .bool false)] a ∧ Stw ⟨Y, [], w0⟩ [] [] w) ?_ ?_
 ·
  have H := G1
  clear G1 K1
  refine Ah (Ab ?_)
  refine ls F W Aa (Ai F Aa).q fun a w F W => ?_
  refine ls F W Aa (DC (r := BJ) (l := p0) IX Aa F Aa (Bd Eg h1 (AG h_v1))).q fun a w F W => ?_
  refine ls F W Aa (Ai F Aa).q fun a w F W => ?_
  refine Ae (Ac (Bb ?_))
  refine Dl H (fun s a w => Fr 32 [] [(1, v2), (2, .func (.func 23) #[] #[]), (6, .bool false), (15, v1), (16, .int .i64 (p0.length : Int)), (17, .int .i64 s)] a ∧ Stw ⟨Y, [], w0⟩ [] [] w) ⟨F.re ⟨rfl, Aa, Aa, Aa, Aa, Aa, trivial⟩, W⟩ fun s o a w H L2 hR => ?_
  obtain ⟨x1, rfl⟩ : ∃ x, x = s := ⟨s, rfl⟩
  obtain ⟨F, W⟩ := hR
  have F : Fr 32 [] [(1, v2), (2, .func (.func 23) #[] #[]), (6, .bool false), (15, v1), (16, .int .i64 (p0.length : Int)), (17, .int .i64 x1)] a := F
  have W : Stw ⟨Y, [], w0⟩ [] [] w := W
  rw [Av] at H
  refine Ah (Ab ?_)
  refine ls F W Aa (Fx F Aa Aa).q fun a w F W => ?_
  refine Ae (Ac (Ah ?_))
  refine AC F Aa (fun hb => ?_) fun hb => ?_
  ·
   have H := Ba (BM hb) H
   rw [hb] at F
   clear hb
   refine AM (Ac (Ah (Bb (Ah (Ab ?_)))))
   refine ls F W Aa (Ai F Aa).q fun a w F W => ?_
   obtain ⟨x2, h3, H⟩ := Aq H
   obtain ⟨v5, h4, h5⟩ := Gy h1 h3
   have h6 : Ic v5 = [.int .i64 x2.un.1, .int .i64 x2.un.2.1.un.1, .int .i64 x2.un.2.1.un.2.1, .int .i64 x2.un.2.1.un.2.2.1, (v5.2.1.2.2.2.1), .int .i64 x2.un.2.2.1, .int .i64 x2.un.2.2.2.1, (v5.2.2.2.2.1)] := congrArg (fun q : Tr28 => ([.int .i64 q.un.1, .int .i64 q.un.2.1.un.1, .int .i64 q.un.2.1.un.2.1, .int .i64 q.un.2.1.un.2.2.1, (v5.2.1.2.2.2.1), .int .i64 q.un.2.2.1, .int .i64 q.un.2.2.2.1, (v5.2.2.2.2.1)] : List Value)) h5
   refine ls F W Aa (DS (r := Mr) OM F Aa Aa (AG h_v1) h4).q fun a w F W => ?_
   refine ls F W Aa (CG (y := Value.agg #[.int .i64 x2.un.1, .int .i64 x2.un.2.1.un.1, .int .i64 x2.un.2.1.un.2.1, .int .i64 x2.un.2.1.un.2.2.1, (v5.2.1.2.2.2.1), .int .i64 x2.un.2.2.1, .int .i64 x2.un.2.2.2.1, (v5.2.2.2.2.1)]) (j := 0) (i := x1) (enc := Ic) F Aa Aa (AG h_v1) h4 NE D1 (by rw [h6]; rfl)).q fun a w F W => ?_
   refine BA (cs := (BU)) F W Aa JT Aa fun b1 a w F W => ?_
   refine ls F W Aa (Ag F Aa).q fun a w F W => ?_
   refine AP (vs := [.int .i64 x2.un.1, .int .i64 x2.un.2.1.un.1, .int .i64 x2.un.2.1.un.2.1, .int .i64 x2.un.2.1.un.2.2.1, (v5.2.1.2.2.2.1), .int .i64 x2.un.2.2.1, .int .i64 x2.un.2.2.2.1, (v5.2.2.2.2.1)]) (M' := [(b1, [.int .i64 x2.un.1, .int .i64 x2.un.2.1.un.1, .int .i64 x2.un.2.1.un.2.1, .int .i64 x2.un.2.1.un.2.2.1, (v5.2.1.2.2.2.1), .int .i64 x2.un.2.2.1, .int .i64 x2.un.2.2.2.1, (v5.2.2.2.2.1)])]) 0 F W Aa Aa Aa D1 Aa Aa Aa (Af Aa (Af Aa (Af Aa (Af Aa (Af ((Cz (AG h_v1) h4 (AE.snd (AE.fst (AE.snd (AE.snd (AE.snd AE.here))))) (congrArg (fun q : Tr28 => q.un.2.1.un.2.2.2) h5)) _ W).one (Af Aa (Af Aa (Af ((Cz (AG h_v1) h4 (AE.snd (AE.snd (AE.snd (AE.snd AE.here)))) (congrArg (fun q : Tr28 => q.un.2.2.2.2) h5)) _ W).one BC)))))))) Aa fun w W => ?_
   refine Ae (Ac (Ah ?_))
   obtain ⟨v6, h7, h8⟩ := Sl.ex CF (Sl.at_ h_v1 h4 (AE.snd (AE.fst (AE.snd (AE.snd (AE.snd AE.here))))) (congrArg (fun q : Tr28 => q.un.2.1.un.2.2.2) h5))
   obtain ⟨v7, h9, h10⟩ := Sl.ex Eg (Sl.at_ h_v1 h4 (AE.snd (AE.snd (AE.snd (AE.snd AE.here)))) (congrArg (fun q : Tr28 => q.un.2.2.2.2) h5))
   refine Ab ?_
   iterate 2 refine ls F W Aa (Ai F Aa).q fun a w F W => ?_
   obtain ⟨x3, h11, H⟩ := Aq H
   obtain ⟨v8, h12, h13⟩ := Gy h2 h11
   have h14 : Ic v8 = [.int .i64 x3.un.1, .int .i64 x3.un.2.1.un.1, .int .i64 x3.un.2.1.un.2.1, .int .i64 x3.un.2.1.un.2.2.1, (v8.2.1.2.2.2.1), .int .i64 x3.un.2.2.1, .int .i64 x3.un.2.2.2.1, (v8.2.2.2.2.1)] := congrArg (fun q : Tr28 => ([.int .i64 q.un.1, .int .i64 q.un.2.1.un.1, .int .i64 q.un.2.1.un.2.1, .int .i64 q.un.2.1.un.2.2.1, (v8.2.1.2.2.2.1), .int .i64 q.un.2.2.1, .int .i64 q.un.2.2.2.1, (v8.2.2.2.2.1)] : List Value)) h13
   refine ls F W Aa (DS (r := Mr) OM F Aa Aa (AG h_v2) h12).q fun a w F W => ?_
   refine ls F W Aa (CG (y := Value.agg #[.int .i64 x3.un.1, .int .i64 x3.un.2.1.un.1, .int .i64 x3.un.2.1.un.2.1, .int .i64 x3.un.2.1.un.2.2.1, (v8.2.1.2.2.2.1), .int .i64 x3.un.2.2.1, .int .i64 x3.un.2.2.2.1, (v8.2.2.2.2.1)]) (j := 0) (i := x1) (enc := Ic) F Aa Aa (AG h_v2) h12 NE D1 (by rw [h14]; rfl)).q fun a w F W => ?_
   refine BA (cs := (BU)) F W Aa JT Aa fun b2 a w F W => ?_
   refine AP (vs := [.int .i64 x3.un.1, .int .i64 x3.un.2.1.un.1, .int .i64 x3.un.2.1.un.2.1, .int .i64 x3.un.2.1.un.2.2.1, (v8.2.1.2.2.2.1), .int .i64 x3.un.2.2.1, .int .i64 x3.un.2.2.2.1, (v8.2.2.2.2.1)]) (M' := [(b2, [.int .i64 x3.un.1, .int .i64 x3.un.2.1.un.1, .int .i64 x3.un.2.1.un.2.1, .int .i64 x3.un.2.1.un.2.2.1, (v8.2.1.2.2.2.1), .int .i64 x3.un.2.2.1, .int .i64 x3.un.2.2.2.1, (v8.2.2.2.2.1)]), (b1, [.int .i64 x2.un.1, .int .i64 x2.un.2.1.un.1, .int .i64 x2.un.2.1.un.2.1, .int .i64 x2.un.2.1.un.2.2.1, (v5.2.1.2.2.2.1), .int .i64 x2.un.2.2.1, .int .i64 x2.un.2.2.2.1, (v5.2.2.2.2.1)])]) 0 F W Aa Aa Aa D1 Aa Aa Aa (Af Aa (Af Aa (Af Aa (Af Aa (Af ((Cz (AG h_v2) h12 (AE.snd (AE.fst (AE.snd (AE.snd (AE.snd AE.here))))) (congrArg (fun q : Tr28 => q.un.2.1.un.2.2.2) h13)) _ W).one (Af Aa (Af Aa (Af ((Cz (AG h_v2) h12 (AE.snd (AE.snd (AE.snd (AE.snd AE.here)))) (congrArg (fun q : Tr28 => q.un.2.2.2.2) h13)) _ W).one BC)))))))) Aa fun w W => ?_
   refine Ae (Ac (Ah (Ab ?_)))
   refine ls F W Aa (Ai F Aa).q fun a w F W => ?_
   refine ls F W Aa (Aw (v := Value.agg #[.int .i64 x2.un.1, .int .i64 x2.un.2.1.un.1, .int .i64 x2.un.2.1.un.2.1, .int .i64 x2.un.2.1.un.2.2.1, (v5.2.1.2.2.2.1), .int .i64 x2.un.2.2.1, .int .i64 x2.un.2.2.2.1, (v5.2.2.2.2.1)]) 1 F Aa Aa D1 Aa).q fun a w F W => ?_
   refine ls F W Aa (Aw (v := Value.agg #[.int .i64 x3.un.1, .int .i64 x3.un.2.1.un.1, .int .i64 x3.un.2.1.un.2.1, .int .i64 x3.un.2.1.un.2.2.1, (v8.2.1.2.2.2.1), .int .i64 x3.un.2.2.1, .int .i64 x3.un.2.2.2.1, (v8.2.2.2.2.1)]) 0 F Aa Aa D1 Aa).q fun a w F W => ?_
   obtain ⟨x4, h15, H⟩ := Aq H
   refine ls F W Aa (Ls (ws := [.agg #[.int .i64 x2.un.1, .int .i64 x2.un.2.1.un.1, .int .i64 x2.un.2.1.un.2.1, .int .i64 x2.un.2.1.un.2.2.1, (v5.2.1.2.2.2.1), .int .i64 x2.un.2.2.1, .int .i64 x2.un.2.2.2.1, (v5.2.2.2.2.1)], .agg #[.int .i64 x3.un.1, .int .i64 x3.un.2.1.un.1, .int .i64 x3.un.2.1.un.2.1, .int .i64 x3.un.2.1.un.2.2.1, (v8.2.1.2.2.2.1), .int .i64 x3.un.2.2.1, .int .i64 x3.un.2.2.2.1, (v8.2.2.2.2.1)]]) (v := Value.bool x4) F TY Aa (fun w W => ih_policy_Same any w ((v5.2.1.2.2.2.1)) ((v5.2.2.2.2.1)) ((v8.2.1.2.2.2.1)) ((v8.2.2.2.2.1)) (Tr28.of (x2.un.1, Tr25.of (x2.un.2.1.un.1, x2.un.2.1.un.2.1, x2.un.2.1.un.2.2.1, x2.un.2.1.un.2.2.2), x2.un.2.2.1, x2.un.2.2.2.1, x2.un.2.2.2.2)) (Tr28.of (x3.un.1, Tr25.of (x3.un.2.1.un.1, x3.un.2.1.un.2.1, x3.un.2.1.un.2.2.1, x3.un.2.1.un.2.2.2), x3.un.2.2.1, x3.un.2.2.2.1, x3.un.2.2.2.2)) _ h15 (((Bd CF h7 (AG h8)) : EB _ _ _ _ _ _) w W).nx (((Bd Eg h9 (AG h10)) : EB _ _ _ _ _ _) w W).nx (((Cz (AG h_v2) h12 (AE.snd (AE.fst (AE.snd (AE.snd (AE.snd AE.here))))) (congrArg (fun q : Tr28 => q.un.2.1.un.2.2.2) h13)) : EB _ _ _ _ _ _) w W).nx (((Cz (AG h_v2) h12 (AE.snd (AE.snd (AE.snd (AE.snd AE.here)))) (congrArg (fun q : Tr28 => q.un.2.2.2.2) h13)) : EB _ _ _ _ _ _) w W).nx)) fun a w F W => ?_
   refine ls F W Aa (Iu F Aa).q fun a w F W => ?_
   refine Ae (Ac ?_)
   refine AC F Aa (fun hb => ?_) fun hb => ?_
   ·
    have H := Ba hb H
    rw [hb] at F
    clear hb
    refine Ah (Ab ?_)
    refine ls F W Aa (Ag F Aa).q fun a w F W => ?_
    refine Ae (Ac (Au (Be ?_)))
    iterate 2 refine AV ?_
    refine Be (AV ?_)
    have H := L2 _ H
    have H := L1 _ H
    have H := AR H
    subst H
    refine AO (.inl Aa) F W Aa (AD F Aa) ?_
    exact ⟨rfl, W.done⟩
   have H := Bc (by rw [hb]; decide) H
   rw [hb] at F
   clear hb
   refine AM (BI (Ac (Ab ?_)))
   refine ls F W Aa (Fe F Aa Aa Aa).q fun a w F W => ?_
   refine ls F W Aa (Ai F Aa).q fun a w F W => ?_
   refine Ae (Ac ?_)
   have W := W.sub (M' := []) (Z' := []) (List.nil_sublist _) (List.Sublist.refl _)
   exact ⟨_, H, F.re ⟨rfl, Aa, Aa, Aa, Aa, Aa, trivial⟩, W⟩
  have H := Bc (BL hb) H
  rw [hb] at F
  clear hb
  refine Do ?_
  iterate 2 refine Er ?_
  refine Dk (Ac ?_)
  have H := L2 _ H
  exact ⟨H, F.re ⟨rfl, trivial⟩, W⟩
 rintro a w ⟨hj, F, W⟩
 have H := K1 _ hj
 clear hj G1 K1 L1
 refine Ah (Ab ?_)
 refine ls F W Aa (Ag F Aa).q fun a w F W => ?_
 refine Ae (Ac (Au ?_))
 have H := AR H
 subst H
 refine AO (.inl Aa) F W Aa (AD F Aa) ?_
 exact ⟨rfl, W.done⟩
theorem U3 : Has Tryd.prog 52 := ⟨fun args w => Am Tryd.func52 rfl (by decide) args w⟩
noncomputable def C7 (fRec : Tr28 → Tr28 → Option Bool) (p0 : Tr28) (p1 : Tr28) : Option Bool := (if p0.un.1 = p1.un.1 then (if p0.un.2.2.1 = p1.un.2.2.1 then (if p0.un.2.2.2.1 = p1.un.2.2.2.1 then (Jj (Tr25.of (p0.un.2.1.un.1, p0.un.2.1.un.2.1, p0.un.2.1.un.2.2.1, p0.un.2.1.un.2.2.2)) (Tr25.of (p1.un.2.1.un.1, p1.un.2.1.un.2.1, p1.un.2.1.un.2.2.1, p1.un.2.1.un.2.2.2))).bind fun x2 => (if x2 = true then ((AF fRec) p0.un.2.2.2.2 p1.un.2.2.2.2).bind fun x3 => some x3 else some false) else some false) else some false) else some false).bind fun x1 => some x1
noncomputable def CK : Nat → Tr28 → Tr28 → Option Bool
  | 0 => fun _ _ => none
  | n + 1 => C7 (CK n)
noncomputable def Gm (p0 : Tr28) (p1 : Tr28) : Option Bool := Ge fun n => CK n p0 p1
theorem KY (fRec : Tr28 → Tr28 → Option Bool) (ih : ∀ (Y : Nat → Prop) (w0 : World) (v1 : Value) (v2 : Value) (v3 : Value) (v4 : Value) (p0 : Tr28) (p1 : Tr28) (r : Bool) (H : fRec p0 p1 = some r) (h_v1 : Sl w0 (NX []) A6 v1 p0.un.2.1.un.2.2.2) (h_v2 : Sl w0 (NX []) BJ v2 p0.un.2.2.2.2) (h_v3 : Sl w0 (NX []) A6 v3 p1.un.2.1.un.2.2.2) (h_v4 : Sl w0 (NX []) BJ v4 p1.un.2.2.2.2), Calls Tryd.prog 23 #[.agg #[.int .i64 p0.un.1, .int .i64 p0.un.2.1.un.1, .int .i64 p0.un.2.1.un.2.1, .int .i64 p0.un.2.1.un.2.2.1, v1, .int .i64 p0.un.2.2.1, .int .i64 p0.un.2.2.2.1, v2], .agg #[.int .i64 p1.un.1, .int .i64 p1.un.2.1.un.1, .int .i64 p1.un.2.1.un.2.1, .int .i64 p1.un.2.1.un.2.2.1, v3, .int .i64 p1.un.2.2.1, .int .i64 p1.un.2.2.2.1, v4]] w0 fun e w' => e = .returned (.bool r) ∧ Below w0.heap.size w0 w') (Y : Nat → Prop) (w0 : World) (v1 : Value) (v2 : Value) (v3 : Value) (v4 : Value) (p0 : Tr28) (p1 : Tr28) (r : Bool) (H : C7 fRec p0 p1 = some r) (h_v1 : Sl w0 (NX []) A6 v1 p0.un.2.1.un.2.2.2) (h_v2 : Sl w0 (NX []) BJ v2 p0.un.2.2.2.2) (h_v3 : Sl w0 (NX []) A6 v3 p1.un.2.1.un.2.2.2) (h_v4 : Sl w0 (NX []) BJ v4 p1.un.2.2.2.2) :
    Calls Tryd.prog 23 #[.agg #[.int .i64 p0.un.1, .int .i64 p0.un.2.1.un.1, .int .i64 p0.un.2.1.un.2.1, .int .i64 p0.un.2.1.un.2.2.1, v1, .int .i64 p0.un.2.2.1, .int .i64 p0.un.2.2.2.1, v2], .agg #[.int .i64 p1.un.1, .int .i64 p1.un.2.1.un.1, .int .i64 p1.un.2.1.un.2.1, .int .i64 p1.un.2.1.un.2.2.1, v3, .int .i64 p1.un.2.2.1, .int .i64 p1.un.2.2.2.1, v4]] w0 fun e w' => e = .returned (.bool r) ∧ Below w0.heap.size w0 w' := by
 refine enter Tryd.func23 Aa Tryd.ntmps23 Aa fun a F => ?_
 have W := Stw.start Y w0
 obtain ⟨v5, h1, h_v1⟩ := h_v1.ex CF
 obtain ⟨v6, h2, h_v2⟩ := h_v2.ex Eg
 obtain ⟨v7, h3, h_v3⟩ := h_v3.ex CF
 obtain ⟨v8, h4, h_v4⟩ := h_v4.ex Eg
 unfold C7 at H
 refine Ah (Ab ?_)
 refine FH (cs := (Fa p0 v1 v2)) F W Aa Aa Aa fun b1 a w F W => ?_
 refine FH (cs := (Fa p1 v3 v4)) F W Aa Aa Aa fun b2 a w F W => ?_
 refine ls F W Aa (Ag F Aa).q fun a w F W => ?_
 refine Ae (Ac ?_)
 obtain ⟨o1, G1, K1⟩ := Aq H
 refine BK (fun a w => ∃ x1 : Bool, some (x1) = some o1 ∧ Fr 38 [] [(4, .bool x1)] a ∧ Stw ⟨Y, [], w0⟩ [(b2, [.int .i64 p1.un.1, .int .i64 p1.un.2.1.un.1, .int .i64 p1.un.2.1.un.2.1, .int .i64 p1.un.2.1.un.2.2.1, v3, .int .i64 p1.un.2.2.1, .int .i64 p1.un.2.2.2.1, v4]), (b1, [.int .i64 p0.un.1, .int .i64 p0.un.2.1.un.1, .int .i64 p0.un.2.1.un.2.1, .int .i64 p0.un.2.1.un.2.2.1, v1, .int .i64 p0.un.2.2.1, .int .i64 p0.un.2.2.2.1, v2])] [] w) ?_ ?_
 ·
  have H := G1
  clear G1 K1
  refine Ab ?_
  refine ls F W Aa (Al Dm Aa Aa Aa T3 F Aa 0 Aa).q fun a w F W => ?_
  refine ls F W Aa (Aw (v := Value.int .i64 p0.un.1) 1 F Aa Aa T3 Aa).q fun a w F W => ?_
  refine ls F W Aa (Al Dm Aa Aa Aa T3 F Aa 0 Aa).q fun a w F W => ?_
  refine ls F W Aa (Aw (v := Value.int .i64 p1.un.1) 0 F Aa Aa T3 Aa).q fun a w F W => ?_
  refine ls F W Aa (Bw F Aa Aa).q fun a w F W => ?_
  refine ls F W Aa (Ai F Aa).q fun a w F W => ?_
  rcases Bool.eq_false_or_eq_true (decide (p0.un.1 = p1.un.1)) with hb | hb
  ·
   have H := Ba (BM hb) H
   rw [hb] at F
   clear hb
   refine Bn F W (Ak F Aa Aa Aa Aa) Aa (Ay Aa) (Al Dm Aa Aa Aa T3 F Aa 5 Aa).q fun a w F W => ?_
   refine Bn F W (Ak F Aa Aa Aa Aa) Aa (Ay Aa) (Aw (v := Value.int .i64 p0.un.2.2.1) 1 F Aa Aa T3 Aa).q fun a w F W => ?_
   refine Bn F W (Ak F Aa Aa Aa Aa) Aa (Ay Aa) (Al Dm Aa Aa Aa T3 F Aa 5 Aa).q fun a w F W => ?_
   refine Bn F W (Ak F Aa Aa Aa Aa) Aa (Ay Aa) (Aw (v := Value.int .i64 p1.un.2.2.1) 0 F Aa Aa T3 Aa).q fun a w F W => ?_
   refine Bn F W (Ak F Aa Aa Aa Aa) Aa (Ay Aa) (Bw F Aa Aa).q fun a w F W => ?_
   refine ls F W Aa (A2 F Aa Aa Aa).q fun a w F W => ?_
   refine ls F W Aa (Ai F Aa).q fun a w F W => ?_
   rcases Bool.eq_false_or_eq_true (decide (p0.un.2.2.1 = p1.un.2.2.1)) with hb | hb
   ·
    have H := Ba (BM hb) H
    rw [hb] at F
    clear hb
    refine Bn F W (Ak F Aa Aa Aa Aa) Aa (Ay Aa) (Al Dm Aa Aa Aa T3 F Aa 6 Aa).q fun a w F W => ?_
    refine Bn F W (Ak F Aa Aa Aa Aa) Aa (Ay Aa) (Aw (v := Value.int .i64 p0.un.2.2.2.1) 1 F Aa Aa T3 Aa).q fun a w F W => ?_
    refine Bn F W (Ak F Aa Aa Aa Aa) Aa (Ay Aa) (Al Dm Aa Aa Aa T3 F Aa 6 Aa).q fun a w F W => ?_
    refine Bn F W (Ak F Aa Aa Aa Aa) Aa (Ay Aa) (Aw (v := Value.int .i64 p1.un.2.2.2.1) 0 F Aa Aa T3 Aa).q fun a w F W => ?_
    refine Bn F W (Ak F Aa Aa Aa Aa) Aa (Ay Aa) (Bw F Aa Aa).q fun a w F W => ?_
    refine ls F W Aa (A2 F Aa Aa Aa).q fun a w F W => ?_
    refine ls F W Aa (Ai F Aa).q fun a w F W => ?_
    rcases Bool.eq_false_or_eq_true (decide (p0.un.2.2.2.1 = p1.un.2.2.2.1)) with hb | hb
    ·
     have H := Ba (BM hb) H
     rw [hb] at F
     clear hb
     refine Bn F W (Ak F Aa Aa Aa Aa) Aa (Ay Aa) (Al Dm Aa Aa Aa ER F Aa 1 Aa).q fun a w F W => ?_
     refine Bn F W (Ak F Aa Aa Aa Aa) Aa (Ay Aa) (Aw (v := Value.agg #[.int .i64 p0.un.2.1.un.1, .int .i64 p0.un.2.1.un.2.1, .int .i64 p0.un.2.1.un.2.2.1, v1]) 1 F Aa Aa ER Aa).q fun a w F W => ?_
     refine Bn F W (Ak F Aa Aa Aa Aa) Aa (Ay Aa) (Al Dm Aa Aa Aa ER F Aa 1 Aa).q fun a w F W => ?_
     refine Bn F W (Ak F Aa Aa Aa Aa) Aa (Ay Aa) (Aw (v := Value.agg #[.int .i64 p1.un.2.1.un.1, .int .i64 p1.un.2.1.un.2.1, .int .i64 p1.un.2.1.un.2.2.1, v3]) 0 F Aa Aa ER Aa).q fun a w F W => ?_
     refine Kj (Ak F Aa Aa Aa Aa) ?_
     obtain ⟨x2, h5, H⟩ := Aq H
     refine ls F W Aa (Bx (v := Value.bool x2) F Uh Aa (fun w W => KN any w (v1) (v3) (Tr25.of (p0.un.2.1.un.1, p0.un.2.1.un.2.1, p0.un.2.1.un.2.2.1, p0.un.2.1.un.2.2.2)) (Tr25.of (p1.un.2.1.un.1, p1.un.2.1.un.2.1, p1.un.2.1.un.2.2.1, p1.un.2.1.un.2.2.2)) _ h5 (((Bd CF h1 (AG h_v1)) : EB _ _ _ _ _ _) w W).nx (((Bd CF h3 (AG h_v3)) : EB _ _ _ _ _ _) w W).nx)) fun a w F W => ?_
     refine ls F W Aa (A2 F Aa Aa Aa).q fun a w F W => ?_
     refine ls F W Aa (Ai F Aa).q fun a w F W => ?_
     rcases Bool.eq_false_or_eq_true x2 with hb | hb
     ·
      have H := Ba hb H
      rw [hb] at F
      clear hb
      refine Bn F W (Ak F Aa Aa Aa Aa) Aa (Ay Aa) (Al Dm Aa Aa Aa JM F Aa 7 Aa).q fun a w F W => ?_
      refine Bn F W (Ak F Aa Aa Aa Aa) Aa (Ay Aa) (Aw (v := v2) 1 F Aa Aa JM Aa).q fun a w F W => ?_
      refine Bn F W (Ak F Aa Aa Aa Aa) Aa (Ay Aa) (Al Dm Aa Aa Aa JM F Aa 7 Aa).q fun a w F W => ?_
      refine Bn F W (Ak F Aa Aa Aa Aa) Aa (Ay Aa) (Aw (v := v4) 0 F Aa Aa JM Aa).q fun a w F W => ?_
      refine Kj (Ak F Aa Aa Aa Aa) ?_
      obtain ⟨x3, h6, H⟩ := Aq H
      refine ls F W Aa (Bx (v := Value.bool x3) F U3 Aa (fun w W => (CP fRec ih) any w (v2) (v4) p0.un.2.2.2.2 p1.un.2.2.2.2 _ h6 (((Bd Eg h2 (AG h_v2)) : EB _ _ _ _ _ _) w W).nx (((Bd Eg h4 (AG h_v4)) : EB _ _ _ _ _ _) w W).nx)) fun a w F W => ?_
      refine ls F W Aa (A2 F Aa Aa Aa).q fun a w F W => ?_
      refine ls F W Aa (Ag F Aa).q fun a w F W => ?_
      refine Ae (Ac ?_)
      have W := W.frontM (i := 1) Aa Aa
      have W := W.frontM (i := 1) Aa Aa
      exact ⟨_, H, F.re ⟨rfl, trivial⟩, W⟩
     have H := Bc (by rw [hb]; decide) H
     rw [hb] at F
     clear hb
     iterate 5 refine EX F Aa Aa Aa Aa Aa Aa Aa fun a F => ?_
     refine ls F W Aa (Ax F Aa Aa Aa).q fun a w F W => ?_
     refine ls F W Aa (Ag F Aa).q fun a w F W => ?_
     refine Ae (Ac ?_)
     have W := W.frontM (i := 1) Aa Aa
     have W := W.frontM (i := 1) Aa Aa
     exact ⟨_, H, F.re ⟨rfl, trivial⟩, W⟩
    have H := Bc (BL hb) H
    rw [hb] at F
    clear hb
    iterate 5 refine EX F Aa Aa Aa Aa Aa Aa Aa fun a F => ?_
    refine ls F W Aa (Ax F Aa Aa Aa).q fun a w F W => ?_
    refine ls F W Aa (Ai F Aa).q fun a w F W => ?_
    iterate 5 refine EX F Aa Aa Aa Aa Aa Aa Aa fun a F => ?_
    refine ls F W Aa (Ax F Aa Aa Aa).q fun a w F W => ?_
    refine ls F W Aa (Ag F Aa).q fun a w F W => ?_
    refine Ae (Ac ?_)
    have W := W.frontM (i := 1) Aa Aa
    have W := W.frontM (i := 1) Aa Aa
    exact ⟨_, H, F.re ⟨rfl, trivial⟩, W⟩
   have H := Bc (BL hb) H
   rw [hb] at F
   clear hb
   iterate 5 refine EX F Aa Aa Aa Aa Aa Aa Aa fun a F => ?_
   refine ls F W Aa (Ax F Aa Aa Aa).q fun a w F W => ?_
   refine ls F W Aa (Ai F Aa).q fun a w F W => ?_
   iterate 5 refine EX F Aa Aa Aa Aa Aa Aa Aa fun a F => ?_
   refine ls F W Aa (Ax F Aa Aa Aa).q fun a w F W => ?_
   refine ls F W Aa (Ai F Aa).q fun a w F W => ?_
   iterate 5 refine EX F Aa Aa Aa Aa Aa Aa Aa fun a F => ?_
   refine ls F W Aa (Ax F Aa Aa Aa).q fun a w F W => ?_
   refine ls F W Aa (Ag F Aa).q fun a w F W => ?_
   refine Ae (Ac ?_)
   have W := W.frontM (i := 1) Aa Aa
   have W := W.frontM (i := 1) Aa Aa
   exact ⟨_, H, F.re ⟨rfl, trivial⟩, W⟩
  have H := Bc (BL hb) H
  rw [hb] at F
  clear hb
  iterate 5 refine EX F Aa Aa Aa Aa Aa Aa Aa fun a F => ?_
  refine ls F W Aa (Ax F Aa Aa Aa).q fun a w F W => ?_
  refine ls F W Aa (Ai F Aa).q fun a w F W => ?_
  iterate 5 refine EX F Aa Aa Aa Aa Aa Aa Aa fun a F => ?_
  refine ls F W Aa (Ax F Aa Aa Aa).q fun a w F W => ?_
  refine ls F W Aa (Ai F Aa).q fun a w F W => ?_
  iterate 5 refine EX F Aa Aa Aa Aa Aa Aa Aa fun a F => ?_
  refine ls F W Aa (Ax F Aa Aa Aa).q fun a w F W => ?_
  refine ls F W Aa (Ai F Aa).q fun a w F W => ?_
  iterate 5 refine EX F Aa Aa Aa Aa Aa Aa Aa fun a F => ?_
  refine ls F W Aa (Ax F Aa Aa Aa).q fun a w F W => ?_
  refine ls F W Aa (Ag F Aa).q fun a w F W => ?_
  refine Ae (Ac ?_)
  have W := W.frontM (i := 1) Aa Aa
  have W := W.frontM (i := 1) Aa Aa
  exact ⟨_, H, F.re ⟨rfl, trivial⟩, W⟩
 rintro a w ⟨x1, hj, F, W⟩
 have hj := AR hj
 subst hj
 have H := K1
 clear G1 K1
 refine Au ?_
 have H := AR H
 subst H
 refine AO (.inl Aa) F W Aa (AD F Aa) ?_
 exact ⟨rfl, W.done⟩
theorem LL : ∀ (n : Nat) (Y : Nat → Prop) (w0 : World) (v1 : Value) (v2 : Value) (v3 : Value) (v4 : Value) (p0 : Tr28) (p1 : Tr28) (r : Bool) (H : CK n p0 p1 = some r) (h_v1 : Sl w0 (NX []) A6 v1 p0.un.2.1.un.2.2.2) (h_v2 : Sl w0 (NX []) BJ v2 p0.un.2.2.2.2) (h_v3 : Sl w0 (NX []) A6 v3 p1.un.2.1.un.2.2.2) (h_v4 : Sl w0 (NX []) BJ v4 p1.un.2.2.2.2), Calls Tryd.prog 23 #[.agg #[.int .i64 p0.un.1, .int .i64 p0.un.2.1.un.1, .int .i64 p0.un.2.1.un.2.1, .int .i64 p0.un.2.1.un.2.2.1, v1, .int .i64 p0.un.2.2.1, .int .i64 p0.un.2.2.2.1, v2], .agg #[.int .i64 p1.un.1, .int .i64 p1.un.2.1.un.1, .int .i64 p1.un.2.1.un.2.1, .int .i64 p1.un.2.1.un.2.2.1, v3, .int .i64 p1.un.2.2.1, .int .i64 p1.un.2.2.2.1, v4]] w0 fun e w' => e = .returned (.bool r) ∧ Below w0.heap.size w0 w' := by
  intro n
  induction n with
  | zero => intro Y w0 v1 v2 v3 v4 p0 p1 r H; exact nomatch H
  | succ n ih => intro Y w0 v1 v2 v3 v4 p0 p1 r H h_v1 h_v2 h_v3 h_v4; exact KY (CK n) ih Y w0 v1 v2 v3 v4 p0 p1 r H h_v1 h_v2 h_v3 h_v4
theorem Jr (Y : Nat → Prop) (w0 : World) (v1 : Value) (v2 : Value) (v3 : Value) (v4 : Value) (p0 : Tr28) (p1 : Tr28) (r : Bool) (H : Gm p0 p1 = some r) (h_v1 : Sl w0 (NX []) A6 v1 p0.un.2.1.un.2.2.2) (h_v2 : Sl w0 (NX []) BJ v2 p0.un.2.2.2.2) (h_v3 : Sl w0 (NX []) A6 v3 p1.un.2.1.un.2.2.2) (h_v4 : Sl w0 (NX []) BJ v4 p1.un.2.2.2.2) :
    Calls Tryd.prog 23 #[.agg #[.int .i64 p0.un.1, .int .i64 p0.un.2.1.un.1, .int .i64 p0.un.2.1.un.2.1, .int .i64 p0.un.2.1.un.2.2.1, v1, .int .i64 p0.un.2.2.1, .int .i64 p0.un.2.2.2.1, v2], .agg #[.int .i64 p1.un.1, .int .i64 p1.un.2.1.un.1, .int .i64 p1.un.2.1.un.2.1, .int .i64 p1.un.2.1.un.2.2.1, v3, .int .i64 p1.un.2.2.1, .int .i64 p1.un.2.2.2.1, v4]] w0 fun e w' => e = .returned (.bool r) ∧ Below w0.heap.size w0 w' := by
  obtain ⟨n, H⟩ := Cy H
  exact LL n Y w0 v1 v2 v3 v4 p0 p1 r H h_v1 h_v2 h_v3 h_v4
theorem O1 : type_of% Tryd.underlying85 := Tryd.underlying85
theorem UW : Bt Tryd.prog 85 [.int .i64 0] [(0, 1)] := ⟨⟨.agg #[.int .i64 0], by kernel_rfl, rfl⟩, ⟨_, O1, fun w => by kernel_rfl⟩⟩
theorem U1 : (Tryd.prog.info? 85).bind (·.zero) = some (.agg #[.int .i64 0]) := by kernel_rfl
theorem U6 : Ty Tryd.prog 85 true 1 := ⟨by kernel_rfl, by kernel_rfl⟩
noncomputable def E5 (p0 : Tr25) : Option Bool := (Jj p0 (Tr25.of (0, 0, 0, ([] : List Tr25)))).bind fun x1 => some x1
theorem Ix (Y : Nat → Prop) (w0 : World) (v1 : Value) (p0 : Tr25) (r : Bool) (H : E5 p0 = some r) (h_v1 : Sl w0 (NX []) A6 v1 p0.un.2.2.2) :
    Calls Tryd.prog 95 #[.agg #[.int .i64 p0.un.1, .int .i64 p0.un.2.1, .int .i64 p0.un.2.2.1, v1]] w0 fun e w' => e = .returned (.bool r) ∧ Below w0.heap.size w0 w' := by
 refine enter Tryd.func95 Aa Tryd.ntmps95 Aa fun a F => ?_
 have W := Stw.start Y w0
 obtain ⟨v2, h1, h_v1⟩ := h_v1.ex CF
 unfold E5 at H
 refine Ah (Ab ?_)
 refine FH (cs := (IY p0 v1)) F W Aa Aa Aa fun b1 a w F W => ?_
 refine ls F W Aa (Ag F Aa).q fun a w F W => ?_
 refine Ae (Ac (Ah (Ab ?_)))
 refine ls F W Aa (Aw (v := Value.agg #[.int .i64 p0.un.1, .int .i64 p0.un.2.1, .int .i64 p0.un.2.2.1, v1]) 0 F Aa Aa ER Aa).q fun a w F W => ?_
 refine ls F W Aa (Cx (v := Value.agg #[.int .i64 0, .int .i64 0, .int .i64 0, .slice none 0 0]) Ry F Aa Aa Aa).q fun a w F W => ?_
 obtain ⟨x1, h2, H⟩ := Aq H
 refine ls F W Aa (Bx (v := Value.bool x1) F Uh Aa (fun w W => KN any w (v1) (Value.slice none 0 0) p0 (Tr25.of (0, 0, 0, ([] : List Tr25))) _ h2 (((Bd CF h1 (AG h_v1)) : EB _ _ _ _ _ _) w W).nx Sl.nil)) fun a w F W => ?_
 refine ls F W Aa (Ag F Aa).q fun a w F W => ?_
 refine Ae (Ac (Au ?_))
 have H := AR H
 subst H
 refine AO (.inl Aa) F W Aa (AD F Aa) ?_
 exact ⟨rfl, W.done⟩
theorem Uu : Has Tryd.prog 95 := ⟨fun args w => Am Tryd.func95 rfl (by decide) args w⟩
noncomputable def Hm (p0 : Int) : Option Int := (if p0 = 0 then some true else (if p0 = 1 then some true else some (decide (p0 = 3)))).bind fun x1 => (if x1 = true then some 8 else (if p0 = 2 then some 4 else some 0))
theorem MN (Y : Nat → Prop) (w0 : World)  (p0 : Int) (r : Int) (H : Hm p0 = some r)  :
    Calls Tryd.prog 126 #[.int .i64 p0] w0 fun e w' => e = .returned (.int .i64 r) ∧ Below w0.heap.size w0 w' := by
 refine enter Tryd.func126 Aa Tryd.ntmps126 Aa fun a F => ?_
 have W := Stw.start Y w0
 unfold Hm at H
 refine Ah (Ab ?_)
 refine ls F W Aa (Ag F Aa).q fun a w F W => ?_
 refine Ae (Ac (Ah (Ah (Ab ?_))))
 refine ls F W Aa (Ai F Aa).q fun a w F W => ?_
 refine Ae (Ac (Bb ?_))
 obtain ⟨o1, G1, K1⟩ := Aq H
 refine BK (fun a w => ∃ x1 : Bool, some (x1) = some o1 ∧ Fr 10 [] [(2, .int .i64 0), (3, .int .i64 p0), (4, .bool x1)] a ∧ Stw ⟨Y, [], w0⟩ [] [] w) ?_ ?_
 ·
  have H := G1
  clear G1 K1
  refine Ah (Ab ?_)
  refine ls F W Aa (Bw F Aa Aa).q fun a w F W => ?_
  refine ls F W Aa (Ag F Aa).q fun a w F W => ?_
  refine Ae (Ac ?_)
  refine AC F Aa (fun hb => ?_) fun hb => ?_
  ·
   have H := Ba (BM hb) H
   rw [hb] at F
   clear hb
   refine AM (Ac ?_)
   exact ⟨_, H, F.re ⟨rfl, Aa, Aa, trivial⟩, W⟩
  have H := Bc (BL hb) H
  rw [hb] at F
  clear hb
  refine Ah (Ab ?_)
  refine ls F W Aa (Bw F Aa Aa).q fun a w F W => ?_
  refine ls F W Aa (Ag F Aa).q fun a w F W => ?_
  refine Ae (Ac ?_)
  refine AC F Aa (fun hb => ?_) fun hb => ?_
  ·
   have H := Ba (BM hb) H
   rw [hb] at F
   clear hb
   refine AM (Ac ?_)
   exact ⟨_, H, F.re ⟨rfl, Aa, Aa, trivial⟩, W⟩
  have H := Bc (BL hb) H
  rw [hb] at F
  clear hb
  refine Ab ?_
  refine ls F W Aa (Bw F Aa Aa).q fun a w F W => ?_
  refine ls F W Aa (Ag F Aa).q fun a w F W => ?_
  refine Ae (Ac ?_)
  exact ⟨_, H, F.re ⟨rfl, Aa, Aa, trivial⟩, W⟩
 rintro a w ⟨x1, hj, F, W⟩
 have hj := AR hj
 subst hj
 have H := K1
 clear G1 K1
 refine AC F Aa (fun hb => ?_) fun hb => ?_
 ·
  have H := Ba hb H
  rw [hb] at F
  clear hb
  refine Ah (Ab ?_)
  refine ls F W Aa (Ag F Aa).q fun a w F W => ?_
  refine Ae (Ac (Au (Be (AV ?_))))
  have H := AR H
  subst H
  refine AO (.inl Aa) F W Aa (AD F Aa) ?_
  exact ⟨rfl, W.done⟩
 have H := Bc (by rw [hb]; decide) H
 rw [hb] at F
 clear hb
 refine Ah (Ab ?_)
 refine ls F W Aa (Bw F Aa Aa).q fun a w F W => ?_
 refine ls F W Aa (Ag F Aa).q fun a w F W => ?_
 refine Ae (Ac ?_)
 refine AC F Aa (fun hb => ?_) fun hb => ?_
 ·
  have H := Ba (BM hb) H
  rw [hb] at F
  clear hb
  refine Ah (Ab ?_)
  refine ls F W Aa (Ag F Aa).q fun a w F W => ?_
  refine Ae (Ac (Au (Be (AV ?_))))
  have H := AR H
  subst H
  refine AO (.inl Aa) F W Aa (AD F Aa) ?_
  exact ⟨rfl, W.done⟩
 have H := Bc (BL hb) H
 rw [hb] at F
 clear hb
 refine AM (BI (Ac (Ah (Ab ?_))))
 refine ls F W Aa (Ag F Aa).q fun a w F W => ?_
 refine Ae (Ac (Au ?_))
 have H := AR H
 subst H
 refine AO (.inl Aa) F W Aa (AD F Aa) ?_
 exact ⟨rfl, W.done⟩
theorem T6 : Has Tryd.prog 126 := ⟨fun args w => Am Tryd.func126 rfl (by decide) args w⟩
noncomputable def H8 (p0 : Int) : Option Int := (Hm p0).bind fun x1 => (Ub (SK .i64 1 x1) x1).bind fun x2 => some (CI (x2 - 1))
theorem NF (Y : Nat → Prop) (w0 : World)  (p0 : Int) (r : Int) (H : H8 p0 = some r)  :
    Calls Tryd.prog 116 #[.int .i64 p0] w0 fun e w' => e = .returned (.int .i64 r) ∧ Below w0.heap.size w0 w' := by
 refine enter Tryd.func116 Aa Tryd.ntmps116 Aa fun a F => ?_
 have W := Stw.start Y w0
 unfold H8 at H
 refine Ah (Ab ?_)
 refine ls F W Aa (Ag F Aa).q fun a w F W => ?_
 refine Ae (Ac (Ah (Ab ?_)))
 refine ls F W Aa (Ai F Aa).q fun a w F W => ?_
 obtain ⟨x1, h1, H⟩ := Aq H
 refine ls F W Aa (Bx (v := Value.int .i64 x1) F T6 Aa (fun w W => MN any w p0 _ h1)) fun a w F W => ?_
 obtain ⟨x2, h2, H⟩ := Aq H
 refine ls F W Aa (Tw (Oe h2).2 (Tq F Aa Aa (Oe h2).1)).q fun a w F W => ?_
 refine ls F W Aa (Ly F Aa Aa Aa).q fun a w F W => ?_
 refine ls F W Aa (Ag F Aa).q fun a w F W => ?_
 refine Ae (Ac (Au ?_))
 have H := AR H
 subst H
 refine AO (.inl Aa) F W Aa (AD F Aa) ?_
 exact ⟨rfl, W.done⟩
theorem Uq : Has Tryd.prog 116 := ⟨fun args w => Am Tryd.func116 rfl (by decide) args w⟩
noncomputable def H0 (p0 : Int) : Option Int := (if (decide (p0 = 4) || decide (p0 = 5)) = true then some 7 else (H8 p0).bind fun x1 => some x1)
theorem LA (Y : Nat → Prop) (w0 : World)  (p0 : Int) (r : Int) (H : H0 p0 = some r)  :
    Calls Tryd.prog 96 #[.int .i64 p0] w0 fun e w' => e = .returned (.int .i64 r) ∧ Below w0.heap.size w0 w' := by
 refine enter Tryd.func96 Aa Tryd.ntmps96 Aa fun a F => ?_
 have W := Stw.start Y w0
 unfold H0 at H
 refine Ah (Ab ?_)
 refine ls F W Aa (Ag F Aa).q fun a w F W => ?_
 refine Ae (Ac (Ah ?_))
 refine BK (fun a w => Fr 11 [] [(0, .int .i64 p0), (2, .int .i64 0), (8, .bool (decide (p0 = 4) || decide (p0 = 5)))] a ∧ Stw ⟨Y, [], w0⟩ [] [] w) ?_ ?_
 ·
  refine Ab ?_
  refine ls F W Aa (Ai F Aa).q fun a w F W => ?_
  refine ls F W Aa (Bw F Aa Aa).q fun a w F W => ?_
  refine ls F W Aa (Ai F Aa).q fun a w F W => ?_
  rcases Bool.eq_false_or_eq_true (decide (p0 = 4)) with hb0 | hb0
  ·
   rw [hb0] at F
   iterate 2 refine EX F Aa Aa Aa Aa Aa Aa Aa fun a F => ?_
   refine ls F W Aa (A2 F Aa Aa Aa).q fun a w F W => ?_
   refine Ae (Ac ?_)
   exact ⟨F.re ⟨rfl, Aa, (JQ (by try rw [hb0]; all_goals simp only [JV])), trivial⟩, W⟩
  rw [hb0] at F
  refine Bn F W (Ak F Aa Aa Aa Aa) Aa (Ay Aa) (Ai F Aa).q fun a w F W => ?_
  refine Bn F W (Ak F Aa Aa Aa Aa) Aa (Ay Aa) (Bw F Aa Aa).q fun a w F W => ?_
  refine ls F W Aa (Ax F Aa Aa Aa).q fun a w F W => ?_
  refine Ae (Ac ?_)
  exact ⟨F.re ⟨rfl, Aa, (JQ (by try rw [hb0]; all_goals simp only [JV])), trivial⟩, W⟩
 rintro a w ⟨F, W⟩
 refine AC F Aa (fun hb => ?_) fun hb => ?_
 ·
  have H := Ba hb H
  rw [hb] at F
  clear hb
  refine Ah (Ab ?_)
  refine ls F W Aa (Ag F Aa).q fun a w F W => ?_
  refine Ae (Ac (Au (AV ?_)))
  have H := AR H
  subst H
  refine AO (.inl Aa) F W Aa (AD F Aa) ?_
  exact ⟨rfl, W.done⟩
 have H := Bc (by rw [hb]; decide) H
 rw [hb] at F
 clear hb
 refine AM (Ac (Ah (Ab ?_)))
 refine ls F W Aa (Ai F Aa).q fun a w F W => ?_
 obtain ⟨x1, h1, H⟩ := Aq H
 refine ls F W Aa (Bx (v := Value.int .i64 x1) F Uq Aa (fun w W => NF any w p0 _ h1)) fun a w F W => ?_
 refine ls F W Aa (Ag F Aa).q fun a w F W => ?_
 refine Ae (Ac (Au ?_))
 have H := AR H
 subst H
 refine AO (.inl Aa) F W Aa (AD F Aa) ?_
 exact ⟨rfl, W.done⟩
end Go.Proofs.YtlgjpoapclifbaaDoor
