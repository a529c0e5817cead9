/- The functions of layer 29, E5. Conditions: none. -/
import Derived.Test.YtlgjpoapclifbaaDoorcA6
namespace Go.Proofs.YtlgjpoapclifbaaDoor
open Go Go.RowKit
set_option linter.unusedVariables false
set_option linter.unusedSimpArgs false
set_option maxRecDepth 20000
abbrev Ir (a : Int × Int × Int × (Value × List Tr34)) : List Value := [.int .i64 a.1, .int .i64 a.2.1, .int .i64 a.2.2.1, a.2.2.2.1]
theorem Oq : EM I8 Ir := (EM.pair Fl.int.to (EM.pair Fl.int.to (EM.pair Fl.int.to EM.vsl)))
theorem U7 : Has Tryd.prog 13 := ⟨fun args w => An Tryd.func13 rfl (by decide) args w⟩
abbrev Oo (a0 : Nat) (a1 : Tr34) (a2 : Value) (a3 : Nat) (a4 : Tr34) (a5 : Value) : List (Nat × List Value) := [(a0, [.int .i64 a1.un.1, .int .i64 a1.un.2.1, .int .i64 a1.un.2.2.1, a2]), (a3, [.int .i64 a4.un.1, .int .i64 a4.un.2.1, .int .i64 a4.un.2.2.1, a5])]
noncomputable def Ej (fRec : Tr34 → Tr34 → Option Bool) (p0 : Tr34) (p1 : Tr34) : Int → Option (Int ⊕ (Unit ⊕ Bool))
  | x1 => (if x1 < (p0.un.2.2.2.length : Int) then (ix p0.un.2.2.2 x1).bind fun x2 => (ix p1.un.2.2.2 x1).bind fun x3 => (fRec x2 x3).bind fun x4 => (if (!x4) = true then some (.inr (.inr false)) else some (.inl (DP (x1 + 1)))) else some (.inr (.inl ())))
noncomputable def Ef (fRec : Tr34 → Tr34 → Option Bool) (p0 : Tr34) (p1 : Tr34) : Option Bool := (if (decide (p0.un.1 ≠ p1.un.1) || (decide (p0.un.2.1 ≠ p1.un.2.1) || (decide (p0.un.2.2.1 ≠ p1.un.2.2.1) || decide ((p0.un.2.2.2.length : Int) ≠ (p1.un.2.2.2.length : Int))))) = true then some false else KC (Br (Ej fRec p0 p1) 0) fun _ => some true)
noncomputable def DX : Nat → Tr34 → Tr34 → Option Bool
  | 0 => fun _ _ => none
  | n + 1 => Ef (DX n)
noncomputable def Ha (p0 : Tr34) (p1 : Tr34) : Option Bool := FY fun n => DX n p0 p1
theorem Ov (fRec : Tr34 → Tr34 → Option Bool) (ih : ∀ (Y : Nat → Prop) (w0 : World) (v1 : Value) (v2 : Value) (p0 : Tr34) (p1 : Tr34) (r : Bool) (H : fRec p0 p1 = some r) (h_v1 : Sl w0 (NX []) CS v1 p0.un.2.2.2) (h_v2 : Sl w0 (NX []) CS v2 p1.un.2.2.2), Calls Tryd.prog 13 #[.agg #[.int .i64 p0.un.1, .int .i64 p0.un.2.1, .int .i64 p0.un.2.2.1, v1], .agg #[.int .i64 p1.un.1, .int .i64 p1.un.2.1, .int .i64 p1.un.2.2.1, v2]] w0 fun e w' => e = .returned (.bool r) ∧ Below w0.heap.size w0 w') (Y : Nat → Prop) (w0 : World) (v1 : Value) (v2 : Value) (p0 : Tr34) (p1 : Tr34) (r : Bool) (H : Ef fRec p0 p1 = some r) (h_v1 : Sl w0 (NX []) CS v1 p0.un.2.2.2) (h_v2 : Sl w0 (NX []) CS v2 p1.un.2.2.2) :
    Calls Tryd.prog 13 #[.agg #[.int .i64 p0.un.1, .int .i64 p0.un.2.1, .int .i64 p0.un.2.2.1, v1], .agg #[.int .i64 p1.un.1, .int .i64 p1.un.2.1, .int .i64 p1.un.2.2.1, v2]] w0 fun e w' => e = .returned (.bool r) ∧ Below w0.heap.size w0 w' := by
 refine enter Tryd.func13 Aa Tryd.ntmps13 Aa fun a F => ?_
 have W := Stw.start Y w0
 obtain ⟨v3, h1, h_v1⟩ := h_v1.ex CL
 obtain ⟨v4, h2, h_v2⟩ := h_v2.ex CL
 unfold Ef at H
 refine Ak (Ab ?_)
 refine D6 (cs := (Du p0 v1)) F W Aa Aa Aa fun b1 a w F W => ?_
 refine D6 (cs := (Du p1 v2)) F W Aa Aa Aa fun b2 a w F W => ?_
 refine ls F W Aa (Ag F Aa).q fun a w F W => ?_
 refine Ae (Ac (Ak ?_))
 refine A1 (fun a w => Fr 53 [] [(2, .pointer (some ⟨b1, 0, none⟩)), (3, .pointer (some ⟨b2, 0, none⟩)), (4, .bool false), (33, .bool (decide (p0.un.1 ≠ p1.un.1) || (decide (p0.un.2.1 ≠ p1.un.2.1) || (decide (p0.un.2.2.1 ≠ p1.un.2.2.1) || decide ((p0.un.2.2.2.length : Int) ≠ (p1.un.2.2.2.length : Int))))))] a ∧ Stw ⟨Y, [], w0⟩ (Oo b2 p1 v2 b1 p0 v1) [] w) ?_ ?_
 ·
  refine Ab ?_
  refine ls F W Aa (Aj CJ Aa Aa Aa T3 F Aa 0 Aa).q fun a w F W => ?_
  refine ls F W Aa (Av (v := Value.int .i64 p0.un.1) 1 F Aa Aa T3 Aa).q fun a w F W => ?_
  refine ls F W Aa (Aj CJ Aa Aa Aa T3 F Aa 0 Aa).q fun a w F W => ?_
  refine ls F W Aa (Av (v := Value.int .i64 p1.un.1) 0 F Aa Aa T3 Aa).q fun a w F W => ?_
  refine ls F W Aa (Dp F Aa Aa).q fun a w F W => ?_
  refine ls F W Aa (Ah F Aa).q fun a w F W => ?_
  rcases Bool.eq_false_or_eq_true (decide (p0.un.1 ≠ p1.un.1)) with hb0 | hb0
  ·
   rw [hb0] at F
   iterate 5 refine Cd F Aa Aa Aa Aa Aa Aa Aa fun a F => ?_
   refine ls F W Aa (As F Aa Aa Aa).q fun a w F W => ?_
   refine ls F W Aa (Ah F Aa).q fun a w F W => ?_
   iterate 5 refine Cd F Aa Aa Aa Aa Aa Aa Aa fun a F => ?_
   refine ls F W Aa (As F Aa Aa Aa).q fun a w F W => ?_
   refine ls F W Aa (Ah F Aa).q fun a w F W => ?_
   iterate 7 refine Cd F Aa Aa Aa Aa Aa Aa Aa fun a F => ?_
   refine ls F W Aa (As F Aa Aa Aa).q fun a w F W => ?_
   refine Ae (Ac ?_)
   exact ⟨F.re ⟨rfl, Aa, Aa, (Dq (by try rw [hb0]; all_goals simp only [Dr])), trivial⟩, W⟩
  rw [hb0] at F
  refine Au F W (Ad F Aa Aa Aa Aa) Aa (Al Aa) (Aj CJ Aa Aa Aa T3 F Aa 1 Aa).q fun a w F W => ?_
  refine Au F W (Ad F Aa Aa Aa Aa) Aa (Al Aa) (Av (v := Value.int .i64 p0.un.2.1) 1 F Aa Aa T3 Aa).q fun a w F W => ?_
  refine Au F W (Ad F Aa Aa Aa Aa) Aa (Al Aa) (Aj CJ Aa Aa Aa T3 F Aa 1 Aa).q fun a w F W => ?_
  refine Au F W (Ad F Aa Aa Aa Aa) Aa (Al Aa) (Av (v := Value.int .i64 p1.un.2.1) 0 F Aa Aa T3 Aa).q fun a w F W => ?_
  refine Au F W (Ad F Aa Aa Aa Aa) Aa (Al Aa) (Dp F Aa Aa).q fun a w F W => ?_
  refine ls F W Aa (Ap F Aa Aa Aa).q fun a w F W => ?_
  refine ls F W Aa (Ah F Aa).q fun a w F W => ?_
  rcases Bool.eq_false_or_eq_true (decide (p0.un.2.1 ≠ p1.un.2.1)) with hb1 | hb1
  ·
   rw [hb1] at F
   iterate 5 refine Cd F Aa Aa Aa Aa Aa Aa Aa fun a F => ?_
   refine ls F W Aa (As F Aa Aa Aa).q fun a w F W => ?_
   refine ls F W Aa (Ah F Aa).q fun a w F W => ?_
   iterate 7 refine Cd F Aa Aa Aa Aa Aa Aa Aa fun a F => ?_
   refine ls F W Aa (As F Aa Aa Aa).q fun a w F W => ?_
   refine Ae (Ac ?_)
   exact ⟨F.re ⟨rfl, Aa, Aa, (Dq (by try rw [hb1]; try rw [hb0]; all_goals simp only [Dr])), trivial⟩, W⟩
  rw [hb1] at F
  refine Au F W (Ad F Aa Aa Aa Aa) Aa (Al Aa) (Aj CJ Aa Aa Aa T3 F Aa 2 Aa).q fun a w F W => ?_
  refine Au F W (Ad F Aa Aa Aa Aa) Aa (Al Aa) (Av (v := Value.int .i64 p0.un.2.2.1) 1 F Aa Aa T3 Aa).q fun a w F W => ?_
  refine Au F W (Ad F Aa Aa Aa Aa) Aa (Al Aa) (Aj CJ Aa Aa Aa T3 F Aa 2 Aa).q fun a w F W => ?_
  refine Au F W (Ad F Aa Aa Aa Aa) Aa (Al Aa) (Av (v := Value.int .i64 p1.un.2.2.1) 0 F Aa Aa T3 Aa).q fun a w F W => ?_
  refine Au F W (Ad F Aa Aa Aa Aa) Aa (Al Aa) (Dp F Aa Aa).q fun a w F W => ?_
  refine ls F W Aa (Ap F Aa Aa Aa).q fun a w F W => ?_
  refine ls F W Aa (Ah F Aa).q fun a w F W => ?_
  rcases Bool.eq_false_or_eq_true (decide (p0.un.2.2.1 ≠ p1.un.2.2.1)) with hb2 | hb2
  ·
   rw [hb2] at F
   iterate 7 refine Cd F Aa Aa Aa Aa Aa Aa Aa fun a F => ?_
   refine ls F W Aa (As F Aa Aa Aa).q fun a w F W => ?_
   refine Ae (Ac ?_)
   exact ⟨F.re ⟨rfl, Aa, Aa, (Dq (by try rw [hb2]; try rw [hb1]; try rw [hb0]; all_goals simp only [Dr])), trivial⟩, W⟩
  rw [hb2] at F
  refine Au F W (Ad F Aa Aa Aa Aa) Aa (Al Aa) (Aj CJ Aa Aa Aa Ix F Aa 3 Aa).q fun a w F W => ?_
  refine Au F W (Ad F Aa Aa Aa Aa) Aa (Al Aa) (Av (v := v1) 1 F Aa Aa Ix Aa).q fun a w F W => ?_
  refine Au F W (Ad F Aa Aa Aa Aa) Aa (Al Aa) (D7 (r := CS) (l := p0.un.2.2.2) Om Aa F Aa (AM CL h1 (Ay h_v1))).q fun a w F W => ?_
  refine Au F W (Ad F Aa Aa Aa Aa) Aa (Al Aa) (Aj CJ Aa Aa Aa Ix F Aa 3 Aa).q fun a w F W => ?_
  refine Au F W (Ad F Aa Aa Aa Aa) Aa (Al Aa) (Av (v := v2) 0 F Aa Aa Ix Aa).q fun a w F W => ?_
  refine Au F W (Ad F Aa Aa Aa Aa) Aa (Al Aa) (D7 (r := CS) (l := p1.un.2.2.2) Om Aa F Aa (AM CL h2 (Ay h_v2))).q fun a w F W => ?_
  refine Au F W (Ad F Aa Aa Aa Aa) Aa (Al Aa) (Dp F Aa Aa).q fun a w F W => ?_
  refine ls F W Aa (Ap F Aa Aa Aa).q fun a w F W => ?_
  refine Ae (Ac ?_)
  exact ⟨F.re ⟨rfl, Aa, Aa, (Dq (by try rw [hb2]; try rw [hb1]; try rw [hb0]; all_goals simp only [Dr])), trivial⟩, W⟩
 rintro a w ⟨F, W⟩
 refine Az F Aa (fun hb => ?_) fun hb => ?_
 ·
  have H := AW hb H
  rw [hb] at F
  clear hb
  refine Ak (Ab ?_)
  refine ls F W Aa (Ag F Aa).q fun a w F W => ?_
  refine Ae (Ac (Ax (AO ?_)))
  have H := AK H
  subst H
  refine AG (.inl Aa) F W Aa (AD F Aa) ?_
  exact ⟨rfl, W.done⟩
 have H := AY (by rw [hb]; decide) H
 rw [hb] at F
 clear hb
 refine AA (Ac ?_)
 obtain ⟨o1, G1, K1, L1⟩ := Rk H
 refine A1 (fun a w => some (Sum.inl ()) = some o1 ∧ Fr 53 [] [(4, .bool false)] a ∧ Stw ⟨Y, [], w0⟩ (Oo b2 p1 v2 b1 p0 v1) [] w) ?_ ?_
 ·
  have H := G1
  clear G1 K1
  refine Ak (Ab ?_)
  refine ls F W Aa (Ag F Aa).q fun a w F W => ?_
  refine Ae (Ac (AP ?_))
  have W := W.frontM (i := 1) Aa Aa
  have W := W.frontM (i := 1) Aa Aa
  refine Cx H (fun s a w => Fr 53 [] [(2, .pointer (some ⟨b1, 0, none⟩)), (3, .pointer (some ⟨b2, 0, none⟩)), (4, .bool false), (5, .int .i64 s)] a ∧ Stw ⟨Y, [], w0⟩ (Oo b2 p1 v2 b1 p0 v1) [] w) ⟨F.re ⟨rfl, Aa, Aa, Aa, trivial⟩, W⟩ fun s o a w H L2 hR => ?_
  obtain ⟨x1, rfl⟩ : ∃ x, x = s := ⟨s, rfl⟩
  obtain ⟨F, W⟩ := hR
  have F : Fr 53 [] [(2, .pointer (some ⟨b1, 0, none⟩)), (3, .pointer (some ⟨b2, 0, none⟩)), (4, .bool false), (5, .int .i64 x1)] a := F
  have W : Stw ⟨Y, [], w0⟩ (Oo b2 p1 v2 b1 p0 v1) [] w := W
  rw [Ej] at H
  refine Ak (Ak (Ab ?_))
  refine ls F W Aa (Ah F Aa).q fun a w F W => ?_
  refine ls F W Aa (Aj CJ Aa Aa Aa Ix F Aa 3 Aa).q fun a w F W => ?_
  refine ls F W Aa (Av (v := v1) 1 F Aa Aa Ix Aa).q fun a w F W => ?_
  refine ls F W Aa (D7 (r := CS) (l := p0.un.2.2.2) Om Aa F Aa (AM CL h1 (Ay h_v1))).q fun a w F W => ?_
  refine ls F W Aa (Co F Aa Aa).q fun a w F W => ?_
  refine Ae (Ac ?_)
  refine Az F Aa (fun hb => ?_) fun hb => ?_
  ·
   have H := AW (Bw hb) H
   rw [hb] at F
   clear hb
   refine AA (Ac (Ak (AP (Ak ?_))))
   refine EQ W MO (by kernel_rfl) ?_
   refine qs F Aa (Aj CJ Aa Aa Aa Ix F Aa 3 Aa).q fun a F => ?_
   refine qs F Aa (Av (v := v1) 1 F Aa Aa Ix Aa).q fun a F => ?_
   refine qs F Aa (Ah F Aa).q fun a F => ?_
   obtain ⟨x2, h3, H⟩ := Aq H
   obtain ⟨v5, h4, h5⟩ := D5 h1 h3
   have h6 : Ir v5 = [.int .i64 x2.un.1, .int .i64 x2.un.2.1, .int .i64 x2.un.2.2.1, (v5.2.2.2.1)] := congrArg (fun q : Tr34 => ([.int .i64 q.un.1, .int .i64 q.un.2.1, .int .i64 q.un.2.2.1, (v5.2.2.2.1)] : List Value)) h5
   refine qs F Aa (Cg (r := I8) St F Aa Aa (Ay h_v1) h4).q fun a F => ?_
   refine qs F Aa (BC (y := Value.agg #[.int .i64 x2.un.1, .int .i64 x2.un.2.1, .int .i64 x2.un.2.2.1, (v5.2.2.2.1)]) (j := 0) (i := x1) (enc := Ir) F Aa Aa (Ay h_v1) h4 Oq IA (by rw [h6]; rfl)).q fun a F => ?_
   refine qs F Aa (Aj CJ Aa Aa Aa Ix F Aa 3 Aa).q fun a F => ?_
   refine qs F Aa (Av (v := v2) 0 F Aa Aa Ix Aa).q fun a F => ?_
   refine qs F Aa (Ah F Aa).q fun a F => ?_
   obtain ⟨x3, h7, H⟩ := Aq H
   obtain ⟨v6, h8, h9⟩ := D5 h2 h7
   have h10 : Ir v6 = [.int .i64 x3.un.1, .int .i64 x3.un.2.1, .int .i64 x3.un.2.2.1, (v6.2.2.2.1)] := congrArg (fun q : Tr34 => ([.int .i64 q.un.1, .int .i64 q.un.2.1, .int .i64 q.un.2.2.1, (v6.2.2.2.1)] : List Value)) h9
   refine qs F Aa (Cg (r := I8) St F Aa Aa (Ay h_v2) h8).q fun a F => ?_
   refine qs F Aa (BC (y := Value.agg #[.int .i64 x3.un.1, .int .i64 x3.un.2.1, .int .i64 x3.un.2.2.1, (v6.2.2.2.1)]) (j := 0) (i := x1) (enc := Ir) F Aa Aa (Ay h_v2) h8 Oq IA (by rw [h10]; rfl)).q fun a F => ?_
   obtain ⟨x4, h11, H⟩ := Aq H
   refine qs F Aa (A0 (v := Value.bool x4) F U7 Aa (fun w W => ih any w ((v5.2.2.2.1)) ((v6.2.2.2.1)) x2 x3 _ h11 (((Ci (Ay h_v1) h4 (AE.snd (AE.snd (AE.snd AE.here))) (congrArg (fun q : Tr34 => q.un.2.2.2) h5)) : DZ _ _ _ _ _ _) w W).nx (((Ci (Ay h_v2) h8 (AE.snd (AE.snd (AE.snd AE.here))) (congrArg (fun q : Tr34 => q.un.2.2.2) h9)) : DZ _ _ _ _ _ _) w W).nx)) fun a F => ?_
   refine qs F Aa (Hs F Aa).q fun a F => ?_
   refine Cr fun w W => ?_
   refine Ac ?_
   refine Az F Aa (fun hb => ?_) fun hb => ?_
   ·
    have H := AW hb H
    rw [hb] at F
    clear hb
    refine Ak (Ab ?_)
    refine ls F W Aa (Ag F Aa).q fun a w F W => ?_
    refine Ae (Ac (Ax (Bc ?_)))
    iterate 2 refine AO ?_
    refine Bc (AO ?_)
    have H := L2 _ H
    have H := L1 _ H
    have H := AK H
    subst H
    refine AG (.inl Aa) F W Aa (AD F Aa) ?_
    exact ⟨rfl, W.done⟩
   have H := AY (by rw [hb]; decide) H
   rw [hb] at F
   clear hb
   refine AA (Bn (Ac (Ab ?_)))
   refine ls F W Aa (Ah F Aa).q fun a w F W => ?_
   refine ls F W Aa (C5 F Aa Aa Aa).q fun a w F W => ?_
   refine ls F W Aa (Ag F Aa).q fun a w F W => ?_
   refine Ae (Ac ?_)
   have W := W.frontM (i := 1) Aa Aa
   have W := W.frontM (i := 1) Aa Aa
   exact ⟨_, H, F.re ⟨rfl, Aa, Aa, Aa, trivial⟩, W⟩
  have H := AY (Bx hb) H
  rw [hb] at F
  clear hb
  refine Cz ?_
  iterate 2 refine C8 ?_
  refine Cy (Ac ?_)
  have W := W.frontM (i := 1) Aa Aa
  have W := W.frontM (i := 1) Aa Aa
  have H := L2 _ H
  exact ⟨H, F.re ⟨rfl, trivial⟩, W⟩
 rintro a w ⟨hj, F, W⟩
 have H := K1 _ hj
 clear hj G1 K1 L1
 refine Ak (Ab ?_)
 refine ls F W Aa (Ag F Aa).q fun a w F W => ?_
 refine Ae (Ac (Ax ?_))
 have H := AK H
 subst H
 refine AG (.inl Aa) F W Aa (AD F Aa) ?_
 exact ⟨rfl, W.done⟩
theorem PI : ∀ (n : Nat) (Y : Nat → Prop) (w0 : World) (v1 : Value) (v2 : Value) (p0 : Tr34) (p1 : Tr34) (r : Bool) (H : DX n p0 p1 = some r) (h_v1 : Sl w0 (NX []) CS v1 p0.un.2.2.2) (h_v2 : Sl w0 (NX []) CS v2 p1.un.2.2.2), Calls Tryd.prog 13 #[.agg #[.int .i64 p0.un.1, .int .i64 p0.un.2.1, .int .i64 p0.un.2.2.1, v1], .agg #[.int .i64 p1.un.1, .int .i64 p1.un.2.1, .int .i64 p1.un.2.2.1, v2]] w0 fun e w' => e = .returned (.bool r) ∧ Below w0.heap.size w0 w' := by
  intro n
  induction n with
  | zero => intro Y w0 v1 v2 p0 p1 r H; exact nomatch H
  | succ n ih => intro Y w0 v1 v2 p0 p1 r H h_v1 h_v2; exact Ov (DX n) ih Y w0 v1 v2 p0 p1 r H h_v1 h_v2
theorem JY (Y : Nat → Prop) (w0 : World) (v1 : Value) (v2 : Value) (p0 : Tr34) (p1 : Tr34) (r : Bool) (H : Ha p0 p1 = some r) (h_v1 : Sl w0 (NX []) CS v1 p0.un.2.2.2) (h_v2 : Sl w0 (NX []) CS v2 p1.un.2.2.2) :
    Calls Tryd.prog 13 #[.agg #[.int .i64 p0.un.1, .int .i64 p0.un.2.1, .int .i64 p0.un.2.2.1, v1], .agg #[.int .i64 p1.un.1, .int .i64 p1.un.2.1, .int .i64 p1.un.2.2.1, v2]] w0 fun e w' => e = .returned (.bool r) ∧ Below w0.heap.size w0 w' := by
  obtain ⟨n, H⟩ := BR H
  exact PI n Y w0 v1 v2 p0 p1 r H h_v1 h_v2
abbrev HI (a : Int × (Int × Int × Int × (Value × List Tr34)) × Int × Int × (Value × List Tr37)) : List Value := [.int .i64 a.1, .int .i64 a.2.1.1, .int .i64 a.2.1.2.1, .int .i64 a.2.1.2.2.1, a.2.1.2.2.2.1, .int .i64 a.2.2.1, .int .i64 a.2.2.2.1, a.2.2.2.2.1]
theorem M9 : EM Kr HI := (EM.pair Fl.int.to (EM.pair (EM.pair Fl.int.to (EM.pair Fl.int.to (EM.pair Fl.int.to EM.vsl))) (EM.pair Fl.int.to (EM.pair Fl.int.to EM.vsl))))
theorem H9 : Has Tryd.prog 9 := ⟨fun args w => An Tryd.func9 rfl (by decide) args w⟩
abbrev NU (a0 : Nat) (a1 : Tr37) (a2 : Value) (a3 : Value) (a4 : Nat) (a5 : Tr37) (a6 : Value) (a7 : Value) : List (Nat × List Value) := [(a0, [.int .i64 a1.un.1, .int .i64 a1.un.2.1.un.1, .int .i64 a1.un.2.1.un.2.1, .int .i64 a1.un.2.1.un.2.2.1, a2, .int .i64 a1.un.2.2.1, .int .i64 a1.un.2.2.2.1, a3]), (a4, [.int .i64 a5.un.1, .int .i64 a5.un.2.1.un.1, .int .i64 a5.un.2.1.un.2.1, .int .i64 a5.un.2.1.un.2.2.1, a6, .int .i64 a5.un.2.2.1, .int .i64 a5.un.2.2.2.1, a7])]
noncomputable def El (fRec : Tr37 → Tr37 → Option Bool) (p0 : Tr37) (p1 : Tr37) : Int → Option (Int ⊕ (Unit ⊕ Bool))
  | x3 => (if x3 < (p0.un.2.2.2.2.length : Int) then (ix p0.un.2.2.2.2 x3).bind fun x4 => (ix p1.un.2.2.2.2 x3).bind fun x5 => (fRec (Tr37.of (x4.un.1, Tr34.of (x4.un.2.1.un.1, x4.un.2.1.un.2.1, x4.un.2.1.un.2.2.1, x4.un.2.1.un.2.2.2), x4.un.2.2.1, x4.un.2.2.2.1, x4.un.2.2.2.2)) (Tr37.of (x5.un.1, Tr34.of (x5.un.2.1.un.1, x5.un.2.1.un.2.1, x5.un.2.1.un.2.2.1, x5.un.2.1.un.2.2.2), x5.un.2.2.1, x5.un.2.2.2.1, x5.un.2.2.2.2))).bind fun x6 => (if (!x6) = true then some (.inr (.inr false)) else some (.inl (DP (x3 + 1)))) else some (.inr (.inl ())))
noncomputable def Ei (fRec : Tr37 → Tr37 → Option Bool) (p0 : Tr37) (p1 : Tr37) : Option Bool := (if p0.un.1 ≠ p1.un.1 then some true else (if p0.un.2.2.1 ≠ p1.un.2.2.1 then some true else (if p0.un.2.2.2.1 ≠ p1.un.2.2.2.1 then some true else (Ha (Tr34.of (p0.un.2.1.un.1, p0.un.2.1.un.2.1, p0.un.2.1.un.2.2.1, p0.un.2.1.un.2.2.2)) (Tr34.of (p1.un.2.1.un.1, p1.un.2.1.un.2.1, p1.un.2.1.un.2.2.1, p1.un.2.1.un.2.2.2))).bind fun x2 => (if (!x2) = true then some true else some (decide ((p0.un.2.2.2.2.length : Int) ≠ (p1.un.2.2.2.2.length : Int))))))).bind fun x1 => (if x1 = true then some false else KC (Br (El fRec p0 p1) 0) fun _ => some true)
noncomputable def DT : Nat → Tr37 → Tr37 → Option Bool
  | 0 => fun _ _ => none
  | n + 1 => Ei (DT n)
noncomputable def KA (p0 : Tr37) (p1 : Tr37) : Option Bool := FY fun n => DT n p0 p1
theorem N4 (fRec : Tr37 → Tr37 → Option Bool) (ih : ∀ (Y : Nat → Prop) (w0 : World) (v1 : Value) (v2 : Value) (v3 : Value) (v4 : Value) (p0 : Tr37) (p1 : Tr37) (r : Bool) (H : fRec p0 p1 = some r) (h_v1 : Sl w0 (NX []) CS v1 p0.un.2.1.un.2.2.2) (h_v2 : Sl w0 (NX []) Ff v2 p0.un.2.2.2.2) (h_v3 : Sl w0 (NX []) CS v3 p1.un.2.1.un.2.2.2) (h_v4 : Sl w0 (NX []) Ff v4 p1.un.2.2.2.2), Calls Tryd.prog 9 #[.agg #[.int .i64 p0.un.1, .int .i64 p0.un.2.1.un.1, .int .i64 p0.un.2.1.un.2.1, .int .i64 p0.un.2.1.un.2.2.1, v1, .int .i64 p0.un.2.2.1, .int .i64 p0.un.2.2.2.1, v2], .agg #[.int .i64 p1.un.1, .int .i64 p1.un.2.1.un.1, .int .i64 p1.un.2.1.un.2.1, .int .i64 p1.un.2.1.un.2.2.1, v3, .int .i64 p1.un.2.2.1, .int .i64 p1.un.2.2.2.1, v4]] w0 fun e w' => e = .returned (.bool r) ∧ Below w0.heap.size w0 w') (Y : Nat → Prop) (w0 : World) (v1 : Value) (v2 : Value) (v3 : Value) (v4 : Value) (p0 : Tr37) (p1 : Tr37) (r : Bool) (H : Ei fRec p0 p1 = some r) (h_v1 : Sl w0 (NX []) CS v1 p0.un.2.1.un.2.2.2) (h_v2 : Sl w0 (NX []) Ff v2 p0.un.2.2.2.2) (h_v3 : Sl w0 (NX []) CS v3 p1.un.2.1.un.2.2.2) (h_v4 : Sl w0 (NX []) Ff v4 p1.un.2.2.2.2) :
    Calls Tryd.prog 9 #[.agg #[.int .i64 p0.un.1, .int .i64 p0.un.2.1.un.1, .int .i64 p0.un.2.1.un.2.1, .int .i64 p0.un.2.1.un.2.2.1, v1, .int .i64 p0.un.2.2.1, .int .i64 p0.un.2.2.2.1, v2], .agg #[.int .i64 p1.un.1, .int .i64 p1.un.2.1.un.1, .int .i64 p1.un.2.1.un.2.1, .int .i64 p1.un.2.1.un.2.2.1, v3, .int .i64 p1.un.2.2.1, .int .i64 p1.un.2.2.2.1, v4]] w0 fun e w' => e = .returned (.bool r) ∧ Below w0.heap.size w0 w' := by
 refine enter Tryd.func9 Aa Tryd.ntmps9 Aa fun a F => ?_
 have W := Stw.start Y w0
 obtain ⟨v5, h1, h_v1⟩ := h_v1.ex CL
 obtain ⟨v6, h2, h_v2⟩ := h_v2.ex Fx
 obtain ⟨v7, h3, h_v3⟩ := h_v3.ex CL
 obtain ⟨v8, h4, h_v4⟩ := h_v4.ex Fx
 unfold Ei at H
 refine Ak (Ab ?_)
 refine D6 (cs := (Ce p0 v1 v2)) F W Aa Aa Aa fun b1 a w F W => ?_
 refine D6 (cs := (Ce p1 v3 v4)) F W Aa Aa Aa fun b2 a w F W => ?_
 refine ls F W Aa (Ag F Aa).q fun a w F W => ?_
 refine Ae (Ac (Ak ?_))
 obtain ⟨o1, G1, K1⟩ := Aq H
 refine A1 (fun a w => ∃ x1 : Bool, some (x1) = some o1 ∧ Fr 61 [] [(2, .pointer (some ⟨b1, 0, none⟩)), (3, .pointer (some ⟨b2, 0, none⟩)), (4, .bool false), (41, .bool x1)] a ∧ Stw ⟨Y, [], w0⟩ (NU b2 p1 v3 v4 b1 p0 v1 v2) [] w) ?_ ?_
 ·
  have H := G1
  clear G1 K1
  refine Ab ?_
  refine ls F W Aa (Aj BX Aa Aa Aa T3 F Aa 0 Aa).q fun a w F W => ?_
  refine ls F W Aa (Av (v := Value.int .i64 p0.un.1) 1 F Aa Aa T3 Aa).q fun a w F W => ?_
  refine ls F W Aa (Aj BX Aa Aa Aa T3 F Aa 0 Aa).q fun a w F W => ?_
  refine ls F W Aa (Av (v := Value.int .i64 p1.un.1) 0 F Aa Aa T3 Aa).q fun a w F W => ?_
  refine ls F W Aa (Dp F Aa Aa).q fun a w F W => ?_
  refine ls F W Aa (Ah F Aa).q fun a w F W => ?_
  rcases Bool.eq_false_or_eq_true (decide (p0.un.1 ≠ p1.un.1)) with hb | hb
  ·
   have H := AW (Bw hb) H
   rw [hb] at F
   clear hb
   iterate 5 refine Cd F Aa Aa Aa Aa Aa Aa Aa fun a F => ?_
   refine ls F W Aa (As F Aa Aa Aa).q fun a w F W => ?_
   refine ls F W Aa (Ah F Aa).q fun a w F W => ?_
   iterate 5 refine Cd F Aa Aa Aa Aa Aa Aa Aa fun a F => ?_
   refine ls F W Aa (As F Aa Aa Aa).q fun a w F W => ?_
   refine ls F W Aa (Ah F Aa).q fun a w F W => ?_
   iterate 6 refine Cd F Aa Aa Aa Aa Aa Aa Aa fun a F => ?_
   refine ls F W Aa (As F Aa Aa Aa).q fun a w F W => ?_
   refine ls F W Aa (Ah F Aa).q fun a w F W => ?_
   iterate 7 refine Cd F Aa Aa Aa Aa Aa Aa Aa fun a F => ?_
   refine ls F W Aa (As F Aa Aa Aa).q fun a w F W => ?_
   refine Ae (Ac ?_)
   have W := W.frontM (i := 1) Aa Aa
   have W := W.frontM (i := 1) Aa Aa
   exact ⟨_, H, F.re ⟨rfl, Aa, Aa, Aa, trivial⟩, W⟩
  have H := AY (Bx hb) H
  rw [hb] at F
  clear hb
  refine Au F W (Ad F Aa Aa Aa Aa) Aa (Al Aa) (Aj BX Aa Aa Aa T3 F Aa 5 Aa).q fun a w F W => ?_
  refine Au F W (Ad F Aa Aa Aa Aa) Aa (Al Aa) (Av (v := Value.int .i64 p0.un.2.2.1) 1 F Aa Aa T3 Aa).q fun a w F W => ?_
  refine Au F W (Ad F Aa Aa Aa Aa) Aa (Al Aa) (Aj BX Aa Aa Aa T3 F Aa 5 Aa).q fun a w F W => ?_
  refine Au F W (Ad F Aa Aa Aa Aa) Aa (Al Aa) (Av (v := Value.int .i64 p1.un.2.2.1) 0 F Aa Aa T3 Aa).q fun a w F W => ?_
  refine Au F W (Ad F Aa Aa Aa Aa) Aa (Al Aa) (Dp F Aa Aa).q fun a w F W => ?_
  refine ls F W Aa (Ap F Aa Aa Aa).q fun a w F W => ?_
  refine ls F W Aa (Ah F Aa).q fun a w F W => ?_
  rcases Bool.eq_false_or_eq_true (decide (p0.un.2.2.1 ≠ p1.un.2.2.1)) with hb | hb
  ·
   have H := AW (Bw hb) H
   rw [hb] at F
   clear hb
   iterate 5 refine Cd F Aa Aa Aa Aa Aa Aa Aa fun a F => ?_
   refine ls F W Aa (As F Aa Aa Aa).q fun a w F W => ?_
   refine ls F W Aa (Ah F Aa).q fun a w F W => ?_
   iterate 6 refine Cd F Aa Aa Aa Aa Aa Aa Aa fun a F => ?_
   refine ls F W Aa (As F Aa Aa Aa).q fun a w F W => ?_
   refine ls F W Aa (Ah F Aa).q fun a w F W => ?_
   iterate 7 refine Cd F Aa Aa Aa Aa Aa Aa Aa fun a F => ?_
   refine ls F W Aa (As F Aa Aa Aa).q fun a w F W => ?_
   refine Ae (Ac ?_)
   have W := W.frontM (i := 1) Aa Aa
   have W := W.frontM (i := 1) Aa Aa
   exact ⟨_, H, F.re ⟨rfl, Aa, Aa, Aa, trivial⟩, W⟩
  have H := AY (Bx hb) H
  rw [hb] at F
  clear hb
  refine Au F W (Ad F Aa Aa Aa Aa) Aa (Al Aa) (Aj BX Aa Aa Aa T3 F Aa 6 Aa).q fun a w F W => ?_
  refine Au F W (Ad F Aa Aa Aa Aa) Aa (Al Aa) (Av (v := Value.int .i64 p0.un.2.2.2.1) 1 F Aa Aa T3 Aa).q fun a w F W => ?_
  refine Au F W (Ad F Aa Aa Aa Aa) Aa (Al Aa) (Aj BX Aa Aa Aa T3 F Aa 6 Aa).q fun a w F W => ?_
  refine Au F W (Ad F Aa Aa Aa Aa) Aa (Al Aa) (Av (v := Value.int .i64 p1.un.2.2.2.1) 0 F Aa Aa T3 Aa).q fun a w F W => ?_
  refine Au F W (Ad F Aa Aa Aa Aa) Aa (Al Aa) (Dp F Aa Aa).q fun a w F W => ?_
  refine ls F W Aa (Ap F Aa Aa Aa).q fun a w F W => ?_
  refine ls F W Aa (Ah F Aa).q fun a w F W => ?_
  rcases Bool.eq_false_or_eq_true (decide (p0.un.2.2.2.1 ≠ p1.un.2.2.2.1)) with hb | hb
  ·
   have H := AW (Bw hb) H
   rw [hb] at F
   clear hb
   iterate 6 refine Cd F Aa Aa Aa Aa Aa Aa Aa fun a F => ?_
   refine ls F W Aa (As F Aa Aa Aa).q fun a w F W => ?_
   refine ls F W Aa (Ah F Aa).q fun a w F W => ?_
   iterate 7 refine Cd F Aa Aa Aa Aa Aa Aa Aa fun a F => ?_
   refine ls F W Aa (As F Aa Aa Aa).q fun a w F W => ?_
   refine Ae (Ac ?_)
   have W := W.frontM (i := 1) Aa Aa
   have W := W.frontM (i := 1) Aa Aa
   exact ⟨_, H, F.re ⟨rfl, Aa, Aa, Aa, trivial⟩, W⟩
  have H := AY (Bx hb) H
  rw [hb] at F
  clear hb
  refine Au F W (Ad F Aa Aa Aa Aa) Aa (Al Aa) (Aj BX Aa Aa Aa IA F Aa 1 Aa).q fun a w F W => ?_
  refine Au F W (Ad F Aa Aa Aa Aa) Aa (Al Aa) (Av (v := Value.agg #[.int .i64 p0.un.2.1.un.1, .int .i64 p0.un.2.1.un.2.1, .int .i64 p0.un.2.1.un.2.2.1, v1]) 1 F Aa Aa IA Aa).q fun a w F W => ?_
  refine Au F W (Ad F Aa Aa Aa Aa) Aa (Al Aa) (Aj BX Aa Aa Aa IA F Aa 1 Aa).q fun a w F W => ?_
  refine Au F W (Ad F Aa Aa Aa Aa) Aa (Al Aa) (Av (v := Value.agg #[.int .i64 p1.un.2.1.un.1, .int .i64 p1.un.2.1.un.2.1, .int .i64 p1.un.2.1.un.2.2.1, v3]) 0 F Aa Aa IA Aa).q fun a w F W => ?_
  refine Jc (Ad F Aa Aa Aa Aa) ?_
  obtain ⟨x2, h5, H⟩ := Aq H
  refine ls F W Aa (A0 (v := Value.bool x2) F U7 Aa (fun w W => JY any w (v1) (v3) (Tr34.of (p0.un.2.1.un.1, p0.un.2.1.un.2.1, p0.un.2.1.un.2.2.1, p0.un.2.1.un.2.2.2)) (Tr34.of (p1.un.2.1.un.1, p1.un.2.1.un.2.1, p1.un.2.1.un.2.2.1, p1.un.2.1.un.2.2.2)) _ h5 (((AM CL h1 (Ay h_v1)) : DZ _ _ _ _ _ _) w W).nx (((AM CL h3 (Ay h_v3)) : DZ _ _ _ _ _ _) w W).nx)) fun a w F W => ?_
  refine Au F W (Ad F Aa Aa Aa Aa) Aa (Al Aa) (Hs F Aa).q fun a w F W => ?_
  refine ls F W Aa (Ap F Aa Aa Aa).q fun a w F W => ?_
  refine ls F W Aa (Ah F Aa).q fun a w F W => ?_
  rcases Bool.eq_false_or_eq_true (!x2) with hb | hb
  ·
   have H := AW hb H
   rw [hb] at F
   clear hb
   iterate 7 refine Cd F Aa Aa Aa Aa Aa Aa Aa fun a F => ?_
   refine ls F W Aa (As F Aa Aa Aa).q fun a w F W => ?_
   refine Ae (Ac ?_)
   have W := W.frontM (i := 1) Aa Aa
   have W := W.frontM (i := 1) Aa Aa
   exact ⟨_, H, F.re ⟨rfl, Aa, Aa, Aa, trivial⟩, W⟩
  have H := AY (by rw [hb]; decide) H
  rw [hb] at F
  clear hb
  refine Au F W (Ad F Aa Aa Aa Aa) Aa (Al Aa) (Aj BX Aa Aa Aa HK F Aa 7 Aa).q fun a w F W => ?_
  refine Au F W (Ad F Aa Aa Aa Aa) Aa (Al Aa) (Av (v := v2) 1 F Aa Aa HK Aa).q fun a w F W => ?_
  refine Au F W (Ad F Aa Aa Aa Aa) Aa (Al Aa) (D7 (r := Ff) (l := p0.un.2.2.2.2) Nb Aa F Aa (AM Fx h2 (Ay h_v2))).q fun a w F W => ?_
  refine Au F W (Ad F Aa Aa Aa Aa) Aa (Al Aa) (Aj BX Aa Aa Aa HK F Aa 7 Aa).q fun a w F W => ?_
  refine Au F W (Ad F Aa Aa Aa Aa) Aa (Al Aa) (Av (v := v4) 0 F Aa Aa HK Aa).q fun a w F W => ?_
  refine Au F W (Ad F Aa Aa Aa Aa) Aa (Al Aa) (D7 (r := Ff) (l := p1.un.2.2.2.2) Nb Aa F Aa (AM Fx h4 (Ay h_v4))).q fun a w F W => ?_
  refine Au F W (Ad F Aa Aa Aa Aa) Aa (Al Aa) (Dp F Aa Aa).q fun a w F W => ?_
  refine ls F W Aa (Ap F Aa Aa Aa).q fun a w F W => ?_
  refine Ae (Ac ?_)
  have W := W.frontM (i := 1) Aa Aa
  have W := W.frontM (i := 1) Aa Aa
  exact ⟨_, H, F.re ⟨rfl, Aa, Aa, Aa, trivial⟩, W⟩
 rintro a w ⟨x1, hj, F, W⟩
 have hj := AK hj
 subst hj
 have H := K1
 clear G1 K1
 refine Az F Aa (fun hb => ?_) fun hb => ?_
 ·
  have H := AW hb H
  rw [hb] at F
  clear hb
  refine Ak (Ab ?_)
  refine ls F W Aa (Ag F Aa).q fun a w F W => ?_
  refine Ae (Ac (Ax (AO ?_)))
  have H := AK H
  subst H
  refine AG (.inl Aa) F W Aa (AD F Aa) ?_
  exact ⟨rfl, W.done⟩
 have H := AY (by rw [hb]; decide) H
 rw [hb] at F
 clear hb
 refine AA (Ac ?_)
 obtain ⟨o2, G2, K2, L2⟩ := Rk H
 refine A1 (fun a w => some (Sum.inl ()) = some o2 ∧ Fr 61 [] [(4, .bool false)] a ∧ Stw ⟨Y, [], w0⟩ (NU b2 p1 v3 v4 b1 p0 v1 v2) [] w) ?_ ?_
 ·
  have H := G2
  clear G2 K2
  refine Ak (Ab ?_)
  refine ls F W Aa (Ag F Aa).q fun a w F W => ?_
  refine Ae (Ac (AP ?_))
  have W := W.frontM (i := 1) Aa Aa
  have W := W.frontM (i := 1) Aa Aa
  refine Cx H (fun s a w => Fr 61 [] [(2, .pointer (some ⟨b1, 0, none⟩)), (3, .pointer (some ⟨b2, 0, none⟩)), (4, .bool false), (5, .int .i64 s)] a ∧ Stw ⟨Y, [], w0⟩ (NU b2 p1 v3 v4 b1 p0 v1 v2) [] w) ⟨F.re ⟨rfl, Aa, Aa, Aa, trivial⟩, W⟩ fun s o a w H L3 hR => ?_
  obtain ⟨x3, rfl⟩ : ∃ x, x = s := ⟨s, rfl⟩
  obtain ⟨F, W⟩ := hR
  have F : Fr 61 [] [(2, .pointer (some ⟨b1, 0, none⟩)), (3, .pointer (some ⟨b2, 0, none⟩)), (4, .bool false), (5, .int .i64 x3)] a := F
  have W : Stw ⟨Y, [], w0⟩ (NU b2 p1 v3 v4 b1 p0 v1 v2) [] w := W
  rw [El] at H
  refine Ak (Ak (Ab ?_))
  refine ls F W Aa (Ah F Aa).q fun a w F W => ?_
  refine ls F W Aa (Aj BX Aa Aa Aa HK F Aa 7 Aa).q fun a w F W => ?_
  refine ls F W Aa (Av (v := v2) 1 F Aa Aa HK Aa).q fun a w F W => ?_
  refine ls F W Aa (D7 (r := Ff) (l := p0.un.2.2.2.2) Nb Aa F Aa (AM Fx h2 (Ay h_v2))).q fun a w F W => ?_
  refine ls F W Aa (Co F Aa Aa).q fun a w F W => ?_
  refine Ae (Ac ?_)
  refine Az F Aa (fun hb => ?_) fun hb => ?_
  ·
   have H := AW (Bw hb) H
   rw [hb] at F
   clear hb
   refine AA (Ac (Ak (AP (Ak ?_))))
   refine EQ W MO (by kernel_rfl) ?_
   refine qs F Aa (Aj BX Aa Aa Aa HK F Aa 7 Aa).q fun a F => ?_
   refine qs F Aa (Av (v := v2) 1 F Aa Aa HK Aa).q fun a F => ?_
   refine qs F Aa (Ah F Aa).q fun a F => ?_
   obtain ⟨x4, h6, H⟩ := Aq H
   obtain ⟨v9, h7, h8⟩ := D5 h2 h6
   have h9 : HI v9 = [.int .i64 x4.un.1, .int .i64 x4.un.2.1.un.1, .int .i64 x4.un.2.1.un.2.1, .int .i64 x4.un.2.1.un.2.2.1, (v9.2.1.2.2.2.1), .int .i64 x4.un.2.2.1, .int .i64 x4.un.2.2.2.1, (v9.2.2.2.2.1)] := congrArg (fun q : Tr37 => ([.int .i64 q.un.1, .int .i64 q.un.2.1.un.1, .int .i64 q.un.2.1.un.2.1, .int .i64 q.un.2.1.un.2.2.1, (v9.2.1.2.2.2.1), .int .i64 q.un.2.2.1, .int .i64 q.un.2.2.2.1, (v9.2.2.2.2.1)] : List Value)) h8
   refine qs F Aa (Cg (r := Kr) RC F Aa Aa (Ay h_v2) h7).q fun a F => ?_
   refine qs F Aa (BC (y := Value.agg #[.int .i64 x4.un.1, .int .i64 x4.un.2.1.un.1, .int .i64 x4.un.2.1.un.2.1, .int .i64 x4.un.2.1.un.2.2.1, (v9.2.1.2.2.2.1), .int .i64 x4.un.2.2.1, .int .i64 x4.un.2.2.2.1, (v9.2.2.2.2.1)]) (j := 0) (i := x3) (enc := HI) F Aa Aa (Ay h_v2) h7 M9 MR (by rw [h9]; rfl)).q fun a F => ?_
   refine qs F Aa (Aj BX Aa Aa Aa HK F Aa 7 Aa).q fun a F => ?_
   refine qs F Aa (Av (v := v4) 0 F Aa Aa HK Aa).q fun a F => ?_
   refine qs F Aa (Ah F Aa).q fun a F => ?_
   obtain ⟨x5, h10, H⟩ := Aq H
   obtain ⟨v10, h11, h12⟩ := D5 h4 h10
   have h13 : HI v10 = [.int .i64 x5.un.1, .int .i64 x5.un.2.1.un.1, .int .i64 x5.un.2.1.un.2.1, .int .i64 x5.un.2.1.un.2.2.1, (v10.2.1.2.2.2.1), .int .i64 x5.un.2.2.1, .int .i64 x5.un.2.2.2.1, (v10.2.2.2.2.1)] := congrArg (fun q : Tr37 => ([.int .i64 q.un.1, .int .i64 q.un.2.1.un.1, .int .i64 q.un.2.1.un.2.1, .int .i64 q.un.2.1.un.2.2.1, (v10.2.1.2.2.2.1), .int .i64 q.un.2.2.1, .int .i64 q.un.2.2.2.1, (v10.2.2.2.2.1)] : List Value)) h12
   refine qs F Aa (Cg (r := Kr) RC F Aa Aa (Ay h_v4) h11).q fun a F => ?_
   refine qs F Aa (BC (y := Value.agg #[.int .i64 x5.un.1, .int .i64 x5.un.2.1.un.1, .int .i64 x5.un.2.1.un.2.1, .int .i64 x5.un.2.1.un.2.2.1, (v10.2.1.2.2.2.1), .int .i64 x5.un.2.2.1, .int .i64 x5.un.2.2.2.1, (v10.2.2.2.2.1)]) (j := 0) (i := x3) (enc := HI) F Aa Aa (Ay h_v4) h11 M9 MR (by rw [h13]; rfl)).q fun a F => ?_
   obtain ⟨x6, h14, H⟩ := Aq H
   refine qs F Aa (A0 (v := Value.bool x6) F H9 Aa (fun w W => ih any w ((v9.2.1.2.2.2.1)) ((v9.2.2.2.2.1)) ((v10.2.1.2.2.2.1)) ((v10.2.2.2.2.1)) (Tr37.of (x4.un.1, Tr34.of (x4.un.2.1.un.1, x4.un.2.1.un.2.1, x4.un.2.1.un.2.2.1, x4.un.2.1.un.2.2.2), x4.un.2.2.1, x4.un.2.2.2.1, x4.un.2.2.2.2)) (Tr37.of (x5.un.1, Tr34.of (x5.un.2.1.un.1, x5.un.2.1.un.2.1, x5.un.2.1.un.2.2.1, x5.un.2.1.un.2.2.2), x5.un.2.2.1, x5.un.2.2.2.1, x5.un.2.2.2.2)) _ h14 (((Ci (Ay h_v2) h7 (AE.snd (AE.fst (AE.snd (AE.snd (AE.snd AE.here))))) (congrArg (fun q : Tr37 => q.un.2.1.un.2.2.2) h8)) : DZ _ _ _ _ _ _) w W).nx (((Ci (Ay h_v2) h7 (AE.snd (AE.snd (AE.snd (AE.snd AE.here)))) (congrArg (fun q : Tr37 => q.un.2.2.2.2) h8)) : DZ _ _ _ _ _ _) w W).nx (((Ci (Ay h_v4) h11 (AE.snd (AE.fst (AE.snd (AE.snd (AE.snd AE.here))))) (congrArg (fun q : Tr37 => q.un.2.1.un.2.2.2) h12)) : DZ _ _ _ _ _ _) w W).nx (((Ci (Ay h_v4) h11 (AE.snd (AE.snd (AE.snd (AE.snd AE.here)))) (congrArg (fun q : Tr37 => q.un.2.2.2.2) h12)) : DZ _ _ _ _ _ _) w W).nx)) fun a F => ?_
   refine qs F Aa (Hs F Aa).q fun a F => ?_
   refine Cr fun w W => ?_
   refine Ac ?_
   refine Az F Aa (fun hb => ?_) fun hb => ?_
   ·
    have H := AW hb H
    rw [hb] at F
    clear hb
    refine Ak (Ab ?_)
    refine ls F W Aa (Ag F Aa).q fun a w F W => ?_
    refine Ae (Ac (Ax (Bc ?_)))
    iterate 2 refine AO ?_
    refine Bc (AO ?_)
    have H := L3 _ H
    have H := L2 _ H
    have H := AK H
    subst H
    refine AG (.inl Aa) F W Aa (AD F Aa) ?_
    exact ⟨rfl, W.done⟩
   have H := AY (by rw [hb]; decide) H
   rw [hb] at F
   clear hb
   refine AA (Bn (Ac (Ab ?_)))
   refine ls F W Aa (Ah F Aa).q fun a w F W => ?_
   refine ls F W Aa (C5 F Aa Aa Aa).q fun a w F W => ?_
   refine ls F W Aa (Ag F Aa).q fun a w F W => ?_
   refine Ae (Ac ?_)
   have W := W.frontM (i := 1) Aa Aa
   have W := W.frontM (i := 1) Aa Aa
   exact ⟨_, H, F.re ⟨rfl, Aa, Aa, Aa, trivial⟩, W⟩
  have H := AY (Bx hb) H
  rw [hb] at F
  clear hb
  refine Cz ?_
  iterate 2 refine C8 ?_
  refine Cy (Ac ?_)
  have W := W.frontM (i := 1) Aa Aa
  have W := W.frontM (i := 1) Aa Aa
  have H := L3 _ H
  exact ⟨H, F.re ⟨rfl, trivial⟩, W⟩
 rintro a w ⟨hj, F, W⟩
 have H := K2 _ hj
 clear hj G2 K2 L2
 refine Ak (Ab ?_)
 refine ls F W Aa (Ag F Aa).q fun a w F W => ?_
 refine Ae (Ac (Ax ?_))
 have H := AK H
 subst H
 refine AG (.inl Aa) F W Aa (AD F Aa) ?_
 exact ⟨rfl, W.done⟩
theorem OP : ∀ (n : Nat) (Y : Nat → Prop) (w0 : World) (v1 : Value) (v2 : Value) (v3 : Value) (v4 : Value) (p0 : Tr37) (p1 : Tr37) (r : Bool) (H : DT n p0 p1 = some r) (h_v1 : Sl w0 (NX []) CS v1 p0.un.2.1.un.2.2.2) (h_v2 : Sl w0 (NX []) Ff v2 p0.un.2.2.2.2) (h_v3 : Sl w0 (NX []) CS v3 p1.un.2.1.un.2.2.2) (h_v4 : Sl w0 (NX []) Ff v4 p1.un.2.2.2.2), Calls Tryd.prog 9 #[.agg #[.int .i64 p0.un.1, .int .i64 p0.un.2.1.un.1, .int .i64 p0.un.2.1.un.2.1, .int .i64 p0.un.2.1.un.2.2.1, v1, .int .i64 p0.un.2.2.1, .int .i64 p0.un.2.2.2.1, v2], .agg #[.int .i64 p1.un.1, .int .i64 p1.un.2.1.un.1, .int .i64 p1.un.2.1.un.2.1, .int .i64 p1.un.2.1.un.2.2.1, v3, .int .i64 p1.un.2.2.1, .int .i64 p1.un.2.2.2.1, v4]] w0 fun e w' => e = .returned (.bool r) ∧ Below w0.heap.size w0 w' := by
  intro n
  induction n with
  | zero => intro Y w0 v1 v2 v3 v4 p0 p1 r H; exact nomatch H
  | succ n ih => intro Y w0 v1 v2 v3 v4 p0 p1 r H h_v1 h_v2 h_v3 h_v4; exact N4 (DT n) ih Y w0 v1 v2 v3 v4 p0 p1 r H h_v1 h_v2 h_v3 h_v4
theorem Qk (Y : Nat → Prop) (w0 : World) (v1 : Value) (v2 : Value) (v3 : Value) (v4 : Value) (p0 : Tr37) (p1 : Tr37) (r : Bool) (H : KA p0 p1 = some r) (h_v1 : Sl w0 (NX []) CS v1 p0.un.2.1.un.2.2.2) (h_v2 : Sl w0 (NX []) Ff v2 p0.un.2.2.2.2) (h_v3 : Sl w0 (NX []) CS v3 p1.un.2.1.un.2.2.2) (h_v4 : Sl w0 (NX []) Ff v4 p1.un.2.2.2.2) :
    Calls Tryd.prog 9 #[.agg #[.int .i64 p0.un.1, .int .i64 p0.un.2.1.un.1, .int .i64 p0.un.2.1.un.2.1, .int .i64 p0.un.2.1.un.2.2.1, v1, .int .i64 p0.un.2.2.1, .int .i64 p0.un.2.2.2.1, v2], .agg #[.int .i64 p1.un.1, .int .i64 p1.un.2.1.un.1, .int .i64 p1.un.2.1.un.2.1, .int .i64 p1.un.2.1.un.2.2.1, v3, .int .i64 p1.un.2.2.1, .int .i64 p1.un.2.2.2.1, v4]] w0 fun e w' => e = .returned (.bool r) ∧ Below w0.heap.size w0 w' := by
  obtain ⟨n, H⟩ := BR H
  exact OP n Y w0 v1 v2 v3 v4 p0 p1 r H h_v1 h_v2 h_v3 h_v4
def Hy (p0 : Tr25) (p1 : Int) (p2 : Int) : Unit := ()
theorem Jo (Y : Nat → Prop) (X : List Nat) (w0 : World) (q_p0 : Nat) (v1 : Value) (q_p1 : Nat) (q_p2 : Nat) (p0 : Tr25) (p1 : Int) (p2 : Int) (r : Unit) (H : Hy p0 p1 p2 = r) (hL : Stw ⟨Y, X, w0⟩ [(q_p0, [.int .i64 p0.un.1, .int .i64 p0.un.2.1, .int .i64 p0.un.2.2.1, v1]), (q_p1, [.int .i64 p1]), (q_p2, [.int .i64 p2])] [AU v1 AR p0.un.2.2.2] w0) :
    CallsD Tryd.prog 32 #[.pointer (some ⟨q_p0, 0, none⟩), .pointer (some ⟨q_p1, 0, none⟩), .pointer (some ⟨q_p2, 0, none⟩)] .returning w0 fun e u' w' => u' = .returning ∧ (∃ x : Unit, e = .returned (.tuple #[]) ∧ Stw ⟨Y, X, w0⟩ [(q_p0, [.int .i64 p0.un.1, .int .i64 p0.un.2.1, .int .i64 p0.un.2.2.1, v1]), (q_p1, [.int .i64 p1]), (q_p2, [.int .i64 p2])] [AU v1 AR p0.un.2.2.2] w') := by
 refine Jw Tryd.func32 Aa Tryd.ntmps32 Aa Aa Aa fun a F => ?_
 have W := hL
 unfold Hy at H
 refine Ak (Ab ?_)
 refine ls F W Aa (Ah F Aa).q fun a w F W => ?_
 refine ls F W Aa (Kk Ta F Aa).q fun a w F W => ?_
 refine Ae (Ac ?_)
 refine LG F Aa ?_
 refine AA ?_
 subst H
 refine NO (.inr Aa) F Aa ?_
 have W := W.frontM (i := 2) Aa Aa
 have W := W.frontM (i := 2) Aa Aa
 have W := W.frontM (i := 2) Aa Aa
 exact ⟨(), Aa, W⟩
theorem UY : Has Tryd.prog 32 := ⟨fun args w => An Tryd.func32 rfl (by decide) args w⟩
def Ao (p0 : Tr25) (p1 : Int) (p2 : Int) (pc : Int × Int) : Tr25 × Int × Int := (Tr25.of (0, 0, 0, ([] : List Tr25)), (Bb pc).1, (Bb pc).2)
theorem E8 (Y : Nat → Prop) (X : List Nat) (w0 : World) (q_p0 : Nat) (v1 : Value) (q_p1 : Nat) (q_p2 : Nat) (p0 : Tr25) (p1 : Int) (p2 : Int) (pc : Int × Int) (r : Tr25 × Int × Int) (H : Ao p0 p1 p2 pc = r) (hL : Stw ⟨Y, X, w0⟩ [(q_p0, [.int .i64 p0.un.1, .int .i64 p0.un.2.1, .int .i64 p0.un.2.2.1, v1]), (q_p1, [.int .i64 p1]), (q_p2, [.int .i64 p2])] [AU v1 AR p0.un.2.2.2] w0) :
    CallsD Tryd.prog 32 #[.pointer (some ⟨q_p0, 0, none⟩), .pointer (some ⟨q_p1, 0, none⟩), .pointer (some ⟨q_p2, 0, none⟩)] (.panicking ({ v := .iface 89 (.agg #[.int .i64 pc.1, .int .i64 pc.2]), recovered := false } :: [])) w0 fun e u' w' => u' = .panicking ({ v := .iface 89 (.agg #[.int .i64 pc.1, .int .i64 pc.2]), recovered := true } :: []) ∧ (∃ x : Value, e = .returned (.tuple #[]) ∧ Stw ⟨Y, X, w0⟩ [(q_p0, [.int .i64 r.1.un.1, .int .i64 r.1.un.2.1, .int .i64 r.1.un.2.2.1, x]), (q_p1, [.int .i64 r.2.1]), (q_p2, [.int .i64 r.2.2])] [AU (x) AR r.1.un.2.2.2] w') := by
 refine JA Tryd.func32 Aa Tryd.ntmps32 Aa Aa Aa fun a F => ?_
 have W := hL
 unfold Ao at H
 refine Ak (Ab ?_)
 refine ls F W Aa (Ah F Aa).q fun a w F W => ?_
 refine ls F W Aa (JL Ta F Aa).q fun a w F W => ?_
 refine Ae (Ac ?_)
 refine Pg F Aa ?_
 refine Ak (Ab ?_)
 refine ls F W Aa (B7 (v := Value.agg #[.int .i64 0, .int .i64 0, .int .i64 0, .slice none 0 0]) SM F Aa Aa Aa).q fun a w F W => ?_
 refine AL (vs := (Ct)) (M' := [(q_p0, (Ct)), (q_p1, [.int .i64 p1]), (q_p2, [.int .i64 p2])]) 0 F W Aa Aa Aa FW Aa Aa Aa Aa Aa fun w W => ?_
 refine Ae (Ac (Ab ?_))
 refine ls F W Aa (Ah F Aa).q fun a w F W => ?_
 refine ls F W Aa (A0 (v := Value.tuple #[.int .i64 ((Bb pc).1), .int .i64 ((Bb pc).2)]) F VE Aa (fun w W => JU any w pc _ Aa)) fun a w F W => ?_
 refine ls F W Aa (Ah F Aa).q fun a w F W => ?_
 refine ls F W Aa (B3 (v := Value.int .i64 ((Bb pc).1)) F Aa Aa).q fun a w F W => ?_
 refine ls F W Aa (B3 (v := Value.int .i64 ((Bb pc).2)) F Aa Aa).q fun a w F W => ?_
 refine AL (vs := [.int .i64 ((Bb pc).1)]) (M' := [(q_p0, (Ct)), (q_p1, [.int .i64 ((Bb pc).1)]), (q_p2, [.int .i64 p2])]) 1 F W Aa Aa Aa T3 Aa Aa Aa Aa Aa fun w W => ?_
 refine AL (vs := [.int .i64 ((Bb pc).2)]) (M' := [(q_p0, (Ct)), (q_p1, [.int .i64 ((Bb pc).1)]), (q_p2, [.int .i64 ((Bb pc).2)])]) 2 F W Aa Aa Aa QJ Aa Aa Aa Aa Aa fun w W => ?_
 refine Ae ?_
 subst H
 refine NO (.inr Aa) F Aa ?_
 have W := W.note (Sl.nil (r := AR))
 have W := W.frontM (i := 2) Aa Aa
 have W := W.frontM (i := 2) Aa Aa
 have W := W.frontM (i := 2) Aa Aa
 have W := W.sub (M' := [(q_p0, (Ct)), (q_p1, [.int .i64 ((Bb pc).1)]), (q_p2, [.int .i64 ((Bb pc).2)])]) (Z' := [AU (Value.slice none 0 0) AR ([])]) (List.Sublist.refl _) (List.Sublist.cons_cons _ (List.nil_sublist _))
 exact ⟨(Value.slice none 0 0), Aa, W⟩
abbrev LF (a0 : Nat) (a1 : Nat) (a2 : Nat) : List (Nat × List Value) := [(a0, [.int .i64 0]), (a1, [.int .i64 0]), (a2, [.int .i64 0, .int .i64 0, .int .i64 0, .slice none 0 0])]
abbrev I7 (a0 : Nat) (a1 : Value) (a2 : Tr25 × ((List (Int × Int × List UInt8 × Int)) × Int)) (a3 : Nat) (a4 : Nat) (a5 : Nat) (a6 : Value) : List (Nat × List Value) := [(a0, [a1, .int .i64 a2.2.2]), (a3, [.int .i64 0]), (a4, [.int .i64 0]), (a5, [.int .i64 a2.1.un.1, .int .i64 a2.1.un.2.1, .int .i64 a2.1.un.2.2.1, a6])]
noncomputable def Gc (p0 : List UInt8) : Option (Tr25 × Int × Int) := (E3 p0).bind fun x1 => B4 x1 (fun x2 => (B5 x2).bind fun x4 => B4 x4 (fun x5 => (Cb x5.2).bind fun x7 => B4 x7 (fun x8 => some (x5.1, 0, 0)) (fun x9 => some (Tr25.of ((Ao x5.1 0 0 x9).1.un.1, (Ao x5.1 0 0 x9).1.un.2.1, (Ao x5.1 0 0 x9).1.un.2.2.1, (Ao x5.1 0 0 x9).1.un.2.2.2), (Ao x5.1 0 0 x9).2.1, (Ao x5.1 0 0 x9).2.2))) (fun x6 => some (Tr25.of ((Ao (Tr25.of (0, 0, 0, ([] : List Tr25))) 0 0 x6.1).1.un.1, (Ao (Tr25.of (0, 0, 0, ([] : List Tr25))) 0 0 x6.1).1.un.2.1, (Ao (Tr25.of (0, 0, 0, ([] : List Tr25))) 0 0 x6.1).1.un.2.2.1, (Ao (Tr25.of (0, 0, 0, ([] : List Tr25))) 0 0 x6.1).1.un.2.2.2), (Ao (Tr25.of (0, 0, 0, ([] : List Tr25))) 0 0 x6.1).2.1, (Ao (Tr25.of (0, 0, 0, ([] : List Tr25))) 0 0 x6.1).2.2))) (fun x3 => some (Tr25.of ((Ao (Tr25.of (0, 0, 0, ([] : List Tr25))) 0 0 x3).1.un.1, (Ao (Tr25.of (0, 0, 0, ([] : List Tr25))) 0 0 x3).1.un.2.1, (Ao (Tr25.of (0, 0, 0, ([] : List Tr25))) 0 0 x3).1.un.2.2.1, (Ao (Tr25.of (0, 0, 0, ([] : List Tr25))) 0 0 x3).1.un.2.2.2), (Ao (Tr25.of (0, 0, 0, ([] : List Tr25))) 0 0 x3).2.1, (Ao (Tr25.of (0, 0, 0, ([] : List Tr25))) 0 0 x3).2.2))
theorem Oe (Y : Nat → Prop) (w0 : World)  (p0 : List UInt8) (r : Tr25 × Int × Int) (H : Gc p0 = some r)  :
    Calls Tryd.prog 11 #[.string (bs p0)] w0 fun e w' => ∃ x : Value, e = .returned (.tuple #[.agg #[.int .i64 r.1.un.1, .int .i64 r.1.un.2.1, .int .i64 r.1.un.2.2.1, x], .int .i64 r.2.1, .int .i64 r.2.2]) ∧ Stw ⟨Y, [], w0⟩ [] [AU (x) AR r.1.un.2.2.2] w' := by
 refine Sg Tryd.func11 Aa Tryd.ntmps11 Aa fun a F => ?_
 have W := Stw.start Y w0
 unfold Gc at H
 refine Ak (Ab ?_)
 refine Bi (cs := (Ct)) F W Aa NI Aa fun b1 a w F W => ?_
 refine Bi (cs := [.int .i64 0]) F W Aa Z3 Aa fun b2 a w F W => ?_
 refine Bi (cs := [.int .i64 0]) F W Aa VN Aa fun b3 a w F W => ?_
 refine Ae (Ac (Ak (Ab ?_)))
 refine ls F W Aa (F8 (us := []) (vs := (QA b1 b2 b3)) F Aa Aa).q fun a w F W => ?_
 refine Qx (vs := (QA b1 b2 b3)) F Aa fun a F => ?_
 refine Ae (Ac (Ak (Ab ?_)))
 refine ls F W Aa (Ah F Aa).q fun a w F W => ?_
 obtain ⟨x1, h1, H⟩ := Aq H
 rcases x1 with x2 | x3
 ·
  have H := EZ H
  refine A2 (Ml := []) (Zl := []) (M := (LF b3 b2 b1)) (Z := []) (β := Nat × Value) (rv := fun x => .pointer (some ⟨x.1, 0, none⟩)) (MM := fun x => [(x.1, [x.2, .int .i64 x2.2])]) (ZZ := fun x => [row x.2 98 AC x2.1]) F W U4 Aa Aa (fun hL => GG _ w p0 _ h1) fun x a w F W => ?_
  obtain ⟨b4, v1⟩ := x
  have W : Stw ⟨Y, [], w0⟩ [(b4, [v1, .int .i64 x2.2]), (b3, [.int .i64 0]), (b2, [.int .i64 0]), (b1, [.int .i64 0, .int .i64 0, .int .i64 0, .slice none 0 0])] [row v1 98 AC x2.1] w := W
  refine ls F W Aa (Ag F Aa).q fun a w F W => ?_
  refine Ae (Ac (Ak (Ab ?_)))
  refine ls F W Aa (Ah F Aa).q fun a w F W => ?_
  obtain ⟨x4, h2, H⟩ := Aq H
  rcases x4 with x5 | x6
  ·
   have H := EZ H
   refine A2 (Ml := [(b4, [v1, .int .i64 x2.2])]) (Zl := [row v1 98 AC x2.1]) (M := (LF b3 b2 b1)) (Z := []) (β := Value × Value) (rv := fun x => .agg #[.int .i64 x5.1.un.1, .int .i64 x5.1.un.2.1, .int .i64 x5.1.un.2.2.1, x.1]) (MM := fun x => [(b4, [x.2, .int .i64 x5.2.2])]) (ZZ := fun x => [row x.2 98 AC x5.2.1, AU x.1 AR x5.1.un.2.2.2]) F W TH Aa Aa (fun hL => Ca _ _ w b4 (v1) x2 _ h2 hL) fun x a w F W => ?_
   obtain ⟨v2, v3⟩ := x
   have W : Stw ⟨Y, [], w0⟩ [(b4, [v3, .int .i64 x5.2.2]), (b3, [.int .i64 0]), (b2, [.int .i64 0]), (b1, [.int .i64 0, .int .i64 0, .int .i64 0, .slice none 0 0])] [row v3 98 AC x5.2.1, AU v2 AR x5.1.un.2.2.2] w := W
   refine AL (vs := (FL x5 v2)) (M' := (I7 b4 v3 x5 b3 b2 b1 v2)) 3 F W Aa Aa Aa FW Aa Aa Aa (Ai Aa (Ai Aa (Ai Aa (Ai (W.oneF (k := 1) Aa) Bp)))) Aa fun w W => ?_
   refine Ae (Ac (Ak (Ab ?_)))
   refine ls F W Aa (Ah F Aa).q fun a w F W => ?_
   obtain ⟨x7, h3, H⟩ := Aq H
   rcases x7 with x8 | x9
   ·
    have H := EZ H
    refine A2 (Ml := []) (Zl := []) (M := (I7 b4 v3 x5 b3 b2 b1 v2)) (Z := [row v3 98 AC x5.2.1, AU v2 AR x5.1.un.2.2.2]) (β := Unit) (rv := fun x => .tuple #[]) (MM := fun x => []) (ZZ := fun x => []) F W U1 Aa Aa (fun hL => EH _ w b4 (v3) x5.2 _ h3 ((BP 0 Aa) w W).nx (M7 W 0 Aa)) fun x a w F W => ?_
    have W : Stw ⟨Y, [], w0⟩ (I7 b4 v3 x5 b3 b2 b1 v2) [row v3 98 AC x5.2.1, AU v2 AR x5.1.un.2.2.2] w := W
    refine Ae (Ac (Ak (Ab ?_)))
    refine ls F W Aa (Av (v := Value.agg #[.int .i64 x5.1.un.1, .int .i64 x5.1.un.2.1, .int .i64 x5.1.un.2.2.1, v2]) 3 F Aa Aa FW Aa).q fun a w F W => ?_
    refine AL (vs := (FL x5 v2)) (M' := (I7 b4 v3 x5 b3 b2 b1 v2)) 3 F W Aa Aa Aa FW Aa Aa Aa (Ai Aa (Ai Aa (Ai Aa (Ai (W.oneF (k := 1) Aa) Bp)))) Aa fun w W => ?_
    refine AL (vs := [.int .i64 0]) (M' := (I7 b4 v3 x5 b3 b2 b1 v2)) 2 F W Aa Aa Aa T3 Aa Aa Aa Aa Aa fun w W => ?_
    refine AL (vs := [.int .i64 0]) (M' := (I7 b4 v3 x5 b3 b2 b1 v2)) 1 F W Aa Aa Aa QJ Aa Aa Aa Aa Aa fun w W => ?_
    refine Ae (Ac (Ax ?_))
    refine NA (.inl Aa) F ?_
    have W := W.frontZ (i := 1) Aa Aa
    have W := W.frontM (i := 1) Aa Aa
    have W := W.frontM (i := 2) Aa Aa
    have W := W.frontM (i := 3) Aa Aa
    refine Hv (Ml := [(b1, [.int .i64 x5.1.un.1, .int .i64 x5.1.un.2.1, .int .i64 x5.1.un.2.2.1, v2]), (b2, [.int .i64 0]), (b3, [.int .i64 0])]) (Zl := [AU v2 AR x5.1.un.2.2.2]) (M := [(b4, [v3, .int .i64 x5.2.2])]) (Z := [row v3 98 AC x5.2.1]) (β := Unit) (u' := .returning) (MM := fun x => [(b1, [.int .i64 x5.1.un.1, .int .i64 x5.1.un.2.1, .int .i64 x5.1.un.2.2.1, (v2)]), (b2, [.int .i64 0]), (b3, [.int .i64 0])]) (ZZ := fun x => [AU (v2) AR x5.1.un.2.2.2]) W UY (by simp) (fun hL => Jo _ _ w b1 (v2) b2 b3 x5.1 0 0 _ Aa hL) fun _ w W => ?_
    have W : Stw ⟨Y, [], w0⟩ [(b1, [.int .i64 x5.1.un.1, .int .i64 x5.1.un.2.1, .int .i64 x5.1.un.2.2.1, (v2)]), (b2, [.int .i64 0]), (b3, [.int .i64 0]), (b4, [v3, .int .i64 x5.2.2])] [AU (v2) AR x5.1.un.2.2.2, row v3 98 AC x5.2.1] w := W
    have H := AK H
    subst H
    refine Hx W Aa (A3 0 F Aa Aa FW Aa) (A3 1 F Aa Aa T3 Aa) (A3 2 F Aa Aa QJ Aa) ?_
    have W := W.sub (M' := []) (Z' := [AU (v2) AR x5.1.un.2.2.2]) (List.nil_sublist _) (List.Sublist.cons_cons _ (List.nil_sublist _))
    exact ⟨((v2)), Aa, W⟩
   have H := EY H
   refine B0 (Ml := []) (Zl := []) (M := (I7 b4 v3 x5 b3 b2 b1 v2)) (Z := [row v3 98 AC x5.2.1, AU v2 AR x5.1.un.2.2.2]) (β := Unit) (pv := fun x => .iface 89 (.agg #[.int .i64 x9.1, .int .i64 x9.2])) (MM := fun x => []) (ZZ := fun x => []) F W U1 Aa (fun hL => EH _ w b4 (v3) x5.2 _ h3 ((BP 0 Aa) w W).nx (M7 W 0 Aa)) fun x w W => ?_
   have W : Stw ⟨Y, [], w0⟩ (I7 b4 v3 x5 b3 b2 b1 v2) [row v3 98 AC x5.2.1, AU v2 AR x5.1.un.2.2.2] w := W
   refine BF ?_
   refine FF F ?_
   have W := W.frontZ (i := 1) Aa Aa
   have W := W.frontM (i := 1) Aa Aa
   have W := W.frontM (i := 2) Aa Aa
   have W := W.frontM (i := 3) Aa Aa
   refine Hv (Ml := [(b1, [.int .i64 x5.1.un.1, .int .i64 x5.1.un.2.1, .int .i64 x5.1.un.2.2.1, v2]), (b2, [.int .i64 0]), (b3, [.int .i64 0])]) (Zl := [AU v2 AR x5.1.un.2.2.2]) (M := [(b4, [v3, .int .i64 x5.2.2])]) (Z := [row v3 98 AC x5.2.1]) (β := Value) (u' := (.panicking ({ v := .iface 89 (.agg #[.int .i64 x9.1, .int .i64 x9.2]), recovered := true } :: []))) (MM := fun x => [(b1, [.int .i64 ((Ao x5.1 0 0 x9).1.un.1), .int .i64 ((Ao x5.1 0 0 x9).1.un.2.1), .int .i64 ((Ao x5.1 0 0 x9).1.un.2.2.1), x]), (b2, [.int .i64 ((Ao x5.1 0 0 x9).2.1)]), (b3, [.int .i64 ((Ao x5.1 0 0 x9).2.2)])]) (ZZ := fun x => [AU x AR ((Ao x5.1 0 0 x9).1.un.2.2.2)]) W UY (by simp) (fun hL => E8 _ _ w b1 (v2) b2 b3 x5.1 0 0 x9 _ Aa hL) fun x w W => ?_
   obtain ⟨v4, rfl⟩ : ∃ y, y = x := ⟨x, rfl⟩
   have W : Stw ⟨Y, [], w0⟩ [(b1, [.int .i64 ((Ao x5.1 0 0 x9).1.un.1), .int .i64 ((Ao x5.1 0 0 x9).1.un.2.1), .int .i64 ((Ao x5.1 0 0 x9).1.un.2.2.1), v4]), (b2, [.int .i64 ((Ao x5.1 0 0 x9).2.1)]), (b3, [.int .i64 ((Ao x5.1 0 0 x9).2.2)]), (b4, [v3, .int .i64 x5.2.2])] [AU v4 AR ((Ao x5.1 0 0 x9).1.un.2.2.2), row v3 98 AC x5.2.1] w := W
   have H := AK H
   subst H
   refine Hx W Aa (A3 0 F Aa Aa FW Aa) (A3 1 F Aa Aa T3 Aa) (A3 2 F Aa Aa QJ Aa) ?_
   have W := W.sub (M' := []) (Z' := [AU v4 AR ((Ao x5.1 0 0 x9).1.un.2.2.2)]) (List.nil_sublist _) (List.Sublist.cons_cons _ (List.nil_sublist _))
   exact ⟨(v4), Aa, W⟩
  have H := EY H
  refine B0 (Ml := [(b4, [v1, .int .i64 x2.2])]) (Zl := [row v1 98 AC x2.1]) (M := (LF b3 b2 b1)) (Z := []) (β := Value) (pv := fun x => .iface 89 (.agg #[.int .i64 x6.1.1, .int .i64 x6.1.2])) (MM := fun x => [(b4, [x, .int .i64 x6.2.2])]) (ZZ := fun x => [row x 98 AC x6.2.1]) F W TH Aa (fun hL => Ca _ _ w b4 (v1) x2 _ h2 hL) fun x w W => ?_
  obtain ⟨v5, rfl⟩ : ∃ y, y = x := ⟨x, rfl⟩
  have W : Stw ⟨Y, [], w0⟩ [(b4, [v5, .int .i64 x6.2.2]), (b3, [.int .i64 0]), (b2, [.int .i64 0]), (b1, [.int .i64 0, .int .i64 0, .int .i64 0, .slice none 0 0])] [row v5 98 AC x6.2.1] w := W
  refine BF ?_
  refine FF F ?_
  have W := W.note (Sl.nil (r := AR))
  have W := W.frontM (i := 1) Aa Aa
  have W := W.frontM (i := 2) Aa Aa
  have W := W.frontM (i := 3) Aa Aa
  refine Hv (Ml := [(b1, [.int .i64 0, .int .i64 0, .int .i64 0, .slice none 0 0]), (b2, [.int .i64 0]), (b3, [.int .i64 0])]) (Zl := [AU (Value.slice none 0 0) AR ([])]) (M := [(b4, [v5, .int .i64 x6.2.2])]) (Z := [row v5 98 AC x6.2.1]) (β := Value) (u' := (.panicking ({ v := .iface 89 (.agg #[.int .i64 x6.1.1, .int .i64 x6.1.2]), recovered := true } :: []))) (MM := fun x => [(b1, [.int .i64 ((Ao (Tr25.of (0, 0, 0, ([] : List Tr25))) 0 0 x6.1).1.un.1), .int .i64 ((Ao (Tr25.of (0, 0, 0, ([] : List Tr25))) 0 0 x6.1).1.un.2.1), .int .i64 ((Ao (Tr25.of (0, 0, 0, ([] : List Tr25))) 0 0 x6.1).1.un.2.2.1), x]), (b2, [.int .i64 ((Ao (Tr25.of (0, 0, 0, ([] : List Tr25))) 0 0 x6.1).2.1)]), (b3, [.int .i64 ((Ao (Tr25.of (0, 0, 0, ([] : List Tr25))) 0 0 x6.1).2.2)])]) (ZZ := fun x => [AU x AR ((Ao (Tr25.of (0, 0, 0, ([] : List Tr25))) 0 0 x6.1).1.un.2.2.2)]) W UY (by simp) (fun hL => E8 _ _ w b1 (Value.slice none 0 0) b2 b3 (Tr25.of (0, 0, 0, ([] : List Tr25))) 0 0 x6.1 _ Aa hL) fun x w W => ?_
  obtain ⟨v6, rfl⟩ : ∃ y, y = x := ⟨x, rfl⟩
  have W : Stw ⟨Y, [], w0⟩ [(b1, [.int .i64 ((Ao (Tr25.of (0, 0, 0, ([] : List Tr25))) 0 0 x6.1).1.un.1), .int .i64 ((Ao (Tr25.of (0, 0, 0, ([] : List Tr25))) 0 0 x6.1).1.un.2.1), .int .i64 ((Ao (Tr25.of (0, 0, 0, ([] : List Tr25))) 0 0 x6.1).1.un.2.2.1), v6]), (b2, [.int .i64 ((Ao (Tr25.of (0, 0, 0, ([] : List Tr25))) 0 0 x6.1).2.1)]), (b3, [.int .i64 ((Ao (Tr25.of (0, 0, 0, ([] : List Tr25))) 0 0 x6.1).2.2)]), (b4, [v5, .int .i64 x6.2.2])] [AU v6 AR ((Ao (Tr25.of (0, 0, 0, ([] : List Tr25))) 0 0 x6.1).1.un.2.2.2), row v5 98 AC x6.2.1] w := W
  have H := AK H
  subst H
  refine Hx W Aa (A3 0 F Aa Aa FW Aa) (A3 1 F Aa Aa T3 Aa) (A3 2 F Aa Aa QJ Aa) ?_
  have W := W.sub (M' := []) (Z' := [AU v6 AR ((Ao (Tr25.of (0, 0, 0, ([] : List Tr25))) 0 0 x6.1).1.un.2.2.2)]) (List.nil_sublist _) (List.Sublist.cons_cons _ (List.nil_sublist _))
  exact ⟨(v6), Aa, W⟩
 have H := EY H
 refine B0 (Ml := []) (Zl := []) (M := (LF b3 b2 b1)) (Z := []) (β := Unit) (pv := fun x => .iface 89 (.agg #[.int .i64 x3.1, .int .i64 x3.2])) (MM := fun x => []) (ZZ := fun x => []) F W U4 Aa (fun hL => GG _ w p0 _ h1) fun x w W => ?_
 have W : Stw ⟨Y, [], w0⟩ (LF b3 b2 b1) [] w := W
 refine BF ?_
 refine FF F ?_
 have W := W.note (Sl.nil (r := AR))
 have W := W.frontM (i := 1) Aa Aa
 have W := W.frontM (i := 2) Aa Aa
 refine Hv (Ml := [(b1, [.int .i64 0, .int .i64 0, .int .i64 0, .slice none 0 0]), (b2, [.int .i64 0]), (b3, [.int .i64 0])]) (Zl := [AU (Value.slice none 0 0) AR ([])]) (M := []) (Z := []) (β := Value) (u' := (.panicking ({ v := .iface 89 (.agg #[.int .i64 x3.1, .int .i64 x3.2]), recovered := true } :: []))) (MM := fun x => [(b1, [.int .i64 ((Ao (Tr25.of (0, 0, 0, ([] : List Tr25))) 0 0 x3).1.un.1), .int .i64 ((Ao (Tr25.of (0, 0, 0, ([] : List Tr25))) 0 0 x3).1.un.2.1), .int .i64 ((Ao (Tr25.of (0, 0, 0, ([] : List Tr25))) 0 0 x3).1.un.2.2.1), x]), (b2, [.int .i64 ((Ao (Tr25.of (0, 0, 0, ([] : List Tr25))) 0 0 x3).2.1)]), (b3, [.int .i64 ((Ao (Tr25.of (0, 0, 0, ([] : List Tr25))) 0 0 x3).2.2)])]) (ZZ := fun x => [AU x AR ((Ao (Tr25.of (0, 0, 0, ([] : List Tr25))) 0 0 x3).1.un.2.2.2)]) W UY (by simp) (fun hL => E8 _ _ w b1 (Value.slice none 0 0) b2 b3 (Tr25.of (0, 0, 0, ([] : List Tr25))) 0 0 x3 _ Aa hL) fun x w W => ?_
 obtain ⟨v7, rfl⟩ : ∃ y, y = x := ⟨x, rfl⟩
 have W : Stw ⟨Y, [], w0⟩ [(b1, [.int .i64 ((Ao (Tr25.of (0, 0, 0, ([] : List Tr25))) 0 0 x3).1.un.1), .int .i64 ((Ao (Tr25.of (0, 0, 0, ([] : List Tr25))) 0 0 x3).1.un.2.1), .int .i64 ((Ao (Tr25.of (0, 0, 0, ([] : List Tr25))) 0 0 x3).1.un.2.2.1), v7]), (b2, [.int .i64 ((Ao (Tr25.of (0, 0, 0, ([] : List Tr25))) 0 0 x3).2.1)]), (b3, [.int .i64 ((Ao (Tr25.of (0, 0, 0, ([] : List Tr25))) 0 0 x3).2.2)])] [AU v7 AR ((Ao (Tr25.of (0, 0, 0, ([] : List Tr25))) 0 0 x3).1.un.2.2.2)] w := W
 have H := AK H
 subst H
 refine Hx W Aa (A3 0 F Aa Aa FW Aa) (A3 1 F Aa Aa T3 Aa) (A3 2 F Aa Aa QJ Aa) ?_
 have W := W.sub (M' := []) (Z' := [AU v7 AR ((Ao (Tr25.of (0, 0, 0, ([] : List Tr25))) 0 0 x3).1.un.2.2.2)]) (List.nil_sublist _) (List.Sublist.refl _)
 exact ⟨(v7), Aa, W⟩
theorem V1 : Has Tryd.prog 11 := ⟨fun args w => An Tryd.func11 rfl (by decide) args w⟩
abbrev Hz (a0 : Tr25 × Int × Int) (a1 : Value) : List Value := [.int .i64 a0.1.un.1, .int .i64 a0.1.un.2.1, .int .i64 a0.1.un.2.2.1, a1]
def Kb (p0 : Int) : Int := (if p0 = 2 then 15 else (if (decide (p0 = 0) || (decide (p0 = 1) || decide (p0 = 3))) = true then 255 else 0))
theorem Rx (Y : Nat → Prop) (w0 : World)  (p0 : Int) (r : Int) (H : Kb p0 = r)  :
    Calls Tryd.prog 91 #[.int .i64 p0] w0 fun e w' => e = .returned (.int .i64 r) ∧ Below w0.heap.size w0 w' := by
 refine enter Tryd.func91 Aa Tryd.ntmps91 Aa fun a F => ?_
 have W := Stw.start Y w0
 unfold Kb at H
 refine Ak (Ab ?_)
 refine ls F W Aa (Ag F Aa).q fun a w F W => ?_
 refine Ae (Ac (Ak (Ak (Ab ?_))))
 refine ls F W Aa (Ah F Aa).q fun a w F W => ?_
 refine ls F W Aa (Bd F Aa Aa).q fun a w F W => ?_
 refine Ae (Ac ?_)
 refine Az F Aa (fun hb => ?_) fun hb => ?_
 ·
  have H := AW (Bw hb) H
  rw [hb] at F
  clear hb
  refine Ak (Ab ?_)
  refine ls F W Aa (Ag F Aa).q fun a w F W => ?_
  refine Ae (Ac (Ax (AO ?_)))
  subst H
  refine AG (.inl Aa) F W Aa (AD F Aa) ?_
  exact ⟨rfl, W.done⟩
 have H := AY (Bx hb) H
 rw [hb] at F
 clear hb
 refine AA (Ac (Ak ?_))
 refine A1 (fun a w => Fr 15 [] [(2, .int .i64 0), (14, .bool (decide (p0 = 0) || (decide (p0 = 1) || decide (p0 = 3))))] a ∧ Stw ⟨Y, [], w0⟩ [] [] w) ?_ ?_
 ·
  refine Ab ?_
  refine ls F W Aa (Ah F Aa).q fun a w F W => ?_
  refine ls F W Aa (Bd F Aa Aa).q fun a w F W => ?_
  refine ls F W Aa (Ah F Aa).q fun a w F W => ?_
  rcases Bool.eq_false_or_eq_true (decide (p0 = 0)) with hb0 | hb0
  ·
   rw [hb0] at F
   iterate 2 refine Cd F Aa Aa Aa Aa Aa Aa Aa fun a F => ?_
   refine ls F W Aa (As F Aa Aa Aa).q fun a w F W => ?_
   refine ls F W Aa (Ah F Aa).q fun a w F W => ?_
   iterate 2 refine Cd F Aa Aa Aa Aa Aa Aa Aa fun a F => ?_
   refine ls F W Aa (As F Aa Aa Aa).q fun a w F W => ?_
   refine Ae (Ac ?_)
   exact ⟨F.re ⟨rfl, (Dq (by try rw [hb0]; all_goals simp only [Dr])), trivial⟩, W⟩
  rw [hb0] at F
  refine Au F W (Ad F Aa Aa Aa Aa) Aa (Al Aa) (Ah F Aa).q fun a w F W => ?_
  refine Au F W (Ad F Aa Aa Aa Aa) Aa (Al Aa) (Bd F Aa Aa).q fun a w F W => ?_
  refine ls F W Aa (Ap F Aa Aa Aa).q fun a w F W => ?_
  refine ls F W Aa (Ah F Aa).q fun a w F W => ?_
  rcases Bool.eq_false_or_eq_true (decide (p0 = 1)) with hb1 | hb1
  ·
   rw [hb1] at F
   iterate 2 refine Cd F Aa Aa Aa Aa Aa Aa Aa fun a F => ?_
   refine ls F W Aa (As F Aa Aa Aa).q fun a w F W => ?_
   refine Ae (Ac ?_)
   exact ⟨F.re ⟨rfl, (Dq (by try rw [hb0]; try rw [hb1]; all_goals simp only [Dr])), trivial⟩, W⟩
  rw [hb1] at F
  refine Au F W (Ad F Aa Aa Aa Aa) Aa (Al Aa) (Ah F Aa).q fun a w F W => ?_
  refine Au F W (Ad F Aa Aa Aa Aa) Aa (Al Aa) (Bd F Aa Aa).q fun a w F W => ?_
  refine ls F W Aa (Ap F Aa Aa Aa).q fun a w F W => ?_
  refine Ae (Ac ?_)
  exact ⟨F.re ⟨rfl, (Dq (by try rw [hb0]; try rw [hb1]; all_goals simp only [Dr])), trivial⟩, W⟩
 rintro a w ⟨F, W⟩
 refine Az F Aa (fun hb => ?_) fun hb => ?_
 ·
  have H := AW hb H
  rw [hb] at F
  clear hb
  refine Ak (Ab ?_)
  refine ls F W Aa (Ag F Aa).q fun a w F W => ?_
  refine Ae (Ac (Ax (AO ?_)))
  subst H
  refine AG (.inl Aa) F W Aa (AD F Aa) ?_
  exact ⟨rfl, W.done⟩
 have H := AY (by rw [hb]; decide) H
 rw [hb] at F
 clear hb
 refine AA (Ac (Ak (Ab ?_)))
 refine ls F W Aa (Ag F Aa).q fun a w F W => ?_
 refine Ae (Ac (Ax ?_))
 subst H
 refine AG (.inl Aa) F W Aa (AD F Aa) ?_
 exact ⟨rfl, W.done⟩
theorem Wf : Has Tryd.prog 91 := ⟨fun args w => An Tryd.func91 rfl (by decide) args w⟩
def EF (p0 : Int) : Int := (if (decide (p0 = 4) || decide (p0 = 5)) = true then 7 else (Kb p0))
theorem Nr (Y : Nat → Prop) (w0 : World)  (p0 : Int) (r : Int) (H : EF p0 = r)  :
    Calls Tryd.prog 71 #[.int .i64 p0] w0 fun e w' => e = .returned (.int .i64 r) ∧ Below w0.heap.size w0 w' := by
 refine enter Tryd.func71 Aa Tryd.ntmps71 Aa fun a F => ?_
 have W := Stw.start Y w0
 unfold EF at H
 refine Ak (Ab ?_)
 refine ls F W Aa (Ag F Aa).q fun a w F W => ?_
 refine Ae (Ac (Ak ?_))
 refine A1 (fun a w => Fr 11 [] [(0, .int .i64 p0), (2, .int .i64 0), (8, .bool (decide (p0 = 4) || decide (p0 = 5)))] a ∧ Stw ⟨Y, [], w0⟩ [] [] w) ?_ ?_
 ·
  refine Ab ?_
  refine ls F W Aa (Ah F Aa).q fun a w F W => ?_
  refine ls F W Aa (Bd F Aa Aa).q fun a w F W => ?_
  refine ls F W Aa (Ah F Aa).q fun a w F W => ?_
  rcases Bool.eq_false_or_eq_true (decide (p0 = 4)) with hb0 | hb0
  ·
   rw [hb0] at F
   iterate 2 refine Cd F Aa Aa Aa Aa Aa Aa Aa fun a F => ?_
   refine ls F W Aa (As F Aa Aa Aa).q fun a w F W => ?_
   refine Ae (Ac ?_)
   exact ⟨F.re ⟨rfl, Aa, (Dq (by try rw [hb0]; all_goals simp only [Dr])), trivial⟩, W⟩
  rw [hb0] at F
  refine Au F W (Ad F Aa Aa Aa Aa) Aa (Al Aa) (Ah F Aa).q fun a w F W => ?_
  refine Au F W (Ad F Aa Aa Aa Aa) Aa (Al Aa) (Bd F Aa Aa).q fun a w F W => ?_
  refine ls F W Aa (Ap F Aa Aa Aa).q fun a w F W => ?_
  refine Ae (Ac ?_)
  exact ⟨F.re ⟨rfl, Aa, (Dq (by try rw [hb0]; all_goals simp only [Dr])), trivial⟩, W⟩
 rintro a w ⟨F, W⟩
 refine Az F Aa (fun hb => ?_) fun hb => ?_
 ·
  have H := AW hb H
  rw [hb] at F
  clear hb
  refine Ak (Ab ?_)
  refine ls F W Aa (Ag F Aa).q fun a w F W => ?_
  refine Ae (Ac (Ax (AO ?_)))
  subst H
  refine AG (.inl Aa) F W Aa (AD F Aa) ?_
  exact ⟨rfl, W.done⟩
 have H := AY (by rw [hb]; decide) H
 rw [hb] at F
 clear hb
 refine AA (Ac (Ak (Ab ?_)))
 refine ls F W Aa (Ah F Aa).q fun a w F W => ?_
 refine ls F W Aa (A0 (v := Value.int .i64 (Kb p0)) F Wf Aa (fun w W => Rx any w p0 _ Aa)) fun a w F W => ?_
 refine ls F W Aa (Ag F Aa).q fun a w F W => ?_
 refine Ae (Ac (Ax ?_))
 subst H
 refine AG (.inl Aa) F W Aa (AD F Aa) ?_
 exact ⟨rfl, W.done⟩
end Go.Proofs.YtlgjpoapclifbaaDoor
