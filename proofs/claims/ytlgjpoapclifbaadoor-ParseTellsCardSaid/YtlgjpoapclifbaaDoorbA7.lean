/- The functions of layer 29, EO. Conditions: none. -/
import Derived.Test.YtlgjpoapclifbaaDoorbA6
namespace Go.Proofs.YtlgjpoapclifbaaDoor
open Go Go.RowKit
set_option linter.unusedVariables false
set_option linter.unusedSimpArgs false
set_option maxRecDepth 20000
abbrev PK (a : Int × Int × Int × (Value × List Tr34)) : List Value := [.int .i64 a.1, .int .i64 a.2.1, .int .i64 a.2.2.1, a.2.2.2.1]
theorem Sk : Ed LN PK := (Ed.pair Fl.int.to (Ed.pair Fl.int.to (Ed.pair Fl.int.to Ed.vsl)))
theorem S2 : Has Tryd.prog 13 := ⟨fun args w => Al Tryd.func13 rfl (by decide) args w⟩
abbrev MV (a0 : Nat) (a1 : Tr34) (a2 : Value) (a3 : Nat) (a4 : Tr34) (a5 : Value) : List (Nat × List Value) := [(a0, [.int .i64 a1.un.1, .int .i64 a1.un.2.1, .int .i64 a1.un.2.2.1, a2]), (a3, [.int .i64 a4.un.1, .int .i64 a4.un.2.1, .int .i64 a4.un.2.2.1, a5])]
noncomputable def DU (fRec : Tr34 → Tr34 → Option Bool) (p0 : Tr34) (p1 : Tr34) : Int → Option (Int ⊕ (Unit ⊕ Bool))
  | x1 => (if x1 < (p0.un.2.2.2.length : Int) then (ix p0.un.2.2.2 x1).bind fun x2 => (ix p1.un.2.2.2 x1).bind fun x3 => (fRec x2 x3).bind fun x4 => (if (!x4) = true then some (.inr (.inr false)) else some (.inl (Co (x1 + 1)))) else some (.inr (.inl ())))
noncomputable def DT (fRec : Tr34 → Tr34 → Option Bool) (p0 : Tr34) (p1 : Tr34) : Option Bool := (if (decide (p0.un.1 ≠ p1.un.1) || (decide (p0.un.2.1 ≠ p1.un.2.1) || (decide (p0.un.2.2.1 ≠ p1.un.2.2.1) || decide ((p0.un.2.2.2.length : Int) ≠ (p1.un.2.2.2.length : Int))))) = true then some false else J4 (Bx (DU fRec p0 p1) 0) fun _ => some true)
noncomputable def Dz : Nat → Tr34 → Tr34 → Option Bool
  | 0 => fun _ _ => none
  | n + 1 => DT (Dz n)
noncomputable def Jv (p0 : Tr34) (p1 : Tr34) : Option Bool := Gx fun n => Dz n p0 p1
theorem MH (fRec : Tr34 → Tr34 → Option Bool) (ih : ∀ (Y : Nat → Prop) (w0 : World) (v1 : Value) (v2 : Value) (p0 : Tr34) (p1 : Tr34) (r : Bool) (H : fRec p0 p1 = some r) (h_v1 : Sl w0 (NX []) A9 v1 p0.un.2.2.2) (h_v2 : Sl w0 (NX []) A9 v2 p1.un.2.2.2), Calls Tryd.prog 13 #[.agg #[.int .i64 p0.un.1, .int .i64 p0.un.2.1, .int .i64 p0.un.2.2.1, v1], .agg #[.int .i64 p1.un.1, .int .i64 p1.un.2.1, .int .i64 p1.un.2.2.1, v2]] w0 fun e w' => e = .returned (.bool r) ∧ Below w0.heap.size w0 w') (Y : Nat → Prop) (w0 : World) (v1 : Value) (v2 : Value) (p0 : Tr34) (p1 : Tr34) (r : Bool) (H : DT fRec p0 p1 = some r) (h_v1 : Sl w0 (NX []) A9 v1 p0.un.2.2.2) (h_v2 : Sl w0 (NX []) A9 v2 p1.un.2.2.2) :
    Calls Tryd.prog 13 #[.agg #[.int .i64 p0.un.1, .int .i64 p0.un.2.1, .int .i64 p0.un.2.2.1, v1], .agg #[.int .i64 p1.un.1, .int .i64 p1.un.2.1, .int .i64 p1.un.2.2.1, v2]] w0 fun e w' => e = .returned (.bool r) ∧ Below w0.heap.size w0 w' := by
 refine enter Tryd.func13 Aa Tryd.ntmps13 Aa fun a F => ?_
 have W := Stw.start Y w0
 obtain ⟨v3, h1, h_v1⟩ := h_v1.ex J7
 obtain ⟨v4, h2, h_v2⟩ := h_v2.ex J7
 unfold DT at H
 refine Ai (Ab ?_)
 refine H2 (cs := (Qz p0 v1)) F W Aa Aa Aa fun b1 a w F W => ?_
 refine H2 (cs := (Qz p1 v2)) F W Aa Aa Aa fun b2 a w F W => ?_
 refine ls F W Aa (Ag F Aa).q fun a w F W => ?_
 refine Ae (Ad (Ai ?_))
 refine Bd (fun a w => Fr 53 [] [(2, .pointer (some ⟨b1, 0, none⟩)), (3, .pointer (some ⟨b2, 0, none⟩)), (4, .bool false), (33, .bool (decide (p0.un.1 ≠ p1.un.1) || (decide (p0.un.2.1 ≠ p1.un.2.1) || (decide (p0.un.2.2.1 ≠ p1.un.2.2.1) || decide ((p0.un.2.2.2.length : Int) ≠ (p1.un.2.2.2.length : Int))))))] a ∧ Stw ⟨Y, [], w0⟩ (MV b2 p1 v2 b1 p0 v1) [] w) ?_ ?_
 ·
  refine Ab ?_
  refine ls F W Aa (Ao Jy Aa Aa Aa T3 F Aa 0 Aa).q fun a w F W => ?_
  refine ls F W Aa (AJ (v := Value.int .i64 p0.un.1) 1 F Aa Aa T3 Aa).q fun a w F W => ?_
  refine ls F W Aa (Ao Jy Aa Aa Aa T3 F Aa 0 Aa).q fun a w F W => ?_
  refine ls F W Aa (AJ (v := Value.int .i64 p1.un.1) 0 F Aa Aa T3 Aa).q fun a w F W => ?_
  refine ls F W Aa (Ev F Aa Aa).q fun a w F W => ?_
  refine ls F W Aa (Ah F Aa).q fun a w F W => ?_
  rcases Bool.eq_false_or_eq_true (decide (p0.un.1 ≠ p1.un.1)) with hb0 | hb0
  ·
   rw [hb0] at F
   iterate 5 refine Ec F Aa Aa Aa Aa Aa Aa Aa fun a F => ?_
   refine ls F W Aa (AE F Aa Aa Aa).q fun a w F W => ?_
   refine ls F W Aa (Ah F Aa).q fun a w F W => ?_
   iterate 5 refine Ec F Aa Aa Aa Aa Aa Aa Aa fun a F => ?_
   refine ls F W Aa (AE F Aa Aa Aa).q fun a w F W => ?_
   refine ls F W Aa (Ah F Aa).q fun a w F W => ?_
   iterate 7 refine Ec F Aa Aa Aa Aa Aa Aa Aa fun a F => ?_
   refine ls F W Aa (AE F Aa Aa Aa).q fun a w F W => ?_
   refine Ae (Ad ?_)
   exact ⟨F.re ⟨rfl, Aa, Aa, (I2 (by try rw [hb0]; all_goals simp only [IZ])), trivial⟩, W⟩
  rw [hb0] at F
  refine AX F W (Ak F Aa Aa Aa Aa) Aa (Ay Aa) (Ao Jy Aa Aa Aa T3 F Aa 1 Aa).q fun a w F W => ?_
  refine AX F W (Ak F Aa Aa Aa Aa) Aa (Ay Aa) (AJ (v := Value.int .i64 p0.un.2.1) 1 F Aa Aa T3 Aa).q fun a w F W => ?_
  refine AX F W (Ak F Aa Aa Aa Aa) Aa (Ay Aa) (Ao Jy Aa Aa Aa T3 F Aa 1 Aa).q fun a w F W => ?_
  refine AX F W (Ak F Aa Aa Aa Aa) Aa (Ay Aa) (AJ (v := Value.int .i64 p1.un.2.1) 0 F Aa Aa T3 Aa).q fun a w F W => ?_
  refine AX F W (Ak F Aa Aa Aa Aa) Aa (Ay Aa) (Ev F Aa Aa).q fun a w F W => ?_
  refine ls F W Aa (AN F Aa Aa Aa).q fun a w F W => ?_
  refine ls F W Aa (Ah F Aa).q fun a w F W => ?_
  rcases Bool.eq_false_or_eq_true (decide (p0.un.2.1 ≠ p1.un.2.1)) with hb1 | hb1
  ·
   rw [hb1] at F
   iterate 5 refine Ec F Aa Aa Aa Aa Aa Aa Aa fun a F => ?_
   refine ls F W Aa (AE F Aa Aa Aa).q fun a w F W => ?_
   refine ls F W Aa (Ah F Aa).q fun a w F W => ?_
   iterate 7 refine Ec F Aa Aa Aa Aa Aa Aa Aa fun a F => ?_
   refine ls F W Aa (AE F Aa Aa Aa).q fun a w F W => ?_
   refine Ae (Ad ?_)
   exact ⟨F.re ⟨rfl, Aa, Aa, (I2 (by try rw [hb1]; try rw [hb0]; all_goals simp only [IZ])), trivial⟩, W⟩
  rw [hb1] at F
  refine AX F W (Ak F Aa Aa Aa Aa) Aa (Ay Aa) (Ao Jy Aa Aa Aa T3 F Aa 2 Aa).q fun a w F W => ?_
  refine AX F W (Ak F Aa Aa Aa Aa) Aa (Ay Aa) (AJ (v := Value.int .i64 p0.un.2.2.1) 1 F Aa Aa T3 Aa).q fun a w F W => ?_
  refine AX F W (Ak F Aa Aa Aa Aa) Aa (Ay Aa) (Ao Jy Aa Aa Aa T3 F Aa 2 Aa).q fun a w F W => ?_
  refine AX F W (Ak F Aa Aa Aa Aa) Aa (Ay Aa) (AJ (v := Value.int .i64 p1.un.2.2.1) 0 F Aa Aa T3 Aa).q fun a w F W => ?_
  refine AX F W (Ak F Aa Aa Aa Aa) Aa (Ay Aa) (Ev F Aa Aa).q fun a w F W => ?_
  refine ls F W Aa (AN F Aa Aa Aa).q fun a w F W => ?_
  refine ls F W Aa (Ah F Aa).q fun a w F W => ?_
  rcases Bool.eq_false_or_eq_true (decide (p0.un.2.2.1 ≠ p1.un.2.2.1)) with hb2 | hb2
  ·
   rw [hb2] at F
   iterate 7 refine Ec F Aa Aa Aa Aa Aa Aa Aa fun a F => ?_
   refine ls F W Aa (AE F Aa Aa Aa).q fun a w F W => ?_
   refine Ae (Ad ?_)
   exact ⟨F.re ⟨rfl, Aa, Aa, (I2 (by try rw [hb2]; try rw [hb1]; try rw [hb0]; all_goals simp only [IZ])), trivial⟩, W⟩
  rw [hb2] at F
  refine AX F W (Ak F Aa Aa Aa Aa) Aa (Ay Aa) (Ao Jy Aa Aa Aa OR F Aa 3 Aa).q fun a w F W => ?_
  refine AX F W (Ak F Aa Aa Aa Aa) Aa (Ay Aa) (AJ (v := v1) 1 F Aa Aa OR Aa).q fun a w F W => ?_
  refine AX F W (Ak F Aa Aa Aa Aa) Aa (Ay Aa) (E4 (r := A9) (l := p0.un.2.2.2) Pt Aa F Aa (Cd J7 h1 (AG h_v1))).q fun a w F W => ?_
  refine AX F W (Ak F Aa Aa Aa Aa) Aa (Ay Aa) (Ao Jy Aa Aa Aa OR F Aa 3 Aa).q fun a w F W => ?_
  refine AX F W (Ak F Aa Aa Aa Aa) Aa (Ay Aa) (AJ (v := v2) 0 F Aa Aa OR Aa).q fun a w F W => ?_
  refine AX F W (Ak F Aa Aa Aa Aa) Aa (Ay Aa) (E4 (r := A9) (l := p1.un.2.2.2) Pt Aa F Aa (Cd J7 h2 (AG h_v2))).q fun a w F W => ?_
  refine AX F W (Ak F Aa Aa Aa Aa) Aa (Ay Aa) (Ev F Aa Aa).q fun a w F W => ?_
  refine ls F W Aa (AN F Aa Aa Aa).q fun a w F W => ?_
  refine Ae (Ad ?_)
  exact ⟨F.re ⟨rfl, Aa, Aa, (I2 (by try rw [hb2]; try rw [hb1]; try rw [hb0]; all_goals simp only [IZ])), trivial⟩, W⟩
 rintro a w ⟨F, W⟩
 refine Aw F Aa (fun hb => ?_) fun hb => ?_
 ·
  have H := AQ hb H
  rw [hb] at F
  clear hb
  refine Ai (Ab ?_)
  refine ls F W Aa (Ag F Aa).q fun a w F W => ?_
  refine Ae (Ad (Aq (AD ?_)))
  have H := AH H
  subst H
  refine AP (.inl Aa) F W Aa (Ap F Aa) ?_
  exact ⟨rfl, W.done⟩
 have H := AR (by rw [hb]; decide) H
 rw [hb] at F
 clear hb
 refine Ax (Ad ?_)
 obtain ⟨o1, G1, K1, L1⟩ := O9 H
 refine Bd (fun a w => some (Sum.inl ()) = some o1 ∧ Fr 53 [] [(4, .bool false)] a ∧ Stw ⟨Y, [], w0⟩ (MV b2 p1 v2 b1 p0 v1) [] w) ?_ ?_
 ·
  have H := G1
  clear G1 K1
  refine Ai (Ab ?_)
  refine ls F W Aa (Ag F Aa).q fun a w F W => ?_
  refine Ae (Ad (AV ?_))
  have W := W.frontM (i := 1) Aa Aa
  have W := W.frontM (i := 1) Aa Aa
  refine Cr H (fun s a w => Fr 53 [] [(2, .pointer (some ⟨b1, 0, none⟩)), (3, .pointer (some ⟨b2, 0, none⟩)), (4, .bool false), (5, .int .i64 s)] a ∧ Stw ⟨Y, [], w0⟩ (MV b2 p1 v2 b1 p0 v1) [] w) ⟨F.re ⟨rfl, Aa, Aa, Aa, trivial⟩, W⟩ fun s o a w H L2 hR => ?_
  obtain ⟨x1, rfl⟩ : ∃ x, x = s := ⟨s, rfl⟩
  obtain ⟨F, W⟩ := hR
  have F : Fr 53 [] [(2, .pointer (some ⟨b1, 0, none⟩)), (3, .pointer (some ⟨b2, 0, none⟩)), (4, .bool false), (5, .int .i64 x1)] a := F
  have W : Stw ⟨Y, [], w0⟩ (MV b2 p1 v2 b1 p0 v1) [] w := W
  rw [DU] at H
  refine Ai (Ai (Ab ?_))
  refine ls F W Aa (Ah F Aa).q fun a w F W => ?_
  refine ls F W Aa (Ao Jy Aa Aa Aa OR F Aa 3 Aa).q fun a w F W => ?_
  refine ls F W Aa (AJ (v := v1) 1 F Aa Aa OR Aa).q fun a w F W => ?_
  refine ls F W Aa (E4 (r := A9) (l := p0.un.2.2.2) Pt Aa F Aa (Cd J7 h1 (AG h_v1))).q fun a w F W => ?_
  refine ls F W Aa (Fd F Aa Aa).q fun a w F W => ?_
  refine Ae (Ad ?_)
  refine Aw F Aa (fun hb => ?_) fun hb => ?_
  ·
   have H := AQ (BB hb) H
   rw [hb] at F
   clear hb
   refine Ax (Ad (Ai (AV (Ai ?_))))
   refine Fc W MO (by kernel_rfl) ?_
   refine qs F Aa (Ao Jy Aa Aa Aa OR F Aa 3 Aa).q fun a F => ?_
   refine qs F Aa (AJ (v := v1) 1 F Aa Aa OR Aa).q fun a F => ?_
   refine qs F Aa (Ah F Aa).q fun a F => ?_
   obtain ⟨x2, h3, H⟩ := An H
   obtain ⟨v5, h4, h5⟩ := H1 h1 h3
   have h6 : PK v5 = [.int .i64 x2.un.1, .int .i64 x2.un.2.1, .int .i64 x2.un.2.2.1, (v5.2.2.2.1)] := congrArg (fun q : Tr34 => ([.int .i64 q.un.1, .int .i64 q.un.2.1, .int .i64 q.un.2.2.1, (v5.2.2.2.1)] : List Value)) h5
   refine qs F Aa (CE (r := LN) Qq F Aa Aa (AG h_v1) h4).q fun a F => ?_
   refine qs F Aa (BV (y := Value.agg #[.int .i64 x2.un.1, .int .i64 x2.un.2.1, .int .i64 x2.un.2.2.1, (v5.2.2.2.1)]) (j := 0) (i := x1) (enc := PK) F Aa Aa (AG h_v1) h4 Sk Fh (by rw [h6]; rfl)).q fun a F => ?_
   refine qs F Aa (Ao Jy Aa Aa Aa OR F Aa 3 Aa).q fun a F => ?_
   refine qs F Aa (AJ (v := v2) 0 F Aa Aa OR Aa).q fun a F => ?_
   refine qs F Aa (Ah F Aa).q fun a F => ?_
   obtain ⟨x3, h7, H⟩ := An H
   obtain ⟨v6, h8, h9⟩ := H1 h2 h7
   have h10 : PK v6 = [.int .i64 x3.un.1, .int .i64 x3.un.2.1, .int .i64 x3.un.2.2.1, (v6.2.2.2.1)] := congrArg (fun q : Tr34 => ([.int .i64 q.un.1, .int .i64 q.un.2.1, .int .i64 q.un.2.2.1, (v6.2.2.2.1)] : List Value)) h9
   refine qs F Aa (CE (r := LN) Qq F Aa Aa (AG h_v2) h8).q fun a F => ?_
   refine qs F Aa (BV (y := Value.agg #[.int .i64 x3.un.1, .int .i64 x3.un.2.1, .int .i64 x3.un.2.2.1, (v6.2.2.2.1)]) (j := 0) (i := x1) (enc := PK) F Aa Aa (AG h_v2) h8 Sk Fh (by rw [h10]; rfl)).q fun a F => ?_
   obtain ⟨x4, h11, H⟩ := An H
   refine qs F Aa (A1 (v := Value.bool x4) F S2 Aa (fun w W => ih any w ((v5.2.2.2.1)) ((v6.2.2.2.1)) x2 x3 _ h11 (((E8 (AG h_v1) h4 (Bp.snd (Bp.snd (Bp.snd Bp.here))) (congrArg (fun q : Tr34 => q.un.2.2.2) h5)) : EN _ _ _ _ _ _) w W).nx (((E8 (AG h_v2) h8 (Bp.snd (Bp.snd (Bp.snd Bp.here))) (congrArg (fun q : Tr34 => q.un.2.2.2) h9)) : EN _ _ _ _ _ _) w W).nx)) fun a F => ?_
   refine qs F Aa (FH F Aa).q fun a F => ?_
   refine Ek fun w W => ?_
   refine Ad ?_
   refine Aw F Aa (fun hb => ?_) fun hb => ?_
   ·
    have H := AQ hb H
    rw [hb] at F
    clear hb
    refine Ai (Ab ?_)
    refine ls F W Aa (Ag F Aa).q fun a w F W => ?_
    refine Ae (Ad (Aq (A5 ?_)))
    iterate 2 refine AD ?_
    refine A5 (AD ?_)
    have H := L2 _ H
    have H := L1 _ H
    have H := AH H
    subst H
    refine AP (.inl Aa) F W Aa (Ap F Aa) ?_
    exact ⟨rfl, W.done⟩
   have H := AR (by rw [hb]; decide) H
   rw [hb] at F
   clear hb
   refine Ax (Bw (Ad (Ab ?_)))
   refine ls F W Aa (Ah F Aa).q fun a w F W => ?_
   refine ls F W Aa (BT F Aa Aa Aa).q fun a w F W => ?_
   refine ls F W Aa (Ag F Aa).q fun a w F W => ?_
   refine Ae (Ad ?_)
   have W := W.frontM (i := 1) Aa Aa
   have W := W.frontM (i := 1) Aa Aa
   exact ⟨_, H, F.re ⟨rfl, Aa, Aa, Aa, trivial⟩, W⟩
  have H := AR (Bz hb) H
  rw [hb] at F
  clear hb
  refine Cl ?_
  iterate 2 refine CO ?_
  refine Ck (Ad ?_)
  have W := W.frontM (i := 1) Aa Aa
  have W := W.frontM (i := 1) Aa Aa
  have H := L2 _ H
  exact ⟨H, F.re ⟨rfl, trivial⟩, W⟩
 rintro a w ⟨hj, F, W⟩
 have H := K1 _ hj
 clear hj G1 K1 L1
 refine Ai (Ab ?_)
 refine ls F W Aa (Ag F Aa).q fun a w F W => ?_
 refine Ae (Ad (Aq ?_))
 have H := AH H
 subst H
 refine AP (.inl Aa) F W Aa (Ap F Aa) ?_
 exact ⟨rfl, W.done⟩
theorem NN : ∀ (n : Nat) (Y : Nat → Prop) (w0 : World) (v1 : Value) (v2 : Value) (p0 : Tr34) (p1 : Tr34) (r : Bool) (H : Dz n p0 p1 = some r) (h_v1 : Sl w0 (NX []) A9 v1 p0.un.2.2.2) (h_v2 : Sl w0 (NX []) A9 v2 p1.un.2.2.2), Calls Tryd.prog 13 #[.agg #[.int .i64 p0.un.1, .int .i64 p0.un.2.1, .int .i64 p0.un.2.2.1, v1], .agg #[.int .i64 p1.un.1, .int .i64 p1.un.2.1, .int .i64 p1.un.2.2.1, v2]] w0 fun e w' => e = .returned (.bool r) ∧ Below w0.heap.size w0 w' := by
  intro n
  induction n with
  | zero => intro Y w0 v1 v2 p0 p1 r H; exact nomatch H
  | succ n ih => intro Y w0 v1 v2 p0 p1 r H h_v1 h_v2; exact MH (Dz n) ih Y w0 v1 v2 p0 p1 r H h_v1 h_v2
theorem KN (Y : Nat → Prop) (w0 : World) (v1 : Value) (v2 : Value) (p0 : Tr34) (p1 : Tr34) (r : Bool) (H : Jv p0 p1 = some r) (h_v1 : Sl w0 (NX []) A9 v1 p0.un.2.2.2) (h_v2 : Sl w0 (NX []) A9 v2 p1.un.2.2.2) :
    Calls Tryd.prog 13 #[.agg #[.int .i64 p0.un.1, .int .i64 p0.un.2.1, .int .i64 p0.un.2.2.1, v1], .agg #[.int .i64 p1.un.1, .int .i64 p1.un.2.1, .int .i64 p1.un.2.2.1, v2]] w0 fun e w' => e = .returned (.bool r) ∧ Below w0.heap.size w0 w' := by
  obtain ⟨n, H⟩ := Ch H
  exact NN n Y w0 v1 v2 p0 p1 r H h_v1 h_v2
abbrev P4 (a : Int × (Int × Int × Int × (Value × List Tr34)) × Int × Int × (Value × List Tr37)) : List Value := [.int .i64 a.1, .int .i64 a.2.1.1, .int .i64 a.2.1.2.1, .int .i64 a.2.1.2.2.1, a.2.1.2.2.2.1, .int .i64 a.2.2.1, .int .i64 a.2.2.2.1, a.2.2.2.2.1]
theorem Sb : Ed Pi P4 := (Ed.pair Fl.int.to (Ed.pair (Ed.pair Fl.int.to (Ed.pair Fl.int.to (Ed.pair Fl.int.to Ed.vsl))) (Ed.pair Fl.int.to (Ed.pair Fl.int.to Ed.vsl))))
theorem H9 : Has Tryd.prog 9 := ⟨fun args w => Al Tryd.func9 rfl (by decide) args w⟩
abbrev Mx (a0 : Nat) (a1 : Tr37) (a2 : Value) (a3 : Value) (a4 : Nat) (a5 : Tr37) (a6 : Value) (a7 : Value) : List (Nat × List Value) := [(a0, [.int .i64 a1.un.1, .int .i64 a1.un.2.1.un.1, .int .i64 a1.un.2.1.un.2.1, .int .i64 a1.un.2.1.un.2.2.1, a2, .int .i64 a1.un.2.2.1, .int .i64 a1.un.2.2.2.1, a3]), (a4, [.int .i64 a5.un.1, .int .i64 a5.un.2.1.un.1, .int .i64 a5.un.2.1.un.2.1, .int .i64 a5.un.2.1.un.2.2.1, a6, .int .i64 a5.un.2.2.1, .int .i64 a5.un.2.2.2.1, a7])]
noncomputable def DP (fRec : Tr37 → Tr37 → Option Bool) (p0 : Tr37) (p1 : Tr37) : Int → Option (Int ⊕ (Unit ⊕ Bool))
  | x3 => (if x3 < (p0.un.2.2.2.2.length : Int) then (ix p0.un.2.2.2.2 x3).bind fun x4 => (ix p1.un.2.2.2.2 x3).bind fun x5 => (fRec (Tr37.of (x4.un.1, Tr34.of (x4.un.2.1.un.1, x4.un.2.1.un.2.1, x4.un.2.1.un.2.2.1, x4.un.2.1.un.2.2.2), x4.un.2.2.1, x4.un.2.2.2.1, x4.un.2.2.2.2)) (Tr37.of (x5.un.1, Tr34.of (x5.un.2.1.un.1, x5.un.2.1.un.2.1, x5.un.2.1.un.2.2.1, x5.un.2.1.un.2.2.2), x5.un.2.2.1, x5.un.2.2.2.1, x5.un.2.2.2.2))).bind fun x6 => (if (!x6) = true then some (.inr (.inr false)) else some (.inl (Co (x3 + 1)))) else some (.inr (.inl ())))
noncomputable def DS (fRec : Tr37 → Tr37 → Option Bool) (p0 : Tr37) (p1 : Tr37) : Option Bool := (if p0.un.1 ≠ p1.un.1 then some true else (if p0.un.2.2.1 ≠ p1.un.2.2.1 then some true else (if p0.un.2.2.2.1 ≠ p1.un.2.2.2.1 then some true else (Jv (Tr34.of (p0.un.2.1.un.1, p0.un.2.1.un.2.1, p0.un.2.1.un.2.2.1, p0.un.2.1.un.2.2.2)) (Tr34.of (p1.un.2.1.un.1, p1.un.2.1.un.2.1, p1.un.2.1.un.2.2.1, p1.un.2.1.un.2.2.2))).bind fun x2 => (if (!x2) = true then some true else some (decide ((p0.un.2.2.2.2.length : Int) ≠ (p1.un.2.2.2.2.length : Int))))))).bind fun x1 => (if x1 = true then some false else J4 (Bx (DP fRec p0 p1) 0) fun _ => some true)
noncomputable def Du : Nat → Tr37 → Tr37 → Option Bool
  | 0 => fun _ _ => none
  | n + 1 => DS (Du n)
noncomputable def LC (p0 : Tr37) (p1 : Tr37) : Option Bool := Gx fun n => Du n p0 p1
theorem MB (fRec : Tr37 → Tr37 → Option Bool) (ih : ∀ (Y : Nat → Prop) (w0 : World) (v1 : Value) (v2 : Value) (v3 : Value) (v4 : Value) (p0 : Tr37) (p1 : Tr37) (r : Bool) (H : fRec p0 p1 = some r) (h_v1 : Sl w0 (NX []) A9 v1 p0.un.2.1.un.2.2.2) (h_v2 : Sl w0 (NX []) B3 v2 p0.un.2.2.2.2) (h_v3 : Sl w0 (NX []) A9 v3 p1.un.2.1.un.2.2.2) (h_v4 : Sl w0 (NX []) B3 v4 p1.un.2.2.2.2), Calls Tryd.prog 9 #[.agg #[.int .i64 p0.un.1, .int .i64 p0.un.2.1.un.1, .int .i64 p0.un.2.1.un.2.1, .int .i64 p0.un.2.1.un.2.2.1, v1, .int .i64 p0.un.2.2.1, .int .i64 p0.un.2.2.2.1, v2], .agg #[.int .i64 p1.un.1, .int .i64 p1.un.2.1.un.1, .int .i64 p1.un.2.1.un.2.1, .int .i64 p1.un.2.1.un.2.2.1, v3, .int .i64 p1.un.2.2.1, .int .i64 p1.un.2.2.2.1, v4]] w0 fun e w' => e = .returned (.bool r) ∧ Below w0.heap.size w0 w') (Y : Nat → Prop) (w0 : World) (v1 : Value) (v2 : Value) (v3 : Value) (v4 : Value) (p0 : Tr37) (p1 : Tr37) (r : Bool) (H : DS fRec p0 p1 = some r) (h_v1 : Sl w0 (NX []) A9 v1 p0.un.2.1.un.2.2.2) (h_v2 : Sl w0 (NX []) B3 v2 p0.un.2.2.2.2) (h_v3 : Sl w0 (NX []) A9 v3 p1.un.2.1.un.2.2.2) (h_v4 : Sl w0 (NX []) B3 v4 p1.un.2.2.2.2) :
    Calls Tryd.prog 9 #[.agg #[.int .i64 p0.un.1, .int .i64 p0.un.2.1.un.1, .int .i64 p0.un.2.1.un.2.1, .int .i64 p0.un.2.1.un.2.2.1, v1, .int .i64 p0.un.2.2.1, .int .i64 p0.un.2.2.2.1, v2], .agg #[.int .i64 p1.un.1, .int .i64 p1.un.2.1.un.1, .int .i64 p1.un.2.1.un.2.1, .int .i64 p1.un.2.1.un.2.2.1, v3, .int .i64 p1.un.2.2.1, .int .i64 p1.un.2.2.2.1, v4]] w0 fun e w' => e = .returned (.bool r) ∧ Below w0.heap.size w0 w' := by
 refine enter Tryd.func9 Aa Tryd.ntmps9 Aa fun a F => ?_
 have W := Stw.start Y w0
 obtain ⟨v5, h1, h_v1⟩ := h_v1.ex J7
 obtain ⟨v6, h2, h_v2⟩ := h_v2.ex Oo
 obtain ⟨v7, h3, h_v3⟩ := h_v3.ex J7
 obtain ⟨v8, h4, h_v4⟩ := h_v4.ex Oo
 unfold DS at H
 refine Ai (Ab ?_)
 refine H2 (cs := (Of p0 v1 v2)) F W Aa Aa Aa fun b1 a w F W => ?_
 refine H2 (cs := (Of p1 v3 v4)) F W Aa Aa Aa fun b2 a w F W => ?_
 refine ls F W Aa (Ag F Aa).q fun a w F W => ?_
 refine Ae (Ad (Ai ?_))
 obtain ⟨o1, G1, K1⟩ := An H
 refine Bd (fun a w => ∃ x1 : Bool, some (x1) = some o1 ∧ Fr 61 [] [(2, .pointer (some ⟨b1, 0, none⟩)), (3, .pointer (some ⟨b2, 0, none⟩)), (4, .bool false), (41, .bool x1)] a ∧ Stw ⟨Y, [], w0⟩ (Mx b2 p1 v3 v4 b1 p0 v1 v2) [] w) ?_ ?_
 ·
  have H := G1
  clear G1 K1
  refine Ab ?_
  refine ls F W Aa (Ao H5 Aa Aa Aa T3 F Aa 0 Aa).q fun a w F W => ?_
  refine ls F W Aa (AJ (v := Value.int .i64 p0.un.1) 1 F Aa Aa T3 Aa).q fun a w F W => ?_
  refine ls F W Aa (Ao H5 Aa Aa Aa T3 F Aa 0 Aa).q fun a w F W => ?_
  refine ls F W Aa (AJ (v := Value.int .i64 p1.un.1) 0 F Aa Aa T3 Aa).q fun a w F W => ?_
  refine ls F W Aa (Ev F Aa Aa).q fun a w F W => ?_
  refine ls F W Aa (Ah F Aa).q fun a w F W => ?_
  rcases Bool.eq_false_or_eq_true (decide (p0.un.1 ≠ p1.un.1)) with hb | hb
  ·
   have H := AQ (BB hb) H
   rw [hb] at F
   clear hb
   iterate 5 refine Ec F Aa Aa Aa Aa Aa Aa Aa fun a F => ?_
   refine ls F W Aa (AE F Aa Aa Aa).q fun a w F W => ?_
   refine ls F W Aa (Ah F Aa).q fun a w F W => ?_
   iterate 5 refine Ec F Aa Aa Aa Aa Aa Aa Aa fun a F => ?_
   refine ls F W Aa (AE F Aa Aa Aa).q fun a w F W => ?_
   refine ls F W Aa (Ah F Aa).q fun a w F W => ?_
   iterate 6 refine Ec F Aa Aa Aa Aa Aa Aa Aa fun a F => ?_
   refine ls F W Aa (AE F Aa Aa Aa).q fun a w F W => ?_
   refine ls F W Aa (Ah F Aa).q fun a w F W => ?_
   iterate 7 refine Ec F Aa Aa Aa Aa Aa Aa Aa fun a F => ?_
   refine ls F W Aa (AE F Aa Aa Aa).q fun a w F W => ?_
   refine Ae (Ad ?_)
   have W := W.frontM (i := 1) Aa Aa
   have W := W.frontM (i := 1) Aa Aa
   exact ⟨_, H, F.re ⟨rfl, Aa, Aa, Aa, trivial⟩, W⟩
  have H := AR (Bz hb) H
  rw [hb] at F
  clear hb
  refine AX F W (Ak F Aa Aa Aa Aa) Aa (Ay Aa) (Ao H5 Aa Aa Aa T3 F Aa 5 Aa).q fun a w F W => ?_
  refine AX F W (Ak F Aa Aa Aa Aa) Aa (Ay Aa) (AJ (v := Value.int .i64 p0.un.2.2.1) 1 F Aa Aa T3 Aa).q fun a w F W => ?_
  refine AX F W (Ak F Aa Aa Aa Aa) Aa (Ay Aa) (Ao H5 Aa Aa Aa T3 F Aa 5 Aa).q fun a w F W => ?_
  refine AX F W (Ak F Aa Aa Aa Aa) Aa (Ay Aa) (AJ (v := Value.int .i64 p1.un.2.2.1) 0 F Aa Aa T3 Aa).q fun a w F W => ?_
  refine AX F W (Ak F Aa Aa Aa Aa) Aa (Ay Aa) (Ev F Aa Aa).q fun a w F W => ?_
  refine ls F W Aa (AN F Aa Aa Aa).q fun a w F W => ?_
  refine ls F W Aa (Ah F Aa).q fun a w F W => ?_
  rcases Bool.eq_false_or_eq_true (decide (p0.un.2.2.1 ≠ p1.un.2.2.1)) with hb | hb
  ·
   have H := AQ (BB hb) H
   rw [hb] at F
   clear hb
   iterate 5 refine Ec F Aa Aa Aa Aa Aa Aa Aa fun a F => ?_
   refine ls F W Aa (AE F Aa Aa Aa).q fun a w F W => ?_
   refine ls F W Aa (Ah F Aa).q fun a w F W => ?_
   iterate 6 refine Ec F Aa Aa Aa Aa Aa Aa Aa fun a F => ?_
   refine ls F W Aa (AE F Aa Aa Aa).q fun a w F W => ?_
   refine ls F W Aa (Ah F Aa).q fun a w F W => ?_
   iterate 7 refine Ec F Aa Aa Aa Aa Aa Aa Aa fun a F => ?_
   refine ls F W Aa (AE F Aa Aa Aa).q fun a w F W => ?_
   refine Ae (Ad ?_)
   have W := W.frontM (i := 1) Aa Aa
   have W := W.frontM (i := 1) Aa Aa
   exact ⟨_, H, F.re ⟨rfl, Aa, Aa, Aa, trivial⟩, W⟩
  have H := AR (Bz hb) H
  rw [hb] at F
  clear hb
  refine AX F W (Ak F Aa Aa Aa Aa) Aa (Ay Aa) (Ao H5 Aa Aa Aa T3 F Aa 6 Aa).q fun a w F W => ?_
  refine AX F W (Ak F Aa Aa Aa Aa) Aa (Ay Aa) (AJ (v := Value.int .i64 p0.un.2.2.2.1) 1 F Aa Aa T3 Aa).q fun a w F W => ?_
  refine AX F W (Ak F Aa Aa Aa Aa) Aa (Ay Aa) (Ao H5 Aa Aa Aa T3 F Aa 6 Aa).q fun a w F W => ?_
  refine AX F W (Ak F Aa Aa Aa Aa) Aa (Ay Aa) (AJ (v := Value.int .i64 p1.un.2.2.2.1) 0 F Aa Aa T3 Aa).q fun a w F W => ?_
  refine AX F W (Ak F Aa Aa Aa Aa) Aa (Ay Aa) (Ev F Aa Aa).q fun a w F W => ?_
  refine ls F W Aa (AN F Aa Aa Aa).q fun a w F W => ?_
  refine ls F W Aa (Ah F Aa).q fun a w F W => ?_
  rcases Bool.eq_false_or_eq_true (decide (p0.un.2.2.2.1 ≠ p1.un.2.2.2.1)) with hb | hb
  ·
   have H := AQ (BB hb) H
   rw [hb] at F
   clear hb
   iterate 6 refine Ec F Aa Aa Aa Aa Aa Aa Aa fun a F => ?_
   refine ls F W Aa (AE F Aa Aa Aa).q fun a w F W => ?_
   refine ls F W Aa (Ah F Aa).q fun a w F W => ?_
   iterate 7 refine Ec F Aa Aa Aa Aa Aa Aa Aa fun a F => ?_
   refine ls F W Aa (AE F Aa Aa Aa).q fun a w F W => ?_
   refine Ae (Ad ?_)
   have W := W.frontM (i := 1) Aa Aa
   have W := W.frontM (i := 1) Aa Aa
   exact ⟨_, H, F.re ⟨rfl, Aa, Aa, Aa, trivial⟩, W⟩
  have H := AR (Bz hb) H
  rw [hb] at F
  clear hb
  refine AX F W (Ak F Aa Aa Aa Aa) Aa (Ay Aa) (Ao H5 Aa Aa Aa Fh F Aa 1 Aa).q fun a w F W => ?_
  refine AX F W (Ak F Aa Aa Aa Aa) Aa (Ay Aa) (AJ (v := Value.agg #[.int .i64 p0.un.2.1.un.1, .int .i64 p0.un.2.1.un.2.1, .int .i64 p0.un.2.1.un.2.2.1, v1]) 1 F Aa Aa Fh Aa).q fun a w F W => ?_
  refine AX F W (Ak F Aa Aa Aa Aa) Aa (Ay Aa) (Ao H5 Aa Aa Aa Fh F Aa 1 Aa).q fun a w F W => ?_
  refine AX F W (Ak F Aa Aa Aa Aa) Aa (Ay Aa) (AJ (v := Value.agg #[.int .i64 p1.un.2.1.un.1, .int .i64 p1.un.2.1.un.2.1, .int .i64 p1.un.2.1.un.2.2.1, v3]) 0 F Aa Aa Fh Aa).q fun a w F W => ?_
  refine JT (Ak F Aa Aa Aa Aa) ?_
  obtain ⟨x2, h5, H⟩ := An H
  refine ls F W Aa (A1 (v := Value.bool x2) F S2 Aa (fun w W => KN any w (v1) (v3) (Tr34.of (p0.un.2.1.un.1, p0.un.2.1.un.2.1, p0.un.2.1.un.2.2.1, p0.un.2.1.un.2.2.2)) (Tr34.of (p1.un.2.1.un.1, p1.un.2.1.un.2.1, p1.un.2.1.un.2.2.1, p1.un.2.1.un.2.2.2)) _ h5 (((Cd J7 h1 (AG h_v1)) : EN _ _ _ _ _ _) w W).nx (((Cd J7 h3 (AG h_v3)) : EN _ _ _ _ _ _) w W).nx)) fun a w F W => ?_
  refine AX F W (Ak F Aa Aa Aa Aa) Aa (Ay Aa) (FH F Aa).q fun a w F W => ?_
  refine ls F W Aa (AN F Aa Aa Aa).q fun a w F W => ?_
  refine ls F W Aa (Ah F Aa).q fun a w F W => ?_
  rcases Bool.eq_false_or_eq_true (!x2) with hb | hb
  ·
   have H := AQ hb H
   rw [hb] at F
   clear hb
   iterate 7 refine Ec F Aa Aa Aa Aa Aa Aa Aa fun a F => ?_
   refine ls F W Aa (AE F Aa Aa Aa).q fun a w F W => ?_
   refine Ae (Ad ?_)
   have W := W.frontM (i := 1) Aa Aa
   have W := W.frontM (i := 1) Aa Aa
   exact ⟨_, H, F.re ⟨rfl, Aa, Aa, Aa, trivial⟩, W⟩
  have H := AR (by rw [hb]; decide) H
  rw [hb] at F
  clear hb
  refine AX F W (Ak F Aa Aa Aa Aa) Aa (Ay Aa) (Ao H5 Aa Aa Aa NY F Aa 7 Aa).q fun a w F W => ?_
  refine AX F W (Ak F Aa Aa Aa Aa) Aa (Ay Aa) (AJ (v := v2) 1 F Aa Aa NY Aa).q fun a w F W => ?_
  refine AX F W (Ak F Aa Aa Aa Aa) Aa (Ay Aa) (E4 (r := B3) (l := p0.un.2.2.2.2) Pb Aa F Aa (Cd Oo h2 (AG h_v2))).q fun a w F W => ?_
  refine AX F W (Ak F Aa Aa Aa Aa) Aa (Ay Aa) (Ao H5 Aa Aa Aa NY F Aa 7 Aa).q fun a w F W => ?_
  refine AX F W (Ak F Aa Aa Aa Aa) Aa (Ay Aa) (AJ (v := v4) 0 F Aa Aa NY Aa).q fun a w F W => ?_
  refine AX F W (Ak F Aa Aa Aa Aa) Aa (Ay Aa) (E4 (r := B3) (l := p1.un.2.2.2.2) Pb Aa F Aa (Cd Oo h4 (AG h_v4))).q fun a w F W => ?_
  refine AX F W (Ak F Aa Aa Aa Aa) Aa (Ay Aa) (Ev F Aa Aa).q fun a w F W => ?_
  refine ls F W Aa (AN F Aa Aa Aa).q fun a w F W => ?_
  refine Ae (Ad ?_)
  have W := W.frontM (i := 1) Aa Aa
  have W := W.frontM (i := 1) Aa Aa
  exact ⟨_, H, F.re ⟨rfl, Aa, Aa, Aa, trivial⟩, W⟩
 rintro a w ⟨x1, hj, F, W⟩
 have hj := AH hj
 subst hj
 have H := K1
 clear G1 K1
 refine Aw F Aa (fun hb => ?_) fun hb => ?_
 ·
  have H := AQ hb H
  rw [hb] at F
  clear hb
  refine Ai (Ab ?_)
  refine ls F W Aa (Ag F Aa).q fun a w F W => ?_
  refine Ae (Ad (Aq (AD ?_)))
  have H := AH H
  subst H
  refine AP (.inl Aa) F W Aa (Ap F Aa) ?_
  exact ⟨rfl, W.done⟩
 have H := AR (by rw [hb]; decide) H
 rw [hb] at F
 clear hb
 refine Ax (Ad ?_)
 obtain ⟨o2, G2, K2, L2⟩ := O9 H
 refine Bd (fun a w => some (Sum.inl ()) = some o2 ∧ Fr 61 [] [(4, .bool false)] a ∧ Stw ⟨Y, [], w0⟩ (Mx b2 p1 v3 v4 b1 p0 v1 v2) [] w) ?_ ?_
 ·
  have H := G2
  clear G2 K2
  refine Ai (Ab ?_)
  refine ls F W Aa (Ag F Aa).q fun a w F W => ?_
  refine Ae (Ad (AV ?_))
  have W := W.frontM (i := 1) Aa Aa
  have W := W.frontM (i := 1) Aa Aa
  refine Cr H (fun s a w => Fr 61 [] [(2, .pointer (some ⟨b1, 0, none⟩)), (3, .pointer (some ⟨b2, 0, none⟩)), (4, .bool false), (5, .int .i64 s)] a ∧ Stw ⟨Y, [], w0⟩ (Mx b2 p1 v3 v4 b1 p0 v1 v2) [] w) ⟨F.re ⟨rfl, Aa, Aa, Aa, trivial⟩, W⟩ fun s o a w H L3 hR => ?_
  obtain ⟨x3, rfl⟩ : ∃ x, x = s := ⟨s, rfl⟩
  obtain ⟨F, W⟩ := hR
  have F : Fr 61 [] [(2, .pointer (some ⟨b1, 0, none⟩)), (3, .pointer (some ⟨b2, 0, none⟩)), (4, .bool false), (5, .int .i64 x3)] a := F
  have W : Stw ⟨Y, [], w0⟩ (Mx b2 p1 v3 v4 b1 p0 v1 v2) [] w := W
  rw [DP] at H
  refine Ai (Ai (Ab ?_))
  refine ls F W Aa (Ah F Aa).q fun a w F W => ?_
  refine ls F W Aa (Ao H5 Aa Aa Aa NY F Aa 7 Aa).q fun a w F W => ?_
  refine ls F W Aa (AJ (v := v2) 1 F Aa Aa NY Aa).q fun a w F W => ?_
  refine ls F W Aa (E4 (r := B3) (l := p0.un.2.2.2.2) Pb Aa F Aa (Cd Oo h2 (AG h_v2))).q fun a w F W => ?_
  refine ls F W Aa (Fd F Aa Aa).q fun a w F W => ?_
  refine Ae (Ad ?_)
  refine Aw F Aa (fun hb => ?_) fun hb => ?_
  ·
   have H := AQ (BB hb) H
   rw [hb] at F
   clear hb
   refine Ax (Ad (Ai (AV (Ai ?_))))
   refine Fc W MO (by kernel_rfl) ?_
   refine qs F Aa (Ao H5 Aa Aa Aa NY F Aa 7 Aa).q fun a F => ?_
   refine qs F Aa (AJ (v := v2) 1 F Aa Aa NY Aa).q fun a F => ?_
   refine qs F Aa (Ah F Aa).q fun a F => ?_
   obtain ⟨x4, h6, H⟩ := An H
   obtain ⟨v9, h7, h8⟩ := H1 h2 h6
   have h9 : P4 v9 = [.int .i64 x4.un.1, .int .i64 x4.un.2.1.un.1, .int .i64 x4.un.2.1.un.2.1, .int .i64 x4.un.2.1.un.2.2.1, (v9.2.1.2.2.2.1), .int .i64 x4.un.2.2.1, .int .i64 x4.un.2.2.2.1, (v9.2.2.2.2.1)] := congrArg (fun q : Tr37 => ([.int .i64 q.un.1, .int .i64 q.un.2.1.un.1, .int .i64 q.un.2.1.un.2.1, .int .i64 q.un.2.1.un.2.2.1, (v9.2.1.2.2.2.1), .int .i64 q.un.2.2.1, .int .i64 q.un.2.2.2.1, (v9.2.2.2.2.1)] : List Value)) h8
   refine qs F Aa (CE (r := Pi) P9 F Aa Aa (AG h_v2) h7).q fun a F => ?_
   refine qs F Aa (BV (y := Value.agg #[.int .i64 x4.un.1, .int .i64 x4.un.2.1.un.1, .int .i64 x4.un.2.1.un.2.1, .int .i64 x4.un.2.1.un.2.2.1, (v9.2.1.2.2.2.1), .int .i64 x4.un.2.2.1, .int .i64 x4.un.2.2.2.1, (v9.2.2.2.2.1)]) (j := 0) (i := x3) (enc := P4) F Aa Aa (AG h_v2) h7 Sb EU (by rw [h9]; rfl)).q fun a F => ?_
   refine qs F Aa (Ao H5 Aa Aa Aa NY F Aa 7 Aa).q fun a F => ?_
   refine qs F Aa (AJ (v := v4) 0 F Aa Aa NY Aa).q fun a F => ?_
   refine qs F Aa (Ah F Aa).q fun a F => ?_
   obtain ⟨x5, h10, H⟩ := An H
   obtain ⟨v10, h11, h12⟩ := H1 h4 h10
   have h13 : P4 v10 = [.int .i64 x5.un.1, .int .i64 x5.un.2.1.un.1, .int .i64 x5.un.2.1.un.2.1, .int .i64 x5.un.2.1.un.2.2.1, (v10.2.1.2.2.2.1), .int .i64 x5.un.2.2.1, .int .i64 x5.un.2.2.2.1, (v10.2.2.2.2.1)] := congrArg (fun q : Tr37 => ([.int .i64 q.un.1, .int .i64 q.un.2.1.un.1, .int .i64 q.un.2.1.un.2.1, .int .i64 q.un.2.1.un.2.2.1, (v10.2.1.2.2.2.1), .int .i64 q.un.2.2.1, .int .i64 q.un.2.2.2.1, (v10.2.2.2.2.1)] : List Value)) h12
   refine qs F Aa (CE (r := Pi) P9 F Aa Aa (AG h_v4) h11).q fun a F => ?_
   refine qs F Aa (BV (y := Value.agg #[.int .i64 x5.un.1, .int .i64 x5.un.2.1.un.1, .int .i64 x5.un.2.1.un.2.1, .int .i64 x5.un.2.1.un.2.2.1, (v10.2.1.2.2.2.1), .int .i64 x5.un.2.2.1, .int .i64 x5.un.2.2.2.1, (v10.2.2.2.2.1)]) (j := 0) (i := x3) (enc := P4) F Aa Aa (AG h_v4) h11 Sb EU (by rw [h13]; rfl)).q fun a F => ?_
   obtain ⟨x6, h14, H⟩ := An H
   refine qs F Aa (A1 (v := Value.bool x6) F H9 Aa (fun w W => ih any w ((v9.2.1.2.2.2.1)) ((v9.2.2.2.2.1)) ((v10.2.1.2.2.2.1)) ((v10.2.2.2.2.1)) (Tr37.of (x4.un.1, Tr34.of (x4.un.2.1.un.1, x4.un.2.1.un.2.1, x4.un.2.1.un.2.2.1, x4.un.2.1.un.2.2.2), x4.un.2.2.1, x4.un.2.2.2.1, x4.un.2.2.2.2)) (Tr37.of (x5.un.1, Tr34.of (x5.un.2.1.un.1, x5.un.2.1.un.2.1, x5.un.2.1.un.2.2.1, x5.un.2.1.un.2.2.2), x5.un.2.2.1, x5.un.2.2.2.1, x5.un.2.2.2.2)) _ h14 (((E8 (AG h_v2) h7 (Bp.snd (Bp.fst (Bp.snd (Bp.snd (Bp.snd Bp.here))))) (congrArg (fun q : Tr37 => q.un.2.1.un.2.2.2) h8)) : EN _ _ _ _ _ _) w W).nx (((E8 (AG h_v2) h7 (Bp.snd (Bp.snd (Bp.snd (Bp.snd Bp.here)))) (congrArg (fun q : Tr37 => q.un.2.2.2.2) h8)) : EN _ _ _ _ _ _) w W).nx (((E8 (AG h_v4) h11 (Bp.snd (Bp.fst (Bp.snd (Bp.snd (Bp.snd Bp.here))))) (congrArg (fun q : Tr37 => q.un.2.1.un.2.2.2) h12)) : EN _ _ _ _ _ _) w W).nx (((E8 (AG h_v4) h11 (Bp.snd (Bp.snd (Bp.snd (Bp.snd Bp.here)))) (congrArg (fun q : Tr37 => q.un.2.2.2.2) h12)) : EN _ _ _ _ _ _) w W).nx)) fun a F => ?_
   refine qs F Aa (FH F Aa).q fun a F => ?_
   refine Ek fun w W => ?_
   refine Ad ?_
   refine Aw F Aa (fun hb => ?_) fun hb => ?_
   ·
    have H := AQ hb H
    rw [hb] at F
    clear hb
    refine Ai (Ab ?_)
    refine ls F W Aa (Ag F Aa).q fun a w F W => ?_
    refine Ae (Ad (Aq (A5 ?_)))
    iterate 2 refine AD ?_
    refine A5 (AD ?_)
    have H := L3 _ H
    have H := L2 _ H
    have H := AH H
    subst H
    refine AP (.inl Aa) F W Aa (Ap F Aa) ?_
    exact ⟨rfl, W.done⟩
   have H := AR (by rw [hb]; decide) H
   rw [hb] at F
   clear hb
   refine Ax (Bw (Ad (Ab ?_)))
   refine ls F W Aa (Ah F Aa).q fun a w F W => ?_
   refine ls F W Aa (BT F Aa Aa Aa).q fun a w F W => ?_
   refine ls F W Aa (Ag F Aa).q fun a w F W => ?_
   refine Ae (Ad ?_)
   have W := W.frontM (i := 1) Aa Aa
   have W := W.frontM (i := 1) Aa Aa
   exact ⟨_, H, F.re ⟨rfl, Aa, Aa, Aa, trivial⟩, W⟩
  have H := AR (Bz hb) H
  rw [hb] at F
  clear hb
  refine Cl ?_
  iterate 2 refine CO ?_
  refine Ck (Ad ?_)
  have W := W.frontM (i := 1) Aa Aa
  have W := W.frontM (i := 1) Aa Aa
  have H := L3 _ H
  exact ⟨H, F.re ⟨rfl, trivial⟩, W⟩
 rintro a w ⟨hj, F, W⟩
 have H := K2 _ hj
 clear hj G2 K2 L2
 refine Ai (Ab ?_)
 refine ls F W Aa (Ag F Aa).q fun a w F W => ?_
 refine Ae (Ad (Aq ?_))
 have H := AH H
 subst H
 refine AP (.inl Aa) F W Aa (Ap F Aa) ?_
 exact ⟨rfl, W.done⟩
theorem Nz : ∀ (n : Nat) (Y : Nat → Prop) (w0 : World) (v1 : Value) (v2 : Value) (v3 : Value) (v4 : Value) (p0 : Tr37) (p1 : Tr37) (r : Bool) (H : Du n p0 p1 = some r) (h_v1 : Sl w0 (NX []) A9 v1 p0.un.2.1.un.2.2.2) (h_v2 : Sl w0 (NX []) B3 v2 p0.un.2.2.2.2) (h_v3 : Sl w0 (NX []) A9 v3 p1.un.2.1.un.2.2.2) (h_v4 : Sl w0 (NX []) B3 v4 p1.un.2.2.2.2), Calls Tryd.prog 9 #[.agg #[.int .i64 p0.un.1, .int .i64 p0.un.2.1.un.1, .int .i64 p0.un.2.1.un.2.1, .int .i64 p0.un.2.1.un.2.2.1, v1, .int .i64 p0.un.2.2.1, .int .i64 p0.un.2.2.2.1, v2], .agg #[.int .i64 p1.un.1, .int .i64 p1.un.2.1.un.1, .int .i64 p1.un.2.1.un.2.1, .int .i64 p1.un.2.1.un.2.2.1, v3, .int .i64 p1.un.2.2.1, .int .i64 p1.un.2.2.2.1, v4]] w0 fun e w' => e = .returned (.bool r) ∧ Below w0.heap.size w0 w' := by
  intro n
  induction n with
  | zero => intro Y w0 v1 v2 v3 v4 p0 p1 r H; exact nomatch H
  | succ n ih => intro Y w0 v1 v2 v3 v4 p0 p1 r H h_v1 h_v2 h_v3 h_v4; exact MB (Du n) ih Y w0 v1 v2 v3 v4 p0 p1 r H h_v1 h_v2 h_v3 h_v4
theorem Ok (Y : Nat → Prop) (w0 : World) (v1 : Value) (v2 : Value) (v3 : Value) (v4 : Value) (p0 : Tr37) (p1 : Tr37) (r : Bool) (H : LC p0 p1 = some r) (h_v1 : Sl w0 (NX []) A9 v1 p0.un.2.1.un.2.2.2) (h_v2 : Sl w0 (NX []) B3 v2 p0.un.2.2.2.2) (h_v3 : Sl w0 (NX []) A9 v3 p1.un.2.1.un.2.2.2) (h_v4 : Sl w0 (NX []) B3 v4 p1.un.2.2.2.2) :
    Calls Tryd.prog 9 #[.agg #[.int .i64 p0.un.1, .int .i64 p0.un.2.1.un.1, .int .i64 p0.un.2.1.un.2.1, .int .i64 p0.un.2.1.un.2.2.1, v1, .int .i64 p0.un.2.2.1, .int .i64 p0.un.2.2.2.1, v2], .agg #[.int .i64 p1.un.1, .int .i64 p1.un.2.1.un.1, .int .i64 p1.un.2.1.un.2.1, .int .i64 p1.un.2.1.un.2.2.1, v3, .int .i64 p1.un.2.2.1, .int .i64 p1.un.2.2.2.1, v4]] w0 fun e w' => e = .returned (.bool r) ∧ Below w0.heap.size w0 w' := by
  obtain ⟨n, H⟩ := Ch H
  exact Nz n Y w0 v1 v2 v3 v4 p0 p1 r H h_v1 h_v2 h_v3 h_v4
def He (p0 : Tr25) (p1 : Int) (p2 : Int) : Unit := ()
theorem I1 (Y : Nat → Prop) (X : List Nat) (w0 : World) (q_p0 : Nat) (v1 : Value) (q_p1 : Nat) (q_p2 : Nat) (p0 : Tr25) (p1 : Int) (p2 : Int) (r : Unit) (H : He p0 p1 p2 = r) (hL : Stw ⟨Y, X, w0⟩ [(q_p0, [.int .i64 p0.un.1, .int .i64 p0.un.2.1, .int .i64 p0.un.2.2.1, v1]), (q_p1, [.int .i64 p1]), (q_p2, [.int .i64 p2])] [Av v1 AY p0.un.2.2.2] w0) :
    CallsD Tryd.prog 32 #[.pointer (some ⟨q_p0, 0, none⟩), .pointer (some ⟨q_p1, 0, none⟩), .pointer (some ⟨q_p2, 0, none⟩)] .returning w0 fun e u' w' => u' = .returning ∧ (∃ x : Unit, e = .returned (.tuple #[]) ∧ Stw ⟨Y, X, w0⟩ [(q_p0, [.int .i64 p0.un.1, .int .i64 p0.un.2.1, .int .i64 p0.un.2.2.1, v1]), (q_p1, [.int .i64 p1]), (q_p2, [.int .i64 p2])] [Av v1 AY p0.un.2.2.2] w') := by
 refine I3 Tryd.func32 Aa Tryd.ntmps32 Aa Aa Aa fun a F => ?_
 have W := hL
 unfold He at H
 refine Ai (Ab ?_)
 refine ls F W Aa (Ah F Aa).q fun a w F W => ?_
 refine ls F W Aa (JF Q7 F Aa).q fun a w F W => ?_
 refine Ae (Ad ?_)
 refine K4 F Aa ?_
 refine Ax ?_
 subst H
 refine Mi (.inr Aa) F Aa ?_
 have W := W.frontM (i := 2) Aa Aa
 have W := W.frontM (i := 2) Aa Aa
 have W := W.frontM (i := 2) Aa Aa
 exact ⟨(), Aa, W⟩
theorem SB : Has Tryd.prog 32 := ⟨fun args w => Al Tryd.func32 rfl (by decide) args w⟩
def Am (p0 : Tr25) (p1 : Int) (p2 : Int) (pc : Int × Int) : Tr25 × Int × Int := (Tr25.of (0, 0, 0, ([] : List Tr25)), (A8 pc).1, (A8 pc).2)
theorem EI (Y : Nat → Prop) (X : List Nat) (w0 : World) (q_p0 : Nat) (v1 : Value) (q_p1 : Nat) (q_p2 : Nat) (p0 : Tr25) (p1 : Int) (p2 : Int) (pc : Int × Int) (r : Tr25 × Int × Int) (H : Am p0 p1 p2 pc = r) (hL : Stw ⟨Y, X, w0⟩ [(q_p0, [.int .i64 p0.un.1, .int .i64 p0.un.2.1, .int .i64 p0.un.2.2.1, v1]), (q_p1, [.int .i64 p1]), (q_p2, [.int .i64 p2])] [Av v1 AY p0.un.2.2.2] w0) :
    CallsD Tryd.prog 32 #[.pointer (some ⟨q_p0, 0, none⟩), .pointer (some ⟨q_p1, 0, none⟩), .pointer (some ⟨q_p2, 0, none⟩)] (.panicking ({ v := .iface 89 (.agg #[.int .i64 pc.1, .int .i64 pc.2]), recovered := false } :: [])) w0 fun e u' w' => u' = .panicking ({ v := .iface 89 (.agg #[.int .i64 pc.1, .int .i64 pc.2]), recovered := true } :: []) ∧ (∃ x : Value, e = .returned (.tuple #[]) ∧ Stw ⟨Y, X, w0⟩ [(q_p0, [.int .i64 r.1.un.1, .int .i64 r.1.un.2.1, .int .i64 r.1.un.2.2.1, x]), (q_p1, [.int .i64 r.2.1]), (q_p2, [.int .i64 r.2.2])] [Av (x) AY r.1.un.2.2.2] w') := by
 refine I5 Tryd.func32 Aa Tryd.ntmps32 Aa Aa Aa fun a F => ?_
 have W := hL
 unfold Am at H
 refine Ai (Ab ?_)
 refine ls F W Aa (Ah F Aa).q fun a w F W => ?_
 refine ls F W Aa (Ji Q7 F Aa).q fun a w F W => ?_
 refine Ae (Ad ?_)
 refine NF F Aa ?_
 refine Ai (Ab ?_)
 refine ls F W Aa (Ba (v := Value.agg #[.int .i64 0, .int .i64 0, .int .i64 0, .slice none 0 0]) Q5 F Aa Aa Aa).q fun a w F W => ?_
 refine Au (vs := (B2)) (M' := [(q_p0, (B2)), (q_p1, [.int .i64 p1]), (q_p2, [.int .i64 p2])]) 0 F W Aa Aa Aa FV Aa Aa Aa Aa Aa fun w W => ?_
 refine Ae (Ad (Ab ?_))
 refine ls F W Aa (Ah F Aa).q fun a w F W => ?_
 refine ls F W Aa (A1 (v := Value.tuple #[.int .i64 ((A8 pc).1), .int .i64 ((A8 pc).2)]) F Tg Aa (fun w W => I9 any w pc _ Aa)) fun a w F W => ?_
 refine ls F W Aa (Ah F Aa).q fun a w F W => ?_
 refine ls F W Aa (As (v := Value.int .i64 ((A8 pc).1)) F Aa Aa).q fun a w F W => ?_
 refine ls F W Aa (As (v := Value.int .i64 ((A8 pc).2)) F Aa Aa).q fun a w F W => ?_
 refine Au (vs := [.int .i64 ((A8 pc).1)]) (M' := [(q_p0, (B2)), (q_p1, [.int .i64 ((A8 pc).1)]), (q_p2, [.int .i64 p2])]) 1 F W Aa Aa Aa T3 Aa Aa Aa Aa Aa fun w W => ?_
 refine Au (vs := [.int .i64 ((A8 pc).2)]) (M' := [(q_p0, (B2)), (q_p1, [.int .i64 ((A8 pc).1)]), (q_p2, [.int .i64 ((A8 pc).2)])]) 2 F W Aa Aa Aa OY Aa Aa Aa Aa Aa fun w W => ?_
 refine Ae ?_
 subst H
 refine Mi (.inr Aa) F Aa ?_
 have W := W.note (Sl.nil (r := AY))
 have W := W.frontM (i := 2) Aa Aa
 have W := W.frontM (i := 2) Aa Aa
 have W := W.frontM (i := 2) Aa Aa
 have W := W.sub (M' := [(q_p0, (B2)), (q_p1, [.int .i64 ((A8 pc).1)]), (q_p2, [.int .i64 ((A8 pc).2)])]) (Z' := [Av (Value.slice none 0 0) AY ([])]) (List.Sublist.refl _) (List.Sublist.cons_cons _ (List.nil_sublist _))
 exact ⟨(Value.slice none 0 0), Aa, W⟩
abbrev Lh (a0 : Nat) (a1 : Nat) (a2 : Nat) : List (Nat × List Value) := [(a0, [.int .i64 0]), (a1, [.int .i64 0]), (a2, [.int .i64 0, .int .i64 0, .int .i64 0, .slice none 0 0])]
abbrev Iz (a0 : Nat) (a1 : Value) (a2 : Tr25 × ((List (Int × Int × List UInt8 × Int)) × Int)) (a3 : Nat) (a4 : Nat) (a5 : Nat) (a6 : Value) : List (Nat × List Value) := [(a0, [a1, .int .i64 a2.2.2]), (a3, [.int .i64 0]), (a4, [.int .i64 0]), (a5, [.int .i64 a2.1.un.1, .int .i64 a2.1.un.2.1, .int .i64 a2.1.un.2.2.1, a6])]
noncomputable def GC (p0 : List UInt8) : Option (Tr25 × Int × Int) := (ED p0).bind fun x1 => BZ x1 (fun x2 => (BR x2).bind fun x4 => BZ x4 (fun x5 => (BD x5.2).bind fun x7 => BZ x7 (fun x8 => some (x5.1, 0, 0)) (fun x9 => some (Tr25.of ((Am x5.1 0 0 x9).1.un.1, (Am x5.1 0 0 x9).1.un.2.1, (Am x5.1 0 0 x9).1.un.2.2.1, (Am x5.1 0 0 x9).1.un.2.2.2), (Am x5.1 0 0 x9).2.1, (Am x5.1 0 0 x9).2.2))) (fun x6 => some (Tr25.of ((Am (Tr25.of (0, 0, 0, ([] : List Tr25))) 0 0 x6.1).1.un.1, (Am (Tr25.of (0, 0, 0, ([] : List Tr25))) 0 0 x6.1).1.un.2.1, (Am (Tr25.of (0, 0, 0, ([] : List Tr25))) 0 0 x6.1).1.un.2.2.1, (Am (Tr25.of (0, 0, 0, ([] : List Tr25))) 0 0 x6.1).1.un.2.2.2), (Am (Tr25.of (0, 0, 0, ([] : List Tr25))) 0 0 x6.1).2.1, (Am (Tr25.of (0, 0, 0, ([] : List Tr25))) 0 0 x6.1).2.2))) (fun x3 => some (Tr25.of ((Am (Tr25.of (0, 0, 0, ([] : List Tr25))) 0 0 x3).1.un.1, (Am (Tr25.of (0, 0, 0, ([] : List Tr25))) 0 0 x3).1.un.2.1, (Am (Tr25.of (0, 0, 0, ([] : List Tr25))) 0 0 x3).1.un.2.2.1, (Am (Tr25.of (0, 0, 0, ([] : List Tr25))) 0 0 x3).1.un.2.2.2), (Am (Tr25.of (0, 0, 0, ([] : List Tr25))) 0 0 x3).2.1, (Am (Tr25.of (0, 0, 0, ([] : List Tr25))) 0 0 x3).2.2))
theorem My (Y : Nat → Prop) (w0 : World)  (p0 : List UInt8) (r : Tr25 × Int × Int) (H : GC p0 = some r)  :
    Calls Tryd.prog 11 #[.string (bs p0)] w0 fun e w' => ∃ x : Value, e = .returned (.tuple #[.agg #[.int .i64 r.1.un.1, .int .i64 r.1.un.2.1, .int .i64 r.1.un.2.2.1, x], .int .i64 r.2.1, .int .i64 r.2.2]) ∧ Stw ⟨Y, [], w0⟩ [] [Av (x) AY r.1.un.2.2.2] w' := by
 refine P7 Tryd.func11 Aa Tryd.ntmps11 Aa fun a F => ?_
 have W := Stw.start Y w0
 unfold GC at H
 refine Ai (Ab ?_)
 refine AU (cs := (B2)) F W Aa NG Aa fun b1 a w F W => ?_
 refine AU (cs := [.int .i64 0]) F W Aa Z3 Aa fun b2 a w F W => ?_
 refine AU (cs := [.int .i64 0]) F W Aa Tj Aa fun b3 a w F W => ?_
 refine Ae (Ad (Ai (Ab ?_)))
 refine ls F W Aa (FM (us := []) (vs := (OO b1 b2 b3)) F Aa Aa).q fun a w F W => ?_
 refine OU (vs := (OO b1 b2 b3)) F Aa fun a F => ?_
 refine Ae (Ad (Ai (Ab ?_)))
 refine ls F W Aa (Ah F Aa).q fun a w F W => ?_
 obtain ⟨x1, h1, H⟩ := An H
 rcases x1 with x2 | x3
 ·
  have H := Ez H
  refine AO (Ml := []) (Zl := []) (M := (Lh b3 b2 b1)) (Z := []) (β := Nat × Value) (rv := fun x => .pointer (some ⟨x.1, 0, none⟩)) (MM := fun x => [(x.1, [x.2, .int .i64 x2.2])]) (ZZ := fun x => [row x.2 98 Az x2.1]) F W Sm Aa Aa (fun hL => Gr _ w p0 _ h1) fun x a w F W => ?_
  obtain ⟨b4, v1⟩ := x
  have W : Stw ⟨Y, [], w0⟩ [(b4, [v1, .int .i64 x2.2]), (b3, [.int .i64 0]), (b2, [.int .i64 0]), (b1, [.int .i64 0, .int .i64 0, .int .i64 0, .slice none 0 0])] [row v1 98 Az x2.1] w := W
  refine ls F W Aa (Ag F Aa).q fun a w F W => ?_
  refine Ae (Ad (Ai (Ab ?_)))
  refine ls F W Aa (Ah F Aa).q fun a w F W => ?_
  obtain ⟨x4, h2, H⟩ := An H
  rcases x4 with x5 | x6
  ·
   have H := Ez H
   refine AO (Ml := [(b4, [v1, .int .i64 x2.2])]) (Zl := [row v1 98 Az x2.1]) (M := (Lh b3 b2 b1)) (Z := []) (β := Value × Value) (rv := fun x => .agg #[.int .i64 x5.1.un.1, .int .i64 x5.1.un.2.1, .int .i64 x5.1.un.2.2.1, x.1]) (MM := fun x => [(b4, [x.2, .int .i64 x5.2.2])]) (ZZ := fun x => [row x.2 98 Az x5.2.1, Av x.1 AY x5.1.un.2.2.2]) F W Rk Aa Aa (fun hL => B9 _ _ w b4 (v1) x2 _ h2 hL) fun x a w F W => ?_
   obtain ⟨v2, v3⟩ := x
   have W : Stw ⟨Y, [], w0⟩ [(b4, [v3, .int .i64 x5.2.2]), (b3, [.int .i64 0]), (b2, [.int .i64 0]), (b1, [.int .i64 0, .int .i64 0, .int .i64 0, .slice none 0 0])] [row v3 98 Az x5.2.1, Av v2 AY x5.1.un.2.2.2] w := W
   refine Au (vs := (Fi x5 v2)) (M' := (Iz b4 v3 x5 b3 b2 b1 v2)) 3 F W Aa Aa Aa FV Aa Aa Aa (Ac Aa (Ac Aa (Ac Aa (Ac (W.oneF (k := 1) Aa) AM)))) Aa fun w W => ?_
   refine Ae (Ad (Ai (Ab ?_)))
   refine ls F W Aa (Ah F Aa).q fun a w F W => ?_
   obtain ⟨x7, h3, H⟩ := An H
   rcases x7 with x8 | x9
   ·
    have H := Ez H
    refine AO (Ml := []) (Zl := []) (M := (Iz b4 v3 x5 b3 b2 b1 v2)) (Z := [row v3 98 Az x5.2.1, Av v2 AY x5.1.un.2.2.2]) (β := Unit) (rv := fun x => .tuple #[]) (MM := fun x => []) (ZZ := fun x => []) F W Sy Aa Aa (fun hL => D1 _ w b4 (v3) x5.2 _ h3 ((Bq 0 Aa) w W).nx (LW W 0 Aa)) fun x a w F W => ?_
    have W : Stw ⟨Y, [], w0⟩ (Iz b4 v3 x5 b3 b2 b1 v2) [row v3 98 Az x5.2.1, Av v2 AY x5.1.un.2.2.2] w := W
    refine Ae (Ad (Ai (Ab ?_)))
    refine ls F W Aa (AJ (v := Value.agg #[.int .i64 x5.1.un.1, .int .i64 x5.1.un.2.1, .int .i64 x5.1.un.2.2.1, v2]) 3 F Aa Aa FV Aa).q fun a w F W => ?_
    refine Au (vs := (Fi x5 v2)) (M' := (Iz b4 v3 x5 b3 b2 b1 v2)) 3 F W Aa Aa Aa FV Aa Aa Aa (Ac Aa (Ac Aa (Ac Aa (Ac (W.oneF (k := 1) Aa) AM)))) Aa fun w W => ?_
    refine Au (vs := [.int .i64 0]) (M' := (Iz b4 v3 x5 b3 b2 b1 v2)) 2 F W Aa Aa Aa T3 Aa Aa Aa Aa Aa fun w W => ?_
    refine Au (vs := [.int .i64 0]) (M' := (Iz b4 v3 x5 b3 b2 b1 v2)) 1 F W Aa Aa Aa OY Aa Aa Aa Aa Aa fun w W => ?_
    refine Ae (Ad (Aq ?_))
    refine Mj (.inl Aa) F ?_
    have W := W.frontZ (i := 1) Aa Aa
    have W := W.frontM (i := 1) Aa Aa
    have W := W.frontM (i := 2) Aa Aa
    have W := W.frontM (i := 3) Aa Aa
    refine Hd (Ml := [(b1, [.int .i64 x5.1.un.1, .int .i64 x5.1.un.2.1, .int .i64 x5.1.un.2.2.1, v2]), (b2, [.int .i64 0]), (b3, [.int .i64 0])]) (Zl := [Av v2 AY x5.1.un.2.2.2]) (M := [(b4, [v3, .int .i64 x5.2.2])]) (Z := [row v3 98 Az x5.2.1]) (β := Unit) (u' := .returning) (MM := fun x => [(b1, [.int .i64 x5.1.un.1, .int .i64 x5.1.un.2.1, .int .i64 x5.1.un.2.2.1, (v2)]), (b2, [.int .i64 0]), (b3, [.int .i64 0])]) (ZZ := fun x => [Av (v2) AY x5.1.un.2.2.2]) W SB (by simp) (fun hL => I1 _ _ w b1 (v2) b2 b3 x5.1 0 0 _ Aa hL) fun _ w W => ?_
    have W : Stw ⟨Y, [], w0⟩ [(b1, [.int .i64 x5.1.un.1, .int .i64 x5.1.un.2.1, .int .i64 x5.1.un.2.2.1, (v2)]), (b2, [.int .i64 0]), (b3, [.int .i64 0]), (b4, [v3, .int .i64 x5.2.2])] [Av (v2) AY x5.1.un.2.2.2, row v3 98 Az x5.2.1] w := W
    have H := AH H
    subst H
    refine G9 W Aa (AB 0 F Aa Aa FV Aa) (AB 1 F Aa Aa T3 Aa) (AB 2 F Aa Aa OY Aa) ?_
    have W := W.sub (M' := []) (Z' := [Av (v2) AY x5.1.un.2.2.2]) (List.nil_sublist _) (List.Sublist.cons_cons _ (List.nil_sublist _))
    exact ⟨((v2)), Aa, W⟩
   have H := Ey H
   refine B0 (Ml := []) (Zl := []) (M := (Iz b4 v3 x5 b3 b2 b1 v2)) (Z := [row v3 98 Az x5.2.1, Av v2 AY x5.1.un.2.2.2]) (β := Unit) (pv := fun x => .iface 89 (.agg #[.int .i64 x9.1, .int .i64 x9.2])) (MM := fun x => []) (ZZ := fun x => []) F W Sy Aa (fun hL => D1 _ w b4 (v3) x5.2 _ h3 ((Bq 0 Aa) w W).nx (LW W 0 Aa)) fun x w W => ?_
   have W : Stw ⟨Y, [], w0⟩ (Iz b4 v3 x5 b3 b2 b1 v2) [row v3 98 Az x5.2.1, Av v2 AY x5.1.un.2.2.2] w := W
   refine BF ?_
   refine Fb F ?_
   have W := W.frontZ (i := 1) Aa Aa
   have W := W.frontM (i := 1) Aa Aa
   have W := W.frontM (i := 2) Aa Aa
   have W := W.frontM (i := 3) Aa Aa
   refine Hd (Ml := [(b1, [.int .i64 x5.1.un.1, .int .i64 x5.1.un.2.1, .int .i64 x5.1.un.2.2.1, v2]), (b2, [.int .i64 0]), (b3, [.int .i64 0])]) (Zl := [Av v2 AY x5.1.un.2.2.2]) (M := [(b4, [v3, .int .i64 x5.2.2])]) (Z := [row v3 98 Az x5.2.1]) (β := Value) (u' := (.panicking ({ v := .iface 89 (.agg #[.int .i64 x9.1, .int .i64 x9.2]), recovered := true } :: []))) (MM := fun x => [(b1, [.int .i64 ((Am x5.1 0 0 x9).1.un.1), .int .i64 ((Am x5.1 0 0 x9).1.un.2.1), .int .i64 ((Am x5.1 0 0 x9).1.un.2.2.1), x]), (b2, [.int .i64 ((Am x5.1 0 0 x9).2.1)]), (b3, [.int .i64 ((Am x5.1 0 0 x9).2.2)])]) (ZZ := fun x => [Av x AY ((Am x5.1 0 0 x9).1.un.2.2.2)]) W SB (by simp) (fun hL => EI _ _ w b1 (v2) b2 b3 x5.1 0 0 x9 _ Aa hL) fun x w W => ?_
   obtain ⟨v4, rfl⟩ : ∃ y, y = x := ⟨x, rfl⟩
   have W : Stw ⟨Y, [], w0⟩ [(b1, [.int .i64 ((Am x5.1 0 0 x9).1.un.1), .int .i64 ((Am x5.1 0 0 x9).1.un.2.1), .int .i64 ((Am x5.1 0 0 x9).1.un.2.2.1), v4]), (b2, [.int .i64 ((Am x5.1 0 0 x9).2.1)]), (b3, [.int .i64 ((Am x5.1 0 0 x9).2.2)]), (b4, [v3, .int .i64 x5.2.2])] [Av v4 AY ((Am x5.1 0 0 x9).1.un.2.2.2), row v3 98 Az x5.2.1] w := W
   have H := AH H
   subst H
   refine G9 W Aa (AB 0 F Aa Aa FV Aa) (AB 1 F Aa Aa T3 Aa) (AB 2 F Aa Aa OY Aa) ?_
   have W := W.sub (M' := []) (Z' := [Av v4 AY ((Am x5.1 0 0 x9).1.un.2.2.2)]) (List.nil_sublist _) (List.Sublist.cons_cons _ (List.nil_sublist _))
   exact ⟨(v4), Aa, W⟩
  have H := Ey H
  refine B0 (Ml := [(b4, [v1, .int .i64 x2.2])]) (Zl := [row v1 98 Az x2.1]) (M := (Lh b3 b2 b1)) (Z := []) (β := Value) (pv := fun x => .iface 89 (.agg #[.int .i64 x6.1.1, .int .i64 x6.1.2])) (MM := fun x => [(b4, [x, .int .i64 x6.2.2])]) (ZZ := fun x => [row x 98 Az x6.2.1]) F W Rk Aa (fun hL => B9 _ _ w b4 (v1) x2 _ h2 hL) fun x w W => ?_
  obtain ⟨v5, rfl⟩ : ∃ y, y = x := ⟨x, rfl⟩
  have W : Stw ⟨Y, [], w0⟩ [(b4, [v5, .int .i64 x6.2.2]), (b3, [.int .i64 0]), (b2, [.int .i64 0]), (b1, [.int .i64 0, .int .i64 0, .int .i64 0, .slice none 0 0])] [row v5 98 Az x6.2.1] w := W
  refine BF ?_
  refine Fb F ?_
  have W := W.note (Sl.nil (r := AY))
  have W := W.frontM (i := 1) Aa Aa
  have W := W.frontM (i := 2) Aa Aa
  have W := W.frontM (i := 3) Aa Aa
  refine Hd (Ml := [(b1, [.int .i64 0, .int .i64 0, .int .i64 0, .slice none 0 0]), (b2, [.int .i64 0]), (b3, [.int .i64 0])]) (Zl := [Av (Value.slice none 0 0) AY ([])]) (M := [(b4, [v5, .int .i64 x6.2.2])]) (Z := [row v5 98 Az x6.2.1]) (β := Value) (u' := (.panicking ({ v := .iface 89 (.agg #[.int .i64 x6.1.1, .int .i64 x6.1.2]), recovered := true } :: []))) (MM := fun x => [(b1, [.int .i64 ((Am (Tr25.of (0, 0, 0, ([] : List Tr25))) 0 0 x6.1).1.un.1), .int .i64 ((Am (Tr25.of (0, 0, 0, ([] : List Tr25))) 0 0 x6.1).1.un.2.1), .int .i64 ((Am (Tr25.of (0, 0, 0, ([] : List Tr25))) 0 0 x6.1).1.un.2.2.1), x]), (b2, [.int .i64 ((Am (Tr25.of (0, 0, 0, ([] : List Tr25))) 0 0 x6.1).2.1)]), (b3, [.int .i64 ((Am (Tr25.of (0, 0, 0, ([] : List Tr25))) 0 0 x6.1).2.2)])]) (ZZ := fun x => [Av x AY ((Am (Tr25.of (0, 0, 0, ([] : List Tr25))) 0 0 x6.1).1.un.2.2.2)]) W SB (by simp) (fun hL => EI _ _ w b1 (Value.slice none 0 0) b2 b3 (Tr25.of (0, 0, 0, ([] : List Tr25))) 0 0 x6.1 _ Aa hL) fun x w W => ?_
  obtain ⟨v6, rfl⟩ : ∃ y, y = x := ⟨x, rfl⟩
  have W : Stw ⟨Y, [], w0⟩ [(b1, [.int .i64 ((Am (Tr25.of (0, 0, 0, ([] : List Tr25))) 0 0 x6.1).1.un.1), .int .i64 ((Am (Tr25.of (0, 0, 0, ([] : List Tr25))) 0 0 x6.1).1.un.2.1), .int .i64 ((Am (Tr25.of (0, 0, 0, ([] : List Tr25))) 0 0 x6.1).1.un.2.2.1), v6]), (b2, [.int .i64 ((Am (Tr25.of (0, 0, 0, ([] : List Tr25))) 0 0 x6.1).2.1)]), (b3, [.int .i64 ((Am (Tr25.of (0, 0, 0, ([] : List Tr25))) 0 0 x6.1).2.2)]), (b4, [v5, .int .i64 x6.2.2])] [Av v6 AY ((Am (Tr25.of (0, 0, 0, ([] : List Tr25))) 0 0 x6.1).1.un.2.2.2), row v5 98 Az x6.2.1] w := W
  have H := AH H
  subst H
  refine G9 W Aa (AB 0 F Aa Aa FV Aa) (AB 1 F Aa Aa T3 Aa) (AB 2 F Aa Aa OY Aa) ?_
  have W := W.sub (M' := []) (Z' := [Av v6 AY ((Am (Tr25.of (0, 0, 0, ([] : List Tr25))) 0 0 x6.1).1.un.2.2.2)]) (List.nil_sublist _) (List.Sublist.cons_cons _ (List.nil_sublist _))
  exact ⟨(v6), Aa, W⟩
 have H := Ey H
 refine B0 (Ml := []) (Zl := []) (M := (Lh b3 b2 b1)) (Z := []) (β := Unit) (pv := fun x => .iface 89 (.agg #[.int .i64 x3.1, .int .i64 x3.2])) (MM := fun x => []) (ZZ := fun x => []) F W Sm Aa (fun hL => Gr _ w p0 _ h1) fun x w W => ?_
 have W : Stw ⟨Y, [], w0⟩ (Lh b3 b2 b1) [] w := W
 refine BF ?_
 refine Fb F ?_
 have W := W.note (Sl.nil (r := AY))
 have W := W.frontM (i := 1) Aa Aa
 have W := W.frontM (i := 2) Aa Aa
 refine Hd (Ml := [(b1, [.int .i64 0, .int .i64 0, .int .i64 0, .slice none 0 0]), (b2, [.int .i64 0]), (b3, [.int .i64 0])]) (Zl := [Av (Value.slice none 0 0) AY ([])]) (M := []) (Z := []) (β := Value) (u' := (.panicking ({ v := .iface 89 (.agg #[.int .i64 x3.1, .int .i64 x3.2]), recovered := true } :: []))) (MM := fun x => [(b1, [.int .i64 ((Am (Tr25.of (0, 0, 0, ([] : List Tr25))) 0 0 x3).1.un.1), .int .i64 ((Am (Tr25.of (0, 0, 0, ([] : List Tr25))) 0 0 x3).1.un.2.1), .int .i64 ((Am (Tr25.of (0, 0, 0, ([] : List Tr25))) 0 0 x3).1.un.2.2.1), x]), (b2, [.int .i64 ((Am (Tr25.of (0, 0, 0, ([] : List Tr25))) 0 0 x3).2.1)]), (b3, [.int .i64 ((Am (Tr25.of (0, 0, 0, ([] : List Tr25))) 0 0 x3).2.2)])]) (ZZ := fun x => [Av x AY ((Am (Tr25.of (0, 0, 0, ([] : List Tr25))) 0 0 x3).1.un.2.2.2)]) W SB (by simp) (fun hL => EI _ _ w b1 (Value.slice none 0 0) b2 b3 (Tr25.of (0, 0, 0, ([] : List Tr25))) 0 0 x3 _ Aa hL) fun x w W => ?_
 obtain ⟨v7, rfl⟩ : ∃ y, y = x := ⟨x, rfl⟩
 have W : Stw ⟨Y, [], w0⟩ [(b1, [.int .i64 ((Am (Tr25.of (0, 0, 0, ([] : List Tr25))) 0 0 x3).1.un.1), .int .i64 ((Am (Tr25.of (0, 0, 0, ([] : List Tr25))) 0 0 x3).1.un.2.1), .int .i64 ((Am (Tr25.of (0, 0, 0, ([] : List Tr25))) 0 0 x3).1.un.2.2.1), v7]), (b2, [.int .i64 ((Am (Tr25.of (0, 0, 0, ([] : List Tr25))) 0 0 x3).2.1)]), (b3, [.int .i64 ((Am (Tr25.of (0, 0, 0, ([] : List Tr25))) 0 0 x3).2.2)])] [Av v7 AY ((Am (Tr25.of (0, 0, 0, ([] : List Tr25))) 0 0 x3).1.un.2.2.2)] w := W
 have H := AH H
 subst H
 refine G9 W Aa (AB 0 F Aa Aa FV Aa) (AB 1 F Aa Aa T3 Aa) (AB 2 F Aa Aa OY Aa) ?_
 have W := W.sub (M' := []) (Z' := [Av v7 AY ((Am (Tr25.of (0, 0, 0, ([] : List Tr25))) 0 0 x3).1.un.2.2.2)]) (List.nil_sublist _) (List.Sublist.refl _)
 exact ⟨(v7), Aa, W⟩
theorem TG : Has Tryd.prog 11 := ⟨fun args w => Al Tryd.func11 rfl (by decide) args w⟩
noncomputable def IA (p0 : List UInt8) : Option (Tr34 × Int × Int) := (IL p0).bind fun x1 => (if x1.2.2 ≠ 0 then some (Tr34.of (0, 0, 0, ([] : List Tr34)), x1.2.1, x1.2.2) else (GO x1.1 0).bind fun x2 => (if (!x2.2.2) = true then some true else (ix x1.1 x2.2.1).bind fun x4 => some (decide (x4.1 ≠ 4))).bind fun x3 => (if x3 = true then (ix x1.1 x2.2.1).bind fun x5 => some (Tr34.of (0, 0, 0, ([] : List Tr34)), x5.2.2.2, 10) else some (x2.1, 0, 0)))
theorem Oa (Y : Nat → Prop) (w0 : World)  (p0 : List UInt8) (r : Tr34 × Int × Int) (H : IA p0 = some r)  :
    Calls Tryd.prog 12 #[.string (bs p0)] w0 fun e w' => ∃ x : Value, e = .returned (.tuple #[.agg #[.int .i64 r.1.un.1, .int .i64 r.1.un.2.1, .int .i64 r.1.un.2.2.1, x], .int .i64 r.2.1, .int .i64 r.2.2]) ∧ Stw ⟨Y, [], w0⟩ [] [Av (x) A9 r.1.un.2.2.2] w' := by
 refine enter Tryd.func12 Aa Tryd.ntmps12 Aa fun a F => ?_
 have W := Stw.start Y w0
 unfold IA at H
 refine Ai (Ab ?_)
 refine AU (cs := (B2)) F W Aa Ms Aa fun b1 a w F W => ?_
 iterate 2 refine ls F W Aa (Ag F Aa).q fun a w F W => ?_
 refine Ae (Ad (Ai (Ab ?_)))
 refine ls F W Aa (Ah F Aa).q fun a w F W => ?_
 obtain ⟨x1, h1, H⟩ := An H
 refine AO (Ml := []) (Zl := []) (M := (DM b1)) (Z := []) (β := Value) (rv := fun x => .tuple #[x, .int .i64 x1.2.1, .int .i64 x1.2.2]) (MM := fun x => []) (ZZ := fun x => [row x 71 DA x1.1]) F W Tb Aa Aa (fun hL => Mu _ w p0 _ h1) fun x a w F W => ?_
 obtain ⟨v1, rfl⟩ : ∃ y, y = x := ⟨x, rfl⟩
 have W : Stw ⟨Y, [], w0⟩ (DM b1) [row v1 71 DA x1.1] w := W
 refine ls F W Aa (Ah F Aa).q fun a w F W => ?_
 refine ls F W Aa (As (v := v1) F Aa Aa).q fun a w F W => ?_
 refine ls F W Aa (As (v := Value.int .i64 x1.2.1) F Aa Aa).q fun a w F W => ?_
 refine ls F W Aa (As (v := Value.int .i64 x1.2.2) F Aa Aa).q fun a w F W => ?_
 iterate 3 refine ls F W Aa (Ag F Aa).q fun a w F W => ?_
 refine Ae (Ad (Ai (Ai (Ab ?_))))
 refine ls F W Aa (Ah F Aa).q fun a w F W => ?_
 refine ls F W Aa (Ev F Aa Aa).q fun a w F W => ?_
 refine Ae (Ad ?_)
 refine Aw F Aa (fun hb => ?_) fun hb => ?_
 ·
  have H := AQ (BB hb) H
  rw [hb] at F
  clear hb
  refine Ai (Ab ?_)
  refine ls F W Aa (Ba (v := Value.agg #[.int .i64 0, .int .i64 0, .int .i64 0, .slice none 0 0]) PW F Aa Aa Aa).q fun a w F W => ?_
  iterate 2 refine ls F W Aa (Ah F Aa).q fun a w F W => ?_
  refine Au (vs := (B2)) (M' := (DM b1)) 0 F W Aa Aa Aa Fh Aa Aa Aa Aa Aa fun w W => ?_
  iterate 2 refine ls F W Aa (Ag F Aa).q fun a w F W => ?_
  refine Ae (Ad (Aq (AD ?_)))
  have H := AH H
  subst H
  refine CD (.inl Aa) F W Aa (AB 0 F Aa Aa Fh Aa) (Ap F Aa) (Ap F Aa) ?_
  have W := W.note (Sl.nil (r := A9))
  have W := W.sub (M' := []) (Z' := [Av (Value.slice none 0 0) A9 ([])]) (List.nil_sublist _) (List.Sublist.cons_cons _ (List.nil_sublist _))
  exact ⟨(Value.slice none 0 0), Aa, W⟩
 have H := AR (Bz hb) H
 rw [hb] at F
 clear hb
 refine Ax (Ad (Ai (Ab ?_)))
 refine ls F W Aa (Ah F Aa).q fun a w F W => ?_
 obtain ⟨x2, h2, H⟩ := An H
 refine AO (Ml := []) (Zl := []) (M := (DM b1)) (Z := [row v1 71 DA x1.1]) (β := Value) (rv := fun x => .tuple #[.agg #[.int .i64 x2.1.un.1, .int .i64 x2.1.un.2.1, .int .i64 x2.1.un.2.2.1, x], .int .i64 x2.2.1, .bool x2.2.2]) (MM := fun x => []) (ZZ := fun x => [Av x A9 x2.1.un.2.2.2]) F W So Aa Aa (fun hL => Jp _ w (v1) x1.1 0 _ h2 ((Bq 0 Aa) w W).nx) fun x a w F W => ?_
 obtain ⟨v2, rfl⟩ : ∃ y, y = x := ⟨x, rfl⟩
 have W : Stw ⟨Y, [], w0⟩ (DM b1) [Av v2 A9 x2.1.un.2.2.2, row v1 71 DA x1.1] w := W
 refine ls F W Aa (Ah F Aa).q fun a w F W => ?_
 refine ls F W Aa (As (v := Value.agg #[.int .i64 x2.1.un.1, .int .i64 x2.1.un.2.1, .int .i64 x2.1.un.2.2.1, v2]) F Aa Aa).q fun a w F W => ?_
 refine ls F W Aa (As (v := Value.int .i64 x2.2.1) F Aa Aa).q fun a w F W => ?_
 refine ls F W Aa (As (v := Value.bool x2.2.2) F Aa Aa).q fun a w F W => ?_
 refine AU (cs := (B2)) F W Aa Ms Aa fun b2 a w F W => ?_
 refine Au (vs := (EZ x2 v2)) (M' := (Hc b2 x2 v2 b1)) 0 F W Aa Aa Aa Fh Aa Aa Aa (Ac Aa (Ac Aa (Ac Aa (Ac (W.oneF (k := 0) Aa) AM)))) Aa fun w W => ?_
 iterate 2 refine ls F W Aa (Ag F Aa).q fun a w F W => ?_
 refine Ae (Ad (Ai ?_))
 obtain ⟨o1, G1, K1⟩ := An H
 refine Bd (fun a w => ∃ x3 : Bool, some (x3) = some o1 ∧ Fr 45 [] [(2, .pointer (some ⟨b1, 0, none⟩)), (3, .int .i64 0), (4, .int .i64 0), (5, v1), (8, .pointer (some ⟨b2, 0, none⟩)), (9, .int .i64 x2.2.1), (37, .bool x3)] a ∧ Stw ⟨Y, [], w0⟩ (Hc b2 x2 v2 b1) [row v1 71 DA x1.1, Av v2 A9 x2.1.un.2.2.2] w) ?_ ?_
 ·
  have H := G1
  clear G1 K1
  refine Ab ?_
  refine ls F W Aa (Ah F Aa).q fun a w F W => ?_
  refine ls F W Aa (FH F Aa).q fun a w F W => ?_
  refine ls F W Aa (Ah F Aa).q fun a w F W => ?_
  rcases Bool.eq_false_or_eq_true (!x2.2.2) with hb | hb
  ·
   have H := AQ hb H
   rw [hb] at F
   clear hb
   iterate 6 refine Ec F Aa Aa Aa Aa Aa Aa Aa fun a F => ?_
   refine ls F W Aa (AE F Aa Aa Aa).q fun a w F W => ?_
   refine Ae (Ad ?_)
   have W := W.frontZ (i := 1) Aa Aa
   have W := W.frontM (i := 1) Aa Aa
   have W := W.frontM (i := 1) Aa Aa
   exact ⟨_, H, F.re ⟨rfl, Aa, Aa, Aa, Aa, Aa, Aa, trivial⟩, W⟩
  have H := AR (by rw [hb]; decide) H
  rw [hb] at F
  clear hb
  iterate 2 refine AX F W (Ak F Aa Aa Aa Aa) Aa (Ay Aa) (Ah F Aa).q fun a w F W => ?_
  obtain ⟨x4, h3, H⟩ := An H
  refine AX F W (Ak F Aa Aa Aa Aa) Aa (Ay Aa) (CE (r := DA) Oz F Aa Aa (Bq 1 Aa) h3).q fun a w F W => ?_
  refine AX F W (Ak F Aa Aa Aa Aa) Aa (Ay Aa) (Ao Kv Aa Aa Aa T3 F Aa (Hq v1 + (x2.2.1).toNat * 4) Aa).q fun a w F W => ?_
  refine AX F W (Ak F Aa Aa Aa Aa) Aa (Ay Aa) (BV (y := Value.int .i64 x4.1) (j := 0) (i := x2.2.1) F Aa Aa (Bq 1 Aa) h3 Pz.to T3 Aa).q fun a w F W => ?_
  refine AX F W (Ak F Aa Aa Aa Aa) Aa (Ay Aa) (Ev F Aa Aa).q fun a w F W => ?_
  refine ls F W Aa (AN F Aa Aa Aa).q fun a w F W => ?_
  refine Ae (Ad ?_)
  have W := W.frontZ (i := 1) Aa Aa
  have W := W.frontM (i := 1) Aa Aa
  have W := W.frontM (i := 1) Aa Aa
  exact ⟨_, H, F.re ⟨rfl, Aa, Aa, Aa, Aa, Aa, Aa, trivial⟩, W⟩
 rintro a w ⟨x3, hj, F, W⟩
 have hj := AH hj
 subst hj
 have H := K1
 clear G1 K1
 refine Aw F Aa (fun hb => ?_) fun hb => ?_
 ·
  have H := AQ hb H
  rw [hb] at F
  clear hb
  refine Ai ?_
  refine GN [(true, 0), (true, 1), (true, 2), (true, 3), (true, 4), (true, 5), (false, 6), (false, 7), (false, 8)] (CN ⟨Y, [], w0⟩ [] [(some 7, row v1 71 DA x1.1)]) (fun ch a d v w h => by cases d <;> exact h) MO (by kernel_rfl) W (fun w W => ⟨_, _, W, AF, (AC (fun _ => (.head _)) AF)⟩) fun w W => ?_
  refine Cs (R := []) F Aa Aa (yC fun M Z hN hZ => Ba (v := Value.agg #[.int .i64 0, .int .i64 0, .int .i64 0, .slice none 0 0]) PW F Aa Aa Aa) Aa Aa fun a F => ?_
  iterate 2 refine Cs (R := []) F Aa Aa (yC fun M Z hN hZ => Ah F Aa) Aa Aa fun a F => ?_
  obtain ⟨x5, h4, H⟩ := An H
  refine Cs (R := []) F Aa Aa (yC fun M Z hN hZ => Ni (r := DA) Oz F Aa Aa (Rd W (Bq 0 Aa)) h4) Aa Aa fun a F => ?_
  refine Cs (R := []) F Aa Aa (yC fun M Z hN hZ => Ao Kv Aa Aa Aa T3 F Aa (Hq v1 + (x2.2.1).toNat * 4 + 3) Aa) Aa Aa fun a F => ?_
  refine Cs (R := [7]) F Aa Aa (yC fun M Z hN hZ => BV (y := Value.int .i64 x5.2.2.2) (j := 3) (i := x2.2.1) F Aa Aa (NM (hZ ((some 7), row v1 71 DA x1.1) (.head _) Aa)) h4 Pz.to T3 Aa) (by kernel_rfl) Aa fun a F => ?_
  refine Fg Aa ?_
  refine Au (vs := (B2)) (M' := (Hc b2 x2 v2 b1)) 1 F W Aa Aa Aa Fh Aa Aa Aa Aa Aa fun w W => ?_
  refine B8 (N2 := []) (NZ2 := []) (N3 := []) (NZ3 := [(some 7, row v1 71 DA x1.1)]) W Aa Aa AF (AC (fun _ => (.head _)) AF) ?_
  refine Fg Aa ?_
  refine ls F W Aa (Ag F Aa).q fun a w F W => ?_
  refine B8 (N2 := []) (NZ2 := []) (N3 := []) (NZ3 := [(some 7, row v1 71 DA x1.1)]) W Aa Aa AF (AC (fun h => A2 (by kernel_rfl) h) AF) ?_
  refine Fg Aa ?_
  refine ls F W Aa (Ag F Aa).q fun a w F W => ?_
  refine B8 (N2 := []) (NZ2 := []) (N3 := []) (NZ3 := [(some 7, row v1 71 DA x1.1)]) W Aa Aa AF (AC (fun h => A2 (by kernel_rfl) h) AF) ?_
  refine Gi (Ad (Aq (AD ?_)))
  have H := AH H
  subst H
  refine CD (.inl Aa) F W Aa (AB 1 F Aa Aa Fh Aa) (Ap F Aa) (Ap F Aa) ?_
  have W := W.note (Sl.nil (r := A9))
  have W := W.sub (M' := []) (Z' := [Av (Value.slice none 0 0) A9 ([])]) (List.nil_sublist _) (List.Sublist.cons_cons _ (List.nil_sublist _))
  exact ⟨(Value.slice none 0 0), Aa, W⟩
 have H := AR (by rw [hb]; decide) H
 rw [hb] at F
 clear hb
 refine Ax (Ad (Ai (Ab ?_)))
 refine ls F W Aa (AJ (v := Value.agg #[.int .i64 x2.1.un.1, .int .i64 x2.1.un.2.1, .int .i64 x2.1.un.2.2.1, v2]) 0 F Aa Aa Fh Aa).q fun a w F W => ?_
 refine Au (vs := (EZ x2 v2)) (M' := (P1 b2 x2 v2 b1)) 1 F W Aa Aa Aa Fh Aa Aa Aa (Ac Aa (Ac Aa (Ac Aa (Ac (W.oneF (k := 1) Aa) AM)))) Aa fun w W => ?_
 iterate 2 refine ls F W Aa (Ag F Aa).q fun a w F W => ?_
 refine Ae (Ad (Aq ?_))
 have H := AH H
 subst H
 refine CD (.inl Aa) F W Aa (AB 1 F Aa Aa Fh Aa) (Ap F Aa) (Ap F Aa) ?_
 have W := W.frontZ (i := 1) Aa Aa
 have W := W.sub (M' := []) (Z' := [Av v2 A9 x2.1.un.2.2.2]) (List.nil_sublist _) (List.Sublist.cons_cons _ (List.nil_sublist _))
 exact ⟨(v2), Aa, W⟩
theorem TB : Has Tryd.prog 12 := ⟨fun args w => Al Tryd.func12 rfl (by decide) args w⟩
abbrev Fs (a0 : Tr37 × Int × Int) (a1 : Value) (a2 : Value) : List Value := [.int .i64 a0.1.un.1, .int .i64 a0.1.un.2.1.un.1, .int .i64 a0.1.un.2.1.un.2.1, .int .i64 a0.1.un.2.1.un.2.2.1, a1, .int .i64 a0.1.un.2.2.1, .int .i64 a0.1.un.2.2.2.1, a2]
abbrev HP (a0 : Nat) (a1 : Tr37 × Int × Int) (a2 : Value) (a3 : Value) (a4 : Nat) (a5 : Tr28 × Int × Int) (a6 : Value) (a7 : Value) : List (Nat × List Value) := [(a0, [.int .i64 a1.1.un.1, .int .i64 a1.1.un.2.1.un.1, .int .i64 a1.1.un.2.1.un.2.1, .int .i64 a1.1.un.2.1.un.2.2.1, a2, .int .i64 a1.1.un.2.2.1, .int .i64 a1.1.un.2.2.2.1, a3]), (a4, [.int .i64 a5.1.un.1, .int .i64 a5.1.un.2.1.un.1, .int .i64 a5.1.un.2.1.un.2.1, .int .i64 a5.1.un.2.1.un.2.2.1, a6, .int .i64 a5.1.un.2.2.1, .int .i64 a5.1.un.2.2.2.1, a7])]
abbrev Fx (a0 : Tr25 × Int × Int) (a1 : Value) : List Value := [.int .i64 a0.1.un.1, .int .i64 a0.1.un.2.1, .int .i64 a0.1.un.2.2.1, a1]
abbrev GT (a0 : Tr34 × Int × Int) (a1 : Value) : List Value := [.int .i64 a0.1.un.1, .int .i64 a0.1.un.2.1, .int .i64 a0.1.un.2.2.1, a1]
noncomputable def EB (p0 : List UInt8) : Option Bool := (if 1000 < (p0.length : Int) then (FL).bind fun x1 => some x1 else (DX p0).bind fun x2 => (HC p0).bind fun x3 => ((Ju (Tr28.of (x2.1.un.1, Tr25.of (x2.1.un.2.1.un.1, x2.1.un.2.1.un.2.1, x2.1.un.2.1.un.2.2.1, x2.1.un.2.1.un.2.2.2), x2.1.un.2.2.1, x2.1.un.2.2.2.1, x2.1.un.2.2.2.2))).bind fun x5 => (LC (Tr37.of (x5.un.1, Tr34.of (x5.un.2.1.un.1, x5.un.2.1.un.2.1, x5.un.2.1.un.2.2.1, x5.un.2.1.un.2.2.2), x5.un.2.2.1, x5.un.2.2.2.1, x5.un.2.2.2.2)) (Tr37.of (x3.1.un.1, Tr34.of (x3.1.un.2.1.un.1, x3.1.un.2.1.un.2.1, x3.1.un.2.1.un.2.2.1, x3.1.un.2.1.un.2.2.2), x3.1.un.2.2.1, x3.1.un.2.2.2.1, x3.1.un.2.2.2.2))).bind fun x6 => (if (!x6) = true then some true else (if x2.2.1 ≠ x3.2.1 then some true else some (decide (x2.2.2 ≠ x3.2.2))))).bind fun x4 => (if x4 = true then some false else (GC p0).bind fun x7 => (IA p0).bind fun x8 => ((HK x7.1).bind fun x10 => (Jv x10 x8.1).bind fun x11 => (if x11 = true then (if x7.2.1 = x8.2.1 then (if x7.2.2 = x8.2.2 then (FL).bind fun x12 => some x12 else some false) else some false) else some false)).bind fun x9 => some x9))
theorem JX (Y : Nat → Prop) (w0 : World)  (p0 : List UInt8) (r : Bool) (H : EB p0 = some r) (hG : Gk [] w0) :
    Calls Tryd.prog 3 #[.string (bs p0)] w0 fun e w' => e = .returned (.bool r) ∧ Below w0.heap.size w0 w' := by
 refine enter Tryd.func3 Aa Tryd.ntmps3 Aa fun a F => ?_
 have W := Stw.start Y w0
 unfold EB at H
 refine Ai (Ab ?_)
 refine ls F W Aa (Ag F Aa).q fun a w F W => ?_
 refine Ae (Ad (Ai (Ai (Ab ?_))))
 refine ls F W Aa (Ah F Aa).q fun a w F W => ?_
 refine ls F W Aa (DK (l := p0) Ho Aa F Aa).q fun a w F W => ?_
 refine ls F W Aa (JE F Aa Aa).q fun a w F W => ?_
 refine Ae (Ad ?_)
 refine Aw F Aa (fun hb => ?_) fun hb => ?_
 ·
  have H := AQ (BB hb) H
  rw [hb] at F
  clear hb
  refine Ai (Ab ?_)
  obtain ⟨x1, h1, H⟩ := An H
  refine ls F W Aa (A1 (v := Value.bool x1) F H6 Aa (fun w W => Ki any w _ h1 (hG.go0 W))) fun a w F W => ?_
  refine ls F W Aa (Ag F Aa).q fun a w F W => ?_
  refine Ae (Ad (Aq (AD ?_)))
  have H := AH H
  subst H
  refine AP (.inl Aa) F W Aa (Ap F Aa) ?_
  exact ⟨rfl, W.done⟩
 have H := AR (Bz hb) H
 rw [hb] at F
 clear hb
 refine Ax (Ad (Ai (Ab ?_)))
 refine ls F W Aa (Ah F Aa).q fun a w F W => ?_
 obtain ⟨x2, h2, H⟩ := An H
 refine AO (Ml := []) (Zl := []) (M := []) (Z := []) (β := Value × Value) (rv := fun x => .tuple #[.agg #[.int .i64 x2.1.un.1, .int .i64 x2.1.un.2.1.un.1, .int .i64 x2.1.un.2.1.un.2.1, .int .i64 x2.1.un.2.1.un.2.2.1, x.1, .int .i64 x2.1.un.2.2.1, .int .i64 x2.1.un.2.2.2.1, x.2], .int .i64 x2.2.1, .int .i64 x2.2.2]) (MM := fun x => []) (ZZ := fun x => [Av x.1 AY x2.1.un.2.1.un.2.2.2, Av x.2 BJ x2.1.un.2.2.2.2]) F W H7 Aa Aa (fun hL => Je _ w p0 _ h2) fun x a w F W => ?_
 obtain ⟨v1, v2⟩ := x
 have W : Stw ⟨Y, [], w0⟩ [] [Av v1 AY x2.1.un.2.1.un.2.2.2, Av v2 BJ x2.1.un.2.2.2.2] w := W
 refine ls F W Aa (Ah F Aa).q fun a w F W => ?_
 refine ls F W Aa (As (v := Value.agg #[.int .i64 x2.1.un.1, .int .i64 x2.1.un.2.1.un.1, .int .i64 x2.1.un.2.1.un.2.1, .int .i64 x2.1.un.2.1.un.2.2.1, v1, .int .i64 x2.1.un.2.2.1, .int .i64 x2.1.un.2.2.2.1, v2]) F Aa Aa).q fun a w F W => ?_
 refine ls F W Aa (As (v := Value.int .i64 x2.2.1) F Aa Aa).q fun a w F W => ?_
 refine ls F W Aa (As (v := Value.int .i64 x2.2.2) F Aa Aa).q fun a w F W => ?_
 refine AU (cs := (Bl)) F W Aa L4 Aa fun b1 a w F W => ?_
 refine Au (vs := (GP x2 v1 v2)) (M' := (NS b1 x2 v1 v2)) 0 F W Aa Aa Aa FG Aa Aa Aa (Ac Aa (Ac Aa (Ac Aa (Ac Aa (Ac (W.oneF (k := 0) Aa) (Ac Aa (Ac Aa (Ac (W.oneF (k := 1) Aa) AM)))))))) Aa fun w W => ?_
 iterate 2 refine ls F W Aa (Ag F Aa).q fun a w F W => ?_
 refine Ae (Ad (Ai (Ab ?_)))
 refine ls F W Aa (Ah F Aa).q fun a w F W => ?_
 obtain ⟨x3, h3, H⟩ := An H
 refine AO (Ml := []) (Zl := []) (M := (NS b1 x2 v1 v2)) (Z := [Av v1 AY x2.1.un.2.1.un.2.2.2, Av v2 BJ x2.1.un.2.2.2.2]) (β := Value × Value) (rv := fun x => .tuple #[.agg #[.int .i64 x3.1.un.1, .int .i64 x3.1.un.2.1.un.1, .int .i64 x3.1.un.2.1.un.2.1, .int .i64 x3.1.un.2.1.un.2.2.1, x.1, .int .i64 x3.1.un.2.2.1, .int .i64 x3.1.un.2.2.2.1, x.2], .int .i64 x3.2.1, .int .i64 x3.2.2]) (MM := fun x => []) (ZZ := fun x => [Av x.1 A9 x3.1.un.2.1.un.2.2.2, Av x.2 B3 x3.1.un.2.2.2.2]) F W H8 Aa Aa (fun hL => Np _ w p0 _ h3) fun x a w F W => ?_
 obtain ⟨v3, v4⟩ := x
 have W : Stw ⟨Y, [], w0⟩ (NS b1 x2 v1 v2) [Av v3 A9 x3.1.un.2.1.un.2.2.2, Av v4 B3 x3.1.un.2.2.2.2, Av v1 AY x2.1.un.2.1.un.2.2.2, Av v2 BJ x2.1.un.2.2.2.2] w := W
 refine ls F W Aa (Ah F Aa).q fun a w F W => ?_
 refine ls F W Aa (As (v := Value.agg #[.int .i64 x3.1.un.1, .int .i64 x3.1.un.2.1.un.1, .int .i64 x3.1.un.2.1.un.2.1, .int .i64 x3.1.un.2.1.un.2.2.1, v3, .int .i64 x3.1.un.2.2.1, .int .i64 x3.1.un.2.2.2.1, v4]) F Aa Aa).q fun a w F W => ?_
 refine ls F W Aa (As (v := Value.int .i64 x3.2.1) F Aa Aa).q fun a w F W => ?_
 refine ls F W Aa (As (v := Value.int .i64 x3.2.2) F Aa Aa).q fun a w F W => ?_
 refine AU (cs := (Bl)) F W Aa LH Aa fun b2 a w F W => ?_
 refine Au (vs := (Fs x3 v3 v4)) (M' := (HP b2 x3 v3 v4 b1 x2 v1 v2)) 0 F W Aa Aa Aa EU Aa Aa Aa (Ac Aa (Ac Aa (Ac Aa (Ac Aa (Ac (W.oneF (k := 0) Aa) (Ac Aa (Ac Aa (Ac (W.oneF (k := 1) Aa) AM)))))))) Aa fun w W => ?_
 iterate 2 refine ls F W Aa (Ag F Aa).q fun a w F W => ?_
 refine Ae (Ad (Ai ?_))
 obtain ⟨o1, G1, K1⟩ := An H
 refine Bd (fun a w => ∃ x4 : Bool, some (x4) = some o1 ∧ Fr 71 [] [(0, .string (bs p0)), (2, .bool false), (41, .bool x4)] a ∧ Stw ⟨Y, [], w0⟩ (HP b2 x3 v3 v4 b1 x2 v1 v2) [Av v3 A9 x3.1.un.2.1.un.2.2.2, Av v4 B3 x3.1.un.2.2.2.2, Av v1 AY x2.1.un.2.1.un.2.2.2, Av v2 BJ x2.1.un.2.2.2.2] w) ?_ ?_
 ·
  have H := G1
  clear G1 K1
  refine GN [(true, 0), (true, 2), (false, 1), (false, 3), (true, 4), (true, 5), (true, 6), (true, 7), (true, 8), (true, 9), (true, 10), (true, 11), (true, 12), (true, 13), (true, 14)] (CN ⟨Y, [], w0⟩ [(some 1, b1, [.int .i64 x2.1.un.1, .int .i64 x2.1.un.2.1.un.1, .int .i64 x2.1.un.2.1.un.2.1, .int .i64 x2.1.un.2.1.un.2.2.1, v1, .int .i64 x2.1.un.2.2.1, .int .i64 x2.1.un.2.2.2.1, v2]), (some 3, b2, [.int .i64 x3.1.un.1, .int .i64 x3.1.un.2.1.un.1, .int .i64 x3.1.un.2.1.un.2.1, .int .i64 x3.1.un.2.1.un.2.2.1, v3, .int .i64 x3.1.un.2.2.1, .int .i64 x3.1.un.2.2.2.1, v4])] []) (fun ch a d v w h => by cases d <;> exact h) MO (by kernel_rfl) W (fun w W => ⟨_, _, W, (AC (fun _ => (.tail _ (.head _))) (AC (fun _ => (.head _)) AF)), AF⟩) fun w W => ?_
  refine Cs (R := [1]) F Aa Aa (yC fun M Z hN hZ => Dh (cs := (GP x2 v1 v2)) (v := Value.agg #[.int .i64 x2.1.un.1, .int .i64 x2.1.un.2.1.un.1, .int .i64 x2.1.un.2.1.un.2.1, .int .i64 x2.1.un.2.1.un.2.2.1, v1, .int .i64 x2.1.un.2.2.1, .int .i64 x2.1.un.2.2.2.1, v2]) F Aa (hN ((some 1), b1, (GP x2 v1 v2)) (.head _) Aa) FG Aa) (by kernel_rfl) Aa fun a F => ?_
  refine Cs (R := [3]) F Aa Aa (yC fun M Z hN hZ => Dh (cs := (Fs x3 v3 v4)) (v := Value.agg #[.int .i64 x3.1.un.1, .int .i64 x3.1.un.2.1.un.1, .int .i64 x3.1.un.2.1.un.2.1, .int .i64 x3.1.un.2.1.un.2.2.1, v3, .int .i64 x3.1.un.2.2.1, .int .i64 x3.1.un.2.2.2.1, v4]) F Aa (hN ((some 3), b2, (Fs x3 v3 v4)) (.tail _ (.head _)) Aa) EU Aa) (by kernel_rfl) Aa fun a F => ?_
  refine Fg Aa ?_
  obtain ⟨x5, h4, H⟩ := An H
  refine AO (Ml := []) (Zl := []) (M := (HP b2 x3 v3 v4 b1 x2 v1 v2)) (Z := [Av v3 A9 x3.1.un.2.1.un.2.2.2, Av v4 B3 x3.1.un.2.2.2.2, Av v1 AY x2.1.un.2.1.un.2.2.2, Av v2 BJ x2.1.un.2.2.2.2]) (β := Value × Value) (rv := fun x => .agg #[.int .i64 x5.un.1, .int .i64 x5.un.2.1.un.1, .int .i64 x5.un.2.1.un.2.1, .int .i64 x5.un.2.1.un.2.2.1, x.1, .int .i64 x5.un.2.2.1, .int .i64 x5.un.2.2.2.1, x.2]) (MM := fun x => []) (ZZ := fun x => [row x.1 34 A9 x5.un.2.1.un.2.2.2, row x.2 37 B3 x5.un.2.2.2.2]) F W Ta Aa Aa (fun hL => M0 _ w (v1) (v2) (Tr28.of (x2.1.un.1, Tr25.of (x2.1.un.2.1.un.1, x2.1.un.2.1.un.2.1, x2.1.un.2.1.un.2.2.1, x2.1.un.2.1.un.2.2.2), x2.1.un.2.2.1, x2.1.un.2.2.2.1, x2.1.un.2.2.2.2)) _ h4 ((Gt 2 Aa) w W).nx ((Gt 3 Aa) w W).nx) fun x a w F W => ?_
  obtain ⟨v5, v6⟩ := x
  have W : Stw ⟨Y, [], w0⟩ (HP b2 x3 v3 v4 b1 x2 v1 v2) [row v5 34 A9 x5.un.2.1.un.2.2.2, row v6 37 B3 x5.un.2.2.2.2, Av v3 A9 x3.1.un.2.1.un.2.2.2, Av v4 B3 x3.1.un.2.2.2.2, Av v1 AY x2.1.un.2.1.un.2.2.2, Av v2 BJ x2.1.un.2.2.2.2] w := W
  refine B8 (N2 := []) (NZ2 := []) (N3 := [(some 1, b1, [.int .i64 x2.1.un.1, .int .i64 x2.1.un.2.1.un.1, .int .i64 x2.1.un.2.1.un.2.1, .int .i64 x2.1.un.2.1.un.2.2.1, v1, .int .i64 x2.1.un.2.2.1, .int .i64 x2.1.un.2.2.2.1, v2]), (some 3, b2, [.int .i64 x3.1.un.1, .int .i64 x3.1.un.2.1.un.1, .int .i64 x3.1.un.2.1.un.2.1, .int .i64 x3.1.un.2.1.un.2.2.1, v3, .int .i64 x3.1.un.2.2.1, .int .i64 x3.1.un.2.2.2.1, v4])]) (NZ3 := []) W Aa Aa (AC (fun h => A2 (by kernel_rfl) h) (AC (fun _ => (.head _)) AF)) AF ?_
  refine Fg Aa ?_
  obtain ⟨x6, h5, H⟩ := An H
  refine ls F W Aa (A1 (v := Value.bool x6) F H9 Aa (fun w W => Ok any w (v5) (v6) (v3) (v4) (Tr37.of (x5.un.1, Tr34.of (x5.un.2.1.un.1, x5.un.2.1.un.2.1, x5.un.2.1.un.2.2.1, x5.un.2.1.un.2.2.2), x5.un.2.2.1, x5.un.2.2.2.1, x5.un.2.2.2.2)) (Tr37.of (x3.1.un.1, Tr34.of (x3.1.un.2.1.un.1, x3.1.un.2.1.un.2.1, x3.1.un.2.1.un.2.2.1, x3.1.un.2.1.un.2.2.2), x3.1.un.2.2.1, x3.1.un.2.2.2.1, x3.1.un.2.2.2.2)) _ h5 (((Bq 0 Aa) : EN _ _ _ _ _ _) w W).nx (((Bq 1 Aa) : EN _ _ _ _ _ _) w W).nx (((Gt 2 Aa) : EN _ _ _ _ _ _) w W).nx (((Gt 3 Aa) : EN _ _ _ _ _ _) w W).nx)) fun a w F W => ?_
  refine B8 (N2 := []) (NZ2 := []) (N3 := [(some 1, b1, [.int .i64 x2.1.un.1, .int .i64 x2.1.un.2.1.un.1, .int .i64 x2.1.un.2.1.un.2.1, .int .i64 x2.1.un.2.1.un.2.2.1, v1, .int .i64 x2.1.un.2.2.1, .int .i64 x2.1.un.2.2.2.1, v2]), (some 3, b2, [.int .i64 x3.1.un.1, .int .i64 x3.1.un.2.1.un.1, .int .i64 x3.1.un.2.1.un.2.1, .int .i64 x3.1.un.2.1.un.2.2.1, v3, .int .i64 x3.1.un.2.2.1, .int .i64 x3.1.un.2.2.2.1, v4])]) (NZ3 := []) W Aa Aa (AC (fun h => A2 (by kernel_rfl) h) (AC (fun h => A2 (by kernel_rfl) h) AF)) AF ?_
  refine Cs (R := []) F Aa Aa (yC fun M Z hN hZ => FH F Aa) Aa Aa fun a F => ?_
  refine Cs (R := []) F Aa Aa (yC fun M Z hN hZ => Ah F Aa) Aa Aa fun a F => ?_
  rcases Bool.eq_false_or_eq_true (!x6) with hb | hb
  ·
   have H := AQ hb H
   rw [hb] at F
   clear hb
   iterate 3 refine IJ F Aa (Gb F Aa Aa Aa Aa Aa) Aa Aa Aa fun a F => ?_
   refine Cs (R := []) F Aa Aa (yC fun M Z hN hZ => AE F Aa Aa Aa) Aa Aa fun a F => ?_
   refine Cs (R := []) F Aa Aa (yC fun M Z hN hZ => Ah F Aa) Aa Aa fun a F => ?_
   iterate 3 refine IJ F Aa (Gb F Aa Aa Aa Aa Aa) Aa Aa Aa fun a F => ?_
   refine Cs (R := []) F Aa Aa (yC fun M Z hN hZ => AE F Aa Aa Aa) Aa Aa fun a F => ?_
   refine Gi (Ad ?_)
   have W := W.frontZ (i := 5) Aa Aa
   have W := W.frontZ (i := 5) Aa Aa
   have W := W.frontZ (i := 5) Aa Aa
   have W := W.frontZ (i := 5) Aa Aa
   have W := W.frontM (i := 1) Aa Aa
   have W := W.frontM (i := 1) Aa Aa
   have W := W.sub (M' := (HP b2 x3 v3 v4 b1 x2 v1 v2)) (Z' := [Av v3 A9 x3.1.un.2.1.un.2.2.2, Av v4 B3 x3.1.un.2.2.2.2, Av v1 AY x2.1.un.2.1.un.2.2.2, Av v2 BJ x2.1.un.2.2.2.2]) (List.Sublist.refl _) (List.Sublist.cons_cons _ (List.Sublist.cons_cons _ (List.Sublist.cons_cons _ (List.Sublist.cons_cons _ (List.nil_sublist _)))))
   exact ⟨_, H, F.re ⟨rfl, Aa, Aa, trivial⟩, W⟩
  have H := AR (by rw [hb]; decide) H
  rw [hb] at F
  clear hb
  iterate 2 refine Nm (R := []) F Aa (Ak F Aa Aa Aa Aa) Aa Aa (yC fun M Z hN hZ => Ah F Aa) Aa Aa fun a F => ?_
  refine Nm (R := []) F Aa (Ak F Aa Aa Aa Aa) Aa Aa (yC fun M Z hN hZ => Ev F Aa Aa) Aa Aa fun a F => ?_
  refine Cs (R := []) F Aa Aa (yC fun M Z hN hZ => AN F Aa Aa Aa) Aa Aa fun a F => ?_
  refine Cs (R := []) F Aa Aa (yC fun M Z hN hZ => Ah F Aa) Aa Aa fun a F => ?_
  rcases Bool.eq_false_or_eq_true (decide (x2.2.1 ≠ x3.2.1)) with hb | hb
  ·
   have H := AQ (BB hb) H
   rw [hb] at F
   clear hb
   iterate 3 refine IJ F Aa (Gb F Aa Aa Aa Aa Aa) Aa Aa Aa fun a F => ?_
   refine Cs (R := []) F Aa Aa (yC fun M Z hN hZ => AE F Aa Aa Aa) Aa Aa fun a F => ?_
   refine Gi (Ad ?_)
   have W := W.frontZ (i := 5) Aa Aa
   have W := W.frontZ (i := 5) Aa Aa
   have W := W.frontZ (i := 5) Aa Aa
   have W := W.frontZ (i := 5) Aa Aa
   have W := W.frontM (i := 1) Aa Aa
   have W := W.frontM (i := 1) Aa Aa
   have W := W.sub (M' := (HP b2 x3 v3 v4 b1 x2 v1 v2)) (Z' := [Av v3 A9 x3.1.un.2.1.un.2.2.2, Av v4 B3 x3.1.un.2.2.2.2, Av v1 AY x2.1.un.2.1.un.2.2.2, Av v2 BJ x2.1.un.2.2.2.2]) (List.Sublist.refl _) (List.Sublist.cons_cons _ (List.Sublist.cons_cons _ (List.Sublist.cons_cons _ (List.Sublist.cons_cons _ (List.nil_sublist _)))))
   exact ⟨_, H, F.re ⟨rfl, Aa, Aa, trivial⟩, W⟩
  have H := AR (Bz hb) H
  rw [hb] at F
  clear hb
  iterate 2 refine Nm (R := []) F Aa (Ak F Aa Aa Aa Aa) Aa Aa (yC fun M Z hN hZ => Ah F Aa) Aa Aa fun a F => ?_
  refine Nm (R := []) F Aa (Ak F Aa Aa Aa Aa) Aa Aa (yC fun M Z hN hZ => Ev F Aa Aa) Aa Aa fun a F => ?_
  refine Cs (R := []) F Aa Aa (yC fun M Z hN hZ => AN F Aa Aa Aa) Aa Aa fun a F => ?_
  refine Gi (Ad ?_)
  have W := W.frontZ (i := 5) Aa Aa
  have W := W.frontZ (i := 5) Aa Aa
  have W := W.frontZ (i := 5) Aa Aa
  have W := W.frontZ (i := 5) Aa Aa
  have W := W.frontM (i := 1) Aa Aa
  have W := W.frontM (i := 1) Aa Aa
  have W := W.sub (M' := (HP b2 x3 v3 v4 b1 x2 v1 v2)) (Z' := [Av v3 A9 x3.1.un.2.1.un.2.2.2, Av v4 B3 x3.1.un.2.2.2.2, Av v1 AY x2.1.un.2.1.un.2.2.2, Av v2 BJ x2.1.un.2.2.2.2]) (List.Sublist.refl _) (List.Sublist.cons_cons _ (List.Sublist.cons_cons _ (List.Sublist.cons_cons _ (List.Sublist.cons_cons _ (List.nil_sublist _)))))
  exact ⟨_, H, F.re ⟨rfl, Aa, Aa, trivial⟩, W⟩
 rintro a w ⟨x4, hj, F, W⟩
 have hj := AH hj
 subst hj
 have H := K1
 clear G1 K1
 refine Aw F Aa (fun hb => ?_) fun hb => ?_
 ·
  have H := AQ hb H
  rw [hb] at F
  clear hb
  refine Ai (Ab ?_)
  refine ls F W Aa (Ag F Aa).q fun a w F W => ?_
  refine Ae (Ad (Aq (AD ?_)))
  have H := AH H
  subst H
  refine AP (.inl Aa) F W Aa (Ap F Aa) ?_
  exact ⟨rfl, W.done⟩
 have H := AR (by rw [hb]; decide) H
 rw [hb] at F
 clear hb
 refine Ax (Ad (Ai (Ab ?_)))
 refine ls F W Aa (Ah F Aa).q fun a w F W => ?_
 obtain ⟨x7, h6, H⟩ := An H
 refine AO (Ml := []) (Zl := []) (M := (HP b2 x3 v3 v4 b1 x2 v1 v2)) (Z := [Av v3 A9 x3.1.un.2.1.un.2.2.2, Av v4 B3 x3.1.un.2.2.2.2, Av v1 AY x2.1.un.2.1.un.2.2.2, Av v2 BJ x2.1.un.2.2.2.2]) (β := Value) (rv := fun x => .tuple #[.agg #[.int .i64 x7.1.un.1, .int .i64 x7.1.un.2.1, .int .i64 x7.1.un.2.2.1, x], .int .i64 x7.2.1, .int .i64 x7.2.2]) (MM := fun x => []) (ZZ := fun x => [Av x AY x7.1.un.2.2.2]) F W TG Aa Aa (fun hL => My _ w p0 _ h6) fun x a w F W => ?_
 obtain ⟨v7, rfl⟩ : ∃ y, y = x := ⟨x, rfl⟩
 have W : Stw ⟨Y, [], w0⟩ (HP b2 x3 v3 v4 b1 x2 v1 v2) [Av v7 AY x7.1.un.2.2.2, Av v3 A9 x3.1.un.2.1.un.2.2.2, Av v4 B3 x3.1.un.2.2.2.2, Av v1 AY x2.1.un.2.1.un.2.2.2, Av v2 BJ x2.1.un.2.2.2.2] w := W
 refine ls F W Aa (Ah F Aa).q fun a w F W => ?_
 refine ls F W Aa (As (v := Value.agg #[.int .i64 x7.1.un.1, .int .i64 x7.1.un.2.1, .int .i64 x7.1.un.2.2.1, v7]) F Aa Aa).q fun a w F W => ?_
 refine ls F W Aa (As (v := Value.int .i64 x7.2.1) F Aa Aa).q fun a w F W => ?_
 refine ls F W Aa (As (v := Value.int .i64 x7.2.2) F Aa Aa).q fun a w F W => ?_
 refine AU (cs := (B2)) F W Aa NG Aa fun b3 a w F W => ?_
 refine Au (vs := (Fx x7 v7)) (M' := [(b3, (Fx x7 v7)), (b2, (Fs x3 v3 v4)), (b1, (GP x2 v1 v2))]) 0 F W Aa Aa Aa FV Aa Aa Aa (Ac Aa (Ac Aa (Ac Aa (Ac (W.oneF (k := 0) Aa) AM)))) Aa fun w W => ?_
 iterate 2 refine ls F W Aa (Ag F Aa).q fun a w F W => ?_
 refine Ae (Ad (Ai (Ab ?_)))
 refine ls F W Aa (Ah F Aa).q fun a w F W => ?_
 obtain ⟨x8, h7, H⟩ := An H
 refine AO (Ml := []) (Zl := []) (M := [(b3, (Fx x7 v7)), (b2, (Fs x3 v3 v4)), (b1, (GP x2 v1 v2))]) (Z := [Av v7 AY x7.1.un.2.2.2, Av v3 A9 x3.1.un.2.1.un.2.2.2, Av v4 B3 x3.1.un.2.2.2.2, Av v1 AY x2.1.un.2.1.un.2.2.2, Av v2 BJ x2.1.un.2.2.2.2]) (β := Value) (rv := fun x => .tuple #[.agg #[.int .i64 x8.1.un.1, .int .i64 x8.1.un.2.1, .int .i64 x8.1.un.2.2.1, x], .int .i64 x8.2.1, .int .i64 x8.2.2]) (MM := fun x => []) (ZZ := fun x => [Av x A9 x8.1.un.2.2.2]) F W TB Aa Aa (fun hL => Oa _ w p0 _ h7) fun x a w F W => ?_
 obtain ⟨v8, rfl⟩ : ∃ y, y = x := ⟨x, rfl⟩
 have W : Stw ⟨Y, [], w0⟩ [(b3, (Fx x7 v7)), (b2, (Fs x3 v3 v4)), (b1, (GP x2 v1 v2))] [Av v8 A9 x8.1.un.2.2.2, Av v7 AY x7.1.un.2.2.2, Av v3 A9 x3.1.un.2.1.un.2.2.2, Av v4 B3 x3.1.un.2.2.2.2, Av v1 AY x2.1.un.2.1.un.2.2.2, Av v2 BJ x2.1.un.2.2.2.2] w := W
 refine ls F W Aa (Ah F Aa).q fun a w F W => ?_
 refine ls F W Aa (As (v := Value.agg #[.int .i64 x8.1.un.1, .int .i64 x8.1.un.2.1, .int .i64 x8.1.un.2.2.1, v8]) F Aa Aa).q fun a w F W => ?_
 refine ls F W Aa (As (v := Value.int .i64 x8.2.1) F Aa Aa).q fun a w F W => ?_
 refine ls F W Aa (As (v := Value.int .i64 x8.2.2) F Aa Aa).q fun a w F W => ?_
 refine AU (cs := (B2)) F W Aa Ms Aa fun b4 a w F W => ?_
 refine Au (vs := (GT x8 v8)) (M' := [(b4, (GT x8 v8)), (b3, (Fx x7 v7)), (b2, (Fs x3 v3 v4)), (b1, (GP x2 v1 v2))]) 0 F W Aa Aa Aa Fh Aa Aa Aa (Ac Aa (Ac Aa (Ac Aa (Ac (W.oneF (k := 0) Aa) AM)))) Aa fun w W => ?_
 iterate 2 refine ls F W Aa (Ag F Aa).q fun a w F W => ?_
 refine Ae (Ad ?_)
 obtain ⟨o2, G2, K2⟩ := An H
 refine Bd (fun a w => ∃ x9 : Bool, some (x9) = some o2 ∧ Fr 71 [] [(2, .bool x9)] a ∧ Stw ⟨Y, [], w0⟩ [(b4, (GT x8 v8)), (b3, (Fx x7 v7)), (b2, (Fs x3 v3 v4)), (b1, (GP x2 v1 v2))] [Av v8 A9 x8.1.un.2.2.2, Av v7 AY x7.1.un.2.2.2, Av v3 A9 x3.1.un.2.1.un.2.2.2, Av v4 B3 x3.1.un.2.2.2.2, Av v1 AY x2.1.un.2.1.un.2.2.2, Av v2 BJ x2.1.un.2.2.2.2] w) ?_ ?_
 ·
  have H := G2
  clear G2 K2
  refine GN [(true, 0), (true, 2), (false, 1), (false, 3), (true, 4), (true, 5), (true, 6), (true, 7), (true, 8), (true, 9), (true, 10), (true, 11), (true, 12), (true, 13), (true, 14), (false, 15), (true, 16), (false, 17)] (CN ⟨Y, [], w0⟩ [(some 1, b3, [.int .i64 x7.1.un.1, .int .i64 x7.1.un.2.1, .int .i64 x7.1.un.2.2.1, v7]), (some 3, b4, [.int .i64 x8.1.un.1, .int .i64 x8.1.un.2.1, .int .i64 x8.1.un.2.2.1, v8])] []) (fun ch a d v w h => by cases d <;> exact h) MO (by kernel_rfl) W (fun w W => ⟨_, _, W, (AC (fun _ => (.tail _ (.head _))) (AC (fun _ => (.head _)) AF)), AF⟩) fun w W => ?_
  refine Cs (R := [1]) F Aa Aa (yC fun M Z hN hZ => Dh (cs := (Fx x7 v7)) (v := Value.agg #[.int .i64 x7.1.un.1, .int .i64 x7.1.un.2.1, .int .i64 x7.1.un.2.2.1, v7]) F Aa (hN ((some 1), b3, (Fx x7 v7)) (.head _) Aa) FV Aa) (by kernel_rfl) Aa fun a F => ?_
  refine Cs (R := [3]) F Aa Aa (yC fun M Z hN hZ => Dh (cs := (GT x8 v8)) (v := Value.agg #[.int .i64 x8.1.un.1, .int .i64 x8.1.un.2.1, .int .i64 x8.1.un.2.2.1, v8]) F Aa (hN ((some 3), b4, (GT x8 v8)) (.tail _ (.head _)) Aa) Fh Aa) (by kernel_rfl) Aa fun a F => ?_
  refine Fg Aa ?_
  obtain ⟨x10, h8, H⟩ := An H
  refine AO (Ml := []) (Zl := []) (M := [(b4, (GT x8 v8)), (b3, (Fx x7 v7)), (b2, (Fs x3 v3 v4)), (b1, (GP x2 v1 v2))]) (Z := [Av v8 A9 x8.1.un.2.2.2, Av v7 AY x7.1.un.2.2.2, Av v3 A9 x3.1.un.2.1.un.2.2.2, Av v4 B3 x3.1.un.2.2.2.2, Av v1 AY x2.1.un.2.1.un.2.2.2, Av v2 BJ x2.1.un.2.2.2.2]) (β := Value) (rv := fun x => .agg #[.int .i64 x10.un.1, .int .i64 x10.un.2.1, .int .i64 x10.un.2.2.1, x]) (MM := fun x => []) (ZZ := fun x => [row x 34 A9 x10.un.2.2.2]) F W Sq Aa Aa (fun hL => HV _ w (v7) x7.1 _ h8 ((Gt 1 Aa) w W).nx) fun x a w F W => ?_
  obtain ⟨v9, rfl⟩ : ∃ y, y = x := ⟨x, rfl⟩
  have W : Stw ⟨Y, [], w0⟩ [(b4, (GT x8 v8)), (b3, (Fx x7 v7)), (b2, (Fs x3 v3 v4)), (b1, (GP x2 v1 v2))] [row v9 34 A9 x10.un.2.2.2, Av v8 A9 x8.1.un.2.2.2, Av v7 AY x7.1.un.2.2.2, Av v3 A9 x3.1.un.2.1.un.2.2.2, Av v4 B3 x3.1.un.2.2.2.2, Av v1 AY x2.1.un.2.1.un.2.2.2, Av v2 BJ x2.1.un.2.2.2.2] w := W
  refine B8 (N2 := []) (NZ2 := []) (N3 := [(some 1, b3, [.int .i64 x7.1.un.1, .int .i64 x7.1.un.2.1, .int .i64 x7.1.un.2.2.1, v7]), (some 3, b4, [.int .i64 x8.1.un.1, .int .i64 x8.1.un.2.1, .int .i64 x8.1.un.2.2.1, v8])]) (NZ3 := []) W Aa Aa (AC (fun h => A2 (by kernel_rfl) h) (AC (fun _ => (.head _)) AF)) AF ?_
  refine Fg Aa ?_
  obtain ⟨x11, h9, H⟩ := An H
  refine ls F W Aa (A1 (v := Value.bool x11) F S2 Aa (fun w W => KN any w (v9) (v8) x10 x8.1 _ h9 (((Bq 0 Aa) : EN _ _ _ _ _ _) w W).nx (((Gt 1 Aa) : EN _ _ _ _ _ _) w W).nx)) fun a w F W => ?_
  refine B8 (N2 := []) (NZ2 := []) (N3 := [(some 1, b3, [.int .i64 x7.1.un.1, .int .i64 x7.1.un.2.1, .int .i64 x7.1.un.2.2.1, v7]), (some 3, b4, [.int .i64 x8.1.un.1, .int .i64 x8.1.un.2.1, .int .i64 x8.1.un.2.2.1, v8])]) (NZ3 := []) W Aa Aa (AC (fun h => A2 (by kernel_rfl) h) (AC (fun h => A2 (by kernel_rfl) h) AF)) AF ?_
  refine Cs (R := []) F Aa Aa (yC fun M Z hN hZ => Ah F Aa) Aa Aa fun a F => ?_
  rcases Bool.eq_false_or_eq_true x11 with hb | hb
  ·
   have H := AQ hb H
   rw [hb] at F
   clear hb
   iterate 2 refine Nm (R := []) F Aa (Ak F Aa Aa Aa Aa) Aa Aa (yC fun M Z hN hZ => Ah F Aa) Aa Aa fun a F => ?_
   refine Nm (R := []) F Aa (Ak F Aa Aa Aa Aa) Aa Aa (yC fun M Z hN hZ => Bn F Aa Aa) Aa Aa fun a F => ?_
   refine Cs (R := []) F Aa Aa (yC fun M Z hN hZ => AE F Aa Aa Aa) Aa Aa fun a F => ?_
   refine Cs (R := []) F Aa Aa (yC fun M Z hN hZ => Ah F Aa) Aa Aa fun a F => ?_
   rcases Bool.eq_false_or_eq_true (decide (x7.2.1 = x8.2.1)) with hb | hb
   ·
    have H := AQ (BB hb) H
    rw [hb] at F
    clear hb
    iterate 2 refine Nm (R := []) F Aa (Ak F Aa Aa Aa Aa) Aa Aa (yC fun M Z hN hZ => Ah F Aa) Aa Aa fun a F => ?_
    refine Nm (R := []) F Aa (Ak F Aa Aa Aa Aa) Aa Aa (yC fun M Z hN hZ => Bn F Aa Aa) Aa Aa fun a F => ?_
    refine Cs (R := []) F Aa Aa (yC fun M Z hN hZ => AE F Aa Aa Aa) Aa Aa fun a F => ?_
    refine Cs (R := []) F Aa Aa (yC fun M Z hN hZ => Ah F Aa) Aa Aa fun a F => ?_
    rcases Bool.eq_false_or_eq_true (decide (x7.2.2 = x8.2.2)) with hb | hb
    ·
     have H := AQ (BB hb) H
     rw [hb] at F
     clear hb
     refine Fg Aa ?_
     refine JT (Ak F Aa Aa Aa Aa) ?_
     obtain ⟨x12, h10, H⟩ := An H
     refine ls F W Aa (A1 (v := Value.bool x12) F H6 Aa (fun w W => Ki any w _ h10 (hG.go0 W))) fun a w F W => ?_
     refine B8 (N2 := []) (NZ2 := []) (N3 := [(some 1, b3, [.int .i64 x7.1.un.1, .int .i64 x7.1.un.2.1, .int .i64 x7.1.un.2.2.1, v7]), (some 3, b4, [.int .i64 x8.1.un.1, .int .i64 x8.1.un.2.1, .int .i64 x8.1.un.2.2.1, v8])]) (NZ3 := []) W Aa Aa (AC (fun h => A2 (by kernel_rfl) h) (AC (fun h => A2 (by kernel_rfl) h) AF)) AF ?_
     refine Cs (R := []) F Aa Aa (yC fun M Z hN hZ => AE F Aa Aa Aa) Aa Aa fun a F => ?_
     refine Fg Aa ?_
     refine ls F W Aa (Ag F Aa).q fun a w F W => ?_
     refine B8 (N2 := []) (NZ2 := []) (N3 := [(some 1, b3, [.int .i64 x7.1.un.1, .int .i64 x7.1.un.2.1, .int .i64 x7.1.un.2.2.1, v7]), (some 3, b4, [.int .i64 x8.1.un.1, .int .i64 x8.1.un.2.1, .int .i64 x8.1.un.2.2.1, v8])]) (NZ3 := []) W Aa Aa (AC (fun h => A2 (by kernel_rfl) h) (AC (fun h => A2 (by kernel_rfl) h) AF)) AF ?_
     refine Gi (Ad ?_)
     have W := W.frontZ (i := 6) Aa Aa
     have W := W.frontZ (i := 6) Aa Aa
     have W := W.frontZ (i := 6) Aa Aa
     have W := W.frontZ (i := 6) Aa Aa
     have W := W.frontZ (i := 6) Aa Aa
     have W := W.frontZ (i := 6) Aa Aa
     have W := W.frontM (i := 3) Aa Aa
     have W := W.frontM (i := 3) Aa Aa
     have W := W.frontM (i := 3) Aa Aa
     have W := W.frontM (i := 3) Aa Aa
     have W := W.sub (M' := [(b4, (GT x8 v8)), (b3, (Fx x7 v7)), (b2, (Fs x3 v3 v4)), (b1, (GP x2 v1 v2))]) (Z' := [Av v8 A9 x8.1.un.2.2.2, Av v7 AY x7.1.un.2.2.2, Av v3 A9 x3.1.un.2.1.un.2.2.2, Av v4 B3 x3.1.un.2.2.2.2, Av v1 AY x2.1.un.2.1.un.2.2.2, Av v2 BJ x2.1.un.2.2.2.2]) (List.Sublist.refl _) (List.Sublist.cons_cons _ (List.Sublist.cons_cons _ (List.Sublist.cons_cons _ (List.Sublist.cons_cons _ (List.Sublist.cons_cons _ (List.Sublist.cons_cons _ (List.nil_sublist _)))))))
     exact ⟨_, H, F.re ⟨rfl, trivial⟩, W⟩
    have H := AR (Bz hb) H
    rw [hb] at F
    clear hb
    refine Fg Aa ?_
    refine Ec F Aa Aa Aa Aa Aa Aa Aa fun a F => ?_
    refine B8 (N2 := []) (NZ2 := []) (N3 := [(some 1, b3, [.int .i64 x7.1.un.1, .int .i64 x7.1.un.2.1, .int .i64 x7.1.un.2.2.1, v7]), (some 3, b4, [.int .i64 x8.1.un.1, .int .i64 x8.1.un.2.1, .int .i64 x8.1.un.2.2.1, v8])]) (NZ3 := []) W Aa Aa (AC (fun h => A2 (by kernel_rfl) h) (AC (fun h => A2 (by kernel_rfl) h) AF)) AF ?_
    refine Cs (R := []) F Aa Aa (yC fun M Z hN hZ => AN F Aa Aa Aa) Aa Aa fun a F => ?_
    refine Fg Aa ?_
    refine ls F W Aa (Ag F Aa).q fun a w F W => ?_
    refine B8 (N2 := []) (NZ2 := []) (N3 := [(some 1, b3, [.int .i64 x7.1.un.1, .int .i64 x7.1.un.2.1, .int .i64 x7.1.un.2.2.1, v7]), (some 3, b4, [.int .i64 x8.1.un.1, .int .i64 x8.1.un.2.1, .int .i64 x8.1.un.2.2.1, v8])]) (NZ3 := []) W Aa Aa (AC (fun h => A2 (by kernel_rfl) h) (AC (fun h => A2 (by kernel_rfl) h) AF)) AF ?_
    refine Gi (Ad ?_)
    have W := W.frontZ (i := 6) Aa Aa
    have W := W.frontZ (i := 6) Aa Aa
    have W := W.frontZ (i := 6) Aa Aa
    have W := W.frontZ (i := 6) Aa Aa
    have W := W.frontZ (i := 6) Aa Aa
    have W := W.frontZ (i := 6) Aa Aa
    have W := W.frontM (i := 3) Aa Aa
    have W := W.frontM (i := 3) Aa Aa
    have W := W.frontM (i := 3) Aa Aa
    have W := W.frontM (i := 3) Aa Aa
    have W := W.sub (M' := [(b4, (GT x8 v8)), (b3, (Fx x7 v7)), (b2, (Fs x3 v3 v4)), (b1, (GP x2 v1 v2))]) (Z' := [Av v8 A9 x8.1.un.2.2.2, Av v7 AY x7.1.un.2.2.2, Av v3 A9 x3.1.un.2.1.un.2.2.2, Av v4 B3 x3.1.un.2.2.2.2, Av v1 AY x2.1.un.2.1.un.2.2.2, Av v2 BJ x2.1.un.2.2.2.2]) (List.Sublist.refl _) (List.Sublist.cons_cons _ (List.Sublist.cons_cons _ (List.Sublist.cons_cons _ (List.Sublist.cons_cons _ (List.Sublist.cons_cons _ (List.Sublist.cons_cons _ (List.nil_sublist _)))))))
    exact ⟨_, H, F.re ⟨rfl, trivial⟩, W⟩
   have H := AR (Bz hb) H
   rw [hb] at F
   clear hb
   iterate 3 refine IJ F Aa (Gb F Aa Aa Aa Aa Aa) Aa Aa Aa fun a F => ?_
   refine Cs (R := []) F Aa Aa (yC fun M Z hN hZ => AN F Aa Aa Aa) Aa Aa fun a F => ?_
   refine Cs (R := []) F Aa Aa (yC fun M Z hN hZ => Ah F Aa) Aa Aa fun a F => ?_
   refine Fg Aa ?_
   refine Ec F Aa Aa Aa Aa Aa Aa Aa fun a F => ?_
   refine B8 (N2 := []) (NZ2 := []) (N3 := [(some 1, b3, [.int .i64 x7.1.un.1, .int .i64 x7.1.un.2.1, .int .i64 x7.1.un.2.2.1, v7]), (some 3, b4, [.int .i64 x8.1.un.1, .int .i64 x8.1.un.2.1, .int .i64 x8.1.un.2.2.1, v8])]) (NZ3 := []) W Aa Aa (AC (fun h => A2 (by kernel_rfl) h) (AC (fun h => A2 (by kernel_rfl) h) AF)) AF ?_
   refine Cs (R := []) F Aa Aa (yC fun M Z hN hZ => AN F Aa Aa Aa) Aa Aa fun a F => ?_
   refine Fg Aa ?_
   refine ls F W Aa (Ag F Aa).q fun a w F W => ?_
   refine B8 (N2 := []) (NZ2 := []) (N3 := [(some 1, b3, [.int .i64 x7.1.un.1, .int .i64 x7.1.un.2.1, .int .i64 x7.1.un.2.2.1, v7]), (some 3, b4, [.int .i64 x8.1.un.1, .int .i64 x8.1.un.2.1, .int .i64 x8.1.un.2.2.1, v8])]) (NZ3 := []) W Aa Aa (AC (fun h => A2 (by kernel_rfl) h) (AC (fun h => A2 (by kernel_rfl) h) AF)) AF ?_
   refine Gi (Ad ?_)
   have W := W.frontZ (i := 6) Aa Aa
   have W := W.frontZ (i := 6) Aa Aa
   have W := W.frontZ (i := 6) Aa Aa
   have W := W.frontZ (i := 6) Aa Aa
   have W := W.frontZ (i := 6) Aa Aa
   have W := W.frontZ (i := 6) Aa Aa
   have W := W.frontM (i := 3) Aa Aa
   have W := W.frontM (i := 3) Aa Aa
   have W := W.frontM (i := 3) Aa Aa
   have W := W.frontM (i := 3) Aa Aa
   have W := W.sub (M' := [(b4, (GT x8 v8)), (b3, (Fx x7 v7)), (b2, (Fs x3 v3 v4)), (b1, (GP x2 v1 v2))]) (Z' := [Av v8 A9 x8.1.un.2.2.2, Av v7 AY x7.1.un.2.2.2, Av v3 A9 x3.1.un.2.1.un.2.2.2, Av v4 B3 x3.1.un.2.2.2.2, Av v1 AY x2.1.un.2.1.un.2.2.2, Av v2 BJ x2.1.un.2.2.2.2]) (List.Sublist.refl _) (List.Sublist.cons_cons _ (List.Sublist.cons_cons _ (List.Sublist.cons_cons _ (List.Sublist.cons_cons _ (List.Sublist.cons_cons _ (List.Sublist.cons_cons _ (List.nil_sublist _)))))))
   exact ⟨_, H, F.re ⟨rfl, trivial⟩, W⟩
  have H := AR (by rw [hb]; decide) H
  rw [hb] at F
  clear hb
  iterate 3 refine IJ F Aa (Gb F Aa Aa Aa Aa Aa) Aa Aa Aa fun a F => ?_
  refine Cs (R := []) F Aa Aa (yC fun M Z hN hZ => AN F Aa Aa Aa) Aa Aa fun a F => ?_
  refine Cs (R := []) F Aa Aa (yC fun M Z hN hZ => Ah F Aa) Aa Aa fun a F => ?_
  iterate 3 refine IJ F Aa (Gb F Aa Aa Aa Aa Aa) Aa Aa Aa fun a F => ?_
  refine Cs (R := []) F Aa Aa (yC fun M Z hN hZ => AN F Aa Aa Aa) Aa Aa fun a F => ?_
  refine Cs (R := []) F Aa Aa (yC fun M Z hN hZ => Ah F Aa) Aa Aa fun a F => ?_
  refine Fg Aa ?_
  refine Ec F Aa Aa Aa Aa Aa Aa Aa fun a F => ?_
  refine B8 (N2 := []) (NZ2 := []) (N3 := [(some 1, b3, [.int .i64 x7.1.un.1, .int .i64 x7.1.un.2.1, .int .i64 x7.1.un.2.2.1, v7]), (some 3, b4, [.int .i64 x8.1.un.1, .int .i64 x8.1.un.2.1, .int .i64 x8.1.un.2.2.1, v8])]) (NZ3 := []) W Aa Aa (AC (fun h => A2 (by kernel_rfl) h) (AC (fun h => A2 (by kernel_rfl) h) AF)) AF ?_
  refine Cs (R := []) F Aa Aa (yC fun M Z hN hZ => AN F Aa Aa Aa) Aa Aa fun a F => ?_
  refine Fg Aa ?_
  refine ls F W Aa (Ag F Aa).q fun a w F W => ?_
  refine B8 (N2 := []) (NZ2 := []) (N3 := [(some 1, b3, [.int .i64 x7.1.un.1, .int .i64 x7.1.un.2.1, .int .i64 x7.1.un.2.2.1, v7]), (some 3, b4, [.int .i64 x8.1.un.1, .int .i64 x8.1.un.2.1, .int .i64 x8.1.un.2.2.1, v8])]) (NZ3 := []) W Aa Aa (AC (fun h => A2 (by kernel_rfl) h) (AC (fun h => A2 (by kernel_rfl) h) AF)) AF ?_
  refine Gi (Ad ?_)
  have W := W.frontZ (i := 6) Aa Aa
  have W := W.frontZ (i := 6) Aa Aa
  have W := W.frontZ (i := 6) Aa Aa
  have W := W.frontZ (i := 6) Aa Aa
  have W := W.frontZ (i := 6) Aa Aa
  have W := W.frontZ (i := 6) Aa Aa
  have W := W.frontM (i := 3) Aa Aa
  have W := W.frontM (i := 3) Aa Aa
  have W := W.frontM (i := 3) Aa Aa
  have W := W.frontM (i := 3) Aa Aa
  have W := W.sub (M' := [(b4, (GT x8 v8)), (b3, (Fx x7 v7)), (b2, (Fs x3 v3 v4)), (b1, (GP x2 v1 v2))]) (Z' := [Av v8 A9 x8.1.un.2.2.2, Av v7 AY x7.1.un.2.2.2, Av v3 A9 x3.1.un.2.1.un.2.2.2, Av v4 B3 x3.1.un.2.2.2.2, Av v1 AY x2.1.un.2.1.un.2.2.2, Av v2 BJ x2.1.un.2.2.2.2]) (List.Sublist.refl _) (List.Sublist.cons_cons _ (List.Sublist.cons_cons _ (List.Sublist.cons_cons _ (List.Sublist.cons_cons _ (List.Sublist.cons_cons _ (List.Sublist.cons_cons _ (List.nil_sublist _)))))))
  exact ⟨_, H, F.re ⟨rfl, trivial⟩, W⟩
 rintro a w ⟨x9, hj, F, W⟩
 have hj := AH hj
 subst hj
 have H := K2
 clear G2 K2
 refine Aq ?_
 have H := AH H
 subst H
 refine AP (.inl Aa) F W Aa (Ap F Aa) ?_
 exact ⟨rfl, W.done⟩
end Go.Proofs.YtlgjpoapclifbaaDoor
