/- The functions of layer 27, Jw. Conditions: none. -/
import Derived.Test.YtpckgggmgijiiaaGreatDoorcU1
namespace Go.Proofs.YtpckgggmgijiiaaGreatDoor
noncomputable section
open Go Go.RowKit
set_option linter.unusedVariables false
set_option linter.unusedSimpArgs false
set_option maxRecDepth 20000
theorem ZC : Has Tryz.prog 72 := CP Tryz.func72
abbrev I2 (a0 : Nat) (a1 : Int × (Int × Int × Int × Int)) (a2 : Nat) (a3 : Tr37) (a4 : Value) (a5 : Value) : List (Nat × List Value) := [(a0, [.int .i64 a1.1, .int .i64 a1.2.1, .int .i64 a1.2.2.1, .int .i64 a1.2.2.2.1, .int .i64 a1.2.2.2.2]), (a2, [.int .i64 a3.un.1, .int .i64 a3.un.2.1.un.1, .int .i64 a3.un.2.1.un.2.1, .int .i64 a3.un.2.1.un.2.2.1, a4, .int .i64 a3.un.2.2.1, .int .i64 a3.un.2.2.2.1, a5])]
def Cn (fRec : Tr37 → Int → (Int × (Int × Int × Int × Int)) → Option (List (Int × (Int × Int × Int × Int)))) (p0 : Tr37) (p1 : Int) (p2 : Int × (Int × Int × Int × Int)) : ((List (Int × (Int × Int × Int × Int))) × Int) → Option (((List (Int × (Int × Int × Int × Int))) × Int) ⊕ (List (Int × (Int × Int × Int × Int))))
  | (x5, x6) => (if x6 < (p0.un.2.2.2.2.length : Int) then (ix p0.un.2.2.2.2 x6).bind fun x7 => (fRec (Tr37.of (x7.un.1, Tr34.of (x7.un.2.1.un.1, x7.un.2.1.un.2.1, x7.un.2.1.un.2.2.1, x7.un.2.1.un.2.2.2), x7.un.2.2.1, x7.un.2.2.2.1, x7.un.2.2.2.2)) p1 p2).bind fun x8 => some (.inl ((Ig AY x5 x8), AU (x6 + 1))) else some (.inr x5))
def Bq (fRec : Tr37 → Int → (Int × (Int × Int × Int × Int)) → Option (List (Int × (Int × Int × Int × Int)))) (p0 : Tr37) (p1 : Int) (p2 : Int × (Int × Int × Int × Int)) : Option (List (Int × (Int × Int × Int × Int))) := Ku (if p0.un.1 = 1 then (Hq (Tr34.of (p0.un.2.1.un.1, p0.un.2.1.un.2.1, p0.un.2.1.un.2.2.1, p0.un.2.1.un.2.2.2)) p1 p2.1 p2.2).bind fun x1 => (if x1 = true then some (.inr (GE AY ([] : List (Int × (Int × Int × Int × Int))) p2)) else some (.inl ())) else (if p0.un.1 = 2 then (Dz p2 p0.un.2.2.1 p0.un.2.2.2.1).bind fun x2 => some (.inr (GE AY ([] : List (Int × (Int × Int × Int × Int))) x2)) else (if p0.un.1 = 3 then ((CR fRec) p0.un.2.2.2.2 p1 p2).bind fun x3 => some (.inr x3) else (if p0.un.1 = 4 then (Ba (Cn fRec p0 p1 p2) (([] : List (Int × (Int × Int × Int × Int))), 0)).bind fun x4 => some (.inr x4) else (if p0.un.1 = 5 then (E2 (Tr37.of (p0.un.1, Tr34.of (p0.un.2.1.un.1, p0.un.2.1.un.2.1, p0.un.2.1.un.2.2.1, p0.un.2.1.un.2.2.2), p0.un.2.2.1, p0.un.2.2.2.1, p0.un.2.2.2.2)) p1 p2).bind fun x9 => (fRec (Tr37.of (x9.un.1, Tr34.of (x9.un.2.1.un.1, x9.un.2.1.un.2.1, x9.un.2.1.un.2.2.1, x9.un.2.1.un.2.2.2), x9.un.2.2.1, x9.un.2.2.2.1, x9.un.2.2.2.2)) p1 p2).bind fun x10 => some (.inr x10) else some (.inl ())))))) fun _ => some ([] : List (Int × (Int × Int × Int × Int)))
def Aj : Nat → Tr37 → Int → (Int × (Int × Int × Int × Int)) → Option (List (Int × (Int × Int × Int × Int)))
  | 0 => fun _ _ _ => none
  | n + 1 => Bq (Aj n)
def Eu (p0 : Tr37) (p1 : Int) (p2 : Int × (Int × Int × Int × Int)) : Option (List (Int × (Int × Int × Int × Int))) := HC fun n => Aj n p0 p1 p2
theorem LZ (fRec : Tr37 → Int → (Int × (Int × Int × Int × Int)) → Option (List (Int × (Int × Int × Int × Int)))) (ih : ∀ (Y : Nat → Prop) (w0 : World) (v1 : Value) (v2 : Value) (p0 : Tr37) (p1 : Int) (p2 : Int × (Int × Int × Int × Int)) (r : (List (Int × (Int × Int × Int × Int)))) (H : fRec p0 p1 p2 = some r) (h_v1 : Sl w0 (NX []) Bj v1 p0.un.2.1.un.2.2.2) (s_v2 : Sl w0 Y Bl v2 p0.un.2.2.2.2), Calls Tryz.prog 39 #[.agg #[.int .i64 p0.un.1, .int .i64 p0.un.2.1.un.1, .int .i64 p0.un.2.1.un.2.1, .int .i64 p0.un.2.1.un.2.2.1, v1, .int .i64 p0.un.2.2.1, .int .i64 p0.un.2.2.2.1, v2], .int .i64 p1, .agg #[.int .i64 p2.1, .int .i64 p2.2.1, .int .i64 p2.2.2.1, .int .i64 p2.2.2.2.1, .int .i64 p2.2.2.2.2]] w0 fun e w' => ∃ x : Value, e = .returned (x) ∧ Stw ⟨Y, [], w0⟩ [] [CI (x) C7 AY r] w') (Y : Nat → Prop) (w0 : World) (v1 : Value) (v2 : Value) (p0 : Tr37) (p1 : Int) (p2 : Int × (Int × Int × Int × Int)) (r : (List (Int × (Int × Int × Int × Int)))) (H : Bq fRec p0 p1 p2 = some r) (h_v1 : Sl w0 (NX []) Bj v1 p0.un.2.1.un.2.2.2) (s_v2 : Sl w0 Y Bl v2 p0.un.2.2.2.2) :
    Calls Tryz.prog 39 #[.agg #[.int .i64 p0.un.1, .int .i64 p0.un.2.1.un.1, .int .i64 p0.un.2.1.un.2.1, .int .i64 p0.un.2.1.un.2.2.1, v1, .int .i64 p0.un.2.2.1, .int .i64 p0.un.2.2.2.1, v2], .int .i64 p1, .agg #[.int .i64 p2.1, .int .i64 p2.2.1, .int .i64 p2.2.2.1, .int .i64 p2.2.2.2.1, .int .i64 p2.2.2.2.2]] w0 fun e w' => ∃ x : Value, e = .returned (x) ∧ Stw ⟨Y, [], w0⟩ [] [CI (x) C7 AY r] w' := by
 refine enter Tryz.func39 Aa Tryz.ntmps39 Aa fun a F => ?_
 have W := Stw.start Y w0
 obtain ⟨v3, h1, h_v1⟩ := h_v1.ex Co
 obtain ⟨v4, h2, s_v2⟩ := s_v2.ex Dy
 have h_v2 := W.nx s_v2
 unfold Bq at H
 refine vc tk 2 F W fun a w F W => ?_
 refine CX (cs := (BE p0 v1 v2)) F W Aa Aa Aa fun b1 a w F W => ?_
 refine CX (cs := (C1 p2)) F W Aa Aa Aa fun b2 a w F W => ?_
 refine vl tk 2 F W fun a w F W => ?_
 refine Ad ?_
 obtain ⟨o1, G1, K1, L1⟩ := RM H
 refine AA (fun a w => some (Sum.inl ()) = some o1 ∧ Fr 72 [] [(6, .map none)] a ∧ Stw ⟨Y, [], w0⟩ (I2 b2 p2 b1 p0 v1 v2) [] w) ?_ ?_
 ·
  have H := G1
  refine FR tk 13 [1] F W (ai fun a w F W => ?_)
  refine B9 F Aa (fun hb => ?_) fun hb => ?_
  ·
   have H := Cg (CQ hb) H
   rw [hb] at F
   refine FR tk 9 [1, 0, 0] F W (ai (ai (ai fun a w F W => ?_)))
   obtain ⟨x1, h3, H⟩ := Ag H
   refine ls F W Aa (AL (v := Value.bool x1) F YY Aa (fun w W => Nq any w (v1) (Tr34.of (p0.un.2.1.un.1, p0.un.2.1.un.2.1, p0.un.2.1.un.2.2.1, p0.un.2.1.un.2.2.2)) p1 p2.1 p2.2 _ h3 (Er (Ak Co h1 (Ah h_v1)) W))) fun a w F W => ?_
   refine Cv tk 2 F W fun a w F W => ?_
   refine CK F Aa H (fun F H => ?_) fun F H => ?_
   ·
    refine vc tk 2 F W fun a w F W => ?_
    refine Iu C7 AY F W Aa fun v5 a w F W => ?_
    have W : Stw ⟨Y, [], w0⟩ (I2 b2 p2 b1 p0 v1 v2) [CI v5 C7 AY ([] : List (Int × (Int × Int × Int × Int)))] w := W
    refine ls F W Aa (Bu (v := Value.agg #[.int .i64 p2.1, .int .i64 p2.2.1, .int .i64 p2.2.2.1, .int .i64 p2.2.2.2.1, .int .i64 p2.2.2.2.2]) 0 F Aa Aa D4 Aa).q fun a w F W => ?_
    refine ls F W Aa (CM (v := Value.agg #[]) Xp F Aa Aa Aa).q fun a w F W => ?_
    refine l_setput' (q := 0) (p2 : Int × (Int × Int × Int × Int)) F W Aa Aa Aa Aa Aa UK Gh R9 fun w W => ?_
    have W : Stw ⟨Y, [], w0⟩ (I2 b2 p2 b1 p0 v1 v2) [CI v5 C7 AY (GE AY ([] : List (Int × (Int × Int × Int × Int))) p2)] w := W
    refine Cv tk 4 F W fun a w F W => ?_
    refine Am (AH (Az ?_))
    have H := L1 _ H
    have H := AC H
    subst H
    refine Ax (.inl Aa) F W Aa (Ap F Aa) ?_
    have W := W.sub (M' := []) (Z' := [CI v5 C7 AY (GE AY ([] : List (Int × (Int × Int × Int × Int))) p2)]) (List.nil_sublist _) (List.Sublist.refl _)
    exact ⟨(v5), Aa, W⟩
   refine Bc (AM (Ad ?_))
   have W := W.frontM (i := 1) Aa Aa
   have W := W.frontM (i := 1) Aa Aa
   exact ⟨H, F.ra Aa, W⟩
  have H := Cf (CO hb) H
  rw [hb] at F
  refine vc tk 6 F W fun a w F W => ?_
  refine B9 F Aa (fun hb => ?_) fun hb => ?_
  ·
   have H := Cg (CQ hb) H
   rw [hb] at F
   refine vc tk 2 F W fun a w F W => ?_
   refine Iu C7 AY F W Aa fun v6 a w F W => ?_
   have W : Stw ⟨Y, [], w0⟩ (I2 b2 p2 b1 p0 v1 v2) [CI v6 C7 AY ([] : List (Int × (Int × Int × Int × Int)))] w := W
   refine Hw tk 5 [0, 1, 1] F W (ai (ai (ai fun a w F W => ?_)))
   obtain ⟨x2, h4, H⟩ := Ag H
   refine ls F W Aa (AL (v := Value.agg #[.int .i64 x2.1, .int .i64 x2.2.1, .int .i64 x2.2.2.1, .int .i64 x2.2.2.2.1, .int .i64 x2.2.2.2.2]) F Y2 Aa (fun w W => My any w p2 p0.un.2.2.1 p0.un.2.2.2.1 _ h4)) fun a w F W => ?_
   refine ls F W Aa (CM (v := Value.agg #[]) Xp F Aa Aa Aa).q fun a w F W => ?_
   refine l_setput' (q := 0) (x2 : Int × (Int × Int × Int × Int)) F W Aa Aa Aa Aa Aa UK Gh R9 fun w W => ?_
   have W : Stw ⟨Y, [], w0⟩ (I2 b2 p2 b1 p0 v1 v2) [CI v6 C7 AY (GE AY ([] : List (Int × (Int × Int × Int × Int))) x2)] w := W
   refine Cv tk 4 F W fun a w F W => ?_
   refine Am (AH (Az ?_))
   have H := L1 _ H
   have H := AC H
   subst H
   refine Ax (.inl Aa) F W Aa (Ap F Aa) ?_
   have W := W.sub (M' := []) (Z' := [CI v6 C7 AY (GE AY ([] : List (Int × (Int × Int × Int × Int))) x2)]) (List.nil_sublist _) (List.Sublist.refl _)
   exact ⟨(v6), Aa, W⟩
  have H := Cf (CO hb) H
  rw [hb] at F
  refine vc tk 6 F W fun a w F W => ?_
  refine B9 F Aa (fun hb => ?_) fun hb => ?_
  ·
   have H := Cg (CQ hb) H
   rw [hb] at F
   refine FR tk 6 [1, 0] F W (ai (ai fun a w F W => ?_))
   obtain ⟨x3, h5, H⟩ := Ag H
   refine A7 (Ml := []) (Zl := []) (β := Value) (rv := fun x => x) (MM := fun x => []) (ZZ := fun x => [CI x C7 AY x3]) F W Zm Aa Aa (fun hL => (Li fRec ih) _ w (v2) p0.un.2.2.2.2 p1 p2 _ h5 (Sl.hide Dy h2 (W.old s_v2))) fun x a w F W => ?_
   obtain ⟨v7, rfl⟩ : ∃ y, y = x := ⟨x, rfl⟩
   have W : Stw ⟨Y, [], w0⟩ (I2 b2 p2 b1 p0 v1 v2) [CI v7 C7 AY x3] w := W
   refine Cv tk 3 F W fun a w F W => ?_
   refine Am (AH (Az ?_))
   have H := L1 _ H
   have H := AC H
   subst H
   refine Ax (.inl Aa) F W Aa (Ap F Aa) ?_
   have W := W.sub (M' := []) (Z' := [CI v7 C7 AY x3]) (List.nil_sublist _) (List.Sublist.refl _)
   exact ⟨(v7), Aa, W⟩
  have H := Cf (CO hb) H
  rw [hb] at F
  refine vc tk 6 F W fun a w F W => ?_
  refine B9 F Aa (fun hb => ?_) fun hb => ?_
  ·
   have H := Cg (CQ hb) H
   rw [hb] at F
   refine vc tk 2 F W fun a w F W => ?_
   refine Iu C7 AY F W Aa fun v8 a w F W => ?_
   have W : Stw ⟨Y, [], w0⟩ (I2 b2 p2 b1 p0 v1 v2) [CI v8 C7 AY ([] : List (Int × (Int × Int × Int × Int)))] w := W
   refine vl tk 2 F W fun a w F W => ?_
   refine Ad ?_
   obtain ⟨o2, G2, K2⟩ := Ag H
   refine AA (fun a w => ∃ x4 : List (Int × (Int × Int × Int × Int)), some (x4) = some o2 ∧ Fr 72 [] [(6, .map none), (7, v8)] a ∧ Stw ⟨Y, [], w0⟩ (I2 b2 p2 b1 p0 v1 v2) [CI v8 C7 AY x4] w) ?_ ?_
   ·
    have H := G2
    refine FR tk 4 [1] F W (ai fun a w F W => ?_)
    refine ls F W Aa (C2 (r := Bl) (l := p0.un.2.2.2.2) LU Aa F Aa (Ak Dy h2 (Ah h_v2))).q fun a w F W => ?_
    refine Cv tk 4 F W fun a w F W => ?_
    have W := W.frontM (i := 1) Aa Aa
    have W := W.frontM (i := 1) Aa Aa
    refine BN H (fun s a w => Fr 72 [] [(1, .int .i64 p1), (5, .pointer (some ⟨b2, 0, none⟩)), (6, .map none), (7, v8), (48, v2), (49, .int .i64 (p0.un.2.2.2.2.length : Int)), (50, .int .i64 s.2)] a ∧ Stw ⟨Y, [], w0⟩ (I2 b2 p2 b1 p0 v1 v2) [CI v8 C7 AY s.1] w) ⟨F.ra Aa, W⟩ fun s o a w H L3 hR => ?_
    obtain ⟨x5, x6⟩ := s
    obtain ⟨F, W⟩ := hR
    have F : Fr 72 [] [(1, .int .i64 p1), (5, .pointer (some ⟨b2, 0, none⟩)), (6, .map none), (7, v8), (48, v2), (49, .int .i64 (p0.un.2.2.2.2.length : Int)), (50, .int .i64 x6)] a := F
    have W : Stw ⟨Y, [], w0⟩ (I2 b2 p2 b1 p0 v1 v2) [CI v8 C7 AY x5] w := W
    rw [Cn] at H
    refine vc tk 6 F W fun a w F W => ?_
    refine BU F Aa H (fun F H => ?_) fun F H => ?_
    ·
     refine Gp tk 6 F W fun a w F W => ?_
     obtain ⟨x7, h6, H⟩ := Ag H
     obtain ⟨v9, h7, h8⟩ := DQ h2 h6
     have h9 : IU v9 = [.int .i64 x7.un.1, .int .i64 x7.un.2.1.un.1, .int .i64 x7.un.2.1.un.2.1, .int .i64 x7.un.2.1.un.2.2.1, (v9.2.1.2.2.2.1), .int .i64 x7.un.2.2.1, .int .i64 x7.un.2.2.2.1, (v9.2.2.2.2.1)] := congrArg (fun q : Tr37 => ([.int .i64 q.un.1, .int .i64 q.un.2.1.un.1, .int .i64 q.un.2.1.un.2.1, .int .i64 q.un.2.1.un.2.2.1, (v9.2.1.2.2.2.1), .int .i64 q.un.2.2.1, .int .i64 q.un.2.2.2.1, (v9.2.2.2.2.1)] : List Value)) h8
     refine ls F W Aa (Aw (r := Dd) NC F Aa Aa (Ah h_v2) h7).q fun a w F W => ?_
     refine ls F W Aa (An (y := Value.agg #[.int .i64 x7.un.1, .int .i64 x7.un.2.1.un.1, .int .i64 x7.un.2.1.un.2.1, .int .i64 x7.un.2.1.un.2.2.1, (v9.2.1.2.2.2.1), .int .i64 x7.un.2.2.1, .int .i64 x7.un.2.2.2.1, (v9.2.2.2.2.1)]) (j := 0) (i := x6) (enc := IU) F Aa Aa (Ah h_v2) h7 OA Is (by rw [h9]; rfl)).q fun a w F W => ?_
     refine AF (cs := (AB)) F W Aa Fx Aa fun b3 a w F W => ?_
     refine DZ 0 F W Aa Aa Aa Is Aa Aa (Af Aa (Af Aa (Af Aa (Af Aa (Af ((Br (Ah h_v2) h7 (Ai.snd (Ai.fst (Ai.snd (Ai.snd (Ai.snd Ai.here))))) (congrArg (fun q : Tr37 => q.un.2.1.un.2.2.2) h8)) _ W).one (Af Aa (Af Aa (Af ((Br (Ah h_v2) h7 (Ai.snd (Ai.snd (Ai.snd (Ai.snd Ai.here)))) (congrArg (fun q : Tr37 => q.un.2.2.2.2) h8)) _ W).one CT)))))))) fun w W => ?_
     refine Gz tk 7 [0, 1] F W (ai (ai fun a w F W => ?_))
     obtain ⟨x8, h10, H⟩ := Ag H
     refine A7 (Ml := []) (Zl := []) (β := Value) (rv := fun x => x) (MM := fun x => []) (ZZ := fun x => [CI x C7 AY x8]) F W Xn Aa Aa (fun hL => ih _ w ((v9.2.1.2.2.2.1)) ((v9.2.2.2.2.1)) (Tr37.of (x7.un.1, Tr34.of (x7.un.2.1.un.1, x7.un.2.1.un.2.1, x7.un.2.1.un.2.2.1, x7.un.2.1.un.2.2.2), x7.un.2.2.1, x7.un.2.2.2.1, x7.un.2.2.2.2)) p1 p2 _ h10 ((Br (Ah h_v2) h7 (Ai.snd (Ai.fst (Ai.snd (Ai.snd (Ai.snd Ai.here))))) (congrArg (fun q : Tr37 => q.un.2.1.un.2.2.2) h8)) w W).nx (Sl.at_ (W.old s_v2) h7 (Ai.snd (Ai.snd (Ai.snd (Ai.snd Ai.here)))) (congrArg (fun q : Tr37 => q.un.2.2.2.2) h8))) fun x a w F W => ?_
     obtain ⟨v10, rfl⟩ : ∃ y, y = x := ⟨x, rfl⟩
     have W : Stw ⟨Y, [], w0⟩ [(b3, [.int .i64 x7.un.1, .int .i64 x7.un.2.1.un.1, .int .i64 x7.un.2.1.un.2.1, .int .i64 x7.un.2.1.un.2.2.1, (v9.2.1.2.2.2.1), .int .i64 x7.un.2.2.1, .int .i64 x7.un.2.2.2.1, (v9.2.2.2.2.1)]), (b2, (C1 p2)), (b1, (BE p0 v1 v2))] [CI v10 C7 AY x8, CI v8 C7 AY x5] w := W
     have W := W.frontZ (i := 1) Aa Aa
     refine A7 (Ml := []) (Zl := [CI v8 C7 AY x5, CI v10 C7 AY x8]) (β := Unit) (rv := fun _ => .tuple #[]) (MM := fun _ => []) (ZZ := fun _ => [CI v10 C7 AY x8, CI v8 C7 AY (Ig AY x5 x8)]) F W YB Aa Aa (fun hL => Uq _ _ w _ _ _ _ hL) fun _ a w F W => ?_
     have W : Stw ⟨Y, [], w0⟩ [(b3, [.int .i64 x7.un.1, .int .i64 x7.un.2.1.un.1, .int .i64 x7.un.2.1.un.2.1, .int .i64 x7.un.2.1.un.2.2.1, (v9.2.1.2.2.2.1), .int .i64 x7.un.2.2.1, .int .i64 x7.un.2.2.2.1, (v9.2.2.2.2.1)]), (b2, (C1 p2)), (b1, (BE p0 v1 v2))] [CI v10 C7 AY x8, CI v8 C7 AY (Ig AY x5 x8)] w := W
     refine Fd (AM ?_)
     refine vn tk 4 F W fun a w F W => ?_
     refine Ad ?_
     have W := W.frontZ (i := 1) Aa Aa
     have W := W.frontM (i := 2) Aa Aa
     have W := W.frontM (i := 2) Aa Aa
     have W := W.sub (M' := (I2 b2 p2 b1 p0 v1 v2)) (Z' := [CI v8 C7 AY (Ig AY x5 x8)]) (List.Sublist.cons_cons _ (List.Sublist.cons_cons _ (List.nil_sublist _))) (List.Sublist.cons_cons _ (List.nil_sublist _))
     exact ⟨_, H, F.ra Aa, W⟩
    refine BB ?_
    iterate 2 refine BR ?_
    refine Bx (Ad ?_)
    have W := W.frontM (i := 1) Aa Aa
    have W := W.frontM (i := 1) Aa Aa
    have H := L3 _ H
    exact ⟨_, H, F.ra Aa, W⟩
   rintro a w ⟨x4, hj, F, W⟩
   have hj := AC hj
   subst hj
   have H := K2
   refine vc tk 6 F W fun a w F W => ?_
   refine Am (AH (Az ?_))
   have H := L1 _ H
   have H := AC H
   subst H
   refine Ax (.inl Aa) F W Aa (Ap F Aa) ?_
   have W := W.sub (M' := []) (Z' := [CI v8 C7 AY x4]) (List.nil_sublist _) (List.Sublist.refl _)
   exact ⟨(v8), Aa, W⟩
  have H := Cf (CO hb) H
  rw [hb] at F
  refine vc tk 6 F W fun a w F W => ?_
  refine B9 F Aa (fun hb => ?_) fun hb => ?_
  ·
   have H := Cg (CQ hb) H
   rw [hb] at F
   refine GK ?_
   refine EX [(true, 0), (true, 1), (true, 2), (true, 4), (true, 5), (false, 3), (false, 6), (false, 7)] (CN ⟨Y, [], w0⟩ [(some 3, b1, [.int .i64 p0.un.1, .int .i64 p0.un.2.1.un.1, .int .i64 p0.un.2.1.un.2.1, .int .i64 p0.un.2.1.un.2.2.1, v1, .int .i64 p0.un.2.2.1, .int .i64 p0.un.2.2.2.1, v2]), (some 3, b2, [.int .i64 p2.1, .int .i64 p2.2.1, .int .i64 p2.2.2.1, .int .i64 p2.2.2.2.1, .int .i64 p2.2.2.2.2]), (some 6, b2, [.int .i64 p2.1, .int .i64 p2.2.1, .int .i64 p2.2.2.1, .int .i64 p2.2.2.2.1, .int .i64 p2.2.2.2.2])] []) (fun ch a d v w h => by cases d <;> exact h) MO (by kernel_rfl) W (fun w W => ⟨_, _, W, (all_cons (fun _ => (.tail _ (.head _))) (all_cons (fun _ => (.head _)) (all_cons (fun _ => (.head _)) Ab))), Ab⟩) fun w W => ?_
   refine BD (R := [3]) F Aa Aa (yC fun M Z hN hZ => Cw (cs := (BE p0 v1 v2)) (v := Value.agg #[.int .i64 p0.un.1, .int .i64 p0.un.2.1.un.1, .int .i64 p0.un.2.1.un.2.1, .int .i64 p0.un.2.1.un.2.2.1, v1, .int .i64 p0.un.2.2.1, .int .i64 p0.un.2.2.2.1, v2]) F Aa (hN ((some 3), b1, (BE p0 v1 v2)) (.head _) Aa) Is Aa) (by kernel_rfl) Aa fun a F => ?_
   refine BD (R := []) F Aa Aa (yC fun M Z hN hZ => Aq F Aa) Aa Aa fun a F => ?_
   refine BD (R := [3]) F Aa Aa (yC fun M Z hN hZ => Cw (cs := (C1 p2)) (v := Value.agg #[.int .i64 p2.1, .int .i64 p2.2.1, .int .i64 p2.2.2.1, .int .i64 p2.2.2.2.1, .int .i64 p2.2.2.2.2]) F Aa (hN ((some 3), b2, (C1 p2)) (.tail _ (.head _)) Aa) D4 Aa) (by kernel_rfl) Aa fun a F => ?_
   refine BD (R := []) F Aa Aa (yC fun M Z hN hZ => Aq F Aa) Aa Aa fun a F => ?_
   refine BD (R := [6]) F Aa Aa (yC fun M Z hN hZ => Cw (cs := (C1 p2)) (v := Value.agg #[.int .i64 p2.1, .int .i64 p2.2.1, .int .i64 p2.2.2.1, .int .i64 p2.2.2.2.1, .int .i64 p2.2.2.2.2]) F Aa (hN ((some 6), b2, (C1 p2)) (.tail _ (.tail _ (.head _))) Aa) D4 Aa) (by kernel_rfl) Aa fun a F => ?_
   refine DU Aa ?_
   obtain ⟨x9, h11, H⟩ := Ag H
   refine A7 (Ml := []) (Zl := []) (β := Value × Value) (rv := fun x => .agg #[.int .i64 x9.un.1, .int .i64 x9.un.2.1.un.1, .int .i64 x9.un.2.1.un.2.1, .int .i64 x9.un.2.1.un.2.2.1, x.1, .int .i64 x9.un.2.2.1, .int .i64 x9.un.2.2.2.1, x.2]) (MM := fun x => []) (ZZ := fun x => [B7 x.1 Bj x9.un.2.1.un.2.2.2, B7 x.2 Bl x9.un.2.2.2.2]) F W ZC Aa Aa (fun hL => NO _ w (v1) (v2) (Tr37.of (p0.un.1, Tr34.of (p0.un.2.1.un.1, p0.un.2.1.un.2.1, p0.un.2.1.un.2.2.1, p0.un.2.1.un.2.2.2), p0.un.2.2.1, p0.un.2.2.2.1, p0.un.2.2.2.2)) p1 p2 _ h11 ((Ak Co h1 (Ah h_v1)) w W).nx (Sl.hide Dy h2 (W.old s_v2))) fun x a w F W => ?_
   obtain ⟨v11, v12⟩ := x
   have W : Stw ⟨Y, [], w0⟩ (I2 b2 p2 b1 p0 v1 v2) [B7 v11 Bj x9.un.2.1.un.2.2.2, B7 v12 Bl x9.un.2.2.2.2] w := W
   refine BG (N2 := []) (NZ2 := []) (N3 := [(some 3, b1, [.int .i64 p0.un.1, .int .i64 p0.un.2.1.un.1, .int .i64 p0.un.2.1.un.2.1, .int .i64 p0.un.2.1.un.2.2.1, v1, .int .i64 p0.un.2.2.1, .int .i64 p0.un.2.2.2.1, v2]), (some 3, b2, [.int .i64 p2.1, .int .i64 p2.2.1, .int .i64 p2.2.2.1, .int .i64 p2.2.2.2.1, .int .i64 p2.2.2.2.2]), (some 6, b2, [.int .i64 p2.1, .int .i64 p2.2.1, .int .i64 p2.2.2.1, .int .i64 p2.2.2.2.1, .int .i64 p2.2.2.2.2])]) (NZ3 := []) W Aa Aa (all_cons (fun h => Ae (by kernel_rfl) h) (all_cons (fun h => Ae (by kernel_rfl) h) (all_cons (fun _ => (.head _)) Ab))) Ab ?_
   refine DU Aa ?_
   obtain ⟨x10, h12, H⟩ := Ag H
   refine A7 (Ml := []) (Zl := []) (β := Value) (rv := fun x => x) (MM := fun x => []) (ZZ := fun x => [CI x C7 AY x10]) F W Xn Aa Aa (fun hL => ih _ w (v11) (v12) (Tr37.of (x9.un.1, Tr34.of (x9.un.2.1.un.1, x9.un.2.1.un.2.1, x9.un.2.1.un.2.2.1, x9.un.2.1.un.2.2.2), x9.un.2.2.1, x9.un.2.2.2.1, x9.un.2.2.2.2)) p1 p2 _ h12 ((Ea 0 Aa) w W).nx (W.item (i := 1) Aa)) fun x a w F W => ?_
   obtain ⟨v13, rfl⟩ : ∃ y, y = x := ⟨x, rfl⟩
   have W : Stw ⟨Y, [], w0⟩ (I2 b2 p2 b1 p0 v1 v2) [CI v13 C7 AY x10, B7 v11 Bj x9.un.2.1.un.2.2.2, B7 v12 Bl x9.un.2.2.2.2] w := W
   refine BG (N2 := []) (NZ2 := []) (N3 := [(some 3, b1, [.int .i64 p0.un.1, .int .i64 p0.un.2.1.un.1, .int .i64 p0.un.2.1.un.2.1, .int .i64 p0.un.2.1.un.2.2.1, v1, .int .i64 p0.un.2.2.1, .int .i64 p0.un.2.2.2.1, v2]), (some 3, b2, [.int .i64 p2.1, .int .i64 p2.2.1, .int .i64 p2.2.2.1, .int .i64 p2.2.2.2.1, .int .i64 p2.2.2.2.2]), (some 6, b2, [.int .i64 p2.1, .int .i64 p2.2.1, .int .i64 p2.2.2.1, .int .i64 p2.2.2.2.1, .int .i64 p2.2.2.2.2])]) (NZ3 := []) W Aa Aa (all_cons (fun h => Ae (by kernel_rfl) h) (all_cons (fun h => Ae (by kernel_rfl) h) (all_cons (fun h => Ae (by kernel_rfl) h) Ab))) Ab ?_
   refine DU Aa ?_
   refine ls F W Aa (Bz F Aa).q fun a w F W => ?_
   refine BG (N2 := []) (NZ2 := []) (N3 := [(some 3, b1, [.int .i64 p0.un.1, .int .i64 p0.un.2.1.un.1, .int .i64 p0.un.2.1.un.2.1, .int .i64 p0.un.2.1.un.2.2.1, v1, .int .i64 p0.un.2.2.1, .int .i64 p0.un.2.2.2.1, v2]), (some 3, b2, [.int .i64 p2.1, .int .i64 p2.2.1, .int .i64 p2.2.2.1, .int .i64 p2.2.2.2.1, .int .i64 p2.2.2.2.2]), (some 6, b2, [.int .i64 p2.1, .int .i64 p2.2.1, .int .i64 p2.2.2.1, .int .i64 p2.2.2.2.1, .int .i64 p2.2.2.2.2])]) (NZ3 := []) W Aa Aa (all_cons (fun h => Ae (by kernel_rfl) h) (all_cons (fun h => Ae (by kernel_rfl) h) (all_cons (fun h => Ae (by kernel_rfl) h) Ab))) Ab ?_
   refine GM (Ad (Am (AH (Az ?_))))
   have H := L1 _ H
   have H := AC H
   subst H
   refine Ax (.inl Aa) F W Aa (Ap F Aa) ?_
   have W := W.sub (M' := []) (Z' := [CI v13 C7 AY x10]) (List.nil_sublist _) (List.Sublist.cons_cons _ (List.nil_sublist _))
   exact ⟨(v13), Aa, W⟩
  have H := Cf (CO hb) H
  rw [hb] at F
  refine Bc (AM (Ad ?_))
  have W := W.frontM (i := 1) Aa Aa
  have W := W.frontM (i := 1) Aa Aa
  exact ⟨H, F.ra Aa, W⟩
 rintro a w ⟨hj, F, W⟩
 have H := K1 _ hj
 refine vc tk 2 F W fun a w F W => ?_
 refine Iu C7 AY F W Aa fun v14 a w F W => ?_
 have W : Stw ⟨Y, [], w0⟩ (I2 b2 p2 b1 p0 v1 v2) [CI v14 C7 AY ([] : List (Int × (Int × Int × Int × Int)))] w := W
 refine Cv tk 3 F W fun a w F W => ?_
 refine Am ?_
 have H := AC H
 subst H
 refine Ax (.inl Aa) F W Aa (Ap F Aa) ?_
 have W := W.sub (M' := []) (Z' := [CI v14 C7 AY ([] : List (Int × (Int × Int × Int × Int)))]) (List.nil_sublist _) (List.Sublist.refl _)
 exact ⟨(v14), Aa, W⟩
theorem ME : ∀ (n : Nat) (Y : Nat → Prop) (w0 : World) (v1 : Value) (v2 : Value) (p0 : Tr37) (p1 : Int) (p2 : Int × (Int × Int × Int × Int)) (r : (List (Int × (Int × Int × Int × Int)))) (H : Aj n p0 p1 p2 = some r) (h_v1 : Sl w0 (NX []) Bj v1 p0.un.2.1.un.2.2.2) (s_v2 : Sl w0 Y Bl v2 p0.un.2.2.2.2), Calls Tryz.prog 39 #[.agg #[.int .i64 p0.un.1, .int .i64 p0.un.2.1.un.1, .int .i64 p0.un.2.1.un.2.1, .int .i64 p0.un.2.1.un.2.2.1, v1, .int .i64 p0.un.2.2.1, .int .i64 p0.un.2.2.2.1, v2], .int .i64 p1, .agg #[.int .i64 p2.1, .int .i64 p2.2.1, .int .i64 p2.2.2.1, .int .i64 p2.2.2.2.1, .int .i64 p2.2.2.2.2]] w0 fun e w' => ∃ x : Value, e = .returned (x) ∧ Stw ⟨Y, [], w0⟩ [] [CI (x) C7 AY r] w' := by
  intro n
  induction n with
  | zero => intro Y w0 v1 v2 p0 p1 p2 r H; exact nomatch H
  | succ n ih => intro Y w0 v1 v2 p0 p1 p2 r H h_v1 s_v2; exact LZ (Aj n) ih Y w0 v1 v2 p0 p1 p2 r H h_v1 s_v2
theorem MW (Y : Nat → Prop) (w0 : World) (v1 : Value) (v2 : Value) (p0 : Tr37) (p1 : Int) (p2 : Int × (Int × Int × Int × Int)) (r : (List (Int × (Int × Int × Int × Int)))) (H : Eu p0 p1 p2 = some r) (h_v1 : Sl w0 (NX []) Bj v1 p0.un.2.1.un.2.2.2) (s_v2 : Sl w0 Y Bl v2 p0.un.2.2.2.2) :
    Calls Tryz.prog 39 #[.agg #[.int .i64 p0.un.1, .int .i64 p0.un.2.1.un.1, .int .i64 p0.un.2.1.un.2.1, .int .i64 p0.un.2.1.un.2.2.1, v1, .int .i64 p0.un.2.2.1, .int .i64 p0.un.2.2.2.1, v2], .int .i64 p1, .agg #[.int .i64 p2.1, .int .i64 p2.2.1, .int .i64 p2.2.2.1, .int .i64 p2.2.2.2.1, .int .i64 p2.2.2.2.2]] w0 fun e w' => ∃ x : Value, e = .returned (x) ∧ Stw ⟨Y, [], w0⟩ [] [CI (x) C7 AY r] w' := by
  obtain ⟨n, H⟩ := CZ H
  exact ME n Y w0 v1 v2 p0 p1 p2 r H h_v1 s_v2
theorem YL : type_of% Tryz.underlying5 := Tryz.underlying5
theorem Y6 : type_of% Tryz.underlying9 := Tryz.underlying9
theorem ST : type_of% Tryz.underlying45 := Tryz.underlying45
theorem Xj : type_of% Tryz.underlying138 := Tryz.underlying138
abbrev XE : Rp (Int × Int × Int × Int) := (Rp.pair (Rp.int .i64) (Rp.pair (Rp.int .i64) (Rp.pair (Rp.int .i64) (Rp.int .i64))))
abbrev Bo : Rp (Int × (Int × Int × Int × Int)) := (Rp.pair (Rp.int .i64) XE)
def YO (a : Int × Int × Int × Int) : List Value := [.int .i64 a.1, .int .i64 a.2.1, .int .i64 a.2.2.1, .int .i64 a.2.2.2]
theorem YJ : Fl XE YO := (Fl.pair Fl.int (Fl.pair Fl.int (Fl.pair Fl.int Fl.int)))
def Y9 (a : Int × (Int × Int × Int × Int)) : List Value := [.int .i64 a.1, .int .i64 a.2.1, .int .i64 a.2.2.1, .int .i64 a.2.2.2.1, .int .i64 a.2.2.2.2]
theorem EM : Fl Bo Y9 := (Fl.pair Fl.int YJ)
theorem EJ : Et Tryz.prog 45 63 5 40 := Et.of ST (by kernel_rfl) (by kernel_rfl) (by kernel_rfl) (by decide)
def GZ (p0 : Int) : Option Int := (if 4294967296 ≤ p0 then some (Ke .u64 p0 32, 32) else some (p0, 0)).bind fun (x1, x2) => (if 65536 ≤ x1 then some (Ke .u64 x1 16, AU (x2 + 16)) else some (x1, x2)).bind fun (x3, x4) => (if 256 ≤ x3 then some (Ke .u64 x3 8, AU (x4 + 8)) else some (x3, x4)).bind fun (x5, x6) => (ix ([0, 1, 2, 2, 3, 3, 3, 3, 4, 4, 4, 4, 4, 4, 4, 4, 5, 5, 5, 5, 5, 5, 5, 5, 5, 5, 5, 5, 5, 5, 5, 5, 6, 6, 6, 6, 6, 6, 6, 6, 6, 6, 6, 6, 6, 6, 6, 6, 6, 6, 6, 6, 6, 6, 6, 6, 6, 6, 6, 6, 6, 6, 6, 6, 7, 7, 7, 7, 7, 7, 7, 7, 7, 7, 7, 7, 7, 7, 7, 7, 7, 7, 7, 7, 7, 7, 7, 7, 7, 7, 7, 7, 7, 7, 7, 7, 7, 7, 7, 7, 7, 7, 7, 7, 7, 7, 7, 7, 7, 7, 7, 7, 7, 7, 7, 7, 7, 7, 7, 7, 7, 7, 7, 7, 7, 7, 7, 7, 8, 8, 8, 8, 8, 8, 8, 8, 8, 8, 8, 8, 8, 8, 8, 8, 8, 8, 8, 8, 8, 8, 8, 8, 8, 8, 8, 8, 8, 8, 8, 8, 8, 8, 8, 8, 8, 8, 8, 8, 8, 8, 8, 8, 8, 8, 8, 8, 8, 8, 8, 8, 8, 8, 8, 8, 8, 8, 8, 8, 8, 8, 8, 8, 8, 8, 8, 8, 8, 8, 8, 8, 8, 8, 8, 8, 8, 8, 8, 8, 8, 8, 8, 8, 8, 8, 8, 8, 8, 8, 8, 8, 8, 8, 8, 8, 8, 8, 8, 8, 8, 8, 8, 8, 8, 8, 8, 8, 8, 8, 8, 8, 8, 8, 8, 8, 8, 8, 8, 8, 8, 8, 8, 8, 8, 8, 8, 8] : List UInt8) (IntKind.u8.wrap x5)).bind fun x7 => some (AU (x6 + (AU (x7.toNat : Int))))
theorem MS (Y : Nat → Prop) (w0 : World)  (p0 : Int) (r : Int) (H : GZ p0 = some r)  :
    Calls Tryz.prog 102 #[.int .u64 p0] w0 fun e w' => e = .returned (.int .i64 r) ∧ Below w0.heap.size w0 w' := by
 refine enter Tryz.func102 Aa Tryz.ntmps102 Aa fun a F => ?_
 have W := Stw.start Y w0
 unfold GZ at H
 refine vc tk 5 F W fun a w F W => ?_
 obtain ⟨o1, G1, K1⟩ := Ag H
 refine AA (fun a w => ∃ x1 : Int, ∃ x2 : Int, some ((x1, x2)) = some o1 ∧ Fr 25 [] [(0, .int .u64 x1), (2, .int .i64 x2)] a ∧ Stw ⟨Y, [], w0⟩ [] [] w) ?_ ?_
 ·
  have H := G1
  refine vc tk 6 F W fun a w F W => ?_
  refine BU F Aa H (fun F H => ?_) fun F H => ?_
  ·
   refine vc tk 3 F W fun a w F W => ?_
   refine ls F W Aa (Sm F Aa Aa (by decide)).q fun a w F W => ?_
   refine Cv tk 6 F W fun a w F W => ?_
   refine Ad ?_
   exact ⟨_, _, H, F.ra Aa, W⟩
  refine Bc (Ad ?_)
  exact ⟨_, _, H, F.ra Aa, W⟩
 rintro a w ⟨x1, x2, hj, F, W⟩
 have hj := AC hj
 subst hj
 have H := K1
 obtain ⟨o2, G2, K2⟩ := Ag H
 refine AA (fun a w => ∃ x3 : Int, ∃ x4 : Int, some ((x3, x4)) = some o2 ∧ Fr 25 [] [(0, .int .u64 x3), (2, .int .i64 x4)] a ∧ Stw ⟨Y, [], w0⟩ [] [] w) ?_ ?_
 ·
  have H := G2
  refine vc tk 6 F W fun a w F W => ?_
  refine BU F Aa H (fun F H => ?_) fun F H => ?_
  ·
   refine vc tk 3 F W fun a w F W => ?_
   refine ls F W Aa (Sm F Aa Aa (by decide)).q fun a w F W => ?_
   refine Cv tk 8 F W fun a w F W => ?_
   refine Ad ?_
   exact ⟨_, _, H, F.ra Aa, W⟩
  refine Bc (Ad ?_)
  exact ⟨_, _, H, F.ra Aa, W⟩
 rintro a w ⟨x3, x4, hj, F, W⟩
 have hj := AC hj
 subst hj
 have H := K2
 obtain ⟨o3, G3, K3⟩ := Ag H
 refine AA (fun a w => ∃ x5 : Int, ∃ x6 : Int, some ((x5, x6)) = some o3 ∧ Fr 25 [] [(0, .int .u64 x5), (2, .int .i64 x6)] a ∧ Stw ⟨Y, [], w0⟩ [] [] w) ?_ ?_
 ·
  have H := G3
  refine vc tk 6 F W fun a w F W => ?_
  refine BU F Aa H (fun F H => ?_) fun F H => ?_
  ·
   refine vc tk 3 F W fun a w F W => ?_
   refine ls F W Aa (Sm F Aa Aa (by decide)).q fun a w F W => ?_
   refine Cv tk 8 F W fun a w F W => ?_
   refine Ad ?_
   exact ⟨_, _, H, F.ra Aa, W⟩
  refine Bc (Ad ?_)
  exact ⟨_, _, H, F.ra Aa, W⟩
 rintro a w ⟨x5, x6, hj, F, W⟩
 have hj := AC hj
 subst hj
 have H := K3
 refine vc tk 4 F W fun a w F W => ?_
 refine ls F W Aa (Lf Xj YL F Aa).q fun a w F W => ?_
 obtain ⟨x7, h1, H⟩ := Ag H
 refine ls F W Aa (Uu (l := ([0, 1, 2, 2, 3, 3, 3, 3, 4, 4, 4, 4, 4, 4, 4, 4, 5, 5, 5, 5, 5, 5, 5, 5, 5, 5, 5, 5, 5, 5, 5, 5, 6, 6, 6, 6, 6, 6, 6, 6, 6, 6, 6, 6, 6, 6, 6, 6, 6, 6, 6, 6, 6, 6, 6, 6, 6, 6, 6, 6, 6, 6, 6, 6, 7, 7, 7, 7, 7, 7, 7, 7, 7, 7, 7, 7, 7, 7, 7, 7, 7, 7, 7, 7, 7, 7, 7, 7, 7, 7, 7, 7, 7, 7, 7, 7, 7, 7, 7, 7, 7, 7, 7, 7, 7, 7, 7, 7, 7, 7, 7, 7, 7, 7, 7, 7, 7, 7, 7, 7, 7, 7, 7, 7, 7, 7, 7, 7, 8, 8, 8, 8, 8, 8, 8, 8, 8, 8, 8, 8, 8, 8, 8, 8, 8, 8, 8, 8, 8, 8, 8, 8, 8, 8, 8, 8, 8, 8, 8, 8, 8, 8, 8, 8, 8, 8, 8, 8, 8, 8, 8, 8, 8, 8, 8, 8, 8, 8, 8, 8, 8, 8, 8, 8, 8, 8, 8, 8, 8, 8, 8, 8, 8, 8, 8, 8, 8, 8, 8, 8, 8, 8, 8, 8, 8, 8, 8, 8, 8, 8, 8, 8, 8, 8, 8, 8, 8, 8, 8, 8, 8, 8, 8, 8, 8, 8, 8, 8, 8, 8, 8, 8, 8, 8, 8, 8, 8, 8, 8, 8, 8, 8, 8, 8, 8, 8, 8, 8, 8, 8, 8, 8, 8, 8, 8, 8] : List UInt8)) Y6 F Aa Aa h1).q fun a w F W => ?_
 refine ls F W Aa (Lf YL VX F Aa).q fun a w F W => ?_
 refine Cv tk 4 F W fun a w F W => ?_
 refine Am ?_
 have H := AC H
 subst H
 refine Ax (.inl Aa) F W Aa (Ap F Aa) ?_
 exact ⟨rfl, W.done⟩
theorem Xv : Has Tryz.prog 102 := CP Tryz.func102
def FX (p0 : Int) : Option Int := (GZ p0).bind fun x1 => some x1
theorem J6 (Y : Nat → Prop) (w0 : World)  (p0 : Int) (r : Int) (H : FX p0 = some r)  :
    Calls Tryz.prog 74 #[.int .u64 p0] w0 fun e w' => e = .returned (.int .i64 r) ∧ Below w0.heap.size w0 w' := by
 refine enter Tryz.func74 Aa Tryz.ntmps74 Aa fun a F => ?_
 have W := Stw.start Y w0
 unfold FX at H
 refine vc tk 12 F W fun a w F W => ?_
 obtain ⟨x1, h1, H⟩ := Ag H
 refine ls F W Aa (AL (v := Value.int .i64 x1) F Xv Aa (fun w W => MS any w p0 _ h1)) fun a w F W => ?_
 refine Cv tk 3 F W fun a w F W => ?_
 refine Am ?_
 have H := AC H
 subst H
 refine Ax (.inl Aa) F W Aa (Ap F Aa) ?_
 exact ⟨rfl, W.done⟩
theorem YI : Has Tryz.prog 74 := CP Tryz.func74
def Eg (p0 : Int) : Bool := decide (p0 ≠ p0)
theorem J8 (Y : Nat → Prop) (w0 : World)  (p0 : Int) (r : Bool) (H : Eg p0 = r)  :
    Calls Tryz.prog 75 #[.int .i64 p0] w0 fun e w' => e = .returned (.bool r) ∧ Below w0.heap.size w0 w' := by
 refine enter Tryz.func75 Aa Tryz.ntmps75 Aa fun a F => ?_
 have W := Stw.start Y w0
 unfold Eg at H
 refine vc tk 13 F W fun a w F W => ?_
 refine Am ?_
 subst H
 refine Ax (.inl Aa) F W Aa (Ap F Aa) ?_
 exact ⟨rfl, W.done⟩
theorem YE : Has Tryz.prog 75 := CP Tryz.func75
def Bf (p0 : Int) (p1 : Int) : Int := (if (Eg p0) = true then (if (Eg p1) = true then 0 else (-1)) else (if (Eg p1) = true then 1 else (if p0 < p1 then (-1) else (if p1 < p0 then 1 else 0))))
theorem I7 (Y : Nat → Prop) (w0 : World)  (p0 : Int) (p1 : Int) (r : Int) (H : Bf p0 p1 = r)  :
    Calls Tryz.prog 43 #[.int .i64 p0, .int .i64 p1] w0 fun e w' => e = .returned (.int .i64 r) ∧ Below w0.heap.size w0 w' := by
 refine enter Tryz.func43 Aa Tryz.ntmps43 Aa fun a F => ?_
 have W := Stw.start Y w0
 unfold Bf at H
 refine vc tk 8 F W fun a w F W => ?_
 refine ls F W Aa (AL (v := Value.bool (Eg p0)) F YE Aa (fun w W => J8 any w p0 _ Aa)) fun a w F W => ?_
 refine Cv tk 6 F W fun a w F W => ?_
 refine ls F W Aa (AL (v := Value.bool (Eg p1)) F YE Aa (fun w W => J8 any w p1 _ Aa)) fun a w F W => ?_
 refine Cv tk 9 F W fun a w F W => ?_
 refine B9 F Aa (fun hb => ?_) fun hb => ?_
 ·
  have H := Cg hb H
  rw [hb] at F
  refine vc tk 6 F W fun a w F W => ?_
  refine B9 F Aa (fun hb => ?_) fun hb => ?_
  ·
   have H := Cg hb H
   rw [hb] at F
   refine vc tk 5 F W fun a w F W => ?_
   refine Am ?_
   iterate 2 refine Az ?_
   subst H
   refine Ax (.inl Aa) F W Aa (Ap F Aa) ?_
   exact ⟨rfl, W.done⟩
  have H := Cf (by rw [hb]; decide) H
  rw [hb] at F
  refine Gp tk 7 F W fun a w F W => ?_
  refine Am (Az ?_)
  subst H
  refine Ax (.inl Aa) F W Aa (Ap F Aa) ?_
  exact ⟨rfl, W.done⟩
 have H := Cf (by rw [hb]; decide) H
 rw [hb] at F
 refine Gp tk 8 F W fun a w F W => ?_
 refine B9 F Aa (fun hb => ?_) fun hb => ?_
 ·
  have H := Cg hb H
  rw [hb] at F
  refine vc tk 5 F W fun a w F W => ?_
  refine Am (Az ?_)
  subst H
  refine Ax (.inl Aa) F W Aa (Ap F Aa) ?_
  exact ⟨rfl, W.done⟩
 have H := Cf (by rw [hb]; decide) H
 rw [hb] at F
 refine Gp tk 10 F W fun a w F W => ?_
 refine BU F Aa H (fun F H => ?_) fun F H => ?_
 ·
  refine vc tk 5 F W fun a w F W => ?_
  refine Am (Az ?_)
  subst H
  refine Ax (.inl Aa) F W Aa (Ap F Aa) ?_
  exact ⟨rfl, W.done⟩
 refine Gp tk 10 F W fun a w F W => ?_
 refine BU F Aa H (fun F H => ?_) fun F H => ?_
 ·
  refine vc tk 5 F W fun a w F W => ?_
  refine Am (Az ?_)
  subst H
  refine Ax (.inl Aa) F W Aa (Ap F Aa) ?_
  exact ⟨rfl, W.done⟩
 refine Gp tk 7 F W fun a w F W => ?_
 refine Am ?_
 subst H
 refine Ax (.inl Aa) F W Aa (Ap F Aa) ?_
 exact ⟨rfl, W.done⟩
theorem S1 : type_of% Tryz.underlying49 := Tryz.underlying49
theorem YM : Has Tryz.prog 43 := CP Tryz.func43
theorem Xs : Et Tryz.prog 49 3 1 8 := Et.of S1 (by kernel_rfl) (by kernel_rfl) (by kernel_rfl) (by decide)
def Df (p0 : List Int) (p1 : List Int) : Int → Option (Int ⊕ (Unit ⊕ Int))
  | x1 => (if x1 < (p0.length : Int) then (ix p0 x1).bind fun x2 => (if (p1.length : Int) ≤ x1 then some (.inr (.inr 1)) else (ix p1 x1).bind fun x3 => (if (Bf x2 x3) ≠ 0 then some (.inr (.inr (Bf x2 x3))) else some (.inl (AU (x1 + 1))))) else some (.inr (.inl ())))
def Dq (p0 : List Int) (p1 : List Int) : Option Int := Ku (Ba (Df p0 p1) 0) fun _ => (if (p0.length : Int) < (p1.length : Int) then some (-1) else some 0)
theorem Jr (Y : Nat → Prop) (w0 : World) (v1 : Value) (v2 : Value) (p0 : List Int) (p1 : List Int) (r : Int) (H : Dq p0 p1 = some r) (h_v1 : Sl w0 (NX []) (Rp.int .i64) v1 p0) (h_v2 : Sl w0 (NX []) (Rp.int .i64) v2 p1) :
    Calls Tryz.prog 44 #[v1, v2] w0 fun e w' => e = .returned (.int .i64 r) ∧ Below w0.heap.size w0 w' := by
 refine enter Tryz.func44 Aa Tryz.ntmps44 Aa fun a F => ?_
 have W := Stw.start Y w0
 unfold Dq at H
 refine vc tk 5 F W fun a w F W => ?_
 obtain ⟨o1, G1, K1, L1⟩ := RM H
 refine AA (fun a w => some (Sum.inl ()) = some o1 ∧ Fr 36 [] [(0, v1), (1, v2), (4, .int .i64 0)] a ∧ Stw ⟨Y, [], w0⟩ [] [] w) ?_ ?_
 ·
  have H := G1
  refine vc tk 3 F W fun a w F W => ?_
  refine ls F W Aa (C2 (r := (Rp.int .i64)) (l := p0) S1 Aa F Aa (Ah h_v1)).q fun a w F W => ?_
  refine Cv tk 4 F W fun a w F W => ?_
  refine BN H (fun s a w => Fr 36 [] [(0, v1), (1, v2), (4, .int .i64 0), (9, v1), (10, .int .i64 (p0.length : Int)), (11, .int .i64 s)] a ∧ Stw ⟨Y, [], w0⟩ [] [] w) ⟨F.ra Aa, W⟩ fun s o a w H L2 hR => ?_
  obtain ⟨x1, rfl⟩ : ∃ x, x = s := ⟨s, rfl⟩
  obtain ⟨F, W⟩ := hR
  have F : Fr 36 [] [(0, v1), (1, v2), (4, .int .i64 0), (9, v1), (10, .int .i64 (p0.length : Int)), (11, .int .i64 x1)] a := F
  have W : Stw ⟨Y, [], w0⟩ [] [] w := W
  rw [Df] at H
  refine vc tk 6 F W fun a w F W => ?_
  refine BU F Aa H (fun F H => ?_) fun F H => ?_
  ·
   refine Gp tk 7 F W fun a w F W => ?_
   obtain ⟨x2, h1, H⟩ := Ag H
   refine ls F W Aa (Aw (r := (Rp.int .i64)) Xs F Aa Aa (Ah h_v1) h1).q fun a w F W => ?_
   refine ls F W Aa (An (y := Value.int .i64 x2) (j := 0) (i := x1) F Aa Aa (Ah h_v1) h1 Fl.int.to T3 Aa).q fun a w F W => ?_
   refine Cv tk 9 F W fun a w F W => ?_
   refine ls F W Aa (C2 (r := (Rp.int .i64)) (l := p1) S1 Aa F Aa (Ah h_v2)).q fun a w F W => ?_
   refine Cv tk 3 F W fun a w F W => ?_
   refine BU F Aa H (fun F H => ?_) fun F H => ?_
   ·
    refine vc tk 5 F W fun a w F W => ?_
    refine Am (Az (AH ?_))
    iterate 2 refine Az ?_
    refine AH (Az ?_)
    have H := L2 _ H
    have H := L1 _ H
    have H := AC H
    subst H
    refine Ax (.inl Aa) F W Aa (Ap F Aa) ?_
    exact ⟨rfl, W.done⟩
   refine Gp tk 6 F W fun a w F W => ?_
   obtain ⟨x3, h2, H⟩ := Ag H
   refine ls F W Aa (Aw (r := (Rp.int .i64)) Xs F Aa Aa (Ah h_v2) h2).q fun a w F W => ?_
   refine ls F W Aa (An (y := Value.int .i64 x3) (j := 0) (i := x1) F Aa Aa (Ah h_v2) h2 Fl.int.to T3 Aa).q fun a w F W => ?_
   refine Cv tk 7 F W fun a w F W => ?_
   refine ls F W Aa (AL (v := Value.int .i64 (Bf x2 x3)) F YM Aa (fun w W => I7 any w x2 x3 _ Aa)) fun a w F W => ?_
   refine Cv tk 9 F W fun a w F W => ?_
   refine BU F Aa H (fun F H => ?_) fun F H => ?_
   ·
    refine vc tk 6 F W fun a w F W => ?_
    refine Am (AH ?_)
    iterate 2 refine Az ?_
    refine AH (Az ?_)
    have H := L2 _ H
    have H := L1 _ H
    have H := AC H
    subst H
    refine Ax (.inl Aa) F W Aa (Ap F Aa) ?_
    exact ⟨rfl, W.done⟩
   refine Bc (AM ?_)
   refine vn tk 4 F W fun a w F W => ?_
   refine Ad ?_
   exact ⟨_, H, F.ra Aa, W⟩
  refine BB ?_
  iterate 2 refine BR ?_
  refine Bx (Ad ?_)
  have H := L2 _ H
  exact ⟨H, F.ra Aa, W⟩
 rintro a w ⟨hj, F, W⟩
 have H := K1 _ hj
 refine vc tk 4 F W fun a w F W => ?_
 refine ls F W Aa (C2 (r := (Rp.int .i64)) (l := p0) S1 Aa F Aa (Ah h_v1)).q fun a w F W => ?_
 refine ls F W Aa (Aq F Aa).q fun a w F W => ?_
 refine ls F W Aa (C2 (r := (Rp.int .i64)) (l := p1) S1 Aa F Aa (Ah h_v2)).q fun a w F W => ?_
 refine Cv tk 3 F W fun a w F W => ?_
 refine BU F Aa H (fun F H => ?_) fun F H => ?_
 ·
  refine vc tk 5 F W fun a w F W => ?_
  refine Am (Az ?_)
  have H := AC H
  subst H
  refine Ax (.inl Aa) F W Aa (Ap F Aa) ?_
  exact ⟨rfl, W.done⟩
 refine Gp tk 7 F W fun a w F W => ?_
 refine Am ?_
 have H := AC H
 subst H
 refine Ax (.inl Aa) F W Aa (Ap F Aa) ?_
 exact ⟨rfl, W.done⟩
theorem Zc : Has Tryz.prog 44 := CP Tryz.func44
theorem Z3 : (Tryz.prog.info? 3).bind (·.zero) = some (.int .i64 0) := by kernel_rfl
def E0 (p0 : List Int) : Int → Option (Int ⊕ (Unit ⊕ Int))
  | x1 => (if x1 < (p0.length : Int) then (ix p0 x1).bind fun x2 => (if x2 ≠ 0 then some (.inr (.inr x2)) else some (.inl (AU (x1 + 1)))) else some (.inr (.inl ())))
def IM (p0 : List Int) : Option Int := Ku (Ba (E0 p0) 0) fun _ => some 0
theorem QE (Y : Nat → Prop) (w0 : World) (v1 : Value) (p0 : List Int) (r : Int) (H : IM p0 = some r) (h_v1 : Sl w0 (NX []) (Rp.int .i64) v1 p0) :
    Calls Tryz.prog 42 #[v1] w0 fun e w' => e = .returned (.int .i64 r) ∧ Below w0.heap.size w0 w' := by
 refine enter Tryz.func42 Aa Tryz.ntmps42 Aa fun a F => ?_
 have W := Stw.start Y w0
 unfold IM at H
 refine vc tk 10 F W fun a w F W => ?_
 obtain ⟨o1, G1, K1, L1⟩ := RM H
 refine AA (fun a w => some (Sum.inl ()) = some o1 ∧ Fr 18 [] [(2, .int .i64 0), (3, .int .i64 0)] a ∧ Stw ⟨Y, [], w0⟩ [] [] w) ?_ ?_
 ·
  have H := G1
  refine vc tk 3 F W fun a w F W => ?_
  refine ls F W Aa (C2 (r := (Rp.int .i64)) (l := p0) S1 Aa F Aa (Ah h_v1)).q fun a w F W => ?_
  refine Cv tk 4 F W fun a w F W => ?_
  refine BN H (fun s a w => Fr 18 [] [(2, .int .i64 0), (3, .int .i64 0), (6, v1), (7, .int .i64 (p0.length : Int)), (8, .int .i64 s)] a ∧ Stw ⟨Y, [], w0⟩ [] [] w) ⟨F.ra Aa, W⟩ fun s o a w H L2 hR => ?_
  obtain ⟨x1, rfl⟩ : ∃ x, x = s := ⟨s, rfl⟩
  obtain ⟨F, W⟩ := hR
  have F : Fr 18 [] [(2, .int .i64 0), (3, .int .i64 0), (6, v1), (7, .int .i64 (p0.length : Int)), (8, .int .i64 x1)] a := F
  have W : Stw ⟨Y, [], w0⟩ [] [] w := W
  rw [E0] at H
  refine vc tk 6 F W fun a w F W => ?_
  refine BU F Aa H (fun F H => ?_) fun F H => ?_
  ·
   refine Gp tk 6 F W fun a w F W => ?_
   obtain ⟨x2, h1, H⟩ := Ag H
   refine ls F W Aa (Aw (r := (Rp.int .i64)) Xs F Aa Aa (Ah h_v1) h1).q fun a w F W => ?_
   refine ls F W Aa (An (y := Value.int .i64 x2) (j := 0) (i := x1) F Aa Aa (Ah h_v1) h1 Fl.int.to T3 Aa).q fun a w F W => ?_
   refine Cv tk 10 F W fun a w F W => ?_
   refine BU F Aa H (fun F H => ?_) fun F H => ?_
   ·
    refine vc tk 6 F W fun a w F W => ?_
    refine Am (AH ?_)
    iterate 2 refine Az ?_
    refine AH (Az ?_)
    have H := L2 _ H
    have H := L1 _ H
    have H := AC H
    subst H
    refine Ax (.inl Aa) F W Aa (Ap F Aa) ?_
    exact ⟨rfl, W.done⟩
   refine Bc (AM ?_)
   refine vn tk 4 F W fun a w F W => ?_
   refine Ad ?_
   exact ⟨_, H, F.ra Aa, W⟩
  refine BB ?_
  iterate 2 refine BR ?_
  refine Bx (Ad ?_)
  have H := L2 _ H
  exact ⟨H, F.ra Aa, W⟩
 rintro a w ⟨hj, F, W⟩
 have H := K1 _ hj
 refine vc tk 6 F W fun a w F W => ?_
 refine Am ?_
 have H := AC H
 subst H
 refine Ax (.inl Aa) F W Aa (Ap F Aa) ?_
 exact ⟨rfl, W.done⟩
theorem Y5 : Has Tryz.prog 42 := CP Tryz.func42
def Cs (p0 : Int × (Int × Int × Int × Int)) (p1 : Int × (Int × Int × Int × Int)) : Option Int := (Dq ([p0.2.1, p0.2.2.1, p0.2.2.2.1, p0.2.2.2.2]) ([p1.2.1, p1.2.2.1, p1.2.2.2.1, p1.2.2.2.2])).bind fun x1 => (IM ([(Bf p0.1 p1.1), x1] : List Int)).bind fun x2 => some x2
theorem CE (Y : Nat → Prop) (w0 : World)  (p0 : Int × (Int × Int × Int × Int)) (p1 : Int × (Int × Int × Int × Int)) (r : Int) (H : Cs p0 p1 = some r)  :
    Calls Tryz.prog 41 #[.agg #[.int .i64 p0.1, .int .i64 p0.2.1, .int .i64 p0.2.2.1, .int .i64 p0.2.2.2.1, .int .i64 p0.2.2.2.2], .agg #[.int .i64 p1.1, .int .i64 p1.2.1, .int .i64 p1.2.2.1, .int .i64 p1.2.2.2.1, .int .i64 p1.2.2.2.2]] w0 fun e w' => e = .returned (.int .i64 r) ∧ Below w0.heap.size w0 w' := by
 refine enter Tryz.func41 Aa Tryz.ntmps41 Aa fun a F => ?_
 have W := Stw.start Y w0
 unfold Cs at H
 refine vc tk 2 F W fun a w F W => ?_
 refine CX (cs := (C1 p0)) F W Aa Aa Aa fun b1 a w F W => ?_
 refine CX (cs := (C1 p1)) F W Aa Aa Aa fun b2 a w F W => ?_
 refine Cv tk 4 F W fun a w F W => ?_
 refine KU 10 W MO (by kernel_rfl) ?_
 refine qs F Aa (As Rz Aa Aa Aa T3 F Aa 0 Aa).q fun a F => ?_
 refine qs F Aa (Bu (v := Value.int .i64 p0.1) 1 F Aa Aa T3 Aa).q fun a F => ?_
 refine qs F Aa (As Rz Aa Aa Aa T3 F Aa 0 Aa).q fun a F => ?_
 refine qs F Aa (Bu (v := Value.int .i64 p1.1) 0 F Aa Aa T3 Aa).q fun a F => ?_
 refine qs F Aa (AL (v := Value.int .i64 (Bf p0.1 p1.1)) F YM Aa (fun w W => I7 any w p0.1 p1.1 _ Aa)) fun a F => ?_
 refine qs F Aa (As Rz Aa Aa Aa Tz F Aa 1 Aa).q fun a F => ?_
 refine qs F Aa (QS Sf F Aa).q fun a F => ?_
 refine qs F Aa (As Rz Aa Aa Aa Tz F Aa 1 Aa).q fun a F => ?_
 refine qs F Aa (QS Sf F Aa).q fun a F => ?_
 obtain ⟨x1, h1, H⟩ := Ag H
 refine qs F Aa (AL (v := Value.int .i64 x1) F Zc Aa (fun w W => Jr any w ((Value.slice (some ⟨b1, 1, none⟩) 4 4)) ((Value.slice (some ⟨b2, 1, none⟩) 4 4)) ([p0.2.1, p0.2.2.1, p0.2.2.2.1, p0.2.2.2.2]) ([p1.2.1, p1.2.2.1, p1.2.2.2.1, p1.2.2.2.2]) _ h1 (Er (Vf 1 Fl.int Aa Aa Aa) W) (Er (Vf 0 Fl.int Aa Aa Aa) W))) fun a F => ?_
 refine AO fun w W => ?_
 refine Gs (z := Value.int .i64 0) (cs := [.int .i64 (Bf p0.1 p1.1), .int .i64 x1]) (Rp.int .i64) ([(Bf p0.1 p1.1), x1] : List Int) F W Aa Xs Z3 Aa Aa Aa Aa Aa Aa (Fl.int.repL _ _ ([(Bf p0.1 p1.1), x1] : List Int)) fun v1 a w F W => ?_
 obtain ⟨x2, h2, H⟩ := Ag H
 refine ls F W Aa (AL (v := Value.int .i64 x2) F Y5 Aa (fun w W => QE any w (v1) ([(Bf p0.1 p1.1), x1] : List Int) _ h2 (Er (Al 0 Aa) W))) fun a w F W => ?_
 refine Cv tk 3 F W fun a w F W => ?_
 refine Am ?_
 have H := AC H
 subst H
 refine Ax (.inl Aa) F W Aa (Ap F Aa) ?_
 exact ⟨rfl, W.done⟩
theorem Su : Has Tryz.prog 41 := CP Tryz.func41
abbrev I9 (a0 : Int × (Int × Int × Int × Int)) (a1 : Int × (Int × Int × Int × Int)) : List Value := [.agg #[.int .i64 a0.1, .int .i64 a0.2.1, .int .i64 a0.2.2.1, .int .i64 a0.2.2.2.1, .int .i64 a0.2.2.2.2], .agg #[.int .i64 a1.1, .int .i64 a1.2.1, .int .i64 a1.2.2.1, .int .i64 a1.2.2.2.1, .int .i64 a1.2.2.2.2]]
def Bi (p1 : Int) : ((List (Int × (Int × Int × Int × Int))) × Int) → Option (((List (Int × (Int × Int × Int × Int))) × Int) ⊕ (List (Int × (Int × Int × Int × Int))))
  | (x4, x5) => (if p1 < x5 then (ix x4 x5).bind fun x7 => (ix x4 (AU (x5 - 1))).bind fun x8 => (Cs x7 x8).bind fun x9 => some (decide (x9 < 0)) else some false).bind fun x6 => (if x6 = true then (ix x4 (AU (x5 - 1))).bind fun x10 => (ix x4 x5).bind fun x11 => (ix x4 x5).bind fun x12 => (ix (Bm x4 x5 x10) (AU (x5 - 1))).bind fun x13 => some (.inl ((Bm (Bm x4 x5 x10) (AU (x5 - 1)) x11), AU (x5 - 1))) else some (.inr x4))
def BL (p1 : Int) (p2 : Int) : ((List (Int × (Int × Int × Int × Int))) × Int) → Option (((List (Int × (Int × Int × Int × Int))) × Int) ⊕ (List (Int × (Int × Int × Int × Int))))
  | (x1, x2) => (if x2 < p2 then (Ba (Bi p1) (x1, x2)).bind fun x3 => some (.inl (x3, AU (x2 + 1))) else some (.inr x1))
def Ch (p0 : List (Int × (Int × Int × Int × Int))) (p1 : Int) (p2 : Int) : Option (List (Int × (Int × Int × Int × Int))) := Ba (BL p1 p2) (p0, AU (p1 + 1))
theorem GA (Y : Nat → Prop) (X : List Nat) (w0 : World) (v1 : Value) (p0 : List (Int × (Int × Int × Int × Int))) (p1 : Int) (p2 : Int) (r : (List (Int × (Int × Int × Int × Int)))) (H : Ch p0 p1 p2 = some r) (hL : Stw ⟨Y, X, w0⟩ [] [row v1 63 Bo p0] w0) :
    Calls Tryz.prog 93 #[v1, .int .i64 p1, .int .i64 p2, .func (.func 41) #[] #[]] w0 fun e w' => ∃ x : Unit, e = .returned (.tuple #[]) ∧ Stw ⟨Y, X, w0⟩ [] [row v1 63 Bo r] w' := by
 refine enter Tryz.func93 Aa Tryz.ntmps93 Aa fun a F => ?_
 have W := hL
 unfold Ch at H
 refine vc tk 8 F W fun a w F W => ?_
 refine BN H (fun s a w => Fr 53 [] [(0, v1), (1, .int .i64 p1), (2, .int .i64 p2), (3, .func (.func 41) #[] #[]), (8, .int .i64 s.2)] a ∧ Stw ⟨Y, X, w0⟩ [] [row v1 63 Bo s.1] w) ⟨F.ra Aa, W⟩ fun s o a w H L1 hR => ?_
 obtain ⟨x1, x2⟩ := s
 obtain ⟨F, W⟩ := hR
 have F : Fr 53 [] [(0, v1), (1, .int .i64 p1), (2, .int .i64 p2), (3, .func (.func 41) #[] #[]), (8, .int .i64 x2)] a := F
 have W : Stw ⟨Y, X, w0⟩ [] [row v1 63 Bo x1] w := W
 rw [BL] at H
 refine vc tk 8 F W fun a w F W => ?_
 refine BU F Aa H (fun F H => ?_) fun F H => ?_
 ·
  refine Bc (Ad ?_)
  obtain ⟨o2, G2, K2⟩ := Ag H
  refine AA (fun a w => ∃ x3 : List (Int × (Int × Int × Int × Int)), some (x3) = some o2 ∧ Fr 53 [] [(0, v1), (1, .int .i64 p1), (2, .int .i64 p2), (3, .func (.func 41) #[] #[]), (8, .int .i64 x2)] a ∧ Stw ⟨Y, X, w0⟩ [] [row v1 63 Bo x3] w) ?_ ?_
  ·
   have H := G2
   refine vc tk 8 F W fun a w F W => ?_
   refine BN H (fun s a w => Fr 53 [] [(0, v1), (1, .int .i64 p1), (2, .int .i64 p2), (3, .func (.func 41) #[] #[]), (8, .int .i64 x2), (9, .int .i64 s.2)] a ∧ Stw ⟨Y, X, w0⟩ [] [row v1 63 Bo s.1] w) ⟨F.ra Aa, W⟩ fun s o a w H L3 hR => ?_
   obtain ⟨x4, x5⟩ := s
   obtain ⟨F, W⟩ := hR
   have F : Fr 53 [] [(0, v1), (1, .int .i64 p1), (2, .int .i64 p2), (3, .func (.func 41) #[] #[]), (8, .int .i64 x2), (9, .int .i64 x5)] a := F
   have W : Stw ⟨Y, X, w0⟩ [] [row v1 63 Bo x4] w := W
   rw [Bi] at H
   refine GK ?_
   obtain ⟨o4, G4, K4⟩ := Ag H
   refine AA (fun a w => ∃ x6 : Bool, some (x6) = some o4 ∧ Fr 53 [] [(0, v1), (1, .int .i64 p1), (2, .int .i64 p2), (3, .func (.func 41) #[] #[]), (8, .int .i64 x2), (9, .int .i64 x5), (34, .bool x6)] a ∧ Stw ⟨Y, X, w0⟩ [] [row v1 63 Bo x4] w) ?_ ?_
   ·
    have H := G4
    refine CH W MO (by kernel_rfl) ?_
    iterate 2 refine qs F Aa (Aq F Aa).q fun a F => ?_
    refine qs F Aa (Nx F Aa Aa).q fun a F => ?_
    refine qs F Aa (Aq F Aa).q fun a F => ?_
    rcases bxq (decide (p1 < x5)) with hb | hb
    ·
     have H := Cg (CQ hb) H
     rw [hb] at F
     iterate 3 refine AP F (Ac F Aa Aa Aa Aa) Aa (Ao Aa) (Aq F Aa).q fun a F => ?_
     obtain ⟨x7, h1, H⟩ := Ag H
     refine AP F (Ac F Aa Aa Aa Aa) Aa (Ao Aa) (Aw (r := Bo) EJ F Aa Aa (Al 0 Aa) h1).q fun a F => ?_
     refine AP F (Ac F Aa Aa Aa Aa) Aa (Ao Aa) (An (y := Value.agg #[.int .i64 x7.1, .int .i64 x7.2.1, .int .i64 x7.2.2.1, .int .i64 x7.2.2.2.1, .int .i64 x7.2.2.2.2]) (j := 0) (i := x5) F Aa Aa (Al 0 Aa) h1 EM.to D4 Aa).q fun a F => ?_
     iterate 2 refine AP F (Ac F Aa Aa Aa Aa) Aa (Ao Aa) (Aq F Aa).q fun a F => ?_
     refine AP F (Ac F Aa Aa Aa Aa) Aa (Ao Aa) (Ix F Aa Aa Aa).q fun a F => ?_
     obtain ⟨x8, h2, H⟩ := Ag H
     refine AP F (Ac F Aa Aa Aa Aa) Aa (Ao Aa) (Aw (r := Bo) EJ F Aa Aa (Al 0 Aa) h2).q fun a F => ?_
     refine AP F (Ac F Aa Aa Aa Aa) Aa (Ao Aa) (An (y := Value.agg #[.int .i64 x8.1, .int .i64 x8.2.1, .int .i64 x8.2.2.1, .int .i64 x8.2.2.2.1, .int .i64 x8.2.2.2.2]) (j := 0) (i := AU (x5 - 1)) F Aa Aa (Al 0 Aa) h2 EM.to D4 Aa).q fun a F => ?_
     obtain ⟨x9, h3, H⟩ := Ag H
     refine AP F (Ac F Aa Aa Aa Aa) Aa (Ao Aa) (ES (ws := (I9 x7 x8)) (v := Value.int .i64 x9) F Su Aa (fun w W => CE any w x7 x8 _ h3)) fun a F => ?_
     refine AP F (Ac F Aa Aa Aa Aa) Aa (Ao Aa) (GY F Aa Aa).q fun a F => ?_
     refine qs F Aa (BI F Aa Aa Aa).q fun a F => ?_
     refine AO fun w W => ?_
     refine Ad ?_
     exact ⟨_, H, F.ra Aa, W⟩
    have H := Cf (CO hb) H
    rw [hb] at F
    iterate 12 refine Bp F (Be F Aa Aa Aa Aa Aa) Aa Aa fun a F => ?_
    refine qs F Aa (BA F Aa Aa Aa).q fun a F => ?_
    refine AO fun w W => ?_
    refine Ad ?_
    exact ⟨_, H, F.ra Aa, W⟩
   rintro a w ⟨x6, hj, F, W⟩
   have hj := AC hj
   subst hj
   have H := K4
   refine CK F Aa H (fun F H => ?_) fun F H => ?_
   ·
    refine Gp tk 4 F W fun a w F W => ?_
    refine EX [(true, 0), (true, 1), (true, 2), (true, 3), (true, 4), (true, 5), (true, 6), (true, 7), (true, 8), (true, 9), (true, 10), (true, 11), (true, 12), (true, 13), (true, 14), (false, 15), (true, 16), (false, 17)] (CN ⟨Y, X, w0⟩ [] [(some 15, row v1 63 Bo x4)]) (fun ch a d v w h => by cases d <;> exact h) MO (by kernel_rfl) W (fun w W => ⟨_, _, W, Ab, (all_cons (fun _ => (.head _)) Ab)⟩) fun w W => ?_
    iterate 4 refine BD (R := []) F Aa Aa (yC fun M Z hN hZ => Aq F Aa) Aa Aa fun a F => ?_
    refine BD (R := []) F Aa Aa (yC fun M Z hN hZ => Ix F Aa Aa Aa) Aa Aa fun a F => ?_
    iterate 2 refine BD (R := []) F Aa Aa (yC fun M Z hN hZ => Aq F Aa) Aa Aa fun a F => ?_
    refine BD (R := []) F Aa Aa (yC fun M Z hN hZ => Ix F Aa Aa Aa) Aa Aa fun a F => ?_
    obtain ⟨x10, h4, H⟩ := Ag H
    refine BD (R := []) F Aa Aa (yC fun M Z hN hZ => Cy (r := Bo) EJ F Aa Aa (EK W (Al 0 Aa)) h4) Aa Aa fun a F => ?_
    refine BD (R := [15]) F Aa Aa (yC fun M Z hN hZ => An (y := Value.agg #[.int .i64 x10.1, .int .i64 x10.2.1, .int .i64 x10.2.2.1, .int .i64 x10.2.2.2.1, .int .i64 x10.2.2.2.2]) (j := 0) (i := AU (x5 - 1)) F Aa Aa (D3 (hZ ((some 15), row v1 63 Bo x4) (.head _) Aa)) h4 EM.to D4 Aa) (by kernel_rfl) Aa fun a F => ?_
    iterate 2 refine BD (R := []) F Aa Aa (yC fun M Z hN hZ => Aq F Aa) Aa Aa fun a F => ?_
    obtain ⟨x11, h5, H⟩ := Ag H
    refine BD (R := []) F Aa Aa (yC fun M Z hN hZ => Cy (r := Bo) EJ F Aa Aa (EK W (Al 0 Aa)) h5) Aa Aa fun a F => ?_
    refine BD (R := [15]) F Aa Aa (yC fun M Z hN hZ => An (y := Value.agg #[.int .i64 x11.1, .int .i64 x11.2.1, .int .i64 x11.2.2.1, .int .i64 x11.2.2.2.1, .int .i64 x11.2.2.2.2]) (j := 0) (i := x5) F Aa Aa (D3 (hZ ((some 15), row v1 63 Bo x4) (.head _) Aa)) h5 EM.to D4 Aa) (by kernel_rfl) Aa fun a F => ?_
    obtain ⟨x12, h6, H⟩ := Ag H
    refine BD (R := []) F Aa Aa (yC fun M Z hN hZ => Cy (r := Bo) EJ F Aa Aa (EK W (Al 0 Aa)) h6) Aa Aa fun a F => ?_
    refine DU Aa ?_
    refine BO (i := x5) (j := 0) (vs := (C1 x10)) (x' := x10) F W Aa Aa Aa (k := 0) Aa Aa h6 D4 Aa Aa Aa Aa (fun A cs _ => EM.sto (by rfl) _ _ _) fun w W => ?_
    refine BG (N2 := []) (NZ2 := []) (N3 := []) (NZ3 := [(some 15, row v1 63 Bo x4)]) W Aa Aa Ab (all_cons (fun h => Ae (by kernel_rfl) h) Ab) ?_
    obtain ⟨x13, h7, H⟩ := Ag H
    refine BD (R := []) F Aa Aa (yC fun M Z hN hZ => Cy (r := Bo) EJ F Aa Aa (EK W (Al 0 Aa)) h7) Aa Aa fun a F => ?_
    refine DU Aa ?_
    refine BO (i := AU (x5 - 1)) (j := 0) (vs := (C1 x11)) (x' := x11) F W Aa Aa Aa (k := 0) Aa Aa h7 D4 Aa Aa Aa Aa (fun A cs _ => EM.sto (by rfl) _ _ _) fun w W => ?_
    refine BG (N2 := []) (NZ2 := []) (N3 := []) (NZ3 := [(some 15, row v1 63 Bo x4)]) W Aa Aa Ab (all_cons (fun h => Ae (by kernel_rfl) h) Ab) ?_
    refine GM (AM ?_)
    refine vn tk 5 F W fun a w F W => ?_
    refine Ad ?_
    exact ⟨_, H, F.ra Aa, W⟩
   refine BB ?_
   iterate 2 refine BR ?_
   refine Bx (AM (Ad ?_))
   have H := L3 _ H
   exact ⟨_, H, F.ra Aa, W⟩
  rintro a w ⟨x3, hj, F, W⟩
  have hj := AC hj
  subst hj
  have H := K2
  refine vc tk 5 F W fun a w F W => ?_
  refine Ad ?_
  exact ⟨_, H, F.ra Aa, W⟩
 refine BB ?_
 iterate 2 refine BR ?_
 refine Bx ?_
 have H := L1 _ H
 have H := AC H
 subst H
 refine J5 (.inr Aa) F Aa ?_
 exact ⟨(), Aa, W⟩
theorem ZE : Has Tryz.prog 93 := CP Tryz.func93
def AZ (p2 : Int) (p3 : Int) : ((List (Int × (Int × Int × Int × Int))) × Int) → Option (((List (Int × (Int × Int × Int × Int))) × Int) ⊕ (List (Int × (Int × Int × Int × Int))))
  | (x1, x2) => (if p2 ≤ (AU ((AU (2 * x2)) + 1)) then some (.inr x1) else ((if (AU ((AU ((AU (2 * x2)) + 1)) + 1)) < p2 then (ix x1 (AU (p3 + (AU ((AU (2 * x2)) + 1))))).bind fun x5 => (ix x1 (AU ((AU (p3 + (AU ((AU (2 * x2)) + 1)))) + 1))).bind fun x6 => (Cs x5 x6).bind fun x7 => some (decide (x7 < 0)) else some false).bind fun x4 => (if x4 = true then some (AU ((AU ((AU (2 * x2)) + 1)) + 1)) else some (AU ((AU (2 * x2)) + 1)))).bind fun x3 => (ix x1 (AU (p3 + x2))).bind fun x8 => (ix x1 (AU (p3 + x3))).bind fun x9 => (Cs x8 x9).bind fun x10 => (if (!(decide (x10 < 0))) = true then some (.inr x1) else (ix x1 (AU (p3 + x3))).bind fun x11 => (ix x1 (AU (p3 + x2))).bind fun x12 => (ix x1 (AU (p3 + x2))).bind fun x13 => (ix (Bm x1 (AU (p3 + x2)) x11) (AU (p3 + x3))).bind fun x14 => some (.inl ((Bm (Bm x1 (AU (p3 + x2)) x11) (AU (p3 + x3)) x12), x3))))
def Ci (p0 : List (Int × (Int × Int × Int × Int))) (p1 : Int) (p2 : Int) (p3 : Int) : Option (List (Int × (Int × Int × Int × Int))) := Ba (AZ p2 p3) (p0, p1)
theorem EN (Y : Nat → Prop) (X : List Nat) (w0 : World) (v1 : Value) (p0 : List (Int × (Int × Int × Int × Int))) (p1 : Int) (p2 : Int) (p3 : Int) (r : (List (Int × (Int × Int × Int × Int)))) (H : Ci p0 p1 p2 p3 = some r) (hL : Stw ⟨Y, X, w0⟩ [] [row v1 63 Bo p0] w0) :
    Calls Tryz.prog 125 #[v1, .int .i64 p1, .int .i64 p2, .int .i64 p3, .func (.func 41) #[] #[]] w0 fun e w' => ∃ x : Unit, e = .returned (.tuple #[]) ∧ Stw ⟨Y, X, w0⟩ [] [row v1 63 Bo r] w' := by
 refine enter Tryz.func125 Aa Tryz.ntmps125 Aa fun a F => ?_
 have W := hL
 unfold Ci at H
 refine vc tk 7 F W fun a w F W => ?_
 refine BN H (fun s a w => Fr 82 [] [(0, v1), (2, .int .i64 p2), (3, .int .i64 p3), (4, .func (.func 41) #[] #[]), (10, .int .i64 s.2)] a ∧ Stw ⟨Y, X, w0⟩ [] [row v1 63 Bo s.1] w) ⟨F.ra Aa, W⟩ fun s o a w H L1 hR => ?_
 obtain ⟨x1, x2⟩ := s
 obtain ⟨F, W⟩ := hR
 have F : Fr 82 [] [(0, v1), (2, .int .i64 p2), (3, .int .i64 p3), (4, .func (.func 41) #[] #[]), (10, .int .i64 x2)] a := F
 have W : Stw ⟨Y, X, w0⟩ [] [row v1 63 Bo x1] w := W
 rw [AZ] at H
 refine vc tk 17 F W fun a w F W => ?_
 refine BU F Aa H (fun F H => ?_) fun F H => ?_
 ·
  refine BB (BR ?_)
  refine Nd Aa ?_
  refine BR (Bx ?_)
  have H := L1 _ H
  have H := AC H
  subst H
  refine J5 (.inr Aa) F Aa ?_
  exact ⟨(), Aa, W⟩
 refine Bc (Ad ?_)
 obtain ⟨o2, G2, K2⟩ := Ag H
 refine AA (fun a w => ∃ x3 : Int, some (x3) = some o2 ∧ Fr 82 [] [(0, v1), (2, .int .i64 p2), (3, .int .i64 p3), (4, .func (.func 41) #[] #[]), (10, .int .i64 x2), (11, .int .i64 x3)] a ∧ Stw ⟨Y, X, w0⟩ [] [row v1 63 Bo x1] w) ?_ ?_
 ·
  have H := G2
  obtain ⟨o3, G3, K3⟩ := Ag H
  refine AA (fun a w => ∃ x4 : Bool, some (x4) = some o3 ∧ Fr 82 [] [(0, v1), (2, .int .i64 p2), (3, .int .i64 p3), (4, .func (.func 41) #[] #[]), (10, .int .i64 x2), (11, .int .i64 (AU ((AU (2 * x2)) + 1))), (40, .bool x4)] a ∧ Stw ⟨Y, X, w0⟩ [] [row v1 63 Bo x1] w) ?_ ?_
  ·
   have H := G3
   refine CH W MO (by kernel_rfl) ?_
   refine qs F Aa (Aq F Aa).q fun a F => ?_
   refine qs F Aa (Iv F Aa Aa Aa).q fun a F => ?_
   refine qs F Aa (Aq F Aa).q fun a F => ?_
   refine qs F Aa (GY F Aa Aa).q fun a F => ?_
   refine qs F Aa (Aq F Aa).q fun a F => ?_
   rcases bxq (decide ((AU ((AU ((AU (2 * x2)) + 1)) + 1)) < p2)) with hb | hb
   ·
    have H := Cg (CQ hb) H
    rw [hb] at F
    iterate 4 refine AP F (Ac F Aa Aa Aa Aa) Aa (Ao Aa) (Aq F Aa).q fun a F => ?_
    refine AP F (Ac F Aa Aa Aa Aa) Aa (Ao Aa) (Iv F Aa Aa Aa).q fun a F => ?_
    obtain ⟨x5, h1, H⟩ := Ag H
    refine AP F (Ac F Aa Aa Aa Aa) Aa (Ao Aa) (Aw (r := Bo) EJ F Aa Aa (Al 0 Aa) h1).q fun a F => ?_
    refine AP F (Ac F Aa Aa Aa Aa) Aa (Ao Aa) (An (y := Value.agg #[.int .i64 x5.1, .int .i64 x5.2.1, .int .i64 x5.2.2.1, .int .i64 x5.2.2.2.1, .int .i64 x5.2.2.2.2]) (j := 0) (i := AU (p3 + (AU ((AU (2 * x2)) + 1)))) F Aa Aa (Al 0 Aa) h1 EM.to D4 Aa).q fun a F => ?_
    iterate 3 refine AP F (Ac F Aa Aa Aa Aa) Aa (Ao Aa) (Aq F Aa).q fun a F => ?_
    iterate 2 refine AP F (Ac F Aa Aa Aa Aa) Aa (Ao Aa) (Iv F Aa Aa Aa).q fun a F => ?_
    obtain ⟨x6, h2, H⟩ := Ag H
    refine AP F (Ac F Aa Aa Aa Aa) Aa (Ao Aa) (Aw (r := Bo) EJ F Aa Aa (Al 0 Aa) h2).q fun a F => ?_
    refine AP F (Ac F Aa Aa Aa Aa) Aa (Ao Aa) (An (y := Value.agg #[.int .i64 x6.1, .int .i64 x6.2.1, .int .i64 x6.2.2.1, .int .i64 x6.2.2.2.1, .int .i64 x6.2.2.2.2]) (j := 0) (i := AU ((AU (p3 + (AU ((AU (2 * x2)) + 1)))) + 1)) F Aa Aa (Al 0 Aa) h2 EM.to D4 Aa).q fun a F => ?_
    obtain ⟨x7, h3, H⟩ := Ag H
    refine AP F (Ac F Aa Aa Aa Aa) Aa (Ao Aa) (ES (ws := (I9 x5 x6)) (v := Value.int .i64 x7) F Su Aa (fun w W => CE any w x5 x6 _ h3)) fun a F => ?_
    refine AP F (Ac F Aa Aa Aa Aa) Aa (Ao Aa) (GY F Aa Aa).q fun a F => ?_
    refine qs F Aa (BI F Aa Aa Aa).q fun a F => ?_
    refine AO fun w W => ?_
    refine Ad ?_
    exact ⟨_, H, F.ra Aa, W⟩
   have H := Cf (CO hb) H
   rw [hb] at F
   iterate 16 refine Bp F (Be F Aa Aa Aa Aa Aa) Aa Aa fun a F => ?_
   refine qs F Aa (BA F Aa Aa Aa).q fun a F => ?_
   refine AO fun w W => ?_
   refine Ad ?_
   exact ⟨_, H, F.ra Aa, W⟩
  rintro a w ⟨x4, hj, F, W⟩
  have hj := AC hj
  subst hj
  have H := K3
  refine CK F Aa H (fun F H => ?_) fun F H => ?_
  ·
   refine vc tk 5 F W fun a w F W => ?_
   refine Ad ?_
   exact ⟨_, H, F.ra Aa, W⟩
  refine Bc (Ad ?_)
  exact ⟨_, H, F.ra Aa, W⟩
 rintro a w ⟨x3, hj, F, W⟩
 have hj := AC hj
 subst hj
 have H := K2
 refine vc tk 2 F W fun a w F W => ?_
 refine CH W MO (by kernel_rfl) ?_
 iterate 4 refine qs F Aa (Aq F Aa).q fun a F => ?_
 refine qs F Aa (Iv F Aa Aa Aa).q fun a F => ?_
 obtain ⟨x8, h4, H⟩ := Ag H
 refine qs F Aa (Aw (r := Bo) EJ F Aa Aa (Al 0 Aa) h4).q fun a F => ?_
 refine qs F Aa (An (y := Value.agg #[.int .i64 x8.1, .int .i64 x8.2.1, .int .i64 x8.2.2.1, .int .i64 x8.2.2.2.1, .int .i64 x8.2.2.2.2]) (j := 0) (i := AU (p3 + x2)) F Aa Aa (Al 0 Aa) h4 EM.to D4 Aa).q fun a F => ?_
 iterate 3 refine qs F Aa (Aq F Aa).q fun a F => ?_
 refine qs F Aa (Iv F Aa Aa Aa).q fun a F => ?_
 obtain ⟨x9, h5, H⟩ := Ag H
 refine qs F Aa (Aw (r := Bo) EJ F Aa Aa (Al 0 Aa) h5).q fun a F => ?_
 refine qs F Aa (An (y := Value.agg #[.int .i64 x9.1, .int .i64 x9.2.1, .int .i64 x9.2.2.1, .int .i64 x9.2.2.2.1, .int .i64 x9.2.2.2.2]) (j := 0) (i := AU (p3 + x3)) F Aa Aa (Al 0 Aa) h5 EM.to D4 Aa).q fun a F => ?_
 obtain ⟨x10, h6, H⟩ := Ag H
 refine qs F Aa (ES (ws := (I9 x8 x9)) (v := Value.int .i64 x10) F Su Aa (fun w W => CE any w x8 x9 _ h6)) fun a F => ?_
 refine qs F Aa (GY F Aa Aa).q fun a F => ?_
 refine qs F Aa (Kx F Aa).q fun a F => ?_
 refine AO fun w W => ?_
 refine Ad ?_
 refine CK F Aa H (fun F H => ?_) fun F H => ?_
 ·
  refine Am (Az (AH (Az (AH ?_))))
  have H := L1 _ H
  have H := AC H
  subst H
  refine J5 (.inl Aa) F Aa ?_
  exact ⟨(), Aa, W⟩
 refine Gp tk 3 F W fun a w F W => ?_
 refine EX [(true, 0), (true, 1), (true, 2), (true, 3), (true, 4), (true, 5), (true, 6), (true, 7), (true, 8), (true, 9), (true, 10), (true, 11), (true, 12), (true, 13), (true, 14), (true, 15), (true, 16), (true, 17), (true, 18), (true, 19), (true, 20), (false, 21), (true, 22), (false, 23)] (CN ⟨Y, X, w0⟩ [] [(some 21, row v1 63 Bo x1)]) (fun ch a d v w h => by cases d <;> exact h) MO (by kernel_rfl) W (fun w W => ⟨_, _, W, Ab, (all_cons (fun _ => (.head _)) Ab)⟩) fun w W => ?_
 iterate 3 refine BD (R := []) F Aa Aa (yC fun M Z hN hZ => Aq F Aa) Aa Aa fun a F => ?_
 refine BD (R := []) F Aa Aa (yC fun M Z hN hZ => Iv F Aa Aa Aa) Aa Aa fun a F => ?_
 iterate 3 refine BD (R := []) F Aa Aa (yC fun M Z hN hZ => Aq F Aa) Aa Aa fun a F => ?_
 refine BD (R := []) F Aa Aa (yC fun M Z hN hZ => Iv F Aa Aa Aa) Aa Aa fun a F => ?_
 iterate 3 refine BD (R := []) F Aa Aa (yC fun M Z hN hZ => Aq F Aa) Aa Aa fun a F => ?_
 refine BD (R := []) F Aa Aa (yC fun M Z hN hZ => Iv F Aa Aa Aa) Aa Aa fun a F => ?_
 obtain ⟨x11, h7, H⟩ := Ag H
 refine BD (R := []) F Aa Aa (yC fun M Z hN hZ => Cy (r := Bo) EJ F Aa Aa (EK W (Al 0 Aa)) h7) Aa Aa fun a F => ?_
 refine BD (R := [21]) F Aa Aa (yC fun M Z hN hZ => An (y := Value.agg #[.int .i64 x11.1, .int .i64 x11.2.1, .int .i64 x11.2.2.1, .int .i64 x11.2.2.2.1, .int .i64 x11.2.2.2.2]) (j := 0) (i := AU (p3 + x3)) F Aa Aa (D3 (hZ ((some 21), row v1 63 Bo x1) (.head _) Aa)) h7 EM.to D4 Aa) (by kernel_rfl) Aa fun a F => ?_
 iterate 3 refine BD (R := []) F Aa Aa (yC fun M Z hN hZ => Aq F Aa) Aa Aa fun a F => ?_
 refine BD (R := []) F Aa Aa (yC fun M Z hN hZ => Iv F Aa Aa Aa) Aa Aa fun a F => ?_
 obtain ⟨x12, h8, H⟩ := Ag H
 refine BD (R := []) F Aa Aa (yC fun M Z hN hZ => Cy (r := Bo) EJ F Aa Aa (EK W (Al 0 Aa)) h8) Aa Aa fun a F => ?_
 refine BD (R := [21]) F Aa Aa (yC fun M Z hN hZ => An (y := Value.agg #[.int .i64 x12.1, .int .i64 x12.2.1, .int .i64 x12.2.2.1, .int .i64 x12.2.2.2.1, .int .i64 x12.2.2.2.2]) (j := 0) (i := AU (p3 + x2)) F Aa Aa (D3 (hZ ((some 21), row v1 63 Bo x1) (.head _) Aa)) h8 EM.to D4 Aa) (by kernel_rfl) Aa fun a F => ?_
 obtain ⟨x13, h9, H⟩ := Ag H
 refine BD (R := []) F Aa Aa (yC fun M Z hN hZ => Cy (r := Bo) EJ F Aa Aa (EK W (Al 0 Aa)) h9) Aa Aa fun a F => ?_
 refine DU Aa ?_
 refine BO (i := AU (p3 + x2)) (j := 0) (vs := (C1 x11)) (x' := x11) F W Aa Aa Aa (k := 0) Aa Aa h9 D4 Aa Aa Aa Aa (fun A cs _ => EM.sto (by rfl) _ _ _) fun w W => ?_
 refine BG (N2 := []) (NZ2 := []) (N3 := []) (NZ3 := [(some 21, row v1 63 Bo x1)]) W Aa Aa Ab (all_cons (fun h => Ae (by kernel_rfl) h) Ab) ?_
 obtain ⟨x14, h10, H⟩ := Ag H
 refine BD (R := []) F Aa Aa (yC fun M Z hN hZ => Cy (r := Bo) EJ F Aa Aa (EK W (Al 0 Aa)) h10) Aa Aa fun a F => ?_
 refine DU Aa ?_
 refine BO (i := AU (p3 + x3)) (j := 0) (vs := (C1 x12)) (x' := x12) F W Aa Aa Aa (k := 0) Aa Aa h10 D4 Aa Aa Aa Aa (fun A cs _ => EM.sto (by rfl) _ _ _) fun w W => ?_
 refine BG (N2 := []) (NZ2 := []) (N3 := []) (NZ3 := [(some 21, row v1 63 Bo x1)]) W Aa Aa Ab (all_cons (fun h => Ae (by kernel_rfl) h) Ab) ?_
 refine GM ?_
 refine vn tk 4 F W fun a w F W => ?_
 refine AM (Ad ?_)
 exact ⟨_, H, F.ra Aa, W⟩
theorem Wx : Has Tryz.prog 125 := CP Tryz.func125
def B4 (p1 : Int) (p2 : Int) : ((List (Int × (Int × Int × Int × Int))) × Int) → Option (((List (Int × (Int × Int × Int × Int))) × Int) ⊕ (List (Int × (Int × Int × Int × Int))))
  | (x2, x3) => (if 0 ≤ x3 then (Ci x2 x3 (AU (p2 - p1)) p1).bind fun x4 => some (.inl (x4, AU (x3 - 1))) else some (.inr x2))
def B6 (p1 : Int) : ((List (Int × (Int × Int × Int × Int))) × Int) → Option (((List (Int × (Int × Int × Int × Int))) × Int) ⊕ (List (Int × (Int × Int × Int × Int))))
  | (x5, x6) => (if 0 ≤ x6 then (ix x5 (AU (p1 + x6))).bind fun x7 => (ix x5 p1).bind fun x8 => (ix x5 p1).bind fun x9 => (ix (Bm x5 p1 x7) (AU (p1 + x6))).bind fun x10 => (Ci (Bm (Bm x5 p1 x7) (AU (p1 + x6)) x8) 0 x6 p1).bind fun x11 => some (.inl (x11, AU (x6 - 1))) else some (.inr x5))
def CJ (p0 : List (Int × (Int × Int × Int × Int))) (p1 : Int) (p2 : Int) : Option (List (Int × (Int × Int × Int × Int))) := (Ba (B4 p1 p2) (p0, AU (Int.tdiv (AU ((AU (p2 - p1)) - 1)) 2))).bind fun x1 => Ba (B6 p1) (x1, AU ((AU (p2 - p1)) - 1))
theorem Ht (Y : Nat → Prop) (X : List Nat) (w0 : World) (v1 : Value) (p0 : List (Int × (Int × Int × Int × Int))) (p1 : Int) (p2 : Int) (r : (List (Int × (Int × Int × Int × Int)))) (H : CJ p0 p1 p2 = some r) (hL : Stw ⟨Y, X, w0⟩ [] [row v1 63 Bo p0] w0) :
    Calls Tryz.prog 94 #[v1, .int .i64 p1, .int .i64 p2, .func (.func 41) #[] #[]] w0 fun e w' => ∃ x : Unit, e = .returned (.tuple #[]) ∧ Stw ⟨Y, X, w0⟩ [] [row v1 63 Bo r] w' := by
 refine enter Tryz.func94 Aa Tryz.ntmps94 Aa fun a F => ?_
 have W := hL
 unfold CJ at H
 refine vc tk 19 F W fun a w F W => ?_
 obtain ⟨o1, G1, K1⟩ := Ag H
 refine AA (fun a w => ∃ x1 : List (Int × (Int × Int × Int × Int)), some (x1) = some o1 ∧ Fr 60 [] [(0, v1), (3, .func (.func 41) #[] #[]), (8, .int .i64 p1), (9, .int .i64 0), (10, .int .i64 (AU (p2 - p1)))] a ∧ Stw ⟨Y, X, w0⟩ [] [row v1 63 Bo x1] w) ?_ ?_
 ·
  have H := G1
  refine vc tk 4 F W fun a w F W => ?_
  refine ls F W Aa (O8 F Aa Aa (by decide) Aa).q fun a w F W => ?_
  refine Cv tk 4 F W fun a w F W => ?_
  refine BN H (fun s a w => Fr 60 [] [(0, v1), (3, .func (.func 41) #[] #[]), (8, .int .i64 p1), (9, .int .i64 0), (10, .int .i64 (AU (p2 - p1))), (11, .int .i64 s.2)] a ∧ Stw ⟨Y, X, w0⟩ [] [row v1 63 Bo s.1] w) ⟨F.ra Aa, W⟩ fun s o a w H L2 hR => ?_
  obtain ⟨x2, x3⟩ := s
  obtain ⟨F, W⟩ := hR
  have F : Fr 60 [] [(0, v1), (3, .func (.func 41) #[] #[]), (8, .int .i64 p1), (9, .int .i64 0), (10, .int .i64 (AU (p2 - p1))), (11, .int .i64 x3)] a := F
  have W : Stw ⟨Y, X, w0⟩ [] [row v1 63 Bo x2] w := W
  rw [B4] at H
  refine vc tk 7 F W fun a w F W => ?_
  refine BU F Aa H (fun F H => ?_) fun F H => ?_
  ·
   refine Gp tk 10 F W fun a w F W => ?_
   obtain ⟨x4, h1, H⟩ := Ag H
   refine A7 (Ml := []) (Zl := [row v1 63 Bo x2]) (β := Unit) (rv := fun x => .tuple #[]) (MM := fun x => []) (ZZ := fun x => [row v1 63 Bo x4]) F W Wx Aa Aa (fun hL => EN _ _ w (v1) x2 x3 (AU (p2 - p1)) p1 _ h1 hL) fun x a w F W => ?_
   have W : Stw ⟨Y, X, w0⟩ [] [row v1 63 Bo x4] w := W
   refine Fd (AM ?_)
   refine vn tk 5 F W fun a w F W => ?_
   refine Ad ?_
   exact ⟨_, H, F.ra Aa, W⟩
  refine BB ?_
  iterate 2 refine BR ?_
  refine Bx (Ad ?_)
  have H := L2 _ H
  exact ⟨_, H, F.ra Aa, W⟩
 rintro a w ⟨x1, hj, F, W⟩
 have hj := AC hj
 subst hj
 have H := K1
 refine vc tk 8 F W fun a w F W => ?_
 refine BN H (fun s a w => Fr 60 [] [(0, v1), (3, .func (.func 41) #[] #[]), (8, .int .i64 p1), (9, .int .i64 0), (12, .int .i64 s.2)] a ∧ Stw ⟨Y, X, w0⟩ [] [row v1 63 Bo s.1] w) ⟨F.ra Aa, W⟩ fun s o a w H L3 hR => ?_
 obtain ⟨x5, x6⟩ := s
 obtain ⟨F, W⟩ := hR
 have F : Fr 60 [] [(0, v1), (3, .func (.func 41) #[] #[]), (8, .int .i64 p1), (9, .int .i64 0), (12, .int .i64 x6)] a := F
 have W : Stw ⟨Y, X, w0⟩ [] [row v1 63 Bo x5] w := W
 rw [B6] at H
 refine vc tk 7 F W fun a w F W => ?_
 refine BU F Aa H (fun F H => ?_) fun F H => ?_
 ·
  refine Gp tk 5 F W fun a w F W => ?_
  refine EX [(true, 0), (true, 1), (true, 2), (true, 3), (true, 4), (true, 5), (true, 6), (true, 7), (true, 8), (true, 9), (true, 10), (true, 11), (true, 12), (true, 13), (true, 14), (true, 15), (true, 16), (false, 17), (true, 18), (false, 19)] (CN ⟨Y, X, w0⟩ [] [(some 17, row v1 63 Bo x5)]) (fun ch a d v w h => by cases d <;> exact h) MO (by kernel_rfl) W (fun w W => ⟨_, _, W, Ab, (all_cons (fun _ => (.head _)) Ab)⟩) fun w W => ?_
  iterate 5 refine BD (R := []) F Aa Aa (yC fun M Z hN hZ => Aq F Aa) Aa Aa fun a F => ?_
  refine BD (R := []) F Aa Aa (yC fun M Z hN hZ => Iv F Aa Aa Aa) Aa Aa fun a F => ?_
  iterate 3 refine BD (R := []) F Aa Aa (yC fun M Z hN hZ => Aq F Aa) Aa Aa fun a F => ?_
  refine BD (R := []) F Aa Aa (yC fun M Z hN hZ => Iv F Aa Aa Aa) Aa Aa fun a F => ?_
  obtain ⟨x7, h2, H⟩ := Ag H
  refine BD (R := []) F Aa Aa (yC fun M Z hN hZ => Cy (r := Bo) EJ F Aa Aa (EK W (Al 0 Aa)) h2) Aa Aa fun a F => ?_
  refine BD (R := [17]) F Aa Aa (yC fun M Z hN hZ => An (y := Value.agg #[.int .i64 x7.1, .int .i64 x7.2.1, .int .i64 x7.2.2.1, .int .i64 x7.2.2.2.1, .int .i64 x7.2.2.2.2]) (j := 0) (i := AU (p1 + x6)) F Aa Aa (D3 (hZ ((some 17), row v1 63 Bo x5) (.head _) Aa)) h2 EM.to D4 Aa) (by kernel_rfl) Aa fun a F => ?_
  iterate 2 refine BD (R := []) F Aa Aa (yC fun M Z hN hZ => Aq F Aa) Aa Aa fun a F => ?_
  obtain ⟨x8, h3, H⟩ := Ag H
  refine BD (R := []) F Aa Aa (yC fun M Z hN hZ => Cy (r := Bo) EJ F Aa Aa (EK W (Al 0 Aa)) h3) Aa Aa fun a F => ?_
  refine BD (R := [17]) F Aa Aa (yC fun M Z hN hZ => An (y := Value.agg #[.int .i64 x8.1, .int .i64 x8.2.1, .int .i64 x8.2.2.1, .int .i64 x8.2.2.2.1, .int .i64 x8.2.2.2.2]) (j := 0) (i := p1) F Aa Aa (D3 (hZ ((some 17), row v1 63 Bo x5) (.head _) Aa)) h3 EM.to D4 Aa) (by kernel_rfl) Aa fun a F => ?_
  obtain ⟨x9, h4, H⟩ := Ag H
  refine BD (R := []) F Aa Aa (yC fun M Z hN hZ => Cy (r := Bo) EJ F Aa Aa (EK W (Al 0 Aa)) h4) Aa Aa fun a F => ?_
  refine DU Aa ?_
  refine BO (i := p1) (j := 0) (vs := (C1 x7)) (x' := x7) F W Aa Aa Aa (k := 0) Aa Aa h4 D4 Aa Aa Aa Aa (fun A cs _ => EM.sto (by rfl) _ _ _) fun w W => ?_
  refine BG (N2 := []) (NZ2 := []) (N3 := []) (NZ3 := [(some 17, row v1 63 Bo x5)]) W Aa Aa Ab (all_cons (fun h => Ae (by kernel_rfl) h) Ab) ?_
  obtain ⟨x10, h5, H⟩ := Ag H
  refine BD (R := []) F Aa Aa (yC fun M Z hN hZ => Cy (r := Bo) EJ F Aa Aa (EK W (Al 0 Aa)) h5) Aa Aa fun a F => ?_
  refine DU Aa ?_
  refine BO (i := AU (p1 + x6)) (j := 0) (vs := (C1 x8)) (x' := x8) F W Aa Aa Aa (k := 0) Aa Aa h5 D4 Aa Aa Aa Aa (fun A cs _ => EM.sto (by rfl) _ _ _) fun w W => ?_
  refine BG (N2 := []) (NZ2 := []) (N3 := []) (NZ3 := [(some 17, row v1 63 Bo x5)]) W Aa Aa Ab (all_cons (fun h => Ae (by kernel_rfl) h) Ab) ?_
  refine GM ?_
  refine vn tk 6 F W fun a w F W => ?_
  obtain ⟨x11, h6, H⟩ := Ag H
  refine A7 (Ml := []) (Zl := [row v1 63 Bo (Bm (Bm x5 p1 x7) (AU (p1 + x6)) x8)]) (β := Unit) (rv := fun x => .tuple #[]) (MM := fun x => []) (ZZ := fun x => [row v1 63 Bo x11]) F W Wx Aa Aa (fun hL => EN _ _ w (v1) (Bm (Bm x5 p1 x7) (AU (p1 + x6)) x8) 0 x6 p1 _ h6 hL) fun x a w F W => ?_
  have W : Stw ⟨Y, X, w0⟩ [] [row v1 63 Bo x11] w := W
  refine Fd (AM ?_)
  refine vn tk 5 F W fun a w F W => ?_
  refine Ad ?_
  exact ⟨_, H, F.ra Aa, W⟩
 refine BB ?_
 iterate 2 refine BR ?_
 refine Bx ?_
 have H := L3 _ H
 have H := AC H
 subst H
 refine J5 (.inr Aa) F Aa ?_
 exact ⟨(), Aa, W⟩
theorem ZF : Has Tryz.prog 94 := CP Tryz.func94
def Cb (p0 : List (Int × (Int × Int × Int × Int))) (p1 : Int) (p2 : Int) (p3 : Int) : Option (Int × Int × Int) := (ix p0 p2).bind fun x1 => (ix p0 p1).bind fun x2 => (Cs x1 x2).bind fun x3 => (if x3 < 0 then some (p2, p1, AU (p3 + 1)) else some (p1, p2, p3))
theorem DA (Y : Nat → Prop) (X : List Nat) (w0 : World) (v1 : Value) (q_p3 : Nat) (p0 : List (Int × (Int × Int × Int × Int))) (p1 : Int) (p2 : Int) (p3 : Int) (r : Int × Int × Int) (H : Cb p0 p1 p2 p3 = some r) (h_v1 : Sl w0 (NX X) Bo v1 p0) (hL : Stw ⟨Y, X, w0⟩ [(q_p3, [.int .i64 p3])] [] w0) :
    Calls Tryz.prog 142 #[v1, .int .i64 p1, .int .i64 p2, .pointer (some ⟨q_p3, 0, none⟩), .func (.func 41) #[] #[]] w0 fun e w' => ∃ x : Unit, e = .returned (.tuple #[.int .i64 r.1, .int .i64 r.2.1]) ∧ Stw ⟨Y, X, w0⟩ [(q_p3, [.int .i64 r.2.2])] [] w' := by
 refine enter Tryz.func142 Aa Tryz.ntmps142 Aa fun a F => ?_
 have W := hL
 unfold Cb at H
 refine vc tk 8 F W fun a w F W => ?_
 refine CH W MO (by kernel_rfl) ?_
 iterate 3 refine qs F Aa (Aq F Aa).q fun a F => ?_
 obtain ⟨x1, h1, H⟩ := Ag H
 refine qs F Aa (Aw (r := Bo) EJ F Aa Aa (Ah h_v1) h1).q fun a F => ?_
 refine qs F Aa (An (y := Value.agg #[.int .i64 x1.1, .int .i64 x1.2.1, .int .i64 x1.2.2.1, .int .i64 x1.2.2.2.1, .int .i64 x1.2.2.2.2]) (j := 0) (i := p2) F Aa Aa (Ah h_v1) h1 EM.to D4 Aa).q fun a F => ?_
 iterate 2 refine qs F Aa (Aq F Aa).q fun a F => ?_
 obtain ⟨x2, h2, H⟩ := Ag H
 refine qs F Aa (Aw (r := Bo) EJ F Aa Aa (Ah h_v1) h2).q fun a F => ?_
 refine qs F Aa (An (y := Value.agg #[.int .i64 x2.1, .int .i64 x2.2.1, .int .i64 x2.2.2.1, .int .i64 x2.2.2.2.1, .int .i64 x2.2.2.2.2]) (j := 0) (i := p1) F Aa Aa (Ah h_v1) h2 EM.to D4 Aa).q fun a F => ?_
 obtain ⟨x3, h3, H⟩ := Ag H
 refine qs F Aa (ES (ws := (I9 x1 x2)) (v := Value.int .i64 x3) F Su Aa (fun w W => CE any w x1 x2 _ h3)) fun a F => ?_
 refine qs F Aa (GY F Aa Aa).q fun a F => ?_
 refine AO fun w W => ?_
 refine Ad ?_
 refine BU F Aa H (fun F H => ?_) fun F H => ?_
 ·
  refine vc tk 3 F W fun a w F W => ?_
  refine ls F W Aa (CG F Aa).q fun a w F W => ?_
  refine Hw tk 2 [0] F W (ai fun a w F W => ?_)
  refine ls F W Aa (CG F Aa).q fun a w F W => ?_
  refine DZ 0 F W Aa Aa Aa T3 Aa Aa Aa fun w W => ?_
  refine Cv tk 10 F W fun a w F W => ?_
  refine Am (Az ?_)
  have H := AC H
  subst H
  refine OG (.inl Aa) F W Aa (Ap F Aa) (Ap F Aa) ?_
  exact ⟨(), Aa, W⟩
 refine Gp tk 10 F W fun a w F W => ?_
 refine Am ?_
 have H := AC H
 subst H
 refine OG (.inl Aa) F W Aa (Ap F Aa) (Ap F Aa) ?_
 exact ⟨(), Aa, W⟩
theorem V1 : Has Tryz.prog 142 := CP Tryz.func142
def Ca (p0 : List (Int × (Int × Int × Int × Int))) (p1 : Int) (p2 : Int) (p3 : Int) (p4 : Int) : Option (Int × Int) := (Cb p0 p1 p2 p4).bind fun x1 => (Cb p0 x1.2.1 p3 x1.2.2).bind fun x2 => (Cb p0 x1.1 x2.1 x2.2.2).bind fun x3 => some (x3.2.1, x3.2.2)
theorem E4 (Y : Nat → Prop) (X : List Nat) (w0 : World) (v1 : Value) (q_p4 : Nat) (p0 : List (Int × (Int × Int × Int × Int))) (p1 : Int) (p2 : Int) (p3 : Int) (p4 : Int) (r : Int × Int) (H : Ca p0 p1 p2 p3 p4 = some r) (h_v1 : Sl w0 (NX X) Bo v1 p0) (hL : Stw ⟨Y, X, w0⟩ [(q_p4, [.int .i64 p4])] [] w0) :
    Calls Tryz.prog 129 #[v1, .int .i64 p1, .int .i64 p2, .int .i64 p3, .pointer (some ⟨q_p4, 0, none⟩), .func (.func 41) #[] #[]] w0 fun e w' => ∃ x : Unit, e = .returned (.int .i64 r.1) ∧ Stw ⟨Y, X, w0⟩ [(q_p4, [.int .i64 r.2])] [] w' := by
 refine enter Tryz.func129 Aa Tryz.ntmps129 Aa fun a F => ?_
 have W := hL
 unfold Ca at H
 refine vc tk 12 F W fun a w F W => ?_
 obtain ⟨x1, h1, H⟩ := Ag H
 refine A7 (Ml := [(q_p4, [.int .i64 p4])]) (Zl := []) (β := Unit) (rv := fun x => .tuple #[.int .i64 x1.1, .int .i64 x1.2.1]) (MM := fun x => [(q_p4, [.int .i64 x1.2.2])]) (ZZ := fun x => []) F W V1 Aa Aa (fun hL => DA _ _ w (v1) q_p4 p0 p1 p2 p4 _ h1 (W.roX h_v1 (fun g hg => Gg hg)) hL) fun x a w F W => ?_
 have W : Stw ⟨Y, X, w0⟩ [(q_p4, [.int .i64 x1.2.2])] [] w := W
 refine ls F W Aa (Aq F Aa).q fun a w F W => ?_
 refine ls F W Aa (Dx (v := Value.int .i64 x1.1) F Aa Aa).q fun a w F W => ?_
 refine ls F W Aa (Dx (v := Value.int .i64 x1.2.1) F Aa Aa).q fun a w F W => ?_
 refine Cv tk 11 F W fun a w F W => ?_
 obtain ⟨x2, h2, H⟩ := Ag H
 refine A7 (Ml := [(q_p4, [.int .i64 x1.2.2])]) (Zl := []) (β := Unit) (rv := fun x => .tuple #[.int .i64 x2.1, .int .i64 x2.2.1]) (MM := fun x => [(q_p4, [.int .i64 x2.2.2])]) (ZZ := fun x => []) F W V1 Aa Aa (fun hL => DA _ _ w (v1) q_p4 p0 x1.2.1 p3 x1.2.2 _ h2 (W.roX h_v1 (fun g hg => Gg hg)) hL) fun x a w F W => ?_
 have W : Stw ⟨Y, X, w0⟩ [(q_p4, [.int .i64 x2.2.2])] [] w := W
 refine ls F W Aa (Aq F Aa).q fun a w F W => ?_
 refine ls F W Aa (Dx (v := Value.int .i64 x2.1) F Aa Aa).q fun a w F W => ?_
 refine ls F W Aa (Dx (v := Value.int .i64 x2.2.1) F Aa Aa).q fun a w F W => ?_
 refine Cv tk 11 F W fun a w F W => ?_
 obtain ⟨x3, h3, H⟩ := Ag H
 refine A7 (Ml := [(q_p4, [.int .i64 x2.2.2])]) (Zl := []) (β := Unit) (rv := fun x => .tuple #[.int .i64 x3.1, .int .i64 x3.2.1]) (MM := fun x => [(q_p4, [.int .i64 x3.2.2])]) (ZZ := fun x => []) F W V1 Aa Aa (fun hL => DA _ _ w (v1) q_p4 p0 x1.1 x2.1 x2.2.2 _ h3 (W.roX h_v1 (fun g hg => Gg hg)) hL) fun x a w F W => ?_
 have W : Stw ⟨Y, X, w0⟩ [(q_p4, [.int .i64 x3.2.2])] [] w := W
 refine ls F W Aa (Aq F Aa).q fun a w F W => ?_
 refine ls F W Aa (Dx (v := Value.int .i64 x3.1) F Aa Aa).q fun a w F W => ?_
 refine ls F W Aa (Dx (v := Value.int .i64 x3.2.1) F Aa Aa).q fun a w F W => ?_
 refine Cv tk 10 F W fun a w F W => ?_
 refine Am ?_
 have H := AC H
 subst H
 refine Ax (.inl Aa) F W Aa (Ap F Aa) ?_
 exact ⟨(), Aa, W⟩
theorem WC : Has Tryz.prog 129 := CP Tryz.func129
def Bn (p0 : List (Int × (Int × Int × Int × Int))) (p1 : Int) (p2 : Int) : Option (Int × Int) := (Ca p0 (AU (p1 - 1)) p1 (AU (p1 + 1)) p2).bind fun x1 => some (x1.1, x1.2)
theorem C8 (Y : Nat → Prop) (X : List Nat) (w0 : World) (v1 : Value) (q_p2 : Nat) (p0 : List (Int × (Int × Int × Int × Int))) (p1 : Int) (p2 : Int) (r : Int × Int) (H : Bn p0 p1 p2 = some r) (h_v1 : Sl w0 (NX X) Bo v1 p0) (hL : Stw ⟨Y, X, w0⟩ [(q_p2, [.int .i64 p2])] [] w0) :
    Calls Tryz.prog 128 #[v1, .int .i64 p1, .pointer (some ⟨q_p2, 0, none⟩), .func (.func 41) #[] #[]] w0 fun e w' => ∃ x : Unit, e = .returned (.int .i64 r.1) ∧ Stw ⟨Y, X, w0⟩ [(q_p2, [.int .i64 r.2])] [] w' := by
 refine enter Tryz.func128 Aa Tryz.ntmps128 Aa fun a F => ?_
 have W := hL
 unfold Bn at H
 refine vc tk 15 F W fun a w F W => ?_
 obtain ⟨x1, h1, H⟩ := Ag H
 refine A7 (Ml := [(q_p2, [.int .i64 p2])]) (Zl := []) (β := Unit) (rv := fun x => .int .i64 x1.1) (MM := fun x => [(q_p2, [.int .i64 x1.2])]) (ZZ := fun x => []) F W WC Aa Aa (fun hL => E4 _ _ w (v1) q_p2 p0 (AU (p1 - 1)) p1 (AU (p1 + 1)) p2 _ h1 (W.roX h_v1 (fun g hg => Gg hg)) hL) fun x a w F W => ?_
 have W : Stw ⟨Y, X, w0⟩ [(q_p2, [.int .i64 x1.2])] [] w := W
 refine Cv tk 3 F W fun a w F W => ?_
 refine Am ?_
 have H := AC H
 subst H
 refine Ax (.inl Aa) F W Aa (Ap F Aa) ?_
 exact ⟨(), Aa, W⟩
theorem V6 : Has Tryz.prog 128 := CP Tryz.func128
def Cq (p0 : List (Int × (Int × Int × Int × Int))) (p1 : Int) (p2 : Int) : Option (Int × Int) := (if 8 ≤ (AU (p2 - p1)) then (if 50 ≤ (AU (p2 - p1)) then (Bn p0 (AU (p1 + (AU ((AU (Int.tdiv (AU (p2 - p1)) 4)) * 1)))) 0).bind fun x7 => (Bn p0 (AU (p1 + (AU ((AU (Int.tdiv (AU (p2 - p1)) 4)) * 2)))) x7.2).bind fun x8 => (Bn p0 (AU (p1 + (AU ((AU (Int.tdiv (AU (p2 - p1)) 4)) * 3)))) x8.2).bind fun x9 => some (x7.1, x8.1, x9.1, x9.2) else some (AU (p1 + (AU ((AU (Int.tdiv (AU (p2 - p1)) 4)) * 1))), AU (p1 + (AU ((AU (Int.tdiv (AU (p2 - p1)) 4)) * 2))), AU (p1 + (AU ((AU (Int.tdiv (AU (p2 - p1)) 4)) * 3))), 0)).bind fun (x3, x4, x5, x6) => (Ca p0 x3 x4 x5 x6).bind fun x10 => some (x10.1, x10.2) else some (AU (p1 + (AU ((AU (Int.tdiv (AU (p2 - p1)) 4)) * 2))), 0)).bind fun (x1, x2) => (if x2 = 0 then some (x1, 1) else (if x2 = 12 then some (x1, 2) else some (x1, 0)))
theorem GP (Y : Nat → Prop) (w0 : World) (v1 : Value) (p0 : List (Int × (Int × Int × Int × Int))) (p1 : Int) (p2 : Int) (r : Int × Int) (H : Cq p0 p1 p2 = some r) (h_v1 : Sl w0 (NX []) Bo v1 p0) :
    Calls Tryz.prog 96 #[v1, .int .i64 p1, .int .i64 p2, .func (.func 41) #[] #[]] w0 fun e w' => e = .returned (.tuple #[.int .i64 r.1, .int .i64 r.2]) ∧ Below w0.heap.size w0 w' := by
 refine enter Tryz.func96 Aa Tryz.ntmps96 Aa fun a F => ?_
 have W := Stw.start Y w0
 unfold Cq at H
 refine vc tk 16 F W fun a w F W => ?_
 refine AF (cs := [.int .i64 0]) F W Aa Z3 Aa fun b1 a w F W => ?_
 refine Cv tk 6 F W fun a w F W => ?_
 refine ls F W Aa (O8 F Aa Aa (by decide) Aa).q fun a w F W => ?_
 refine Cv tk 9 F W fun a w F W => ?_
 refine ls F W Aa (O8 F Aa Aa (by decide) Aa).q fun a w F W => ?_
 refine Cv tk 9 F W fun a w F W => ?_
 refine ls F W Aa (O8 F Aa Aa (by decide) Aa).q fun a w F W => ?_
 refine vl tk 4 F W fun a w F W => ?_
 refine Ad ?_
 obtain ⟨o1, G1, K1⟩ := Ag H
 refine AA (fun a w => ∃ x1 : Int, ∃ x2 : Int, some ((x1, x2)) = some o1 ∧ Fr 63 [] [(8, .int .i64 0), (9, .int .i64 0), (11, .pointer (some ⟨b1, 0, none⟩)), (13, .int .i64 x1)] a ∧ Stw ⟨Y, [], w0⟩ [(b1, [.int .i64 x2])] [] w) ?_ ?_
 ·
  have H := G1
  refine vc tk 6 F W fun a w F W => ?_
  refine BU F Aa H (fun F H => ?_) fun F H => ?_
  ·
   obtain ⟨o2, G2, K2⟩ := Ag H
   refine AA (fun a w => ∃ x3 : Int, ∃ x4 : Int, ∃ x5 : Int, ∃ x6 : Int, some ((x3, x4, x5, x6)) = some o2 ∧ Fr 63 [] [(0, v1), (3, .func (.func 41) #[] #[]), (8, .int .i64 0), (9, .int .i64 0), (11, .pointer (some ⟨b1, 0, none⟩)), (12, .int .i64 x3), (13, .int .i64 x4), (14, .int .i64 x5)] a ∧ Stw ⟨Y, [], w0⟩ [(b1, [.int .i64 x6])] [] w) ?_ ?_
   ·
    have H := G2
    refine vc tk 6 F W fun a w F W => ?_
    refine BU F Aa H (fun F H => ?_) fun F H => ?_
    ·
     refine vc tk 5 F W fun a w F W => ?_
     obtain ⟨x7, h1, H⟩ := Ag H
     refine A7 (Ml := [(b1, [.int .i64 0])]) (Zl := []) (β := Unit) (rv := fun x => .int .i64 x7.1) (MM := fun x => [(b1, [.int .i64 x7.2])]) (ZZ := fun x => []) F W V6 Aa Aa (fun hL => C8 _ _ w (v1) b1 p0 (AU (p1 + (AU ((AU (Int.tdiv (AU (p2 - p1)) 4)) * 1)))) 0 _ h1 (W.roX h_v1 (fun g hg => Gg hg)) hL) fun x a w F W => ?_
     have W : Stw ⟨Y, [], w0⟩ [(b1, [.int .i64 x7.2])] [] w := W
     refine Cv tk 8 F W fun a w F W => ?_
     obtain ⟨x8, h2, H⟩ := Ag H
     refine A7 (Ml := [(b1, [.int .i64 x7.2])]) (Zl := []) (β := Unit) (rv := fun x => .int .i64 x8.1) (MM := fun x => [(b1, [.int .i64 x8.2])]) (ZZ := fun x => []) F W V6 Aa Aa (fun hL => C8 _ _ w (v1) b1 p0 (AU (p1 + (AU ((AU (Int.tdiv (AU (p2 - p1)) 4)) * 2)))) x7.2 _ h2 (W.roX h_v1 (fun g hg => Gg hg)) hL) fun x a w F W => ?_
     have W : Stw ⟨Y, [], w0⟩ [(b1, [.int .i64 x8.2])] [] w := W
     refine Cv tk 7 F W fun a w F W => ?_
     obtain ⟨x9, h3, H⟩ := Ag H
     refine A7 (Ml := [(b1, [.int .i64 x8.2])]) (Zl := []) (β := Unit) (rv := fun x => .int .i64 x9.1) (MM := fun x => [(b1, [.int .i64 x9.2])]) (ZZ := fun x => []) F W V6 Aa Aa (fun hL => C8 _ _ w (v1) b1 p0 (AU (p1 + (AU ((AU (Int.tdiv (AU (p2 - p1)) 4)) * 3)))) x8.2 _ h3 (W.roX h_v1 (fun g hg => Gg hg)) hL) fun x a w F W => ?_
     have W : Stw ⟨Y, [], w0⟩ [(b1, [.int .i64 x9.2])] [] w := W
     refine vl tk 2 F W fun a w F W => ?_
     refine Ad ?_
     exact ⟨_, _, _, _, H, F.ra Aa, W⟩
    refine Bc (Ad ?_)
    exact ⟨_, _, _, _, H, F.ra Aa, W⟩
   rintro a w ⟨x3, x4, x5, x6, hj, F, W⟩
   have hj := AC hj
   subst hj
   have H := K2
   refine vc tk 6 F W fun a w F W => ?_
   obtain ⟨x10, h4, H⟩ := Ag H
   refine A7 (Ml := [(b1, [.int .i64 x6])]) (Zl := []) (β := Unit) (rv := fun x => .int .i64 x10.1) (MM := fun x => [(b1, [.int .i64 x10.2])]) (ZZ := fun x => []) F W WC Aa Aa (fun hL => E4 _ _ w (v1) b1 p0 x3 x4 x5 x6 _ h4 (W.roX h_v1 (fun g hg => Gg hg)) hL) fun x a w F W => ?_
   have W : Stw ⟨Y, [], w0⟩ [(b1, [.int .i64 x10.2])] [] w := W
   refine vl tk 2 F W fun a w F W => ?_
   refine Ad ?_
   exact ⟨_, _, H, F.ra Aa, W⟩
  refine Bc (Ad ?_)
  exact ⟨_, _, H, F.ra Aa, W⟩
 rintro a w ⟨x1, x2, hj, F, W⟩
 have hj := AC hj
 subst hj
 have H := K1
 refine FR tk 12 [0] F W (ai fun a w F W => ?_)
 refine B9 F Aa (fun hb => ?_) fun hb => ?_
 ·
  have H := Cg (CQ hb) H
  rw [hb] at F
  refine vc tk 7 F W fun a w F W => ?_
  refine Am (AH ?_)
  have H := AC H
  subst H
  refine OG (.inl Aa) F W Aa (Ap F Aa) (Ap F Aa) ?_
  exact ⟨rfl, W.done⟩
 have H := Cf (CO hb) H
 rw [hb] at F
 refine vc tk 6 F W fun a w F W => ?_
 refine B9 F Aa (fun hb => ?_) fun hb => ?_
 ·
  have H := Cg (CQ hb) H
  rw [hb] at F
  refine vc tk 7 F W fun a w F W => ?_
  refine Am (AH ?_)
  have H := AC H
  subst H
  refine OG (.inl Aa) F W Aa (Ap F Aa) (Ap F Aa) ?_
  exact ⟨rfl, W.done⟩
 have H := Cf (CO hb) H
 rw [hb] at F
 refine vc tk 7 F W fun a w F W => ?_
 refine Am (AH ?_)
 have H := AC H
 subst H
 refine OG (.inl Aa) F W Aa (Ap F Aa) (Ap F Aa) ?_
 exact ⟨rfl, W.done⟩
theorem Y3 : Has Tryz.prog 96 := CP Tryz.func96
def Bv  : ((List (Int × (Int × Int × Int × Int))) × Int × Int) → Option (((List (Int × (Int × Int × Int × Int))) × Int × Int) ⊕ (List (Int × (Int × Int × Int × Int))))
  | (x1, x2, x3) => (if x2 < x3 then (ix x1 x3).bind fun x4 => (ix x1 x2).bind fun x5 => (ix x1 x2).bind fun x6 => (ix (Bm x1 x2 x4) x3).bind fun x7 => some (.inl ((Bm (Bm x1 x2 x4) x3 x5), AU (x2 + 1), AU (x3 - 1))) else some (.inr x1))
def BX (p0 : List (Int × (Int × Int × Int × Int))) (p1 : Int) (p2 : Int) : Option (List (Int × (Int × Int × Int × Int))) := Ba (Bv) (p0, p1, AU (p2 - 1))
theorem GC (Y : Nat → Prop) (X : List Nat) (w0 : World) (v1 : Value) (p0 : List (Int × (Int × Int × Int × Int))) (p1 : Int) (p2 : Int) (r : (List (Int × (Int × Int × Int × Int)))) (H : BX p0 p1 p2 = some r) (hL : Stw ⟨Y, X, w0⟩ [] [row v1 63 Bo p0] w0) :
    Calls Tryz.prog 97 #[v1, .int .i64 p1, .int .i64 p2, .func (.func 41) #[] #[]] w0 fun e w' => ∃ x : Unit, e = .returned (.tuple #[]) ∧ Stw ⟨Y, X, w0⟩ [] [row v1 63 Bo r] w' := by
 refine enter Tryz.func97 Aa Tryz.ntmps97 Aa fun a F => ?_
 have W := hL
 unfold BX at H
 refine vc tk 14 F W fun a w F W => ?_
 refine BN H (fun s a w => Fr 34 [] [(0, v1), (8, .int .i64 s.2.1), (9, .int .i64 s.2.2)] a ∧ Stw ⟨Y, X, w0⟩ [] [row v1 63 Bo s.1] w) ⟨F.ra Aa, W⟩ fun s o a w H L1 hR => ?_
 obtain ⟨x1, x2, x3⟩ := s
 obtain ⟨F, W⟩ := hR
 have F : Fr 34 [] [(0, v1), (8, .int .i64 x2), (9, .int .i64 x3)] a := F
 have W : Stw ⟨Y, X, w0⟩ [] [row v1 63 Bo x1] w := W
 rw [Bv] at H
 refine vc tk 8 F W fun a w F W => ?_
 refine BU F Aa H (fun F H => ?_) fun F H => ?_
 ·
  refine Gp tk 4 F W fun a w F W => ?_
  refine I4 13 [2, 3] [0, 1, 4, 5, 6, 7, 8, 9, 10, 11, 12] (fun ch a d v w h => by cases d <;> exact h) W MO (by kernel_rfl) ?_
  iterate 2 refine hm F Aa Aa Aa fun a F => ?_
  refine KF ?_
  iterate 4 refine hs F Aa Aa Aa (Aq F Aa).q fun a F => ?_
  obtain ⟨x4, h1, H⟩ := Ag H
  refine hs F Aa Aa Aa (Aw (r := Bo) EJ F Aa Aa (Al 0 Aa) h1).q fun a F => ?_
  refine hs F Aa Aa Aa (An (y := Value.agg #[.int .i64 x4.1, .int .i64 x4.2.1, .int .i64 x4.2.2.1, .int .i64 x4.2.2.2.1, .int .i64 x4.2.2.2.2]) (j := 0) (i := x3) F Aa Aa (Al 0 Aa) h1 EM.to D4 Aa).q fun a F => ?_
  iterate 2 refine hs F Aa Aa Aa (Aq F Aa).q fun a F => ?_
  obtain ⟨x5, h2, H⟩ := Ag H
  refine hs F Aa Aa Aa (Aw (r := Bo) EJ F Aa Aa (Al 0 Aa) h2).q fun a F => ?_
  refine hs F Aa Aa Aa (An (y := Value.agg #[.int .i64 x5.1, .int .i64 x5.2.1, .int .i64 x5.2.2.1, .int .i64 x5.2.2.2.1, .int .i64 x5.2.2.2.2]) (j := 0) (i := x2) F Aa Aa (Al 0 Aa) h2 EM.to D4 Aa).q fun a F => ?_
  obtain ⟨x6, h3, H⟩ := Ag H
  refine hs F Aa Aa Aa (Aw (r := Bo) EJ F Aa Aa (Al 0 Aa) h3).q fun a F => ?_
  refine Nu fun w W => ?_
  have W : Stw ⟨Y, X, w0⟩ [] [row v1 63 Bo x1] w := W
  refine BO (i := x2) (j := 0) (vs := (C1 x4)) (x' := x4) F W Aa Aa Aa (k := 0) Aa Aa h3 D4 Aa Aa Aa Aa (fun A cs _ => EM.sto (by rfl) _ _ _) fun w W => ?_
  obtain ⟨x7, h4, H⟩ := Ag H
  refine ls F W Aa (Aw (r := Bo) EJ F Aa Aa (Al 0 Aa) h4).q fun a w F W => ?_
  refine BO (i := x3) (j := 0) (vs := (C1 x5)) (x' := x5) F W Aa Aa Aa (k := 0) Aa Aa h4 D4 Aa Aa Aa Aa (fun A cs _ => EM.sto (by rfl) _ _ _) fun w W => ?_
  refine Cv tk 14 F W fun a w F W => ?_
  refine AM (Ad ?_)
  exact ⟨_, H, F.ra Aa, W⟩
 refine BB ?_
 iterate 2 refine BR ?_
 refine Bx ?_
 have H := L1 _ H
 have H := AC H
 subst H
 refine J5 (.inr Aa) F Aa ?_
 exact ⟨(), Aa, W⟩
end
end Go.Proofs.YtpckgggmgijiiaaGreatDoor
