/- The functions of layer 27, Ix. Conditions: none. -/
import Derived.Test.YtpckgggmgijiiaaGreatDoorbA1
namespace Go.Proofs.YtpckgggmgijiiaaGreatDoor
open Go Go.RowKit
set_option linter.unusedVariables false
set_option linter.unusedSimpArgs false
set_option maxRecDepth 20000
theorem Yy : Has Tryz.prog 72 := CJ Tryz.func72
abbrev Ii (a0 : Nat) (a1 : Int × (Int × Int × Int × Int)) (a2 : Nat) (a3 : Tr37) (a4 : Value) (a5 : Value) : List (Nat × List Value) := [(a0, [.int .i64 a1.1, .int .i64 a1.2.1, .int .i64 a1.2.2.1, .int .i64 a1.2.2.2.1, .int .i64 a1.2.2.2.2]), (a2, [.int .i64 a3.un.1, .int .i64 a3.un.2.1.un.1, .int .i64 a3.un.2.1.un.2.1, .int .i64 a3.un.2.1.un.2.2.1, a4, .int .i64 a3.un.2.2.1, .int .i64 a3.un.2.2.2.1, a5])]
noncomputable def Ce (fRec : Tr37 → Int → (Int × (Int × Int × Int × Int)) → Option (List (Int × (Int × Int × Int × Int)))) (p0 : Tr37) (p1 : Int) (p2 : Int × (Int × Int × Int × Int)) : ((List (Int × (Int × Int × Int × Int))) × Int) → Option (((List (Int × (Int × Int × Int × Int))) × Int) ⊕ (List (Int × (Int × Int × Int × Int))))
  | (x5, x6) => (if x6 < (p0.un.2.2.2.2.length : Int) then (ix p0.un.2.2.2.2 x6).bind fun x7 => (fRec (Tr37.of (x7.un.1, Tr34.of (x7.un.2.1.un.1, x7.un.2.1.un.2.1, x7.un.2.1.un.2.2.1, x7.un.2.1.un.2.2.2), x7.un.2.2.1, x7.un.2.2.2.1, x7.un.2.2.2.2)) p1 p2).bind fun x8 => some (.inl ((Jg Bi x5 x8), AO (x6 + 1))) else some (.inr x5))
noncomputable def Be (fRec : Tr37 → Int → (Int × (Int × Int × Int × Int)) → Option (List (Int × (Int × Int × Int × Int)))) (p0 : Tr37) (p1 : Int) (p2 : Int × (Int × Int × Int × Int)) : Option (List (Int × (Int × Int × Int × Int))) := Ko (if p0.un.1 = 1 then (Gt (Tr34.of (p0.un.2.1.un.1, p0.un.2.1.un.2.1, p0.un.2.1.un.2.2.1, p0.un.2.1.un.2.2.2)) p1 p2.1 p2.2).bind fun x1 => (if x1 = true then some (.inr (FN Bi ([] : List (Int × (Int × Int × Int × Int))) p2)) else some (.inl ())) else (if p0.un.1 = 2 then (Cd p2 p0.un.2.2.1 p0.un.2.2.2.1).bind fun x2 => some (.inr (FN Bi ([] : List (Int × (Int × Int × Int × Int))) x2)) else (if p0.un.1 = 3 then ((CK fRec) p0.un.2.2.2.2 p1 p2).bind fun x3 => some (.inr x3) else (if p0.un.1 = 4 then (AW (Ce fRec p0 p1 p2) (([] : List (Int × (Int × Int × Int × Int))), 0)).bind fun x4 => some (.inr x4) else (if p0.un.1 = 5 then (EC (Tr37.of (p0.un.1, Tr34.of (p0.un.2.1.un.1, p0.un.2.1.un.2.1, p0.un.2.1.un.2.2.1, p0.un.2.1.un.2.2.2), p0.un.2.2.1, p0.un.2.2.2.1, p0.un.2.2.2.2)) p1 p2).bind fun x9 => (fRec (Tr37.of (x9.un.1, Tr34.of (x9.un.2.1.un.1, x9.un.2.1.un.2.1, x9.un.2.1.un.2.2.1, x9.un.2.1.un.2.2.2), x9.un.2.2.1, x9.un.2.2.2.1, x9.un.2.2.2.2)) p1 p2).bind fun x10 => some (.inr x10) else some (.inl ())))))) fun _ => some ([] : List (Int × (Int × Int × Int × Int)))
noncomputable def Az : Nat → Tr37 → Int → (Int × (Int × Int × Int × Int)) → Option (List (Int × (Int × Int × Int × Int)))
  | 0 => fun _ _ _ => none
  | n + 1 => Be (Az n)
noncomputable def Eb (p0 : Tr37) (p1 : Int) (p2 : Int × (Int × Int × Int × Int)) : Option (List (Int × (Int × Int × Int × Int))) := GL fun n => Az n p0 p1 p2
theorem La (fRec : Tr37 → Int → (Int × (Int × Int × Int × Int)) → Option (List (Int × (Int × Int × Int × Int)))) (ih : ∀ (Y : Nat → Prop) (w0 : World) (v1 : Value) (v2 : Value) (p0 : Tr37) (p1 : Int) (p2 : Int × (Int × Int × Int × Int)) (r : (List (Int × (Int × Int × Int × Int)))) (H : fRec p0 p1 p2 = some r) (h_v1 : Sl w0 (NX []) CC v1 p0.un.2.1.un.2.2.2) (s_v2 : Sl w0 Y De v2 p0.un.2.2.2.2), Calls Tryz.prog 39 #[.agg #[.int .i64 p0.un.1, .int .i64 p0.un.2.1.un.1, .int .i64 p0.un.2.1.un.2.1, .int .i64 p0.un.2.1.un.2.2.1, v1, .int .i64 p0.un.2.2.1, .int .i64 p0.un.2.2.2.1, v2], .int .i64 p1, .agg #[.int .i64 p2.1, .int .i64 p2.2.1, .int .i64 p2.2.2.1, .int .i64 p2.2.2.2.1, .int .i64 p2.2.2.2.2]] w0 fun e w' => ∃ x : Value, e = .returned (x) ∧ Stw ⟨Y, [], w0⟩ [] [Cx (x) CZ Bi r] w') (Y : Nat → Prop) (w0 : World) (v1 : Value) (v2 : Value) (p0 : Tr37) (p1 : Int) (p2 : Int × (Int × Int × Int × Int)) (r : (List (Int × (Int × Int × Int × Int)))) (H : Be fRec p0 p1 p2 = some r) (h_v1 : Sl w0 (NX []) CC v1 p0.un.2.1.un.2.2.2) (s_v2 : Sl w0 Y De v2 p0.un.2.2.2.2) :
    Calls Tryz.prog 39 #[.agg #[.int .i64 p0.un.1, .int .i64 p0.un.2.1.un.1, .int .i64 p0.un.2.1.un.2.1, .int .i64 p0.un.2.1.un.2.2.1, v1, .int .i64 p0.un.2.2.1, .int .i64 p0.un.2.2.2.1, v2], .int .i64 p1, .agg #[.int .i64 p2.1, .int .i64 p2.2.1, .int .i64 p2.2.2.1, .int .i64 p2.2.2.2.1, .int .i64 p2.2.2.2.2]] w0 fun e w' => ∃ x : Value, e = .returned (x) ∧ Stw ⟨Y, [], w0⟩ [] [Cx (x) CZ Bi r] w' := by
 refine enter Tryz.func39 Aa Tryz.ntmps39 Aa fun a F => ?_
 have W := Stw.start Y w0
 obtain ⟨v3, h1, h_v1⟩ := h_v1.ex CG
 obtain ⟨v4, h2, s_v2⟩ := s_v2.ex EE
 have h_v2 := W.nx s_v2
 unfold Be at H
 refine vc tk 2 F W fun a w F W => ?_
 refine CY (cs := (CX p0 v1 v2)) F W Aa Aa Aa fun b1 a w F W => ?_
 refine CY (cs := (CT p2)) F W Aa Aa Aa fun b2 a w F W => ?_
 refine vl tk 2 F W fun a w F W => ?_
 refine Ac ?_
 obtain ⟨o1, G1, K1, L1⟩ := QS H
 refine Ax (fun a w => some (Sum.inl ()) = some o1 ∧ Fr 72 [] [(6, .map none)] a ∧ Stw ⟨Y, [], w0⟩ (Ii b2 p2 b1 p0 v1 v2) [] w) ?_ ?_
 ·
  have H := G1
  clear G1 K1
  refine Fo tk 13 [1] F W (ai fun a w F W => ?_)
  refine BX F Aa (fun hb => ?_) fun hb => ?_
  ·
   have H := B8 (CI hb) H
   rw [hb] at F
   clear hb
   refine Fo tk 9 [1, 0, 0] F W (ai (ai (ai fun a w F W => ?_)))
   obtain ⟨x1, h3, H⟩ := Ad H
   refine ls F W Aa (AK (v := Value.bool x1) F Yd Aa (fun w W => MJ any w (v1) (Tr34.of (p0.un.2.1.un.1, p0.un.2.1.un.2.1, p0.un.2.1.un.2.2.1, p0.un.2.1.un.2.2.2)) p1 p2.1 p2.2 _ h3 (Ek (Aq CG h1 (Af h_v1)) W))) fun a w F W => ?_
   refine Cl tk 2 F W fun a w F W => ?_
   refine Cz F Aa H (fun F H => ?_) fun F H => ?_
   ·
    refine vc tk 2 F W fun a w F W => ?_
    refine Hx CZ Bi F W Aa fun v5 a w F W => ?_
    have W : Stw ⟨Y, [], w0⟩ (Ii b2 p2 b1 p0 v1 v2) [Cx v5 CZ Bi ([] : List (Int × (Int × Int × Int × Int)))] w := W
    refine ls F W Aa (Bw (v := Value.agg #[.int .i64 p2.1, .int .i64 p2.2.1, .int .i64 p2.2.2.1, .int .i64 p2.2.2.2.1, .int .i64 p2.2.2.2.2]) 0 F Aa Aa DP Aa).q fun a w F W => ?_
    refine ls F W Aa (CB (v := Value.agg #[]) WV F Aa Aa Aa).q fun a w F W => ?_
    refine l_setput' (q := 0) (p2 : Int × (Int × Int × Int × Int)) F W Aa Aa Aa Aa Aa Um H2 Rn fun w W => ?_
    have W : Stw ⟨Y, [], w0⟩ (Ii b2 p2 b1 p0 v1 v2) [Cx v5 CZ Bi (FN Bi ([] : List (Int × (Int × Int × Int × Int))) p2)] w := W
    refine Cl tk 4 F W fun a w F W => ?_
    refine Ak (AD (Ay ?_))
    have H := L1 _ H
    have H := AA H
    subst H
    refine Au (.inl Aa) F W Aa (Am F Aa) ?_
    have W := W.sub (M' := []) (Z' := [Cx v5 CZ Bi (FN Bi ([] : List (Int × (Int × Int × Int × Int))) p2)]) (List.nil_sublist _) (List.Sublist.refl _)
    exact ⟨(v5), Aa, W⟩
   refine AX (AG (Ac ?_))
   have W := W.frontM (i := 1) Aa Aa
   have W := W.frontM (i := 1) Aa Aa
   exact ⟨H, F.ra Aa, W⟩
  have H := B7 (CH hb) H
  rw [hb] at F
  clear hb
  refine vc tk 6 F W fun a w F W => ?_
  refine BX F Aa (fun hb => ?_) fun hb => ?_
  ·
   have H := B8 (CI hb) H
   rw [hb] at F
   clear hb
   refine vc tk 2 F W fun a w F W => ?_
   refine Hx CZ Bi F W Aa fun v6 a w F W => ?_
   have W : Stw ⟨Y, [], w0⟩ (Ii b2 p2 b1 p0 v1 v2) [Cx v6 CZ Bi ([] : List (Int × (Int × Int × Int × Int)))] w := W
   refine GD tk 5 [0, 1, 1] F W (ai (ai (ai fun a w F W => ?_)))
   obtain ⟨x2, h4, H⟩ := Ad H
   refine ls F W Aa (AK (v := Value.agg #[.int .i64 x2.1, .int .i64 x2.2.1, .int .i64 x2.2.2.1, .int .i64 x2.2.2.2.1, .int .i64 x2.2.2.2.2]) F YE Aa (fun w W => Ll any w p2 p0.un.2.2.1 p0.un.2.2.2.1 _ h4)) fun a w F W => ?_
   refine ls F W Aa (CB (v := Value.agg #[]) WV F Aa Aa Aa).q fun a w F W => ?_
   refine l_setput' (q := 0) (x2 : Int × (Int × Int × Int × Int)) F W Aa Aa Aa Aa Aa Um H2 Rn fun w W => ?_
   have W : Stw ⟨Y, [], w0⟩ (Ii b2 p2 b1 p0 v1 v2) [Cx v6 CZ Bi (FN Bi ([] : List (Int × (Int × Int × Int × Int))) x2)] w := W
   refine Cl tk 4 F W fun a w F W => ?_
   refine Ak (AD (Ay ?_))
   have H := L1 _ H
   have H := AA H
   subst H
   refine Au (.inl Aa) F W Aa (Am F Aa) ?_
   have W := W.sub (M' := []) (Z' := [Cx v6 CZ Bi (FN Bi ([] : List (Int × (Int × Int × Int × Int))) x2)]) (List.nil_sublist _) (List.Sublist.refl _)
   exact ⟨(v6), Aa, W⟩
  have H := B7 (CH hb) H
  rw [hb] at F
  clear hb
  refine vc tk 6 F W fun a w F W => ?_
  refine BX F Aa (fun hb => ?_) fun hb => ?_
  ·
   have H := B8 (CI hb) H
   rw [hb] at F
   clear hb
   refine Fo tk 6 [1, 0] F W (ai (ai fun a w F W => ?_))
   obtain ⟨x3, h5, H⟩ := Ad H
   refine Bv (Ml := []) (Zl := []) (β := Value) (rv := fun x => x) (MM := fun x => []) (ZZ := fun x => [Cx x CZ Bi x3]) F W Yw Aa Aa (fun hL => (Kr fRec ih) _ w (v2) p0.un.2.2.2.2 p1 p2 _ h5 (Sl.hide EE h2 (W.old s_v2))) fun x a w F W => ?_
   obtain ⟨v7, rfl⟩ : ∃ y, y = x := ⟨x, rfl⟩
   have W : Stw ⟨Y, [], w0⟩ (Ii b2 p2 b1 p0 v1 v2) [Cx v7 CZ Bi x3] w := W
   refine Cl tk 3 F W fun a w F W => ?_
   refine Ak (AD (Ay ?_))
   have H := L1 _ H
   have H := AA H
   subst H
   refine Au (.inl Aa) F W Aa (Am F Aa) ?_
   have W := W.sub (M' := []) (Z' := [Cx v7 CZ Bi x3]) (List.nil_sublist _) (List.Sublist.refl _)
   exact ⟨(v7), Aa, W⟩
  have H := B7 (CH hb) H
  rw [hb] at F
  clear hb
  refine vc tk 6 F W fun a w F W => ?_
  refine BX F Aa (fun hb => ?_) fun hb => ?_
  ·
   have H := B8 (CI hb) H
   rw [hb] at F
   clear hb
   refine vc tk 2 F W fun a w F W => ?_
   refine Hx CZ Bi F W Aa fun v8 a w F W => ?_
   have W : Stw ⟨Y, [], w0⟩ (Ii b2 p2 b1 p0 v1 v2) [Cx v8 CZ Bi ([] : List (Int × (Int × Int × Int × Int)))] w := W
   refine vl tk 2 F W fun a w F W => ?_
   refine Ac ?_
   obtain ⟨o2, G2, K2⟩ := Ad H
   refine Ax (fun a w => ∃ x4 : List (Int × (Int × Int × Int × Int)), some (x4) = some o2 ∧ Fr 72 [] [(6, .map none), (7, v8)] a ∧ Stw ⟨Y, [], w0⟩ (Ii b2 p2 b1 p0 v1 v2) [Cx v8 CZ Bi x4] w) ?_ ?_
   ·
    have H := G2
    clear G2 K2
    refine Fo tk 4 [1] F W (ai fun a w F W => ?_)
    refine ls F W Aa (CS (r := De) (l := p0.un.2.2.2.2) Kq Aa F Aa (Aq EE h2 (Af h_v2))).q fun a w F W => ?_
    refine Cl tk 4 F W fun a w F W => ?_
    have W := W.frontM (i := 1) Aa Aa
    have W := W.frontM (i := 1) Aa Aa
    refine BF H (fun s a w => Fr 72 [] [(1, .int .i64 p1), (5, .pointer (some ⟨b2, 0, none⟩)), (6, .map none), (7, v8), (48, v2), (49, .int .i64 (p0.un.2.2.2.2.length : Int)), (50, .int .i64 s.2)] a ∧ Stw ⟨Y, [], w0⟩ (Ii b2 p2 b1 p0 v1 v2) [Cx v8 CZ Bi s.1] w) ⟨F.ra Aa, W⟩ fun s o a w H L3 hR => ?_
    obtain ⟨x5, x6⟩ := s
    obtain ⟨F, W⟩ := hR
    have F : Fr 72 [] [(1, .int .i64 p1), (5, .pointer (some ⟨b2, 0, none⟩)), (6, .map none), (7, v8), (48, v2), (49, .int .i64 (p0.un.2.2.2.2.length : Int)), (50, .int .i64 x6)] a := F
    have W : Stw ⟨Y, [], w0⟩ (Ii b2 p2 b1 p0 v1 v2) [Cx v8 CZ Bi x5] w := W
    rw [Ce] at H
    refine vc tk 6 F W fun a w F W => ?_
    refine BJ F Aa H (fun F H => ?_) fun F H => ?_
    ·
     refine FL tk 6 F W fun a w F W => ?_
     obtain ⟨x7, h6, H⟩ := Ad H
     obtain ⟨v9, h7, h8⟩ := DM h2 h6
     have h9 : HK v9 = [.int .i64 x7.un.1, .int .i64 x7.un.2.1.un.1, .int .i64 x7.un.2.1.un.2.1, .int .i64 x7.un.2.1.un.2.2.1, (v9.2.1.2.2.2.1), .int .i64 x7.un.2.2.1, .int .i64 x7.un.2.2.2.1, (v9.2.2.2.2.1)] := congrArg (fun q : Tr37 => ([.int .i64 q.un.1, .int .i64 q.un.2.1.un.1, .int .i64 q.un.2.1.un.2.1, .int .i64 q.un.2.1.un.2.2.1, (v9.2.1.2.2.2.1), .int .i64 q.un.2.2.1, .int .i64 q.un.2.2.2.1, (v9.2.2.2.2.1)] : List Value)) h8
     refine ls F W Aa (Av (r := FW) O0 F Aa Aa (Af h_v2) h7).q fun a w F W => ?_
     refine ls F W Aa (Al (y := Value.agg #[.int .i64 x7.un.1, .int .i64 x7.un.2.1.un.1, .int .i64 x7.un.2.1.un.2.1, .int .i64 x7.un.2.1.un.2.2.1, (v9.2.1.2.2.2.1), .int .i64 x7.un.2.2.1, .int .i64 x7.un.2.2.2.1, (v9.2.2.2.2.1)]) (j := 0) (i := x6) (enc := HK) F Aa Aa (Af h_v2) h7 NN II (by rw [h9]; rfl)).q fun a w F W => ?_
     refine B9 (cs := (F6)) F W Aa Mc Aa fun b3 a w F W => ?_
     refine Ed 0 F W Aa Aa Aa II Aa Aa (Ae Aa (Ae Aa (Ae Aa (Ae Aa (Ae ((BE (Af h_v2) h7 (Ai.snd (Ai.fst (Ai.snd (Ai.snd (Ai.snd Ai.here))))) (congrArg (fun q : Tr37 => q.un.2.1.un.2.2.2) h8)) _ W).one (Ae Aa (Ae Aa (Ae ((BE (Af h_v2) h7 (Ai.snd (Ai.snd (Ai.snd (Ai.snd Ai.here)))) (congrArg (fun q : Tr37 => q.un.2.2.2.2) h8)) _ W).one Df)))))))) fun w W => ?_
     refine FC tk 7 [0, 1] F W (ai (ai fun a w F W => ?_))
     obtain ⟨x8, h10, H⟩ := Ad H
     refine Bv (Ml := []) (Zl := []) (β := Value) (rv := fun x => x) (MM := fun x => []) (ZZ := fun x => [Cx x CZ Bi x8]) F W WR Aa Aa (fun hL => ih _ w ((v9.2.1.2.2.2.1)) ((v9.2.2.2.2.1)) (Tr37.of (x7.un.1, Tr34.of (x7.un.2.1.un.1, x7.un.2.1.un.2.1, x7.un.2.1.un.2.2.1, x7.un.2.1.un.2.2.2), x7.un.2.2.1, x7.un.2.2.2.1, x7.un.2.2.2.2)) p1 p2 _ h10 ((BE (Af h_v2) h7 (Ai.snd (Ai.fst (Ai.snd (Ai.snd (Ai.snd Ai.here))))) (congrArg (fun q : Tr37 => q.un.2.1.un.2.2.2) h8)) w W).nx (Sl.at_ (W.old s_v2) h7 (Ai.snd (Ai.snd (Ai.snd (Ai.snd Ai.here)))) (congrArg (fun q : Tr37 => q.un.2.2.2.2) h8))) fun x a w F W => ?_
     obtain ⟨v10, rfl⟩ : ∃ y, y = x := ⟨x, rfl⟩
     have W : Stw ⟨Y, [], w0⟩ [(b3, [.int .i64 x7.un.1, .int .i64 x7.un.2.1.un.1, .int .i64 x7.un.2.1.un.2.1, .int .i64 x7.un.2.1.un.2.2.1, (v9.2.1.2.2.2.1), .int .i64 x7.un.2.2.1, .int .i64 x7.un.2.2.2.1, (v9.2.2.2.2.1)]), (b2, (CT p2)), (b1, (CX p0 v1 v2))] [Cx v10 CZ Bi x8, Cx v8 CZ Bi x5] w := W
     have W := W.frontZ (i := 1) Aa Aa
     refine Bv (Ml := []) (Zl := [Cx v8 CZ Bi x5, Cx v10 CZ Bi x8]) (β := Unit) (rv := fun _ => .tuple #[]) (MM := fun _ => []) (ZZ := fun _ => [Cx v10 CZ Bi x8, Cx v8 CZ Bi (Jg Bi x5 x8)]) F W Yb Aa Aa (fun hL => S2 _ _ w _ _ _ _ hL) fun _ a w F W => ?_
     have W : Stw ⟨Y, [], w0⟩ [(b3, [.int .i64 x7.un.1, .int .i64 x7.un.2.1.un.1, .int .i64 x7.un.2.1.un.2.1, .int .i64 x7.un.2.1.un.2.2.1, (v9.2.1.2.2.2.1), .int .i64 x7.un.2.2.1, .int .i64 x7.un.2.2.2.1, (v9.2.2.2.2.1)]), (b2, (CT p2)), (b1, (CX p0 v1 v2))] [Cx v10 CZ Bi x8, Cx v8 CZ Bi (Jg Bi x5 x8)] w := W
     refine Ew (AG ?_)
     refine vn tk 4 F W fun a w F W => ?_
     refine Ac ?_
     have W := W.frontZ (i := 1) Aa Aa
     have W := W.frontM (i := 2) Aa Aa
     have W := W.frontM (i := 2) Aa Aa
     have W := W.sub (M' := (Ii b2 p2 b1 p0 v1 v2)) (Z' := [Cx v8 CZ Bi (Jg Bi x5 x8)]) (List.Sublist.cons_cons _ (List.Sublist.cons_cons _ (List.nil_sublist _))) (List.Sublist.cons_cons _ (List.nil_sublist _))
     exact ⟨_, H, F.ra Aa, W⟩
    refine Bu ?_
    iterate 2 refine BL ?_
    refine Bp (Ac ?_)
    have W := W.frontM (i := 1) Aa Aa
    have W := W.frontM (i := 1) Aa Aa
    have H := L3 _ H
    exact ⟨_, H, F.ra Aa, W⟩
   rintro a w ⟨x4, hj, F, W⟩
   have hj := AA hj
   subst hj
   have H := K2
   clear G2 K2
   refine vc tk 6 F W fun a w F W => ?_
   refine Ak (AD (Ay ?_))
   have H := L1 _ H
   have H := AA H
   subst H
   refine Au (.inl Aa) F W Aa (Am F Aa) ?_
   have W := W.sub (M' := []) (Z' := [Cx v8 CZ Bi x4]) (List.nil_sublist _) (List.Sublist.refl _)
   exact ⟨(v8), Aa, W⟩
  have H := B7 (CH hb) H
  rw [hb] at F
  clear hb
  refine vc tk 6 F W fun a w F W => ?_
  refine BX F Aa (fun hb => ?_) fun hb => ?_
  ·
   have H := B8 (CI hb) H
   rw [hb] at F
   clear hb
   refine FS ?_
   refine D6 [(true, 0), (true, 1), (true, 2), (true, 4), (true, 5), (false, 3), (false, 6), (false, 7)] (CN ⟨Y, [], w0⟩ [(some 3, b1, [.int .i64 p0.un.1, .int .i64 p0.un.2.1.un.1, .int .i64 p0.un.2.1.un.2.1, .int .i64 p0.un.2.1.un.2.2.1, v1, .int .i64 p0.un.2.2.1, .int .i64 p0.un.2.2.2.1, v2]), (some 3, b2, [.int .i64 p2.1, .int .i64 p2.2.1, .int .i64 p2.2.2.1, .int .i64 p2.2.2.2.1, .int .i64 p2.2.2.2.2]), (some 6, b2, [.int .i64 p2.1, .int .i64 p2.2.1, .int .i64 p2.2.2.1, .int .i64 p2.2.2.2.1, .int .i64 p2.2.2.2.2])] []) (fun ch a d v w h => by cases d <;> exact h) MO (by kernel_rfl) W (fun w W => ⟨_, _, W, (all_cons (fun _ => (.tail _ (.head _))) (all_cons (fun _ => (.head _)) (all_cons (fun _ => (.head _)) Ag))), Ag⟩) fun w W => ?_
   refine Bo (R := [3]) F Aa Aa (yC fun M Z hN hZ => CF (cs := (CX p0 v1 v2)) (v := Value.agg #[.int .i64 p0.un.1, .int .i64 p0.un.2.1.un.1, .int .i64 p0.un.2.1.un.2.1, .int .i64 p0.un.2.1.un.2.2.1, v1, .int .i64 p0.un.2.2.1, .int .i64 p0.un.2.2.2.1, v2]) F Aa (hN ((some 3), b1, (CX p0 v1 v2)) (.head _) Aa) II Aa) (by kernel_rfl) Aa fun a F => ?_
   refine Bo (R := []) F Aa Aa (yC fun M Z hN hZ => An F Aa) Aa Aa fun a F => ?_
   refine Bo (R := [3]) F Aa Aa (yC fun M Z hN hZ => CF (cs := (CT p2)) (v := Value.agg #[.int .i64 p2.1, .int .i64 p2.2.1, .int .i64 p2.2.2.1, .int .i64 p2.2.2.2.1, .int .i64 p2.2.2.2.2]) F Aa (hN ((some 3), b2, (CT p2)) (.tail _ (.head _)) Aa) DP Aa) (by kernel_rfl) Aa fun a F => ?_
   refine Bo (R := []) F Aa Aa (yC fun M Z hN hZ => An F Aa) Aa Aa fun a F => ?_
   refine Bo (R := [6]) F Aa Aa (yC fun M Z hN hZ => CF (cs := (CT p2)) (v := Value.agg #[.int .i64 p2.1, .int .i64 p2.2.1, .int .i64 p2.2.2.1, .int .i64 p2.2.2.2.1, .int .i64 p2.2.2.2.2]) F Aa (hN ((some 6), b2, (CT p2)) (.tail _ (.tail _ (.head _))) Aa) DP Aa) (by kernel_rfl) Aa fun a F => ?_
   refine Dr Aa ?_
   obtain ⟨x9, h11, H⟩ := Ad H
   refine Bv (Ml := []) (Zl := []) (β := Value × Value) (rv := fun x => .agg #[.int .i64 x9.un.1, .int .i64 x9.un.2.1.un.1, .int .i64 x9.un.2.1.un.2.1, .int .i64 x9.un.2.1.un.2.2.1, x.1, .int .i64 x9.un.2.2.1, .int .i64 x9.un.2.2.2.1, x.2]) (MM := fun x => []) (ZZ := fun x => [Ef x.1 CC x9.un.2.1.un.2.2.2, Ef x.2 De x9.un.2.2.2.2]) F W Yy Aa Aa (fun hL => M4 _ w (v1) (v2) (Tr37.of (p0.un.1, Tr34.of (p0.un.2.1.un.1, p0.un.2.1.un.2.1, p0.un.2.1.un.2.2.1, p0.un.2.1.un.2.2.2), p0.un.2.2.1, p0.un.2.2.2.1, p0.un.2.2.2.2)) p1 p2 _ h11 ((Aq CG h1 (Af h_v1)) w W).nx (Sl.hide EE h2 (W.old s_v2))) fun x a w F W => ?_
   obtain ⟨v11, v12⟩ := x
   have W : Stw ⟨Y, [], w0⟩ (Ii b2 p2 b1 p0 v1 v2) [Ef v11 CC x9.un.2.1.un.2.2.2, Ef v12 De x9.un.2.2.2.2] w := W
   refine Bl (N2 := []) (NZ2 := []) (N3 := [(some 3, b1, [.int .i64 p0.un.1, .int .i64 p0.un.2.1.un.1, .int .i64 p0.un.2.1.un.2.1, .int .i64 p0.un.2.1.un.2.2.1, v1, .int .i64 p0.un.2.2.1, .int .i64 p0.un.2.2.2.1, v2]), (some 3, b2, [.int .i64 p2.1, .int .i64 p2.2.1, .int .i64 p2.2.2.1, .int .i64 p2.2.2.2.1, .int .i64 p2.2.2.2.2]), (some 6, b2, [.int .i64 p2.1, .int .i64 p2.2.1, .int .i64 p2.2.2.1, .int .i64 p2.2.2.2.1, .int .i64 p2.2.2.2.2])]) (NZ3 := []) W Aa Aa (all_cons (fun h => Ah (by kernel_rfl) h) (all_cons (fun h => Ah (by kernel_rfl) h) (all_cons (fun _ => (.head _)) Ag))) Ag ?_
   refine Dr Aa ?_
   obtain ⟨x10, h12, H⟩ := Ad H
   refine Bv (Ml := []) (Zl := []) (β := Value) (rv := fun x => x) (MM := fun x => []) (ZZ := fun x => [Cx x CZ Bi x10]) F W WR Aa Aa (fun hL => ih _ w (v11) (v12) (Tr37.of (x9.un.1, Tr34.of (x9.un.2.1.un.1, x9.un.2.1.un.2.1, x9.un.2.1.un.2.2.1, x9.un.2.1.un.2.2.2), x9.un.2.2.1, x9.un.2.2.2.1, x9.un.2.2.2.2)) p1 p2 _ h12 ((LJ 0 Aa) w W).nx (W.item (i := 1) Aa)) fun x a w F W => ?_
   obtain ⟨v13, rfl⟩ : ∃ y, y = x := ⟨x, rfl⟩
   have W : Stw ⟨Y, [], w0⟩ (Ii b2 p2 b1 p0 v1 v2) [Cx v13 CZ Bi x10, Ef v11 CC x9.un.2.1.un.2.2.2, Ef v12 De x9.un.2.2.2.2] w := W
   refine Bl (N2 := []) (NZ2 := []) (N3 := [(some 3, b1, [.int .i64 p0.un.1, .int .i64 p0.un.2.1.un.1, .int .i64 p0.un.2.1.un.2.1, .int .i64 p0.un.2.1.un.2.2.1, v1, .int .i64 p0.un.2.2.1, .int .i64 p0.un.2.2.2.1, v2]), (some 3, b2, [.int .i64 p2.1, .int .i64 p2.2.1, .int .i64 p2.2.2.1, .int .i64 p2.2.2.2.1, .int .i64 p2.2.2.2.2]), (some 6, b2, [.int .i64 p2.1, .int .i64 p2.2.1, .int .i64 p2.2.2.1, .int .i64 p2.2.2.2.1, .int .i64 p2.2.2.2.2])]) (NZ3 := []) W Aa Aa (all_cons (fun h => Ah (by kernel_rfl) h) (all_cons (fun h => Ah (by kernel_rfl) h) (all_cons (fun h => Ah (by kernel_rfl) h) Ag))) Ag ?_
   refine Dr Aa ?_
   refine ls F W Aa (Bk F Aa).q fun a w F W => ?_
   refine Bl (N2 := []) (NZ2 := []) (N3 := [(some 3, b1, [.int .i64 p0.un.1, .int .i64 p0.un.2.1.un.1, .int .i64 p0.un.2.1.un.2.1, .int .i64 p0.un.2.1.un.2.2.1, v1, .int .i64 p0.un.2.2.1, .int .i64 p0.un.2.2.2.1, v2]), (some 3, b2, [.int .i64 p2.1, .int .i64 p2.2.1, .int .i64 p2.2.2.1, .int .i64 p2.2.2.2.1, .int .i64 p2.2.2.2.2]), (some 6, b2, [.int .i64 p2.1, .int .i64 p2.2.1, .int .i64 p2.2.2.1, .int .i64 p2.2.2.2.1, .int .i64 p2.2.2.2.2])]) (NZ3 := []) W Aa Aa (all_cons (fun h => Ah (by kernel_rfl) h) (all_cons (fun h => Ah (by kernel_rfl) h) (all_cons (fun h => Ah (by kernel_rfl) h) Ag))) Ag ?_
   refine Fw (Ac (Ak (AD (Ay ?_))))
   have H := L1 _ H
   have H := AA H
   subst H
   refine Au (.inl Aa) F W Aa (Am F Aa) ?_
   have W := W.sub (M' := []) (Z' := [Cx v13 CZ Bi x10]) (List.nil_sublist _) (List.Sublist.cons_cons _ (List.nil_sublist _))
   exact ⟨(v13), Aa, W⟩
  have H := B7 (CH hb) H
  rw [hb] at F
  clear hb
  refine AX (AG (Ac ?_))
  have W := W.frontM (i := 1) Aa Aa
  have W := W.frontM (i := 1) Aa Aa
  exact ⟨H, F.ra Aa, W⟩
 rintro a w ⟨hj, F, W⟩
 have H := K1 _ hj
 clear hj G1 K1 L1
 refine vc tk 2 F W fun a w F W => ?_
 refine Hx CZ Bi F W Aa fun v14 a w F W => ?_
 have W : Stw ⟨Y, [], w0⟩ (Ii b2 p2 b1 p0 v1 v2) [Cx v14 CZ Bi ([] : List (Int × (Int × Int × Int × Int)))] w := W
 refine Cl tk 3 F W fun a w F W => ?_
 refine Ak ?_
 have H := AA H
 subst H
 refine Au (.inl Aa) F W Aa (Am F Aa) ?_
 have W := W.sub (M' := []) (Z' := [Cx v14 CZ Bi ([] : List (Int × (Int × Int × Int × Int)))]) (List.nil_sublist _) (List.Sublist.refl _)
 exact ⟨(v14), Aa, W⟩
theorem Ld : ∀ (n : Nat) (Y : Nat → Prop) (w0 : World) (v1 : Value) (v2 : Value) (p0 : Tr37) (p1 : Int) (p2 : Int × (Int × Int × Int × Int)) (r : (List (Int × (Int × Int × Int × Int)))) (H : Az n p0 p1 p2 = some r) (h_v1 : Sl w0 (NX []) CC v1 p0.un.2.1.un.2.2.2) (s_v2 : Sl w0 Y De v2 p0.un.2.2.2.2), Calls Tryz.prog 39 #[.agg #[.int .i64 p0.un.1, .int .i64 p0.un.2.1.un.1, .int .i64 p0.un.2.1.un.2.1, .int .i64 p0.un.2.1.un.2.2.1, v1, .int .i64 p0.un.2.2.1, .int .i64 p0.un.2.2.2.1, v2], .int .i64 p1, .agg #[.int .i64 p2.1, .int .i64 p2.2.1, .int .i64 p2.2.2.1, .int .i64 p2.2.2.2.1, .int .i64 p2.2.2.2.2]] w0 fun e w' => ∃ x : Value, e = .returned (x) ∧ Stw ⟨Y, [], w0⟩ [] [Cx (x) CZ Bi r] w' := by
  intro n
  induction n with
  | zero => intro Y w0 v1 v2 p0 p1 p2 r H; exact nomatch H
  | succ n ih => intro Y w0 v1 v2 p0 p1 p2 r H h_v1 s_v2; exact La (Az n) ih Y w0 v1 v2 p0 p1 p2 r H h_v1 s_v2
theorem LZ (Y : Nat → Prop) (w0 : World) (v1 : Value) (v2 : Value) (p0 : Tr37) (p1 : Int) (p2 : Int × (Int × Int × Int × Int)) (r : (List (Int × (Int × Int × Int × Int)))) (H : Eb p0 p1 p2 = some r) (h_v1 : Sl w0 (NX []) CC v1 p0.un.2.1.un.2.2.2) (s_v2 : Sl w0 Y De v2 p0.un.2.2.2.2) :
    Calls Tryz.prog 39 #[.agg #[.int .i64 p0.un.1, .int .i64 p0.un.2.1.un.1, .int .i64 p0.un.2.1.un.2.1, .int .i64 p0.un.2.1.un.2.2.1, v1, .int .i64 p0.un.2.2.1, .int .i64 p0.un.2.2.2.1, v2], .int .i64 p1, .agg #[.int .i64 p2.1, .int .i64 p2.2.1, .int .i64 p2.2.2.1, .int .i64 p2.2.2.2.1, .int .i64 p2.2.2.2.2]] w0 fun e w' => ∃ x : Value, e = .returned (x) ∧ Stw ⟨Y, [], w0⟩ [] [Cx (x) CZ Bi r] w' := by
  obtain ⟨n, H⟩ := CR H
  exact Ld n Y w0 v1 v2 p0 p1 p2 r H h_v1 s_v2
theorem Ys : type_of% Tryz.underlying5 := Tryz.underlying5
theorem Y4 : type_of% Tryz.underlying9 := Tryz.underlying9
theorem SH : type_of% Tryz.underlying45 := Tryz.underlying45
theorem WG : type_of% Tryz.underlying138 := Tryz.underlying138
abbrev Xa : Rp (Int × Int × Int × Int) := (Rp.pair (Rp.int .i64) (Rp.pair (Rp.int .i64) (Rp.pair (Rp.int .i64) (Rp.int .i64))))
abbrev Bg : Rp (Int × (Int × Int × Int × Int)) := (Rp.pair (Rp.int .i64) Xa)
def X0 (a : Int × Int × Int × Int) : List Value := [.int .i64 a.1, .int .i64 a.2.1, .int .i64 a.2.2.1, .int .i64 a.2.2.2]
theorem X8 : Fl Xa X0 := (Fl.pair Fl.int (Fl.pair Fl.int (Fl.pair Fl.int Fl.int)))
def Y1 (a : Int × (Int × Int × Int × Int)) : List Value := [.int .i64 a.1, .int .i64 a.2.1, .int .i64 a.2.2.1, .int .i64 a.2.2.2.1, .int .i64 a.2.2.2.2]
theorem Ej : Fl Bg Y1 := (Fl.pair Fl.int X8)
theorem Eg : Et Tryz.prog 45 63 5 40 := Et.of SH (by kernel_rfl) (by kernel_rfl) (by kernel_rfl) (by decide)
noncomputable def Gd (p0 : Int) : Option Int := (if 4294967296 ≤ p0 then some (Jx .u64 p0 32, 32) else some (p0, 0)).bind fun (x1, x2) => (if 65536 ≤ x1 then some (Jx .u64 x1 16, AO (x2 + 16)) else some (x1, x2)).bind fun (x3, x4) => (if 256 ≤ x3 then some (Jx .u64 x3 8, AO (x4 + 8)) else some (x3, x4)).bind fun (x5, x6) => (ix ([0, 1, 2, 2, 3, 3, 3, 3, 4, 4, 4, 4, 4, 4, 4, 4, 5, 5, 5, 5, 5, 5, 5, 5, 5, 5, 5, 5, 5, 5, 5, 5, 6, 6, 6, 6, 6, 6, 6, 6, 6, 6, 6, 6, 6, 6, 6, 6, 6, 6, 6, 6, 6, 6, 6, 6, 6, 6, 6, 6, 6, 6, 6, 6, 7, 7, 7, 7, 7, 7, 7, 7, 7, 7, 7, 7, 7, 7, 7, 7, 7, 7, 7, 7, 7, 7, 7, 7, 7, 7, 7, 7, 7, 7, 7, 7, 7, 7, 7, 7, 7, 7, 7, 7, 7, 7, 7, 7, 7, 7, 7, 7, 7, 7, 7, 7, 7, 7, 7, 7, 7, 7, 7, 7, 7, 7, 7, 7, 8, 8, 8, 8, 8, 8, 8, 8, 8, 8, 8, 8, 8, 8, 8, 8, 8, 8, 8, 8, 8, 8, 8, 8, 8, 8, 8, 8, 8, 8, 8, 8, 8, 8, 8, 8, 8, 8, 8, 8, 8, 8, 8, 8, 8, 8, 8, 8, 8, 8, 8, 8, 8, 8, 8, 8, 8, 8, 8, 8, 8, 8, 8, 8, 8, 8, 8, 8, 8, 8, 8, 8, 8, 8, 8, 8, 8, 8, 8, 8, 8, 8, 8, 8, 8, 8, 8, 8, 8, 8, 8, 8, 8, 8, 8, 8, 8, 8, 8, 8, 8, 8, 8, 8, 8, 8, 8, 8, 8, 8, 8, 8, 8, 8, 8, 8, 8, 8, 8, 8, 8, 8, 8, 8, 8, 8, 8, 8] : List UInt8) (IntKind.u8.wrap x5)).bind fun x7 => some (AO (x6 + (AO (x7.toNat : Int))))
theorem LN (Y : Nat → Prop) (w0 : World)  (p0 : Int) (r : Int) (H : Gd p0 = some r)  :
    Calls Tryz.prog 102 #[.int .u64 p0] w0 fun e w' => e = .returned (.int .i64 r) ∧ Below w0.heap.size w0 w' := by
 refine enter Tryz.func102 Aa Tryz.ntmps102 Aa fun a F => ?_
 have W := Stw.start Y w0
 unfold Gd at H
 refine vc tk 5 F W fun a w F W => ?_
 obtain ⟨o1, G1, K1⟩ := Ad H
 refine Ax (fun a w => ∃ x1 : Int, ∃ x2 : Int, some ((x1, x2)) = some o1 ∧ Fr 25 [] [(0, .int .u64 x1), (2, .int .i64 x2)] a ∧ Stw ⟨Y, [], w0⟩ [] [] w) ?_ ?_
 ·
  have H := G1
  clear G1 K1
  refine vc tk 6 F W fun a w F W => ?_
  refine BJ F Aa H (fun F H => ?_) fun F H => ?_
  ·
   refine vc tk 3 F W fun a w F W => ?_
   refine ls F W Aa (RQ F Aa Aa (by decide)).q fun a w F W => ?_
   refine Cl tk 6 F W fun a w F W => ?_
   refine Ac ?_
   exact ⟨_, _, H, F.ra Aa, W⟩
  refine AX (Ac ?_)
  exact ⟨_, _, H, F.ra Aa, W⟩
 rintro a w ⟨x1, x2, hj, F, W⟩
 have hj := AA hj
 subst hj
 have H := K1
 clear G1 K1
 obtain ⟨o2, G2, K2⟩ := Ad H
 refine Ax (fun a w => ∃ x3 : Int, ∃ x4 : Int, some ((x3, x4)) = some o2 ∧ Fr 25 [] [(0, .int .u64 x3), (2, .int .i64 x4)] a ∧ Stw ⟨Y, [], w0⟩ [] [] w) ?_ ?_
 ·
  have H := G2
  clear G2 K2
  refine vc tk 6 F W fun a w F W => ?_
  refine BJ F Aa H (fun F H => ?_) fun F H => ?_
  ·
   refine vc tk 3 F W fun a w F W => ?_
   refine ls F W Aa (RQ F Aa Aa (by decide)).q fun a w F W => ?_
   refine Cl tk 8 F W fun a w F W => ?_
   refine Ac ?_
   exact ⟨_, _, H, F.ra Aa, W⟩
  refine AX (Ac ?_)
  exact ⟨_, _, H, F.ra Aa, W⟩
 rintro a w ⟨x3, x4, hj, F, W⟩
 have hj := AA hj
 subst hj
 have H := K2
 clear G2 K2
 obtain ⟨o3, G3, K3⟩ := Ad H
 refine Ax (fun a w => ∃ x5 : Int, ∃ x6 : Int, some ((x5, x6)) = some o3 ∧ Fr 25 [] [(0, .int .u64 x5), (2, .int .i64 x6)] a ∧ Stw ⟨Y, [], w0⟩ [] [] w) ?_ ?_
 ·
  have H := G3
  clear G3 K3
  refine vc tk 6 F W fun a w F W => ?_
  refine BJ F Aa H (fun F H => ?_) fun F H => ?_
  ·
   refine vc tk 3 F W fun a w F W => ?_
   refine ls F W Aa (RQ F Aa Aa (by decide)).q fun a w F W => ?_
   refine Cl tk 8 F W fun a w F W => ?_
   refine Ac ?_
   exact ⟨_, _, H, F.ra Aa, W⟩
  refine AX (Ac ?_)
  exact ⟨_, _, H, F.ra Aa, W⟩
 rintro a w ⟨x5, x6, hj, F, W⟩
 have hj := AA hj
 subst hj
 have H := K3
 clear G3 K3
 refine vc tk 4 F W fun a w F W => ?_
 refine ls F W Aa (Kp WG Ys F Aa).q fun a w F W => ?_
 obtain ⟨x7, h1, H⟩ := Ad H
 refine ls F W Aa (Tr (l := ([0, 1, 2, 2, 3, 3, 3, 3, 4, 4, 4, 4, 4, 4, 4, 4, 5, 5, 5, 5, 5, 5, 5, 5, 5, 5, 5, 5, 5, 5, 5, 5, 6, 6, 6, 6, 6, 6, 6, 6, 6, 6, 6, 6, 6, 6, 6, 6, 6, 6, 6, 6, 6, 6, 6, 6, 6, 6, 6, 6, 6, 6, 6, 6, 7, 7, 7, 7, 7, 7, 7, 7, 7, 7, 7, 7, 7, 7, 7, 7, 7, 7, 7, 7, 7, 7, 7, 7, 7, 7, 7, 7, 7, 7, 7, 7, 7, 7, 7, 7, 7, 7, 7, 7, 7, 7, 7, 7, 7, 7, 7, 7, 7, 7, 7, 7, 7, 7, 7, 7, 7, 7, 7, 7, 7, 7, 7, 7, 8, 8, 8, 8, 8, 8, 8, 8, 8, 8, 8, 8, 8, 8, 8, 8, 8, 8, 8, 8, 8, 8, 8, 8, 8, 8, 8, 8, 8, 8, 8, 8, 8, 8, 8, 8, 8, 8, 8, 8, 8, 8, 8, 8, 8, 8, 8, 8, 8, 8, 8, 8, 8, 8, 8, 8, 8, 8, 8, 8, 8, 8, 8, 8, 8, 8, 8, 8, 8, 8, 8, 8, 8, 8, 8, 8, 8, 8, 8, 8, 8, 8, 8, 8, 8, 8, 8, 8, 8, 8, 8, 8, 8, 8, 8, 8, 8, 8, 8, 8, 8, 8, 8, 8, 8, 8, 8, 8, 8, 8, 8, 8, 8, 8, 8, 8, 8, 8, 8, 8, 8, 8, 8, 8, 8, 8, 8, 8] : List UInt8)) Y4 F Aa Aa h1).q fun a w F W => ?_
 refine ls F W Aa (Kp Ys Vo F Aa).q fun a w F W => ?_
 refine Cl tk 4 F W fun a w F W => ?_
 refine Ak ?_
 have H := AA H
 subst H
 refine Au (.inl Aa) F W Aa (Am F Aa) ?_
 exact ⟨rfl, W.done⟩
theorem W9 : Has Tryz.prog 102 := CJ Tryz.func102
noncomputable def Fq (p0 : Int) : Option Int := (Gd p0).bind fun x1 => some x1
theorem Ju (Y : Nat → Prop) (w0 : World)  (p0 : Int) (r : Int) (H : Fq p0 = some r)  :
    Calls Tryz.prog 74 #[.int .u64 p0] w0 fun e w' => e = .returned (.int .i64 r) ∧ Below w0.heap.size w0 w' := by
 refine enter Tryz.func74 Aa Tryz.ntmps74 Aa fun a F => ?_
 have W := Stw.start Y w0
 unfold Fq at H
 refine vc tk 12 F W fun a w F W => ?_
 obtain ⟨x1, h1, H⟩ := Ad H
 refine ls F W Aa (AK (v := Value.int .i64 x1) F W9 Aa (fun w W => LN any w p0 _ h1)) fun a w F W => ?_
 refine Cl tk 3 F W fun a w F W => ?_
 refine Ak ?_
 have H := AA H
 subst H
 refine Au (.inl Aa) F W Aa (Am F Aa) ?_
 exact ⟨rfl, W.done⟩
theorem Ya : Has Tryz.prog 74 := CJ Tryz.func74
def DZ (p0 : Int) : Bool := decide (p0 ≠ p0)
theorem Jr (Y : Nat → Prop) (w0 : World)  (p0 : Int) (r : Bool) (H : DZ p0 = r)  :
    Calls Tryz.prog 75 #[.int .i64 p0] w0 fun e w' => e = .returned (.bool r) ∧ Below w0.heap.size w0 w' := by
 refine enter Tryz.func75 Aa Tryz.ntmps75 Aa fun a F => ?_
 have W := Stw.start Y w0
 unfold DZ at H
 refine vc tk 13 F W fun a w F W => ?_
 refine Ak ?_
 subst H
 refine Au (.inl Aa) F W Aa (Am F Aa) ?_
 exact ⟨rfl, W.done⟩
theorem Yt : Has Tryz.prog 75 := CJ Tryz.func75
def AZ (p0 : Int) (p1 : Int) : Int := (if (DZ p0) = true then (if (DZ p1) = true then 0 else (-1)) else (if (DZ p1) = true then 1 else (if p0 < p1 then (-1) else (if p1 < p0 then 1 else 0))))
theorem Ie (Y : Nat → Prop) (w0 : World)  (p0 : Int) (p1 : Int) (r : Int) (H : AZ p0 p1 = r)  :
    Calls Tryz.prog 43 #[.int .i64 p0, .int .i64 p1] w0 fun e w' => e = .returned (.int .i64 r) ∧ Below w0.heap.size w0 w' := by
 refine enter Tryz.func43 Aa Tryz.ntmps43 Aa fun a F => ?_
 have W := Stw.start Y w0
 unfold AZ at H
 refine vc tk 8 F W fun a w F W => ?_
 refine ls F W Aa (AK (v := Value.bool (DZ p0)) F Yt Aa (fun w W => Jr any w p0 _ Aa)) fun a w F W => ?_
 refine Cl tk 6 F W fun a w F W => ?_
 refine ls F W Aa (AK (v := Value.bool (DZ p1)) F Yt Aa (fun w W => Jr any w p1 _ Aa)) fun a w F W => ?_
 refine Cl tk 9 F W fun a w F W => ?_
 refine BX F Aa (fun hb => ?_) fun hb => ?_
 ·
  have H := B8 hb H
  rw [hb] at F
  clear hb
  refine vc tk 6 F W fun a w F W => ?_
  refine BX F Aa (fun hb => ?_) fun hb => ?_
  ·
   have H := B8 hb H
   rw [hb] at F
   clear hb
   refine vc tk 5 F W fun a w F W => ?_
   refine Ak ?_
   iterate 2 refine Ay ?_
   subst H
   refine Au (.inl Aa) F W Aa (Am F Aa) ?_
   exact ⟨rfl, W.done⟩
  have H := B7 (by rw [hb]; decide) H
  rw [hb] at F
  clear hb
  refine FL tk 7 F W fun a w F W => ?_
  refine Ak (Ay ?_)
  subst H
  refine Au (.inl Aa) F W Aa (Am F Aa) ?_
  exact ⟨rfl, W.done⟩
 have H := B7 (by rw [hb]; decide) H
 rw [hb] at F
 clear hb
 refine FL tk 8 F W fun a w F W => ?_
 refine BX F Aa (fun hb => ?_) fun hb => ?_
 ·
  have H := B8 hb H
  rw [hb] at F
  clear hb
  refine vc tk 5 F W fun a w F W => ?_
  refine Ak (Ay ?_)
  subst H
  refine Au (.inl Aa) F W Aa (Am F Aa) ?_
  exact ⟨rfl, W.done⟩
 have H := B7 (by rw [hb]; decide) H
 rw [hb] at F
 clear hb
 refine FL tk 10 F W fun a w F W => ?_
 refine BJ F Aa H (fun F H => ?_) fun F H => ?_
 ·
  refine vc tk 5 F W fun a w F W => ?_
  refine Ak (Ay ?_)
  subst H
  refine Au (.inl Aa) F W Aa (Am F Aa) ?_
  exact ⟨rfl, W.done⟩
 refine FL tk 10 F W fun a w F W => ?_
 refine BJ F Aa H (fun F H => ?_) fun F H => ?_
 ·
  refine vc tk 5 F W fun a w F W => ?_
  refine Ak (Ay ?_)
  subst H
  refine Au (.inl Aa) F W Aa (Am F Aa) ?_
  exact ⟨rfl, W.done⟩
 refine FL tk 7 F W fun a w F W => ?_
 refine Ak ?_
 subst H
 refine Au (.inl Aa) F W Aa (Am F Aa) ?_
 exact ⟨rfl, W.done⟩
theorem SF : type_of% Tryz.underlying49 := Tryz.underlying49
theorem Yf : Has Tryz.prog 43 := CJ Tryz.func43
theorem WX : Et Tryz.prog 49 3 1 8 := Et.of SF (by kernel_rfl) (by kernel_rfl) (by kernel_rfl) (by decide)
noncomputable def C6 (p0 : List Int) (p1 : List Int) : Int → Option (Int ⊕ (Unit ⊕ Int))
  | x1 => (if x1 < (p0.length : Int) then (ix p0 x1).bind fun x2 => (if (p1.length : Int) ≤ x1 then some (.inr (.inr 1)) else (ix p1 x1).bind fun x3 => (if (AZ x2 x3) ≠ 0 then some (.inr (.inr (AZ x2 x3))) else some (.inl (AO (x1 + 1))))) else some (.inr (.inl ())))
noncomputable def Dn (p0 : List Int) (p1 : List Int) : Option Int := Ko (AW (C6 p0 p1) 0) fun _ => (if (p0.length : Int) < (p1.length : Int) then some (-1) else some 0)
theorem Iu (Y : Nat → Prop) (w0 : World) (v1 : Value) (v2 : Value) (p0 : List Int) (p1 : List Int) (r : Int) (H : Dn p0 p1 = some r) (h_v1 : Sl w0 (NX []) (Rp.int .i64) v1 p0) (h_v2 : Sl w0 (NX []) (Rp.int .i64) v2 p1) :
    Calls Tryz.prog 44 #[v1, v2] w0 fun e w' => e = .returned (.int .i64 r) ∧ Below w0.heap.size w0 w' := by
 refine enter Tryz.func44 Aa Tryz.ntmps44 Aa fun a F => ?_
 have W := Stw.start Y w0
 unfold Dn at H
 refine vc tk 5 F W fun a w F W => ?_
 obtain ⟨o1, G1, K1, L1⟩ := QS H
 refine Ax (fun a w => some (Sum.inl ()) = some o1 ∧ Fr 36 [] [(0, v1), (1, v2), (4, .int .i64 0)] a ∧ Stw ⟨Y, [], w0⟩ [] [] w) ?_ ?_
 ·
  have H := G1
  clear G1 K1
  refine vc tk 3 F W fun a w F W => ?_
  refine ls F W Aa (CS (r := (Rp.int .i64)) (l := p0) SF Aa F Aa (Af h_v1)).q fun a w F W => ?_
  refine Cl tk 4 F W fun a w F W => ?_
  refine BF H (fun s a w => Fr 36 [] [(0, v1), (1, v2), (4, .int .i64 0), (9, v1), (10, .int .i64 (p0.length : Int)), (11, .int .i64 s)] a ∧ Stw ⟨Y, [], w0⟩ [] [] w) ⟨F.ra Aa, W⟩ fun s o a w H L2 hR => ?_
  obtain ⟨x1, rfl⟩ : ∃ x, x = s := ⟨s, rfl⟩
  obtain ⟨F, W⟩ := hR
  have F : Fr 36 [] [(0, v1), (1, v2), (4, .int .i64 0), (9, v1), (10, .int .i64 (p0.length : Int)), (11, .int .i64 x1)] a := F
  have W : Stw ⟨Y, [], w0⟩ [] [] w := W
  rw [C6] at H
  refine vc tk 6 F W fun a w F W => ?_
  refine BJ F Aa H (fun F H => ?_) fun F H => ?_
  ·
   refine FL tk 7 F W fun a w F W => ?_
   obtain ⟨x2, h1, H⟩ := Ad H
   refine ls F W Aa (Av (r := (Rp.int .i64)) WX F Aa Aa (Af h_v1) h1).q fun a w F W => ?_
   refine ls F W Aa (Al (y := Value.int .i64 x2) (j := 0) (i := x1) F Aa Aa (Af h_v1) h1 Fl.int.to T3 Aa).q fun a w F W => ?_
   refine Cl tk 9 F W fun a w F W => ?_
   refine ls F W Aa (CS (r := (Rp.int .i64)) (l := p1) SF Aa F Aa (Af h_v2)).q fun a w F W => ?_
   refine Cl tk 3 F W fun a w F W => ?_
   refine BJ F Aa H (fun F H => ?_) fun F H => ?_
   ·
    refine vc tk 5 F W fun a w F W => ?_
    refine Ak (Ay (AD ?_))
    iterate 2 refine Ay ?_
    refine AD (Ay ?_)
    have H := L2 _ H
    have H := L1 _ H
    have H := AA H
    subst H
    refine Au (.inl Aa) F W Aa (Am F Aa) ?_
    exact ⟨rfl, W.done⟩
   refine FL tk 6 F W fun a w F W => ?_
   obtain ⟨x3, h2, H⟩ := Ad H
   refine ls F W Aa (Av (r := (Rp.int .i64)) WX F Aa Aa (Af h_v2) h2).q fun a w F W => ?_
   refine ls F W Aa (Al (y := Value.int .i64 x3) (j := 0) (i := x1) F Aa Aa (Af h_v2) h2 Fl.int.to T3 Aa).q fun a w F W => ?_
   refine Cl tk 7 F W fun a w F W => ?_
   refine ls F W Aa (AK (v := Value.int .i64 (AZ x2 x3)) F Yf Aa (fun w W => Ie any w x2 x3 _ Aa)) fun a w F W => ?_
   refine Cl tk 9 F W fun a w F W => ?_
   refine BJ F Aa H (fun F H => ?_) fun F H => ?_
   ·
    refine vc tk 6 F W fun a w F W => ?_
    refine Ak (AD ?_)
    iterate 2 refine Ay ?_
    refine AD (Ay ?_)
    have H := L2 _ H
    have H := L1 _ H
    have H := AA H
    subst H
    refine Au (.inl Aa) F W Aa (Am F Aa) ?_
    exact ⟨rfl, W.done⟩
   refine AX (AG ?_)
   refine vn tk 4 F W fun a w F W => ?_
   refine Ac ?_
   exact ⟨_, H, F.ra Aa, W⟩
  refine Bu ?_
  iterate 2 refine BL ?_
  refine Bp (Ac ?_)
  have H := L2 _ H
  exact ⟨H, F.ra Aa, W⟩
 rintro a w ⟨hj, F, W⟩
 have H := K1 _ hj
 clear hj G1 K1 L1
 refine vc tk 4 F W fun a w F W => ?_
 refine ls F W Aa (CS (r := (Rp.int .i64)) (l := p0) SF Aa F Aa (Af h_v1)).q fun a w F W => ?_
 refine ls F W Aa (An F Aa).q fun a w F W => ?_
 refine ls F W Aa (CS (r := (Rp.int .i64)) (l := p1) SF Aa F Aa (Af h_v2)).q fun a w F W => ?_
 refine Cl tk 3 F W fun a w F W => ?_
 refine BJ F Aa H (fun F H => ?_) fun F H => ?_
 ·
  refine vc tk 5 F W fun a w F W => ?_
  refine Ak (Ay ?_)
  have H := AA H
  subst H
  refine Au (.inl Aa) F W Aa (Am F Aa) ?_
  exact ⟨rfl, W.done⟩
 refine FL tk 7 F W fun a w F W => ?_
 refine Ak ?_
 have H := AA H
 subst H
 refine Au (.inl Aa) F W Aa (Am F Aa) ?_
 exact ⟨rfl, W.done⟩
theorem Yu : Has Tryz.prog 44 := CJ Tryz.func44
theorem Z3 : (Tryz.prog.info? 3).bind (·.zero) = some (.int .i64 0) := by kernel_rfl
noncomputable def Ez (p0 : List Int) : Int → Option (Int ⊕ (Unit ⊕ Int))
  | x1 => (if x1 < (p0.length : Int) then (ix p0 x1).bind fun x2 => (if x2 ≠ 0 then some (.inr (.inr x2)) else some (.inl (AO (x1 + 1)))) else some (.inr (.inl ())))
noncomputable def HO (p0 : List Int) : Option Int := Ko (AW (Ez p0) 0) fun _ => some 0
theorem PP (Y : Nat → Prop) (w0 : World) (v1 : Value) (p0 : List Int) (r : Int) (H : HO p0 = some r) (h_v1 : Sl w0 (NX []) (Rp.int .i64) v1 p0) :
    Calls Tryz.prog 42 #[v1] w0 fun e w' => e = .returned (.int .i64 r) ∧ Below w0.heap.size w0 w' := by
 refine enter Tryz.func42 Aa Tryz.ntmps42 Aa fun a F => ?_
 have W := Stw.start Y w0
 unfold HO at H
 refine vc tk 10 F W fun a w F W => ?_
 obtain ⟨o1, G1, K1, L1⟩ := QS H
 refine Ax (fun a w => some (Sum.inl ()) = some o1 ∧ Fr 18 [] [(2, .int .i64 0), (3, .int .i64 0)] a ∧ Stw ⟨Y, [], w0⟩ [] [] w) ?_ ?_
 ·
  have H := G1
  clear G1 K1
  refine vc tk 3 F W fun a w F W => ?_
  refine ls F W Aa (CS (r := (Rp.int .i64)) (l := p0) SF Aa F Aa (Af h_v1)).q fun a w F W => ?_
  refine Cl tk 4 F W fun a w F W => ?_
  refine BF H (fun s a w => Fr 18 [] [(2, .int .i64 0), (3, .int .i64 0), (6, v1), (7, .int .i64 (p0.length : Int)), (8, .int .i64 s)] a ∧ Stw ⟨Y, [], w0⟩ [] [] w) ⟨F.ra Aa, W⟩ fun s o a w H L2 hR => ?_
  obtain ⟨x1, rfl⟩ : ∃ x, x = s := ⟨s, rfl⟩
  obtain ⟨F, W⟩ := hR
  have F : Fr 18 [] [(2, .int .i64 0), (3, .int .i64 0), (6, v1), (7, .int .i64 (p0.length : Int)), (8, .int .i64 x1)] a := F
  have W : Stw ⟨Y, [], w0⟩ [] [] w := W
  rw [Ez] at H
  refine vc tk 6 F W fun a w F W => ?_
  refine BJ F Aa H (fun F H => ?_) fun F H => ?_
  ·
   refine FL tk 6 F W fun a w F W => ?_
   obtain ⟨x2, h1, H⟩ := Ad H
   refine ls F W Aa (Av (r := (Rp.int .i64)) WX F Aa Aa (Af h_v1) h1).q fun a w F W => ?_
   refine ls F W Aa (Al (y := Value.int .i64 x2) (j := 0) (i := x1) F Aa Aa (Af h_v1) h1 Fl.int.to T3 Aa).q fun a w F W => ?_
   refine Cl tk 10 F W fun a w F W => ?_
   refine BJ F Aa H (fun F H => ?_) fun F H => ?_
   ·
    refine vc tk 6 F W fun a w F W => ?_
    refine Ak (AD ?_)
    iterate 2 refine Ay ?_
    refine AD (Ay ?_)
    have H := L2 _ H
    have H := L1 _ H
    have H := AA H
    subst H
    refine Au (.inl Aa) F W Aa (Am F Aa) ?_
    exact ⟨rfl, W.done⟩
   refine AX (AG ?_)
   refine vn tk 4 F W fun a w F W => ?_
   refine Ac ?_
   exact ⟨_, H, F.ra Aa, W⟩
  refine Bu ?_
  iterate 2 refine BL ?_
  refine Bp (Ac ?_)
  have H := L2 _ H
  exact ⟨H, F.ra Aa, W⟩
 rintro a w ⟨hj, F, W⟩
 have H := K1 _ hj
 clear hj G1 K1 L1
 refine vc tk 6 F W fun a w F W => ?_
 refine Ak ?_
 have H := AA H
 subst H
 refine Au (.inl Aa) F W Aa (Am F Aa) ?_
 exact ⟨rfl, W.done⟩
theorem YN : Has Tryz.prog 42 := CJ Tryz.func42
noncomputable def Cj (p0 : Int × (Int × Int × Int × Int)) (p1 : Int × (Int × Int × Int × Int)) : Option Int := (Dn ([p0.2.1, p0.2.2.1, p0.2.2.2.1, p0.2.2.2.2]) ([p1.2.1, p1.2.2.1, p1.2.2.2.1, p1.2.2.2.2])).bind fun x1 => (HO ([(AZ p0.1 p1.1), x1] : List Int)).bind fun x2 => some x2
theorem Cp (Y : Nat → Prop) (w0 : World)  (p0 : Int × (Int × Int × Int × Int)) (p1 : Int × (Int × Int × Int × Int)) (r : Int) (H : Cj p0 p1 = some r)  :
    Calls Tryz.prog 41 #[.agg #[.int .i64 p0.1, .int .i64 p0.2.1, .int .i64 p0.2.2.1, .int .i64 p0.2.2.2.1, .int .i64 p0.2.2.2.2], .agg #[.int .i64 p1.1, .int .i64 p1.2.1, .int .i64 p1.2.2.1, .int .i64 p1.2.2.2.1, .int .i64 p1.2.2.2.2]] w0 fun e w' => e = .returned (.int .i64 r) ∧ Below w0.heap.size w0 w' := by
 refine enter Tryz.func41 Aa Tryz.ntmps41 Aa fun a F => ?_
 have W := Stw.start Y w0
 unfold Cj at H
 refine vc tk 2 F W fun a w F W => ?_
 refine CY (cs := (CT p0)) F W Aa Aa Aa fun b1 a w F W => ?_
 refine CY (cs := (CT p1)) F W Aa Aa Aa fun b2 a w F W => ?_
 refine Cl tk 4 F W fun a w F W => ?_
 refine JT 10 W MO (by kernel_rfl) ?_
 refine qs F Aa (Ap Q3 Aa Aa Aa T3 F Aa 0 Aa).q fun a F => ?_
 refine qs F Aa (Bw (v := Value.int .i64 p0.1) 1 F Aa Aa T3 Aa).q fun a F => ?_
 refine qs F Aa (Ap Q3 Aa Aa Aa T3 F Aa 0 Aa).q fun a F => ?_
 refine qs F Aa (Bw (v := Value.int .i64 p1.1) 0 F Aa Aa T3 Aa).q fun a F => ?_
 refine qs F Aa (AK (v := Value.int .i64 (AZ p0.1 p1.1)) F Yf Aa (fun w W => Ie any w p0.1 p1.1 _ Aa)) fun a F => ?_
 refine qs F Aa (Ap Q3 Aa Aa Aa SR F Aa 1 Aa).q fun a F => ?_
 refine qs F Aa (Qx Rt F Aa).q fun a F => ?_
 refine qs F Aa (Ap Q3 Aa Aa Aa SR F Aa 1 Aa).q fun a F => ?_
 refine qs F Aa (Qx Rt F Aa).q fun a F => ?_
 obtain ⟨x1, h1, H⟩ := Ad H
 refine qs F Aa (AK (v := Value.int .i64 x1) F Yu Aa (fun w W => Iu any w ((Value.slice (some ⟨b1, 1, none⟩) 4 4)) ((Value.slice (some ⟨b2, 1, none⟩) 4 4)) ([p0.2.1, p0.2.2.1, p0.2.2.2.1, p0.2.2.2.2]) ([p1.2.1, p1.2.2.1, p1.2.2.2.1, p1.2.2.2.2]) _ h1 (Ek (U8 1 Fl.int Aa Aa Aa) W) (Ek (U8 0 Fl.int Aa Aa Aa) W))) fun a F => ?_
 refine AJ fun w W => ?_
 refine Ht (z := Value.int .i64 0) (cs := [.int .i64 (AZ p0.1 p1.1), .int .i64 x1]) (Rp.int .i64) ([(AZ p0.1 p1.1), x1] : List Int) F W Aa WX Z3 Aa Aa Aa Aa Aa Aa (Fl.int.repL _ _ ([(AZ p0.1 p1.1), x1] : List Int)) fun v1 a w F W => ?_
 obtain ⟨x2, h2, H⟩ := Ad H
 refine ls F W Aa (AK (v := Value.int .i64 x2) F YN Aa (fun w W => PP any w (v1) ([(AZ p0.1 p1.1), x1] : List Int) _ h2 (Ek (Aj 0 Aa) W))) fun a w F W => ?_
 refine Cl tk 3 F W fun a w F W => ?_
 refine Ak ?_
 have H := AA H
 subst H
 refine Au (.inl Aa) F W Aa (Am F Aa) ?_
 exact ⟨rfl, W.done⟩
theorem RL : Has Tryz.prog 41 := CJ Tryz.func41
abbrev Ib (a0 : Int × (Int × Int × Int × Int)) (a1 : Int × (Int × Int × Int × Int)) : List Value := [.agg #[.int .i64 a0.1, .int .i64 a0.2.1, .int .i64 a0.2.2.1, .int .i64 a0.2.2.2.1, .int .i64 a0.2.2.2.2], .agg #[.int .i64 a1.1, .int .i64 a1.2.1, .int .i64 a1.2.2.1, .int .i64 a1.2.2.2.1, .int .i64 a1.2.2.2.2]]
noncomputable def Bb (p1 : Int) : ((List (Int × (Int × Int × Int × Int))) × Int) → Option (((List (Int × (Int × Int × Int × Int))) × Int) ⊕ (List (Int × (Int × Int × Int × Int))))
  | (x4, x5) => (if p1 < x5 then (ix x4 x5).bind fun x7 => (ix x4 (AO (x5 - 1))).bind fun x8 => (Cj x7 x8).bind fun x9 => some (decide (x9 < 0)) else some false).bind fun x6 => (if x6 = true then (ix x4 (AO (x5 - 1))).bind fun x10 => (ix x4 x5).bind fun x11 => (ix x4 x5).bind fun x12 => (ix (Bf x4 x5 x10) (AO (x5 - 1))).bind fun x13 => some (.inl ((Bf (Bf x4 x5 x10) (AO (x5 - 1)) x11), AO (x5 - 1))) else some (.inr x4))
noncomputable def BB (p1 : Int) (p2 : Int) : ((List (Int × (Int × Int × Int × Int))) × Int) → Option (((List (Int × (Int × Int × Int × Int))) × Int) ⊕ (List (Int × (Int × Int × Int × Int))))
  | (x1, x2) => (if x2 < p2 then (AW (Bb p1) (x1, x2)).bind fun x3 => some (.inl (x3, AO (x2 + 1))) else some (.inr x1))
noncomputable def B5 (p0 : List (Int × (Int × Int × Int × Int))) (p1 : Int) (p2 : Int) : Option (List (Int × (Int × Int × Int × Int))) := AW (BB p1 p2) (p0, AO (p1 + 1))
theorem FF (Y : Nat → Prop) (X : List Nat) (w0 : World) (v1 : Value) (p0 : List (Int × (Int × Int × Int × Int))) (p1 : Int) (p2 : Int) (r : (List (Int × (Int × Int × Int × Int)))) (H : B5 p0 p1 p2 = some r) (hL : Stw ⟨Y, X, w0⟩ [] [row v1 63 Bg p0] w0) :
    Calls Tryz.prog 93 #[v1, .int .i64 p1, .int .i64 p2, .func (.func 41) #[] #[]] w0 fun e w' => ∃ x : Unit, e = .returned (.tuple #[]) ∧ Stw ⟨Y, X, w0⟩ [] [row v1 63 Bg r] w' := by
 refine enter Tryz.func93 Aa Tryz.ntmps93 Aa fun a F => ?_
 have W := hL
 unfold B5 at H
 refine vc tk 8 F W fun a w F W => ?_
 refine BF H (fun s a w => Fr 53 [] [(0, v1), (1, .int .i64 p1), (2, .int .i64 p2), (3, .func (.func 41) #[] #[]), (8, .int .i64 s.2)] a ∧ Stw ⟨Y, X, w0⟩ [] [row v1 63 Bg s.1] w) ⟨F.ra Aa, W⟩ fun s o a w H L1 hR => ?_
 obtain ⟨x1, x2⟩ := s
 obtain ⟨F, W⟩ := hR
 have F : Fr 53 [] [(0, v1), (1, .int .i64 p1), (2, .int .i64 p2), (3, .func (.func 41) #[] #[]), (8, .int .i64 x2)] a := F
 have W : Stw ⟨Y, X, w0⟩ [] [row v1 63 Bg x1] w := W
 rw [BB] at H
 refine vc tk 8 F W fun a w F W => ?_
 refine BJ F Aa H (fun F H => ?_) fun F H => ?_
 ·
  refine AX (Ac ?_)
  obtain ⟨o2, G2, K2⟩ := Ad H
  refine Ax (fun a w => ∃ x3 : List (Int × (Int × Int × Int × Int)), some (x3) = some o2 ∧ Fr 53 [] [(0, v1), (1, .int .i64 p1), (2, .int .i64 p2), (3, .func (.func 41) #[] #[]), (8, .int .i64 x2)] a ∧ Stw ⟨Y, X, w0⟩ [] [row v1 63 Bg x3] w) ?_ ?_
  ·
   have H := G2
   clear G2 K2
   refine vc tk 8 F W fun a w F W => ?_
   refine BF H (fun s a w => Fr 53 [] [(0, v1), (1, .int .i64 p1), (2, .int .i64 p2), (3, .func (.func 41) #[] #[]), (8, .int .i64 x2), (9, .int .i64 s.2)] a ∧ Stw ⟨Y, X, w0⟩ [] [row v1 63 Bg s.1] w) ⟨F.ra Aa, W⟩ fun s o a w H L3 hR => ?_
   obtain ⟨x4, x5⟩ := s
   obtain ⟨F, W⟩ := hR
   have F : Fr 53 [] [(0, v1), (1, .int .i64 p1), (2, .int .i64 p2), (3, .func (.func 41) #[] #[]), (8, .int .i64 x2), (9, .int .i64 x5)] a := F
   have W : Stw ⟨Y, X, w0⟩ [] [row v1 63 Bg x4] w := W
   rw [Bb] at H
   refine FS ?_
   obtain ⟨o4, G4, K4⟩ := Ad H
   refine Ax (fun a w => ∃ x6 : Bool, some (x6) = some o4 ∧ Fr 53 [] [(0, v1), (1, .int .i64 p1), (2, .int .i64 p2), (3, .func (.func 41) #[] #[]), (8, .int .i64 x2), (9, .int .i64 x5), (34, .bool x6)] a ∧ Stw ⟨Y, X, w0⟩ [] [row v1 63 Bg x4] w) ?_ ?_
   ·
    have H := G4
    clear G4 K4
    refine Cw W MO (by kernel_rfl) ?_
    iterate 2 refine qs F Aa (An F Aa).q fun a F => ?_
    refine qs F Aa (MD F Aa Aa).q fun a F => ?_
    refine qs F Aa (An F Aa).q fun a F => ?_
    rcases Bool.eq_false_or_eq_true (decide (p1 < x5)) with hb | hb
    ·
     have H := B8 (CI hb) H
     rw [hb] at F
     clear hb
     iterate 3 refine AL F (Ab F Aa Aa Aa Aa) Aa (Ao Aa) (An F Aa).q fun a F => ?_
     obtain ⟨x7, h1, H⟩ := Ad H
     refine AL F (Ab F Aa Aa Aa Aa) Aa (Ao Aa) (Av (r := Bg) Eg F Aa Aa (Aj 0 Aa) h1).q fun a F => ?_
     refine AL F (Ab F Aa Aa Aa Aa) Aa (Ao Aa) (Al (y := Value.agg #[.int .i64 x7.1, .int .i64 x7.2.1, .int .i64 x7.2.2.1, .int .i64 x7.2.2.2.1, .int .i64 x7.2.2.2.2]) (j := 0) (i := x5) F Aa Aa (Aj 0 Aa) h1 Ej.to DP Aa).q fun a F => ?_
     iterate 2 refine AL F (Ab F Aa Aa Aa Aa) Aa (Ao Aa) (An F Aa).q fun a F => ?_
     refine AL F (Ab F Aa Aa Aa Aa) Aa (Ao Aa) (HQ F Aa Aa Aa).q fun a F => ?_
     obtain ⟨x8, h2, H⟩ := Ad H
     refine AL F (Ab F Aa Aa Aa Aa) Aa (Ao Aa) (Av (r := Bg) Eg F Aa Aa (Aj 0 Aa) h2).q fun a F => ?_
     refine AL F (Ab F Aa Aa Aa Aa) Aa (Ao Aa) (Al (y := Value.agg #[.int .i64 x8.1, .int .i64 x8.2.1, .int .i64 x8.2.2.1, .int .i64 x8.2.2.2.1, .int .i64 x8.2.2.2.2]) (j := 0) (i := AO (x5 - 1)) F Aa Aa (Aj 0 Aa) h2 Ej.to DP Aa).q fun a F => ?_
     obtain ⟨x9, h3, H⟩ := Ad H
     refine AL F (Ab F Aa Aa Aa Aa) Aa (Ao Aa) (Eo (ws := (Ib x7 x8)) (v := Value.int .i64 x9) F RL Aa (fun w W => Cp any w x7 x8 _ h3)) fun a F => ?_
     refine AL F (Ab F Aa Aa Aa Aa) Aa (Ao Aa) (F7 F Aa Aa).q fun a F => ?_
     refine qs F Aa (Bq F Aa Aa Aa).q fun a F => ?_
     refine AJ fun w W => ?_
     refine Ac ?_
     exact ⟨_, H, F.ra Aa, W⟩
    have H := B7 (CH hb) H
    rw [hb] at F
    clear hb
    iterate 12 refine Bj F (A7 F Aa Aa Aa Aa Aa) Aa Aa fun a F => ?_
    refine qs F Aa (Br F Aa Aa Aa).q fun a F => ?_
    refine AJ fun w W => ?_
    refine Ac ?_
    exact ⟨_, H, F.ra Aa, W⟩
   rintro a w ⟨x6, hj, F, W⟩
   have hj := AA hj
   subst hj
   have H := K4
   clear G4 K4
   refine Cz F Aa H (fun F H => ?_) fun F H => ?_
   ·
    refine FL tk 4 F W fun a w F W => ?_
    refine D6 [(true, 0), (true, 1), (true, 2), (true, 3), (true, 4), (true, 5), (true, 6), (true, 7), (true, 8), (true, 9), (true, 10), (true, 11), (true, 12), (true, 13), (true, 14), (false, 15), (true, 16), (false, 17)] (CN ⟨Y, X, w0⟩ [] [(some 15, row v1 63 Bg x4)]) (fun ch a d v w h => by cases d <;> exact h) MO (by kernel_rfl) W (fun w W => ⟨_, _, W, Ag, (all_cons (fun _ => (.head _)) Ag)⟩) fun w W => ?_
    iterate 4 refine Bo (R := []) F Aa Aa (yC fun M Z hN hZ => An F Aa) Aa Aa fun a F => ?_
    refine Bo (R := []) F Aa Aa (yC fun M Z hN hZ => HQ F Aa Aa Aa) Aa Aa fun a F => ?_
    iterate 2 refine Bo (R := []) F Aa Aa (yC fun M Z hN hZ => An F Aa) Aa Aa fun a F => ?_
    refine Bo (R := []) F Aa Aa (yC fun M Z hN hZ => HQ F Aa Aa Aa) Aa Aa fun a F => ?_
    obtain ⟨x10, h4, H⟩ := Ad H
    refine Bo (R := []) F Aa Aa (yC fun M Z hN hZ => Cn (r := Bg) Eg F Aa Aa (Eh W (Aj 0 Aa)) h4) Aa Aa fun a F => ?_
    refine Bo (R := [15]) F Aa Aa (yC fun M Z hN hZ => Al (y := Value.agg #[.int .i64 x10.1, .int .i64 x10.2.1, .int .i64 x10.2.2.1, .int .i64 x10.2.2.2.1, .int .i64 x10.2.2.2.2]) (j := 0) (i := AO (x5 - 1)) F Aa Aa (DL (hZ ((some 15), row v1 63 Bg x4) (.head _) Aa)) h4 Ej.to DP Aa) (by kernel_rfl) Aa fun a F => ?_
    iterate 2 refine Bo (R := []) F Aa Aa (yC fun M Z hN hZ => An F Aa) Aa Aa fun a F => ?_
    obtain ⟨x11, h5, H⟩ := Ad H
    refine Bo (R := []) F Aa Aa (yC fun M Z hN hZ => Cn (r := Bg) Eg F Aa Aa (Eh W (Aj 0 Aa)) h5) Aa Aa fun a F => ?_
    refine Bo (R := [15]) F Aa Aa (yC fun M Z hN hZ => Al (y := Value.agg #[.int .i64 x11.1, .int .i64 x11.2.1, .int .i64 x11.2.2.1, .int .i64 x11.2.2.2.1, .int .i64 x11.2.2.2.2]) (j := 0) (i := x5) F Aa Aa (DL (hZ ((some 15), row v1 63 Bg x4) (.head _) Aa)) h5 Ej.to DP Aa) (by kernel_rfl) Aa fun a F => ?_
    obtain ⟨x12, h6, H⟩ := Ad H
    refine Bo (R := []) F Aa Aa (yC fun M Z hN hZ => Cn (r := Bg) Eg F Aa Aa (Eh W (Aj 0 Aa)) h6) Aa Aa fun a F => ?_
    refine Dr Aa ?_
    refine BG (i := x5) (j := 0) (vs := (CT x10)) (x' := x10) F W Aa Aa Aa (k := 0) Aa Aa h6 DP Aa Aa Aa Aa (fun A cs _ => Ej.sto (by rfl) _ _ _) fun w W => ?_
    refine Bl (N2 := []) (NZ2 := []) (N3 := []) (NZ3 := [(some 15, row v1 63 Bg x4)]) W Aa Aa Ag (all_cons (fun h => Ah (by kernel_rfl) h) Ag) ?_
    obtain ⟨x13, h7, H⟩ := Ad H
    refine Bo (R := []) F Aa Aa (yC fun M Z hN hZ => Cn (r := Bg) Eg F Aa Aa (Eh W (Aj 0 Aa)) h7) Aa Aa fun a F => ?_
    refine Dr Aa ?_
    refine BG (i := AO (x5 - 1)) (j := 0) (vs := (CT x11)) (x' := x11) F W Aa Aa Aa (k := 0) Aa Aa h7 DP Aa Aa Aa Aa (fun A cs _ => Ej.sto (by rfl) _ _ _) fun w W => ?_
    refine Bl (N2 := []) (NZ2 := []) (N3 := []) (NZ3 := [(some 15, row v1 63 Bg x4)]) W Aa Aa Ag (all_cons (fun h => Ah (by kernel_rfl) h) Ag) ?_
    refine Fw (AG ?_)
    refine vn tk 5 F W fun a w F W => ?_
    refine Ac ?_
    exact ⟨_, H, F.ra Aa, W⟩
   refine Bu ?_
   iterate 2 refine BL ?_
   refine Bp (AG (Ac ?_))
   have H := L3 _ H
   exact ⟨_, H, F.ra Aa, W⟩
  rintro a w ⟨x3, hj, F, W⟩
  have hj := AA hj
  subst hj
  have H := K2
  clear G2 K2
  refine vc tk 5 F W fun a w F W => ?_
  refine Ac ?_
  exact ⟨_, H, F.ra Aa, W⟩
 refine Bu ?_
 iterate 2 refine BL ?_
 refine Bp ?_
 have H := L1 _ H
 have H := AA H
 subst H
 refine Jq (.inr Aa) F Aa ?_
 exact ⟨(), Aa, W⟩
theorem YU : Has Tryz.prog 93 := CJ Tryz.func93
noncomputable def AU (p2 : Int) (p3 : Int) : ((List (Int × (Int × Int × Int × Int))) × Int) → Option (((List (Int × (Int × Int × Int × Int))) × Int) ⊕ (List (Int × (Int × Int × Int × Int))))
  | (x1, x2) => (if p2 ≤ (AO ((AO (2 * x2)) + 1)) then some (.inr x1) else ((if (AO ((AO ((AO (2 * x2)) + 1)) + 1)) < p2 then (ix x1 (AO (p3 + (AO ((AO (2 * x2)) + 1))))).bind fun x5 => (ix x1 (AO ((AO (p3 + (AO ((AO (2 * x2)) + 1)))) + 1))).bind fun x6 => (Cj x5 x6).bind fun x7 => some (decide (x7 < 0)) else some false).bind fun x4 => (if x4 = true then some (AO ((AO ((AO (2 * x2)) + 1)) + 1)) else some (AO ((AO (2 * x2)) + 1)))).bind fun x3 => (ix x1 (AO (p3 + x2))).bind fun x8 => (ix x1 (AO (p3 + x3))).bind fun x9 => (Cj x8 x9).bind fun x10 => (if (!(decide (x10 < 0))) = true then some (.inr x1) else (ix x1 (AO (p3 + x3))).bind fun x11 => (ix x1 (AO (p3 + x2))).bind fun x12 => (ix x1 (AO (p3 + x2))).bind fun x13 => (ix (Bf x1 (AO (p3 + x2)) x11) (AO (p3 + x3))).bind fun x14 => some (.inl ((Bf (Bf x1 (AO (p3 + x2)) x11) (AO (p3 + x3)) x12), x3))))
noncomputable def B6 (p0 : List (Int × (Int × Int × Int × Int))) (p1 : Int) (p2 : Int) (p3 : Int) : Option (List (Int × (Int × Int × Int × Int))) := AW (AU p2 p3) (p0, p1)
theorem Ei (Y : Nat → Prop) (X : List Nat) (w0 : World) (v1 : Value) (p0 : List (Int × (Int × Int × Int × Int))) (p1 : Int) (p2 : Int) (p3 : Int) (r : (List (Int × (Int × Int × Int × Int)))) (H : B6 p0 p1 p2 p3 = some r) (hL : Stw ⟨Y, X, w0⟩ [] [row v1 63 Bg p0] w0) :
    Calls Tryz.prog 125 #[v1, .int .i64 p1, .int .i64 p2, .int .i64 p3, .func (.func 41) #[] #[]] w0 fun e w' => ∃ x : Unit, e = .returned (.tuple #[]) ∧ Stw ⟨Y, X, w0⟩ [] [row v1 63 Bg r] w' := by
 refine enter Tryz.func125 Aa Tryz.ntmps125 Aa fun a F => ?_
 have W := hL
 unfold B6 at H
 refine vc tk 7 F W fun a w F W => ?_
 refine BF H (fun s a w => Fr 82 [] [(0, v1), (2, .int .i64 p2), (3, .int .i64 p3), (4, .func (.func 41) #[] #[]), (10, .int .i64 s.2)] a ∧ Stw ⟨Y, X, w0⟩ [] [row v1 63 Bg s.1] w) ⟨F.ra Aa, W⟩ fun s o a w H L1 hR => ?_
 obtain ⟨x1, x2⟩ := s
 obtain ⟨F, W⟩ := hR
 have F : Fr 82 [] [(0, v1), (2, .int .i64 p2), (3, .int .i64 p3), (4, .func (.func 41) #[] #[]), (10, .int .i64 x2)] a := F
 have W : Stw ⟨Y, X, w0⟩ [] [row v1 63 Bg x1] w := W
 rw [AU] at H
 refine vc tk 17 F W fun a w F W => ?_
 refine BJ F Aa H (fun F H => ?_) fun F H => ?_
 ·
  refine Bu (BL ?_)
  refine LX Aa ?_
  refine BL (Bp ?_)
  have H := L1 _ H
  have H := AA H
  subst H
  refine Jq (.inr Aa) F Aa ?_
  exact ⟨(), Aa, W⟩
 refine AX (Ac ?_)
 obtain ⟨o2, G2, K2⟩ := Ad H
 refine Ax (fun a w => ∃ x3 : Int, some (x3) = some o2 ∧ Fr 82 [] [(0, v1), (2, .int .i64 p2), (3, .int .i64 p3), (4, .func (.func 41) #[] #[]), (10, .int .i64 x2), (11, .int .i64 x3)] a ∧ Stw ⟨Y, X, w0⟩ [] [row v1 63 Bg x1] w) ?_ ?_
 ·
  have H := G2
  clear G2 K2
  obtain ⟨o3, G3, K3⟩ := Ad H
  refine Ax (fun a w => ∃ x4 : Bool, some (x4) = some o3 ∧ Fr 82 [] [(0, v1), (2, .int .i64 p2), (3, .int .i64 p3), (4, .func (.func 41) #[] #[]), (10, .int .i64 x2), (11, .int .i64 (AO ((AO (2 * x2)) + 1))), (40, .bool x4)] a ∧ Stw ⟨Y, X, w0⟩ [] [row v1 63 Bg x1] w) ?_ ?_
  ·
   have H := G3
   clear G3 K3
   refine Cw W MO (by kernel_rfl) ?_
   refine qs F Aa (An F Aa).q fun a F => ?_
   refine qs F Aa (HV F Aa Aa Aa).q fun a F => ?_
   refine qs F Aa (An F Aa).q fun a F => ?_
   refine qs F Aa (F7 F Aa Aa).q fun a F => ?_
   refine qs F Aa (An F Aa).q fun a F => ?_
   rcases Bool.eq_false_or_eq_true (decide ((AO ((AO ((AO (2 * x2)) + 1)) + 1)) < p2)) with hb | hb
   ·
    have H := B8 (CI hb) H
    rw [hb] at F
    clear hb
    iterate 4 refine AL F (Ab F Aa Aa Aa Aa) Aa (Ao Aa) (An F Aa).q fun a F => ?_
    refine AL F (Ab F Aa Aa Aa Aa) Aa (Ao Aa) (HV F Aa Aa Aa).q fun a F => ?_
    obtain ⟨x5, h1, H⟩ := Ad H
    refine AL F (Ab F Aa Aa Aa Aa) Aa (Ao Aa) (Av (r := Bg) Eg F Aa Aa (Aj 0 Aa) h1).q fun a F => ?_
    refine AL F (Ab F Aa Aa Aa Aa) Aa (Ao Aa) (Al (y := Value.agg #[.int .i64 x5.1, .int .i64 x5.2.1, .int .i64 x5.2.2.1, .int .i64 x5.2.2.2.1, .int .i64 x5.2.2.2.2]) (j := 0) (i := AO (p3 + (AO ((AO (2 * x2)) + 1)))) F Aa Aa (Aj 0 Aa) h1 Ej.to DP Aa).q fun a F => ?_
    iterate 3 refine AL F (Ab F Aa Aa Aa Aa) Aa (Ao Aa) (An F Aa).q fun a F => ?_
    iterate 2 refine AL F (Ab F Aa Aa Aa Aa) Aa (Ao Aa) (HV F Aa Aa Aa).q fun a F => ?_
    obtain ⟨x6, h2, H⟩ := Ad H
    refine AL F (Ab F Aa Aa Aa Aa) Aa (Ao Aa) (Av (r := Bg) Eg F Aa Aa (Aj 0 Aa) h2).q fun a F => ?_
    refine AL F (Ab F Aa Aa Aa Aa) Aa (Ao Aa) (Al (y := Value.agg #[.int .i64 x6.1, .int .i64 x6.2.1, .int .i64 x6.2.2.1, .int .i64 x6.2.2.2.1, .int .i64 x6.2.2.2.2]) (j := 0) (i := AO ((AO (p3 + (AO ((AO (2 * x2)) + 1)))) + 1)) F Aa Aa (Aj 0 Aa) h2 Ej.to DP Aa).q fun a F => ?_
    obtain ⟨x7, h3, H⟩ := Ad H
    refine AL F (Ab F Aa Aa Aa Aa) Aa (Ao Aa) (Eo (ws := (Ib x5 x6)) (v := Value.int .i64 x7) F RL Aa (fun w W => Cp any w x5 x6 _ h3)) fun a F => ?_
    refine AL F (Ab F Aa Aa Aa Aa) Aa (Ao Aa) (F7 F Aa Aa).q fun a F => ?_
    refine qs F Aa (Bq F Aa Aa Aa).q fun a F => ?_
    refine AJ fun w W => ?_
    refine Ac ?_
    exact ⟨_, H, F.ra Aa, W⟩
   have H := B7 (CH hb) H
   rw [hb] at F
   clear hb
   iterate 16 refine Bj F (A7 F Aa Aa Aa Aa Aa) Aa Aa fun a F => ?_
   refine qs F Aa (Br F Aa Aa Aa).q fun a F => ?_
   refine AJ fun w W => ?_
   refine Ac ?_
   exact ⟨_, H, F.ra Aa, W⟩
  rintro a w ⟨x4, hj, F, W⟩
  have hj := AA hj
  subst hj
  have H := K3
  clear G3 K3
  refine Cz F Aa H (fun F H => ?_) fun F H => ?_
  ·
   refine vc tk 5 F W fun a w F W => ?_
   refine Ac ?_
   exact ⟨_, H, F.ra Aa, W⟩
  refine AX (Ac ?_)
  exact ⟨_, H, F.ra Aa, W⟩
 rintro a w ⟨x3, hj, F, W⟩
 have hj := AA hj
 subst hj
 have H := K2
 clear G2 K2
 refine vc tk 2 F W fun a w F W => ?_
 refine Cw W MO (by kernel_rfl) ?_
 iterate 4 refine qs F Aa (An F Aa).q fun a F => ?_
 refine qs F Aa (HV F Aa Aa Aa).q fun a F => ?_
 obtain ⟨x8, h4, H⟩ := Ad H
 refine qs F Aa (Av (r := Bg) Eg F Aa Aa (Aj 0 Aa) h4).q fun a F => ?_
 refine qs F Aa (Al (y := Value.agg #[.int .i64 x8.1, .int .i64 x8.2.1, .int .i64 x8.2.2.1, .int .i64 x8.2.2.2.1, .int .i64 x8.2.2.2.2]) (j := 0) (i := AO (p3 + x2)) F Aa Aa (Aj 0 Aa) h4 Ej.to DP Aa).q fun a F => ?_
 iterate 3 refine qs F Aa (An F Aa).q fun a F => ?_
 refine qs F Aa (HV F Aa Aa Aa).q fun a F => ?_
 obtain ⟨x9, h5, H⟩ := Ad H
 refine qs F Aa (Av (r := Bg) Eg F Aa Aa (Aj 0 Aa) h5).q fun a F => ?_
 refine qs F Aa (Al (y := Value.agg #[.int .i64 x9.1, .int .i64 x9.2.1, .int .i64 x9.2.2.1, .int .i64 x9.2.2.2.1, .int .i64 x9.2.2.2.2]) (j := 0) (i := AO (p3 + x3)) F Aa Aa (Aj 0 Aa) h5 Ej.to DP Aa).q fun a F => ?_
 obtain ⟨x10, h6, H⟩ := Ad H
 refine qs F Aa (Eo (ws := (Ib x8 x9)) (v := Value.int .i64 x10) F RL Aa (fun w W => Cp any w x8 x9 _ h6)) fun a F => ?_
 refine qs F Aa (F7 F Aa Aa).q fun a F => ?_
 refine qs F Aa (Js F Aa).q fun a F => ?_
 refine AJ fun w W => ?_
 refine Ac ?_
 refine Cz F Aa H (fun F H => ?_) fun F H => ?_
 ·
  refine Ak (Ay (AD (Ay (AD ?_))))
  have H := L1 _ H
  have H := AA H
  subst H
  refine Jq (.inl Aa) F Aa ?_
  exact ⟨(), Aa, W⟩
 refine FL tk 3 F W fun a w F W => ?_
 refine D6 [(true, 0), (true, 1), (true, 2), (true, 3), (true, 4), (true, 5), (true, 6), (true, 7), (true, 8), (true, 9), (true, 10), (true, 11), (true, 12), (true, 13), (true, 14), (true, 15), (true, 16), (true, 17), (true, 18), (true, 19), (true, 20), (false, 21), (true, 22), (false, 23)] (CN ⟨Y, X, w0⟩ [] [(some 21, row v1 63 Bg x1)]) (fun ch a d v w h => by cases d <;> exact h) MO (by kernel_rfl) W (fun w W => ⟨_, _, W, Ag, (all_cons (fun _ => (.head _)) Ag)⟩) fun w W => ?_
 iterate 3 refine Bo (R := []) F Aa Aa (yC fun M Z hN hZ => An F Aa) Aa Aa fun a F => ?_
 refine Bo (R := []) F Aa Aa (yC fun M Z hN hZ => HV F Aa Aa Aa) Aa Aa fun a F => ?_
 iterate 3 refine Bo (R := []) F Aa Aa (yC fun M Z hN hZ => An F Aa) Aa Aa fun a F => ?_
 refine Bo (R := []) F Aa Aa (yC fun M Z hN hZ => HV F Aa Aa Aa) Aa Aa fun a F => ?_
 iterate 3 refine Bo (R := []) F Aa Aa (yC fun M Z hN hZ => An F Aa) Aa Aa fun a F => ?_
 refine Bo (R := []) F Aa Aa (yC fun M Z hN hZ => HV F Aa Aa Aa) Aa Aa fun a F => ?_
 obtain ⟨x11, h7, H⟩ := Ad H
 refine Bo (R := []) F Aa Aa (yC fun M Z hN hZ => Cn (r := Bg) Eg F Aa Aa (Eh W (Aj 0 Aa)) h7) Aa Aa fun a F => ?_
 refine Bo (R := [21]) F Aa Aa (yC fun M Z hN hZ => Al (y := Value.agg #[.int .i64 x11.1, .int .i64 x11.2.1, .int .i64 x11.2.2.1, .int .i64 x11.2.2.2.1, .int .i64 x11.2.2.2.2]) (j := 0) (i := AO (p3 + x3)) F Aa Aa (DL (hZ ((some 21), row v1 63 Bg x1) (.head _) Aa)) h7 Ej.to DP Aa) (by kernel_rfl) Aa fun a F => ?_
 iterate 3 refine Bo (R := []) F Aa Aa (yC fun M Z hN hZ => An F Aa) Aa Aa fun a F => ?_
 refine Bo (R := []) F Aa Aa (yC fun M Z hN hZ => HV F Aa Aa Aa) Aa Aa fun a F => ?_
 obtain ⟨x12, h8, H⟩ := Ad H
 refine Bo (R := []) F Aa Aa (yC fun M Z hN hZ => Cn (r := Bg) Eg F Aa Aa (Eh W (Aj 0 Aa)) h8) Aa Aa fun a F => ?_
 refine Bo (R := [21]) F Aa Aa (yC fun M Z hN hZ => Al (y := Value.agg #[.int .i64 x12.1, .int .i64 x12.2.1, .int .i64 x12.2.2.1, .int .i64 x12.2.2.2.1, .int .i64 x12.2.2.2.2]) (j := 0) (i := AO (p3 + x2)) F Aa Aa (DL (hZ ((some 21), row v1 63 Bg x1) (.head _) Aa)) h8 Ej.to DP Aa) (by kernel_rfl) Aa fun a F => ?_
 obtain ⟨x13, h9, H⟩ := Ad H
 refine Bo (R := []) F Aa Aa (yC fun M Z hN hZ => Cn (r := Bg) Eg F Aa Aa (Eh W (Aj 0 Aa)) h9) Aa Aa fun a F => ?_
 refine Dr Aa ?_
 refine BG (i := AO (p3 + x2)) (j := 0) (vs := (CT x11)) (x' := x11) F W Aa Aa Aa (k := 0) Aa Aa h9 DP Aa Aa Aa Aa (fun A cs _ => Ej.sto (by rfl) _ _ _) fun w W => ?_
 refine Bl (N2 := []) (NZ2 := []) (N3 := []) (NZ3 := [(some 21, row v1 63 Bg x1)]) W Aa Aa Ag (all_cons (fun h => Ah (by kernel_rfl) h) Ag) ?_
 obtain ⟨x14, h10, H⟩ := Ad H
 refine Bo (R := []) F Aa Aa (yC fun M Z hN hZ => Cn (r := Bg) Eg F Aa Aa (Eh W (Aj 0 Aa)) h10) Aa Aa fun a F => ?_
 refine Dr Aa ?_
 refine BG (i := AO (p3 + x3)) (j := 0) (vs := (CT x12)) (x' := x12) F W Aa Aa Aa (k := 0) Aa Aa h10 DP Aa Aa Aa Aa (fun A cs _ => Ej.sto (by rfl) _ _ _) fun w W => ?_
 refine Bl (N2 := []) (NZ2 := []) (N3 := []) (NZ3 := [(some 21, row v1 63 Bg x1)]) W Aa Aa Ag (all_cons (fun h => Ah (by kernel_rfl) h) Ag) ?_
 refine Fw ?_
 refine vn tk 4 F W fun a w F W => ?_
 refine AG (Ac ?_)
 exact ⟨_, H, F.ra Aa, W⟩
theorem Wn : Has Tryz.prog 125 := CJ Tryz.func125
noncomputable def BT (p1 : Int) (p2 : Int) : ((List (Int × (Int × Int × Int × Int))) × Int) → Option (((List (Int × (Int × Int × Int × Int))) × Int) ⊕ (List (Int × (Int × Int × Int × Int))))
  | (x2, x3) => (if 0 ≤ x3 then (B6 x2 x3 (AO (p2 - p1)) p1).bind fun x4 => some (.inl (x4, AO (x3 - 1))) else some (.inr x2))
noncomputable def BS (p1 : Int) : ((List (Int × (Int × Int × Int × Int))) × Int) → Option (((List (Int × (Int × Int × Int × Int))) × Int) ⊕ (List (Int × (Int × Int × Int × Int))))
  | (x5, x6) => (if 0 ≤ x6 then (ix x5 (AO (p1 + x6))).bind fun x7 => (ix x5 p1).bind fun x8 => (ix x5 p1).bind fun x9 => (ix (Bf x5 p1 x7) (AO (p1 + x6))).bind fun x10 => (B6 (Bf (Bf x5 p1 x7) (AO (p1 + x6)) x8) 0 x6 p1).bind fun x11 => some (.inl (x11, AO (x6 - 1))) else some (.inr x5))
noncomputable def Cy (p0 : List (Int × (Int × Int × Int × Int))) (p1 : Int) (p2 : Int) : Option (List (Int × (Int × Int × Int × Int))) := (AW (BT p1 p2) (p0, AO (Int.tdiv (AO ((AO (p2 - p1)) - 1)) 2))).bind fun x1 => AW (BS p1) (x1, AO ((AO (p2 - p1)) - 1))
theorem GB (Y : Nat → Prop) (X : List Nat) (w0 : World) (v1 : Value) (p0 : List (Int × (Int × Int × Int × Int))) (p1 : Int) (p2 : Int) (r : (List (Int × (Int × Int × Int × Int)))) (H : Cy p0 p1 p2 = some r) (hL : Stw ⟨Y, X, w0⟩ [] [row v1 63 Bg p0] w0) :
    Calls Tryz.prog 94 #[v1, .int .i64 p1, .int .i64 p2, .func (.func 41) #[] #[]] w0 fun e w' => ∃ x : Unit, e = .returned (.tuple #[]) ∧ Stw ⟨Y, X, w0⟩ [] [row v1 63 Bg r] w' := by
 refine enter Tryz.func94 Aa Tryz.ntmps94 Aa fun a F => ?_
 have W := hL
 unfold Cy at H
 refine vc tk 19 F W fun a w F W => ?_
 obtain ⟨o1, G1, K1⟩ := Ad H
 refine Ax (fun a w => ∃ x1 : List (Int × (Int × Int × Int × Int)), some (x1) = some o1 ∧ Fr 60 [] [(0, v1), (3, .func (.func 41) #[] #[]), (8, .int .i64 p1), (9, .int .i64 0), (10, .int .i64 (AO (p2 - p1)))] a ∧ Stw ⟨Y, X, w0⟩ [] [row v1 63 Bg x1] w) ?_ ?_
 ·
  have H := G1
  clear G1 K1
  refine vc tk 4 F W fun a w F W => ?_
  refine ls F W Aa (Ow F Aa Aa (by decide) Aa).q fun a w F W => ?_
  refine Cl tk 4 F W fun a w F W => ?_
  refine BF H (fun s a w => Fr 60 [] [(0, v1), (3, .func (.func 41) #[] #[]), (8, .int .i64 p1), (9, .int .i64 0), (10, .int .i64 (AO (p2 - p1))), (11, .int .i64 s.2)] a ∧ Stw ⟨Y, X, w0⟩ [] [row v1 63 Bg s.1] w) ⟨F.ra Aa, W⟩ fun s o a w H L2 hR => ?_
  obtain ⟨x2, x3⟩ := s
  obtain ⟨F, W⟩ := hR
  have F : Fr 60 [] [(0, v1), (3, .func (.func 41) #[] #[]), (8, .int .i64 p1), (9, .int .i64 0), (10, .int .i64 (AO (p2 - p1))), (11, .int .i64 x3)] a := F
  have W : Stw ⟨Y, X, w0⟩ [] [row v1 63 Bg x2] w := W
  rw [BT] at H
  refine vc tk 7 F W fun a w F W => ?_
  refine BJ F Aa H (fun F H => ?_) fun F H => ?_
  ·
   refine FL tk 10 F W fun a w F W => ?_
   obtain ⟨x4, h1, H⟩ := Ad H
   refine Bv (Ml := []) (Zl := [row v1 63 Bg x2]) (β := Unit) (rv := fun x => .tuple #[]) (MM := fun x => []) (ZZ := fun x => [row v1 63 Bg x4]) F W Wn Aa Aa (fun hL => Ei _ _ w (v1) x2 x3 (AO (p2 - p1)) p1 _ h1 hL) fun x a w F W => ?_
   have W : Stw ⟨Y, X, w0⟩ [] [row v1 63 Bg x4] w := W
   refine Ew (AG ?_)
   refine vn tk 5 F W fun a w F W => ?_
   refine Ac ?_
   exact ⟨_, H, F.ra Aa, W⟩
  refine Bu ?_
  iterate 2 refine BL ?_
  refine Bp (Ac ?_)
  have H := L2 _ H
  exact ⟨_, H, F.ra Aa, W⟩
 rintro a w ⟨x1, hj, F, W⟩
 have hj := AA hj
 subst hj
 have H := K1
 clear G1 K1
 refine vc tk 8 F W fun a w F W => ?_
 refine BF H (fun s a w => Fr 60 [] [(0, v1), (3, .func (.func 41) #[] #[]), (8, .int .i64 p1), (9, .int .i64 0), (12, .int .i64 s.2)] a ∧ Stw ⟨Y, X, w0⟩ [] [row v1 63 Bg s.1] w) ⟨F.ra Aa, W⟩ fun s o a w H L3 hR => ?_
 obtain ⟨x5, x6⟩ := s
 obtain ⟨F, W⟩ := hR
 have F : Fr 60 [] [(0, v1), (3, .func (.func 41) #[] #[]), (8, .int .i64 p1), (9, .int .i64 0), (12, .int .i64 x6)] a := F
 have W : Stw ⟨Y, X, w0⟩ [] [row v1 63 Bg x5] w := W
 rw [BS] at H
 refine vc tk 7 F W fun a w F W => ?_
 refine BJ F Aa H (fun F H => ?_) fun F H => ?_
 ·
  refine FL tk 5 F W fun a w F W => ?_
  refine D6 [(true, 0), (true, 1), (true, 2), (true, 3), (true, 4), (true, 5), (true, 6), (true, 7), (true, 8), (true, 9), (true, 10), (true, 11), (true, 12), (true, 13), (true, 14), (true, 15), (true, 16), (false, 17), (true, 18), (false, 19)] (CN ⟨Y, X, w0⟩ [] [(some 17, row v1 63 Bg x5)]) (fun ch a d v w h => by cases d <;> exact h) MO (by kernel_rfl) W (fun w W => ⟨_, _, W, Ag, (all_cons (fun _ => (.head _)) Ag)⟩) fun w W => ?_
  iterate 5 refine Bo (R := []) F Aa Aa (yC fun M Z hN hZ => An F Aa) Aa Aa fun a F => ?_
  refine Bo (R := []) F Aa Aa (yC fun M Z hN hZ => HV F Aa Aa Aa) Aa Aa fun a F => ?_
  iterate 3 refine Bo (R := []) F Aa Aa (yC fun M Z hN hZ => An F Aa) Aa Aa fun a F => ?_
  refine Bo (R := []) F Aa Aa (yC fun M Z hN hZ => HV F Aa Aa Aa) Aa Aa fun a F => ?_
  obtain ⟨x7, h2, H⟩ := Ad H
  refine Bo (R := []) F Aa Aa (yC fun M Z hN hZ => Cn (r := Bg) Eg F Aa Aa (Eh W (Aj 0 Aa)) h2) Aa Aa fun a F => ?_
  refine Bo (R := [17]) F Aa Aa (yC fun M Z hN hZ => Al (y := Value.agg #[.int .i64 x7.1, .int .i64 x7.2.1, .int .i64 x7.2.2.1, .int .i64 x7.2.2.2.1, .int .i64 x7.2.2.2.2]) (j := 0) (i := AO (p1 + x6)) F Aa Aa (DL (hZ ((some 17), row v1 63 Bg x5) (.head _) Aa)) h2 Ej.to DP Aa) (by kernel_rfl) Aa fun a F => ?_
  iterate 2 refine Bo (R := []) F Aa Aa (yC fun M Z hN hZ => An F Aa) Aa Aa fun a F => ?_
  obtain ⟨x8, h3, H⟩ := Ad H
  refine Bo (R := []) F Aa Aa (yC fun M Z hN hZ => Cn (r := Bg) Eg F Aa Aa (Eh W (Aj 0 Aa)) h3) Aa Aa fun a F => ?_
  refine Bo (R := [17]) F Aa Aa (yC fun M Z hN hZ => Al (y := Value.agg #[.int .i64 x8.1, .int .i64 x8.2.1, .int .i64 x8.2.2.1, .int .i64 x8.2.2.2.1, .int .i64 x8.2.2.2.2]) (j := 0) (i := p1) F Aa Aa (DL (hZ ((some 17), row v1 63 Bg x5) (.head _) Aa)) h3 Ej.to DP Aa) (by kernel_rfl) Aa fun a F => ?_
  obtain ⟨x9, h4, H⟩ := Ad H
  refine Bo (R := []) F Aa Aa (yC fun M Z hN hZ => Cn (r := Bg) Eg F Aa Aa (Eh W (Aj 0 Aa)) h4) Aa Aa fun a F => ?_
  refine Dr Aa ?_
  refine BG (i := p1) (j := 0) (vs := (CT x7)) (x' := x7) F W Aa Aa Aa (k := 0) Aa Aa h4 DP Aa Aa Aa Aa (fun A cs _ => Ej.sto (by rfl) _ _ _) fun w W => ?_
  refine Bl (N2 := []) (NZ2 := []) (N3 := []) (NZ3 := [(some 17, row v1 63 Bg x5)]) W Aa Aa Ag (all_cons (fun h => Ah (by kernel_rfl) h) Ag) ?_
  obtain ⟨x10, h5, H⟩ := Ad H
  refine Bo (R := []) F Aa Aa (yC fun M Z hN hZ => Cn (r := Bg) Eg F Aa Aa (Eh W (Aj 0 Aa)) h5) Aa Aa fun a F => ?_
  refine Dr Aa ?_
  refine BG (i := AO (p1 + x6)) (j := 0) (vs := (CT x8)) (x' := x8) F W Aa Aa Aa (k := 0) Aa Aa h5 DP Aa Aa Aa Aa (fun A cs _ => Ej.sto (by rfl) _ _ _) fun w W => ?_
  refine Bl (N2 := []) (NZ2 := []) (N3 := []) (NZ3 := [(some 17, row v1 63 Bg x5)]) W Aa Aa Ag (all_cons (fun h => Ah (by kernel_rfl) h) Ag) ?_
  refine Fw ?_
  refine vn tk 6 F W fun a w F W => ?_
  obtain ⟨x11, h6, H⟩ := Ad H
  refine Bv (Ml := []) (Zl := [row v1 63 Bg (Bf (Bf x5 p1 x7) (AO (p1 + x6)) x8)]) (β := Unit) (rv := fun x => .tuple #[]) (MM := fun x => []) (ZZ := fun x => [row v1 63 Bg x11]) F W Wn Aa Aa (fun hL => Ei _ _ w (v1) (Bf (Bf x5 p1 x7) (AO (p1 + x6)) x8) 0 x6 p1 _ h6 hL) fun x a w F W => ?_
  have W : Stw ⟨Y, X, w0⟩ [] [row v1 63 Bg x11] w := W
  refine Ew (AG ?_)
  refine vn tk 5 F W fun a w F W => ?_
  refine Ac ?_
  exact ⟨_, H, F.ra Aa, W⟩
 refine Bu ?_
 iterate 2 refine BL ?_
 refine Bp ?_
 have H := L3 _ H
 have H := AA H
 subst H
 refine Jq (.inr Aa) F Aa ?_
 exact ⟨(), Aa, W⟩
theorem YL : Has Tryz.prog 94 := CJ Tryz.func94
noncomputable def BZ (p0 : List (Int × (Int × Int × Int × Int))) (p1 : Int) (p2 : Int) (p3 : Int) : Option (Int × Int × Int) := (ix p0 p2).bind fun x1 => (ix p0 p1).bind fun x2 => (Cj x1 x2).bind fun x3 => (if x3 < 0 then some (p2, p1, AO (p3 + 1)) else some (p1, p2, p3))
theorem Dq (Y : Nat → Prop) (X : List Nat) (w0 : World) (v1 : Value) (q_p3 : Nat) (p0 : List (Int × (Int × Int × Int × Int))) (p1 : Int) (p2 : Int) (p3 : Int) (r : Int × Int × Int) (H : BZ p0 p1 p2 p3 = some r) (h_v1 : Sl w0 (NX X) Bg v1 p0) (hL : Stw ⟨Y, X, w0⟩ [(q_p3, [.int .i64 p3])] [] w0) :
    Calls Tryz.prog 142 #[v1, .int .i64 p1, .int .i64 p2, .pointer (some ⟨q_p3, 0, none⟩), .func (.func 41) #[] #[]] w0 fun e w' => ∃ x : Unit, e = .returned (.tuple #[.int .i64 r.1, .int .i64 r.2.1]) ∧ Stw ⟨Y, X, w0⟩ [(q_p3, [.int .i64 r.2.2])] [] w' := by
 refine enter Tryz.func142 Aa Tryz.ntmps142 Aa fun a F => ?_
 have W := hL
 unfold BZ at H
 refine vc tk 8 F W fun a w F W => ?_
 refine Cw W MO (by kernel_rfl) ?_
 iterate 3 refine qs F Aa (An F Aa).q fun a F => ?_
 obtain ⟨x1, h1, H⟩ := Ad H
 refine qs F Aa (Av (r := Bg) Eg F Aa Aa (Af h_v1) h1).q fun a F => ?_
 refine qs F Aa (Al (y := Value.agg #[.int .i64 x1.1, .int .i64 x1.2.1, .int .i64 x1.2.2.1, .int .i64 x1.2.2.2.1, .int .i64 x1.2.2.2.2]) (j := 0) (i := p2) F Aa Aa (Af h_v1) h1 Ej.to DP Aa).q fun a F => ?_
 iterate 2 refine qs F Aa (An F Aa).q fun a F => ?_
 obtain ⟨x2, h2, H⟩ := Ad H
 refine qs F Aa (Av (r := Bg) Eg F Aa Aa (Af h_v1) h2).q fun a F => ?_
 refine qs F Aa (Al (y := Value.agg #[.int .i64 x2.1, .int .i64 x2.2.1, .int .i64 x2.2.2.1, .int .i64 x2.2.2.2.1, .int .i64 x2.2.2.2.2]) (j := 0) (i := p1) F Aa Aa (Af h_v1) h2 Ej.to DP Aa).q fun a F => ?_
 obtain ⟨x3, h3, H⟩ := Ad H
 refine qs F Aa (Eo (ws := (Ib x1 x2)) (v := Value.int .i64 x3) F RL Aa (fun w W => Cp any w x1 x2 _ h3)) fun a F => ?_
 refine qs F Aa (F7 F Aa Aa).q fun a F => ?_
 refine AJ fun w W => ?_
 refine Ac ?_
 refine BJ F Aa H (fun F H => ?_) fun F H => ?_
 ·
  refine vc tk 3 F W fun a w F W => ?_
  refine ls F W Aa (Cu F Aa).q fun a w F W => ?_
  refine GD tk 2 [0] F W (ai fun a w F W => ?_)
  refine ls F W Aa (Cu F Aa).q fun a w F W => ?_
  refine Ed 0 F W Aa Aa Aa T3 Aa Aa Aa fun w W => ?_
  refine Cl tk 10 F W fun a w F W => ?_
  refine Ak (Ay ?_)
  have H := AA H
  subst H
  refine NG (.inl Aa) F W Aa (Am F Aa) (Am F Aa) ?_
  exact ⟨(), Aa, W⟩
 refine FL tk 10 F W fun a w F W => ?_
 refine Ak ?_
 have H := AA H
 subst H
 refine NG (.inl Aa) F W Aa (Am F Aa) (Am F Aa) ?_
 exact ⟨(), Aa, W⟩
theorem Vi : Has Tryz.prog 142 := CJ Tryz.func142
noncomputable def B0 (p0 : List (Int × (Int × Int × Int × Int))) (p1 : Int) (p2 : Int) (p3 : Int) (p4 : Int) : Option (Int × Int) := (BZ p0 p1 p2 p4).bind fun x1 => (BZ p0 x1.2.1 p3 x1.2.2).bind fun x2 => (BZ p0 x1.1 x2.1 x2.2.2).bind fun x3 => some (x3.2.1, x3.2.2)
theorem ED (Y : Nat → Prop) (X : List Nat) (w0 : World) (v1 : Value) (q_p4 : Nat) (p0 : List (Int × (Int × Int × Int × Int))) (p1 : Int) (p2 : Int) (p3 : Int) (p4 : Int) (r : Int × Int) (H : B0 p0 p1 p2 p3 p4 = some r) (h_v1 : Sl w0 (NX X) Bg v1 p0) (hL : Stw ⟨Y, X, w0⟩ [(q_p4, [.int .i64 p4])] [] w0) :
    Calls Tryz.prog 129 #[v1, .int .i64 p1, .int .i64 p2, .int .i64 p3, .pointer (some ⟨q_p4, 0, none⟩), .func (.func 41) #[] #[]] w0 fun e w' => ∃ x : Unit, e = .returned (.int .i64 r.1) ∧ Stw ⟨Y, X, w0⟩ [(q_p4, [.int .i64 r.2])] [] w' := by
 refine enter Tryz.func129 Aa Tryz.ntmps129 Aa fun a F => ?_
 have W := hL
 unfold B0 at H
 refine vc tk 12 F W fun a w F W => ?_
 obtain ⟨x1, h1, H⟩ := Ad H
 refine Bv (Ml := [(q_p4, [.int .i64 p4])]) (Zl := []) (β := Unit) (rv := fun x => .tuple #[.int .i64 x1.1, .int .i64 x1.2.1]) (MM := fun x => [(q_p4, [.int .i64 x1.2.2])]) (ZZ := fun x => []) F W Vi Aa Aa (fun hL => Dq _ _ w (v1) q_p4 p0 p1 p2 p4 _ h1 (W.roX h_v1 (fun g hg => Fx hg)) hL) fun x a w F W => ?_
 have W : Stw ⟨Y, X, w0⟩ [(q_p4, [.int .i64 x1.2.2])] [] w := W
 refine ls F W Aa (An F Aa).q fun a w F W => ?_
 refine ls F W Aa (Dp (v := Value.int .i64 x1.1) F Aa Aa).q fun a w F W => ?_
 refine ls F W Aa (Dp (v := Value.int .i64 x1.2.1) F Aa Aa).q fun a w F W => ?_
 refine Cl tk 11 F W fun a w F W => ?_
 obtain ⟨x2, h2, H⟩ := Ad H
 refine Bv (Ml := [(q_p4, [.int .i64 x1.2.2])]) (Zl := []) (β := Unit) (rv := fun x => .tuple #[.int .i64 x2.1, .int .i64 x2.2.1]) (MM := fun x => [(q_p4, [.int .i64 x2.2.2])]) (ZZ := fun x => []) F W Vi Aa Aa (fun hL => Dq _ _ w (v1) q_p4 p0 x1.2.1 p3 x1.2.2 _ h2 (W.roX h_v1 (fun g hg => Fx hg)) hL) fun x a w F W => ?_
 have W : Stw ⟨Y, X, w0⟩ [(q_p4, [.int .i64 x2.2.2])] [] w := W
 refine ls F W Aa (An F Aa).q fun a w F W => ?_
 refine ls F W Aa (Dp (v := Value.int .i64 x2.1) F Aa Aa).q fun a w F W => ?_
 refine ls F W Aa (Dp (v := Value.int .i64 x2.2.1) F Aa Aa).q fun a w F W => ?_
 refine Cl tk 11 F W fun a w F W => ?_
 obtain ⟨x3, h3, H⟩ := Ad H
 refine Bv (Ml := [(q_p4, [.int .i64 x2.2.2])]) (Zl := []) (β := Unit) (rv := fun x => .tuple #[.int .i64 x3.1, .int .i64 x3.2.1]) (MM := fun x => [(q_p4, [.int .i64 x3.2.2])]) (ZZ := fun x => []) F W Vi Aa Aa (fun hL => Dq _ _ w (v1) q_p4 p0 x1.1 x2.1 x2.2.2 _ h3 (W.roX h_v1 (fun g hg => Fx hg)) hL) fun x a w F W => ?_
 have W : Stw ⟨Y, X, w0⟩ [(q_p4, [.int .i64 x3.2.2])] [] w := W
 refine ls F W Aa (An F Aa).q fun a w F W => ?_
 refine ls F W Aa (Dp (v := Value.int .i64 x3.1) F Aa Aa).q fun a w F W => ?_
 refine ls F W Aa (Dp (v := Value.int .i64 x3.2.1) F Aa Aa).q fun a w F W => ?_
 refine Cl tk 10 F W fun a w F W => ?_
 refine Ak ?_
 have H := AA H
 subst H
 refine Au (.inl Aa) F W Aa (Am F Aa) ?_
 exact ⟨(), Aa, W⟩
theorem VZ : Has Tryz.prog 129 := CJ Tryz.func129
noncomputable def Bh (p0 : List (Int × (Int × Int × Int × Int))) (p1 : Int) (p2 : Int) : Option (Int × Int) := (B0 p0 (AO (p1 - 1)) p1 (AO (p1 + 1)) p2).bind fun x1 => some (x1.1, x1.2)
theorem C2 (Y : Nat → Prop) (X : List Nat) (w0 : World) (v1 : Value) (q_p2 : Nat) (p0 : List (Int × (Int × Int × Int × Int))) (p1 : Int) (p2 : Int) (r : Int × Int) (H : Bh p0 p1 p2 = some r) (h_v1 : Sl w0 (NX X) Bg v1 p0) (hL : Stw ⟨Y, X, w0⟩ [(q_p2, [.int .i64 p2])] [] w0) :
    Calls Tryz.prog 128 #[v1, .int .i64 p1, .pointer (some ⟨q_p2, 0, none⟩), .func (.func 41) #[] #[]] w0 fun e w' => ∃ x : Unit, e = .returned (.int .i64 r.1) ∧ Stw ⟨Y, X, w0⟩ [(q_p2, [.int .i64 r.2])] [] w' := by
 refine enter Tryz.func128 Aa Tryz.ntmps128 Aa fun a F => ?_
 have W := hL
 unfold Bh at H
 refine vc tk 15 F W fun a w F W => ?_
 obtain ⟨x1, h1, H⟩ := Ad H
 refine Bv (Ml := [(q_p2, [.int .i64 p2])]) (Zl := []) (β := Unit) (rv := fun x => .int .i64 x1.1) (MM := fun x => [(q_p2, [.int .i64 x1.2])]) (ZZ := fun x => []) F W VZ Aa Aa (fun hL => ED _ _ w (v1) q_p2 p0 (AO (p1 - 1)) p1 (AO (p1 + 1)) p2 _ h1 (W.roX h_v1 (fun g hg => Fx hg)) hL) fun x a w F W => ?_
 have W : Stw ⟨Y, X, w0⟩ [(q_p2, [.int .i64 x1.2])] [] w := W
 refine Cl tk 3 F W fun a w F W => ?_
 refine Ak ?_
 have H := AA H
 subst H
 refine Au (.inl Aa) F W Aa (Am F Aa) ?_
 exact ⟨(), Aa, W⟩
theorem Vj : Has Tryz.prog 128 := CJ Tryz.func128
noncomputable def Cg (p0 : List (Int × (Int × Int × Int × Int))) (p1 : Int) (p2 : Int) : Option (Int × Int) := (if 8 ≤ (AO (p2 - p1)) then (if 50 ≤ (AO (p2 - p1)) then (Bh p0 (AO (p1 + (AO ((AO (Int.tdiv (AO (p2 - p1)) 4)) * 1)))) 0).bind fun x7 => (Bh p0 (AO (p1 + (AO ((AO (Int.tdiv (AO (p2 - p1)) 4)) * 2)))) x7.2).bind fun x8 => (Bh p0 (AO (p1 + (AO ((AO (Int.tdiv (AO (p2 - p1)) 4)) * 3)))) x8.2).bind fun x9 => some (x7.1, x8.1, x9.1, x9.2) else some (AO (p1 + (AO ((AO (Int.tdiv (AO (p2 - p1)) 4)) * 1))), AO (p1 + (AO ((AO (Int.tdiv (AO (p2 - p1)) 4)) * 2))), AO (p1 + (AO ((AO (Int.tdiv (AO (p2 - p1)) 4)) * 3))), 0)).bind fun (x3, x4, x5, x6) => (B0 p0 x3 x4 x5 x6).bind fun x10 => some (x10.1, x10.2) else some (AO (p1 + (AO ((AO (Int.tdiv (AO (p2 - p1)) 4)) * 2))), 0)).bind fun (x1, x2) => (if x2 = 0 then some (x1, 1) else (if x2 = 12 then some (x1, 2) else some (x1, 0)))
theorem FU (Y : Nat → Prop) (w0 : World) (v1 : Value) (p0 : List (Int × (Int × Int × Int × Int))) (p1 : Int) (p2 : Int) (r : Int × Int) (H : Cg p0 p1 p2 = some r) (h_v1 : Sl w0 (NX []) Bg v1 p0) :
    Calls Tryz.prog 96 #[v1, .int .i64 p1, .int .i64 p2, .func (.func 41) #[] #[]] w0 fun e w' => e = .returned (.tuple #[.int .i64 r.1, .int .i64 r.2]) ∧ Below w0.heap.size w0 w' := by
 refine enter Tryz.func96 Aa Tryz.ntmps96 Aa fun a F => ?_
 have W := Stw.start Y w0
 unfold Cg at H
 refine vc tk 16 F W fun a w F W => ?_
 refine B9 (cs := [.int .i64 0]) F W Aa Z3 Aa fun b1 a w F W => ?_
 refine Cl tk 6 F W fun a w F W => ?_
 refine ls F W Aa (Ow F Aa Aa (by decide) Aa).q fun a w F W => ?_
 refine Cl tk 9 F W fun a w F W => ?_
 refine ls F W Aa (Ow F Aa Aa (by decide) Aa).q fun a w F W => ?_
 refine Cl tk 9 F W fun a w F W => ?_
 refine ls F W Aa (Ow F Aa Aa (by decide) Aa).q fun a w F W => ?_
 refine vl tk 4 F W fun a w F W => ?_
 refine Ac ?_
 obtain ⟨o1, G1, K1⟩ := Ad H
 refine Ax (fun a w => ∃ x1 : Int, ∃ x2 : Int, some ((x1, x2)) = some o1 ∧ Fr 63 [] [(8, .int .i64 0), (9, .int .i64 0), (11, .pointer (some ⟨b1, 0, none⟩)), (13, .int .i64 x1)] a ∧ Stw ⟨Y, [], w0⟩ [(b1, [.int .i64 x2])] [] w) ?_ ?_
 ·
  have H := G1
  clear G1 K1
  refine vc tk 6 F W fun a w F W => ?_
  refine BJ F Aa H (fun F H => ?_) fun F H => ?_
  ·
   obtain ⟨o2, G2, K2⟩ := Ad H
   refine Ax (fun a w => ∃ x3 : Int, ∃ x4 : Int, ∃ x5 : Int, ∃ x6 : Int, some ((x3, x4, x5, x6)) = some o2 ∧ Fr 63 [] [(0, v1), (3, .func (.func 41) #[] #[]), (8, .int .i64 0), (9, .int .i64 0), (11, .pointer (some ⟨b1, 0, none⟩)), (12, .int .i64 x3), (13, .int .i64 x4), (14, .int .i64 x5)] a ∧ Stw ⟨Y, [], w0⟩ [(b1, [.int .i64 x6])] [] w) ?_ ?_
   ·
    have H := G2
    clear G2 K2
    refine vc tk 6 F W fun a w F W => ?_
    refine BJ F Aa H (fun F H => ?_) fun F H => ?_
    ·
     refine vc tk 5 F W fun a w F W => ?_
     obtain ⟨x7, h1, H⟩ := Ad H
     refine Bv (Ml := [(b1, [.int .i64 0])]) (Zl := []) (β := Unit) (rv := fun x => .int .i64 x7.1) (MM := fun x => [(b1, [.int .i64 x7.2])]) (ZZ := fun x => []) F W Vj Aa Aa (fun hL => C2 _ _ w (v1) b1 p0 (AO (p1 + (AO ((AO (Int.tdiv (AO (p2 - p1)) 4)) * 1)))) 0 _ h1 (W.roX h_v1 (fun g hg => Fx hg)) hL) fun x a w F W => ?_
     have W : Stw ⟨Y, [], w0⟩ [(b1, [.int .i64 x7.2])] [] w := W
     refine Cl tk 8 F W fun a w F W => ?_
     obtain ⟨x8, h2, H⟩ := Ad H
     refine Bv (Ml := [(b1, [.int .i64 x7.2])]) (Zl := []) (β := Unit) (rv := fun x => .int .i64 x8.1) (MM := fun x => [(b1, [.int .i64 x8.2])]) (ZZ := fun x => []) F W Vj Aa Aa (fun hL => C2 _ _ w (v1) b1 p0 (AO (p1 + (AO ((AO (Int.tdiv (AO (p2 - p1)) 4)) * 2)))) x7.2 _ h2 (W.roX h_v1 (fun g hg => Fx hg)) hL) fun x a w F W => ?_
     have W : Stw ⟨Y, [], w0⟩ [(b1, [.int .i64 x8.2])] [] w := W
     refine Cl tk 7 F W fun a w F W => ?_
     obtain ⟨x9, h3, H⟩ := Ad H
     refine Bv (Ml := [(b1, [.int .i64 x8.2])]) (Zl := []) (β := Unit) (rv := fun x => .int .i64 x9.1) (MM := fun x => [(b1, [.int .i64 x9.2])]) (ZZ := fun x => []) F W Vj Aa Aa (fun hL => C2 _ _ w (v1) b1 p0 (AO (p1 + (AO ((AO (Int.tdiv (AO (p2 - p1)) 4)) * 3)))) x8.2 _ h3 (W.roX h_v1 (fun g hg => Fx hg)) hL) fun x a w F W => ?_
     have W : Stw ⟨Y, [], w0⟩ [(b1, [.int .i64 x9.2])] [] w := W
     refine vl tk 2 F W fun a w F W => ?_
     refine Ac ?_
     exact ⟨_, _, _, _, H, F.ra Aa, W⟩
    refine AX (Ac ?_)
    exact ⟨_, _, _, _, H, F.ra Aa, W⟩
   rintro a w ⟨x3, x4, x5, x6, hj, F, W⟩
   have hj := AA hj
   subst hj
   have H := K2
   clear G2 K2
   refine vc tk 6 F W fun a w F W => ?_
   obtain ⟨x10, h4, H⟩ := Ad H
   refine Bv (Ml := [(b1, [.int .i64 x6])]) (Zl := []) (β := Unit) (rv := fun x => .int .i64 x10.1) (MM := fun x => [(b1, [.int .i64 x10.2])]) (ZZ := fun x => []) F W VZ Aa Aa (fun hL => ED _ _ w (v1) b1 p0 x3 x4 x5 x6 _ h4 (W.roX h_v1 (fun g hg => Fx hg)) hL) fun x a w F W => ?_
   have W : Stw ⟨Y, [], w0⟩ [(b1, [.int .i64 x10.2])] [] w := W
   refine vl tk 2 F W fun a w F W => ?_
   refine Ac ?_
   exact ⟨_, _, H, F.ra Aa, W⟩
  refine AX (Ac ?_)
  exact ⟨_, _, H, F.ra Aa, W⟩
 rintro a w ⟨x1, x2, hj, F, W⟩
 have hj := AA hj
 subst hj
 have H := K1
 clear G1 K1
 refine Fo tk 12 [0] F W (ai fun a w F W => ?_)
 refine BX F Aa (fun hb => ?_) fun hb => ?_
 ·
  have H := B8 (CI hb) H
  rw [hb] at F
  clear hb
  refine vc tk 7 F W fun a w F W => ?_
  refine Ak (AD ?_)
  have H := AA H
  subst H
  refine NG (.inl Aa) F W Aa (Am F Aa) (Am F Aa) ?_
  exact ⟨rfl, W.done⟩
 have H := B7 (CH hb) H
 rw [hb] at F
 clear hb
 refine vc tk 6 F W fun a w F W => ?_
 refine BX F Aa (fun hb => ?_) fun hb => ?_
 ·
  have H := B8 (CI hb) H
  rw [hb] at F
  clear hb
  refine vc tk 7 F W fun a w F W => ?_
  refine Ak (AD ?_)
  have H := AA H
  subst H
  refine NG (.inl Aa) F W Aa (Am F Aa) (Am F Aa) ?_
  exact ⟨rfl, W.done⟩
 have H := B7 (CH hb) H
 rw [hb] at F
 clear hb
 refine vc tk 7 F W fun a w F W => ?_
 refine Ak (AD ?_)
 have H := AA H
 subst H
 refine NG (.inl Aa) F W Aa (Am F Aa) (Am F Aa) ?_
 exact ⟨rfl, W.done⟩
theorem YA : Has Tryz.prog 96 := CJ Tryz.func96
noncomputable def Bm  : ((List (Int × (Int × Int × Int × Int))) × Int × Int) → Option (((List (Int × (Int × Int × Int × Int))) × Int × Int) ⊕ (List (Int × (Int × Int × Int × Int))))
  | (x1, x2, x3) => (if x2 < x3 then (ix x1 x3).bind fun x4 => (ix x1 x2).bind fun x5 => (ix x1 x2).bind fun x6 => (ix (Bf x1 x2 x4) x3).bind fun x7 => some (.inl ((Bf (Bf x1 x2 x4) x3 x5), AO (x2 + 1), AO (x3 - 1))) else some (.inr x1))
noncomputable def BO (p0 : List (Int × (Int × Int × Int × Int))) (p1 : Int) (p2 : Int) : Option (List (Int × (Int × Int × Int × Int))) := AW (Bm) (p0, p1, AO (p2 - 1))
theorem FM (Y : Nat → Prop) (X : List Nat) (w0 : World) (v1 : Value) (p0 : List (Int × (Int × Int × Int × Int))) (p1 : Int) (p2 : Int) (r : (List (Int × (Int × Int × Int × Int)))) (H : BO p0 p1 p2 = some r) (hL : Stw ⟨Y, X, w0⟩ [] [row v1 63 Bg p0] w0) :
    Calls Tryz.prog 97 #[v1, .int .i64 p1, .int .i64 p2, .func (.func 41) #[] #[]] w0 fun e w' => ∃ x : Unit, e = .returned (.tuple #[]) ∧ Stw ⟨Y, X, w0⟩ [] [row v1 63 Bg r] w' := by
 refine enter Tryz.func97 Aa Tryz.ntmps97 Aa fun a F => ?_
 have W := hL
 unfold BO at H
 refine vc tk 14 F W fun a w F W => ?_
 refine BF H (fun s a w => Fr 34 [] [(0, v1), (8, .int .i64 s.2.1), (9, .int .i64 s.2.2)] a ∧ Stw ⟨Y, X, w0⟩ [] [row v1 63 Bg s.1] w) ⟨F.ra Aa, W⟩ fun s o a w H L1 hR => ?_
 obtain ⟨x1, x2, x3⟩ := s
 obtain ⟨F, W⟩ := hR
 have F : Fr 34 [] [(0, v1), (8, .int .i64 x2), (9, .int .i64 x3)] a := F
 have W : Stw ⟨Y, X, w0⟩ [] [row v1 63 Bg x1] w := W
 rw [Bm] at H
 refine vc tk 8 F W fun a w F W => ?_
 refine BJ F Aa H (fun F H => ?_) fun F H => ?_
 ·
  refine FL tk 4 F W fun a w F W => ?_
  refine Ia 13 [2, 3] [0, 1, 4, 5, 6, 7, 8, 9, 10, 11, 12] (fun ch a d v w h => by cases d <;> exact h) W MO (by kernel_rfl) ?_
  iterate 2 refine hm F Aa Aa Aa fun a F => ?_
  refine JG ?_
  iterate 4 refine hs F Aa Aa Aa (An F Aa).q fun a F => ?_
  obtain ⟨x4, h1, H⟩ := Ad H
  refine hs F Aa Aa Aa (Av (r := Bg) Eg F Aa Aa (Aj 0 Aa) h1).q fun a F => ?_
  refine hs F Aa Aa Aa (Al (y := Value.agg #[.int .i64 x4.1, .int .i64 x4.2.1, .int .i64 x4.2.2.1, .int .i64 x4.2.2.2.1, .int .i64 x4.2.2.2.2]) (j := 0) (i := x3) F Aa Aa (Aj 0 Aa) h1 Ej.to DP Aa).q fun a F => ?_
  iterate 2 refine hs F Aa Aa Aa (An F Aa).q fun a F => ?_
  obtain ⟨x5, h2, H⟩ := Ad H
  refine hs F Aa Aa Aa (Av (r := Bg) Eg F Aa Aa (Aj 0 Aa) h2).q fun a F => ?_
  refine hs F Aa Aa Aa (Al (y := Value.agg #[.int .i64 x5.1, .int .i64 x5.2.1, .int .i64 x5.2.2.1, .int .i64 x5.2.2.2.1, .int .i64 x5.2.2.2.2]) (j := 0) (i := x2) F Aa Aa (Aj 0 Aa) h2 Ej.to DP Aa).q fun a F => ?_
  obtain ⟨x6, h3, H⟩ := Ad H
  refine hs F Aa Aa Aa (Av (r := Bg) Eg F Aa Aa (Aj 0 Aa) h3).q fun a F => ?_
  refine ME fun w W => ?_
  have W : Stw ⟨Y, X, w0⟩ [] [row v1 63 Bg x1] w := W
  refine BG (i := x2) (j := 0) (vs := (CT x4)) (x' := x4) F W Aa Aa Aa (k := 0) Aa Aa h3 DP Aa Aa Aa Aa (fun A cs _ => Ej.sto (by rfl) _ _ _) fun w W => ?_
  obtain ⟨x7, h4, H⟩ := Ad H
  refine ls F W Aa (Av (r := Bg) Eg F Aa Aa (Aj 0 Aa) h4).q fun a w F W => ?_
  refine BG (i := x3) (j := 0) (vs := (CT x5)) (x' := x5) F W Aa Aa Aa (k := 0) Aa Aa h4 DP Aa Aa Aa Aa (fun A cs _ => Ej.sto (by rfl) _ _ _) fun w W => ?_
  refine Cl tk 14 F W fun a w F W => ?_
  refine AG (Ac ?_)
  exact ⟨_, H, F.ra Aa, W⟩
 refine Bu ?_
 iterate 2 refine BL ?_
 refine Bp ?_
 have H := L1 _ H
 have H := AA H
 subst H
 refine Jq (.inr Aa) F Aa ?_
 exact ⟨(), Aa, W⟩
end Go.Proofs.YtpckgggmgijiiaaGreatDoor
