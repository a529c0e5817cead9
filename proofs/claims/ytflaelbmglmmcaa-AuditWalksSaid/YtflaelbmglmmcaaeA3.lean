/- The functions of layer 42, ET. Conditions: none. -/
import Derived.Test.YtflaelbmglmmcaaeA2
namespace Go.Proofs.Ytflaelbmglmmcaa
open Go Go.RowKit
set_option linter.unusedVariables false
set_option linter.unusedSimpArgs false
set_option maxRecDepth 20000
theorem PN : Has Try.prog 31 := ⟨fun args w => Am Try.func31 rfl (by decide) args w⟩
noncomputable def B5 (p0 : Int × (List (Int × Int × Int × Int × Int × Int)) × (List (Int × Int))) (p1 : List (List (List Int))) (x1 : ((List (Int × Int × Int)) × (List (Int × Int)))) (x3 : (List (Int × Int × Int × Int × List Int × Int × Int × Int))) : ((List (Int × Int)) × Int) → Option (((List (Int × Int)) × Int) ⊕ (List (Int × Int)))
  | (x4, x5) => (if x5 < (x3.length : Int) then ((ix x3 x5).bind fun x7 => ((C3 x7).bind fun x9 => (if x9 = true then (FR x4 ([(1, x7.1)] : List (Int × Int))).bind fun x10 => some x10 else some x4)).bind fun x8 => (if x7.2.2.2.2.2.1 = 4 then (FR x8 ([(2, x7.1)] : List (Int × Int))).bind fun x12 => some x12 else some x8).bind fun x11 => (if (decide (x7.2.2.2.2.2.1 = 3) && decide (x7.2.2.2.2.2.2.1 ≠ x7.2.2.1)) = true then (FR x11 ([(3, x7.1)] : List (Int × Int))).bind fun x14 => some x14 else some x11).bind fun x13 => (if 0 < (x7.2.2.2.2.1.length : Int) then (Be x1 x7.2.2.2.1).bind fun x16 => (if (!x16) = true then (Bo x1 x7.2.2.2.1).bind fun x17 => (BS p0 p1 x17 x7).bind fun x18 => some (!x18) else some false) else some false).bind fun x15 => (if x15 = true then (FR x13 ([(4, x7.1)] : List (Int × Int))).bind fun x19 => some x19 else some x13)).bind fun x6 => some (.inl (x6, DH (x5 + 1))) else some (.inr x4))
noncomputable def BN (p0 : Int × (List (Int × Int × Int × Int × Int × Int)) × (List (Int × Int))) (p1 : List (List (List Int))) (p2 : List (Int × Int × Int × Int × Int × Int)) : Option (List (Int × Int)) := (DJ p2).bind fun x1 => ((E3 p2).bind fun x3 => AQ (B5 p0 p1 x1 x3) ([], 0)).bind fun x2 => some x2
theorem DD (Y : Nat → Prop) (w0 : World) (v1 : Value) (v2 : Value) (v3 : Value) (v4 : Value) (p0 : Int × (List (Int × Int × Int × Int × Int × Int)) × (List (Int × Int))) (p1 : List (List (List Int))) (p2 : List (Int × Int × Int × Int × Int × Int)) (r : (List (Int × Int))) (H : BN p0 p1 p2 = some r) (h_v1 : Sl w0 (NX []) CS v1 p0.2.1) (h_v2 : Sl w0 (NX []) Ec v2 p0.2.2) (h_v3 : Sl w0 (NX []) (Rp.slice (Rp.slice (Rp.int .i64))) v3 p1) (h_v4 : Sl w0 (NX []) DB v4 p2) :
    Calls Try.prog 17 #[.agg #[.int .i64 p0.1, v1, v2], v3, v4] w0 fun e w' => ∃ x : Value, e = .returned (x) ∧ Stw ⟨Y, [], w0⟩ [] [row (x) 45 Dv r] w' := by
 refine enter Try.func17 Aa Try.ntmps17 Aa fun a F => ?_
 have W := Stw.start Y w0
 obtain ⟨v5, h1, h_v3⟩ := h_v3.ex Nt
 unfold BN at H
 refine Ai (Ac ?_)
 refine B9 (cs := [.int .i64 p0.1, v1, v2]) F W Aa Aa Aa fun b1 a w F W => ?_
 refine ls F W Aa (Ah F Aa).q fun a w F W => ?_
 refine Ad (Ab (Ai (Ac ?_)))
 refine ls F W Aa (Ah F Aa).q fun a w F W => ?_
 refine Ad (Ab (Ai (Ac ?_)))
 refine ls F W Aa (Ae F Aa).q fun a w F W => ?_
 obtain ⟨x1, h2, H⟩ := Ao H
 refine Cf (Ml := []) (Zl := []) (M := [(b1, [.int .i64 p0.1, v1, v2])]) (Z := []) (β := Value × Value) (rv := fun x => .agg #[x.1, x.2]) (MM := fun x => []) (ZZ := fun x => [row x.1 38 CW x1.1, row x.2 91 EZ x1.2]) F W PH Aa Aa (fun hL => JJ _ w (v4) p2 _ h2 ((Aj h_v4) w W).nx) fun x a w F W => ?_
 obtain ⟨v6, v7⟩ := x
 have W : Stw ⟨Y, [], w0⟩ [(b1, [.int .i64 p0.1, v1, v2])] [row v6 38 CW x1.1, row v7 91 EZ x1.2] w := W
 refine B1 (cs := [.slice none 0 0, .slice none 0 0]) F W Aa O4 Aa fun b2 a w F W => ?_
 refine BM (vs := [v6, v7]) (M' := [(b2, [v6, v7]), (b1, [.int .i64 p0.1, v1, v2])]) 0 F W Aa Aa Aa NO Aa Aa Aa (Bz (W.one (k := 0) Aa) (Bz (W.one (k := 1) Aa) Gk)) Aa fun w W => ?_
 refine Ad (Ab ?_)
 obtain ⟨o1, G1, K1⟩ := Ao H
 refine AH (fun a w => ∃ x2 : List (Int × Int), ∃ v8 : Value, some (x2) = some o1 ∧ Fr 83 [] [(6, .slice none 0 0), (7, v8)] a ∧ Stw ⟨Y, [], w0⟩ [(b2, [v6, v7]), (b1, [.int .i64 p0.1, v1, v2])] [row v8 45 Dv x2, row v6 38 CW x1.1, row v7 91 EZ x1.2] w) ?_ ?_
 ·
  have H := G1
  clear G1 K1
  refine Ai (Ac ?_)
  refine ls F W Aa (Ae F Aa).q fun a w F W => ?_
  obtain ⟨x3, h3, H⟩ := Ao H
  refine Cf (Ml := []) (Zl := []) (M := [(b2, [v6, v7]), (b1, [.int .i64 p0.1, v1, v2])]) (Z := [row v6 38 CW x1.1, row v7 91 EZ x1.2]) (β := Value) (rv := fun x => x) (MM := fun x => []) (ZZ := fun x => [row x 78 Is x3]) F W P2 Aa Aa (fun hL => Ku _ w (v4) p2 _ h3 ((Aj h_v4) w W).nx) fun x a w F W => ?_
  obtain ⟨v9, rfl⟩ : ∃ y, y = x := ⟨x, rfl⟩
  have W : Stw ⟨Y, [], w0⟩ [(b2, [v6, v7]), (b1, [.int .i64 p0.1, v1, v2])] [row v9 78 Is x3, row v6 38 CW x1.1, row v7 91 EZ x1.2] w := W
  refine ls F W Aa (A7 (r := Is) (l := x3) N4 Aa F Aa (AP 0 Aa)).q fun a w F W => ?_
  refine ls F W Aa (Ae F Aa).q fun a w F W => ?_
  refine Ad (Ab (Aw ?_))
  have W := W.nilRow 45 Dv
  have W := W.frontZ (i := 3) Aa Aa
  have W := W.frontZ (i := 3) Aa Aa
  have W := W.frontZ (i := 3) Aa Aa
  have W := W.frontZ (i := 3) Aa Aa
  have W := W.frontM (i := 1) Aa Aa
  have W := W.frontM (i := 1) Aa Aa
  refine Bv H (fun s a w => ∃ v10 : Value, Fr 83 [] [(1, v3), (3, .pointer (some ⟨b1, 0, none⟩)), (6, .slice none 0 0), (7, v10), (8, .pointer (some ⟨b2, 0, none⟩)), (14, v9), (15, .int .i64 (x3.length : Int)), (16, .int .i64 s.2)] a ∧ Stw ⟨Y, [], w0⟩ [(b2, [v6, v7]), (b1, [.int .i64 p0.1, v1, v2])] [row v10 45 Dv s.1, row v9 78 Is x3, row v6 38 CW x1.1, row v7 91 EZ x1.2] w) ⟨(Value.slice none 0 0), F.re ⟨rfl, Aa, Aa, Aa, Aa, Aa, Aa, Aa, trivial⟩, W⟩ fun s o a w H L2 hR => ?_
  obtain ⟨x4, x5⟩ := s
  obtain ⟨v10, F, W⟩ := hR
  have F : Fr 83 [] [(1, v3), (3, .pointer (some ⟨b1, 0, none⟩)), (6, .slice none 0 0), (7, v10), (8, .pointer (some ⟨b2, 0, none⟩)), (14, v9), (15, .int .i64 (x3.length : Int)), (16, .int .i64 x5)] a := F
  have W : Stw ⟨Y, [], w0⟩ [(b2, [v6, v7]), (b1, [.int .i64 p0.1, v1, v2])] [row v10 45 Dv x4, row v9 78 Is x3, row v6 38 CW x1.1, row v7 91 EZ x1.2] w := W
  rw [B5] at H
  refine Ai (Ac ?_)
  refine ls F W Aa (Bq F Aa Aa).q fun a w F W => ?_
  refine Ad (Ab (Ai ?_))
  refine Ay F Aa (fun hb => ?_) fun hb => ?_
  ·
   have H := AN (Bf hb) H
   rw [hb] at F
   clear hb
   refine Aq (Ab ?_)
   obtain ⟨o3, G3, K3⟩ := Ao H
   refine AH (fun a w => ∃ x6 : List (Int × Int), ∃ v11 : Value, some (x6) = some o3 ∧ Fr 83 [] [(1, v3), (3, .pointer (some ⟨b1, 0, none⟩)), (6, .slice none 0 0), (7, v11), (8, .pointer (some ⟨b2, 0, none⟩)), (14, v9), (15, .int .i64 (x3.length : Int)), (16, .int .i64 x5)] a ∧ Stw ⟨Y, [], w0⟩ [(b2, [v6, v7]), (b1, [.int .i64 p0.1, v1, v2])] [row v11 45 Dv x6, row v9 78 Is x3, row v6 38 CW x1.1, row v7 91 EZ x1.2] w) ?_ ?_
   ·
    have H := G3
    clear G3 K3
    refine Aw (Ai ?_)
    have W := W.frontZ (i := 1) Aa Aa
    obtain ⟨v12, h4, W⟩ := W.exR NM
    refine Ac ?_
    obtain ⟨x7, h5, H⟩ := Ao H
    obtain ⟨v13, h6, h7⟩ := DN h4 h5
    have h8 : NY v13 = [.int .i64 x7.1, .int .i64 x7.2.1, .int .i64 x7.2.2.1, .int .i64 x7.2.2.2.1, (v13.2.2.2.2.1.1), .int .i64 x7.2.2.2.2.2.1, .int .i64 x7.2.2.2.2.2.2.1, .int .i64 x7.2.2.2.2.2.2.2] := congrArg (fun q : Int × Int × Int × Int × List Int × Int × Int × Int => ([.int .i64 q.1, .int .i64 q.2.1, .int .i64 q.2.2.1, .int .i64 q.2.2.2.1, (v13.2.2.2.2.1.1), .int .i64 q.2.2.2.2.2.1, .int .i64 q.2.2.2.2.2.2.1, .int .i64 q.2.2.2.2.2.2.2] : List Value)) h7
    refine ls F W Aa (AJ (r := Ny) OO F Aa Aa (AP 0 Aa) h6).q fun a w F W => ?_
    refine ls F W Aa (Az (y := Value.agg #[.int .i64 x7.1, .int .i64 x7.2.1, .int .i64 x7.2.2.1, .int .i64 x7.2.2.2.1, (v13.2.2.2.2.1.1), .int .i64 x7.2.2.2.2.2.1, .int .i64 x7.2.2.2.2.2.2.1, .int .i64 x7.2.2.2.2.2.2.2]) (j := 0) (i := x5) (enc := NY) F Aa Aa (AP 0 Aa) h6 OZ ON (by rw [h8]; rfl)).q fun a w F W => ?_
    have W := W.note (W.rowAt (k := 0) Aa h6 (Db.snd (Db.snd (Db.snd (Db.snd (Db.fst Db.here))))) (congrArg (fun q : Int × Int × Int × Int × List Int × Int × Int × Int => q.2.2.2.2.1) h7))
    refine B1 (cs := [.int .i64 0, .int .i64 0, .int .i64 0, .int .i64 0, .slice none 0 0, .int .i64 0, .int .i64 0, .int .i64 0]) F W Aa Pe Aa fun b3 a w F W => ?_
    refine BM (vs := [.int .i64 x7.1, .int .i64 x7.2.1, .int .i64 x7.2.2.1, .int .i64 x7.2.2.2.1, (v13.2.2.2.2.1.1), .int .i64 x7.2.2.2.2.2.1, .int .i64 x7.2.2.2.2.2.2.1, .int .i64 x7.2.2.2.2.2.2.2]) (M' := [(b3, [.int .i64 x7.1, .int .i64 x7.2.1, .int .i64 x7.2.2.1, .int .i64 x7.2.2.2.1, (v13.2.2.2.2.1.1), .int .i64 x7.2.2.2.2.2.1, .int .i64 x7.2.2.2.2.2.2.1, .int .i64 x7.2.2.2.2.2.2.2]), (b2, [v6, v7]), (b1, [.int .i64 p0.1, v1, v2])]) 0 F W Aa Aa Aa ON Aa Aa Aa (Bz Aa (Bz Aa (Bz Aa (Bz Aa (Bz (W.oneF (k := 0) Aa) (Bz Aa (Bz Aa (Bz Aa Gk)))))))) Aa fun w W => ?_
    refine Ad (Ab ?_)
    obtain ⟨o4, G4, K4⟩ := Ao H
    refine AH (fun a w => ∃ x8 : List (Int × Int), ∃ v14 : Value, some (x8) = some o4 ∧ Fr 83 [] [(1, v3), (3, .pointer (some ⟨b1, 0, none⟩)), (6, .slice none 0 0), (7, v14), (8, .pointer (some ⟨b2, 0, none⟩)), (10, .pointer (some ⟨b3, 0, none⟩)), (14, v9), (15, .int .i64 (x3.length : Int)), (16, .int .i64 x5)] a ∧ Stw ⟨Y, [], w0⟩ [(b3, [.int .i64 x7.1, .int .i64 x7.2.1, .int .i64 x7.2.2.1, .int .i64 x7.2.2.2.1, (v13.2.2.2.2.1.1), .int .i64 x7.2.2.2.2.2.1, .int .i64 x7.2.2.2.2.2.2.1, .int .i64 x7.2.2.2.2.2.2.2]), (b2, [v6, v7]), (b1, [.int .i64 p0.1, v1, v2])] [row v14 45 Dv x8, row v9 78 Is x3, Hl (v13.2.2.2.2.1.1) (Rp.int .i64) x7.2.2.2.2.1, row v6 38 CW x1.1, row v7 91 EZ x1.2] w) ?_ ?_
    ·
     have H := G4
     clear G4 K4
     refine Ai (Ac ?_)
     refine ls F W Aa (Al (v := Value.agg #[.int .i64 x7.1, .int .i64 x7.2.1, .int .i64 x7.2.2.1, .int .i64 x7.2.2.2.1, (v13.2.2.2.2.1.1), .int .i64 x7.2.2.2.2.2.1, .int .i64 x7.2.2.2.2.2.2.1, .int .i64 x7.2.2.2.2.2.2.2]) 0 F Aa Aa ON Aa).q fun a w F W => ?_
     obtain ⟨x9, h9, H⟩ := Ao H
     refine ls F W Aa (BI (v := Value.bool x9) F Qx Aa (fun w W => IM any w ((v13.2.2.2.2.1.1)) x7 _ h9 (((JF 0 Aa) : CZ _ _ _ _ _ _) w W).nx)) fun a w F W => ?_
     refine Ad (Ab ?_)
     refine Ay F Aa (fun hb => ?_) fun hb => ?_
     ·
      have H := AN hb H
      rw [hb] at F
      clear hb
      refine Ac ?_
      refine ls F W Aa (Ae F Aa).q fun a w F W => ?_
      refine ls F W Aa (Ag Ew Aa Aa Aa T3 F Aa 0 Aa).q fun a w F W => ?_
      refine ls F W Aa (Al (v := Value.int .i64 x7.1) 0 F Aa Aa T3 Aa).q fun a w F W => ?_
      refine ls F W Aa (BA (v := Value.agg #[.int .i64 1, .int .i64 x7.1]) Oe F Aa Aa Aa).q fun a w F W => ?_
      refine C1 (z := Value.agg #[.int .i64 0, .int .i64 0]) (cs := [.int .i64 1, .int .i64 x7.1]) Dv ([(1, x7.1)] : List (Int × Int)) F W Aa MV OQ Aa Aa Aa Aa Aa Aa (Oj.repL _ _ ([(1, x7.1)] : List (Int × Int))) fun v15 a w F W => ?_
      obtain ⟨x10, h10, H⟩ := Ao H
      refine Cz (r := Dv) (i := 3) F W Aa MV Aa Aa Aa Aa (C7 W 0 Aa) h10 Aa fun v16 a w F W => ?_
      have W : Stw ⟨Y, [], w0⟩ [(b3, [.int .i64 x7.1, .int .i64 x7.2.1, .int .i64 x7.2.2.1, .int .i64 x7.2.2.2.1, (v13.2.2.2.2.1.1), .int .i64 x7.2.2.2.2.2.1, .int .i64 x7.2.2.2.2.2.2.1, .int .i64 x7.2.2.2.2.2.2.2]), (b2, [v6, v7]), (b1, [.int .i64 p0.1, v1, v2])] [row v16 45 Dv x10, row v15 45 Dv ([(1, x7.1)] : List (Int × Int)), Hl (v13.2.2.2.2.1.1) (Rp.int .i64) x7.2.2.2.2.1, row v9 78 Ny v12, row v6 38 CW x1.1, row v7 91 EZ x1.2] w := W
      refine ls F W Aa (Ah F Aa).q fun a w F W => ?_
      refine Ad (Ab ?_)
      have W := W.frontZ (i := 3) Aa Aa
      have W := W.hideR NM h4
      have W := W.frontZ (i := 5) Aa Aa
      have W := W.frontZ (i := 5) Aa Aa
      have W := W.frontZ (i := 5) Aa Aa
      have W := W.frontZ (i := 3) Aa Aa
      have W := W.frontZ (i := 4) Aa Aa
      have W := W.frontM (i := 2) Aa Aa
      have W := W.frontM (i := 2) Aa Aa
      have W := W.frontM (i := 2) Aa Aa
      have W := W.sub (M' := [(b3, [.int .i64 x7.1, .int .i64 x7.2.1, .int .i64 x7.2.2.1, .int .i64 x7.2.2.2.1, (v13.2.2.2.2.1.1), .int .i64 x7.2.2.2.2.2.1, .int .i64 x7.2.2.2.2.2.2.1, .int .i64 x7.2.2.2.2.2.2.2]), (b2, [v6, v7]), (b1, [.int .i64 p0.1, v1, v2])]) (Z' := [row v16 45 Dv x10, row v9 78 Is x3, Hl (v13.2.2.2.2.1.1) (Rp.int .i64) x7.2.2.2.2.1, row v6 38 CW x1.1, row v7 91 EZ x1.2]) (List.Sublist.refl _) (List.Sublist.cons_cons _ (List.Sublist.cons_cons _ (List.Sublist.cons_cons _ (List.Sublist.cons_cons _ (List.Sublist.cons_cons _ (List.nil_sublist _))))))
      exact ⟨_, (v16), H, F.re ⟨rfl, Aa, Aa, Aa, Aa, Aa, Aa, Aa, Aa, trivial⟩, W⟩
     have H := AM (by rw [hb]; decide) H
     rw [hb] at F
     clear hb
     refine Aq (Ab ?_)
     have W := W.frontZ (i := 1) Aa Aa
     have W := W.hideR NM h4
     have W := W.frontZ (i := 4) Aa Aa
     have W := W.frontZ (i := 4) Aa Aa
     have W := W.frontZ (i := 3) Aa Aa
     have W := W.frontZ (i := 3) Aa Aa
     have W := W.frontZ (i := 4) Aa Aa
     have W := W.frontM (i := 2) Aa Aa
     have W := W.frontM (i := 2) Aa Aa
     have W := W.frontM (i := 2) Aa Aa
     exact ⟨_, (v10), H, F.re ⟨rfl, Aa, Aa, Aa, Aa, Aa, Aa, Aa, Aa, trivial⟩, W⟩
    rintro a w ⟨x8, v14, hj, F, W⟩
    have hj := AW hj
    subst hj
    have H := K4
    clear G4 K4
    obtain ⟨o5, G5, K5⟩ := Ao H
    refine AH (fun a w => ∃ x11 : List (Int × Int), ∃ v17 : Value, some (x11) = some o5 ∧ Fr 83 [] [(1, v3), (3, .pointer (some ⟨b1, 0, none⟩)), (6, .slice none 0 0), (7, v17), (8, .pointer (some ⟨b2, 0, none⟩)), (10, .pointer (some ⟨b3, 0, none⟩)), (14, v9), (15, .int .i64 (x3.length : Int)), (16, .int .i64 x5)] a ∧ Stw ⟨Y, [], w0⟩ [(b3, [.int .i64 x7.1, .int .i64 x7.2.1, .int .i64 x7.2.2.1, .int .i64 x7.2.2.2.1, (v13.2.2.2.2.1.1), .int .i64 x7.2.2.2.2.2.1, .int .i64 x7.2.2.2.2.2.2.1, .int .i64 x7.2.2.2.2.2.2.2]), (b2, [v6, v7]), (b1, [.int .i64 p0.1, v1, v2])] [row v17 45 Dv x11, row v9 78 Is x3, Hl (v13.2.2.2.2.1.1) (Rp.int .i64) x7.2.2.2.2.1, row v6 38 CW x1.1, row v7 91 EZ x1.2] w) ?_ ?_
    ·
     have H := G5
     clear G5 K5
     refine Ai (Ac ?_)
     refine ls F W Aa (Ag Ew Aa Aa Aa T3 F Aa 5 Aa).q fun a w F W => ?_
     refine ls F W Aa (Al (v := Value.int .i64 x7.2.2.2.2.2.1) 0 F Aa Aa T3 Aa).q fun a w F W => ?_
     refine ls F W Aa (BZ F Aa Aa).q fun a w F W => ?_
     refine Ad (Ab ?_)
     refine Ay F Aa (fun hb => ?_) fun hb => ?_
     ·
      have H := AN (Bf hb) H
      rw [hb] at F
      clear hb
      refine Ac ?_
      refine ls F W Aa (Ae F Aa).q fun a w F W => ?_
      refine ls F W Aa (Ag Ew Aa Aa Aa T3 F Aa 0 Aa).q fun a w F W => ?_
      refine ls F W Aa (Al (v := Value.int .i64 x7.1) 0 F Aa Aa T3 Aa).q fun a w F W => ?_
      refine ls F W Aa (BA (v := Value.agg #[.int .i64 2, .int .i64 x7.1]) Oe F Aa Aa Aa).q fun a w F W => ?_
      refine C1 (z := Value.agg #[.int .i64 0, .int .i64 0]) (cs := [.int .i64 2, .int .i64 x7.1]) Dv ([(2, x7.1)] : List (Int × Int)) F W Aa MV OQ Aa Aa Aa Aa Aa Aa (Oj.repL _ _ ([(2, x7.1)] : List (Int × Int))) fun v18 a w F W => ?_
      obtain ⟨x12, h11, H⟩ := Ao H
      refine Cz (r := Dv) (i := 1) F W Aa MV Aa Aa Aa Aa (C7 W 0 Aa) h11 Aa fun v19 a w F W => ?_
      have W : Stw ⟨Y, [], w0⟩ [(b3, [.int .i64 x7.1, .int .i64 x7.2.1, .int .i64 x7.2.2.1, .int .i64 x7.2.2.2.1, (v13.2.2.2.2.1.1), .int .i64 x7.2.2.2.2.2.1, .int .i64 x7.2.2.2.2.2.2.1, .int .i64 x7.2.2.2.2.2.2.2]), (b2, [v6, v7]), (b1, [.int .i64 p0.1, v1, v2])] [row v19 45 Dv x12, row v18 45 Dv ([(2, x7.1)] : List (Int × Int)), row v9 78 Is x3, Hl (v13.2.2.2.2.1.1) (Rp.int .i64) x7.2.2.2.2.1, row v6 38 CW x1.1, row v7 91 EZ x1.2] w := W
      refine ls F W Aa (Ah F Aa).q fun a w F W => ?_
      refine Ad (Ab ?_)
      have W := W.frontZ (i := 5) Aa Aa
      have W := W.frontZ (i := 5) Aa Aa
      have W := W.frontZ (i := 5) Aa Aa
      have W := W.frontZ (i := 5) Aa Aa
      have W := W.frontZ (i := 4) Aa Aa
      have W := W.frontM (i := 2) Aa Aa
      have W := W.frontM (i := 2) Aa Aa
      have W := W.frontM (i := 2) Aa Aa
      have W := W.sub (M' := [(b3, [.int .i64 x7.1, .int .i64 x7.2.1, .int .i64 x7.2.2.1, .int .i64 x7.2.2.2.1, (v13.2.2.2.2.1.1), .int .i64 x7.2.2.2.2.2.1, .int .i64 x7.2.2.2.2.2.2.1, .int .i64 x7.2.2.2.2.2.2.2]), (b2, [v6, v7]), (b1, [.int .i64 p0.1, v1, v2])]) (Z' := [row v19 45 Dv x12, row v9 78 Is x3, Hl (v13.2.2.2.2.1.1) (Rp.int .i64) x7.2.2.2.2.1, row v6 38 CW x1.1, row v7 91 EZ x1.2]) (List.Sublist.refl _) (List.Sublist.cons_cons _ (List.Sublist.cons_cons _ (List.Sublist.cons_cons _ (List.Sublist.cons_cons _ (List.Sublist.cons_cons _ (List.nil_sublist _))))))
      exact ⟨_, (v19), H, F.re ⟨rfl, Aa, Aa, Aa, Aa, Aa, Aa, Aa, Aa, trivial⟩, W⟩
     have H := AM (Bg hb) H
     rw [hb] at F
     clear hb
     refine Aq (Ab ?_)
     have W := W.frontZ (i := 4) Aa Aa
     have W := W.frontZ (i := 4) Aa Aa
     have W := W.frontZ (i := 4) Aa Aa
     have W := W.frontZ (i := 4) Aa Aa
     have W := W.frontZ (i := 4) Aa Aa
     have W := W.frontM (i := 2) Aa Aa
     have W := W.frontM (i := 2) Aa Aa
     have W := W.frontM (i := 2) Aa Aa
     exact ⟨_, (v14), H, F.re ⟨rfl, Aa, Aa, Aa, Aa, Aa, Aa, Aa, Aa, trivial⟩, W⟩
    rintro a w ⟨x11, v17, hj, F, W⟩
    have hj := AW hj
    subst hj
    have H := K5
    clear G5 K5
    obtain ⟨o6, G6, K6⟩ := Ao H
    refine AH (fun a w => ∃ x13 : List (Int × Int), ∃ v20 : Value, some (x13) = some o6 ∧ Fr 83 [] [(1, v3), (3, .pointer (some ⟨b1, 0, none⟩)), (6, .slice none 0 0), (7, v20), (8, .pointer (some ⟨b2, 0, none⟩)), (10, .pointer (some ⟨b3, 0, none⟩)), (14, v9), (15, .int .i64 (x3.length : Int)), (16, .int .i64 x5)] a ∧ Stw ⟨Y, [], w0⟩ [(b3, [.int .i64 x7.1, .int .i64 x7.2.1, .int .i64 x7.2.2.1, .int .i64 x7.2.2.2.1, (v13.2.2.2.2.1.1), .int .i64 x7.2.2.2.2.2.1, .int .i64 x7.2.2.2.2.2.2.1, .int .i64 x7.2.2.2.2.2.2.2]), (b2, [v6, v7]), (b1, [.int .i64 p0.1, v1, v2])] [row v20 45 Dv x13, row v9 78 Is x3, Hl (v13.2.2.2.2.1.1) (Rp.int .i64) x7.2.2.2.2.1, row v6 38 CW x1.1, row v7 91 EZ x1.2] w) ?_ ?_
    ·
     have H := G6
     clear G6 K6
     refine AH (fun a w => Fr 83 [] [(1, v3), (3, .pointer (some ⟨b1, 0, none⟩)), (6, .slice none 0 0), (7, v17), (8, .pointer (some ⟨b2, 0, none⟩)), (10, .pointer (some ⟨b3, 0, none⟩)), (14, v9), (15, .int .i64 (x3.length : Int)), (16, .int .i64 x5), (46, .bool (decide (x7.2.2.2.2.2.1 = 3) && decide (x7.2.2.2.2.2.2.1 ≠ x7.2.2.1)))] a ∧ Stw ⟨Y, [], w0⟩ [(b3, [.int .i64 x7.1, .int .i64 x7.2.1, .int .i64 x7.2.2.1, .int .i64 x7.2.2.2.1, (v13.2.2.2.2.1.1), .int .i64 x7.2.2.2.2.2.1, .int .i64 x7.2.2.2.2.2.2.1, .int .i64 x7.2.2.2.2.2.2.2]), (b2, [v6, v7]), (b1, [.int .i64 p0.1, v1, v2])] [row v17 45 Dv x11, row v9 78 Is x3, Hl (v13.2.2.2.2.1.1) (Rp.int .i64) x7.2.2.2.2.1, row v6 38 CW x1.1, row v7 91 EZ x1.2] w) ?_ ?_
     ·
      refine Ac ?_
      refine ls F W Aa (Ag Ew Aa Aa Aa T3 F Aa 5 Aa).q fun a w F W => ?_
      refine ls F W Aa (Al (v := Value.int .i64 x7.2.2.2.2.2.1) 0 F Aa Aa T3 Aa).q fun a w F W => ?_
      refine ls F W Aa (BZ F Aa Aa).q fun a w F W => ?_
      refine ls F W Aa (Ae F Aa).q fun a w F W => ?_
      rcases Bool.eq_false_or_eq_true (decide (x7.2.2.2.2.2.1 = 3)) with hb0 | hb0
      ·
       rw [hb0] at F
       refine Au F W (Af F Aa Aa Aa Aa) Aa (Ak Aa) (Ag Ew Aa Aa Aa T3 F Aa 6 Aa).q fun a w F W => ?_
       refine Au F W (Af F Aa Aa Aa Aa) Aa (Ak Aa) (Al (v := Value.int .i64 x7.2.2.2.2.2.2.1) 0 F Aa Aa T3 Aa).q fun a w F W => ?_
       refine Au F W (Af F Aa Aa Aa Aa) Aa (Ak Aa) (Ag Ew Aa Aa Aa T3 F Aa 2 Aa).q fun a w F W => ?_
       refine Au F W (Af F Aa Aa Aa Aa) Aa (Ak Aa) (Al (v := Value.int .i64 x7.2.2.1) 0 F Aa Aa T3 Aa).q fun a w F W => ?_
       refine Au F W (Af F Aa Aa Aa Aa) Aa (Ak Aa) (Fd F Aa Aa).q fun a w F W => ?_
       refine ls F W Aa (An F Aa Aa Aa).q fun a w F W => ?_
       refine Ad (Ab ?_)
       exact ⟨F.re ⟨rfl, Aa, Aa, Aa, Aa, Aa, Aa, Aa, Aa, (by show some (Value.bool (decide (x7.2.2.2.2.2.2.1 ≠ x7.2.2.1))) = some (Value.bool (decide (x7.2.2.2.2.2.1 = 3) && decide (x7.2.2.2.2.2.2.1 ≠ x7.2.2.1))); try rw [hb0]; all_goals simp only [Bool.not_true, Bool.not_false, Bool.true_and, Bool.false_and, Bool.true_or, Bool.false_or, Bool.and_true, Bool.or_false, cond_true, cond_false]), trivial⟩, W⟩
      rw [hb0] at F
      iterate 5 refine BW F Aa Aa Aa Aa Aa Aa Aa fun a F => ?_
      refine ls F W Aa (As F Aa Aa Aa).q fun a w F W => ?_
      refine Ad (Ab ?_)
      exact ⟨F.re ⟨rfl, Aa, Aa, Aa, Aa, Aa, Aa, Aa, Aa, (by show some (Value.bool false) = some (Value.bool (decide (x7.2.2.2.2.2.1 = 3) && decide (x7.2.2.2.2.2.2.1 ≠ x7.2.2.1))); try rw [hb0]; all_goals simp only [Bool.not_true, Bool.not_false, Bool.true_and, Bool.false_and, Bool.true_or, Bool.false_or, Bool.and_true, Bool.or_false, cond_true, cond_false]), trivial⟩, W⟩
     rintro a w ⟨F, W⟩
     refine Ay F Aa (fun hb => ?_) fun hb => ?_
     ·
      have H := AN hb H
      rw [hb] at F
      clear hb
      refine Ac ?_
      refine ls F W Aa (Ae F Aa).q fun a w F W => ?_
      refine ls F W Aa (Ag Ew Aa Aa Aa T3 F Aa 0 Aa).q fun a w F W => ?_
      refine ls F W Aa (Al (v := Value.int .i64 x7.1) 0 F Aa Aa T3 Aa).q fun a w F W => ?_
      refine ls F W Aa (BA (v := Value.agg #[.int .i64 3, .int .i64 x7.1]) Oe F Aa Aa Aa).q fun a w F W => ?_
      refine C1 (z := Value.agg #[.int .i64 0, .int .i64 0]) (cs := [.int .i64 3, .int .i64 x7.1]) Dv ([(3, x7.1)] : List (Int × Int)) F W Aa MV OQ Aa Aa Aa Aa Aa Aa (Oj.repL _ _ ([(3, x7.1)] : List (Int × Int))) fun v21 a w F W => ?_
      obtain ⟨x14, h12, H⟩ := Ao H
      refine Cz (r := Dv) (i := 1) F W Aa MV Aa Aa Aa Aa (C7 W 0 Aa) h12 Aa fun v22 a w F W => ?_
      have W : Stw ⟨Y, [], w0⟩ [(b3, [.int .i64 x7.1, .int .i64 x7.2.1, .int .i64 x7.2.2.1, .int .i64 x7.2.2.2.1, (v13.2.2.2.2.1.1), .int .i64 x7.2.2.2.2.2.1, .int .i64 x7.2.2.2.2.2.2.1, .int .i64 x7.2.2.2.2.2.2.2]), (b2, [v6, v7]), (b1, [.int .i64 p0.1, v1, v2])] [row v22 45 Dv x14, row v21 45 Dv ([(3, x7.1)] : List (Int × Int)), row v9 78 Is x3, Hl (v13.2.2.2.2.1.1) (Rp.int .i64) x7.2.2.2.2.1, row v6 38 CW x1.1, row v7 91 EZ x1.2] w := W
      refine ls F W Aa (Ah F Aa).q fun a w F W => ?_
      refine Ad (Ab ?_)
      have W := W.frontZ (i := 5) Aa Aa
      have W := W.frontZ (i := 5) Aa Aa
      have W := W.frontZ (i := 5) Aa Aa
      have W := W.frontZ (i := 5) Aa Aa
      have W := W.frontZ (i := 4) Aa Aa
      have W := W.frontM (i := 2) Aa Aa
      have W := W.frontM (i := 2) Aa Aa
      have W := W.frontM (i := 2) Aa Aa
      have W := W.sub (M' := [(b3, [.int .i64 x7.1, .int .i64 x7.2.1, .int .i64 x7.2.2.1, .int .i64 x7.2.2.2.1, (v13.2.2.2.2.1.1), .int .i64 x7.2.2.2.2.2.1, .int .i64 x7.2.2.2.2.2.2.1, .int .i64 x7.2.2.2.2.2.2.2]), (b2, [v6, v7]), (b1, [.int .i64 p0.1, v1, v2])]) (Z' := [row v22 45 Dv x14, row v9 78 Is x3, Hl (v13.2.2.2.2.1.1) (Rp.int .i64) x7.2.2.2.2.1, row v6 38 CW x1.1, row v7 91 EZ x1.2]) (List.Sublist.refl _) (List.Sublist.cons_cons _ (List.Sublist.cons_cons _ (List.Sublist.cons_cons _ (List.Sublist.cons_cons _ (List.Sublist.cons_cons _ (List.nil_sublist _))))))
      exact ⟨_, (v22), H, F.re ⟨rfl, Aa, Aa, Aa, Aa, Aa, Aa, Aa, Aa, trivial⟩, W⟩
     have H := AM (by rw [hb]; decide) H
     rw [hb] at F
     clear hb
     refine Aq (Ab ?_)
     have W := W.frontZ (i := 4) Aa Aa
     have W := W.frontZ (i := 4) Aa Aa
     have W := W.frontZ (i := 4) Aa Aa
     have W := W.frontZ (i := 4) Aa Aa
     have W := W.frontZ (i := 4) Aa Aa
     have W := W.frontM (i := 2) Aa Aa
     have W := W.frontM (i := 2) Aa Aa
     have W := W.frontM (i := 2) Aa Aa
     exact ⟨_, (v17), H, F.re ⟨rfl, Aa, Aa, Aa, Aa, Aa, Aa, Aa, Aa, trivial⟩, W⟩
    rintro a w ⟨x13, v20, hj, F, W⟩
    have hj := AW hj
    subst hj
    have H := K6
    clear G6 K6
    obtain ⟨o7, G7, K7⟩ := Ao H
    refine AH (fun a w => ∃ x15 : Bool, some (x15) = some o7 ∧ Fr 83 [] [(1, v3), (3, .pointer (some ⟨b1, 0, none⟩)), (6, .slice none 0 0), (7, v20), (8, .pointer (some ⟨b2, 0, none⟩)), (10, .pointer (some ⟨b3, 0, none⟩)), (14, v9), (15, .int .i64 (x3.length : Int)), (16, .int .i64 x5), (74, .bool x15)] a ∧ Stw ⟨Y, [], w0⟩ [(b3, [.int .i64 x7.1, .int .i64 x7.2.1, .int .i64 x7.2.2.1, .int .i64 x7.2.2.2.1, (v13.2.2.2.2.1.1), .int .i64 x7.2.2.2.2.2.1, .int .i64 x7.2.2.2.2.2.2.1, .int .i64 x7.2.2.2.2.2.2.2]), (b2, [v6, v7]), (b1, [.int .i64 p0.1, v1, v2])] [row v20 45 Dv x13, row v9 78 Is x3, Hl (v13.2.2.2.2.1.1) (Rp.int .i64) x7.2.2.2.2.1, row v6 38 CW x1.1, row v7 91 EZ x1.2] w) ?_ ?_
    ·
     have H := G7
     clear G7 K7
     refine Cv W MO (by kernel_rfl) ?_
     refine qs F Aa (Ag Ew Aa Aa Aa FZ F Aa 4 Aa).q fun a F => ?_
     refine qs F Aa (Al (v := (v13.2.2.2.2.1.1)) 0 F Aa Aa FZ Aa).q fun a F => ?_
     refine qs F Aa (A7 (r := (Rp.int .i64)) (l := x7.2.2.2.2.1) Fq Aa F Aa (JF 2 Aa)).q fun a F => ?_
     refine qs F Aa (Fa F Aa Aa).q fun a F => ?_
     refine qs F Aa (Ae F Aa).q fun a F => ?_
     rcases Bool.eq_false_or_eq_true (decide (0 < (x7.2.2.2.2.1.length : Int))) with hb | hb
     ·
      have H := AN (Bf hb) H
      rw [hb] at F
      clear hb
      refine D8 F (Af F Aa Aa Aa Aa) Aa (Ak Aa) (Al (v := Value.agg #[v6, v7]) 1 F Aa Aa NO Aa).q fun a F => ?_
      refine D8 F (Af F Aa Aa Aa Aa) Aa (Ak Aa) (Ag Ew Aa Aa Aa T3 F Aa 3 Aa).q fun a F => ?_
      refine D8 F (Af F Aa Aa Aa Aa) Aa (Ak Aa) (Al (v := Value.int .i64 x7.2.2.2.1) 0 F Aa Aa T3 Aa).q fun a F => ?_
      obtain ⟨x16, h13, H⟩ := Ao H
      refine D8 F (Af F Aa Aa Aa Aa) Aa (Ak Aa) (BI (v := Value.bool x16) F Qg Aa (fun w W => E9 any w (v6) (v7) x1 x7.2.2.2.1 _ h13 (((AP 3 Aa) : CZ _ _ _ _ _ _) w W).nx (((AP 4 Aa) : CZ _ _ _ _ _ _) w W).nx)) fun a F => ?_
      refine D8 F (Af F Aa Aa Aa Aa) Aa (Ak Aa) (EJ F Aa).q fun a F => ?_
      refine qs F Aa (An F Aa Aa Aa).q fun a F => ?_
      refine qs F Aa (Ae F Aa).q fun a F => ?_
      rcases Bool.eq_false_or_eq_true (!x16) with hb | hb
      ·
       have H := AN hb H
       rw [hb] at F
       clear hb
       refine D8 F (Af F Aa Aa Aa Aa) Aa (Ak Aa) (Al (v := Value.agg #[.int .i64 p0.1, v1, v2]) 2 F Aa Aa G0 Aa).q fun a F => ?_
       refine D8 F (Af F Aa Aa Aa Aa) Aa (Ak Aa) (Ae F Aa).q fun a F => ?_
       refine D8 F (Af F Aa Aa Aa Aa) Aa (Ak Aa) (Al (v := Value.agg #[v6, v7]) 1 F Aa Aa NO Aa).q fun a F => ?_
       refine D8 F (Af F Aa Aa Aa Aa) Aa (Ak Aa) (Ag Ew Aa Aa Aa T3 F Aa 3 Aa).q fun a F => ?_
       refine D8 F (Af F Aa Aa Aa Aa) Aa (Ak Aa) (Al (v := Value.int .i64 x7.2.2.2.1) 0 F Aa Aa T3 Aa).q fun a F => ?_
       obtain ⟨x17, h14, H⟩ := Ao H
       refine D8 F (Af F Aa Aa Aa Aa) Aa (Ak Aa) (BI (v := Value.int .i64 x17) F Qt Aa (fun w W => FE any w (v6) (v7) x1 x7.2.2.2.1 _ h14 (((AP 3 Aa) : CZ _ _ _ _ _ _) w W).nx (((AP 4 Aa) : CZ _ _ _ _ _ _) w W).nx)) fun a F => ?_
       refine D8 F (Af F Aa Aa Aa Aa) Aa (Ak Aa) (Al (v := Value.agg #[.int .i64 x7.1, .int .i64 x7.2.1, .int .i64 x7.2.2.1, .int .i64 x7.2.2.2.1, (v13.2.2.2.2.1.1), .int .i64 x7.2.2.2.2.2.1, .int .i64 x7.2.2.2.2.2.2.1, .int .i64 x7.2.2.2.2.2.2.2]) 0 F Aa Aa ON Aa).q fun a F => ?_
       obtain ⟨x18, h15, H⟩ := Ao H
       refine D8 F (Af F Aa Aa Aa Aa) Aa (Ak Aa) (BI (v := Value.bool x18) F PN Aa (fun w W => HR any w (v1) (v2) (v3) ((v13.2.2.2.2.1.1)) p0 p1 x17 x7 _ h15 (((Aj h_v1) : CZ _ _ _ _ _ _) w W).nx (((Aj h_v2) : CZ _ _ _ _ _ _) w W).nx (((Bx Nt h1 (Aj h_v3)) : CZ _ _ _ _ _ _) w W).nx (((JF 2 Aa) : CZ _ _ _ _ _ _) w W).nx)) fun a F => ?_
       refine D8 F (Af F Aa Aa Aa Aa) Aa (Ak Aa) (EJ F Aa).q fun a F => ?_
       refine qs F Aa (An F Aa Aa Aa).q fun a F => ?_
       refine BK fun w W => ?_
       refine Ab ?_
       have W := W.frontZ (i := 4) Aa Aa
       have W := W.frontZ (i := 4) Aa Aa
       have W := W.frontZ (i := 4) Aa Aa
       have W := W.frontZ (i := 4) Aa Aa
       have W := W.frontZ (i := 4) Aa Aa
       have W := W.frontM (i := 2) Aa Aa
       have W := W.frontM (i := 2) Aa Aa
       have W := W.frontM (i := 2) Aa Aa
       exact ⟨_, H, F.re ⟨rfl, Aa, Aa, Aa, Aa, Aa, Aa, Aa, Aa, Aa, trivial⟩, W⟩
      have H := AM (by rw [hb]; decide) H
      rw [hb] at F
      clear hb
      iterate 9 refine HZ F (EW F Aa Aa Aa Aa Aa) Aa Aa fun a F => ?_
      refine qs F Aa (As F Aa Aa Aa).q fun a F => ?_
      refine BK fun w W => ?_
      refine Ab ?_
      have W := W.frontZ (i := 4) Aa Aa
      have W := W.frontZ (i := 4) Aa Aa
      have W := W.frontZ (i := 4) Aa Aa
      have W := W.frontZ (i := 4) Aa Aa
      have W := W.frontZ (i := 4) Aa Aa
      have W := W.frontM (i := 2) Aa Aa
      have W := W.frontM (i := 2) Aa Aa
      have W := W.frontM (i := 2) Aa Aa
      exact ⟨_, H, F.re ⟨rfl, Aa, Aa, Aa, Aa, Aa, Aa, Aa, Aa, Aa, trivial⟩, W⟩
     have H := AM (Bg hb) H
     rw [hb] at F
     clear hb
     iterate 5 refine HZ F (EW F Aa Aa Aa Aa Aa) Aa Aa fun a F => ?_
     refine qs F Aa (As F Aa Aa Aa).q fun a F => ?_
     refine qs F Aa (Ae F Aa).q fun a F => ?_
     iterate 9 refine HZ F (EW F Aa Aa Aa Aa Aa) Aa Aa fun a F => ?_
     refine qs F Aa (As F Aa Aa Aa).q fun a F => ?_
     refine BK fun w W => ?_
     refine Ab ?_
     have W := W.frontZ (i := 4) Aa Aa
     have W := W.frontZ (i := 4) Aa Aa
     have W := W.frontZ (i := 4) Aa Aa
     have W := W.frontZ (i := 4) Aa Aa
     have W := W.frontZ (i := 4) Aa Aa
     have W := W.frontM (i := 2) Aa Aa
     have W := W.frontM (i := 2) Aa Aa
     have W := W.frontM (i := 2) Aa Aa
     exact ⟨_, H, F.re ⟨rfl, Aa, Aa, Aa, Aa, Aa, Aa, Aa, Aa, Aa, trivial⟩, W⟩
    rintro a w ⟨x15, hj, F, W⟩
    have hj := AW hj
    subst hj
    have H := K7
    clear G7 K7
    refine Ay F Aa (fun hb => ?_) fun hb => ?_
    ·
     have H := AN hb H
     rw [hb] at F
     clear hb
     refine Ac ?_
     refine ls F W Aa (Ae F Aa).q fun a w F W => ?_
     refine ls F W Aa (Ag Ew Aa Aa Aa T3 F Aa 0 Aa).q fun a w F W => ?_
     refine ls F W Aa (Al (v := Value.int .i64 x7.1) 0 F Aa Aa T3 Aa).q fun a w F W => ?_
     refine ls F W Aa (BA (v := Value.agg #[.int .i64 4, .int .i64 x7.1]) Oe F Aa Aa Aa).q fun a w F W => ?_
     refine C1 (z := Value.agg #[.int .i64 0, .int .i64 0]) (cs := [.int .i64 4, .int .i64 x7.1]) Dv ([(4, x7.1)] : List (Int × Int)) F W Aa MV OQ Aa Aa Aa Aa Aa Aa (Oj.repL _ _ ([(4, x7.1)] : List (Int × Int))) fun v23 a w F W => ?_
     obtain ⟨x19, h16, H⟩ := Ao H
     refine Cz (r := Dv) (i := 1) F W Aa MV Aa Aa Aa Aa (C7 W 0 Aa) h16 Aa fun v24 a w F W => ?_
     have W : Stw ⟨Y, [], w0⟩ [(b3, [.int .i64 x7.1, .int .i64 x7.2.1, .int .i64 x7.2.2.1, .int .i64 x7.2.2.2.1, (v13.2.2.2.2.1.1), .int .i64 x7.2.2.2.2.2.1, .int .i64 x7.2.2.2.2.2.2.1, .int .i64 x7.2.2.2.2.2.2.2]), (b2, [v6, v7]), (b1, [.int .i64 p0.1, v1, v2])] [row v24 45 Dv x19, row v23 45 Dv ([(4, x7.1)] : List (Int × Int)), row v9 78 Is x3, Hl (v13.2.2.2.2.1.1) (Rp.int .i64) x7.2.2.2.2.1, row v6 38 CW x1.1, row v7 91 EZ x1.2] w := W
     refine ls F W Aa (Ah F Aa).q fun a w F W => ?_
     refine Ad (AK (Ab ?_))
     have W := W.frontZ (i := 5) Aa Aa
     have W := W.frontZ (i := 5) Aa Aa
     have W := W.frontZ (i := 4) Aa Aa
     have W := W.frontZ (i := 3) Aa Aa
     have W := W.frontM (i := 2) Aa Aa
     have W := W.frontM (i := 2) Aa Aa
     have W := W.sub (M' := [(b2, [v6, v7]), (b1, [.int .i64 p0.1, v1, v2])]) (Z' := [row v24 45 Dv x19, row v9 78 Is x3, row v6 38 CW x1.1, row v7 91 EZ x1.2]) (List.Sublist.cons_cons _ (List.Sublist.cons_cons _ (List.nil_sublist _))) (List.Sublist.cons_cons _ (List.Sublist.cons_cons _ (List.Sublist.cons_cons _ (List.Sublist.cons_cons _ (List.nil_sublist _)))))
     exact ⟨_, (v24), H, F.re ⟨rfl, Aa, Aa, Aa, Aa, Aa, Aa, Aa, trivial⟩, W⟩
    have H := AM (by rw [hb]; decide) H
    rw [hb] at F
    clear hb
    refine Aq (AK (Ab ?_))
    have W := W.frontZ (i := 4) Aa Aa
    have W := W.frontZ (i := 4) Aa Aa
    have W := W.frontZ (i := 3) Aa Aa
    have W := W.frontZ (i := 3) Aa Aa
    have W := W.frontM (i := 2) Aa Aa
    have W := W.frontM (i := 2) Aa Aa
    have W := W.sub (M' := [(b2, [v6, v7]), (b1, [.int .i64 p0.1, v1, v2])]) (Z' := [row v20 45 Dv x13, row v9 78 Is x3, row v6 38 CW x1.1, row v7 91 EZ x1.2]) (List.Sublist.cons_cons _ (List.Sublist.cons_cons _ (List.nil_sublist _))) (List.Sublist.cons_cons _ (List.Sublist.cons_cons _ (List.Sublist.cons_cons _ (List.Sublist.cons_cons _ (List.nil_sublist _)))))
    exact ⟨_, (v20), H, F.re ⟨rfl, Aa, Aa, Aa, Aa, Aa, Aa, Aa, trivial⟩, W⟩
   rintro a w ⟨x6, v11, hj, F, W⟩
   have hj := AW hj
   subst hj
   have H := K3
   clear G3 K3
   refine Ac ?_
   refine ls F W Aa (Cq F Aa Aa Aa).q fun a w F W => ?_
   refine ls F W Aa (Ae F Aa).q fun a w F W => ?_
   refine Ad (Ab ?_)
   have W := W.frontZ (i := 3) Aa Aa
   have W := W.frontZ (i := 3) Aa Aa
   have W := W.frontZ (i := 3) Aa Aa
   have W := W.frontZ (i := 3) Aa Aa
   have W := W.frontM (i := 1) Aa Aa
   have W := W.frontM (i := 1) Aa Aa
   exact ⟨_, H, (v11), F.re ⟨rfl, Aa, Aa, Aa, Aa, Aa, Aa, Aa, trivial⟩, W⟩
  have H := AM (Bg hb) H
  rw [hb] at F
  clear hb
  refine Bk ?_
  iterate 2 refine BJ ?_
  refine Bl (Ab ?_)
  have W := W.frontZ (i := 3) Aa Aa
  have W := W.frontZ (i := 3) Aa Aa
  have W := W.frontZ (i := 2) Aa Aa
  have W := W.frontM (i := 1) Aa Aa
  have W := W.frontM (i := 1) Aa Aa
  have W := W.sub (M' := [(b2, [v6, v7]), (b1, [.int .i64 p0.1, v1, v2])]) (Z' := [row v10 45 Dv x4, row v6 38 CW x1.1, row v7 91 EZ x1.2]) (List.Sublist.refl _) (List.Sublist.cons_cons _ (List.Sublist.cons_cons _ (List.Sublist.cons_cons _ (List.nil_sublist _))))
  have H := L2 _ H
  exact ⟨_, (v10), H, F.re ⟨rfl, Aa, trivial⟩, W⟩
 rintro a w ⟨x2, v8, hj, F, W⟩
 have hj := AW hj
 subst hj
 have H := K1
 clear G1 K1
 refine Ai (Ac ?_)
 refine ls F W Aa (Ae F Aa).q fun a w F W => ?_
 refine ls F W Aa (Ah F Aa).q fun a w F W => ?_
 refine Ad (Ab (AA ?_))
 have H := AW H
 subst H
 refine A8 (.inl Aa) F W Aa (Ap F Aa) ?_
 have W := W.sub (M' := []) (Z' := [row v8 45 Dv x2]) (List.nil_sublist _) (List.Sublist.cons_cons _ (List.nil_sublist _))
 exact ⟨(v8), Aa, W⟩
theorem OK : Has Try.prog 17 := ⟨fun args w => Am Try.func17 rfl (by decide) args w⟩
theorem Pp : Ty Try.prog 45 true 2 := ⟨by kernel_rfl, by kernel_rfl⟩
theorem Pd (dd : Nat) (x0 : Int) (x1 : Int) (y0 : Int) (y1 : Int) (w : World) : (Op.equalIn (dd + 2) 45 (.agg #[.int .i64 x0, .int .i64 x1]) (.agg #[.int .i64 y0, .int .i64 y1])).run Try.prog w = .ok (decide (x0 = y0 ∧ x1 = y1)) w :=
  Hn (d := dd + 1) (rs := [decide (x0 = y0), decide (x1 = y1)]) OG (by kernel_rfl) ⟨rfl, Gl (d := dd + 0) rfl rfl Nn T3 rfl rfl, rfl, Gl (d := dd + 0) rfl rfl Nn T3 rfl rfl, trivial⟩ (by simp) w
theorem Pl : Try.prog.eqGuardType Try.prog.depth 45 = false := by kernel_rfl
theorem Pq (x0 : Int) (x1 : Int) (y0 : Int) (y1 : Int) (w : World) : (Op.equalIn 10000 45 (.agg #[.int .i64 x0, .int .i64 x1]) (.agg #[.int .i64 y0, .int .i64 y1])).run Try.prog w = .ok (decide (x0 = y0 ∧ x1 = y1)) w := Pd 9998 x0 x1 y0 y1 w
def Eg (p0 : Int) : List UInt8 := (if p0 = 1 then ([116, 119, 105, 99, 101] : List UInt8) else (if p0 = 2 then ([108, 111, 115, 116] : List UInt8) else (if p0 = 3 then ([97, 115, 116, 114, 97, 121] : List UInt8) else (if p0 = 4 then ([111, 116, 104, 101, 114] : List UInt8) else ([63] : List UInt8)))))
theorem JC (Y : Nat → Prop) (w0 : World)  (p0 : Int) (r : List UInt8) (H : Eg p0 = r)  :
    Calls Try.prog 15 #[.int .i64 p0] w0 fun e w' => e = .returned (.string (bs r)) ∧ Below w0.heap.size w0 w' := by
 refine enter Try.func15 Aa Try.ntmps15 Aa fun a F => ?_
 have W := Stw.start Y w0
 unfold Eg at H
 refine Ai (Ac ?_)
 refine ls F W Aa (Ah (v := Value.string (bs ([] : List UInt8))) F Aa).q fun a w F W => ?_
 refine Ad (Ab (Ai (Ai (Ac ?_))))
 refine ls F W Aa (Ae F Aa).q fun a w F W => ?_
 refine Ad (Ab (Aw (Ai (Ac ?_))))
 refine ls F W Aa (BZ F Aa Aa).q fun a w F W => ?_
 refine ls F W Aa (Ah F Aa).q fun a w F W => ?_
 refine Ad (Ab ?_)
 refine Ay F Aa (fun hb => ?_) fun hb => ?_
 ·
  have H := AN (Bf hb) H
  rw [hb] at F
  clear hb
  refine Ai (Ac ?_)
  refine ls F W Aa (Ah (v := Value.string (bs ([116, 119, 105, 99, 101] : List UInt8))) F Aa).q fun a w F W => ?_
  refine Ad (Ab (AA (AF (AD ?_))))
  subst H
  refine A8 (.inl Aa) F W Aa (Ap F Aa) ?_
  exact ⟨rfl, W.done⟩
 have H := AM (Bg hb) H
 rw [hb] at F
 clear hb
 refine Ai (Ac ?_)
 refine ls F W Aa (BZ F Aa Aa).q fun a w F W => ?_
 refine ls F W Aa (Ah F Aa).q fun a w F W => ?_
 refine Ad (Ab ?_)
 refine Ay F Aa (fun hb => ?_) fun hb => ?_
 ·
  have H := AN (Bf hb) H
  rw [hb] at F
  clear hb
  refine Ai (Ac ?_)
  refine ls F W Aa (Ah (v := Value.string (bs ([108, 111, 115, 116] : List UInt8))) F Aa).q fun a w F W => ?_
  refine Ad (Ab (AA (AF (AD ?_))))
  subst H
  refine A8 (.inl Aa) F W Aa (Ap F Aa) ?_
  exact ⟨rfl, W.done⟩
 have H := AM (Bg hb) H
 rw [hb] at F
 clear hb
 refine Ai (Ac ?_)
 refine ls F W Aa (BZ F Aa Aa).q fun a w F W => ?_
 refine ls F W Aa (Ah F Aa).q fun a w F W => ?_
 refine Ad (Ab ?_)
 refine Ay F Aa (fun hb => ?_) fun hb => ?_
 ·
  have H := AN (Bf hb) H
  rw [hb] at F
  clear hb
  refine Ai (Ac ?_)
  refine ls F W Aa (Ah (v := Value.string (bs ([97, 115, 116, 114, 97, 121] : List UInt8))) F Aa).q fun a w F W => ?_
  refine Ad (Ab (AA (AF (AD ?_))))
  subst H
  refine A8 (.inl Aa) F W Aa (Ap F Aa) ?_
  exact ⟨rfl, W.done⟩
 have H := AM (Bg hb) H
 rw [hb] at F
 clear hb
 refine Ai (Ac ?_)
 refine ls F W Aa (BZ F Aa Aa).q fun a w F W => ?_
 refine ls F W Aa (Ah F Aa).q fun a w F W => ?_
 refine Ad (Ab ?_)
 refine Ay F Aa (fun hb => ?_) fun hb => ?_
 ·
  have H := AN (Bf hb) H
  rw [hb] at F
  clear hb
  refine Ai (Ac ?_)
  refine ls F W Aa (Ah (v := Value.string (bs ([111, 116, 104, 101, 114] : List UInt8))) F Aa).q fun a w F W => ?_
  refine Ad (Ab (AA (AF (AD ?_))))
  subst H
  refine A8 (.inl Aa) F W Aa (Ap F Aa) ?_
  exact ⟨rfl, W.done⟩
 have H := AM (Bg hb) H
 rw [hb] at F
 clear hb
 refine Aq (AK (Ab (Ai (Ac ?_))))
 refine ls F W Aa (Ah (v := Value.string (bs ([63] : List UInt8))) F Aa).q fun a w F W => ?_
 refine Ad (Ab (AA ?_))
 subst H
 refine A8 (.inl Aa) F W Aa (Ap F Aa) ?_
 exact ⟨rfl, W.done⟩
theorem QA : Has Try.prog 15 := ⟨fun args w => Am Try.func15 rfl (by decide) args w⟩
noncomputable def DP  : Option Bool := (BN (1, ([] : List (Int × Int × Int × Int × Int × Int)), ([(0, 3)] : List (Int × Int))) ([([([3] : List Int)] : List (List Int))] : List (List (List Int))) ([(1, 0, 4, 0, 0, 0), (4, 0, 4, 0, 0, 0)] : List (Int × Int × Int × Int × Int × Int))).bind fun x1 => ((BN (1, ([] : List (Int × Int × Int × Int × Int × Int)), ([(0, 3)] : List (Int × Int))) ([([([3] : List Int)] : List (List Int))] : List (List (List Int))) ([(1, 0, 0, 0, 0, 0), (2, 0, 0, 0, 0, 0), (3, 0, 0, 0, 0, 0)] : List (Int × Int × Int × Int × Int × Int))).bind fun x3 => (if (x3.length : Int) = 0 then (if (x1.length : Int) = 1 then (ix x1 0).bind fun x4 => (if x4.1 = 2 ∧ x4.2 = 4 then some (decide ((Eg 2) = ([108, 111, 115, 116] : List UInt8))) else some false) else some false) else some false)).bind fun x2 => some x2
theorem F4 (Y : Nat → Prop) (w0 : World)   (r : Bool) (H : DP  = some r)  :
    Calls Try.prog 8 #[] w0 fun e w' => e = .returned (.bool r) ∧ Below w0.heap.size w0 w' := by
 refine enter Try.func8 Aa Try.ntmps8 Aa fun a F => ?_
 have W := Stw.start Y w0
 unfold DP at H
 refine Ai (Ac ?_)
 refine ls F W Aa (Ah F Aa).q fun a w F W => ?_
 refine Ad (Ab (Ai (Ac ?_)))
 refine ls F W Aa (BA (v := Value.agg #[.int .i64 0, .int .i64 3]) Pn F Aa Aa Aa).q fun a w F W => ?_
 refine C1 (z := Value.agg #[.int .i64 0, .int .i64 0]) (cs := [.int .i64 0, .int .i64 3]) Ec ([(0, 3)] : List (Int × Int)) F W Aa Nd Po Aa Aa Aa Aa Aa Aa (Nm.repL _ _ ([(0, 3)] : List (Int × Int))) fun v1 a w F W => ?_
 refine ls F W Aa (BA (v := Value.agg #[.int .i64 1, .slice none 0 0, v1]) P4 F Aa (Ds Aa Aa Aa (Ds Aa (CG (W.one (k := 0) Aa)) Aa Es)) Aa).q fun a w F W => ?_
 refine B1 (cs := [.int .i64 0, .slice none 0 0, .slice none 0 0]) F W Aa PX Aa fun b1 a w F W => ?_
 refine BM (vs := [.int .i64 1, .slice none 0 0, v1]) (M' := [(b1, [.int .i64 1, .slice none 0 0, v1])]) 0 F W Aa Aa Aa G0 Aa Aa Aa (Bz Aa (Bz Aa (Bz (W.one (k := 0) Aa) Gk))) Aa fun w W => ?_
 refine Ad (Ab (Ai (Ac ?_)))
 refine C1 (z := Value.int .i64 0) (cs := [.int .i64 3]) (Rp.int .i64) ([3] : List Int) F W Aa HV Z3 Aa Aa Aa Aa Aa Aa (Fl.int.repL _ _ ([3] : List Int)) fun v2 a w F W => ?_
 have W := W.freeze
 refine C1 (z := Value.slice none 0 0) (cs := [v2]) (Rp.slice (Rp.int .i64)) ([([3] : List Int)] : List (List Int)) F W Aa Lw PP Aa Aa Aa (Ds Aa (CG (W.oneF (k := 0) Aa)) Aa Es) Aa Aa ⟨[v2], _, Aa, ⟨_, Aa, (W.item (i := 0) Aa)⟩, Aa⟩ fun v3 a w F W => ?_
 have W := W.freeze
 refine C1 (z := Value.slice none 0 0) (cs := [v3]) (Rp.slice (Rp.slice (Rp.int .i64))) ([([([3] : List Int)] : List (List Int))] : List (List (List Int))) F W Aa Ol OM Aa Aa Aa (Ds Aa (CG (W.oneF (k := 0) Aa)) Aa Es) Aa Aa ⟨[v3], _, Aa, ⟨_, Aa, (W.item (i := 0) Aa)⟩, Aa⟩ fun v4 a w F W => ?_
 refine ls F W Aa (Ah F Aa).q fun a w F W => ?_
 refine Ad (Ab (Ai (Ac ?_)))
 refine ls F W Aa (BA (v := Value.agg #[.int .i64 1, .int .i64 0, .int .i64 0, .int .i64 0, .int .i64 0, .int .i64 0]) NH F Aa Aa Aa).q fun a w F W => ?_
 refine ls F W Aa (BA (v := Value.agg #[.int .i64 2, .int .i64 0, .int .i64 0, .int .i64 0, .int .i64 0, .int .i64 0]) NH F Aa Aa Aa).q fun a w F W => ?_
 refine ls F W Aa (BA (v := Value.agg #[.int .i64 3, .int .i64 0, .int .i64 0, .int .i64 0, .int .i64 0, .int .i64 0]) NH F Aa Aa Aa).q fun a w F W => ?_
 refine C1 (z := Value.agg #[.int .i64 0, .int .i64 0, .int .i64 0, .int .i64 0, .int .i64 0, .int .i64 0]) (cs := [.int .i64 1, .int .i64 0, .int .i64 0, .int .i64 0, .int .i64 0, .int .i64 0, .int .i64 2, .int .i64 0, .int .i64 0, .int .i64 0, .int .i64 0, .int .i64 0, .int .i64 3, .int .i64 0, .int .i64 0, .int .i64 0, .int .i64 0, .int .i64 0]) DB ([(1, 0, 0, 0, 0, 0), (2, 0, 0, 0, 0, 0), (3, 0, 0, 0, 0, 0)] : List (Int × Int × Int × Int × Int × Int)) F W Aa KY NC Aa Aa Aa Aa Aa Aa (MG.repL _ _ ([(1, 0, 0, 0, 0, 0), (2, 0, 0, 0, 0, 0), (3, 0, 0, 0, 0, 0)] : List (Int × Int × Int × Int × Int × Int))) fun v5 a w F W => ?_
 refine ls F W Aa (Ah F Aa).q fun a w F W => ?_
 refine Ad (Ab (Ai (Ac ?_)))
 refine ls F W Aa (Al (v := Value.agg #[.int .i64 1, .slice none 0 0, v1]) 0 F Aa Aa G0 Aa).q fun a w F W => ?_
 refine ls F W Aa (Ae F Aa).q fun a w F W => ?_
 refine ls F W Aa (BA (v := Value.agg #[.int .i64 1, .int .i64 0, .int .i64 4, .int .i64 0, .int .i64 0, .int .i64 0]) NH F Aa Aa Aa).q fun a w F W => ?_
 refine ls F W Aa (BA (v := Value.agg #[.int .i64 4, .int .i64 0, .int .i64 4, .int .i64 0, .int .i64 0, .int .i64 0]) NH F Aa Aa Aa).q fun a w F W => ?_
 refine C1 (z := Value.agg #[.int .i64 0, .int .i64 0, .int .i64 0, .int .i64 0, .int .i64 0, .int .i64 0]) (cs := [.int .i64 1, .int .i64 0, .int .i64 4, .int .i64 0, .int .i64 0, .int .i64 0, .int .i64 4, .int .i64 0, .int .i64 4, .int .i64 0, .int .i64 0, .int .i64 0]) DB ([(1, 0, 4, 0, 0, 0), (4, 0, 4, 0, 0, 0)] : List (Int × Int × Int × Int × Int × Int)) F W Aa KY NC Aa Aa Aa Aa Aa Aa (MG.repL _ _ ([(1, 0, 4, 0, 0, 0), (4, 0, 4, 0, 0, 0)] : List (Int × Int × Int × Int × Int × Int))) fun v6 a w F W => ?_
 obtain ⟨x1, h1, H⟩ := Ao H
 refine Cf (Ml := []) (Zl := []) (M := [(b1, [.int .i64 1, .slice none 0 0, v1])]) (Z := [row v6 48 DB ([(1, 0, 4, 0, 0, 0), (4, 0, 4, 0, 0, 0)] : List (Int × Int × Int × Int × Int × Int)), row v5 48 DB ([(1, 0, 0, 0, 0, 0), (2, 0, 0, 0, 0, 0), (3, 0, 0, 0, 0, 0)] : List (Int × Int × Int × Int × Int × Int)), row v4 52 (Rp.slice (Rp.slice (Rp.int .i64))) ([([([3] : List Int)] : List (List Int))] : List (List (List Int))), Hl v3 (Rp.slice (Rp.int .i64)) ([([3] : List Int)] : List (List Int)), Hl v2 (Rp.int .i64) ([3] : List Int), row v1 60 Ec ([(0, 3)] : List (Int × Int))]) (β := Value) (rv := fun x => x) (MM := fun x => []) (ZZ := fun x => [row x 45 Dv x1]) F W OK Aa Aa (fun hL => DD _ w (Value.slice none 0 0) (v1) (v4) (v6) (1, ([] : List (Int × Int × Int × Int × Int × Int)), ([(0, 3)] : List (Int × Int))) ([([([3] : List Int)] : List (List Int))] : List (List (List Int))) ([(1, 0, 4, 0, 0, 0), (4, 0, 4, 0, 0, 0)] : List (Int × Int × Int × Int × Int × Int)) _ h1 Sl.nil ((AP 5 Aa) w W).nx ((AP 2 Aa) w W).nx ((AP 0 Aa) w W).nx) fun x a w F W => ?_
 obtain ⟨v7, rfl⟩ : ∃ y, y = x := ⟨x, rfl⟩
 have W : Stw ⟨Y, [], w0⟩ [(b1, [.int .i64 1, .slice none 0 0, v1])] [row v7 45 Dv x1, row v6 48 DB ([(1, 0, 4, 0, 0, 0), (4, 0, 4, 0, 0, 0)] : List (Int × Int × Int × Int × Int × Int)), row v5 48 DB ([(1, 0, 0, 0, 0, 0), (2, 0, 0, 0, 0, 0), (3, 0, 0, 0, 0, 0)] : List (Int × Int × Int × Int × Int × Int)), row v4 52 (Rp.slice (Rp.slice (Rp.int .i64))) ([([([3] : List Int)] : List (List Int))] : List (List (List Int))), Hl v3 (Rp.slice (Rp.int .i64)) ([([3] : List Int)] : List (List Int)), Hl v2 (Rp.int .i64) ([3] : List Int), row v1 60 Ec ([(0, 3)] : List (Int × Int))] w := W
 refine ls F W Aa (Ah F Aa).q fun a w F W => ?_
 refine Ad (Ab ?_)
 obtain ⟨o1, G1, K1⟩ := Ao H
 refine AH (fun a w => ∃ x2 : Bool, some (x2) = some o1 ∧ Fr 43 [] [(0, .bool x2)] a ∧ Stw ⟨Y, [], w0⟩ [(b1, [.int .i64 1, .slice none 0 0, v1])] [row v1 60 Ec ([(0, 3)] : List (Int × Int))] w) ?_ ?_
 ·
  have H := G1
  clear G1 K1
  refine Ac ?_
  refine ls F W Aa (Al (v := Value.agg #[.int .i64 1, .slice none 0 0, v1]) 0 F Aa Aa G0 Aa).q fun a w F W => ?_
  iterate 2 refine ls F W Aa (Ae F Aa).q fun a w F W => ?_
  obtain ⟨x3, h2, H⟩ := Ao H
  refine Cf (Ml := []) (Zl := []) (M := [(b1, [.int .i64 1, .slice none 0 0, v1])]) (Z := [row v7 45 Dv x1, row v6 48 DB ([(1, 0, 4, 0, 0, 0), (4, 0, 4, 0, 0, 0)] : List (Int × Int × Int × Int × Int × Int)), row v5 48 DB ([(1, 0, 0, 0, 0, 0), (2, 0, 0, 0, 0, 0), (3, 0, 0, 0, 0, 0)] : List (Int × Int × Int × Int × Int × Int)), row v4 52 (Rp.slice (Rp.slice (Rp.int .i64))) ([([([3] : List Int)] : List (List Int))] : List (List (List Int))), Hl v3 (Rp.slice (Rp.int .i64)) ([([3] : List Int)] : List (List Int)), Hl v2 (Rp.int .i64) ([3] : List Int), row v1 60 Ec ([(0, 3)] : List (Int × Int))]) (β := Value) (rv := fun x => x) (MM := fun x => []) (ZZ := fun x => [row x 45 Dv x3]) F W OK Aa Aa (fun hL => DD _ w (Value.slice none 0 0) (v1) (v4) (v5) (1, ([] : List (Int × Int × Int × Int × Int × Int)), ([(0, 3)] : List (Int × Int))) ([([([3] : List Int)] : List (List Int))] : List (List (List Int))) ([(1, 0, 0, 0, 0, 0), (2, 0, 0, 0, 0, 0), (3, 0, 0, 0, 0, 0)] : List (Int × Int × Int × Int × Int × Int)) _ h2 Sl.nil ((AP 6 Aa) w W).nx ((AP 3 Aa) w W).nx ((AP 2 Aa) w W).nx) fun x a w F W => ?_
  obtain ⟨v8, rfl⟩ : ∃ y, y = x := ⟨x, rfl⟩
  have W : Stw ⟨Y, [], w0⟩ [(b1, [.int .i64 1, .slice none 0 0, v1])] [row v8 45 Dv x3, row v7 45 Dv x1, row v6 48 DB ([(1, 0, 4, 0, 0, 0), (4, 0, 4, 0, 0, 0)] : List (Int × Int × Int × Int × Int × Int)), row v5 48 DB ([(1, 0, 0, 0, 0, 0), (2, 0, 0, 0, 0, 0), (3, 0, 0, 0, 0, 0)] : List (Int × Int × Int × Int × Int × Int)), row v4 52 (Rp.slice (Rp.slice (Rp.int .i64))) ([([([3] : List Int)] : List (List Int))] : List (List (List Int))), Hl v3 (Rp.slice (Rp.int .i64)) ([([3] : List Int)] : List (List Int)), Hl v2 (Rp.int .i64) ([3] : List Int), row v1 60 Ec ([(0, 3)] : List (Int × Int))] w := W
  refine ls F W Aa (A7 (r := Dv) (l := x3) Kw Aa F Aa (AP 0 Aa)).q fun a w F W => ?_
  refine ls F W Aa (BZ F Aa Aa).q fun a w F W => ?_
  refine ls F W Aa (Ae F Aa).q fun a w F W => ?_
  rcases Bool.eq_false_or_eq_true (decide ((x3.length : Int) = 0)) with hb | hb
  ·
   have H := AN (Bf hb) H
   rw [hb] at F
   clear hb
   refine Au F W (Af F Aa Aa Aa Aa) Aa (Ak Aa) (Ae F Aa).q fun a w F W => ?_
   refine Au F W (Af F Aa Aa Aa Aa) Aa (Ak Aa) (A7 (r := Dv) (l := x1) Kw Aa F Aa (AP 1 Aa)).q fun a w F W => ?_
   refine Au F W (Af F Aa Aa Aa Aa) Aa (Ak Aa) (BZ F Aa Aa).q fun a w F W => ?_
   refine ls F W Aa (An F Aa Aa Aa).q fun a w F W => ?_
   refine ls F W Aa (Ae F Aa).q fun a w F W => ?_
   rcases Bool.eq_false_or_eq_true (decide ((x1.length : Int) = 1)) with hb | hb
   ·
    have H := AN (Bf hb) H
    rw [hb] at F
    clear hb
    refine Au F W (Af F Aa Aa Aa Aa) Aa (Ak Aa) (Ae F Aa).q fun a w F W => ?_
    obtain ⟨x4, h3, H⟩ := Ao H
    refine Au F W (Af F Aa Aa Aa Aa) Aa (Ak Aa) (AJ (r := Dv) MV F Aa Aa (AP 1 Aa) h3).q fun a w F W => ?_
    refine Au F W (Af F Aa Aa Aa Aa) Aa (Ak Aa) (Az (y := Value.agg #[.int .i64 x4.1, .int .i64 x4.2]) (j := 0) (i := 0) F Aa Aa (AP 1 Aa) h3 Oj.to Pp Aa).q fun a w F W => ?_
    refine Au F W (Af F Aa Aa Aa Aa) Aa (Ak Aa) (BA (v := Value.agg #[.int .i64 2, .int .i64 4]) Oe F Aa Aa Aa).q fun a w F W => ?_
    refine Au F W (Af F Aa Aa Aa Aa) Aa (Ak Aa) (JW (t := decide (x4.1 = 2 ∧ x4.2 = 4)) Pl (Pq _ _ _ _) F Aa Aa).q fun a w F W => ?_
    refine ls F W Aa (An F Aa Aa Aa).q fun a w F W => ?_
    refine ls F W Aa (Ae F Aa).q fun a w F W => ?_
    rcases Bool.eq_false_or_eq_true (decide (x4.1 = 2 ∧ x4.2 = 4)) with hb | hb
    ·
     have H := AN (Bf hb) H
     rw [hb] at F
     clear hb
     refine J2 (Af F Aa Aa Aa Aa) ?_
     refine ls F W Aa (BI (v := Value.string (bs (Eg 2))) F QA Aa (fun w W => JC any w 2 _ Aa)) fun a w F W => ?_
     refine Au F W (Af F Aa Aa Aa Aa) Aa (Ak Aa) (Oy (l := (Eg 2)) (m := ([108, 111, 115, 116] : List UInt8)) F Aa Aa).q fun a w F W => ?_
     refine ls F W Aa (An F Aa Aa Aa).q fun a w F W => ?_
     refine ls F W Aa (Ah F Aa).q fun a w F W => ?_
     refine Ad (Ab ?_)
     have W := W.frontZ (i := 7) Aa Aa
     have W := W.sub (M' := [(b1, [.int .i64 1, .slice none 0 0, v1])]) (Z' := [row v1 60 Ec ([(0, 3)] : List (Int × Int))]) (List.Sublist.refl _) (List.Sublist.cons_cons _ (List.nil_sublist _))
     exact ⟨_, H, F.re ⟨rfl, trivial⟩, W⟩
    have H := AM (Bg hb) H
    rw [hb] at F
    clear hb
    iterate 2 refine BW F Aa Aa Aa Aa Aa Aa Aa fun a F => ?_
    refine ls F W Aa (As F Aa Aa Aa).q fun a w F W => ?_
    refine ls F W Aa (Ah F Aa).q fun a w F W => ?_
    refine Ad (Ab ?_)
    have W := W.frontZ (i := 7) Aa Aa
    have W := W.sub (M' := [(b1, [.int .i64 1, .slice none 0 0, v1])]) (Z' := [row v1 60 Ec ([(0, 3)] : List (Int × Int))]) (List.Sublist.refl _) (List.Sublist.cons_cons _ (List.nil_sublist _))
    exact ⟨_, H, F.re ⟨rfl, trivial⟩, W⟩
   have H := AM (Bg hb) H
   rw [hb] at F
   clear hb
   iterate 5 refine BW F Aa Aa Aa Aa Aa Aa Aa fun a F => ?_
   refine ls F W Aa (As F Aa Aa Aa).q fun a w F W => ?_
   refine ls F W Aa (Ae F Aa).q fun a w F W => ?_
   iterate 2 refine BW F Aa Aa Aa Aa Aa Aa Aa fun a F => ?_
   refine ls F W Aa (As F Aa Aa Aa).q fun a w F W => ?_
   refine ls F W Aa (Ah F Aa).q fun a w F W => ?_
   refine Ad (Ab ?_)
   have W := W.frontZ (i := 7) Aa Aa
   have W := W.sub (M' := [(b1, [.int .i64 1, .slice none 0 0, v1])]) (Z' := [row v1 60 Ec ([(0, 3)] : List (Int × Int))]) (List.Sublist.refl _) (List.Sublist.cons_cons _ (List.nil_sublist _))
   exact ⟨_, H, F.re ⟨rfl, trivial⟩, W⟩
  have H := AM (Bg hb) H
  rw [hb] at F
  clear hb
  iterate 3 refine BW F Aa Aa Aa Aa Aa Aa Aa fun a F => ?_
  refine ls F W Aa (As F Aa Aa Aa).q fun a w F W => ?_
  refine ls F W Aa (Ae F Aa).q fun a w F W => ?_
  iterate 5 refine BW F Aa Aa Aa Aa Aa Aa Aa fun a F => ?_
  refine ls F W Aa (As F Aa Aa Aa).q fun a w F W => ?_
  refine ls F W Aa (Ae F Aa).q fun a w F W => ?_
  iterate 2 refine BW F Aa Aa Aa Aa Aa Aa Aa fun a F => ?_
  refine ls F W Aa (As F Aa Aa Aa).q fun a w F W => ?_
  refine ls F W Aa (Ah F Aa).q fun a w F W => ?_
  refine Ad (Ab ?_)
  have W := W.frontZ (i := 7) Aa Aa
  have W := W.sub (M' := [(b1, [.int .i64 1, .slice none 0 0, v1])]) (Z' := [row v1 60 Ec ([(0, 3)] : List (Int × Int))]) (List.Sublist.refl _) (List.Sublist.cons_cons _ (List.nil_sublist _))
  exact ⟨_, H, F.re ⟨rfl, trivial⟩, W⟩
 rintro a w ⟨x2, hj, F, W⟩
 have hj := AW hj
 subst hj
 have H := K1
 clear G1 K1
 refine AA ?_
 have H := AW H
 subst H
 refine A8 (.inl Aa) F W Aa (Ap F Aa) ?_
 exact ⟨rfl, W.done⟩
theorem H8 : Has Try.prog 8 := ⟨fun args w => Am Try.func8 rfl (by decide) args w⟩
noncomputable def D0 (p1 : List (List Int)) : Int → Option (Int ⊕ (Unit ⊕ Bool))
  | x1 => (if x1 < (p1.length : Int) then (ix p1 x1).bind fun x2 => (if 12 < (x2.length : Int) then some (.inr (.inr false)) else some (.inl (DH (x1 + 1)))) else some (.inr (.inl ())))
noncomputable def EO (p0 : Int × (List (Int × Int × Int × Int × Int × Int)) × (List (Int × Int))) (p1 : List (List Int)) : Option Bool := D7 (AQ (D0 p1) 0) fun _ => some (decide ((p0.2.1.length : Int) ≤ 30) && (decide ((p0.2.2.length : Int) ≤ 12) && decide ((p1.length : Int) ≤ 12)))
theorem JT (Y : Nat → Prop) (w0 : World) (v1 : Value) (v2 : Value) (v3 : Value) (p0 : Int × (List (Int × Int × Int × Int × Int × Int)) × (List (Int × Int))) (p1 : List (List Int)) (r : Bool) (H : EO p0 p1 = some r) (h_v1 : Sl w0 (NX []) CS v1 p0.2.1) (h_v2 : Sl w0 (NX []) Ec v2 p0.2.2) (h_v3 : Sl w0 (NX []) (Rp.slice (Rp.int .i64)) v3 p1) :
    Calls Try.prog 20 #[.agg #[.int .i64 p0.1, v1, v2], v3] w0 fun e w' => e = .returned (.bool r) ∧ Below w0.heap.size w0 w' := by
 refine enter Try.func20 Aa Try.ntmps20 Aa fun a F => ?_
 have W := Stw.start Y w0
 obtain ⟨v4, h1, h_v3⟩ := h_v3.ex Dc
 unfold EO at H
 refine Ai (Ac ?_)
 refine B9 (cs := [.int .i64 p0.1, v1, v2]) F W Aa Aa Aa fun b1 a w F W => ?_
 refine ls F W Aa (Ah F Aa).q fun a w F W => ?_
 refine Ad (Ab ?_)
 obtain ⟨o1, G1, K1, L1⟩ := IY H
 refine AH (fun a w => some (Sum.inl ()) = some o1 ∧ Fr 33 [] [(1, v3), (2, .pointer (some ⟨b1, 0, none⟩)), (4, .bool false)] a ∧ Stw ⟨Y, [], w0⟩ [(b1, [.int .i64 p0.1, v1, v2])] [] w) ?_ ?_
 ·
  have H := G1
  clear G1 K1
  refine Ai (Ac ?_)
  refine ls F W Aa (Ah F Aa).q fun a w F W => ?_
  refine Ad (Ab (Aw ?_))
  refine Bv H (fun s a w => Fr 33 [] [(1, v3), (2, .pointer (some ⟨b1, 0, none⟩)), (4, .bool false), (5, .int .i64 s)] a ∧ Stw ⟨Y, [], w0⟩ [(b1, [.int .i64 p0.1, v1, v2])] [] w) ⟨F.re ⟨rfl, Aa, Aa, Aa, trivial⟩, W⟩ fun s o a w H L2 hR => ?_
  obtain ⟨x1, rfl⟩ : ∃ x, x = s := ⟨s, rfl⟩
  obtain ⟨F, W⟩ := hR
  have F : Fr 33 [] [(1, v3), (2, .pointer (some ⟨b1, 0, none⟩)), (4, .bool false), (5, .int .i64 x1)] a := F
  have W : Stw ⟨Y, [], w0⟩ [(b1, [.int .i64 p0.1, v1, v2])] [] w := W
  rw [D0] at H
  refine Ai (Ai (Ac ?_))
  iterate 2 refine ls F W Aa (Ae F Aa).q fun a w F W => ?_
  refine ls F W Aa (A7 (r := (Rp.slice (Rp.int .i64))) (l := p1) Ik Aa F Aa (Bx Dc h1 (Aj h_v3))).q fun a w F W => ?_
  refine ls F W Aa (Bq F Aa Aa).q fun a w F W => ?_
  refine Ad (Ab ?_)
  refine Ay F Aa (fun hb => ?_) fun hb => ?_
  ·
   have H := AN (Bf hb) H
   rw [hb] at F
   clear hb
   refine Aq (Ab (Ai (Aw (Ai (Ac ?_)))))
   iterate 2 refine ls F W Aa (Ae F Aa).q fun a w F W => ?_
   obtain ⟨x2, h2, H⟩ := Ao H
   obtain ⟨v5, h3, h4⟩ := DN h1 h2
   have h5 : Ez v5 = [(v5.1)] := congrArg (fun q : List Int => ([(v5.1)] : List Value)) h4
   refine ls F W Aa (AJ (r := (Rp.vsl (Rp.int .i64))) Lw F Aa Aa (Aj h_v3) h3).q fun a w F W => ?_
   refine ls F W Aa (Az (y := (v5.1)) (j := 0) (i := x1) (enc := Ez) F Aa Aa (Aj h_v3) h3 HL FZ (by rw [h5]; rfl)).q fun a w F W => ?_
   refine ls F W Aa (A7 (r := (Rp.int .i64)) (l := x2) Fq Aa F Aa (CT (Aj h_v3) h3 Db.here (congrArg (fun q : List Int => q) h4))).q fun a w F W => ?_
   refine ls F W Aa (Fa F Aa Aa).q fun a w F W => ?_
   refine Ad (Ab ?_)
   refine Ay F Aa (fun hb => ?_) fun hb => ?_
   ·
    have H := AN (Bf hb) H
    rw [hb] at F
    clear hb
    refine Ai (Ac ?_)
    refine ls F W Aa (Ah F Aa).q fun a w F W => ?_
    refine Ad (Ab (AA (AF ?_)))
    iterate 2 refine AD ?_
    refine AF (AD ?_)
    have H := L2 _ H
    have H := L1 _ H
    have H := AW H
    subst H
    refine A8 (.inl Aa) F W Aa (Ap F Aa) ?_
    exact ⟨rfl, W.done⟩
   have H := AM (Bg hb) H
   rw [hb] at F
   clear hb
   refine Aq (AK (Ab (Ac ?_)))
   refine ls F W Aa (Ae F Aa).q fun a w F W => ?_
   refine ls F W Aa (Cq F Aa Aa Aa).q fun a w F W => ?_
   refine ls F W Aa (Ah F Aa).q fun a w F W => ?_
   refine Ad (Ab ?_)
   exact ⟨_, H, F.re ⟨rfl, Aa, Aa, Aa, trivial⟩, W⟩
  have H := AM (Bg hb) H
  rw [hb] at F
  clear hb
  refine Bk ?_
  iterate 2 refine BJ ?_
  refine Bl (Ab ?_)
  have H := L2 _ H
  exact ⟨H, F.re ⟨rfl, Aa, Aa, trivial⟩, W⟩
 rintro a w ⟨hj, F, W⟩
 have H := K1 _ hj
 clear hj G1 K1 L1
 refine AH (fun a w => Fr 33 [] [(4, .bool (decide ((p0.2.1.length : Int) ≤ 30) && (decide ((p0.2.2.length : Int) ≤ 12) && decide ((p1.length : Int) ≤ 12))))] a ∧ Stw ⟨Y, [], w0⟩ [(b1, [.int .i64 p0.1, v1, v2])] [] w) ?_ ?_
 ·
  refine Ac ?_
  refine ls F W Aa (Ag CJ Aa Aa Aa H3 F Aa 1 Aa).q fun a w F W => ?_
  refine ls F W Aa (Al (v := v1) 0 F Aa Aa H3 Aa).q fun a w F W => ?_
  refine ls F W Aa (A7 (r := CS) (l := p0.2.1) IX Aa F Aa (Aj h_v1)).q fun a w F W => ?_
  refine ls F W Aa (Id F Aa Aa).q fun a w F W => ?_
  refine ls F W Aa (Ae F Aa).q fun a w F W => ?_
  rcases Bool.eq_false_or_eq_true (decide ((p0.2.1.length : Int) ≤ 30)) with hb0 | hb0
  ·
   rw [hb0] at F
   refine Au F W (Af F Aa Aa Aa Aa) Aa (Ak Aa) (Ag CJ Aa Aa Aa FW F Aa 2 Aa).q fun a w F W => ?_
   refine Au F W (Af F Aa Aa Aa Aa) Aa (Ak Aa) (Al (v := v2) 0 F Aa Aa FW Aa).q fun a w F W => ?_
   refine Au F W (Af F Aa Aa Aa Aa) Aa (Ak Aa) (A7 (r := Ec) (l := p0.2.2) GW Aa F Aa (Aj h_v2)).q fun a w F W => ?_
   refine Au F W (Af F Aa Aa Aa Aa) Aa (Ak Aa) (Id F Aa Aa).q fun a w F W => ?_
   refine ls F W Aa (An F Aa Aa Aa).q fun a w F W => ?_
   refine ls F W Aa (Ae F Aa).q fun a w F W => ?_
   rcases Bool.eq_false_or_eq_true (decide ((p0.2.2.length : Int) ≤ 12)) with hb1 | hb1
   ·
    rw [hb1] at F
    refine Au F W (Af F Aa Aa Aa Aa) Aa (Ak Aa) (Ae F Aa).q fun a w F W => ?_
    refine Au F W (Af F Aa Aa Aa Aa) Aa (Ak Aa) (A7 (r := (Rp.slice (Rp.int .i64))) (l := p1) Ik Aa F Aa (Bx Dc h1 (Aj h_v3))).q fun a w F W => ?_
    refine Au F W (Af F Aa Aa Aa Aa) Aa (Ak Aa) (Id F Aa Aa).q fun a w F W => ?_
    refine ls F W Aa (An F Aa Aa Aa).q fun a w F W => ?_
    refine ls F W Aa (Ah F Aa).q fun a w F W => ?_
    refine Ad (Ab ?_)
    exact ⟨F.re ⟨(by show some (Value.bool (decide ((p1.length : Int) ≤ 12))) = some (Value.bool (decide ((p0.2.1.length : Int) ≤ 30) && (decide ((p0.2.2.length : Int) ≤ 12) && decide ((p1.length : Int) ≤ 12)))); try rw [hb0]; try rw [hb1]; all_goals simp only [Bool.not_true, Bool.not_false, Bool.true_and, Bool.false_and, Bool.true_or, Bool.false_or, Bool.and_true, Bool.or_false, cond_true, cond_false]), trivial⟩, W⟩
   rw [hb1] at F
   iterate 3 refine BW F Aa Aa Aa Aa Aa Aa Aa fun a F => ?_
   refine ls F W Aa (As F Aa Aa Aa).q fun a w F W => ?_
   refine ls F W Aa (Ah F Aa).q fun a w F W => ?_
   refine Ad (Ab ?_)
   exact ⟨F.re ⟨(by show some (Value.bool false) = some (Value.bool (decide ((p0.2.1.length : Int) ≤ 30) && (decide ((p0.2.2.length : Int) ≤ 12) && decide ((p1.length : Int) ≤ 12)))); try rw [hb0]; try rw [hb1]; all_goals simp only [Bool.not_true, Bool.not_false, Bool.true_and, Bool.false_and, Bool.true_or, Bool.false_or, Bool.and_true, Bool.or_false, cond_true, cond_false]), trivial⟩, W⟩
  rw [hb0] at F
  iterate 4 refine BW F Aa Aa Aa Aa Aa Aa Aa fun a F => ?_
  refine ls F W Aa (As F Aa Aa Aa).q fun a w F W => ?_
  refine ls F W Aa (Ae F Aa).q fun a w F W => ?_
  iterate 3 refine BW F Aa Aa Aa Aa Aa Aa Aa fun a F => ?_
  refine ls F W Aa (As F Aa Aa Aa).q fun a w F W => ?_
  refine ls F W Aa (Ah F Aa).q fun a w F W => ?_
  refine Ad (Ab ?_)
  exact ⟨F.re ⟨(by show some (Value.bool false) = some (Value.bool (decide ((p0.2.1.length : Int) ≤ 30) && (decide ((p0.2.2.length : Int) ≤ 12) && decide ((p1.length : Int) ≤ 12)))); try rw [hb0]; all_goals simp only [Bool.not_true, Bool.not_false, Bool.true_and, Bool.false_and, Bool.true_or, Bool.false_or, Bool.and_true, Bool.or_false, cond_true, cond_false]), trivial⟩, W⟩
 rintro a w ⟨F, W⟩
 refine AA ?_
 have H := AW H
 subst H
 refine A8 (.inl Aa) F W Aa (Ap F Aa) ?_
 exact ⟨rfl, W.done⟩
theorem PU : Has Try.prog 20 := ⟨fun args w => Am Try.func20 rfl (by decide) args w⟩
end Go.Proofs.Ytflaelbmglmmcaa
