/- The functions of layer 42, Gn. Conditions: none. -/
import Derived.Test.YtflaelbmglmmcaabA2
namespace Go.Proofs.Ytflaelbmglmmcaa
open Go Go.RowKit
set_option linter.unusedVariables false
set_option linter.unusedSimpArgs false
set_option maxRecDepth 20000
theorem Nm : Has Try.prog 31 := ⟨fun args w => Aj Try.func31 rfl (by decide) args w⟩
noncomputable def Dc (p0 : Int × (List (Int × Int × Int × Int × Int × Int)) × (List (Int × Int))) (p1 : List (List (List Int))) (x1 : ((List (Int × Int × Int)) × (List (Int × Int)))) (x3 : (List (Int × Int × Int × Int × List Int × Int × Int × Int))) : ((List (Int × Int)) × Int) → Option (((List (Int × Int)) × Int) ⊕ (List (Int × Int)))
  | (x4, x5) => (if x5 < (x3.length : Int) then ((ix x3 x5).bind fun x7 => ((DK x7).bind fun x9 => (if x9 = true then (E9 x4 ([(1, x7.1)] : List (Int × Int))).bind fun x10 => some x10 else some x4)).bind fun x8 => (if x7.2.2.2.2.2.1 = 4 then (E9 x8 ([(2, x7.1)] : List (Int × Int))).bind fun x12 => some x12 else some x8).bind fun x11 => (if (decide (x7.2.2.2.2.2.1 = 3) && decide (x7.2.2.2.2.2.2.1 ≠ x7.2.2.1)) = true then (E9 x11 ([(3, x7.1)] : List (Int × Int))).bind fun x14 => some x14 else some x11).bind fun x13 => (if 0 < (x7.2.2.2.2.1.length : Int) then (AO x1 x7.2.2.2.1).bind fun x16 => (if (!x16) = true then (Bl x1 x7.2.2.2.1).bind fun x17 => (CS p0 p1 x17 x7).bind fun x18 => some (!x18) else some false) else some false).bind fun x15 => (if x15 = true then (E9 x13 ([(4, x7.1)] : List (Int × Int))).bind fun x19 => some x19 else some x13)).bind fun x6 => some (.inl (x6, D8 (x5 + 1))) else some (.inr x4))
noncomputable def C0 (p0 : Int × (List (Int × Int × Int × Int × Int × Int)) × (List (Int × Int))) (p1 : List (List (List Int))) (p2 : List (Int × Int × Int × Int × Int × Int)) : Option (List (Int × Int)) := (Co p2).bind fun x1 => ((Fc p2).bind fun x3 => Bj (Dc p0 p1 x1 x3) ([], 0)).bind fun x2 => some x2
theorem Fu (Y : Nat → Prop) (w0 : World) (v1 : Value) (v2 : Value) (v3 : Value) (v4 : Value) (p0 : Int × (List (Int × Int × Int × Int × Int × Int)) × (List (Int × Int))) (p1 : List (List (List Int))) (p2 : List (Int × Int × Int × Int × Int × Int)) (r : (List (Int × Int))) (H : C0 p0 p1 p2 = some r) (h_v1 : Sl w0 (NX []) EM v1 p0.2.1) (h_v2 : Sl w0 (NX []) F2 v2 p0.2.2) (h_v3 : Sl w0 (NX []) (Rp.slice (Rp.slice (Rp.int .i64))) v3 p1) (h_v4 : Sl w0 (NX []) EN v4 p2) :
    Calls Try.prog 17 #[.agg #[.int .i64 p0.1, v1, v2], v3, v4] w0 fun e w' => ∃ x : Value, e = .returned (x) ∧ Stw ⟨Y, [], w0⟩ [] [row (x) 45 Em r] w' := by
 refine enter Try.func17 Aa Try.ntmps17 Aa fun a F => ?_
 have W := Stw.start Y w0
 obtain ⟨v5, h1, h_v3⟩ := h_v3.ex Kn
 unfold C0 at H
 refine Ah (Ab ?_)
 refine Cf (cs := [.int .i64 p0.1, v1, v2]) F W Aa Aa Aa fun b1 a w F W => ?_
 refine ls F W Aa (Ae F Aa).q fun a w F W => ?_
 refine Ad (Ac (Ah (Ab ?_)))
 refine ls F W Aa (Ae F Aa).q fun a w F W => ?_
 refine Ad (Ac (Ah (Ab ?_)))
 refine ls F W Aa (Ag F Aa).q fun a w F W => ?_
 obtain ⟨x1, h2, H⟩ := An H
 refine BP (Ml := []) (Zl := []) (M := [(b1, [.int .i64 p0.1, v1, v2])]) (Z := []) (β := Value × Value) (rv := fun x => .agg #[x.1, x.2]) (MM := fun x => []) (ZZ := fun x => [row x.1 38 BK x1.1, row x.2 91 DQ x1.2]) F W Mc Aa Aa (fun hL => EZ _ w (v4) p2 _ h2 ((Al h_v4) w W).nx) fun x a w F W => ?_
 obtain ⟨v6, v7⟩ := x
 have W : Stw ⟨Y, [], w0⟩ [(b1, [.int .i64 p0.1, v1, v2])] [row v6 38 BK x1.1, row v7 91 DQ x1.2] w := W
 refine BI (cs := [.slice none 0 0, .slice none 0 0]) F W Aa LN Aa fun b2 a w F W => ?_
 refine Bx (vs := [v6, v7]) (M' := [(b2, [v6, v7]), (b1, [.int .i64 p0.1, v1, v2])]) 0 F W Aa Aa Aa K9 Aa Aa Aa (A9 (W.one (k := 0) Aa) (A9 (W.one (k := 1) Aa) Fm)) Aa fun w W => ?_
 refine Ad (Ac ?_)
 obtain ⟨o1, G1, K1⟩ := An H
 refine AR (fun a w => ∃ x2 : List (Int × Int), ∃ v8 : Value, some (x2) = some o1 ∧ Fr 83 [] [(6, .slice none 0 0), (7, v8)] a ∧ Stw ⟨Y, [], w0⟩ [(b2, [v6, v7]), (b1, [.int .i64 p0.1, v1, v2])] [row v8 45 Em x2, row v6 38 BK x1.1, row v7 91 DQ x1.2] w) ?_ ?_
 ·
  have H := G1
  clear G1 K1
  refine Ah (Ab ?_)
  refine ls F W Aa (Ag F Aa).q fun a w F W => ?_
  obtain ⟨x3, h3, H⟩ := An H
  refine BP (Ml := []) (Zl := []) (M := [(b2, [v6, v7]), (b1, [.int .i64 p0.1, v1, v2])]) (Z := [row v6 38 BK x1.1, row v7 91 DQ x1.2]) (β := Value) (rv := fun x => x) (MM := fun x => []) (ZZ := fun x => [row x 78 Hc x3]) F W MI Aa Aa (fun hL => IQ _ w (v4) p2 _ h3 ((Al h_v4) w W).nx) fun x a w F W => ?_
  obtain ⟨v9, rfl⟩ : ∃ y, y = x := ⟨x, rfl⟩
  have W : Stw ⟨Y, [], w0⟩ [(b2, [v6, v7]), (b1, [.int .i64 p0.1, v1, v2])] [row v9 78 Hc x3, row v6 38 BK x1.1, row v7 91 DQ x1.2] w := W
  refine ls F W Aa (Bi (r := Hc) (l := x3) K8 Aa F Aa (AE 0 Aa)).q fun a w F W => ?_
  refine ls F W Aa (Ag F Aa).q fun a w F W => ?_
  refine Ad (Ac (Ax ?_))
  have W := W.nilRow 45 Em
  have W := W.frontZ (i := 3) Aa Aa
  have W := W.frontZ (i := 3) Aa Aa
  have W := W.frontZ (i := 3) Aa Aa
  have W := W.frontZ (i := 3) Aa Aa
  have W := W.frontM (i := 1) Aa Aa
  have W := W.frontM (i := 1) Aa Aa
  refine BT H (fun s a w => ∃ v10 : Value, Fr 83 [] [(1, v3), (3, .pointer (some ⟨b1, 0, none⟩)), (6, .slice none 0 0), (7, v10), (8, .pointer (some ⟨b2, 0, none⟩)), (14, v9), (15, .int .i64 (x3.length : Int)), (16, .int .i64 s.2)] a ∧ Stw ⟨Y, [], w0⟩ [(b2, [v6, v7]), (b1, [.int .i64 p0.1, v1, v2])] [row v10 45 Em s.1, row v9 78 Hc x3, row v6 38 BK x1.1, row v7 91 DQ x1.2] w) ⟨(Value.slice none 0 0), F.re ⟨rfl, Aa, Aa, Aa, Aa, Aa, Aa, Aa, trivial⟩, W⟩ fun s o a w H L2 hR => ?_
  obtain ⟨x4, x5⟩ := s
  obtain ⟨v10, F, W⟩ := hR
  have F : Fr 83 [] [(1, v3), (3, .pointer (some ⟨b1, 0, none⟩)), (6, .slice none 0 0), (7, v10), (8, .pointer (some ⟨b2, 0, none⟩)), (14, v9), (15, .int .i64 (x3.length : Int)), (16, .int .i64 x5)] a := F
  have W : Stw ⟨Y, [], w0⟩ [(b2, [v6, v7]), (b1, [.int .i64 p0.1, v1, v2])] [row v10 45 Em x4, row v9 78 Hc x3, row v6 38 BK x1.1, row v7 91 DQ x1.2] w := W
  rw [Dc] at H
  refine Ah (Ab ?_)
  refine ls F W Aa (BU F Aa Aa).q fun a w F W => ?_
  refine Ad (Ac (Ah ?_))
  refine AB F Aa (fun hb => ?_) fun hb => ?_
  ·
   have H := AU (Bv hb) H
   rw [hb] at F
   clear hb
   refine As (Ac ?_)
   obtain ⟨o3, G3, K3⟩ := An H
   refine AR (fun a w => ∃ x6 : List (Int × Int), ∃ v11 : Value, some (x6) = some o3 ∧ Fr 83 [] [(1, v3), (3, .pointer (some ⟨b1, 0, none⟩)), (6, .slice none 0 0), (7, v11), (8, .pointer (some ⟨b2, 0, none⟩)), (14, v9), (15, .int .i64 (x3.length : Int)), (16, .int .i64 x5)] a ∧ Stw ⟨Y, [], w0⟩ [(b2, [v6, v7]), (b1, [.int .i64 p0.1, v1, v2])] [row v11 45 Em x6, row v9 78 Hc x3, row v6 38 BK x1.1, row v7 91 DQ x1.2] w) ?_ ?_
   ·
    have H := G3
    clear G3 K3
    refine Ax (Ah ?_)
    have W := W.frontZ (i := 1) Aa Aa
    obtain ⟨v12, h4, W⟩ := W.exR KM
    refine Ab ?_
    obtain ⟨x7, h5, H⟩ := An H
    obtain ⟨v13, h6, h7⟩ := E0 h4 h5
    have h8 : Lb v13 = [.int .i64 x7.1, .int .i64 x7.2.1, .int .i64 x7.2.2.1, .int .i64 x7.2.2.2.1, (v13.2.2.2.2.1.1), .int .i64 x7.2.2.2.2.2.1, .int .i64 x7.2.2.2.2.2.2.1, .int .i64 x7.2.2.2.2.2.2.2] := congrArg (fun q : Int × Int × Int × Int × List Int × Int × Int × Int => ([.int .i64 q.1, .int .i64 q.2.1, .int .i64 q.2.2.1, .int .i64 q.2.2.2.1, (v13.2.2.2.2.1.1), .int .i64 q.2.2.2.2.2.1, .int .i64 q.2.2.2.2.2.2.1, .int .i64 q.2.2.2.2.2.2.2] : List Value)) h7
    refine ls F W Aa (AN (r := Kk) LL F Aa Aa (AE 0 Aa) h6).q fun a w F W => ?_
    refine ls F W Aa (AG (y := Value.agg #[.int .i64 x7.1, .int .i64 x7.2.1, .int .i64 x7.2.2.1, .int .i64 x7.2.2.2.1, (v13.2.2.2.2.1.1), .int .i64 x7.2.2.2.2.2.1, .int .i64 x7.2.2.2.2.2.2.1, .int .i64 x7.2.2.2.2.2.2.2]) (j := 0) (i := x5) (enc := Lb) F Aa Aa (AE 0 Aa) h6 L7 LK (by rw [h8]; rfl)).q fun a w F W => ?_
    have W := W.note (W.rowAt (k := 0) Aa h6 (DI.snd (DI.snd (DI.snd (DI.snd (DI.fst DI.here))))) (congrArg (fun q : Int × Int × Int × Int × List Int × Int × Int × Int => q.2.2.2.2.1) h7))
    refine BI (cs := [.int .i64 0, .int .i64 0, .int .i64 0, .int .i64 0, .slice none 0 0, .int .i64 0, .int .i64 0, .int .i64 0]) F W Aa Mn Aa fun b3 a w F W => ?_
    refine Bx (vs := [.int .i64 x7.1, .int .i64 x7.2.1, .int .i64 x7.2.2.1, .int .i64 x7.2.2.2.1, (v13.2.2.2.2.1.1), .int .i64 x7.2.2.2.2.2.1, .int .i64 x7.2.2.2.2.2.2.1, .int .i64 x7.2.2.2.2.2.2.2]) (M' := [(b3, [.int .i64 x7.1, .int .i64 x7.2.1, .int .i64 x7.2.2.1, .int .i64 x7.2.2.2.1, (v13.2.2.2.2.1.1), .int .i64 x7.2.2.2.2.2.1, .int .i64 x7.2.2.2.2.2.2.1, .int .i64 x7.2.2.2.2.2.2.2]), (b2, [v6, v7]), (b1, [.int .i64 p0.1, v1, v2])]) 0 F W Aa Aa Aa LK Aa Aa Aa (A9 Aa (A9 Aa (A9 Aa (A9 Aa (A9 (W.oneF (k := 0) Aa) (A9 Aa (A9 Aa (A9 Aa Fm)))))))) Aa fun w W => ?_
    refine Ad (Ac ?_)
    obtain ⟨o4, G4, K4⟩ := An H
    refine AR (fun a w => ∃ x8 : List (Int × Int), ∃ v14 : Value, some (x8) = some o4 ∧ Fr 83 [] [(1, v3), (3, .pointer (some ⟨b1, 0, none⟩)), (6, .slice none 0 0), (7, v14), (8, .pointer (some ⟨b2, 0, none⟩)), (10, .pointer (some ⟨b3, 0, none⟩)), (14, v9), (15, .int .i64 (x3.length : Int)), (16, .int .i64 x5)] a ∧ Stw ⟨Y, [], w0⟩ [(b3, [.int .i64 x7.1, .int .i64 x7.2.1, .int .i64 x7.2.2.1, .int .i64 x7.2.2.2.1, (v13.2.2.2.2.1.1), .int .i64 x7.2.2.2.2.2.1, .int .i64 x7.2.2.2.2.2.2.1, .int .i64 x7.2.2.2.2.2.2.2]), (b2, [v6, v7]), (b1, [.int .i64 p0.1, v1, v2])] [row v14 45 Em x8, row v9 78 Hc x3, Gl (v13.2.2.2.2.1.1) (Rp.int .i64) x7.2.2.2.2.1, row v6 38 BK x1.1, row v7 91 DQ x1.2] w) ?_ ?_
    ·
     have H := G4
     clear G4 K4
     refine Ah (Ab ?_)
     refine ls F W Aa (Ak (v := Value.agg #[.int .i64 x7.1, .int .i64 x7.2.1, .int .i64 x7.2.2.1, .int .i64 x7.2.2.2.1, (v13.2.2.2.2.1.1), .int .i64 x7.2.2.2.2.2.1, .int .i64 x7.2.2.2.2.2.2.1, .int .i64 x7.2.2.2.2.2.2.2]) 0 F Aa Aa LK Aa).q fun a w F W => ?_
     obtain ⟨x9, h9, H⟩ := An H
     refine ls F W Aa (BB (v := Value.bool x9) F Nd Aa (fun w W => HC any w ((v13.2.2.2.2.1.1)) x7 _ h9 (((H0 0 Aa) : DC _ _ _ _ _ _) w W).nx)) fun a w F W => ?_
     refine Ad (Ac ?_)
     refine AB F Aa (fun hb => ?_) fun hb => ?_
     ·
      have H := AU hb H
      rw [hb] at F
      clear hb
      refine Ab ?_
      refine ls F W Aa (Ag F Aa).q fun a w F W => ?_
      refine ls F W Aa (Af DT Aa Aa Aa T3 F Aa 0 Aa).q fun a w F W => ?_
      refine ls F W Aa (Ak (v := Value.int .i64 x7.1) 0 F Aa Aa T3 Aa).q fun a w F W => ?_
      refine ls F W Aa (Bf (v := Value.agg #[.int .i64 1, .int .i64 x7.1]) Ls F Aa Aa Aa).q fun a w F W => ?_
      refine CV (z := Value.agg #[.int .i64 0, .int .i64 0]) (cs := [.int .i64 1, .int .i64 x7.1]) Em ([(1, x7.1)] : List (Int × Int)) F W Aa Kv LM Aa Aa Aa Aa Aa Aa (LE.repL _ _ ([(1, x7.1)] : List (Int × Int))) fun v15 a w F W => ?_
      obtain ⟨x10, h10, H⟩ := An H
      refine Ca (r := Em) (i := 3) F W Aa Kv Aa Aa Aa Aa (CI W 0 Aa) h10 Aa fun v16 a w F W => ?_
      have W : Stw ⟨Y, [], w0⟩ [(b3, [.int .i64 x7.1, .int .i64 x7.2.1, .int .i64 x7.2.2.1, .int .i64 x7.2.2.2.1, (v13.2.2.2.2.1.1), .int .i64 x7.2.2.2.2.2.1, .int .i64 x7.2.2.2.2.2.2.1, .int .i64 x7.2.2.2.2.2.2.2]), (b2, [v6, v7]), (b1, [.int .i64 p0.1, v1, v2])] [row v16 45 Em x10, row v15 45 Em ([(1, x7.1)] : List (Int × Int)), Gl (v13.2.2.2.2.1.1) (Rp.int .i64) x7.2.2.2.2.1, row v9 78 Kk v12, row v6 38 BK x1.1, row v7 91 DQ x1.2] w := W
      refine ls F W Aa (Ae F Aa).q fun a w F W => ?_
      refine Ad (Ac ?_)
      have W := W.frontZ (i := 3) Aa Aa
      have W := W.hideR KM h4
      have W := W.frontZ (i := 5) Aa Aa
      have W := W.frontZ (i := 5) Aa Aa
      have W := W.frontZ (i := 5) Aa Aa
      have W := W.frontZ (i := 3) Aa Aa
      have W := W.frontZ (i := 4) Aa Aa
      have W := W.frontM (i := 2) Aa Aa
      have W := W.frontM (i := 2) Aa Aa
      have W := W.frontM (i := 2) Aa Aa
      have W := W.sub (M' := [(b3, [.int .i64 x7.1, .int .i64 x7.2.1, .int .i64 x7.2.2.1, .int .i64 x7.2.2.2.1, (v13.2.2.2.2.1.1), .int .i64 x7.2.2.2.2.2.1, .int .i64 x7.2.2.2.2.2.2.1, .int .i64 x7.2.2.2.2.2.2.2]), (b2, [v6, v7]), (b1, [.int .i64 p0.1, v1, v2])]) (Z' := [row v16 45 Em x10, row v9 78 Hc x3, Gl (v13.2.2.2.2.1.1) (Rp.int .i64) x7.2.2.2.2.1, row v6 38 BK x1.1, row v7 91 DQ x1.2]) (List.Sublist.refl _) (List.Sublist.cons_cons _ (List.Sublist.cons_cons _ (List.Sublist.cons_cons _ (List.Sublist.cons_cons _ (List.Sublist.cons_cons _ (List.nil_sublist _))))))
      exact ⟨_, (v16), H, F.re ⟨rfl, Aa, Aa, Aa, Aa, Aa, Aa, Aa, Aa, trivial⟩, W⟩
     have H := AW (by rw [hb]; decide) H
     rw [hb] at F
     clear hb
     refine As (Ac ?_)
     have W := W.frontZ (i := 1) Aa Aa
     have W := W.hideR KM h4
     have W := W.frontZ (i := 4) Aa Aa
     have W := W.frontZ (i := 4) Aa Aa
     have W := W.frontZ (i := 3) Aa Aa
     have W := W.frontZ (i := 3) Aa Aa
     have W := W.frontZ (i := 4) Aa Aa
     have W := W.frontM (i := 2) Aa Aa
     have W := W.frontM (i := 2) Aa Aa
     have W := W.frontM (i := 2) Aa Aa
     exact ⟨_, (v10), H, F.re ⟨rfl, Aa, Aa, Aa, Aa, Aa, Aa, Aa, Aa, trivial⟩, W⟩
    rintro a w ⟨x8, v14, hj, F, W⟩
    have hj := AV hj
    subst hj
    have H := K4
    clear G4 K4
    obtain ⟨o5, G5, K5⟩ := An H
    refine AR (fun a w => ∃ x11 : List (Int × Int), ∃ v17 : Value, some (x11) = some o5 ∧ Fr 83 [] [(1, v3), (3, .pointer (some ⟨b1, 0, none⟩)), (6, .slice none 0 0), (7, v17), (8, .pointer (some ⟨b2, 0, none⟩)), (10, .pointer (some ⟨b3, 0, none⟩)), (14, v9), (15, .int .i64 (x3.length : Int)), (16, .int .i64 x5)] a ∧ Stw ⟨Y, [], w0⟩ [(b3, [.int .i64 x7.1, .int .i64 x7.2.1, .int .i64 x7.2.2.1, .int .i64 x7.2.2.2.1, (v13.2.2.2.2.1.1), .int .i64 x7.2.2.2.2.2.1, .int .i64 x7.2.2.2.2.2.2.1, .int .i64 x7.2.2.2.2.2.2.2]), (b2, [v6, v7]), (b1, [.int .i64 p0.1, v1, v2])] [row v17 45 Em x11, row v9 78 Hc x3, Gl (v13.2.2.2.2.1.1) (Rp.int .i64) x7.2.2.2.2.1, row v6 38 BK x1.1, row v7 91 DQ x1.2] w) ?_ ?_
    ·
     have H := G5
     clear G5 K5
     refine Ah (Ab ?_)
     refine ls F W Aa (Af DT Aa Aa Aa T3 F Aa 5 Aa).q fun a w F W => ?_
     refine ls F W Aa (Ak (v := Value.int .i64 x7.2.2.2.2.2.1) 0 F Aa Aa T3 Aa).q fun a w F W => ?_
     refine ls F W Aa (CB F Aa Aa).q fun a w F W => ?_
     refine Ad (Ac ?_)
     refine AB F Aa (fun hb => ?_) fun hb => ?_
     ·
      have H := AU (Bv hb) H
      rw [hb] at F
      clear hb
      refine Ab ?_
      refine ls F W Aa (Ag F Aa).q fun a w F W => ?_
      refine ls F W Aa (Af DT Aa Aa Aa T3 F Aa 0 Aa).q fun a w F W => ?_
      refine ls F W Aa (Ak (v := Value.int .i64 x7.1) 0 F Aa Aa T3 Aa).q fun a w F W => ?_
      refine ls F W Aa (Bf (v := Value.agg #[.int .i64 2, .int .i64 x7.1]) Ls F Aa Aa Aa).q fun a w F W => ?_
      refine CV (z := Value.agg #[.int .i64 0, .int .i64 0]) (cs := [.int .i64 2, .int .i64 x7.1]) Em ([(2, x7.1)] : List (Int × Int)) F W Aa Kv LM Aa Aa Aa Aa Aa Aa (LE.repL _ _ ([(2, x7.1)] : List (Int × Int))) fun v18 a w F W => ?_
      obtain ⟨x12, h11, H⟩ := An H
      refine Ca (r := Em) (i := 1) F W Aa Kv Aa Aa Aa Aa (CI W 0 Aa) h11 Aa fun v19 a w F W => ?_
      have W : Stw ⟨Y, [], w0⟩ [(b3, [.int .i64 x7.1, .int .i64 x7.2.1, .int .i64 x7.2.2.1, .int .i64 x7.2.2.2.1, (v13.2.2.2.2.1.1), .int .i64 x7.2.2.2.2.2.1, .int .i64 x7.2.2.2.2.2.2.1, .int .i64 x7.2.2.2.2.2.2.2]), (b2, [v6, v7]), (b1, [.int .i64 p0.1, v1, v2])] [row v19 45 Em x12, row v18 45 Em ([(2, x7.1)] : List (Int × Int)), row v9 78 Hc x3, Gl (v13.2.2.2.2.1.1) (Rp.int .i64) x7.2.2.2.2.1, row v6 38 BK x1.1, row v7 91 DQ x1.2] w := W
      refine ls F W Aa (Ae F Aa).q fun a w F W => ?_
      refine Ad (Ac ?_)
      have W := W.frontZ (i := 5) Aa Aa
      have W := W.frontZ (i := 5) Aa Aa
      have W := W.frontZ (i := 5) Aa Aa
      have W := W.frontZ (i := 5) Aa Aa
      have W := W.frontZ (i := 4) Aa Aa
      have W := W.frontM (i := 2) Aa Aa
      have W := W.frontM (i := 2) Aa Aa
      have W := W.frontM (i := 2) Aa Aa
      have W := W.sub (M' := [(b3, [.int .i64 x7.1, .int .i64 x7.2.1, .int .i64 x7.2.2.1, .int .i64 x7.2.2.2.1, (v13.2.2.2.2.1.1), .int .i64 x7.2.2.2.2.2.1, .int .i64 x7.2.2.2.2.2.2.1, .int .i64 x7.2.2.2.2.2.2.2]), (b2, [v6, v7]), (b1, [.int .i64 p0.1, v1, v2])]) (Z' := [row v19 45 Em x12, row v9 78 Hc x3, Gl (v13.2.2.2.2.1.1) (Rp.int .i64) x7.2.2.2.2.1, row v6 38 BK x1.1, row v7 91 DQ x1.2]) (List.Sublist.refl _) (List.Sublist.cons_cons _ (List.Sublist.cons_cons _ (List.Sublist.cons_cons _ (List.Sublist.cons_cons _ (List.Sublist.cons_cons _ (List.nil_sublist _))))))
      exact ⟨_, (v19), H, F.re ⟨rfl, Aa, Aa, Aa, Aa, Aa, Aa, Aa, Aa, trivial⟩, W⟩
     have H := AW (Bu hb) H
     rw [hb] at F
     clear hb
     refine As (Ac ?_)
     have W := W.frontZ (i := 4) Aa Aa
     have W := W.frontZ (i := 4) Aa Aa
     have W := W.frontZ (i := 4) Aa Aa
     have W := W.frontZ (i := 4) Aa Aa
     have W := W.frontZ (i := 4) Aa Aa
     have W := W.frontM (i := 2) Aa Aa
     have W := W.frontM (i := 2) Aa Aa
     have W := W.frontM (i := 2) Aa Aa
     exact ⟨_, (v14), H, F.re ⟨rfl, Aa, Aa, Aa, Aa, Aa, Aa, Aa, Aa, trivial⟩, W⟩
    rintro a w ⟨x11, v17, hj, F, W⟩
    have hj := AV hj
    subst hj
    have H := K5
    clear G5 K5
    obtain ⟨o6, G6, K6⟩ := An H
    refine AR (fun a w => ∃ x13 : List (Int × Int), ∃ v20 : Value, some (x13) = some o6 ∧ Fr 83 [] [(1, v3), (3, .pointer (some ⟨b1, 0, none⟩)), (6, .slice none 0 0), (7, v20), (8, .pointer (some ⟨b2, 0, none⟩)), (10, .pointer (some ⟨b3, 0, none⟩)), (14, v9), (15, .int .i64 (x3.length : Int)), (16, .int .i64 x5)] a ∧ Stw ⟨Y, [], w0⟩ [(b3, [.int .i64 x7.1, .int .i64 x7.2.1, .int .i64 x7.2.2.1, .int .i64 x7.2.2.2.1, (v13.2.2.2.2.1.1), .int .i64 x7.2.2.2.2.2.1, .int .i64 x7.2.2.2.2.2.2.1, .int .i64 x7.2.2.2.2.2.2.2]), (b2, [v6, v7]), (b1, [.int .i64 p0.1, v1, v2])] [row v20 45 Em x13, row v9 78 Hc x3, Gl (v13.2.2.2.2.1.1) (Rp.int .i64) x7.2.2.2.2.1, row v6 38 BK x1.1, row v7 91 DQ x1.2] w) ?_ ?_
    ·
     have H := G6
     clear G6 K6
     refine AR (fun a w => Fr 83 [] [(1, v3), (3, .pointer (some ⟨b1, 0, none⟩)), (6, .slice none 0 0), (7, v17), (8, .pointer (some ⟨b2, 0, none⟩)), (10, .pointer (some ⟨b3, 0, none⟩)), (14, v9), (15, .int .i64 (x3.length : Int)), (16, .int .i64 x5), (46, .bool (decide (x7.2.2.2.2.2.1 = 3) && decide (x7.2.2.2.2.2.2.1 ≠ x7.2.2.1)))] a ∧ Stw ⟨Y, [], w0⟩ [(b3, [.int .i64 x7.1, .int .i64 x7.2.1, .int .i64 x7.2.2.1, .int .i64 x7.2.2.2.1, (v13.2.2.2.2.1.1), .int .i64 x7.2.2.2.2.2.1, .int .i64 x7.2.2.2.2.2.2.1, .int .i64 x7.2.2.2.2.2.2.2]), (b2, [v6, v7]), (b1, [.int .i64 p0.1, v1, v2])] [row v17 45 Em x11, row v9 78 Hc x3, Gl (v13.2.2.2.2.1.1) (Rp.int .i64) x7.2.2.2.2.1, row v6 38 BK x1.1, row v7 91 DQ x1.2] w) ?_ ?_
     ·
      refine Ab ?_
      refine ls F W Aa (Af DT Aa Aa Aa T3 F Aa 5 Aa).q fun a w F W => ?_
      refine ls F W Aa (Ak (v := Value.int .i64 x7.2.2.2.2.2.1) 0 F Aa Aa T3 Aa).q fun a w F W => ?_
      refine ls F W Aa (CB F Aa Aa).q fun a w F W => ?_
      refine ls F W Aa (Ag F Aa).q fun a w F W => ?_
      rcases Bool.eq_false_or_eq_true (decide (x7.2.2.2.2.2.1 = 3)) with hb0 | hb0
      ·
       rw [hb0] at F
       refine AH F W (Ai F Aa Aa Aa Aa) Aa (Ao Aa) (Af DT Aa Aa Aa T3 F Aa 6 Aa).q fun a w F W => ?_
       refine AH F W (Ai F Aa Aa Aa Aa) Aa (Ao Aa) (Ak (v := Value.int .i64 x7.2.2.2.2.2.2.1) 0 F Aa Aa T3 Aa).q fun a w F W => ?_
       refine AH F W (Ai F Aa Aa Aa Aa) Aa (Ao Aa) (Af DT Aa Aa Aa T3 F Aa 2 Aa).q fun a w F W => ?_
       refine AH F W (Ai F Aa Aa Aa Aa) Aa (Ao Aa) (Ak (v := Value.int .i64 x7.2.2.1) 0 F Aa Aa T3 Aa).q fun a w F W => ?_
       refine AH F W (Ai F Aa Aa Aa Aa) Aa (Ao Aa) (Fv F Aa Aa).q fun a w F W => ?_
       refine ls F W Aa (Av F Aa Aa Aa).q fun a w F W => ?_
       refine Ad (Ac ?_)
       exact ⟨F.re ⟨rfl, Aa, Aa, Aa, Aa, Aa, Aa, Aa, Aa, (by show some (Value.bool (decide (x7.2.2.2.2.2.2.1 ≠ x7.2.2.1))) = some (Value.bool (decide (x7.2.2.2.2.2.1 = 3) && decide (x7.2.2.2.2.2.2.1 ≠ x7.2.2.1))); try rw [hb0]; all_goals simp only [Bool.not_true, Bool.not_false, Bool.true_and, Bool.false_and, Bool.true_or, Bool.false_or, Bool.and_true, Bool.or_false, cond_true, cond_false]), trivial⟩, W⟩
      rw [hb0] at F
      iterate 5 refine Dm F Aa Aa Aa Aa Aa Aa Aa fun a F => ?_
      refine ls F W Aa (AF F Aa Aa Aa).q fun a w F W => ?_
      refine Ad (Ac ?_)
      exact ⟨F.re ⟨rfl, Aa, Aa, Aa, Aa, Aa, Aa, Aa, Aa, (by show some (Value.bool false) = some (Value.bool (decide (x7.2.2.2.2.2.1 = 3) && decide (x7.2.2.2.2.2.2.1 ≠ x7.2.2.1))); try rw [hb0]; all_goals simp only [Bool.not_true, Bool.not_false, Bool.true_and, Bool.false_and, Bool.true_or, Bool.false_or, Bool.and_true, Bool.or_false, cond_true, cond_false]), trivial⟩, W⟩
     rintro a w ⟨F, W⟩
     refine AB F Aa (fun hb => ?_) fun hb => ?_
     ·
      have H := AU hb H
      rw [hb] at F
      clear hb
      refine Ab ?_
      refine ls F W Aa (Ag F Aa).q fun a w F W => ?_
      refine ls F W Aa (Af DT Aa Aa Aa T3 F Aa 0 Aa).q fun a w F W => ?_
      refine ls F W Aa (Ak (v := Value.int .i64 x7.1) 0 F Aa Aa T3 Aa).q fun a w F W => ?_
      refine ls F W Aa (Bf (v := Value.agg #[.int .i64 3, .int .i64 x7.1]) Ls F Aa Aa Aa).q fun a w F W => ?_
      refine CV (z := Value.agg #[.int .i64 0, .int .i64 0]) (cs := [.int .i64 3, .int .i64 x7.1]) Em ([(3, x7.1)] : List (Int × Int)) F W Aa Kv LM Aa Aa Aa Aa Aa Aa (LE.repL _ _ ([(3, x7.1)] : List (Int × Int))) fun v21 a w F W => ?_
      obtain ⟨x14, h12, H⟩ := An H
      refine Ca (r := Em) (i := 1) F W Aa Kv Aa Aa Aa Aa (CI W 0 Aa) h12 Aa fun v22 a w F W => ?_
      have W : Stw ⟨Y, [], w0⟩ [(b3, [.int .i64 x7.1, .int .i64 x7.2.1, .int .i64 x7.2.2.1, .int .i64 x7.2.2.2.1, (v13.2.2.2.2.1.1), .int .i64 x7.2.2.2.2.2.1, .int .i64 x7.2.2.2.2.2.2.1, .int .i64 x7.2.2.2.2.2.2.2]), (b2, [v6, v7]), (b1, [.int .i64 p0.1, v1, v2])] [row v22 45 Em x14, row v21 45 Em ([(3, x7.1)] : List (Int × Int)), row v9 78 Hc x3, Gl (v13.2.2.2.2.1.1) (Rp.int .i64) x7.2.2.2.2.1, row v6 38 BK x1.1, row v7 91 DQ x1.2] w := W
      refine ls F W Aa (Ae F Aa).q fun a w F W => ?_
      refine Ad (Ac ?_)
      have W := W.frontZ (i := 5) Aa Aa
      have W := W.frontZ (i := 5) Aa Aa
      have W := W.frontZ (i := 5) Aa Aa
      have W := W.frontZ (i := 5) Aa Aa
      have W := W.frontZ (i := 4) Aa Aa
      have W := W.frontM (i := 2) Aa Aa
      have W := W.frontM (i := 2) Aa Aa
      have W := W.frontM (i := 2) Aa Aa
      have W := W.sub (M' := [(b3, [.int .i64 x7.1, .int .i64 x7.2.1, .int .i64 x7.2.2.1, .int .i64 x7.2.2.2.1, (v13.2.2.2.2.1.1), .int .i64 x7.2.2.2.2.2.1, .int .i64 x7.2.2.2.2.2.2.1, .int .i64 x7.2.2.2.2.2.2.2]), (b2, [v6, v7]), (b1, [.int .i64 p0.1, v1, v2])]) (Z' := [row v22 45 Em x14, row v9 78 Hc x3, Gl (v13.2.2.2.2.1.1) (Rp.int .i64) x7.2.2.2.2.1, row v6 38 BK x1.1, row v7 91 DQ x1.2]) (List.Sublist.refl _) (List.Sublist.cons_cons _ (List.Sublist.cons_cons _ (List.Sublist.cons_cons _ (List.Sublist.cons_cons _ (List.Sublist.cons_cons _ (List.nil_sublist _))))))
      exact ⟨_, (v22), H, F.re ⟨rfl, Aa, Aa, Aa, Aa, Aa, Aa, Aa, Aa, trivial⟩, W⟩
     have H := AW (by rw [hb]; decide) H
     rw [hb] at F
     clear hb
     refine As (Ac ?_)
     have W := W.frontZ (i := 4) Aa Aa
     have W := W.frontZ (i := 4) Aa Aa
     have W := W.frontZ (i := 4) Aa Aa
     have W := W.frontZ (i := 4) Aa Aa
     have W := W.frontZ (i := 4) Aa Aa
     have W := W.frontM (i := 2) Aa Aa
     have W := W.frontM (i := 2) Aa Aa
     have W := W.frontM (i := 2) Aa Aa
     exact ⟨_, (v17), H, F.re ⟨rfl, Aa, Aa, Aa, Aa, Aa, Aa, Aa, Aa, trivial⟩, W⟩
    rintro a w ⟨x13, v20, hj, F, W⟩
    have hj := AV hj
    subst hj
    have H := K6
    clear G6 K6
    obtain ⟨o7, G7, K7⟩ := An H
    refine AR (fun a w => ∃ x15 : Bool, some (x15) = some o7 ∧ Fr 83 [] [(1, v3), (3, .pointer (some ⟨b1, 0, none⟩)), (6, .slice none 0 0), (7, v20), (8, .pointer (some ⟨b2, 0, none⟩)), (10, .pointer (some ⟨b3, 0, none⟩)), (14, v9), (15, .int .i64 (x3.length : Int)), (16, .int .i64 x5), (74, .bool x15)] a ∧ Stw ⟨Y, [], w0⟩ [(b3, [.int .i64 x7.1, .int .i64 x7.2.1, .int .i64 x7.2.2.1, .int .i64 x7.2.2.2.1, (v13.2.2.2.2.1.1), .int .i64 x7.2.2.2.2.2.1, .int .i64 x7.2.2.2.2.2.2.1, .int .i64 x7.2.2.2.2.2.2.2]), (b2, [v6, v7]), (b1, [.int .i64 p0.1, v1, v2])] [row v20 45 Em x13, row v9 78 Hc x3, Gl (v13.2.2.2.2.1.1) (Rp.int .i64) x7.2.2.2.2.1, row v6 38 BK x1.1, row v7 91 DQ x1.2] w) ?_ ?_
    ·
     have H := G7
     clear G7 K7
     refine Du W MO (by kernel_rfl) ?_
     refine qs F Aa (Af DT Aa Aa Aa F8 F Aa 4 Aa).q fun a F => ?_
     refine qs F Aa (Ak (v := (v13.2.2.2.2.1.1)) 0 F Aa Aa F8 Aa).q fun a F => ?_
     refine qs F Aa (Bi (r := (Rp.int .i64)) (l := x7.2.2.2.2.1) F4 Aa F Aa (H0 2 Aa)).q fun a F => ?_
     refine qs F Aa (Hk F Aa Aa).q fun a F => ?_
     refine qs F Aa (Ag F Aa).q fun a F => ?_
     rcases Bool.eq_false_or_eq_true (decide (0 < (x7.2.2.2.2.1.length : Int))) with hb | hb
     ·
      have H := AU (Bv hb) H
      rw [hb] at F
      clear hb
      refine FH F (Ai F Aa Aa Aa Aa) Aa (Ao Aa) (Ak (v := Value.agg #[v6, v7]) 1 F Aa Aa K9 Aa).q fun a F => ?_
      refine FH F (Ai F Aa Aa Aa Aa) Aa (Ao Aa) (Af DT Aa Aa Aa T3 F Aa 3 Aa).q fun a F => ?_
      refine FH F (Ai F Aa Aa Aa Aa) Aa (Ao Aa) (Ak (v := Value.int .i64 x7.2.2.2.1) 0 F Aa Aa T3 Aa).q fun a F => ?_
      obtain ⟨x16, h13, H⟩ := An H
      refine FH F (Ai F Aa Aa Aa Aa) Aa (Ao Aa) (BB (v := Value.bool x16) F Mq Aa (fun w W => CK any w (v6) (v7) x1 x7.2.2.2.1 _ h13 (((AE 3 Aa) : DC _ _ _ _ _ _) w W).nx (((AE 4 Aa) : DC _ _ _ _ _ _) w W).nx)) fun a F => ?_
      refine FH F (Ai F Aa Aa Aa Aa) Aa (Ao Aa) (Gr F Aa).q fun a F => ?_
      refine qs F Aa (Av F Aa Aa Aa).q fun a F => ?_
      refine qs F Aa (Ag F Aa).q fun a F => ?_
      rcases Bool.eq_false_or_eq_true (!x16) with hb | hb
      ·
       have H := AU hb H
       rw [hb] at F
       clear hb
       refine FH F (Ai F Aa Aa Aa Aa) Aa (Ao Aa) (Ak (v := Value.agg #[.int .i64 p0.1, v1, v2]) 2 F Aa Aa Jv Aa).q fun a F => ?_
       refine FH F (Ai F Aa Aa Aa Aa) Aa (Ao Aa) (Ag F Aa).q fun a F => ?_
       refine FH F (Ai F Aa Aa Aa Aa) Aa (Ao Aa) (Ak (v := Value.agg #[v6, v7]) 1 F Aa Aa K9 Aa).q fun a F => ?_
       refine FH F (Ai F Aa Aa Aa Aa) Aa (Ao Aa) (Af DT Aa Aa Aa T3 F Aa 3 Aa).q fun a F => ?_
       refine FH F (Ai F Aa Aa Aa Aa) Aa (Ao Aa) (Ak (v := Value.int .i64 x7.2.2.2.1) 0 F Aa Aa T3 Aa).q fun a F => ?_
       obtain ⟨x17, h14, H⟩ := An H
       refine FH F (Ai F Aa Aa Aa Aa) Aa (Ao Aa) (BB (v := Value.int .i64 x17) F Mh Aa (fun w W => C3 any w (v6) (v7) x1 x7.2.2.2.1 _ h14 (((AE 3 Aa) : DC _ _ _ _ _ _) w W).nx (((AE 4 Aa) : DC _ _ _ _ _ _) w W).nx)) fun a F => ?_
       refine FH F (Ai F Aa Aa Aa Aa) Aa (Ao Aa) (Ak (v := Value.agg #[.int .i64 x7.1, .int .i64 x7.2.1, .int .i64 x7.2.2.1, .int .i64 x7.2.2.2.1, (v13.2.2.2.2.1.1), .int .i64 x7.2.2.2.2.2.1, .int .i64 x7.2.2.2.2.2.2.1, .int .i64 x7.2.2.2.2.2.2.2]) 0 F Aa Aa LK Aa).q fun a F => ?_
       obtain ⟨x18, h15, H⟩ := An H
       refine FH F (Ai F Aa Aa Aa Aa) Aa (Ao Aa) (BB (v := Value.bool x18) F Nm Aa (fun w W => GE any w (v1) (v2) (v3) ((v13.2.2.2.2.1.1)) p0 p1 x17 x7 _ h15 (((Al h_v1) : DC _ _ _ _ _ _) w W).nx (((Al h_v2) : DC _ _ _ _ _ _) w W).nx (((C5 Kn h1 (Al h_v3)) : DC _ _ _ _ _ _) w W).nx (((H0 2 Aa) : DC _ _ _ _ _ _) w W).nx)) fun a F => ?_
       refine FH F (Ai F Aa Aa Aa Aa) Aa (Ao Aa) (Gr F Aa).q fun a F => ?_
       refine qs F Aa (Av F Aa Aa Aa).q fun a F => ?_
       refine B8 fun w W => ?_
       refine Ac ?_
       have W := W.frontZ (i := 4) Aa Aa
       have W := W.frontZ (i := 4) Aa Aa
       have W := W.frontZ (i := 4) Aa Aa
       have W := W.frontZ (i := 4) Aa Aa
       have W := W.frontZ (i := 4) Aa Aa
       have W := W.frontM (i := 2) Aa Aa
       have W := W.frontM (i := 2) Aa Aa
       have W := W.frontM (i := 2) Aa Aa
       exact ⟨_, H, F.re ⟨rfl, Aa, Aa, Aa, Aa, Aa, Aa, Aa, Aa, Aa, trivial⟩, W⟩
      have H := AW (by rw [hb]; decide) H
      rw [hb] at F
      clear hb
      iterate 9 refine Im F (FU F Aa Aa Aa Aa Aa) Aa Aa fun a F => ?_
      refine qs F Aa (AF F Aa Aa Aa).q fun a F => ?_
      refine B8 fun w W => ?_
      refine Ac ?_
      have W := W.frontZ (i := 4) Aa Aa
      have W := W.frontZ (i := 4) Aa Aa
      have W := W.frontZ (i := 4) Aa Aa
      have W := W.frontZ (i := 4) Aa Aa
      have W := W.frontZ (i := 4) Aa Aa
      have W := W.frontM (i := 2) Aa Aa
      have W := W.frontM (i := 2) Aa Aa
      have W := W.frontM (i := 2) Aa Aa
      exact ⟨_, H, F.re ⟨rfl, Aa, Aa, Aa, Aa, Aa, Aa, Aa, Aa, Aa, trivial⟩, W⟩
     have H := AW (Bu hb) H
     rw [hb] at F
     clear hb
     iterate 5 refine Im F (FU F Aa Aa Aa Aa Aa) Aa Aa fun a F => ?_
     refine qs F Aa (AF F Aa Aa Aa).q fun a F => ?_
     refine qs F Aa (Ag F Aa).q fun a F => ?_
     iterate 9 refine Im F (FU F Aa Aa Aa Aa Aa) Aa Aa fun a F => ?_
     refine qs F Aa (AF F Aa Aa Aa).q fun a F => ?_
     refine B8 fun w W => ?_
     refine Ac ?_
     have W := W.frontZ (i := 4) Aa Aa
     have W := W.frontZ (i := 4) Aa Aa
     have W := W.frontZ (i := 4) Aa Aa
     have W := W.frontZ (i := 4) Aa Aa
     have W := W.frontZ (i := 4) Aa Aa
     have W := W.frontM (i := 2) Aa Aa
     have W := W.frontM (i := 2) Aa Aa
     have W := W.frontM (i := 2) Aa Aa
     exact ⟨_, H, F.re ⟨rfl, Aa, Aa, Aa, Aa, Aa, Aa, Aa, Aa, Aa, trivial⟩, W⟩
    rintro a w ⟨x15, hj, F, W⟩
    have hj := AV hj
    subst hj
    have H := K7
    clear G7 K7
    refine AB F Aa (fun hb => ?_) fun hb => ?_
    ·
     have H := AU hb H
     rw [hb] at F
     clear hb
     refine Ab ?_
     refine ls F W Aa (Ag F Aa).q fun a w F W => ?_
     refine ls F W Aa (Af DT Aa Aa Aa T3 F Aa 0 Aa).q fun a w F W => ?_
     refine ls F W Aa (Ak (v := Value.int .i64 x7.1) 0 F Aa Aa T3 Aa).q fun a w F W => ?_
     refine ls F W Aa (Bf (v := Value.agg #[.int .i64 4, .int .i64 x7.1]) Ls F Aa Aa Aa).q fun a w F W => ?_
     refine CV (z := Value.agg #[.int .i64 0, .int .i64 0]) (cs := [.int .i64 4, .int .i64 x7.1]) Em ([(4, x7.1)] : List (Int × Int)) F W Aa Kv LM Aa Aa Aa Aa Aa Aa (LE.repL _ _ ([(4, x7.1)] : List (Int × Int))) fun v23 a w F W => ?_
     obtain ⟨x19, h16, H⟩ := An H
     refine Ca (r := Em) (i := 1) F W Aa Kv Aa Aa Aa Aa (CI W 0 Aa) h16 Aa fun v24 a w F W => ?_
     have W : Stw ⟨Y, [], w0⟩ [(b3, [.int .i64 x7.1, .int .i64 x7.2.1, .int .i64 x7.2.2.1, .int .i64 x7.2.2.2.1, (v13.2.2.2.2.1.1), .int .i64 x7.2.2.2.2.2.1, .int .i64 x7.2.2.2.2.2.2.1, .int .i64 x7.2.2.2.2.2.2.2]), (b2, [v6, v7]), (b1, [.int .i64 p0.1, v1, v2])] [row v24 45 Em x19, row v23 45 Em ([(4, x7.1)] : List (Int × Int)), row v9 78 Hc x3, Gl (v13.2.2.2.2.1.1) (Rp.int .i64) x7.2.2.2.2.1, row v6 38 BK x1.1, row v7 91 DQ x1.2] w := W
     refine ls F W Aa (Ae F Aa).q fun a w F W => ?_
     refine Ad (AJ (Ac ?_))
     have W := W.frontZ (i := 5) Aa Aa
     have W := W.frontZ (i := 5) Aa Aa
     have W := W.frontZ (i := 4) Aa Aa
     have W := W.frontZ (i := 3) Aa Aa
     have W := W.frontM (i := 2) Aa Aa
     have W := W.frontM (i := 2) Aa Aa
     have W := W.sub (M' := [(b2, [v6, v7]), (b1, [.int .i64 p0.1, v1, v2])]) (Z' := [row v24 45 Em x19, row v9 78 Hc x3, row v6 38 BK x1.1, row v7 91 DQ x1.2]) (List.Sublist.cons_cons _ (List.Sublist.cons_cons _ (List.nil_sublist _))) (List.Sublist.cons_cons _ (List.Sublist.cons_cons _ (List.Sublist.cons_cons _ (List.Sublist.cons_cons _ (List.nil_sublist _)))))
     exact ⟨_, (v24), H, F.re ⟨rfl, Aa, Aa, Aa, Aa, Aa, Aa, Aa, trivial⟩, W⟩
    have H := AW (by rw [hb]; decide) H
    rw [hb] at F
    clear hb
    refine As (AJ (Ac ?_))
    have W := W.frontZ (i := 4) Aa Aa
    have W := W.frontZ (i := 4) Aa Aa
    have W := W.frontZ (i := 3) Aa Aa
    have W := W.frontZ (i := 3) Aa Aa
    have W := W.frontM (i := 2) Aa Aa
    have W := W.frontM (i := 2) Aa Aa
    have W := W.sub (M' := [(b2, [v6, v7]), (b1, [.int .i64 p0.1, v1, v2])]) (Z' := [row v20 45 Em x13, row v9 78 Hc x3, row v6 38 BK x1.1, row v7 91 DQ x1.2]) (List.Sublist.cons_cons _ (List.Sublist.cons_cons _ (List.nil_sublist _))) (List.Sublist.cons_cons _ (List.Sublist.cons_cons _ (List.Sublist.cons_cons _ (List.Sublist.cons_cons _ (List.nil_sublist _)))))
    exact ⟨_, (v20), H, F.re ⟨rfl, Aa, Aa, Aa, Aa, Aa, Aa, Aa, trivial⟩, W⟩
   rintro a w ⟨x6, v11, hj, F, W⟩
   have hj := AV hj
   subst hj
   have H := K3
   clear G3 K3
   refine Ab ?_
   refine ls F W Aa (CW F Aa Aa Aa).q fun a w F W => ?_
   refine ls F W Aa (Ag F Aa).q fun a w F W => ?_
   refine Ad (Ac ?_)
   have W := W.frontZ (i := 3) Aa Aa
   have W := W.frontZ (i := 3) Aa Aa
   have W := W.frontZ (i := 3) Aa Aa
   have W := W.frontZ (i := 3) Aa Aa
   have W := W.frontM (i := 1) Aa Aa
   have W := W.frontM (i := 1) Aa Aa
   exact ⟨_, H, (v11), F.re ⟨rfl, Aa, Aa, Aa, Aa, Aa, Aa, Aa, trivial⟩, W⟩
  have H := AW (Bu hb) H
  rw [hb] at F
  clear hb
  refine BC ?_
  iterate 2 refine B6 ?_
  refine BD (Ac ?_)
  have W := W.frontZ (i := 3) Aa Aa
  have W := W.frontZ (i := 3) Aa Aa
  have W := W.frontZ (i := 2) Aa Aa
  have W := W.frontM (i := 1) Aa Aa
  have W := W.frontM (i := 1) Aa Aa
  have W := W.sub (M' := [(b2, [v6, v7]), (b1, [.int .i64 p0.1, v1, v2])]) (Z' := [row v10 45 Em x4, row v6 38 BK x1.1, row v7 91 DQ x1.2]) (List.Sublist.refl _) (List.Sublist.cons_cons _ (List.Sublist.cons_cons _ (List.Sublist.cons_cons _ (List.nil_sublist _))))
  have H := L2 _ H
  exact ⟨_, (v10), H, F.re ⟨rfl, Aa, trivial⟩, W⟩
 rintro a w ⟨x2, v8, hj, F, W⟩
 have hj := AV hj
 subst hj
 have H := K1
 clear G1 K1
 refine Ah (Ab ?_)
 refine ls F W Aa (Ag F Aa).q fun a w F W => ?_
 refine ls F W Aa (Ae F Aa).q fun a w F W => ?_
 refine Ad (Ac (Ay ?_))
 have H := AV H
 subst H
 refine A5 (.inl Aa) F W Aa (Au F Aa) ?_
 have W := W.sub (M' := []) (Z' := [row v8 45 Em x2]) (List.nil_sublist _) (List.Sublist.cons_cons _ (List.nil_sublist _))
 exact ⟨(v8), Aa, W⟩
theorem Mm : Has Try.prog 17 := ⟨fun args w => Aj Try.func17 rfl (by decide) args w⟩
theorem MQ : Ty Try.prog 45 true 2 := ⟨by kernel_rfl, by kernel_rfl⟩
theorem LP (dd : Nat) (x0 : Int) (x1 : Int) (y0 : Int) (y1 : Int) (w : World) : (Op.equalIn (dd + 2) 45 (.agg #[.int .i64 x0, .int .i64 x1]) (.agg #[.int .i64 y0, .int .i64 y1])).run Try.prog w = .ok (decide (x0 = y0 ∧ x1 = y1)) w :=
  Fj (d := dd + 1) (rs := [decide (x0 = y0), decide (x1 = y1)]) Lp (by kernel_rfl) ⟨rfl, DY (d := dd + 0) rfl rfl Jw T3 rfl rfl, rfl, DY (d := dd + 0) rfl rfl Jw T3 rfl rfl, trivial⟩ (by simp) w
theorem MW : Try.prog.eqGuardType Try.prog.depth 45 = false := by kernel_rfl
theorem Ng (x0 : Int) (x1 : Int) (y0 : Int) (y1 : Int) (w : World) : (Op.equalIn 10000 45 (.agg #[.int .i64 x0, .int .i64 x1]) (.agg #[.int .i64 y0, .int .i64 y1])).run Try.prog w = .ok (decide (x0 = y0 ∧ x1 = y1)) w := LP 9998 x0 x1 y0 y1 w
def Ds (p0 : Int) : List UInt8 := (if p0 = 1 then ([116, 119, 105, 99, 101] : List UInt8) else (if p0 = 2 then ([108, 111, 115, 116] : List UInt8) else (if p0 = 3 then ([97, 115, 116, 114, 97, 121] : List UInt8) else (if p0 = 4 then ([111, 116, 104, 101, 114] : List UInt8) else ([63] : List UInt8)))))
theorem Ib (Y : Nat → Prop) (w0 : World)  (p0 : Int) (r : List UInt8) (H : Ds p0 = r)  :
    Calls Try.prog 15 #[.int .i64 p0] w0 fun e w' => e = .returned (.string (bs r)) ∧ Below w0.heap.size w0 w' := by
 refine enter Try.func15 Aa Try.ntmps15 Aa fun a F => ?_
 have W := Stw.start Y w0
 unfold Ds at H
 refine Ah (Ab ?_)
 refine ls F W Aa (Ae (v := Value.string (bs ([] : List UInt8))) F Aa).q fun a w F W => ?_
 refine Ad (Ac (Ah (Ah (Ab ?_))))
 refine ls F W Aa (Ag F Aa).q fun a w F W => ?_
 refine Ad (Ac (Ax (Ah (Ab ?_))))
 refine ls F W Aa (CB F Aa Aa).q fun a w F W => ?_
 refine ls F W Aa (Ae F Aa).q fun a w F W => ?_
 refine Ad (Ac ?_)
 refine AB F Aa (fun hb => ?_) fun hb => ?_
 ·
  have H := AU (Bv hb) H
  rw [hb] at F
  clear hb
  refine Ah (Ab ?_)
  refine ls F W Aa (Ae (v := Value.string (bs ([116, 119, 105, 99, 101] : List UInt8))) F Aa).q fun a w F W => ?_
  refine Ad (Ac (Ay (AP (AL ?_))))
  subst H
  refine A5 (.inl Aa) F W Aa (Au F Aa) ?_
  exact ⟨rfl, W.done⟩
 have H := AW (Bu hb) H
 rw [hb] at F
 clear hb
 refine Ah (Ab ?_)
 refine ls F W Aa (CB F Aa Aa).q fun a w F W => ?_
 refine ls F W Aa (Ae F Aa).q fun a w F W => ?_
 refine Ad (Ac ?_)
 refine AB F Aa (fun hb => ?_) fun hb => ?_
 ·
  have H := AU (Bv hb) H
  rw [hb] at F
  clear hb
  refine Ah (Ab ?_)
  refine ls F W Aa (Ae (v := Value.string (bs ([108, 111, 115, 116] : List UInt8))) F Aa).q fun a w F W => ?_
  refine Ad (Ac (Ay (AP (AL ?_))))
  subst H
  refine A5 (.inl Aa) F W Aa (Au F Aa) ?_
  exact ⟨rfl, W.done⟩
 have H := AW (Bu hb) H
 rw [hb] at F
 clear hb
 refine Ah (Ab ?_)
 refine ls F W Aa (CB F Aa Aa).q fun a w F W => ?_
 refine ls F W Aa (Ae F Aa).q fun a w F W => ?_
 refine Ad (Ac ?_)
 refine AB F Aa (fun hb => ?_) fun hb => ?_
 ·
  have H := AU (Bv hb) H
  rw [hb] at F
  clear hb
  refine Ah (Ab ?_)
  refine ls F W Aa (Ae (v := Value.string (bs ([97, 115, 116, 114, 97, 121] : List UInt8))) F Aa).q fun a w F W => ?_
  refine Ad (Ac (Ay (AP (AL ?_))))
  subst H
  refine A5 (.inl Aa) F W Aa (Au F Aa) ?_
  exact ⟨rfl, W.done⟩
 have H := AW (Bu hb) H
 rw [hb] at F
 clear hb
 refine Ah (Ab ?_)
 refine ls F W Aa (CB F Aa Aa).q fun a w F W => ?_
 refine ls F W Aa (Ae F Aa).q fun a w F W => ?_
 refine Ad (Ac ?_)
 refine AB F Aa (fun hb => ?_) fun hb => ?_
 ·
  have H := AU (Bv hb) H
  rw [hb] at F
  clear hb
  refine Ah (Ab ?_)
  refine ls F W Aa (Ae (v := Value.string (bs ([111, 116, 104, 101, 114] : List UInt8))) F Aa).q fun a w F W => ?_
  refine Ad (Ac (Ay (AP (AL ?_))))
  subst H
  refine A5 (.inl Aa) F W Aa (Au F Aa) ?_
  exact ⟨rfl, W.done⟩
 have H := AW (Bu hb) H
 rw [hb] at F
 clear hb
 refine As (AJ (Ac (Ah (Ab ?_))))
 refine ls F W Aa (Ae (v := Value.string (bs ([63] : List UInt8))) F Aa).q fun a w F W => ?_
 refine Ad (Ac (Ay ?_))
 subst H
 refine A5 (.inl Aa) F W Aa (Au F Aa) ?_
 exact ⟨rfl, W.done⟩
theorem MU : Has Try.prog 15 := ⟨fun args w => Aj Try.func15 rfl (by decide) args w⟩
noncomputable def C2  : Option Bool := (C0 (1, ([] : List (Int × Int × Int × Int × Int × Int)), ([(0, 3)] : List (Int × Int))) ([([([3] : List Int)] : List (List Int))] : List (List (List Int))) ([(1, 0, 4, 0, 0, 0), (4, 0, 4, 0, 0, 0)] : List (Int × Int × Int × Int × Int × Int))).bind fun x1 => ((C0 (1, ([] : List (Int × Int × Int × Int × Int × Int)), ([(0, 3)] : List (Int × Int))) ([([([3] : List Int)] : List (List Int))] : List (List (List Int))) ([(1, 0, 0, 0, 0, 0), (2, 0, 0, 0, 0, 0), (3, 0, 0, 0, 0, 0)] : List (Int × Int × Int × Int × Int × Int))).bind fun x3 => (if (x3.length : Int) = 0 then (if (x1.length : Int) = 1 then (ix x1 0).bind fun x4 => (if x4.1 = 2 ∧ x4.2 = 4 then some (decide ((Ds 2) = ([108, 111, 115, 116] : List UInt8))) else some false) else some false) else some false)).bind fun x2 => some x2
theorem Fh (Y : Nat → Prop) (w0 : World)   (r : Bool) (H : C2  = some r)  :
    Calls Try.prog 8 #[] w0 fun e w' => e = .returned (.bool r) ∧ Below w0.heap.size w0 w' := by
 refine enter Try.func8 Aa Try.ntmps8 Aa fun a F => ?_
 have W := Stw.start Y w0
 unfold C2 at H
 refine Ah (Ab ?_)
 refine ls F W Aa (Ae F Aa).q fun a w F W => ?_
 refine Ad (Ac (Ah (Ab ?_)))
 refine ls F W Aa (Bf (v := Value.agg #[.int .i64 0, .int .i64 3]) Mi F Aa Aa Aa).q fun a w F W => ?_
 refine CV (z := Value.agg #[.int .i64 0, .int .i64 0]) (cs := [.int .i64 0, .int .i64 3]) F2 ([(0, 3)] : List (Int × Int)) F W Aa LQ Mu Aa Aa Aa Aa Aa Aa (Me.repL _ _ ([(0, 3)] : List (Int × Int))) fun v1 a w F W => ?_
 refine ls F W Aa (Bf (v := Value.agg #[.int .i64 1, .slice none 0 0, v1]) M0 F Aa (D2 Aa Aa Aa (D2 Aa (CG (W.one (k := 0) Aa)) Aa Fa)) Aa).q fun a w F W => ?_
 refine BI (cs := [.int .i64 0, .slice none 0 0, .slice none 0 0]) F W Aa NH Aa fun b1 a w F W => ?_
 refine Bx (vs := [.int .i64 1, .slice none 0 0, v1]) (M' := [(b1, [.int .i64 1, .slice none 0 0, v1])]) 0 F W Aa Aa Aa Jv Aa Aa Aa (A9 Aa (A9 Aa (A9 (W.one (k := 0) Aa) Fm))) Aa fun w W => ?_
 refine Ad (Ac (Ah (Ab ?_)))
 refine CV (z := Value.int .i64 0) (cs := [.int .i64 3]) (Rp.int .i64) ([3] : List Int) F W Aa Ip Z3 Aa Aa Aa Aa Aa Aa (Fl.int.repL _ _ ([3] : List Int)) fun v2 a w F W => ?_
 have W := W.freeze
 refine CV (z := Value.slice none 0 0) (cs := [v2]) (Rp.slice (Rp.int .i64)) ([([3] : List Int)] : List (List Int)) F W Aa Lr Nc Aa Aa Aa (D2 Aa (CG (W.oneF (k := 0) Aa)) Aa Fa) Aa Aa ⟨[v2], _, Aa, ⟨_, Aa, (W.item (i := 0) Aa)⟩, Aa⟩ fun v3 a w F W => ?_
 have W := W.freeze
 refine CV (z := Value.slice none 0 0) (cs := [v3]) (Rp.slice (Rp.slice (Rp.int .i64))) ([([([3] : List Int)] : List (List Int))] : List (List (List Int))) F W Aa Ms MC Aa Aa Aa (D2 Aa (CG (W.oneF (k := 0) Aa)) Aa Fa) Aa Aa ⟨[v3], _, Aa, ⟨_, Aa, (W.item (i := 0) Aa)⟩, Aa⟩ fun v4 a w F W => ?_
 refine ls F W Aa (Ae F Aa).q fun a w F W => ?_
 refine Ad (Ac (Ah (Ab ?_)))
 refine ls F W Aa (Bf (v := Value.agg #[.int .i64 1, .int .i64 0, .int .i64 0, .int .i64 0, .int .i64 0, .int .i64 0]) Lk F Aa Aa Aa).q fun a w F W => ?_
 refine ls F W Aa (Bf (v := Value.agg #[.int .i64 2, .int .i64 0, .int .i64 0, .int .i64 0, .int .i64 0, .int .i64 0]) Lk F Aa Aa Aa).q fun a w F W => ?_
 refine ls F W Aa (Bf (v := Value.agg #[.int .i64 3, .int .i64 0, .int .i64 0, .int .i64 0, .int .i64 0, .int .i64 0]) Lk F Aa Aa Aa).q fun a w F W => ?_
 refine CV (z := Value.agg #[.int .i64 0, .int .i64 0, .int .i64 0, .int .i64 0, .int .i64 0, .int .i64 0]) (cs := [.int .i64 1, .int .i64 0, .int .i64 0, .int .i64 0, .int .i64 0, .int .i64 0, .int .i64 2, .int .i64 0, .int .i64 0, .int .i64 0, .int .i64 0, .int .i64 0, .int .i64 3, .int .i64 0, .int .i64 0, .int .i64 0, .int .i64 0, .int .i64 0]) EN ([(1, 0, 0, 0, 0, 0), (2, 0, 0, 0, 0, 0), (3, 0, 0, 0, 0, 0)] : List (Int × Int × Int × Int × Int × Int)) F W Aa J8 KT Aa Aa Aa Aa Aa Aa (KC.repL _ _ ([(1, 0, 0, 0, 0, 0), (2, 0, 0, 0, 0, 0), (3, 0, 0, 0, 0, 0)] : List (Int × Int × Int × Int × Int × Int))) fun v5 a w F W => ?_
 refine ls F W Aa (Ae F Aa).q fun a w F W => ?_
 refine Ad (Ac (Ah (Ab ?_)))
 refine ls F W Aa (Ak (v := Value.agg #[.int .i64 1, .slice none 0 0, v1]) 0 F Aa Aa Jv Aa).q fun a w F W => ?_
 refine ls F W Aa (Ag F Aa).q fun a w F W => ?_
 refine ls F W Aa (Bf (v := Value.agg #[.int .i64 1, .int .i64 0, .int .i64 4, .int .i64 0, .int .i64 0, .int .i64 0]) Lk F Aa Aa Aa).q fun a w F W => ?_
 refine ls F W Aa (Bf (v := Value.agg #[.int .i64 4, .int .i64 0, .int .i64 4, .int .i64 0, .int .i64 0, .int .i64 0]) Lk F Aa Aa Aa).q fun a w F W => ?_
 refine CV (z := Value.agg #[.int .i64 0, .int .i64 0, .int .i64 0, .int .i64 0, .int .i64 0, .int .i64 0]) (cs := [.int .i64 1, .int .i64 0, .int .i64 4, .int .i64 0, .int .i64 0, .int .i64 0, .int .i64 4, .int .i64 0, .int .i64 4, .int .i64 0, .int .i64 0, .int .i64 0]) EN ([(1, 0, 4, 0, 0, 0), (4, 0, 4, 0, 0, 0)] : List (Int × Int × Int × Int × Int × Int)) F W Aa J8 KT Aa Aa Aa Aa Aa Aa (KC.repL _ _ ([(1, 0, 4, 0, 0, 0), (4, 0, 4, 0, 0, 0)] : List (Int × Int × Int × Int × Int × Int))) fun v6 a w F W => ?_
 obtain ⟨x1, h1, H⟩ := An H
 refine BP (Ml := []) (Zl := []) (M := [(b1, [.int .i64 1, .slice none 0 0, v1])]) (Z := [row v6 48 EN ([(1, 0, 4, 0, 0, 0), (4, 0, 4, 0, 0, 0)] : List (Int × Int × Int × Int × Int × Int)), row v5 48 EN ([(1, 0, 0, 0, 0, 0), (2, 0, 0, 0, 0, 0), (3, 0, 0, 0, 0, 0)] : List (Int × Int × Int × Int × Int × Int)), row v4 52 (Rp.slice (Rp.slice (Rp.int .i64))) ([([([3] : List Int)] : List (List Int))] : List (List (List Int))), Gl v3 (Rp.slice (Rp.int .i64)) ([([3] : List Int)] : List (List Int)), Gl v2 (Rp.int .i64) ([3] : List Int), row v1 60 F2 ([(0, 3)] : List (Int × Int))]) (β := Value) (rv := fun x => x) (MM := fun x => []) (ZZ := fun x => [row x 45 Em x1]) F W Mm Aa Aa (fun hL => Fu _ w (Value.slice none 0 0) (v1) (v4) (v6) (1, ([] : List (Int × Int × Int × Int × Int × Int)), ([(0, 3)] : List (Int × Int))) ([([([3] : List Int)] : List (List Int))] : List (List (List Int))) ([(1, 0, 4, 0, 0, 0), (4, 0, 4, 0, 0, 0)] : List (Int × Int × Int × Int × Int × Int)) _ h1 Sl.nil ((AE 5 Aa) w W).nx ((AE 2 Aa) w W).nx ((AE 0 Aa) w W).nx) fun x a w F W => ?_
 obtain ⟨v7, rfl⟩ : ∃ y, y = x := ⟨x, rfl⟩
 have W : Stw ⟨Y, [], w0⟩ [(b1, [.int .i64 1, .slice none 0 0, v1])] [row v7 45 Em x1, row v6 48 EN ([(1, 0, 4, 0, 0, 0), (4, 0, 4, 0, 0, 0)] : List (Int × Int × Int × Int × Int × Int)), row v5 48 EN ([(1, 0, 0, 0, 0, 0), (2, 0, 0, 0, 0, 0), (3, 0, 0, 0, 0, 0)] : List (Int × Int × Int × Int × Int × Int)), row v4 52 (Rp.slice (Rp.slice (Rp.int .i64))) ([([([3] : List Int)] : List (List Int))] : List (List (List Int))), Gl v3 (Rp.slice (Rp.int .i64)) ([([3] : List Int)] : List (List Int)), Gl v2 (Rp.int .i64) ([3] : List Int), row v1 60 F2 ([(0, 3)] : List (Int × Int))] w := W
 refine ls F W Aa (Ae F Aa).q fun a w F W => ?_
 refine Ad (Ac ?_)
 obtain ⟨o1, G1, K1⟩ := An H
 refine AR (fun a w => ∃ x2 : Bool, some (x2) = some o1 ∧ Fr 43 [] [(0, .bool x2)] a ∧ Stw ⟨Y, [], w0⟩ [(b1, [.int .i64 1, .slice none 0 0, v1])] [row v1 60 F2 ([(0, 3)] : List (Int × Int))] w) ?_ ?_
 ·
  have H := G1
  clear G1 K1
  refine Ab ?_
  refine ls F W Aa (Ak (v := Value.agg #[.int .i64 1, .slice none 0 0, v1]) 0 F Aa Aa Jv Aa).q fun a w F W => ?_
  iterate 2 refine ls F W Aa (Ag F Aa).q fun a w F W => ?_
  obtain ⟨x3, h2, H⟩ := An H
  refine BP (Ml := []) (Zl := []) (M := [(b1, [.int .i64 1, .slice none 0 0, v1])]) (Z := [row v7 45 Em x1, row v6 48 EN ([(1, 0, 4, 0, 0, 0), (4, 0, 4, 0, 0, 0)] : List (Int × Int × Int × Int × Int × Int)), row v5 48 EN ([(1, 0, 0, 0, 0, 0), (2, 0, 0, 0, 0, 0), (3, 0, 0, 0, 0, 0)] : List (Int × Int × Int × Int × Int × Int)), row v4 52 (Rp.slice (Rp.slice (Rp.int .i64))) ([([([3] : List Int)] : List (List Int))] : List (List (List Int))), Gl v3 (Rp.slice (Rp.int .i64)) ([([3] : List Int)] : List (List Int)), Gl v2 (Rp.int .i64) ([3] : List Int), row v1 60 F2 ([(0, 3)] : List (Int × Int))]) (β := Value) (rv := fun x => x) (MM := fun x => []) (ZZ := fun x => [row x 45 Em x3]) F W Mm Aa Aa (fun hL => Fu _ w (Value.slice none 0 0) (v1) (v4) (v5) (1, ([] : List (Int × Int × Int × Int × Int × Int)), ([(0, 3)] : List (Int × Int))) ([([([3] : List Int)] : List (List Int))] : List (List (List Int))) ([(1, 0, 0, 0, 0, 0), (2, 0, 0, 0, 0, 0), (3, 0, 0, 0, 0, 0)] : List (Int × Int × Int × Int × Int × Int)) _ h2 Sl.nil ((AE 6 Aa) w W).nx ((AE 3 Aa) w W).nx ((AE 2 Aa) w W).nx) fun x a w F W => ?_
  obtain ⟨v8, rfl⟩ : ∃ y, y = x := ⟨x, rfl⟩
  have W : Stw ⟨Y, [], w0⟩ [(b1, [.int .i64 1, .slice none 0 0, v1])] [row v8 45 Em x3, row v7 45 Em x1, row v6 48 EN ([(1, 0, 4, 0, 0, 0), (4, 0, 4, 0, 0, 0)] : List (Int × Int × Int × Int × Int × Int)), row v5 48 EN ([(1, 0, 0, 0, 0, 0), (2, 0, 0, 0, 0, 0), (3, 0, 0, 0, 0, 0)] : List (Int × Int × Int × Int × Int × Int)), row v4 52 (Rp.slice (Rp.slice (Rp.int .i64))) ([([([3] : List Int)] : List (List Int))] : List (List (List Int))), Gl v3 (Rp.slice (Rp.int .i64)) ([([3] : List Int)] : List (List Int)), Gl v2 (Rp.int .i64) ([3] : List Int), row v1 60 F2 ([(0, 3)] : List (Int × Int))] w := W
  refine ls F W Aa (Bi (r := Em) (l := x3) KW Aa F Aa (AE 0 Aa)).q fun a w F W => ?_
  refine ls F W Aa (CB F Aa Aa).q fun a w F W => ?_
  refine ls F W Aa (Ag F Aa).q fun a w F W => ?_
  rcases Bool.eq_false_or_eq_true (decide ((x3.length : Int) = 0)) with hb | hb
  ·
   have H := AU (Bv hb) H
   rw [hb] at F
   clear hb
   refine AH F W (Ai F Aa Aa Aa Aa) Aa (Ao Aa) (Ag F Aa).q fun a w F W => ?_
   refine AH F W (Ai F Aa Aa Aa Aa) Aa (Ao Aa) (Bi (r := Em) (l := x1) KW Aa F Aa (AE 1 Aa)).q fun a w F W => ?_
   refine AH F W (Ai F Aa Aa Aa Aa) Aa (Ao Aa) (CB F Aa Aa).q fun a w F W => ?_
   refine ls F W Aa (Av F Aa Aa Aa).q fun a w F W => ?_
   refine ls F W Aa (Ag F Aa).q fun a w F W => ?_
   rcases Bool.eq_false_or_eq_true (decide ((x1.length : Int) = 1)) with hb | hb
   ·
    have H := AU (Bv hb) H
    rw [hb] at F
    clear hb
    refine AH F W (Ai F Aa Aa Aa Aa) Aa (Ao Aa) (Ag F Aa).q fun a w F W => ?_
    obtain ⟨x4, h3, H⟩ := An H
    refine AH F W (Ai F Aa Aa Aa Aa) Aa (Ao Aa) (AN (r := Em) Kv F Aa Aa (AE 1 Aa) h3).q fun a w F W => ?_
    refine AH F W (Ai F Aa Aa Aa Aa) Aa (Ao Aa) (AG (y := Value.agg #[.int .i64 x4.1, .int .i64 x4.2]) (j := 0) (i := 0) F Aa Aa (AE 1 Aa) h3 LE.to MQ Aa).q fun a w F W => ?_
    refine AH F W (Ai F Aa Aa Aa Aa) Aa (Ao Aa) (Bf (v := Value.agg #[.int .i64 2, .int .i64 4]) Ls F Aa Aa Aa).q fun a w F W => ?_
    refine AH F W (Ai F Aa Aa Aa Aa) Aa (Ao Aa) (I1 (t := decide (x4.1 = 2 ∧ x4.2 = 4)) MW (Ng _ _ _ _) F Aa Aa).q fun a w F W => ?_
    refine ls F W Aa (Av F Aa Aa Aa).q fun a w F W => ?_
    refine ls F W Aa (Ag F Aa).q fun a w F W => ?_
    rcases Bool.eq_false_or_eq_true (decide (x4.1 = 2 ∧ x4.2 = 4)) with hb | hb
    ·
     have H := AU (Bv hb) H
     rw [hb] at F
     clear hb
     refine Jo (Ai F Aa Aa Aa Aa) ?_
     refine ls F W Aa (BB (v := Value.string (bs (Ds 2))) F MU Aa (fun w W => Ib any w 2 _ Aa)) fun a w F W => ?_
     refine AH F W (Ai F Aa Aa Aa Aa) Aa (Ao Aa) (LC (l := (Ds 2)) (m := ([108, 111, 115, 116] : List UInt8)) F Aa Aa).q fun a w F W => ?_
     refine ls F W Aa (Av F Aa Aa Aa).q fun a w F W => ?_
     refine ls F W Aa (Ae F Aa).q fun a w F W => ?_
     refine Ad (Ac ?_)
     have W := W.frontZ (i := 7) Aa Aa
     have W := W.sub (M' := [(b1, [.int .i64 1, .slice none 0 0, v1])]) (Z' := [row v1 60 F2 ([(0, 3)] : List (Int × Int))]) (List.Sublist.refl _) (List.Sublist.cons_cons _ (List.nil_sublist _))
     exact ⟨_, H, F.re ⟨rfl, trivial⟩, W⟩
    have H := AW (Bu hb) H
    rw [hb] at F
    clear hb
    iterate 2 refine Dm F Aa Aa Aa Aa Aa Aa Aa fun a F => ?_
    refine ls F W Aa (AF F Aa Aa Aa).q fun a w F W => ?_
    refine ls F W Aa (Ae F Aa).q fun a w F W => ?_
    refine Ad (Ac ?_)
    have W := W.frontZ (i := 7) Aa Aa
    have W := W.sub (M' := [(b1, [.int .i64 1, .slice none 0 0, v1])]) (Z' := [row v1 60 F2 ([(0, 3)] : List (Int × Int))]) (List.Sublist.refl _) (List.Sublist.cons_cons _ (List.nil_sublist _))
    exact ⟨_, H, F.re ⟨rfl, trivial⟩, W⟩
   have H := AW (Bu hb) H
   rw [hb] at F
   clear hb
   iterate 5 refine Dm F Aa Aa Aa Aa Aa Aa Aa fun a F => ?_
   refine ls F W Aa (AF F Aa Aa Aa).q fun a w F W => ?_
   refine ls F W Aa (Ag F Aa).q fun a w F W => ?_
   iterate 2 refine Dm F Aa Aa Aa Aa Aa Aa Aa fun a F => ?_
   refine ls F W Aa (AF F Aa Aa Aa).q fun a w F W => ?_
   refine ls F W Aa (Ae F Aa).q fun a w F W => ?_
   refine Ad (Ac ?_)
   have W := W.frontZ (i := 7) Aa Aa
   have W := W.sub (M' := [(b1, [.int .i64 1, .slice none 0 0, v1])]) (Z' := [row v1 60 F2 ([(0, 3)] : List (Int × Int))]) (List.Sublist.refl _) (List.Sublist.cons_cons _ (List.nil_sublist _))
   exact ⟨_, H, F.re ⟨rfl, trivial⟩, W⟩
  have H := AW (Bu hb) H
  rw [hb] at F
  clear hb
  iterate 3 refine Dm F Aa Aa Aa Aa Aa Aa Aa fun a F => ?_
  refine ls F W Aa (AF F Aa Aa Aa).q fun a w F W => ?_
  refine ls F W Aa (Ag F Aa).q fun a w F W => ?_
  iterate 5 refine Dm F Aa Aa Aa Aa Aa Aa Aa fun a F => ?_
  refine ls F W Aa (AF F Aa Aa Aa).q fun a w F W => ?_
  refine ls F W Aa (Ag F Aa).q fun a w F W => ?_
  iterate 2 refine Dm F Aa Aa Aa Aa Aa Aa Aa fun a F => ?_
  refine ls F W Aa (AF F Aa Aa Aa).q fun a w F W => ?_
  refine ls F W Aa (Ae F Aa).q fun a w F W => ?_
  refine Ad (Ac ?_)
  have W := W.frontZ (i := 7) Aa Aa
  have W := W.sub (M' := [(b1, [.int .i64 1, .slice none 0 0, v1])]) (Z' := [row v1 60 F2 ([(0, 3)] : List (Int × Int))]) (List.Sublist.refl _) (List.Sublist.cons_cons _ (List.nil_sublist _))
  exact ⟨_, H, F.re ⟨rfl, trivial⟩, W⟩
 rintro a w ⟨x2, hj, F, W⟩
 have hj := AV hj
 subst hj
 have H := K1
 clear G1 K1
 refine Ay ?_
 have H := AV H
 subst H
 refine A5 (.inl Aa) F W Aa (Au F Aa) ?_
 exact ⟨rfl, W.done⟩
theorem H8 : Has Try.prog 8 := ⟨fun args w => Aj Try.func8 rfl (by decide) args w⟩
noncomputable def Cv (p0 : List (Int × Int × Int × Int × Int × Int)) (p1 : Int) : Option Bool := (Co p0).bind fun x1 => (AO x1 p1).bind fun x2 => some x2
theorem E2 (Y : Nat → Prop) (w0 : World) (v1 : Value) (p0 : List (Int × Int × Int × Int × Int × Int)) (p1 : Int) (r : Bool) (H : Cv p0 p1 = some r) (h_v1 : Sl w0 (NX []) EN v1 p0) :
    Calls Try.prog 11 #[v1, .int .i64 p1] w0 fun e w' => e = .returned (.bool r) ∧ Below w0.heap.size w0 w' := by
 refine enter Try.func11 Aa Try.ntmps11 Aa fun a F => ?_
 have W := Stw.start Y w0
 unfold Cv at H
 refine Ah (Ab ?_)
 refine ls F W Aa (Ae F Aa).q fun a w F W => ?_
 refine Ad (Ac (Ah (Ab ?_)))
 refine ls F W Aa (Ag F Aa).q fun a w F W => ?_
 obtain ⟨x1, h1, H⟩ := An H
 refine BP (Ml := []) (Zl := []) (M := []) (Z := []) (β := Value × Value) (rv := fun x => .agg #[x.1, x.2]) (MM := fun x => []) (ZZ := fun x => [row x.1 38 BK x1.1, row x.2 91 DQ x1.2]) F W Mc Aa Aa (fun hL => EZ _ w (v1) p0 _ h1 ((Al h_v1) w W).nx) fun x a w F W => ?_
 obtain ⟨v2, v3⟩ := x
 have W : Stw ⟨Y, [], w0⟩ [] [row v2 38 BK x1.1, row v3 91 DQ x1.2] w := W
 refine ls F W Aa (Ag F Aa).q fun a w F W => ?_
 obtain ⟨x2, h2, H⟩ := An H
 refine ls F W Aa (BB (v := Value.bool x2) F Mq Aa (fun w W => CK any w (v2) (v3) x1 p1 _ h2 (((AE 0 Aa) : DC _ _ _ _ _ _) w W).nx (((AE 1 Aa) : DC _ _ _ _ _ _) w W).nx)) fun a w F W => ?_
 refine ls F W Aa (Ae F Aa).q fun a w F W => ?_
 refine Ad (Ac (Ay ?_))
 have H := AV H
 subst H
 refine A5 (.inl Aa) F W Aa (Au F Aa) ?_
 exact ⟨rfl, W.done⟩
theorem Mk : Has Try.prog 11 := ⟨fun args w => Aj Try.func11 rfl (by decide) args w⟩
theorem LU (dd : Nat) (x0 : Int) (x1 : Int) (x2 : Int) (y0 : Int) (y1 : Int) (y2 : Int) (w : World) : (Op.equalIn (dd + 2) 38 (.agg #[.int .i64 x0, .int .i64 x1, .int .i64 x2]) (.agg #[.int .i64 y0, .int .i64 y1, .int .i64 y2])).run Try.prog w = .ok (decide (x0 = y0 ∧ x1 = y1 ∧ x2 = y2)) w :=
  Fj (d := dd + 1) (rs := [decide (x0 = y0), decide (x1 = y1), decide (x2 = y2)]) HY (by kernel_rfl) ⟨rfl, DY (d := dd + 0) rfl rfl Jw T3 rfl rfl, rfl, DY (d := dd + 0) rfl rfl Jw T3 rfl rfl, rfl, DY (d := dd + 0) rfl rfl Jw T3 rfl rfl, trivial⟩ (by simp) w
theorem M9 : Try.prog.eqGuardType Try.prog.depth 38 = false := by kernel_rfl
theorem MX (x0 : Int) (x1 : Int) (x2 : Int) (y0 : Int) (y1 : Int) (y2 : Int) (w : World) : (Op.equalIn 10000 38 (.agg #[.int .i64 x0, .int .i64 x1, .int .i64 x2]) (.agg #[.int .i64 y0, .int .i64 y1, .int .i64 y2])).run Try.prog w = .ok (decide (x0 = y0 ∧ x1 = y1 ∧ x2 = y2)) w := LU 9998 x0 x1 x2 y0 y1 y2 w
noncomputable def CU (p0 : List (Int × Int × Int × Int × Int × Int)) (p1 : Int) : Option Int := (Co p0).bind fun x1 => (Bl x1 p1).bind fun x2 => some x2
theorem GG (Y : Nat → Prop) (w0 : World) (v1 : Value) (p0 : List (Int × Int × Int × Int × Int × Int)) (p1 : Int) (r : Int) (H : CU p0 p1 = some r) (h_v1 : Sl w0 (NX []) EN v1 p0) :
    Calls Try.prog 13 #[v1, .int .i64 p1] w0 fun e w' => e = .returned (.int .i64 r) ∧ Below w0.heap.size w0 w' := by
 refine enter Try.func13 Aa Try.ntmps13 Aa fun a F => ?_
 have W := Stw.start Y w0
 unfold CU at H
 refine Ah (Ab ?_)
 refine ls F W Aa (Ae F Aa).q fun a w F W => ?_
 refine Ad (Ac (Ah (Ab ?_)))
 refine ls F W Aa (Ag F Aa).q fun a w F W => ?_
 obtain ⟨x1, h1, H⟩ := An H
 refine BP (Ml := []) (Zl := []) (M := []) (Z := []) (β := Value × Value) (rv := fun x => .agg #[x.1, x.2]) (MM := fun x => []) (ZZ := fun x => [row x.1 38 BK x1.1, row x.2 91 DQ x1.2]) F W Mc Aa Aa (fun hL => EZ _ w (v1) p0 _ h1 ((Al h_v1) w W).nx) fun x a w F W => ?_
 obtain ⟨v2, v3⟩ := x
 have W : Stw ⟨Y, [], w0⟩ [] [row v2 38 BK x1.1, row v3 91 DQ x1.2] w := W
 refine ls F W Aa (Ag F Aa).q fun a w F W => ?_
 obtain ⟨x2, h2, H⟩ := An H
 refine ls F W Aa (BB (v := Value.int .i64 x2) F Mh Aa (fun w W => C3 any w (v2) (v3) x1 p1 _ h2 (((AE 0 Aa) : DC _ _ _ _ _ _) w W).nx (((AE 1 Aa) : DC _ _ _ _ _ _) w W).nx)) fun a w F W => ?_
 refine ls F W Aa (Ae F Aa).q fun a w F W => ?_
 refine Ad (Ac (Ay ?_))
 have H := AV H
 subst H
 refine A5 (.inl Aa) F W Aa (Au F Aa) ?_
 exact ⟨rfl, W.done⟩
theorem M7 : type_of% Try.underlying4 := Try.underlying4
theorem ND : Has Try.prog 13 := ⟨fun args w => Aj Try.func13 rfl (by decide) args w⟩
noncomputable def BE (p1 : Int) (x2 : (List (Int × Int × Int))) : (Bool × Int) → Option ((Bool × Int) ⊕ Bool)
  | (x4, x5) => (if x5 < (x2.length : Int) then (if x4 = true then some (.inl (true, D8 (x5 + 1))) else (ix x2 x5).bind fun x6 => (if x6.2.1 ≤ p1 then (ix x2 x5).bind fun x7 => some (.inl (decide (p1 ≤ x7.2.2), D8 (x5 + 1))) else some (.inl (false, D8 (x5 + 1))))) else some (.inr x4))
noncomputable def CY (p0 : List (Int × Int × Int × Int × Int × Int)) (p1 : Int) : Option Bool := (if 100 < (p0.length : Int) then (C2).bind fun x1 => some x1 else (BS p0).bind fun x2 => (Bj (BE p1 x2) (false, 0)).bind fun x3 => (Cv p0 p1).bind fun x8 => (if x3 ≠ x8 then some false else (E9 ([] : List (Int × Int × Int × Int × Int × Int)) p0).bind fun x9 => (E9 x9 ([(8, 0, (-1), 0, 7, 9)] : List (Int × Int × Int × Int × Int × Int))).bind fun x10 => (BS x10).bind fun x11 => (if (x11.length : Int) ≠ (D8 ((x2.length : Int) + 1)) then some true else (ix x11 (D8 ((x11.length : Int) - 1))).bind fun x13 => some (!(decide (x13.1 = (-1) ∧ x13.2.1 = 7 ∧ x13.2.2 = 1125899906842624)))).bind fun x12 => (if x12 = true then some false else (if 0 < (x2.length : Int) then (C2).bind fun x15 => some x15 else (Cv p0 p1).bind fun x16 => (if (!x16) = true then (CU p0 p1).bind fun x17 => (if x17 = 0 then (C2).bind fun x18 => some x18 else some false) else some false)).bind fun x14 => some x14)))
theorem F3 (Y : Nat → Prop) (w0 : World) (v1 : Value) (p0 : List (Int × Int × Int × Int × Int × Int)) (p1 : Int) (r : Bool) (H : CY p0 p1 = some r) (s_v1 : Sl w0 Y EN v1 p0) :
    Calls Try.prog 5 #[v1, .int .i64 p1] w0 fun e w' => e = .returned (.bool r) ∧ Below w0.heap.size w0 w' := by
 refine enter Try.func5 Aa Try.ntmps5 Aa fun a F => ?_
 have W := Stw.start Y w0
 have h_v1 := W.nx s_v1
 unfold CY at H
 refine Ah (Ab ?_)
 refine ls F W Aa (Ae F Aa).q fun a w F W => ?_
 refine Ad (Ac (Ah (Ah (Ab ?_))))
 refine ls F W Aa (Ag F Aa).q fun a w F W => ?_
 refine ls F W Aa (Bi (r := EN) (l := p0) J5 Aa F Aa (Al h_v1)).q fun a w F W => ?_
 refine ls F W Aa (Hk F Aa Aa).q fun a w F W => ?_
 refine Ad (Ac ?_)
 refine AB F Aa (fun hb => ?_) fun hb => ?_
 ·
  have H := AU (Bv hb) H
  rw [hb] at F
  clear hb
  refine Ah (Ab ?_)
  obtain ⟨x1, h1, H⟩ := An H
  refine ls F W Aa (BB (v := Value.bool x1) F H8 Aa (fun w W => Fh any w _ h1)) fun a w F W => ?_
  refine ls F W Aa (Ae F Aa).q fun a w F W => ?_
  refine Ad (Ac (Ay (AL ?_)))
  have H := AV H
  subst H
  refine A5 (.inl Aa) F W Aa (Au F Aa) ?_
  exact ⟨rfl, W.done⟩
 have H := AW (Bu hb) H
 rw [hb] at F
 clear hb
 refine As (Ac (Ah (Ab ?_)))
 refine ls F W Aa (Ag F Aa).q fun a w F W => ?_
 obtain ⟨x2, h2, H⟩ := An H
 refine BP (Ml := []) (Zl := []) (M := []) (Z := []) (β := Value) (rv := fun x => x) (MM := fun x => []) (ZZ := fun x => [row x 38 BK x2]) F W H9 Aa Aa (fun hL => Eh _ w (v1) p0 _ h2 ((Al h_v1) w W).nx) fun x a w F W => ?_
 obtain ⟨v2, rfl⟩ : ∃ y, y = x := ⟨x, rfl⟩
 have W : Stw ⟨Y, [], w0⟩ [] [row v2 38 BK x2] w := W
 refine ls F W Aa (Ae F Aa).q fun a w F W => ?_
 refine Ad (Ac (Ah (Ab ?_)))
 refine ls F W Aa (Ae F Aa).q fun a w F W => ?_
 refine Ad (Ac ?_)
 obtain ⟨o1, G1, K1⟩ := An H
 refine AR (fun a w => ∃ x3 : Bool, some (x3) = some o1 ∧ Fr 88 [] [(0, v1), (1, .int .i64 p1), (4, .bool false), (5, v2), (6, .bool x3)] a ∧ Stw ⟨Y, [], w0⟩ [] [row v2 38 BK x2] w) ?_ ?_
 ·
  have H := G1
  clear G1 K1
  refine Ah (Ab ?_)
  refine ls F W Aa (Ae F Aa).q fun a w F W => ?_
  refine Ad (Ac (Ax ?_))
  refine BT H (fun s a w => Fr 88 [] [(0, v1), (1, .int .i64 p1), (4, .bool false), (5, v2), (6, .bool s.1), (7, .int .i64 s.2)] a ∧ Stw ⟨Y, [], w0⟩ [] [row v2 38 BK x2] w) ⟨F.re ⟨rfl, Aa, Aa, Aa, Aa, Aa, trivial⟩, W⟩ fun s o a w H L2 hR => ?_
  obtain ⟨x4, x5⟩ := s
  obtain ⟨F, W⟩ := hR
  have F : Fr 88 [] [(0, v1), (1, .int .i64 p1), (4, .bool false), (5, v2), (6, .bool x4), (7, .int .i64 x5)] a := F
  have W : Stw ⟨Y, [], w0⟩ [] [row v2 38 BK x2] w := W
  rw [BE] at H
  refine Ah (Ah (Ab ?_))
  iterate 2 refine ls F W Aa (Ag F Aa).q fun a w F W => ?_
  refine ls F W Aa (Bi (r := BK) (l := x2) H2 Aa F Aa (AE 0 Aa)).q fun a w F W => ?_
  refine ls F W Aa (BU F Aa Aa).q fun a w F W => ?_
  refine Ad (Ac ?_)
  refine AB F Aa (fun hb => ?_) fun hb => ?_
  ·
   have H := AU (Bv hb) H
   rw [hb] at F
   clear hb
   refine As (Ac (Ah (Ax (Ab ?_))))
   iterate 2 refine ls F W Aa (Ag F Aa).q fun a w F W => ?_
   rcases Bool.eq_false_or_eq_true x4 with hb | hb
   ·
    have H := AU hb H
    rw [hb] at F
    clear hb
    iterate 8 refine Dm F Aa Aa Aa Aa Aa Aa Aa fun a F => ?_
    iterate 7 refine Mj F Aa Aa Aa Aa Aa Aa fun a F => ?_
    refine Dm F Aa Aa Aa Aa Aa Aa Aa fun a F => ?_
    refine ls F W Aa (Av F Aa Aa Aa).q fun a w F W => ?_
    refine ls F W Aa (Ae F Aa).q fun a w F W => ?_
    refine Ad (AJ (Ac (Ab ?_)))
    refine ls F W Aa (Ag F Aa).q fun a w F W => ?_
    refine ls F W Aa (CW F Aa Aa Aa).q fun a w F W => ?_
    refine ls F W Aa (Ae F Aa).q fun a w F W => ?_
    refine Ad (Ac ?_)
    exact ⟨_, H, F.re ⟨rfl, Aa, Aa, Aa, Aa, Aa, trivial⟩, W⟩
   have H := AW (by rw [hb]; decide) H
   rw [hb] at F
   clear hb
   iterate 3 refine AH F W (Ai F Aa Aa Aa Aa) Aa (Ao Aa) (Ag F Aa).q fun a w F W => ?_
   obtain ⟨x6, h3, H⟩ := An H
   refine AH F W (Ai F Aa Aa Aa Aa) Aa (Ao Aa) (AN (r := BK) J2 F Aa Aa (AE 0 Aa) h3).q fun a w F W => ?_
   refine AH F W (Ai F Aa Aa Aa Aa) Aa (Ao Aa) (Af HY Aa Aa Aa T3 F Aa (EO v2 + (x5).toNat * 3 + 1) Aa).q fun a w F W => ?_
   refine AH F W (Ai F Aa Aa Aa Aa) Aa (Ao Aa) (AG (y := Value.int .i64 x6.2.1) (j := 1) (i := x5) F Aa Aa (AE 0 Aa) h3 Kb.to T3 Aa).q fun a w F W => ?_
   refine AH F W (Ai F Aa Aa Aa Aa) Aa (Ao Aa) (Ep F Aa Aa).q fun a w F W => ?_
   refine AH F W (Ai F Aa Aa Aa Aa) Aa (Ao Aa) (Ag F Aa).q fun a w F W => ?_
   rcases Bool.eq_false_or_eq_true (decide (x6.2.1 ≤ p1)) with hb | hb
   ·
    have H := AU (Bv hb) H
    rw [hb] at F
    clear hb
    iterate 3 refine AH F W (Ai F Aa Aa Aa Aa) Aa (Ao Aa) (Ag F Aa).q fun a w F W => ?_
    obtain ⟨x7, h4, H⟩ := An H
    refine AH F W (Ai F Aa Aa Aa Aa) Aa (Ao Aa) (AN (r := BK) J2 F Aa Aa (AE 0 Aa) h4).q fun a w F W => ?_
    refine AH F W (Ai F Aa Aa Aa Aa) Aa (Ao Aa) (Af HY Aa Aa Aa T3 F Aa (EO v2 + (x5).toNat * 3 + 2) Aa).q fun a w F W => ?_
    refine AH F W (Ai F Aa Aa Aa Aa) Aa (Ao Aa) (AG (y := Value.int .i64 x7.2.2) (j := 2) (i := x5) F Aa Aa (AE 0 Aa) h4 Kb.to T3 Aa).q fun a w F W => ?_
    refine AH F W (Ai F Aa Aa Aa Aa) Aa (Ao Aa) (JY F Aa Aa).q fun a w F W => ?_
    refine AH F W (Ai F Aa Aa Aa Aa) Aa (Ao Aa) (Av F Aa Aa Aa).q fun a w F W => ?_
    refine ls F W Aa (AF F Aa Aa Aa).q fun a w F W => ?_
    refine ls F W Aa (Ae F Aa).q fun a w F W => ?_
    refine Ad (AJ (Ac (Ab ?_)))
    refine ls F W Aa (Ag F Aa).q fun a w F W => ?_
    refine ls F W Aa (CW F Aa Aa Aa).q fun a w F W => ?_
    refine ls F W Aa (Ae F Aa).q fun a w F W => ?_
    refine Ad (Ac ?_)
    exact ⟨_, H, F.re ⟨rfl, Aa, Aa, Aa, Aa, Aa, trivial⟩, W⟩
   have H := AW (Bu hb) H
   rw [hb] at F
   clear hb
   iterate 7 refine Dm F Aa Aa Aa Aa Aa Aa Aa fun a F => ?_
   refine AH F W (Ai F Aa Aa Aa Aa) Aa (Ao Aa) (AF F Aa Aa Aa).q fun a w F W => ?_
   refine ls F W Aa (AF F Aa Aa Aa).q fun a w F W => ?_
   refine ls F W Aa (Ae F Aa).q fun a w F W => ?_
   refine Ad (AJ (Ac (Ab ?_)))
   refine ls F W Aa (Ag F Aa).q fun a w F W => ?_
   refine ls F W Aa (CW F Aa Aa Aa).q fun a w F W => ?_
   refine ls F W Aa (Ae F Aa).q fun a w F W => ?_
   refine Ad (Ac ?_)
   exact ⟨_, H, F.re ⟨rfl, Aa, Aa, Aa, Aa, Aa, trivial⟩, W⟩
  have H := AW (Bu hb) H
  rw [hb] at F
  clear hb
  refine BC ?_
  iterate 2 refine B6 ?_
  refine BD (Ac ?_)
  have H := L2 _ H
  exact ⟨_, H, F.re ⟨rfl, Aa, Aa, Aa, Aa, trivial⟩, W⟩
 rintro a w ⟨x3, hj, F, W⟩
 have hj := AV hj
 subst hj
 have H := K1
 clear G1 K1
 refine Ah (Ah (Ab ?_))
 iterate 3 refine ls F W Aa (Ag F Aa).q fun a w F W => ?_
 obtain ⟨x8, h5, H⟩ := An H
 refine ls F W Aa (BB (v := Value.bool x8) F Mk Aa (fun w W => E2 any w (v1) p0 p1 _ h5 (((Al h_v1) : DC _ _ _ _ _ _) w W).nx)) fun a w F W => ?_
 refine ls F W Aa (Ly M7 F Aa Aa).q fun a w F W => ?_
 refine Ad (Ac ?_)
 refine AB F Aa (fun hb => ?_) fun hb => ?_
 ·
  have H := AU (Bv hb) H
  rw [hb] at F
  clear hb
  refine Ah (Ab ?_)
  refine ls F W Aa (Ae F Aa).q fun a w F W => ?_
  refine Ad (Ac (Ay (AL ?_)))
  have H := AV H
  subst H
  refine A5 (.inl Aa) F W Aa (Au F Aa) ?_
  exact ⟨rfl, W.done⟩
 have H := AW (Bu hb) H
 rw [hb] at F
 clear hb
 refine As (Ac (Ah (Ab ?_)))
 refine CV (z := Value.agg #[.int .i64 0, .int .i64 0, .int .i64 0, .int .i64 0, .int .i64 0, .int .i64 0]) (cs := []) EN ([] : List (Int × Int × Int × Int × Int × Int)) F W Aa J8 KT Aa Aa Aa Aa Aa Aa (KC.repL _ _ ([] : List (Int × Int × Int × Int × Int × Int))) fun v3 a w F W => ?_
 refine ls F W Aa (Ag F Aa).q fun a w F W => ?_
 obtain ⟨x9, h6, H⟩ := An H
 refine Ca (r := EN) (i := 0) F W Aa J8 Aa Aa Aa Aa (Kw W s_v1) h6 Aa fun v4 a w F W => ?_
 have W : Stw ⟨Y, [], w0⟩ [] [row v4 48 EN x9, row v2 38 BK x2] w := W
 refine ls F W Aa (Bf (v := Value.agg #[.int .i64 8, .int .i64 0, .int .i64 (-1), .int .i64 0, .int .i64 7, .int .i64 9]) Lk F Aa Aa Aa).q fun a w F W => ?_
 refine CV (z := Value.agg #[.int .i64 0, .int .i64 0, .int .i64 0, .int .i64 0, .int .i64 0, .int .i64 0]) (cs := [.int .i64 8, .int .i64 0, .int .i64 (-1), .int .i64 0, .int .i64 7, .int .i64 9]) EN ([(8, 0, (-1), 0, 7, 9)] : List (Int × Int × Int × Int × Int × Int)) F W Aa J8 KT Aa Aa Aa Aa Aa Aa (KC.repL _ _ ([(8, 0, (-1), 0, 7, 9)] : List (Int × Int × Int × Int × Int × Int))) fun v5 a w F W => ?_
 obtain ⟨x10, h7, H⟩ := An H
 refine Ca (r := EN) (i := 1) F W Aa J8 Aa Aa Aa Aa (CI W 0 Aa) h7 Aa fun v6 a w F W => ?_
 have W : Stw ⟨Y, [], w0⟩ [] [row v6 48 EN x10, row v5 48 EN ([(8, 0, (-1), 0, 7, 9)] : List (Int × Int × Int × Int × Int × Int)), row v2 38 BK x2] w := W
 refine ls F W Aa (Ae F Aa).q fun a w F W => ?_
 refine Ad (Ac (Ah (Ab ?_)))
 refine ls F W Aa (Ag F Aa).q fun a w F W => ?_
 obtain ⟨x11, h8, H⟩ := An H
 refine BP (Ml := []) (Zl := []) (M := []) (Z := [row v6 48 EN x10, row v5 48 EN ([(8, 0, (-1), 0, 7, 9)] : List (Int × Int × Int × Int × Int × Int)), row v2 38 BK x2]) (β := Value) (rv := fun x => x) (MM := fun x => []) (ZZ := fun x => [row x 38 BK x11]) F W H9 Aa Aa (fun hL => Eh _ w (v6) x10 _ h8 ((AE 0 Aa) w W).nx) fun x a w F W => ?_
 obtain ⟨v7, rfl⟩ : ∃ y, y = x := ⟨x, rfl⟩
 have W : Stw ⟨Y, [], w0⟩ [] [row v7 38 BK x11, row v6 48 EN x10, row v5 48 EN ([(8, 0, (-1), 0, 7, 9)] : List (Int × Int × Int × Int × Int × Int)), row v2 38 BK x2] w := W
 refine ls F W Aa (Ae F Aa).q fun a w F W => ?_
 refine Ad (Ac (Ah ?_))
 obtain ⟨o3, G3, K3⟩ := An H
 refine AR (fun a w => ∃ x12 : Bool, some (x12) = some o3 ∧ Fr 88 [] [(0, v1), (1, .int .i64 p1), (4, .bool false), (5, v2), (69, .bool x12)] a ∧ Stw ⟨Y, [], w0⟩ [] [row v2 38 BK x2] w) ?_ ?_
 ·
  have H := G3
  clear G3 K3
  refine Ab ?_
  refine ls F W Aa (Ag F Aa).q fun a w F W => ?_
  refine ls F W Aa (Bi (r := BK) (l := x11) H2 Aa F Aa (AE 0 Aa)).q fun a w F W => ?_
  refine ls F W Aa (Ag F Aa).q fun a w F W => ?_
  refine ls F W Aa (Bi (r := BK) (l := x2) H2 Aa F Aa (AE 3 Aa)).q fun a w F W => ?_
  refine ls F W Aa (CW F Aa Aa Aa).q fun a w F W => ?_
  refine ls F W Aa (Fv F Aa Aa).q fun a w F W => ?_
  refine ls F W Aa (Ag F Aa).q fun a w F W => ?_
  rcases Bool.eq_false_or_eq_true (decide ((x11.length : Int) ≠ (D8 ((x2.length : Int) + 1)))) with hb | hb
  ·
   have H := AU (Bv hb) H
   rw [hb] at F
   clear hb
   iterate 8 refine Dm F Aa Aa Aa Aa Aa Aa Aa fun a F => ?_
   refine ls F W Aa (Av F Aa Aa Aa).q fun a w F W => ?_
   refine Ad (Ac ?_)
   have W := W.frontZ (i := 3) Aa Aa
   have W := W.sub (M' := []) (Z' := [row v2 38 BK x2]) (List.Sublist.refl _) (List.Sublist.cons_cons _ (List.nil_sublist _))
   exact ⟨_, H, F.re ⟨rfl, Aa, Aa, Aa, Aa, trivial⟩, W⟩
  have H := AW (Bu hb) H
  rw [hb] at F
  clear hb
  iterate 2 refine AH F W (Ai F Aa Aa Aa Aa) Aa (Ao Aa) (Ag F Aa).q fun a w F W => ?_
  refine AH F W (Ai F Aa Aa Aa Aa) Aa (Ao Aa) (Bi (r := BK) (l := x11) H2 Aa F Aa (AE 0 Aa)).q fun a w F W => ?_
  refine AH F W (Ai F Aa Aa Aa Aa) Aa (Ao Aa) (GV F Aa Aa Aa).q fun a w F W => ?_
  obtain ⟨x13, h9, H⟩ := An H
  refine AH F W (Ai F Aa Aa Aa Aa) Aa (Ao Aa) (AN (r := BK) J2 F Aa Aa (AE 0 Aa) h9).q fun a w F W => ?_
  refine AH F W (Ai F Aa Aa Aa Aa) Aa (Ao Aa) (AG (y := Value.agg #[.int .i64 x13.1, .int .i64 x13.2.1, .int .i64 x13.2.2]) (j := 0) (i := D8 ((x11.length : Int) - 1)) F Aa Aa (AE 0 Aa) h9 Kb.to J7 Aa).q fun a w F W => ?_
  refine AH F W (Ai F Aa Aa Aa Aa) Aa (Ao Aa) (Bf (v := Value.agg #[.int .i64 (-1), .int .i64 7, .int .i64 1125899906842624]) Mp F Aa Aa Aa).q fun a w F W => ?_
  refine AH F W (Ai F Aa Aa Aa Aa) Aa (Ao Aa) (Lz (t := decide (x13.1 = (-1) ∧ x13.2.1 = 7 ∧ x13.2.2 = 1125899906842624)) M9 (MX _ _ _ _ _ _) F Aa Aa).q fun a w F W => ?_
  refine ls F W Aa (AF F Aa Aa Aa).q fun a w F W => ?_
  refine Ad (Ac ?_)
  have W := W.frontZ (i := 3) Aa Aa
  have W := W.sub (M' := []) (Z' := [row v2 38 BK x2]) (List.Sublist.refl _) (List.Sublist.cons_cons _ (List.nil_sublist _))
  exact ⟨_, H, F.re ⟨rfl, Aa, Aa, Aa, Aa, trivial⟩, W⟩
 rintro a w ⟨x12, hj, F, W⟩
 have hj := AV hj
 subst hj
 have H := K3
 clear G3 K3
 refine AB F Aa (fun hb => ?_) fun hb => ?_
 ·
  have H := AU hb H
  rw [hb] at F
  clear hb
  refine Ah (Ab ?_)
  refine ls F W Aa (Ae F Aa).q fun a w F W => ?_
  refine Ad (Ac (Ay (AL ?_)))
  have H := AV H
  subst H
  refine A5 (.inl Aa) F W Aa (Au F Aa) ?_
  exact ⟨rfl, W.done⟩
 have H := AW (by rw [hb]; decide) H
 rw [hb] at F
 clear hb
 refine As (Ac ?_)
 obtain ⟨o4, G4, K4⟩ := An H
 refine AR (fun a w => ∃ x14 : Bool, some (x14) = some o4 ∧ Fr 88 [] [(4, .bool x14)] a ∧ Stw ⟨Y, [], w0⟩ [] [] w) ?_ ?_
 ·
  have H := G4
  clear G4 K4
  refine Ab ?_
  refine ls F W Aa (Ag F Aa).q fun a w F W => ?_
  refine ls F W Aa (Bi (r := BK) (l := x2) H2 Aa F Aa (AE 0 Aa)).q fun a w F W => ?_
  refine ls F W Aa (Hk F Aa Aa).q fun a w F W => ?_
  refine ls F W Aa (Ag F Aa).q fun a w F W => ?_
  rcases Bool.eq_false_or_eq_true (decide (0 < (x2.length : Int))) with hb | hb
  ·
   have H := AU (Bv hb) H
   rw [hb] at F
   clear hb
   iterate 5 refine Dm F Aa Aa Aa Aa Aa Aa Aa fun a F => ?_
   iterate 4 refine Mj F Aa Aa Aa Aa Aa Aa fun a F => ?_
   refine Dm F Aa Aa Aa Aa Aa Aa Aa fun a F => ?_
   refine ls F W Aa (Av F Aa Aa Aa).q fun a w F W => ?_
   refine ls F W Aa (Ag F Aa).q fun a w F W => ?_
   refine Jo (Ai F Aa Aa Aa Aa) ?_
   obtain ⟨x15, h10, H⟩ := An H
   refine ls F W Aa (BB (v := Value.bool x15) F H8 Aa (fun w W => Fh any w _ h10)) fun a w F W => ?_
   refine ls F W Aa (Av F Aa Aa Aa).q fun a w F W => ?_
   refine ls F W Aa (Ae F Aa).q fun a w F W => ?_
   refine Ad (Ac ?_)
   have W := W.sub (M' := []) (Z' := []) (List.Sublist.refl _) (List.nil_sublist _)
   exact ⟨_, H, F.re ⟨rfl, trivial⟩, W⟩
  have H := AW (Bu hb) H
  rw [hb] at F
  clear hb
  iterate 2 refine AH F W (Ai F Aa Aa Aa Aa) Aa (Ao Aa) (Ag F Aa).q fun a w F W => ?_
  refine Jo (Ai F Aa Aa Aa Aa) ?_
  obtain ⟨x16, h11, H⟩ := An H
  refine ls F W Aa (BB (v := Value.bool x16) F Mk Aa (fun w W => E2 any w (v1) p0 p1 _ h11 (((Al h_v1) : DC _ _ _ _ _ _) w W).nx)) fun a w F W => ?_
  refine AH F W (Ai F Aa Aa Aa Aa) Aa (Ao Aa) (Gr F Aa).q fun a w F W => ?_
  refine AH F W (Ai F Aa Aa Aa Aa) Aa (Ao Aa) (Ag F Aa).q fun a w F W => ?_
  rcases Bool.eq_false_or_eq_true (!x16) with hb | hb
  ·
   have H := AU hb H
   rw [hb] at F
   clear hb
   iterate 2 refine AH F W (Ai F Aa Aa Aa Aa) Aa (Ao Aa) (Ag F Aa).q fun a w F W => ?_
   refine Jo (Ai F Aa Aa Aa Aa) ?_
   obtain ⟨x17, h12, H⟩ := An H
   refine ls F W Aa (BB (v := Value.int .i64 x17) F ND Aa (fun w W => GG any w (v1) p0 p1 _ h12 (((Al h_v1) : DC _ _ _ _ _ _) w W).nx)) fun a w F W => ?_
   refine AH F W (Ai F Aa Aa Aa Aa) Aa (Ao Aa) (CB F Aa Aa).q fun a w F W => ?_
   refine AH F W (Ai F Aa Aa Aa Aa) Aa (Ao Aa) (Av F Aa Aa Aa).q fun a w F W => ?_
   refine ls F W Aa (AF F Aa Aa Aa).q fun a w F W => ?_
   refine ls F W Aa (Ag F Aa).q fun a w F W => ?_
   rcases Bool.eq_false_or_eq_true (decide (x17 = 0)) with hb | hb
   ·
    have H := AU (Bv hb) H
    rw [hb] at F
    clear hb
    refine Jo (Ai F Aa Aa Aa Aa) ?_
    obtain ⟨x18, h13, H⟩ := An H
    refine ls F W Aa (BB (v := Value.bool x18) F H8 Aa (fun w W => Fh any w _ h13)) fun a w F W => ?_
    refine ls F W Aa (Av F Aa Aa Aa).q fun a w F W => ?_
    refine ls F W Aa (Ae F Aa).q fun a w F W => ?_
    refine Ad (Ac ?_)
    have W := W.sub (M' := []) (Z' := []) (List.Sublist.refl _) (List.nil_sublist _)
    exact ⟨_, H, F.re ⟨rfl, trivial⟩, W⟩
   have H := AW (Bu hb) H
   rw [hb] at F
   clear hb
   refine Dm F Aa Aa Aa Aa Aa Aa Aa fun a F => ?_
   refine ls F W Aa (AF F Aa Aa Aa).q fun a w F W => ?_
   refine ls F W Aa (Ae F Aa).q fun a w F W => ?_
   refine Ad (Ac ?_)
   have W := W.sub (M' := []) (Z' := []) (List.Sublist.refl _) (List.nil_sublist _)
   exact ⟨_, H, F.re ⟨rfl, trivial⟩, W⟩
  have H := AW (by rw [hb]; decide) H
  rw [hb] at F
  clear hb
  iterate 4 refine Dm F Aa Aa Aa Aa Aa Aa Aa fun a F => ?_
  refine AH F W (Ai F Aa Aa Aa Aa) Aa (Ao Aa) (AF F Aa Aa Aa).q fun a w F W => ?_
  refine ls F W Aa (AF F Aa Aa Aa).q fun a w F W => ?_
  refine ls F W Aa (Ag F Aa).q fun a w F W => ?_
  refine Dm F Aa Aa Aa Aa Aa Aa Aa fun a F => ?_
  refine ls F W Aa (AF F Aa Aa Aa).q fun a w F W => ?_
  refine ls F W Aa (Ae F Aa).q fun a w F W => ?_
  refine Ad (Ac ?_)
  have W := W.sub (M' := []) (Z' := []) (List.Sublist.refl _) (List.nil_sublist _)
  exact ⟨_, H, F.re ⟨rfl, trivial⟩, W⟩
 rintro a w ⟨x14, hj, F, W⟩
 have hj := AV hj
 subst hj
 have H := K4
 clear G4 K4
 refine Ay ?_
 have H := AV H
 subst H
 refine A5 (.inl Aa) F W Aa (Au F Aa) ?_
 exact ⟨rfl, W.done⟩
end Go.Proofs.Ytflaelbmglmmcaa
