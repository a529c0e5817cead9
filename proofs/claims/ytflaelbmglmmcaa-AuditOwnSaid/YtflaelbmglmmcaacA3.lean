/- The functions of layer 42, EK. Conditions: none. -/
import Derived.Test.YtflaelbmglmmcaacA2
namespace Go.Proofs.Ytflaelbmglmmcaa
open Go Go.RowKit
set_option linter.unusedVariables false
set_option linter.unusedSimpArgs false
set_option maxRecDepth 20000
theorem Qc : Has Try.prog 31 := ⟨fun args w => Aj Try.func31 rfl (by decide) args w⟩
noncomputable def BT (p0 : Int × (List (Int × Int × Int × Int × Int × Int)) × (List (Int × Int))) (p1 : List (List (List Int))) (x1 : ((List (Int × Int × Int)) × (List (Int × Int)))) (x3 : (List (Int × Int × Int × Int × List Int × Int × Int × Int))) : ((List (Int × Int)) × Int) → Option (((List (Int × Int)) × Int) ⊕ (List (Int × Int)))
  | (x4, x5) => (if x5 < (x3.length : Int) then ((ix x3 x5).bind fun x7 => ((CS x7).bind fun x9 => (if x9 = true then (Fo x4 ([(1, x7.1)] : List (Int × Int))).bind fun x10 => some x10 else some x4)).bind fun x8 => (if x7.2.2.2.2.2.1 = 4 then (Fo x8 ([(2, x7.1)] : List (Int × Int))).bind fun x12 => some x12 else some x8).bind fun x11 => (if (decide (x7.2.2.2.2.2.1 = 3) && decide (x7.2.2.2.2.2.2.1 ≠ x7.2.2.1)) = true then (Fo x11 ([(3, x7.1)] : List (Int × Int))).bind fun x14 => some x14 else some x11).bind fun x13 => (if 0 < (x7.2.2.2.2.1.length : Int) then (A7 x1 x7.2.2.2.1).bind fun x16 => (if (!x16) = true then (Bi x1 x7.2.2.2.1).bind fun x17 => (B5 p0 p1 x17 x7).bind fun x18 => some (!x18) else some false) else some false).bind fun x15 => (if x15 = true then (Fo x13 ([(4, x7.1)] : List (Int × Int))).bind fun x19 => some x19 else some x13)).bind fun x6 => some (.inl (x6, DC (x5 + 1))) else some (.inr x4))
noncomputable def B7 (p0 : Int × (List (Int × Int × Int × Int × Int × Int)) × (List (Int × Int))) (p1 : List (List (List Int))) (p2 : List (Int × Int × Int × Int × Int × Int)) : Option (List (Int × Int)) := (Dv p2).bind fun x1 => ((EH p2).bind fun x3 => AF (BT p0 p1 x1 x3) ([], 0)).bind fun x2 => some x2
theorem D8 (Y : Nat → Prop) (w0 : World) (v1 : Value) (v2 : Value) (v3 : Value) (v4 : Value) (p0 : Int × (List (Int × Int × Int × Int × Int × Int)) × (List (Int × Int))) (p1 : List (List (List Int))) (p2 : List (Int × Int × Int × Int × Int × Int)) (r : (List (Int × Int))) (H : B7 p0 p1 p2 = some r) (h_v1 : Sl w0 (NX []) D6 v1 p0.2.1) (h_v2 : Sl w0 (NX []) FI v2 p0.2.2) (h_v3 : Sl w0 (NX []) (Rp.slice (Rp.slice (Rp.int .i64))) v3 p1) (h_v4 : Sl w0 (NX []) Ef v4 p2) :
    Calls Try.prog 17 #[.agg #[.int .i64 p0.1, v1, v2], v3, v4] w0 fun e w' => ∃ x : Value, e = .returned (x) ∧ Stw ⟨Y, [], w0⟩ [] [row (x) 45 C6 r] w' := by
 refine enter Try.func17 Aa Try.ntmps17 Aa fun a F => ?_
 have W := Stw.start Y w0
 obtain ⟨v5, h1, h_v3⟩ := h_v3.ex Ir
 unfold B7 at H
 refine Ah (Ab ?_)
 refine Cx (cs := [.int .i64 p0.1, v1, v2]) F W Aa Aa Aa fun b1 a w F W => ?_
 refine ls F W Aa (Ae F Aa).q fun a w F W => ?_
 refine Ad (Ac (Ah (Ab ?_)))
 refine ls F W Aa (Ae F Aa).q fun a w F W => ?_
 refine Ad (Ac (Ah (Ab ?_)))
 refine ls F W Aa (Ag F Aa).q fun a w F W => ?_
 obtain ⟨x1, h2, H⟩ := An H
 refine Cw (Ml := []) (Zl := []) (M := [(b1, [.int .i64 p0.1, v1, v2])]) (Z := []) (β := Value × Value) (rv := fun x => .agg #[x.1, x.2]) (MM := fun x => []) (ZZ := fun x => [row x.1 38 CM x1.1, row x.2 91 ES x1.2]) F W PS Aa Aa (fun hL => Jl _ w (v4) p2 _ h2 ((Ak h_v4) w W).nx) fun x a w F W => ?_
 obtain ⟨v6, v7⟩ := x
 have W : Stw ⟨Y, [], w0⟩ [(b1, [.int .i64 p0.1, v1, v2])] [row v6 38 CM x1.1, row v7 91 ES x1.2] w := W
 refine B3 (cs := [.slice none 0 0, .slice none 0 0]) F W Aa OB Aa fun b2 a w F W => ?_
 refine BQ (vs := [v6, v7]) (M' := [(b2, [v6, v7]), (b1, [.int .i64 p0.1, v1, v2])]) 0 F W Aa Aa Aa NS Aa Aa Aa (Bp (W.one (k := 0) Aa) (Bp (W.one (k := 1) Aa) F4)) Aa fun w W => ?_
 refine Ad (Ac ?_)
 obtain ⟨o1, G1, K1⟩ := An H
 refine AR (fun a w => ∃ x2 : List (Int × Int), ∃ v8 : Value, some (x2) = some o1 ∧ Fr 83 [] [(6, .slice none 0 0), (7, v8)] a ∧ Stw ⟨Y, [], w0⟩ [(b2, [v6, v7]), (b1, [.int .i64 p0.1, v1, v2])] [row v8 45 C6 x2, row v6 38 CM x1.1, row v7 91 ES x1.2] w) ?_ ?_
 ·
  have H := G1
  clear G1 K1
  refine Ah (Ab ?_)
  refine ls F W Aa (Ag F Aa).q fun a w F W => ?_
  obtain ⟨x3, h3, H⟩ := An H
  refine Cw (Ml := []) (Zl := []) (M := [(b2, [v6, v7]), (b1, [.int .i64 p0.1, v1, v2])]) (Z := [row v6 38 CM x1.1, row v7 91 ES x1.2]) (β := Value) (rv := fun x => x) (MM := fun x => []) (ZZ := fun x => [row x 78 Ip x3]) F W PO Aa Aa (fun hL => J8 _ w (v4) p2 _ h3 ((Ak h_v4) w W).nx) fun x a w F W => ?_
  obtain ⟨v9, rfl⟩ : ∃ y, y = x := ⟨x, rfl⟩
  have W : Stw ⟨Y, [], w0⟩ [(b2, [v6, v7]), (b1, [.int .i64 p0.1, v1, v2])] [row v9 78 Ip x3, row v6 38 CM x1.1, row v7 91 ES x1.2] w := W
  refine ls F W Aa (Bl (r := Ip) (l := x3) NH Aa F Aa (AN 0 Aa)).q fun a w F W => ?_
  refine ls F W Aa (Ag F Aa).q fun a w F W => ?_
  refine Ad (Ac (Ax ?_))
  have W := W.nilRow 45 C6
  have W := W.frontZ (i := 3) Aa Aa
  have W := W.frontZ (i := 3) Aa Aa
  have W := W.frontZ (i := 3) Aa Aa
  have W := W.frontZ (i := 3) Aa Aa
  have W := W.frontM (i := 1) Aa Aa
  have W := W.frontM (i := 1) Aa Aa
  refine BZ H (fun s a w => ∃ v10 : Value, Fr 83 [] [(1, v3), (3, .pointer (some ⟨b1, 0, none⟩)), (6, .slice none 0 0), (7, v10), (8, .pointer (some ⟨b2, 0, none⟩)), (14, v9), (15, .int .i64 (x3.length : Int)), (16, .int .i64 s.2)] a ∧ Stw ⟨Y, [], w0⟩ [(b2, [v6, v7]), (b1, [.int .i64 p0.1, v1, v2])] [row v10 45 C6 s.1, row v9 78 Ip x3, row v6 38 CM x1.1, row v7 91 ES x1.2] w) ⟨(Value.slice none 0 0), F.re ⟨rfl, Aa, Aa, Aa, Aa, Aa, Aa, Aa, trivial⟩, W⟩ fun s o a w H L2 hR => ?_
  obtain ⟨x4, x5⟩ := s
  obtain ⟨v10, F, W⟩ := hR
  have F : Fr 83 [] [(1, v3), (3, .pointer (some ⟨b1, 0, none⟩)), (6, .slice none 0 0), (7, v10), (8, .pointer (some ⟨b2, 0, none⟩)), (14, v9), (15, .int .i64 (x3.length : Int)), (16, .int .i64 x5)] a := F
  have W : Stw ⟨Y, [], w0⟩ [(b2, [v6, v7]), (b1, [.int .i64 p0.1, v1, v2])] [row v10 45 C6 x4, row v9 78 Ip x3, row v6 38 CM x1.1, row v7 91 ES x1.2] w := W
  rw [BT] at H
  refine Ah (Ab ?_)
  refine ls F W Aa (B0 F Aa Aa).q fun a w F W => ?_
  refine Ad (Ac (Ah ?_))
  refine AA F Aa (fun hb => ?_) fun hb => ?_
  ·
   have H := Ba (BO hb) H
   rw [hb] at F
   clear hb
   refine As (Ac ?_)
   obtain ⟨o3, G3, K3⟩ := An H
   refine AR (fun a w => ∃ x6 : List (Int × Int), ∃ v11 : Value, some (x6) = some o3 ∧ Fr 83 [] [(1, v3), (3, .pointer (some ⟨b1, 0, none⟩)), (6, .slice none 0 0), (7, v11), (8, .pointer (some ⟨b2, 0, none⟩)), (14, v9), (15, .int .i64 (x3.length : Int)), (16, .int .i64 x5)] a ∧ Stw ⟨Y, [], w0⟩ [(b2, [v6, v7]), (b1, [.int .i64 p0.1, v1, v2])] [row v11 45 C6 x6, row v9 78 Ip x3, row v6 38 CM x1.1, row v7 91 ES x1.2] w) ?_ ?_
   ·
    have H := G3
    clear G3 K3
    refine Ax (Ah ?_)
    have W := W.frontZ (i := 1) Aa Aa
    obtain ⟨v12, h4, W⟩ := W.exR Nv
    refine Ab ?_
    obtain ⟨x7, h5, H⟩ := An H
    obtain ⟨v13, h6, h7⟩ := EY h4 h5
    have h8 : NG v13 = [.int .i64 x7.1, .int .i64 x7.2.1, .int .i64 x7.2.2.1, .int .i64 x7.2.2.2.1, (v13.2.2.2.2.1.1), .int .i64 x7.2.2.2.2.2.1, .int .i64 x7.2.2.2.2.2.2.1, .int .i64 x7.2.2.2.2.2.2.2] := congrArg (fun q : Int × Int × Int × Int × List Int × Int × Int × Int => ([.int .i64 q.1, .int .i64 q.2.1, .int .i64 q.2.2.1, .int .i64 q.2.2.2.1, (v13.2.2.2.2.1.1), .int .i64 q.2.2.2.2.2.1, .int .i64 q.2.2.2.2.2.2.1, .int .i64 q.2.2.2.2.2.2.2] : List Value)) h7
    refine ls F W Aa (AU (r := MT) OA F Aa Aa (AN 0 Aa) h6).q fun a w F W => ?_
    refine ls F W Aa (AC (y := Value.agg #[.int .i64 x7.1, .int .i64 x7.2.1, .int .i64 x7.2.2.1, .int .i64 x7.2.2.2.1, (v13.2.2.2.2.1.1), .int .i64 x7.2.2.2.2.2.1, .int .i64 x7.2.2.2.2.2.2.1, .int .i64 x7.2.2.2.2.2.2.2]) (j := 0) (i := x5) (enc := NG) F Aa Aa (AN 0 Aa) h6 OQ Oz (by rw [h8]; rfl)).q fun a w F W => ?_
    have W := W.note (W.rowAt (k := 0) Aa h6 (DR.snd (DR.snd (DR.snd (DR.snd (DR.fst DR.here))))) (congrArg (fun q : Int × Int × Int × Int × List Int × Int × Int × Int => q.2.2.2.2.1) h7))
    refine B3 (cs := [.int .i64 0, .int .i64 0, .int .i64 0, .int .i64 0, .slice none 0 0, .int .i64 0, .int .i64 0, .int .i64 0]) F W Aa O7 Aa fun b3 a w F W => ?_
    refine BQ (vs := [.int .i64 x7.1, .int .i64 x7.2.1, .int .i64 x7.2.2.1, .int .i64 x7.2.2.2.1, (v13.2.2.2.2.1.1), .int .i64 x7.2.2.2.2.2.1, .int .i64 x7.2.2.2.2.2.2.1, .int .i64 x7.2.2.2.2.2.2.2]) (M' := [(b3, [.int .i64 x7.1, .int .i64 x7.2.1, .int .i64 x7.2.2.1, .int .i64 x7.2.2.2.1, (v13.2.2.2.2.1.1), .int .i64 x7.2.2.2.2.2.1, .int .i64 x7.2.2.2.2.2.2.1, .int .i64 x7.2.2.2.2.2.2.2]), (b2, [v6, v7]), (b1, [.int .i64 p0.1, v1, v2])]) 0 F W Aa Aa Aa Oz Aa Aa Aa (Bp Aa (Bp Aa (Bp Aa (Bp Aa (Bp (W.oneF (k := 0) Aa) (Bp Aa (Bp Aa (Bp Aa F4)))))))) Aa fun w W => ?_
    refine Ad (Ac ?_)
    obtain ⟨o4, G4, K4⟩ := An H
    refine AR (fun a w => ∃ x8 : List (Int × Int), ∃ v14 : Value, some (x8) = some o4 ∧ Fr 83 [] [(1, v3), (3, .pointer (some ⟨b1, 0, none⟩)), (6, .slice none 0 0), (7, v14), (8, .pointer (some ⟨b2, 0, none⟩)), (10, .pointer (some ⟨b3, 0, none⟩)), (14, v9), (15, .int .i64 (x3.length : Int)), (16, .int .i64 x5)] a ∧ Stw ⟨Y, [], w0⟩ [(b3, [.int .i64 x7.1, .int .i64 x7.2.1, .int .i64 x7.2.2.1, .int .i64 x7.2.2.2.1, (v13.2.2.2.2.1.1), .int .i64 x7.2.2.2.2.2.1, .int .i64 x7.2.2.2.2.2.2.1, .int .i64 x7.2.2.2.2.2.2.2]), (b2, [v6, v7]), (b1, [.int .i64 p0.1, v1, v2])] [row v14 45 C6 x8, row v9 78 Ip x3, GZ (v13.2.2.2.2.1.1) (Rp.int .i64) x7.2.2.2.2.1, row v6 38 CM x1.1, row v7 91 ES x1.2] w) ?_ ?_
    ·
     have H := G4
     clear G4 K4
     refine Ah (Ab ?_)
     refine ls F W Aa (Al (v := Value.agg #[.int .i64 x7.1, .int .i64 x7.2.1, .int .i64 x7.2.2.1, .int .i64 x7.2.2.2.1, (v13.2.2.2.2.1.1), .int .i64 x7.2.2.2.2.2.1, .int .i64 x7.2.2.2.2.2.2.1, .int .i64 x7.2.2.2.2.2.2.2]) 0 F Aa Aa Oz Aa).q fun a w F W => ?_
     obtain ⟨x9, h9, H⟩ := An H
     refine ls F W Aa (Ch (v := Value.bool x9) F Ps Aa (fun w W => Iv any w ((v13.2.2.2.2.1.1)) x7 _ h9 (((Jq 0 Aa) : DV _ _ _ _ _ _) w W).nx)) fun a w F W => ?_
     refine Ad (Ac ?_)
     refine AA F Aa (fun hb => ?_) fun hb => ?_
     ·
      have H := Ba hb H
      rw [hb] at F
      clear hb
      refine Ab ?_
      refine ls F W Aa (Ag F Aa).q fun a w F W => ?_
      refine ls F W Aa (Af Ek Aa Aa Aa T3 F Aa 0 Aa).q fun a w F W => ?_
      refine ls F W Aa (Al (v := Value.int .i64 x7.1) 0 F Aa Aa T3 Aa).q fun a w F W => ?_
      refine ls F W Aa (Bx (v := Value.agg #[.int .i64 1, .int .i64 x7.1]) N1 F Aa Aa Aa).q fun a w F W => ?_
      refine Do (z := Value.agg #[.int .i64 0, .int .i64 0]) (cs := [.int .i64 1, .int .i64 x7.1]) C6 ([(1, x7.1)] : List (Int × Int)) F W Aa Mh Oy Aa Aa Aa Aa Aa Aa (Nx.repL _ _ ([(1, x7.1)] : List (Int × Int))) fun v15 a w F W => ?_
      obtain ⟨x10, h10, H⟩ := An H
      refine Cr (r := C6) (i := 3) F W Aa Mh Aa Aa Aa Aa (C5 W 0 Aa) h10 Aa fun v16 a w F W => ?_
      have W : Stw ⟨Y, [], w0⟩ [(b3, [.int .i64 x7.1, .int .i64 x7.2.1, .int .i64 x7.2.2.1, .int .i64 x7.2.2.2.1, (v13.2.2.2.2.1.1), .int .i64 x7.2.2.2.2.2.1, .int .i64 x7.2.2.2.2.2.2.1, .int .i64 x7.2.2.2.2.2.2.2]), (b2, [v6, v7]), (b1, [.int .i64 p0.1, v1, v2])] [row v16 45 C6 x10, row v15 45 C6 ([(1, x7.1)] : List (Int × Int)), GZ (v13.2.2.2.2.1.1) (Rp.int .i64) x7.2.2.2.2.1, row v9 78 MT v12, row v6 38 CM x1.1, row v7 91 ES x1.2] w := W
      refine ls F W Aa (Ae F Aa).q fun a w F W => ?_
      refine Ad (Ac ?_)
      have W := W.frontZ (i := 3) Aa Aa
      have W := W.hideR Nv h4
      have W := W.frontZ (i := 5) Aa Aa
      have W := W.frontZ (i := 5) Aa Aa
      have W := W.frontZ (i := 5) Aa Aa
      have W := W.frontZ (i := 3) Aa Aa
      have W := W.frontZ (i := 4) Aa Aa
      have W := W.frontM (i := 2) Aa Aa
      have W := W.frontM (i := 2) Aa Aa
      have W := W.frontM (i := 2) Aa Aa
      have W := W.sub (M' := [(b3, [.int .i64 x7.1, .int .i64 x7.2.1, .int .i64 x7.2.2.1, .int .i64 x7.2.2.2.1, (v13.2.2.2.2.1.1), .int .i64 x7.2.2.2.2.2.1, .int .i64 x7.2.2.2.2.2.2.1, .int .i64 x7.2.2.2.2.2.2.2]), (b2, [v6, v7]), (b1, [.int .i64 p0.1, v1, v2])]) (Z' := [row v16 45 C6 x10, row v9 78 Ip x3, GZ (v13.2.2.2.2.1.1) (Rp.int .i64) x7.2.2.2.2.1, row v6 38 CM x1.1, row v7 91 ES x1.2]) (List.Sublist.refl _) (List.Sublist.cons_cons _ (List.Sublist.cons_cons _ (List.Sublist.cons_cons _ (List.Sublist.cons_cons _ (List.Sublist.cons_cons _ (List.nil_sublist _))))))
      exact ⟨_, (v16), H, F.re ⟨rfl, Aa, Aa, Aa, Aa, Aa, Aa, Aa, Aa, trivial⟩, W⟩
     have H := A9 (by rw [hb]; decide) H
     rw [hb] at F
     clear hb
     refine As (Ac ?_)
     have W := W.frontZ (i := 1) Aa Aa
     have W := W.hideR Nv h4
     have W := W.frontZ (i := 4) Aa Aa
     have W := W.frontZ (i := 4) Aa Aa
     have W := W.frontZ (i := 3) Aa Aa
     have W := W.frontZ (i := 3) Aa Aa
     have W := W.frontZ (i := 4) Aa Aa
     have W := W.frontM (i := 2) Aa Aa
     have W := W.frontM (i := 2) Aa Aa
     have W := W.frontM (i := 2) Aa Aa
     exact ⟨_, (v10), H, F.re ⟨rfl, Aa, Aa, Aa, Aa, Aa, Aa, Aa, Aa, trivial⟩, W⟩
    rintro a w ⟨x8, v14, hj, F, W⟩
    have hj := A1 hj
    subst hj
    have H := K4
    clear G4 K4
    obtain ⟨o5, G5, K5⟩ := An H
    refine AR (fun a w => ∃ x11 : List (Int × Int), ∃ v17 : Value, some (x11) = some o5 ∧ Fr 83 [] [(1, v3), (3, .pointer (some ⟨b1, 0, none⟩)), (6, .slice none 0 0), (7, v17), (8, .pointer (some ⟨b2, 0, none⟩)), (10, .pointer (some ⟨b3, 0, none⟩)), (14, v9), (15, .int .i64 (x3.length : Int)), (16, .int .i64 x5)] a ∧ Stw ⟨Y, [], w0⟩ [(b3, [.int .i64 x7.1, .int .i64 x7.2.1, .int .i64 x7.2.2.1, .int .i64 x7.2.2.2.1, (v13.2.2.2.2.1.1), .int .i64 x7.2.2.2.2.2.1, .int .i64 x7.2.2.2.2.2.2.1, .int .i64 x7.2.2.2.2.2.2.2]), (b2, [v6, v7]), (b1, [.int .i64 p0.1, v1, v2])] [row v17 45 C6 x11, row v9 78 Ip x3, GZ (v13.2.2.2.2.1.1) (Rp.int .i64) x7.2.2.2.2.1, row v6 38 CM x1.1, row v7 91 ES x1.2] w) ?_ ?_
    ·
     have H := G5
     clear G5 K5
     refine Ah (Ab ?_)
     refine ls F W Aa (Af Ek Aa Aa Aa T3 F Aa 5 Aa).q fun a w F W => ?_
     refine ls F W Aa (Al (v := Value.int .i64 x7.2.2.2.2.2.1) 0 F Aa Aa T3 Aa).q fun a w F W => ?_
     refine ls F W Aa (C9 F Aa Aa).q fun a w F W => ?_
     refine Ad (Ac ?_)
     refine AA F Aa (fun hb => ?_) fun hb => ?_
     ·
      have H := Ba (BO hb) H
      rw [hb] at F
      clear hb
      refine Ab ?_
      refine ls F W Aa (Ag F Aa).q fun a w F W => ?_
      refine ls F W Aa (Af Ek Aa Aa Aa T3 F Aa 0 Aa).q fun a w F W => ?_
      refine ls F W Aa (Al (v := Value.int .i64 x7.1) 0 F Aa Aa T3 Aa).q fun a w F W => ?_
      refine ls F W Aa (Bx (v := Value.agg #[.int .i64 2, .int .i64 x7.1]) N1 F Aa Aa Aa).q fun a w F W => ?_
      refine Do (z := Value.agg #[.int .i64 0, .int .i64 0]) (cs := [.int .i64 2, .int .i64 x7.1]) C6 ([(2, x7.1)] : List (Int × Int)) F W Aa Mh Oy Aa Aa Aa Aa Aa Aa (Nx.repL _ _ ([(2, x7.1)] : List (Int × Int))) fun v18 a w F W => ?_
      obtain ⟨x12, h11, H⟩ := An H
      refine Cr (r := C6) (i := 1) F W Aa Mh Aa Aa Aa Aa (C5 W 0 Aa) h11 Aa fun v19 a w F W => ?_
      have W : Stw ⟨Y, [], w0⟩ [(b3, [.int .i64 x7.1, .int .i64 x7.2.1, .int .i64 x7.2.2.1, .int .i64 x7.2.2.2.1, (v13.2.2.2.2.1.1), .int .i64 x7.2.2.2.2.2.1, .int .i64 x7.2.2.2.2.2.2.1, .int .i64 x7.2.2.2.2.2.2.2]), (b2, [v6, v7]), (b1, [.int .i64 p0.1, v1, v2])] [row v19 45 C6 x12, row v18 45 C6 ([(2, x7.1)] : List (Int × Int)), row v9 78 Ip x3, GZ (v13.2.2.2.2.1.1) (Rp.int .i64) x7.2.2.2.2.1, row v6 38 CM x1.1, row v7 91 ES x1.2] w := W
      refine ls F W Aa (Ae F Aa).q fun a w F W => ?_
      refine Ad (Ac ?_)
      have W := W.frontZ (i := 5) Aa Aa
      have W := W.frontZ (i := 5) Aa Aa
      have W := W.frontZ (i := 5) Aa Aa
      have W := W.frontZ (i := 5) Aa Aa
      have W := W.frontZ (i := 4) Aa Aa
      have W := W.frontM (i := 2) Aa Aa
      have W := W.frontM (i := 2) Aa Aa
      have W := W.frontM (i := 2) Aa Aa
      have W := W.sub (M' := [(b3, [.int .i64 x7.1, .int .i64 x7.2.1, .int .i64 x7.2.2.1, .int .i64 x7.2.2.2.1, (v13.2.2.2.2.1.1), .int .i64 x7.2.2.2.2.2.1, .int .i64 x7.2.2.2.2.2.2.1, .int .i64 x7.2.2.2.2.2.2.2]), (b2, [v6, v7]), (b1, [.int .i64 p0.1, v1, v2])]) (Z' := [row v19 45 C6 x12, row v9 78 Ip x3, GZ (v13.2.2.2.2.1.1) (Rp.int .i64) x7.2.2.2.2.1, row v6 38 CM x1.1, row v7 91 ES x1.2]) (List.Sublist.refl _) (List.Sublist.cons_cons _ (List.Sublist.cons_cons _ (List.Sublist.cons_cons _ (List.Sublist.cons_cons _ (List.Sublist.cons_cons _ (List.nil_sublist _))))))
      exact ⟨_, (v19), H, F.re ⟨rfl, Aa, Aa, Aa, Aa, Aa, Aa, Aa, Aa, trivial⟩, W⟩
     have H := A9 (BS hb) H
     rw [hb] at F
     clear hb
     refine As (Ac ?_)
     have W := W.frontZ (i := 4) Aa Aa
     have W := W.frontZ (i := 4) Aa Aa
     have W := W.frontZ (i := 4) Aa Aa
     have W := W.frontZ (i := 4) Aa Aa
     have W := W.frontZ (i := 4) Aa Aa
     have W := W.frontM (i := 2) Aa Aa
     have W := W.frontM (i := 2) Aa Aa
     have W := W.frontM (i := 2) Aa Aa
     exact ⟨_, (v14), H, F.re ⟨rfl, Aa, Aa, Aa, Aa, Aa, Aa, Aa, Aa, trivial⟩, W⟩
    rintro a w ⟨x11, v17, hj, F, W⟩
    have hj := A1 hj
    subst hj
    have H := K5
    clear G5 K5
    obtain ⟨o6, G6, K6⟩ := An H
    refine AR (fun a w => ∃ x13 : List (Int × Int), ∃ v20 : Value, some (x13) = some o6 ∧ Fr 83 [] [(1, v3), (3, .pointer (some ⟨b1, 0, none⟩)), (6, .slice none 0 0), (7, v20), (8, .pointer (some ⟨b2, 0, none⟩)), (10, .pointer (some ⟨b3, 0, none⟩)), (14, v9), (15, .int .i64 (x3.length : Int)), (16, .int .i64 x5)] a ∧ Stw ⟨Y, [], w0⟩ [(b3, [.int .i64 x7.1, .int .i64 x7.2.1, .int .i64 x7.2.2.1, .int .i64 x7.2.2.2.1, (v13.2.2.2.2.1.1), .int .i64 x7.2.2.2.2.2.1, .int .i64 x7.2.2.2.2.2.2.1, .int .i64 x7.2.2.2.2.2.2.2]), (b2, [v6, v7]), (b1, [.int .i64 p0.1, v1, v2])] [row v20 45 C6 x13, row v9 78 Ip x3, GZ (v13.2.2.2.2.1.1) (Rp.int .i64) x7.2.2.2.2.1, row v6 38 CM x1.1, row v7 91 ES x1.2] w) ?_ ?_
    ·
     have H := G6
     clear G6 K6
     refine AR (fun a w => Fr 83 [] [(1, v3), (3, .pointer (some ⟨b1, 0, none⟩)), (6, .slice none 0 0), (7, v17), (8, .pointer (some ⟨b2, 0, none⟩)), (10, .pointer (some ⟨b3, 0, none⟩)), (14, v9), (15, .int .i64 (x3.length : Int)), (16, .int .i64 x5), (46, .bool (decide (x7.2.2.2.2.2.1 = 3) && decide (x7.2.2.2.2.2.2.1 ≠ x7.2.2.1)))] a ∧ Stw ⟨Y, [], w0⟩ [(b3, [.int .i64 x7.1, .int .i64 x7.2.1, .int .i64 x7.2.2.1, .int .i64 x7.2.2.2.1, (v13.2.2.2.2.1.1), .int .i64 x7.2.2.2.2.2.1, .int .i64 x7.2.2.2.2.2.2.1, .int .i64 x7.2.2.2.2.2.2.2]), (b2, [v6, v7]), (b1, [.int .i64 p0.1, v1, v2])] [row v17 45 C6 x11, row v9 78 Ip x3, GZ (v13.2.2.2.2.1.1) (Rp.int .i64) x7.2.2.2.2.1, row v6 38 CM x1.1, row v7 91 ES x1.2] w) ?_ ?_
     ·
      refine Ab ?_
      refine ls F W Aa (Af Ek Aa Aa Aa T3 F Aa 5 Aa).q fun a w F W => ?_
      refine ls F W Aa (Al (v := Value.int .i64 x7.2.2.2.2.2.1) 0 F Aa Aa T3 Aa).q fun a w F W => ?_
      refine ls F W Aa (C9 F Aa Aa).q fun a w F W => ?_
      refine ls F W Aa (Ag F Aa).q fun a w F W => ?_
      rcases Bool.eq_false_or_eq_true (decide (x7.2.2.2.2.2.1 = 3)) with hb0 | hb0
      ·
       rw [hb0] at F
       refine AM F W (Ai F Aa Aa Aa Aa) Aa (Ao Aa) (Af Ek Aa Aa Aa T3 F Aa 6 Aa).q fun a w F W => ?_
       refine AM F W (Ai F Aa Aa Aa Aa) Aa (Ao Aa) (Al (v := Value.int .i64 x7.2.2.2.2.2.2.1) 0 F Aa Aa T3 Aa).q fun a w F W => ?_
       refine AM F W (Ai F Aa Aa Aa Aa) Aa (Ao Aa) (Af Ek Aa Aa Aa T3 F Aa 2 Aa).q fun a w F W => ?_
       refine AM F W (Ai F Aa Aa Aa Aa) Aa (Ao Aa) (Al (v := Value.int .i64 x7.2.2.1) 0 F Aa Aa T3 Aa).q fun a w F W => ?_
       refine AM F W (Ai F Aa Aa Aa Aa) Aa (Ao Aa) (GO F Aa Aa).q fun a w F W => ?_
       refine ls F W Aa (Ay F Aa Aa Aa).q fun a w F W => ?_
       refine Ad (Ac ?_)
       exact ⟨F.re ⟨rfl, Aa, Aa, Aa, Aa, Aa, Aa, Aa, Aa, (by show some (Value.bool (decide (x7.2.2.2.2.2.2.1 ≠ x7.2.2.1))) = some (Value.bool (decide (x7.2.2.2.2.2.1 = 3) && decide (x7.2.2.2.2.2.2.1 ≠ x7.2.2.1))); try rw [hb0]; all_goals simp only [Bool.not_true, Bool.not_false, Bool.true_and, Bool.false_and, Bool.true_or, Bool.false_or, Bool.and_true, Bool.or_false, cond_true, cond_false]), trivial⟩, W⟩
      rw [hb0] at F
      iterate 5 refine DU F Aa Aa Aa Aa Aa Aa Aa fun a F => ?_
      refine ls F W Aa (AL F Aa Aa Aa).q fun a w F W => ?_
      refine Ad (Ac ?_)
      exact ⟨F.re ⟨rfl, Aa, Aa, Aa, Aa, Aa, Aa, Aa, Aa, (by show some (Value.bool false) = some (Value.bool (decide (x7.2.2.2.2.2.1 = 3) && decide (x7.2.2.2.2.2.2.1 ≠ x7.2.2.1))); try rw [hb0]; all_goals simp only [Bool.not_true, Bool.not_false, Bool.true_and, Bool.false_and, Bool.true_or, Bool.false_or, Bool.and_true, Bool.or_false, cond_true, cond_false]), trivial⟩, W⟩
     rintro a w ⟨F, W⟩
     refine AA F Aa (fun hb => ?_) fun hb => ?_
     ·
      have H := Ba hb H
      rw [hb] at F
      clear hb
      refine Ab ?_
      refine ls F W Aa (Ag F Aa).q fun a w F W => ?_
      refine ls F W Aa (Af Ek Aa Aa Aa T3 F Aa 0 Aa).q fun a w F W => ?_
      refine ls F W Aa (Al (v := Value.int .i64 x7.1) 0 F Aa Aa T3 Aa).q fun a w F W => ?_
      refine ls F W Aa (Bx (v := Value.agg #[.int .i64 3, .int .i64 x7.1]) N1 F Aa Aa Aa).q fun a w F W => ?_
      refine Do (z := Value.agg #[.int .i64 0, .int .i64 0]) (cs := [.int .i64 3, .int .i64 x7.1]) C6 ([(3, x7.1)] : List (Int × Int)) F W Aa Mh Oy Aa Aa Aa Aa Aa Aa (Nx.repL _ _ ([(3, x7.1)] : List (Int × Int))) fun v21 a w F W => ?_
      obtain ⟨x14, h12, H⟩ := An H
      refine Cr (r := C6) (i := 1) F W Aa Mh Aa Aa Aa Aa (C5 W 0 Aa) h12 Aa fun v22 a w F W => ?_
      have W : Stw ⟨Y, [], w0⟩ [(b3, [.int .i64 x7.1, .int .i64 x7.2.1, .int .i64 x7.2.2.1, .int .i64 x7.2.2.2.1, (v13.2.2.2.2.1.1), .int .i64 x7.2.2.2.2.2.1, .int .i64 x7.2.2.2.2.2.2.1, .int .i64 x7.2.2.2.2.2.2.2]), (b2, [v6, v7]), (b1, [.int .i64 p0.1, v1, v2])] [row v22 45 C6 x14, row v21 45 C6 ([(3, x7.1)] : List (Int × Int)), row v9 78 Ip x3, GZ (v13.2.2.2.2.1.1) (Rp.int .i64) x7.2.2.2.2.1, row v6 38 CM x1.1, row v7 91 ES x1.2] w := W
      refine ls F W Aa (Ae F Aa).q fun a w F W => ?_
      refine Ad (Ac ?_)
      have W := W.frontZ (i := 5) Aa Aa
      have W := W.frontZ (i := 5) Aa Aa
      have W := W.frontZ (i := 5) Aa Aa
      have W := W.frontZ (i := 5) Aa Aa
      have W := W.frontZ (i := 4) Aa Aa
      have W := W.frontM (i := 2) Aa Aa
      have W := W.frontM (i := 2) Aa Aa
      have W := W.frontM (i := 2) Aa Aa
      have W := W.sub (M' := [(b3, [.int .i64 x7.1, .int .i64 x7.2.1, .int .i64 x7.2.2.1, .int .i64 x7.2.2.2.1, (v13.2.2.2.2.1.1), .int .i64 x7.2.2.2.2.2.1, .int .i64 x7.2.2.2.2.2.2.1, .int .i64 x7.2.2.2.2.2.2.2]), (b2, [v6, v7]), (b1, [.int .i64 p0.1, v1, v2])]) (Z' := [row v22 45 C6 x14, row v9 78 Ip x3, GZ (v13.2.2.2.2.1.1) (Rp.int .i64) x7.2.2.2.2.1, row v6 38 CM x1.1, row v7 91 ES x1.2]) (List.Sublist.refl _) (List.Sublist.cons_cons _ (List.Sublist.cons_cons _ (List.Sublist.cons_cons _ (List.Sublist.cons_cons _ (List.Sublist.cons_cons _ (List.nil_sublist _))))))
      exact ⟨_, (v22), H, F.re ⟨rfl, Aa, Aa, Aa, Aa, Aa, Aa, Aa, Aa, trivial⟩, W⟩
     have H := A9 (by rw [hb]; decide) H
     rw [hb] at F
     clear hb
     refine As (Ac ?_)
     have W := W.frontZ (i := 4) Aa Aa
     have W := W.frontZ (i := 4) Aa Aa
     have W := W.frontZ (i := 4) Aa Aa
     have W := W.frontZ (i := 4) Aa Aa
     have W := W.frontZ (i := 4) Aa Aa
     have W := W.frontM (i := 2) Aa Aa
     have W := W.frontM (i := 2) Aa Aa
     have W := W.frontM (i := 2) Aa Aa
     exact ⟨_, (v17), H, F.re ⟨rfl, Aa, Aa, Aa, Aa, Aa, Aa, Aa, Aa, trivial⟩, W⟩
    rintro a w ⟨x13, v20, hj, F, W⟩
    have hj := A1 hj
    subst hj
    have H := K6
    clear G6 K6
    obtain ⟨o7, G7, K7⟩ := An H
    refine AR (fun a w => ∃ x15 : Bool, some (x15) = some o7 ∧ Fr 83 [] [(1, v3), (3, .pointer (some ⟨b1, 0, none⟩)), (6, .slice none 0 0), (7, v20), (8, .pointer (some ⟨b2, 0, none⟩)), (10, .pointer (some ⟨b3, 0, none⟩)), (14, v9), (15, .int .i64 (x3.length : Int)), (16, .int .i64 x5), (74, .bool x15)] a ∧ Stw ⟨Y, [], w0⟩ [(b3, [.int .i64 x7.1, .int .i64 x7.2.1, .int .i64 x7.2.2.1, .int .i64 x7.2.2.2.1, (v13.2.2.2.2.1.1), .int .i64 x7.2.2.2.2.2.1, .int .i64 x7.2.2.2.2.2.2.1, .int .i64 x7.2.2.2.2.2.2.2]), (b2, [v6, v7]), (b1, [.int .i64 p0.1, v1, v2])] [row v20 45 C6 x13, row v9 78 Ip x3, GZ (v13.2.2.2.2.1.1) (Rp.int .i64) x7.2.2.2.2.1, row v6 38 CM x1.1, row v7 91 ES x1.2] w) ?_ ?_
    ·
     have H := G7
     clear G7 K7
     refine Df W MO (by kernel_rfl) ?_
     refine qs F Aa (Af Ek Aa Aa Aa Gy F Aa 4 Aa).q fun a F => ?_
     refine qs F Aa (Al (v := (v13.2.2.2.2.1.1)) 0 F Aa Aa Gy Aa).q fun a F => ?_
     refine qs F Aa (Bl (r := (Rp.int .i64)) (l := x7.2.2.2.2.1) Gn Aa F Aa (Jq 2 Aa)).q fun a F => ?_
     refine qs F Aa (FX F Aa Aa).q fun a F => ?_
     refine qs F Aa (Ag F Aa).q fun a F => ?_
     rcases Bool.eq_false_or_eq_true (decide (0 < (x7.2.2.2.2.1.length : Int))) with hb | hb
     ·
      have H := Ba (BO hb) H
      rw [hb] at F
      clear hb
      refine Gq F (Ai F Aa Aa Aa Aa) Aa (Ao Aa) (Al (v := Value.agg #[v6, v7]) 1 F Aa Aa NS Aa).q fun a F => ?_
      refine Gq F (Ai F Aa Aa Aa Aa) Aa (Ao Aa) (Af Ek Aa Aa Aa T3 F Aa 3 Aa).q fun a F => ?_
      refine Gq F (Ai F Aa Aa Aa Aa) Aa (Ao Aa) (Al (v := Value.int .i64 x7.2.2.2.1) 0 F Aa Aa T3 Aa).q fun a F => ?_
      obtain ⟨x16, h13, H⟩ := An H
      refine Gq F (Ai F Aa Aa Aa Aa) Aa (Ao Aa) (Ch (v := Value.bool x16) F Pj Aa (fun w W => EV any w (v6) (v7) x1 x7.2.2.2.1 _ h13 (((AN 3 Aa) : DV _ _ _ _ _ _) w W).nx (((AN 4 Aa) : DV _ _ _ _ _ _) w W).nx)) fun a F => ?_
      refine Gq F (Ai F Aa Aa Aa Aa) Aa (Ao Aa) (Ga F Aa).q fun a F => ?_
      refine qs F Aa (Ay F Aa Aa Aa).q fun a F => ?_
      refine qs F Aa (Ag F Aa).q fun a F => ?_
      rcases Bool.eq_false_or_eq_true (!x16) with hb | hb
      ·
       have H := Ba hb H
       rw [hb] at F
       clear hb
       refine Gq F (Ai F Aa Aa Aa Aa) Aa (Ao Aa) (Al (v := Value.agg #[.int .i64 p0.1, v1, v2]) 2 F Aa Aa JQ Aa).q fun a F => ?_
       refine Gq F (Ai F Aa Aa Aa Aa) Aa (Ao Aa) (Ag F Aa).q fun a F => ?_
       refine Gq F (Ai F Aa Aa Aa Aa) Aa (Ao Aa) (Al (v := Value.agg #[v6, v7]) 1 F Aa Aa NS Aa).q fun a F => ?_
       refine Gq F (Ai F Aa Aa Aa Aa) Aa (Ao Aa) (Af Ek Aa Aa Aa T3 F Aa 3 Aa).q fun a F => ?_
       refine Gq F (Ai F Aa Aa Aa Aa) Aa (Ao Aa) (Al (v := Value.int .i64 x7.2.2.2.1) 0 F Aa Aa T3 Aa).q fun a F => ?_
       obtain ⟨x17, h14, H⟩ := An H
       refine Gq F (Ai F Aa Aa Aa Aa) Aa (Ao Aa) (Ch (v := Value.int .i64 x17) F Pu Aa (fun w W => Fg any w (v6) (v7) x1 x7.2.2.2.1 _ h14 (((AN 3 Aa) : DV _ _ _ _ _ _) w W).nx (((AN 4 Aa) : DV _ _ _ _ _ _) w W).nx)) fun a F => ?_
       refine Gq F (Ai F Aa Aa Aa Aa) Aa (Ao Aa) (Al (v := Value.agg #[.int .i64 x7.1, .int .i64 x7.2.1, .int .i64 x7.2.2.1, .int .i64 x7.2.2.2.1, (v13.2.2.2.2.1.1), .int .i64 x7.2.2.2.2.2.1, .int .i64 x7.2.2.2.2.2.2.1, .int .i64 x7.2.2.2.2.2.2.2]) 0 F Aa Aa Oz Aa).q fun a F => ?_
       obtain ⟨x18, h15, H⟩ := An H
       refine Gq F (Ai F Aa Aa Aa Aa) Aa (Ao Aa) (Ch (v := Value.bool x18) F Qc Aa (fun w W => HD any w (v1) (v2) (v3) ((v13.2.2.2.2.1.1)) p0 p1 x17 x7 _ h15 (((Ak h_v1) : DV _ _ _ _ _ _) w W).nx (((Ak h_v2) : DV _ _ _ _ _ _) w W).nx (((Cc Ir h1 (Ak h_v3)) : DV _ _ _ _ _ _) w W).nx (((Jq 2 Aa) : DV _ _ _ _ _ _) w W).nx)) fun a F => ?_
       refine Gq F (Ai F Aa Aa Aa Aa) Aa (Ao Aa) (Ga F Aa).q fun a F => ?_
       refine qs F Aa (Ay F Aa Aa Aa).q fun a F => ?_
       refine Cf fun w W => ?_
       refine Ac ?_
       have W := W.frontZ (i := 4) Aa Aa
       have W := W.frontZ (i := 4) Aa Aa
       have W := W.frontZ (i := 4) Aa Aa
       have W := W.frontZ (i := 4) Aa Aa
       have W := W.frontZ (i := 4) Aa Aa
       have W := W.frontM (i := 2) Aa Aa
       have W := W.frontM (i := 2) Aa Aa
       have W := W.frontM (i := 2) Aa Aa
       exact ⟨_, H, F.re ⟨rfl, Aa, Aa, Aa, Aa, Aa, Aa, Aa, Aa, Aa, trivial⟩, W⟩
      have H := A9 (by rw [hb]; decide) H
      rw [hb] at F
      clear hb
      iterate 9 refine I9 F (GG F Aa Aa Aa Aa Aa) Aa Aa fun a F => ?_
      refine qs F Aa (AL F Aa Aa Aa).q fun a F => ?_
      refine Cf fun w W => ?_
      refine Ac ?_
      have W := W.frontZ (i := 4) Aa Aa
      have W := W.frontZ (i := 4) Aa Aa
      have W := W.frontZ (i := 4) Aa Aa
      have W := W.frontZ (i := 4) Aa Aa
      have W := W.frontZ (i := 4) Aa Aa
      have W := W.frontM (i := 2) Aa Aa
      have W := W.frontM (i := 2) Aa Aa
      have W := W.frontM (i := 2) Aa Aa
      exact ⟨_, H, F.re ⟨rfl, Aa, Aa, Aa, Aa, Aa, Aa, Aa, Aa, Aa, trivial⟩, W⟩
     have H := A9 (BS hb) H
     rw [hb] at F
     clear hb
     iterate 5 refine I9 F (GG F Aa Aa Aa Aa Aa) Aa Aa fun a F => ?_
     refine qs F Aa (AL F Aa Aa Aa).q fun a F => ?_
     refine qs F Aa (Ag F Aa).q fun a F => ?_
     iterate 9 refine I9 F (GG F Aa Aa Aa Aa Aa) Aa Aa fun a F => ?_
     refine qs F Aa (AL F Aa Aa Aa).q fun a F => ?_
     refine Cf fun w W => ?_
     refine Ac ?_
     have W := W.frontZ (i := 4) Aa Aa
     have W := W.frontZ (i := 4) Aa Aa
     have W := W.frontZ (i := 4) Aa Aa
     have W := W.frontZ (i := 4) Aa Aa
     have W := W.frontZ (i := 4) Aa Aa
     have W := W.frontM (i := 2) Aa Aa
     have W := W.frontM (i := 2) Aa Aa
     have W := W.frontM (i := 2) Aa Aa
     exact ⟨_, H, F.re ⟨rfl, Aa, Aa, Aa, Aa, Aa, Aa, Aa, Aa, Aa, trivial⟩, W⟩
    rintro a w ⟨x15, hj, F, W⟩
    have hj := A1 hj
    subst hj
    have H := K7
    clear G7 K7
    refine AA F Aa (fun hb => ?_) fun hb => ?_
    ·
     have H := Ba hb H
     rw [hb] at F
     clear hb
     refine Ab ?_
     refine ls F W Aa (Ag F Aa).q fun a w F W => ?_
     refine ls F W Aa (Af Ek Aa Aa Aa T3 F Aa 0 Aa).q fun a w F W => ?_
     refine ls F W Aa (Al (v := Value.int .i64 x7.1) 0 F Aa Aa T3 Aa).q fun a w F W => ?_
     refine ls F W Aa (Bx (v := Value.agg #[.int .i64 4, .int .i64 x7.1]) N1 F Aa Aa Aa).q fun a w F W => ?_
     refine Do (z := Value.agg #[.int .i64 0, .int .i64 0]) (cs := [.int .i64 4, .int .i64 x7.1]) C6 ([(4, x7.1)] : List (Int × Int)) F W Aa Mh Oy Aa Aa Aa Aa Aa Aa (Nx.repL _ _ ([(4, x7.1)] : List (Int × Int))) fun v23 a w F W => ?_
     obtain ⟨x19, h16, H⟩ := An H
     refine Cr (r := C6) (i := 1) F W Aa Mh Aa Aa Aa Aa (C5 W 0 Aa) h16 Aa fun v24 a w F W => ?_
     have W : Stw ⟨Y, [], w0⟩ [(b3, [.int .i64 x7.1, .int .i64 x7.2.1, .int .i64 x7.2.2.1, .int .i64 x7.2.2.2.1, (v13.2.2.2.2.1.1), .int .i64 x7.2.2.2.2.2.1, .int .i64 x7.2.2.2.2.2.2.1, .int .i64 x7.2.2.2.2.2.2.2]), (b2, [v6, v7]), (b1, [.int .i64 p0.1, v1, v2])] [row v24 45 C6 x19, row v23 45 C6 ([(4, x7.1)] : List (Int × Int)), row v9 78 Ip x3, GZ (v13.2.2.2.2.1.1) (Rp.int .i64) x7.2.2.2.2.1, row v6 38 CM x1.1, row v7 91 ES x1.2] w := W
     refine ls F W Aa (Ae F Aa).q fun a w F W => ?_
     refine Ad (AP (Ac ?_))
     have W := W.frontZ (i := 5) Aa Aa
     have W := W.frontZ (i := 5) Aa Aa
     have W := W.frontZ (i := 4) Aa Aa
     have W := W.frontZ (i := 3) Aa Aa
     have W := W.frontM (i := 2) Aa Aa
     have W := W.frontM (i := 2) Aa Aa
     have W := W.sub (M' := [(b2, [v6, v7]), (b1, [.int .i64 p0.1, v1, v2])]) (Z' := [row v24 45 C6 x19, row v9 78 Ip x3, row v6 38 CM x1.1, row v7 91 ES x1.2]) (List.Sublist.cons_cons _ (List.Sublist.cons_cons _ (List.nil_sublist _))) (List.Sublist.cons_cons _ (List.Sublist.cons_cons _ (List.Sublist.cons_cons _ (List.Sublist.cons_cons _ (List.nil_sublist _)))))
     exact ⟨_, (v24), H, F.re ⟨rfl, Aa, Aa, Aa, Aa, Aa, Aa, Aa, trivial⟩, W⟩
    have H := A9 (by rw [hb]; decide) H
    rw [hb] at F
    clear hb
    refine As (AP (Ac ?_))
    have W := W.frontZ (i := 4) Aa Aa
    have W := W.frontZ (i := 4) Aa Aa
    have W := W.frontZ (i := 3) Aa Aa
    have W := W.frontZ (i := 3) Aa Aa
    have W := W.frontM (i := 2) Aa Aa
    have W := W.frontM (i := 2) Aa Aa
    have W := W.sub (M' := [(b2, [v6, v7]), (b1, [.int .i64 p0.1, v1, v2])]) (Z' := [row v20 45 C6 x13, row v9 78 Ip x3, row v6 38 CM x1.1, row v7 91 ES x1.2]) (List.Sublist.cons_cons _ (List.Sublist.cons_cons _ (List.nil_sublist _))) (List.Sublist.cons_cons _ (List.Sublist.cons_cons _ (List.Sublist.cons_cons _ (List.Sublist.cons_cons _ (List.nil_sublist _)))))
    exact ⟨_, (v20), H, F.re ⟨rfl, Aa, Aa, Aa, Aa, Aa, Aa, Aa, trivial⟩, W⟩
   rintro a w ⟨x6, v11, hj, F, W⟩
   have hj := A1 hj
   subst hj
   have H := K3
   clear G3 K3
   refine Ab ?_
   refine ls F W Aa (Dk F Aa Aa Aa).q fun a w F W => ?_
   refine ls F W Aa (Ag F Aa).q fun a w F W => ?_
   refine Ad (Ac ?_)
   have W := W.frontZ (i := 3) Aa Aa
   have W := W.frontZ (i := 3) Aa Aa
   have W := W.frontZ (i := 3) Aa Aa
   have W := W.frontZ (i := 3) Aa Aa
   have W := W.frontM (i := 1) Aa Aa
   have W := W.frontM (i := 1) Aa Aa
   exact ⟨_, H, (v11), F.re ⟨rfl, Aa, Aa, Aa, Aa, Aa, Aa, Aa, trivial⟩, W⟩
  have H := A9 (BS hb) H
  rw [hb] at F
  clear hb
  refine BH ?_
  iterate 2 refine Cj ?_
  refine BI (Ac ?_)
  have W := W.frontZ (i := 3) Aa Aa
  have W := W.frontZ (i := 3) Aa Aa
  have W := W.frontZ (i := 2) Aa Aa
  have W := W.frontM (i := 1) Aa Aa
  have W := W.frontM (i := 1) Aa Aa
  have W := W.sub (M' := [(b2, [v6, v7]), (b1, [.int .i64 p0.1, v1, v2])]) (Z' := [row v10 45 C6 x4, row v6 38 CM x1.1, row v7 91 ES x1.2]) (List.Sublist.refl _) (List.Sublist.cons_cons _ (List.Sublist.cons_cons _ (List.Sublist.cons_cons _ (List.nil_sublist _))))
  have H := L2 _ H
  exact ⟨_, (v10), H, F.re ⟨rfl, Aa, trivial⟩, W⟩
 rintro a w ⟨x2, v8, hj, F, W⟩
 have hj := A1 hj
 subst hj
 have H := K1
 clear G1 K1
 refine Ah (Ab ?_)
 refine ls F W Aa (Ag F Aa).q fun a w F W => ?_
 refine ls F W Aa (Ae F Aa).q fun a w F W => ?_
 refine Ad (Ac (AB ?_))
 have H := A1 H
 subst H
 refine Be (.inl Aa) F W Aa (Aw F Aa) ?_
 have W := W.sub (M' := []) (Z' := [row v8 45 C6 x2]) (List.nil_sublist _) (List.Sublist.cons_cons _ (List.nil_sublist _))
 exact ⟨(v8), Aa, W⟩
theorem Ov : Has Try.prog 17 := ⟨fun args w => Aj Try.func17 rfl (by decide) args w⟩
theorem OU : Ty Try.prog 45 true 2 := ⟨by kernel_rfl, by kernel_rfl⟩
theorem OO (dd : Nat) (x0 : Int) (x1 : Int) (y0 : Int) (y1 : Int) (w : World) : (Op.equalIn (dd + 2) 45 (.agg #[.int .i64 x0, .int .i64 x1]) (.agg #[.int .i64 y0, .int .i64 y1])).run Try.prog w = .ok (decide (x0 = y0 ∧ x1 = y1)) w :=
  GU (d := dd + 1) (rs := [decide (x0 = y0), decide (x1 = y1)]) N9 (by kernel_rfl) ⟨rfl, F6 (d := dd + 0) rfl rfl MS T3 rfl rfl, rfl, F6 (d := dd + 0) rfl rfl MS T3 rfl rfl, trivial⟩ (by simp) w
theorem Pa : Try.prog.eqGuardType Try.prog.depth 45 = false := by kernel_rfl
theorem O1 (x0 : Int) (x1 : Int) (y0 : Int) (y1 : Int) (w : World) : (Op.equalIn 10000 45 (.agg #[.int .i64 x0, .int .i64 x1]) (.agg #[.int .i64 y0, .int .i64 y1])).run Try.prog w = .ok (decide (x0 = y0 ∧ x1 = y1)) w := OO 9998 x0 x1 y0 y1 w
def D4 (p0 : Int) : List UInt8 := (if p0 = 1 then ([116, 119, 105, 99, 101] : List UInt8) else (if p0 = 2 then ([108, 111, 115, 116] : List UInt8) else (if p0 = 3 then ([97, 115, 116, 114, 97, 121] : List UInt8) else (if p0 = 4 then ([111, 116, 104, 101, 114] : List UInt8) else ([63] : List UInt8)))))
theorem Jm (Y : Nat → Prop) (w0 : World)  (p0 : Int) (r : List UInt8) (H : D4 p0 = r)  :
    Calls Try.prog 15 #[.int .i64 p0] w0 fun e w' => e = .returned (.string (bs r)) ∧ Below w0.heap.size w0 w' := by
 refine enter Try.func15 Aa Try.ntmps15 Aa fun a F => ?_
 have W := Stw.start Y w0
 unfold D4 at H
 refine Ah (Ab ?_)
 refine ls F W Aa (Ae (v := Value.string (bs ([] : List UInt8))) F Aa).q fun a w F W => ?_
 refine Ad (Ac (Ah (Ah (Ab ?_))))
 refine ls F W Aa (Ag F Aa).q fun a w F W => ?_
 refine Ad (Ac (Ax (Ah (Ab ?_))))
 refine ls F W Aa (C9 F Aa Aa).q fun a w F W => ?_
 refine ls F W Aa (Ae F Aa).q fun a w F W => ?_
 refine Ad (Ac ?_)
 refine AA F Aa (fun hb => ?_) fun hb => ?_
 ·
  have H := Ba (BO hb) H
  rw [hb] at F
  clear hb
  refine Ah (Ab ?_)
  refine ls F W Aa (Ae (v := Value.string (bs ([116, 119, 105, 99, 101] : List UInt8))) F Aa).q fun a w F W => ?_
  refine Ad (Ac (AB (AV (AO ?_))))
  subst H
  refine Be (.inl Aa) F W Aa (Aw F Aa) ?_
  exact ⟨rfl, W.done⟩
 have H := A9 (BS hb) H
 rw [hb] at F
 clear hb
 refine Ah (Ab ?_)
 refine ls F W Aa (C9 F Aa Aa).q fun a w F W => ?_
 refine ls F W Aa (Ae F Aa).q fun a w F W => ?_
 refine Ad (Ac ?_)
 refine AA F Aa (fun hb => ?_) fun hb => ?_
 ·
  have H := Ba (BO hb) H
  rw [hb] at F
  clear hb
  refine Ah (Ab ?_)
  refine ls F W Aa (Ae (v := Value.string (bs ([108, 111, 115, 116] : List UInt8))) F Aa).q fun a w F W => ?_
  refine Ad (Ac (AB (AV (AO ?_))))
  subst H
  refine Be (.inl Aa) F W Aa (Aw F Aa) ?_
  exact ⟨rfl, W.done⟩
 have H := A9 (BS hb) H
 rw [hb] at F
 clear hb
 refine Ah (Ab ?_)
 refine ls F W Aa (C9 F Aa Aa).q fun a w F W => ?_
 refine ls F W Aa (Ae F Aa).q fun a w F W => ?_
 refine Ad (Ac ?_)
 refine AA F Aa (fun hb => ?_) fun hb => ?_
 ·
  have H := Ba (BO hb) H
  rw [hb] at F
  clear hb
  refine Ah (Ab ?_)
  refine ls F W Aa (Ae (v := Value.string (bs ([97, 115, 116, 114, 97, 121] : List UInt8))) F Aa).q fun a w F W => ?_
  refine Ad (Ac (AB (AV (AO ?_))))
  subst H
  refine Be (.inl Aa) F W Aa (Aw F Aa) ?_
  exact ⟨rfl, W.done⟩
 have H := A9 (BS hb) H
 rw [hb] at F
 clear hb
 refine Ah (Ab ?_)
 refine ls F W Aa (C9 F Aa Aa).q fun a w F W => ?_
 refine ls F W Aa (Ae F Aa).q fun a w F W => ?_
 refine Ad (Ac ?_)
 refine AA F Aa (fun hb => ?_) fun hb => ?_
 ·
  have H := Ba (BO hb) H
  rw [hb] at F
  clear hb
  refine Ah (Ab ?_)
  refine ls F W Aa (Ae (v := Value.string (bs ([111, 116, 104, 101, 114] : List UInt8))) F Aa).q fun a w F W => ?_
  refine Ad (Ac (AB (AV (AO ?_))))
  subst H
  refine Be (.inl Aa) F W Aa (Aw F Aa) ?_
  exact ⟨rfl, W.done⟩
 have H := A9 (BS hb) H
 rw [hb] at F
 clear hb
 refine As (AP (Ac (Ah (Ab ?_))))
 refine ls F W Aa (Ae (v := Value.string (bs ([63] : List UInt8))) F Aa).q fun a w F W => ?_
 refine Ad (Ac (AB ?_))
 subst H
 refine Be (.inl Aa) F W Aa (Aw F Aa) ?_
 exact ⟨rfl, W.done⟩
theorem PK : Has Try.prog 15 := ⟨fun args w => Aj Try.func15 rfl (by decide) args w⟩
noncomputable def D3  : Option Bool := (B7 (1, ([] : List (Int × Int × Int × Int × Int × Int)), ([(0, 3)] : List (Int × Int))) ([([([3] : List Int)] : List (List Int))] : List (List (List Int))) ([(1, 0, 4, 0, 0, 0), (4, 0, 4, 0, 0, 0)] : List (Int × Int × Int × Int × Int × Int))).bind fun x1 => ((B7 (1, ([] : List (Int × Int × Int × Int × Int × Int)), ([(0, 3)] : List (Int × Int))) ([([([3] : List Int)] : List (List Int))] : List (List (List Int))) ([(1, 0, 0, 0, 0, 0), (2, 0, 0, 0, 0, 0), (3, 0, 0, 0, 0, 0)] : List (Int × Int × Int × Int × Int × Int))).bind fun x3 => (if (x3.length : Int) = 0 then (if (x1.length : Int) = 1 then (ix x1 0).bind fun x4 => (if x4.1 = 2 ∧ x4.2 = 4 then some (decide ((D4 2) = ([108, 111, 115, 116] : List UInt8))) else some false) else some false) else some false)).bind fun x2 => some x2
theorem Hj (Y : Nat → Prop) (w0 : World)   (r : Bool) (H : D3  = some r)  :
    Calls Try.prog 8 #[] w0 fun e w' => e = .returned (.bool r) ∧ Below w0.heap.size w0 w' := by
 refine enter Try.func8 Aa Try.ntmps8 Aa fun a F => ?_
 have W := Stw.start Y w0
 unfold D3 at H
 refine Ah (Ab ?_)
 refine ls F W Aa (Ae F Aa).q fun a w F W => ?_
 refine Ad (Ac (Ah (Ab ?_)))
 refine ls F W Aa (Bx (v := Value.agg #[.int .i64 0, .int .i64 3]) O5 F Aa Aa Aa).q fun a w F W => ?_
 refine Do (z := Value.agg #[.int .i64 0, .int .i64 0]) (cs := [.int .i64 0, .int .i64 3]) FI ([(0, 3)] : List (Int × Int)) F W Aa OE O3 Aa Aa Aa Aa Aa Aa (OI.repL _ _ ([(0, 3)] : List (Int × Int))) fun v1 a w F W => ?_
 refine ls F W Aa (Bx (v := Value.agg #[.int .i64 1, .slice none 0 0, v1]) Pi F Aa (ED Aa Aa Aa (ED Aa (Dg (W.one (k := 0) Aa)) Aa FT)) Aa).q fun a w F W => ?_
 refine B3 (cs := [.int .i64 0, .slice none 0 0, .slice none 0 0]) F W Aa Pw Aa fun b1 a w F W => ?_
 refine BQ (vs := [.int .i64 1, .slice none 0 0, v1]) (M' := [(b1, [.int .i64 1, .slice none 0 0, v1])]) 0 F W Aa Aa Aa JQ Aa Aa Aa (Bp Aa (Bp Aa (Bp (W.one (k := 0) Aa) F4))) Aa fun w W => ?_
 refine Ad (Ac (Ah (Ab ?_)))
 refine Do (z := Value.int .i64 0) (cs := [.int .i64 3]) (Rp.int .i64) ([3] : List Int) F W Aa Jy Z3 Aa Aa Aa Aa Aa Aa (Fl.int.repL _ _ ([3] : List Int)) fun v2 a w F W => ?_
 have W := W.freeze
 refine Do (z := Value.slice none 0 0) (cs := [v2]) (Rp.slice (Rp.int .i64)) ([([3] : List Int)] : List (List Int)) F W Aa NY PZ Aa Aa Aa (ED Aa (Dg (W.oneF (k := 0) Aa)) Aa FT) Aa Aa ⟨[v2], _, Aa, ⟨_, Aa, (W.item (i := 0) Aa)⟩, Aa⟩ fun v3 a w F W => ?_
 have W := W.freeze
 refine Do (z := Value.slice none 0 0) (cs := [v3]) (Rp.slice (Rp.slice (Rp.int .i64))) ([([([3] : List Int)] : List (List Int))] : List (List (List Int))) F W Aa OZ PP Aa Aa Aa (ED Aa (Dg (W.oneF (k := 0) Aa)) Aa FT) Aa Aa ⟨[v3], _, Aa, ⟨_, Aa, (W.item (i := 0) Aa)⟩, Aa⟩ fun v4 a w F W => ?_
 refine ls F W Aa (Ae F Aa).q fun a w F W => ?_
 refine Ad (Ac (Ah (Ab ?_)))
 refine ls F W Aa (Bx (v := Value.agg #[.int .i64 1, .int .i64 0, .int .i64 0, .int .i64 0, .int .i64 0, .int .i64 0]) NK F Aa Aa Aa).q fun a w F W => ?_
 refine ls F W Aa (Bx (v := Value.agg #[.int .i64 2, .int .i64 0, .int .i64 0, .int .i64 0, .int .i64 0, .int .i64 0]) NK F Aa Aa Aa).q fun a w F W => ?_
 refine ls F W Aa (Bx (v := Value.agg #[.int .i64 3, .int .i64 0, .int .i64 0, .int .i64 0, .int .i64 0, .int .i64 0]) NK F Aa Aa Aa).q fun a w F W => ?_
 refine Do (z := Value.agg #[.int .i64 0, .int .i64 0, .int .i64 0, .int .i64 0, .int .i64 0, .int .i64 0]) (cs := [.int .i64 1, .int .i64 0, .int .i64 0, .int .i64 0, .int .i64 0, .int .i64 0, .int .i64 2, .int .i64 0, .int .i64 0, .int .i64 0, .int .i64 0, .int .i64 0, .int .i64 3, .int .i64 0, .int .i64 0, .int .i64 0, .int .i64 0, .int .i64 0]) Ef ([(1, 0, 0, 0, 0, 0), (2, 0, 0, 0, 0, 0), (3, 0, 0, 0, 0, 0)] : List (Int × Int × Int × Int × Int × Int)) F W Aa J4 Ny Aa Aa Aa Aa Aa Aa (Lx.repL _ _ ([(1, 0, 0, 0, 0, 0), (2, 0, 0, 0, 0, 0), (3, 0, 0, 0, 0, 0)] : List (Int × Int × Int × Int × Int × Int))) fun v5 a w F W => ?_
 refine ls F W Aa (Ae F Aa).q fun a w F W => ?_
 refine Ad (Ac (Ah (Ab ?_)))
 refine ls F W Aa (Al (v := Value.agg #[.int .i64 1, .slice none 0 0, v1]) 0 F Aa Aa JQ Aa).q fun a w F W => ?_
 refine ls F W Aa (Ag F Aa).q fun a w F W => ?_
 refine ls F W Aa (Bx (v := Value.agg #[.int .i64 1, .int .i64 0, .int .i64 4, .int .i64 0, .int .i64 0, .int .i64 0]) NK F Aa Aa Aa).q fun a w F W => ?_
 refine ls F W Aa (Bx (v := Value.agg #[.int .i64 4, .int .i64 0, .int .i64 4, .int .i64 0, .int .i64 0, .int .i64 0]) NK F Aa Aa Aa).q fun a w F W => ?_
 refine Do (z := Value.agg #[.int .i64 0, .int .i64 0, .int .i64 0, .int .i64 0, .int .i64 0, .int .i64 0]) (cs := [.int .i64 1, .int .i64 0, .int .i64 4, .int .i64 0, .int .i64 0, .int .i64 0, .int .i64 4, .int .i64 0, .int .i64 4, .int .i64 0, .int .i64 0, .int .i64 0]) Ef ([(1, 0, 4, 0, 0, 0), (4, 0, 4, 0, 0, 0)] : List (Int × Int × Int × Int × Int × Int)) F W Aa J4 Ny Aa Aa Aa Aa Aa Aa (Lx.repL _ _ ([(1, 0, 4, 0, 0, 0), (4, 0, 4, 0, 0, 0)] : List (Int × Int × Int × Int × Int × Int))) fun v6 a w F W => ?_
 obtain ⟨x1, h1, H⟩ := An H
 refine Cw (Ml := []) (Zl := []) (M := [(b1, [.int .i64 1, .slice none 0 0, v1])]) (Z := [row v6 48 Ef ([(1, 0, 4, 0, 0, 0), (4, 0, 4, 0, 0, 0)] : List (Int × Int × Int × Int × Int × Int)), row v5 48 Ef ([(1, 0, 0, 0, 0, 0), (2, 0, 0, 0, 0, 0), (3, 0, 0, 0, 0, 0)] : List (Int × Int × Int × Int × Int × Int)), row v4 52 (Rp.slice (Rp.slice (Rp.int .i64))) ([([([3] : List Int)] : List (List Int))] : List (List (List Int))), GZ v3 (Rp.slice (Rp.int .i64)) ([([3] : List Int)] : List (List Int)), GZ v2 (Rp.int .i64) ([3] : List Int), row v1 60 FI ([(0, 3)] : List (Int × Int))]) (β := Value) (rv := fun x => x) (MM := fun x => []) (ZZ := fun x => [row x 45 C6 x1]) F W Ov Aa Aa (fun hL => D8 _ w (Value.slice none 0 0) (v1) (v4) (v6) (1, ([] : List (Int × Int × Int × Int × Int × Int)), ([(0, 3)] : List (Int × Int))) ([([([3] : List Int)] : List (List Int))] : List (List (List Int))) ([(1, 0, 4, 0, 0, 0), (4, 0, 4, 0, 0, 0)] : List (Int × Int × Int × Int × Int × Int)) _ h1 Sl.nil ((AN 5 Aa) w W).nx ((AN 2 Aa) w W).nx ((AN 0 Aa) w W).nx) fun x a w F W => ?_
 obtain ⟨v7, rfl⟩ : ∃ y, y = x := ⟨x, rfl⟩
 have W : Stw ⟨Y, [], w0⟩ [(b1, [.int .i64 1, .slice none 0 0, v1])] [row v7 45 C6 x1, row v6 48 Ef ([(1, 0, 4, 0, 0, 0), (4, 0, 4, 0, 0, 0)] : List (Int × Int × Int × Int × Int × Int)), row v5 48 Ef ([(1, 0, 0, 0, 0, 0), (2, 0, 0, 0, 0, 0), (3, 0, 0, 0, 0, 0)] : List (Int × Int × Int × Int × Int × Int)), row v4 52 (Rp.slice (Rp.slice (Rp.int .i64))) ([([([3] : List Int)] : List (List Int))] : List (List (List Int))), GZ v3 (Rp.slice (Rp.int .i64)) ([([3] : List Int)] : List (List Int)), GZ v2 (Rp.int .i64) ([3] : List Int), row v1 60 FI ([(0, 3)] : List (Int × Int))] w := W
 refine ls F W Aa (Ae F Aa).q fun a w F W => ?_
 refine Ad (Ac ?_)
 obtain ⟨o1, G1, K1⟩ := An H
 refine AR (fun a w => ∃ x2 : Bool, some (x2) = some o1 ∧ Fr 43 [] [(0, .bool x2)] a ∧ Stw ⟨Y, [], w0⟩ [(b1, [.int .i64 1, .slice none 0 0, v1])] [row v1 60 FI ([(0, 3)] : List (Int × Int))] w) ?_ ?_
 ·
  have H := G1
  clear G1 K1
  refine Ab ?_
  refine ls F W Aa (Al (v := Value.agg #[.int .i64 1, .slice none 0 0, v1]) 0 F Aa Aa JQ Aa).q fun a w F W => ?_
  iterate 2 refine ls F W Aa (Ag F Aa).q fun a w F W => ?_
  obtain ⟨x3, h2, H⟩ := An H
  refine Cw (Ml := []) (Zl := []) (M := [(b1, [.int .i64 1, .slice none 0 0, v1])]) (Z := [row v7 45 C6 x1, row v6 48 Ef ([(1, 0, 4, 0, 0, 0), (4, 0, 4, 0, 0, 0)] : List (Int × Int × Int × Int × Int × Int)), row v5 48 Ef ([(1, 0, 0, 0, 0, 0), (2, 0, 0, 0, 0, 0), (3, 0, 0, 0, 0, 0)] : List (Int × Int × Int × Int × Int × Int)), row v4 52 (Rp.slice (Rp.slice (Rp.int .i64))) ([([([3] : List Int)] : List (List Int))] : List (List (List Int))), GZ v3 (Rp.slice (Rp.int .i64)) ([([3] : List Int)] : List (List Int)), GZ v2 (Rp.int .i64) ([3] : List Int), row v1 60 FI ([(0, 3)] : List (Int × Int))]) (β := Value) (rv := fun x => x) (MM := fun x => []) (ZZ := fun x => [row x 45 C6 x3]) F W Ov Aa Aa (fun hL => D8 _ w (Value.slice none 0 0) (v1) (v4) (v5) (1, ([] : List (Int × Int × Int × Int × Int × Int)), ([(0, 3)] : List (Int × Int))) ([([([3] : List Int)] : List (List Int))] : List (List (List Int))) ([(1, 0, 0, 0, 0, 0), (2, 0, 0, 0, 0, 0), (3, 0, 0, 0, 0, 0)] : List (Int × Int × Int × Int × Int × Int)) _ h2 Sl.nil ((AN 6 Aa) w W).nx ((AN 3 Aa) w W).nx ((AN 2 Aa) w W).nx) fun x a w F W => ?_
  obtain ⟨v8, rfl⟩ : ∃ y, y = x := ⟨x, rfl⟩
  have W : Stw ⟨Y, [], w0⟩ [(b1, [.int .i64 1, .slice none 0 0, v1])] [row v8 45 C6 x3, row v7 45 C6 x1, row v6 48 Ef ([(1, 0, 4, 0, 0, 0), (4, 0, 4, 0, 0, 0)] : List (Int × Int × Int × Int × Int × Int)), row v5 48 Ef ([(1, 0, 0, 0, 0, 0), (2, 0, 0, 0, 0, 0), (3, 0, 0, 0, 0, 0)] : List (Int × Int × Int × Int × Int × Int)), row v4 52 (Rp.slice (Rp.slice (Rp.int .i64))) ([([([3] : List Int)] : List (List Int))] : List (List (List Int))), GZ v3 (Rp.slice (Rp.int .i64)) ([([3] : List Int)] : List (List Int)), GZ v2 (Rp.int .i64) ([3] : List Int), row v1 60 FI ([(0, 3)] : List (Int × Int))] w := W
  refine ls F W Aa (Bl (r := C6) (l := x3) Ji Aa F Aa (AN 0 Aa)).q fun a w F W => ?_
  refine ls F W Aa (C9 F Aa Aa).q fun a w F W => ?_
  refine ls F W Aa (Ag F Aa).q fun a w F W => ?_
  rcases Bool.eq_false_or_eq_true (decide ((x3.length : Int) = 0)) with hb | hb
  ·
   have H := Ba (BO hb) H
   rw [hb] at F
   clear hb
   refine AM F W (Ai F Aa Aa Aa Aa) Aa (Ao Aa) (Ag F Aa).q fun a w F W => ?_
   refine AM F W (Ai F Aa Aa Aa Aa) Aa (Ao Aa) (Bl (r := C6) (l := x1) Ji Aa F Aa (AN 1 Aa)).q fun a w F W => ?_
   refine AM F W (Ai F Aa Aa Aa Aa) Aa (Ao Aa) (C9 F Aa Aa).q fun a w F W => ?_
   refine ls F W Aa (Ay F Aa Aa Aa).q fun a w F W => ?_
   refine ls F W Aa (Ag F Aa).q fun a w F W => ?_
   rcases Bool.eq_false_or_eq_true (decide ((x1.length : Int) = 1)) with hb | hb
   ·
    have H := Ba (BO hb) H
    rw [hb] at F
    clear hb
    refine AM F W (Ai F Aa Aa Aa Aa) Aa (Ao Aa) (Ag F Aa).q fun a w F W => ?_
    obtain ⟨x4, h3, H⟩ := An H
    refine AM F W (Ai F Aa Aa Aa Aa) Aa (Ao Aa) (AU (r := C6) Mh F Aa Aa (AN 1 Aa) h3).q fun a w F W => ?_
    refine AM F W (Ai F Aa Aa Aa Aa) Aa (Ao Aa) (AC (y := Value.agg #[.int .i64 x4.1, .int .i64 x4.2]) (j := 0) (i := 0) F Aa Aa (AN 1 Aa) h3 Nx.to OU Aa).q fun a w F W => ?_
    refine AM F W (Ai F Aa Aa Aa Aa) Aa (Ao Aa) (Bx (v := Value.agg #[.int .i64 2, .int .i64 4]) N1 F Aa Aa Aa).q fun a w F W => ?_
    refine AM F W (Ai F Aa Aa Aa Aa) Aa (Ao Aa) (KQ (t := decide (x4.1 = 2 ∧ x4.2 = 4)) Pa (O1 _ _ _ _) F Aa Aa).q fun a w F W => ?_
    refine ls F W Aa (Ay F Aa Aa Aa).q fun a w F W => ?_
    refine ls F W Aa (Ag F Aa).q fun a w F W => ?_
    rcases Bool.eq_false_or_eq_true (decide (x4.1 = 2 ∧ x4.2 = 4)) with hb | hb
    ·
     have H := Ba (BO hb) H
     rw [hb] at F
     clear hb
     refine Oh (Ai F Aa Aa Aa Aa) ?_
     refine ls F W Aa (Ch (v := Value.string (bs (D4 2))) F PK Aa (fun w W => Jm any w 2 _ Aa)) fun a w F W => ?_
     refine AM F W (Ai F Aa Aa Aa Aa) Aa (Ao Aa) (Ob (l := (D4 2)) (m := ([108, 111, 115, 116] : List UInt8)) F Aa Aa).q fun a w F W => ?_
     refine ls F W Aa (Ay F Aa Aa Aa).q fun a w F W => ?_
     refine ls F W Aa (Ae F Aa).q fun a w F W => ?_
     refine Ad (Ac ?_)
     have W := W.frontZ (i := 7) Aa Aa
     have W := W.sub (M' := [(b1, [.int .i64 1, .slice none 0 0, v1])]) (Z' := [row v1 60 FI ([(0, 3)] : List (Int × Int))]) (List.Sublist.refl _) (List.Sublist.cons_cons _ (List.nil_sublist _))
     exact ⟨_, H, F.re ⟨rfl, trivial⟩, W⟩
    have H := A9 (BS hb) H
    rw [hb] at F
    clear hb
    iterate 2 refine DU F Aa Aa Aa Aa Aa Aa Aa fun a F => ?_
    refine ls F W Aa (AL F Aa Aa Aa).q fun a w F W => ?_
    refine ls F W Aa (Ae F Aa).q fun a w F W => ?_
    refine Ad (Ac ?_)
    have W := W.frontZ (i := 7) Aa Aa
    have W := W.sub (M' := [(b1, [.int .i64 1, .slice none 0 0, v1])]) (Z' := [row v1 60 FI ([(0, 3)] : List (Int × Int))]) (List.Sublist.refl _) (List.Sublist.cons_cons _ (List.nil_sublist _))
    exact ⟨_, H, F.re ⟨rfl, trivial⟩, W⟩
   have H := A9 (BS hb) H
   rw [hb] at F
   clear hb
   iterate 5 refine DU F Aa Aa Aa Aa Aa Aa Aa fun a F => ?_
   refine ls F W Aa (AL F Aa Aa Aa).q fun a w F W => ?_
   refine ls F W Aa (Ag F Aa).q fun a w F W => ?_
   iterate 2 refine DU F Aa Aa Aa Aa Aa Aa Aa fun a F => ?_
   refine ls F W Aa (AL F Aa Aa Aa).q fun a w F W => ?_
   refine ls F W Aa (Ae F Aa).q fun a w F W => ?_
   refine Ad (Ac ?_)
   have W := W.frontZ (i := 7) Aa Aa
   have W := W.sub (M' := [(b1, [.int .i64 1, .slice none 0 0, v1])]) (Z' := [row v1 60 FI ([(0, 3)] : List (Int × Int))]) (List.Sublist.refl _) (List.Sublist.cons_cons _ (List.nil_sublist _))
   exact ⟨_, H, F.re ⟨rfl, trivial⟩, W⟩
  have H := A9 (BS hb) H
  rw [hb] at F
  clear hb
  iterate 3 refine DU F Aa Aa Aa Aa Aa Aa Aa fun a F => ?_
  refine ls F W Aa (AL F Aa Aa Aa).q fun a w F W => ?_
  refine ls F W Aa (Ag F Aa).q fun a w F W => ?_
  iterate 5 refine DU F Aa Aa Aa Aa Aa Aa Aa fun a F => ?_
  refine ls F W Aa (AL F Aa Aa Aa).q fun a w F W => ?_
  refine ls F W Aa (Ag F Aa).q fun a w F W => ?_
  iterate 2 refine DU F Aa Aa Aa Aa Aa Aa Aa fun a F => ?_
  refine ls F W Aa (AL F Aa Aa Aa).q fun a w F W => ?_
  refine ls F W Aa (Ae F Aa).q fun a w F W => ?_
  refine Ad (Ac ?_)
  have W := W.frontZ (i := 7) Aa Aa
  have W := W.sub (M' := [(b1, [.int .i64 1, .slice none 0 0, v1])]) (Z' := [row v1 60 FI ([(0, 3)] : List (Int × Int))]) (List.Sublist.refl _) (List.Sublist.cons_cons _ (List.nil_sublist _))
  exact ⟨_, H, F.re ⟨rfl, trivial⟩, W⟩
 rintro a w ⟨x2, hj, F, W⟩
 have hj := A1 hj
 subst hj
 have H := K1
 clear G1 K1
 refine AB ?_
 have H := A1 H
 subst H
 refine Be (.inl Aa) F W Aa (Aw F Aa) ?_
 exact ⟨rfl, W.done⟩
theorem H8 : Has Try.prog 8 := ⟨fun args w => Aj Try.func8 rfl (by decide) args w⟩
theorem Pt : type_of% Try.underlying4 := Try.underlying4
noncomputable def DP (p1 : List (List Int)) : Int → Option (Int ⊕ (Unit ⊕ Bool))
  | x1 => (if x1 < (p1.length : Int) then (ix p1 x1).bind fun x2 => (if 12 < (x2.length : Int) then some (.inr (.inr false)) else some (.inl (DC (x1 + 1)))) else some (.inr (.inl ())))
noncomputable def EE (p0 : Int × (List (Int × Int × Int × Int × Int × Int)) × (List (Int × Int))) (p1 : List (List Int)) : Option Bool := DQ (AF (DP p1) 0) fun _ => some (decide ((p0.2.1.length : Int) ≤ 30) && (decide ((p0.2.2.length : Int) ≤ 12) && decide ((p1.length : Int) ≤ 12)))
theorem Ho (Y : Nat → Prop) (w0 : World) (v1 : Value) (v2 : Value) (v3 : Value) (p0 : Int × (List (Int × Int × Int × Int × Int × Int)) × (List (Int × Int))) (p1 : List (List Int)) (r : Bool) (H : EE p0 p1 = some r) (h_v1 : Sl w0 (NX []) D6 v1 p0.2.1) (h_v2 : Sl w0 (NX []) FI v2 p0.2.2) (h_v3 : Sl w0 (NX []) (Rp.slice (Rp.int .i64)) v3 p1) :
    Calls Try.prog 20 #[.agg #[.int .i64 p0.1, v1, v2], v3] w0 fun e w' => e = .returned (.bool r) ∧ Below w0.heap.size w0 w' := by
 refine enter Try.func20 Aa Try.ntmps20 Aa fun a F => ?_
 have W := Stw.start Y w0
 obtain ⟨v4, h1, h_v3⟩ := h_v3.ex F8
 unfold EE at H
 refine Ah (Ab ?_)
 refine Cx (cs := [.int .i64 p0.1, v1, v2]) F W Aa Aa Aa fun b1 a w F W => ?_
 refine ls F W Aa (Ae F Aa).q fun a w F W => ?_
 refine Ad (Ac ?_)
 obtain ⟨o1, G1, K1, L1⟩ := KM H
 refine AR (fun a w => some (Sum.inl ()) = some o1 ∧ Fr 33 [] [(1, v3), (2, .pointer (some ⟨b1, 0, none⟩)), (4, .bool false)] a ∧ Stw ⟨Y, [], w0⟩ [(b1, [.int .i64 p0.1, v1, v2])] [] w) ?_ ?_
 ·
  have H := G1
  clear G1 K1
  refine Ah (Ab ?_)
  refine ls F W Aa (Ae F Aa).q fun a w F W => ?_
  refine Ad (Ac (Ax ?_))
  refine BZ H (fun s a w => Fr 33 [] [(1, v3), (2, .pointer (some ⟨b1, 0, none⟩)), (4, .bool false), (5, .int .i64 s)] a ∧ Stw ⟨Y, [], w0⟩ [(b1, [.int .i64 p0.1, v1, v2])] [] w) ⟨F.re ⟨rfl, Aa, Aa, Aa, trivial⟩, W⟩ fun s o a w H L2 hR => ?_
  obtain ⟨x1, rfl⟩ : ∃ x, x = s := ⟨s, rfl⟩
  obtain ⟨F, W⟩ := hR
  have F : Fr 33 [] [(1, v3), (2, .pointer (some ⟨b1, 0, none⟩)), (4, .bool false), (5, .int .i64 x1)] a := F
  have W : Stw ⟨Y, [], w0⟩ [(b1, [.int .i64 p0.1, v1, v2])] [] w := W
  rw [DP] at H
  refine Ah (Ah (Ab ?_))
  iterate 2 refine ls F W Aa (Ag F Aa).q fun a w F W => ?_
  refine ls F W Aa (Bl (r := (Rp.slice (Rp.int .i64))) (l := p1) Lt Aa F Aa (Cc F8 h1 (Ak h_v3))).q fun a w F W => ?_
  refine ls F W Aa (B0 F Aa Aa).q fun a w F W => ?_
  refine Ad (Ac ?_)
  refine AA F Aa (fun hb => ?_) fun hb => ?_
  ·
   have H := Ba (BO hb) H
   rw [hb] at F
   clear hb
   refine As (Ac (Ah (Ax (Ah (Ab ?_)))))
   iterate 2 refine ls F W Aa (Ag F Aa).q fun a w F W => ?_
   obtain ⟨x2, h2, H⟩ := An H
   obtain ⟨v5, h3, h4⟩ := EY h1 h2
   have h5 : Io v5 = [(v5.1)] := congrArg (fun q : List Int => ([(v5.1)] : List Value)) h4
   refine ls F W Aa (AU (r := (Rp.vsl (Rp.int .i64))) NY F Aa Aa (Ak h_v3) h3).q fun a w F W => ?_
   refine ls F W Aa (AC (y := (v5.1)) (j := 0) (i := x1) (enc := Io) F Aa Aa (Ak h_v3) h3 L7 Gy (by rw [h5]; rfl)).q fun a w F W => ?_
   refine ls F W Aa (Bl (r := (Rp.int .i64)) (l := x2) Gn Aa F Aa (E9 (Ak h_v3) h3 DR.here (congrArg (fun q : List Int => q) h4))).q fun a w F W => ?_
   refine ls F W Aa (FX F Aa Aa).q fun a w F W => ?_
   refine Ad (Ac ?_)
   refine AA F Aa (fun hb => ?_) fun hb => ?_
   ·
    have H := Ba (BO hb) H
    rw [hb] at F
    clear hb
    refine Ah (Ab ?_)
    refine ls F W Aa (Ae F Aa).q fun a w F W => ?_
    refine Ad (Ac (AB (AV ?_)))
    iterate 2 refine AO ?_
    refine AV (AO ?_)
    have H := L2 _ H
    have H := L1 _ H
    have H := A1 H
    subst H
    refine Be (.inl Aa) F W Aa (Aw F Aa) ?_
    exact ⟨rfl, W.done⟩
   have H := A9 (BS hb) H
   rw [hb] at F
   clear hb
   refine As (AP (Ac (Ab ?_)))
   refine ls F W Aa (Ag F Aa).q fun a w F W => ?_
   refine ls F W Aa (Dk F Aa Aa Aa).q fun a w F W => ?_
   refine ls F W Aa (Ae F Aa).q fun a w F W => ?_
   refine Ad (Ac ?_)
   exact ⟨_, H, F.re ⟨rfl, Aa, Aa, Aa, trivial⟩, W⟩
  have H := A9 (BS hb) H
  rw [hb] at F
  clear hb
  refine BH ?_
  iterate 2 refine Cj ?_
  refine BI (Ac ?_)
  have H := L2 _ H
  exact ⟨H, F.re ⟨rfl, Aa, Aa, trivial⟩, W⟩
 rintro a w ⟨hj, F, W⟩
 have H := K1 _ hj
 clear hj G1 K1 L1
 refine AR (fun a w => Fr 33 [] [(4, .bool (decide ((p0.2.1.length : Int) ≤ 30) && (decide ((p0.2.2.length : Int) ≤ 12) && decide ((p1.length : Int) ≤ 12))))] a ∧ Stw ⟨Y, [], w0⟩ [(b1, [.int .i64 p0.1, v1, v2])] [] w) ?_ ?_
 ·
  refine Ab ?_
  refine ls F W Aa (Af FM Aa Aa Aa Mt F Aa 1 Aa).q fun a w F W => ?_
  refine ls F W Aa (Al (v := v1) 0 F Aa Aa Mt Aa).q fun a w F W => ?_
  refine ls F W Aa (Bl (r := D6) (l := p0.2.1) K9 Aa F Aa (Ak h_v1)).q fun a w F W => ?_
  refine ls F W Aa (JE F Aa Aa).q fun a w F W => ?_
  refine ls F W Aa (Ag F Aa).q fun a w F W => ?_
  rcases Bool.eq_false_or_eq_true (decide ((p0.2.1.length : Int) ≤ 30)) with hb0 | hb0
  ·
   rw [hb0] at F
   refine AM F W (Ai F Aa Aa Aa Aa) Aa (Ao Aa) (Af FM Aa Aa Aa Lv F Aa 2 Aa).q fun a w F W => ?_
   refine AM F W (Ai F Aa Aa Aa Aa) Aa (Ao Aa) (Al (v := v2) 0 F Aa Aa Lv Aa).q fun a w F W => ?_
   refine AM F W (Ai F Aa Aa Aa Aa) Aa (Ao Aa) (Bl (r := FI) (l := p0.2.2) J9 Aa F Aa (Ak h_v2)).q fun a w F W => ?_
   refine AM F W (Ai F Aa Aa Aa Aa) Aa (Ao Aa) (JE F Aa Aa).q fun a w F W => ?_
   refine ls F W Aa (Ay F Aa Aa Aa).q fun a w F W => ?_
   refine ls F W Aa (Ag F Aa).q fun a w F W => ?_
   rcases Bool.eq_false_or_eq_true (decide ((p0.2.2.length : Int) ≤ 12)) with hb1 | hb1
   ·
    rw [hb1] at F
    refine AM F W (Ai F Aa Aa Aa Aa) Aa (Ao Aa) (Ag F Aa).q fun a w F W => ?_
    refine AM F W (Ai F Aa Aa Aa Aa) Aa (Ao Aa) (Bl (r := (Rp.slice (Rp.int .i64))) (l := p1) Lt Aa F Aa (Cc F8 h1 (Ak h_v3))).q fun a w F W => ?_
    refine AM F W (Ai F Aa Aa Aa Aa) Aa (Ao Aa) (JE F Aa Aa).q fun a w F W => ?_
    refine ls F W Aa (Ay F Aa Aa Aa).q fun a w F W => ?_
    refine ls F W Aa (Ae F Aa).q fun a w F W => ?_
    refine Ad (Ac ?_)
    exact ⟨F.re ⟨(by show some (Value.bool (decide ((p1.length : Int) ≤ 12))) = some (Value.bool (decide ((p0.2.1.length : Int) ≤ 30) && (decide ((p0.2.2.length : Int) ≤ 12) && decide ((p1.length : Int) ≤ 12)))); try rw [hb0]; try rw [hb1]; all_goals simp only [Bool.not_true, Bool.not_false, Bool.true_and, Bool.false_and, Bool.true_or, Bool.false_or, Bool.and_true, Bool.or_false, cond_true, cond_false]), trivial⟩, W⟩
   rw [hb1] at F
   iterate 3 refine DU F Aa Aa Aa Aa Aa Aa Aa fun a F => ?_
   refine ls F W Aa (AL F Aa Aa Aa).q fun a w F W => ?_
   refine ls F W Aa (Ae F Aa).q fun a w F W => ?_
   refine Ad (Ac ?_)
   exact ⟨F.re ⟨(by show some (Value.bool false) = some (Value.bool (decide ((p0.2.1.length : Int) ≤ 30) && (decide ((p0.2.2.length : Int) ≤ 12) && decide ((p1.length : Int) ≤ 12)))); try rw [hb0]; try rw [hb1]; all_goals simp only [Bool.not_true, Bool.not_false, Bool.true_and, Bool.false_and, Bool.true_or, Bool.false_or, Bool.and_true, Bool.or_false, cond_true, cond_false]), trivial⟩, W⟩
  rw [hb0] at F
  iterate 4 refine DU F Aa Aa Aa Aa Aa Aa Aa fun a F => ?_
  refine ls F W Aa (AL F Aa Aa Aa).q fun a w F W => ?_
  refine ls F W Aa (Ag F Aa).q fun a w F W => ?_
  iterate 3 refine DU F Aa Aa Aa Aa Aa Aa Aa fun a F => ?_
  refine ls F W Aa (AL F Aa Aa Aa).q fun a w F W => ?_
  refine ls F W Aa (Ae F Aa).q fun a w F W => ?_
  refine Ad (Ac ?_)
  exact ⟨F.re ⟨(by show some (Value.bool false) = some (Value.bool (decide ((p0.2.1.length : Int) ≤ 30) && (decide ((p0.2.2.length : Int) ≤ 12) && decide ((p1.length : Int) ≤ 12)))); try rw [hb0]; all_goals simp only [Bool.not_true, Bool.not_false, Bool.true_and, Bool.false_and, Bool.true_or, Bool.false_or, Bool.and_true, Bool.or_false, cond_true, cond_false]), trivial⟩, W⟩
 rintro a w ⟨F, W⟩
 refine AB ?_
 have H := A1 H
 subst H
 refine Be (.inl Aa) F W Aa (Aw F Aa) ?_
 exact ⟨rfl, W.done⟩
theorem Pc : Has Try.prog 20 := ⟨fun args w => Aj Try.func20 rfl (by decide) args w⟩
noncomputable def DL (p0 : Int × (List (Int × Int × Int × Int × Int × Int)) × (List (Int × Int))) (p1 : List (List (List Int))) : Int → Option (Int ⊕ (Unit ⊕ Bool))
  | x1 => (if x1 < (p1.length : Int) then (ix p1 x1).bind fun x2 => (EE p0 x2).bind fun x3 => (if (!x3) = true then some (.inr (.inr false)) else some (.inl (DC (x1 + 1)))) else some (.inr (.inl ())))
noncomputable def Fh (p0 : Int × (List (Int × Int × Int × Int × Int × Int)) × (List (Int × Int))) (p1 : List (List (List Int))) (p2 : List (Int × Int × Int × Int × Int × Int)) : Option Bool := (if (decide (100 < (p2.length : Int)) || decide (8 < (p1.length : Int))) = true then some false else DQ (AF (DL p0 p1) 0) fun _ => (EE p0 ([] : List (List Int))).bind fun x4 => some x4)
theorem JY (Y : Nat → Prop) (w0 : World) (v1 : Value) (v2 : Value) (v3 : Value) (v4 : Value) (p0 : Int × (List (Int × Int × Int × Int × Int × Int)) × (List (Int × Int))) (p1 : List (List (List Int))) (p2 : List (Int × Int × Int × Int × Int × Int)) (r : Bool) (H : Fh p0 p1 p2 = some r) (h_v1 : Sl w0 (NX []) D6 v1 p0.2.1) (h_v2 : Sl w0 (NX []) FI v2 p0.2.2) (h_v3 : Sl w0 (NX []) (Rp.slice (Rp.slice (Rp.int .i64))) v3 p1) (h_v4 : Sl w0 (NX []) Ef v4 p2) :
    Calls Try.prog 7 #[.agg #[.int .i64 p0.1, v1, v2], v3, v4] w0 fun e w' => e = .returned (.bool r) ∧ Below w0.heap.size w0 w' := by
 refine enter Try.func7 Aa Try.ntmps7 Aa fun a F => ?_
 have W := Stw.start Y w0
 obtain ⟨v5, h1, h_v3⟩ := h_v3.ex Ir
 unfold Fh at H
 refine Ah (Ab ?_)
 refine Cx (cs := [.int .i64 p0.1, v1, v2]) F W Aa Aa Aa fun b1 a w F W => ?_
 refine ls F W Aa (Ae F Aa).q fun a w F W => ?_
 refine Ad (Ac (Ah ?_))
 refine AR (fun a w => Fr 31 [] [(1, v3), (3, .pointer (some ⟨b1, 0, none⟩)), (6, .bool false), (15, .bool (decide (100 < (p2.length : Int)) || decide (8 < (p1.length : Int))))] a ∧ Stw ⟨Y, [], w0⟩ [(b1, [.int .i64 p0.1, v1, v2])] [] w) ?_ ?_
 ·
  refine Ab ?_
  refine ls F W Aa (Ag F Aa).q fun a w F W => ?_
  refine ls F W Aa (Bl (r := Ef) (l := p2) Km Aa F Aa (Ak h_v4)).q fun a w F W => ?_
  refine ls F W Aa (FX F Aa Aa).q fun a w F W => ?_
  refine ls F W Aa (Ag F Aa).q fun a w F W => ?_
  rcases Bool.eq_false_or_eq_true (decide (100 < (p2.length : Int))) with hb0 | hb0
  ·
   rw [hb0] at F
   iterate 3 refine DU F Aa Aa Aa Aa Aa Aa Aa fun a F => ?_
   refine ls F W Aa (Ay F Aa Aa Aa).q fun a w F W => ?_
   refine Ad (Ac ?_)
   exact ⟨F.re ⟨rfl, Aa, Aa, (by show some (Value.bool true) = some (Value.bool (decide (100 < (p2.length : Int)) || decide (8 < (p1.length : Int)))); try rw [hb0]; all_goals simp only [Bool.not_true, Bool.not_false, Bool.true_and, Bool.false_and, Bool.true_or, Bool.false_or, Bool.and_true, Bool.or_false, cond_true, cond_false]), trivial⟩, W⟩
  rw [hb0] at F
  refine AM F W (Ai F Aa Aa Aa Aa) Aa (Ao Aa) (Ag F Aa).q fun a w F W => ?_
  refine AM F W (Ai F Aa Aa Aa Aa) Aa (Ao Aa) (Bl (r := (Rp.slice (Rp.slice (Rp.int .i64)))) (l := p1) M0 Aa F Aa (Cc Ir h1 (Ak h_v3))).q fun a w F W => ?_
  refine AM F W (Ai F Aa Aa Aa Aa) Aa (Ao Aa) (FX F Aa Aa).q fun a w F W => ?_
  refine ls F W Aa (AL F Aa Aa Aa).q fun a w F W => ?_
  refine Ad (Ac ?_)
  exact ⟨F.re ⟨rfl, Aa, Aa, (by show some (Value.bool (decide (8 < (p1.length : Int)))) = some (Value.bool (decide (100 < (p2.length : Int)) || decide (8 < (p1.length : Int)))); try rw [hb0]; all_goals simp only [Bool.not_true, Bool.not_false, Bool.true_and, Bool.false_and, Bool.true_or, Bool.false_or, Bool.and_true, Bool.or_false, cond_true, cond_false]), trivial⟩, W⟩
 rintro a w ⟨F, W⟩
 refine AA F Aa (fun hb => ?_) fun hb => ?_
 ·
  have H := Ba hb H
  rw [hb] at F
  clear hb
  refine Ah (Ab ?_)
  refine ls F W Aa (Ae F Aa).q fun a w F W => ?_
  refine Ad (Ac (AB (AO ?_)))
  have H := A1 H
  subst H
  refine Be (.inl Aa) F W Aa (Aw F Aa) ?_
  exact ⟨rfl, W.done⟩
 have H := A9 (by rw [hb]; decide) H
 rw [hb] at F
 clear hb
 refine As (Ac ?_)
 obtain ⟨o1, G1, K1, L1⟩ := KM H
 refine AR (fun a w => some (Sum.inl ()) = some o1 ∧ Fr 31 [] [(3, .pointer (some ⟨b1, 0, none⟩)), (6, .bool false)] a ∧ Stw ⟨Y, [], w0⟩ [(b1, [.int .i64 p0.1, v1, v2])] [] w) ?_ ?_
 ·
  have H := G1
  clear G1 K1
  refine Ah (Ab ?_)
  refine ls F W Aa (Ae F Aa).q fun a w F W => ?_
  refine Ad (Ac (Ax ?_))
  refine BZ H (fun s a w => Fr 31 [] [(1, v3), (3, .pointer (some ⟨b1, 0, none⟩)), (6, .bool false), (7, .int .i64 s)] a ∧ Stw ⟨Y, [], w0⟩ [(b1, [.int .i64 p0.1, v1, v2])] [] w) ⟨F.re ⟨rfl, Aa, Aa, Aa, trivial⟩, W⟩ fun s o a w H L2 hR => ?_
  obtain ⟨x1, rfl⟩ : ∃ x, x = s := ⟨s, rfl⟩
  obtain ⟨F, W⟩ := hR
  have F : Fr 31 [] [(1, v3), (3, .pointer (some ⟨b1, 0, none⟩)), (6, .bool false), (7, .int .i64 x1)] a := F
  have W : Stw ⟨Y, [], w0⟩ [(b1, [.int .i64 p0.1, v1, v2])] [] w := W
  rw [DL] at H
  refine Ah (Ah (Ab ?_))
  iterate 2 refine ls F W Aa (Ag F Aa).q fun a w F W => ?_
  refine ls F W Aa (Bl (r := (Rp.slice (Rp.slice (Rp.int .i64)))) (l := p1) M0 Aa F Aa (Cc Ir h1 (Ak h_v3))).q fun a w F W => ?_
  refine ls F W Aa (B0 F Aa Aa).q fun a w F W => ?_
  refine Ad (Ac ?_)
  refine AA F Aa (fun hb => ?_) fun hb => ?_
  ·
   have H := Ba (BO hb) H
   rw [hb] at F
   clear hb
   refine As (Ac (Ah (Ax (Ah ?_))))
   refine Df W MO (by kernel_rfl) ?_
   refine qs F Aa (Al (v := Value.agg #[.int .i64 p0.1, v1, v2]) 0 F Aa Aa JQ Aa).q fun a F => ?_
   iterate 2 refine qs F Aa (Ag F Aa).q fun a F => ?_
   obtain ⟨x2, h2, H⟩ := An H
   obtain ⟨v6, h3, h4⟩ := EY h1 h2
   have h5 : LD v6 = [(v6.1)] := congrArg (fun q : List (List Int) => ([(v6.1)] : List Value)) h4
   refine qs F Aa (AU (r := (Rp.vsl (Rp.vsl (Rp.int .i64)))) OZ F Aa Aa (Ak h_v3) h3).q fun a F => ?_
   refine qs F Aa (AC (y := (v6.1)) (j := 0) (i := x1) (enc := LD) F Aa Aa (Ak h_v3) h3 Og O4 (by rw [h5]; rfl)).q fun a F => ?_
   obtain ⟨x3, h6, H⟩ := An H
   refine qs F Aa (Ch (v := Value.bool x3) F Pc Aa (fun w W => Ho any w (v1) (v2) ((v6.1)) p0 x2 _ h6 (((Ak h_v1) : DV _ _ _ _ _ _) w W).nx (((Ak h_v2) : DV _ _ _ _ _ _) w W).nx (((Cc F8 (congrArg (fun q : List (List Int) => q) h4) (E9 (Ak h_v3) h3 DR.here Aa)) : DV _ _ _ _ _ _) w W).nx)) fun a F => ?_
   refine qs F Aa (Ga F Aa).q fun a F => ?_
   refine Cf fun w W => ?_
   refine Ac ?_
   refine AA F Aa (fun hb => ?_) fun hb => ?_
   ·
    have H := Ba hb H
    rw [hb] at F
    clear hb
    refine Ah (Ab ?_)
    refine ls F W Aa (Ae F Aa).q fun a w F W => ?_
    refine Ad (Ac (AB (AV ?_)))
    iterate 2 refine AO ?_
    refine AV (AO ?_)
    have H := L2 _ H
    have H := L1 _ H
    have H := A1 H
    subst H
    refine Be (.inl Aa) F W Aa (Aw F Aa) ?_
    exact ⟨rfl, W.done⟩
   have H := A9 (by rw [hb]; decide) H
   rw [hb] at F
   clear hb
   refine As (AP (Ac (Ab ?_)))
   refine ls F W Aa (Ag F Aa).q fun a w F W => ?_
   refine ls F W Aa (Dk F Aa Aa Aa).q fun a w F W => ?_
   refine ls F W Aa (Ae F Aa).q fun a w F W => ?_
   refine Ad (Ac ?_)
   exact ⟨_, H, F.re ⟨rfl, Aa, Aa, Aa, trivial⟩, W⟩
  have H := A9 (BS hb) H
  rw [hb] at F
  clear hb
  refine BH ?_
  iterate 2 refine Cj ?_
  refine BI (Ac ?_)
  have H := L2 _ H
  exact ⟨H, F.re ⟨rfl, Aa, trivial⟩, W⟩
 rintro a w ⟨hj, F, W⟩
 have H := K1 _ hj
 clear hj G1 K1 L1
 refine Ah (Ab ?_)
 refine ls F W Aa (Al (v := Value.agg #[.int .i64 p0.1, v1, v2]) 0 F Aa Aa JQ Aa).q fun a w F W => ?_
 obtain ⟨x4, h7, H⟩ := An H
 refine ls F W Aa (Ch (v := Value.bool x4) F Pc Aa (fun w W => Ho any w (v1) (v2) (Value.slice none 0 0) p0 ([] : List (List Int)) _ h7 (((Ak h_v1) : DV _ _ _ _ _ _) w W).nx (((Ak h_v2) : DV _ _ _ _ _ _) w W).nx Sl.nil)) fun a w F W => ?_
 refine ls F W Aa (Ae F Aa).q fun a w F W => ?_
 refine Ad (Ac (AB ?_))
 have H := A1 H
 subst H
 refine Be (.inl Aa) F W Aa (Aw F Aa) ?_
 exact ⟨rfl, W.done⟩
end Go.Proofs.Ytflaelbmglmmcaa
