/- The functions of layer 19, Gn. Conditions: none. -/
import Derived.Test.YtbogijdfacoccaaeA3
namespace Go.Proofs.Ytbogijdfacoccaa
open Go Go.RowKit
set_option linter.unusedVariables false
set_option linter.unusedSimpArgs false
set_option maxRecDepth 20000
theorem Sq : Has Try.prog 37 := ⟨fun args w => Aj Try.func37 rfl (by decide) args w⟩
noncomputable def D2 (p0 : Int × (List (Int × Int × Int × Int × Int × Int)) × (List (Int × Int))) : (List Int × Int) → Option ((List Int × Int) ⊕ (List Int))
  | (x4, x5) => (if x5 < p0.1 then (Hz x4 ([9218868437227405312] : List Int)).bind fun x6 => some (.inl (x6, BI (x5 + 1))) else some (.inr x4))
noncomputable def Dl (p1 : List Int) (x9 : List Int) (x17 : (List (Int × Int × Int))) : (Int × Int) → Option ((Int × Int) ⊕ Int)
  | (x19, x20) => (if x20 < (x17.length : Int) then ((ix x17 x20).bind fun x22 => (ix p1 x22.2.2).bind fun x23 => (ix x17 x20).bind fun x24 => (ix x9 x24.2.1).bind fun x25 => (if (EC x23 x25) < x19 then some (EC x23 x25) else some x19)).bind fun x21 => some (.inl (x21, BI (x20 + 1))) else some (.inr x19))
noncomputable def DV (p0 : Int × (List (Int × Int × Int × Int × Int × Int)) × (List (Int × Int))) (p1 : List Int) (x9 : List Int) : (List Int × Int) → Option ((List Int × Int) ⊕ (List Int))
  | (x13, x14) => (if x14 < p0.1 then ((ix x9 x14).bind fun x16 => (E8 p0 x14).bind fun x17 => (AH (Dl p1 x9 x17) (x16, 0)).bind fun x18 => (Hz x13 ([x18] : List Int)).bind fun x26 => some x26).bind fun x15 => some (.inl (x15, BI (x14 + 1))) else some (.inr x13))
noncomputable def DT (p0 : Int × (List (Int × Int × Int × Int × Int × Int)) × (List (Int × Int))) (p1 : List Int) : (List Int × Int) → Option ((List Int × Int) ⊕ (List Int))
  | (x9, x10) => (if x10 < p0.1 then ((AH (DV p0 p1 x9) ([], 0)).bind fun x12 => some x12).bind fun x11 => some (.inl (x11, BI (x10 + 1))) else some (.inr x9))
noncomputable def CQ (p0 : Int × (List (Int × Int × Int × Int × Int × Int)) × (List (Int × Int))) (p1 : List Int) (p2 : Int) : Option (List Int) := ((D5 p0 p1).bind fun x2 => (if (!x2) = true then some true else (if p2 < 0 then some true else some (decide (p0.1 ≤ p2))))).bind fun x1 => (if x1 = true then some ([] : List Int) else (AH (D2 p0) ([], 0)).bind fun x3 => (ix x3 p2).bind fun x7 => (AH (DT p0 p1) ((AD x3 p2 0), 0)).bind fun x8 => some x8)
theorem GY (Y : Nat → Prop) (w0 : World) (v1 : Value) (v2 : Value) (v3 : Value) (p0 : Int × (List (Int × Int × Int × Int × Int × Int)) × (List (Int × Int))) (p1 : List Int) (p2 : Int) (r : List Int) (H : CQ p0 p1 p2 = some r) (h_v1 : Sl w0 (NX []) Ff v1 p0.2.1) (h_v2 : Sl w0 (NX []) Fa v2 p0.2.2) (h_v3 : Sl w0 (NX []) (Rp.int .u64) v3 p1) :
    Calls Try.prog 13 #[.agg #[.int .i64 p0.1, v1, v2], v3, .int .i64 p2] w0 fun e w' => ∃ x : Value, e = .returned (x) ∧ Stw ⟨Y, [], w0⟩ [] [row (x) 59 (Rp.int .u64) r] w' := by
 refine enter Try.func13 Aa Try.ntmps13 Aa fun a F => ?_
 have W := Stw.start Y w0
 unfold CQ at H
 refine Ah (Ab ?_)
 refine DO (cs := [.int .i64 p0.1, v1, v2]) F W Aa Aa Aa fun b1 a w F W => ?_
 refine ls F W Aa (Ad F Aa).q fun a w F W => ?_
 refine Ae (Ac (Ah ?_))
 obtain ⟨o1, G1, K1⟩ := Al H
 refine AE (fun a w => ∃ x1 : Bool, some (x1) = some o1 ∧ Fr 94 [] [(1, v3), (2, .int .i64 p2), (3, .pointer (some ⟨b1, 0, none⟩)), (6, .slice none 0 0), (29, .bool x1)] a ∧ Stw ⟨Y, [], w0⟩ [(b1, [.int .i64 p0.1, v1, v2])] [] w) ?_ ?_
 ·
  have H := G1
  clear G1 K1
  refine Ab ?_
  refine ls F W Aa (Ap (v := Value.agg #[.int .i64 p0.1, v1, v2]) 0 F Aa Aa GC Aa).q fun a w F W => ?_
  refine ls F W Aa (Af F Aa).q fun a w F W => ?_
  obtain ⟨x2, h1, H⟩ := Al H
  refine ls F W Aa (AX (v := Value.bool x2) F RT Aa (fun w W => Hh any w (v1) (v2) (v3) p0 p1 _ h1 (((Ak h_v1) : Dw _ _ _ _ _ _) w W).nx (((Ak h_v2) : Dw _ _ _ _ _ _) w W).nx (((Ak h_v3) : Dw _ _ _ _ _ _) w W).nx)) fun a w F W => ?_
  refine ls F W Aa (E6 F Aa).q fun a w F W => ?_
  refine ls F W Aa (Af F Aa).q fun a w F W => ?_
  rcases Bool.eq_false_or_eq_true (!x2) with hb | hb
  ·
   have H := AN hb H
   rw [hb] at F
   clear hb
   iterate 2 refine CL F Aa Aa Aa Aa Aa Aa Aa fun a F => ?_
   refine ls F W Aa (Aw F Aa Aa Aa).q fun a w F W => ?_
   refine ls F W Aa (Af F Aa).q fun a w F W => ?_
   iterate 4 refine CL F Aa Aa Aa Aa Aa Aa Aa fun a F => ?_
   refine ls F W Aa (Aw F Aa Aa Aa).q fun a w F W => ?_
   refine Ae (Ac ?_)
   exact ⟨_, H, F.re ⟨rfl, Aa, Aa, Aa, Aa, trivial⟩, W⟩
  have H := AO (by rw [hb]; decide) H
  rw [hb] at F
  clear hb
  refine AG F W (Ag F Aa Aa Aa Aa) Aa (Am Aa) (Af F Aa).q fun a w F W => ?_
  refine AG F W (Ag F Aa Aa Aa Aa) Aa (Am Aa) (Bb F Aa Aa).q fun a w F W => ?_
  refine ls F W Aa (Ay F Aa Aa Aa).q fun a w F W => ?_
  refine ls F W Aa (Af F Aa).q fun a w F W => ?_
  rcases Bool.eq_false_or_eq_true (decide (p2 < 0)) with hb | hb
  ·
   have H := AN (Bd hb) H
   rw [hb] at F
   clear hb
   iterate 4 refine CL F Aa Aa Aa Aa Aa Aa Aa fun a F => ?_
   refine ls F W Aa (Aw F Aa Aa Aa).q fun a w F W => ?_
   refine Ae (Ac ?_)
   exact ⟨_, H, F.re ⟨rfl, Aa, Aa, Aa, Aa, trivial⟩, W⟩
  have H := AO (Be hb) H
  rw [hb] at F
  clear hb
  refine AG F W (Ag F Aa Aa Aa Aa) Aa (Am Aa) (Af F Aa).q fun a w F W => ?_
  refine AG F W (Ag F Aa Aa Aa Aa) Aa (Am Aa) (Ai Cw Aa Aa Aa T3 F Aa 0 Aa).q fun a w F W => ?_
  refine AG F W (Ag F Aa Aa Aa Aa) Aa (Am Aa) (Ap (v := Value.int .i64 p0.1) 0 F Aa Aa T3 Aa).q fun a w F W => ?_
  refine AG F W (Ag F Aa Aa Aa Aa) Aa (Am Aa) (Fk F Aa Aa).q fun a w F W => ?_
  refine ls F W Aa (Ay F Aa Aa Aa).q fun a w F W => ?_
  refine Ae (Ac ?_)
  exact ⟨_, H, F.re ⟨rfl, Aa, Aa, Aa, Aa, trivial⟩, W⟩
 rintro a w ⟨x1, hj, F, W⟩
 have hj := AP hj
 subst hj
 have H := K1
 clear G1 K1
 refine Av F Aa (fun hb => ?_) fun hb => ?_
 ·
  have H := AN hb H
  rw [hb] at F
  clear hb
  refine Ah (Ab ?_)
  refine ls F W Aa (Ad F Aa).q fun a w F W => ?_
  refine Ae (Ac (Ax (AL ?_)))
  have H := AP H
  subst H
  refine AQ (.inl Aa) F W Aa (Au F Aa) ?_
  have W := W.nilRow 59 (Rp.int .u64)
  have W := W.sub (M' := []) (Z' := [row (Value.slice none 0 0) 59 (Rp.int .u64) ([])]) (List.nil_sublist _) (List.Sublist.refl _)
  exact ⟨(Value.slice none 0 0), Aa, W⟩
 have H := AO (by rw [hb]; decide) H
 rw [hb] at F
 clear hb
 refine Ao (Ac (Ah (Ab ?_)))
 refine ls F W Aa (Ad F Aa).q fun a w F W => ?_
 refine Ae (Ac ?_)
 obtain ⟨o2, G2, K2⟩ := Al H
 refine AE (fun a w => ∃ x3 : List Int, ∃ v4 : Value, some (x3) = some o2 ∧ Fr 94 [] [(1, v3), (2, .int .i64 p2), (3, .pointer (some ⟨b1, 0, none⟩)), (6, .slice none 0 0), (7, v4)] a ∧ Stw ⟨Y, [], w0⟩ [(b1, [.int .i64 p0.1, v1, v2])] [row v4 59 (Rp.int .u64) x3] w) ?_ ?_
 ·
  have H := G2
  clear G2 K2
  refine Ah (Ab ?_)
  refine ls F W Aa (Ad F Aa).q fun a w F W => ?_
  refine Ae (Ac (Aq ?_))
  have W := W.nilRow 59 (Rp.int .u64)
  refine A4 H (fun s a w => ∃ v5 : Value, Fr 94 [] [(1, v3), (2, .int .i64 p2), (3, .pointer (some ⟨b1, 0, none⟩)), (6, .slice none 0 0), (7, v5), (8, .int .i64 s.2)] a ∧ Stw ⟨Y, [], w0⟩ [(b1, [.int .i64 p0.1, v1, v2])] [row v5 59 (Rp.int .u64) s.1] w) ⟨(Value.slice none 0 0), F.re ⟨rfl, Aa, Aa, Aa, Aa, Aa, trivial⟩, W⟩ fun s o a w H L3 hR => ?_
  obtain ⟨x4, x5⟩ := s
  obtain ⟨v5, F, W⟩ := hR
  have F : Fr 94 [] [(1, v3), (2, .int .i64 p2), (3, .pointer (some ⟨b1, 0, none⟩)), (6, .slice none 0 0), (7, v5), (8, .int .i64 x5)] a := F
  have W : Stw ⟨Y, [], w0⟩ [(b1, [.int .i64 p0.1, v1, v2])] [row v5 59 (Rp.int .u64) x4] w := W
  rw [D2] at H
  refine Ah (Ah (Ab ?_))
  refine ls F W Aa (Af F Aa).q fun a w F W => ?_
  refine ls F W Aa (Ai Cw Aa Aa Aa T3 F Aa 0 Aa).q fun a w F W => ?_
  refine ls F W Aa (Ap (v := Value.int .i64 p0.1) 0 F Aa Aa T3 Aa).q fun a w F W => ?_
  refine ls F W Aa (Bb F Aa Aa).q fun a w F W => ?_
  refine Ae (Ac ?_)
  refine Av F Aa (fun hb => ?_) fun hb => ?_
  ·
   have H := AN (Bd hb) H
   rw [hb] at F
   clear hb
   refine Ao (Ac (Ah (Aq (Ab ?_))))
   refine ls F W Aa (Af F Aa).q fun a w F W => ?_
   refine Dq (z := Value.int .u64 0) (cs := [.int .u64 9218868437227405312]) (Rp.int .u64) ([9218868437227405312] : List Int) F W Aa Lo R9 Aa Aa Aa Aa Aa Aa (Fl.int.repL _ _ ([9218868437227405312] : List Int)) fun v6 a w F W => ?_
   obtain ⟨x6, h2, H⟩ := Al H
   refine Cj (r := (Rp.int .u64)) (i := 1) F W Aa Lo Aa Aa Aa Aa (Cz W 0 Aa) h2 Aa fun v7 a w F W => ?_
   have W : Stw ⟨Y, [], w0⟩ [(b1, [.int .i64 p0.1, v1, v2])] [row v7 59 (Rp.int .u64) x6, row v6 59 (Rp.int .u64) ([9218868437227405312] : List Int)] w := W
   refine ls F W Aa (Ad F Aa).q fun a w F W => ?_
   refine Ae (AK (Ac (Ab ?_)))
   refine ls F W Aa (Af F Aa).q fun a w F W => ?_
   refine ls F W Aa (Bw F Aa Aa Aa).q fun a w F W => ?_
   refine ls F W Aa (Ad F Aa).q fun a w F W => ?_
   refine Ae (Ac ?_)
   have W := W.sub (M' := [(b1, [.int .i64 p0.1, v1, v2])]) (Z' := [row v7 59 (Rp.int .u64) x6]) (List.Sublist.refl _) (List.Sublist.cons_cons _ (List.nil_sublist _))
   exact ⟨_, H, (v7), F.re ⟨rfl, Aa, Aa, Aa, Aa, Aa, trivial⟩, W⟩
  have H := AO (Be hb) H
  rw [hb] at F
  clear hb
  refine A9 ?_
  iterate 2 refine Bl ?_
  refine A7 (Ac ?_)
  have H := L3 _ H
  exact ⟨_, (v5), H, F.re ⟨rfl, Aa, Aa, Aa, Aa, trivial⟩, W⟩
 rintro a w ⟨x3, v4, hj, F, W⟩
 have hj := AP hj
 subst hj
 have H := K2
 clear G2 K2
 refine Ah (Ab ?_)
 iterate 2 refine ls F W Aa (Af F Aa).q fun a w F W => ?_
 obtain ⟨x7, h3, H⟩ := Al H
 refine ls F W Aa (AC (r := (Rp.int .u64)) Lo F Aa Aa (An 0 Aa) h3).q fun a w F W => ?_
 refine Cs (i := p2) (j := 0) (vs := [.int .u64 0]) (x' := 0) F W Aa Aa Aa (k := 0) Aa Aa h3 N1 Aa Aa Aa Aa (fun A cs _ => Fl.int.sto (by rfl) _ _ _) fun w W => ?_
 refine Ae (Ac ?_)
 obtain ⟨o4, G4, K4⟩ := Al H
 refine AE (fun a w => ∃ x8 : List Int, ∃ v8 : Value, some (x8) = some o4 ∧ Fr 94 [] [(6, .slice none 0 0), (7, v8)] a ∧ Stw ⟨Y, [], w0⟩ [(b1, [.int .i64 p0.1, v1, v2])] [row v8 59 (Rp.int .u64) x8] w) ?_ ?_
 ·
  have H := G4
  clear G4 K4
  refine Ah (Ab ?_)
  refine ls F W Aa (Ad F Aa).q fun a w F W => ?_
  refine Ae (Ac (Aq ?_))
  refine A4 H (fun s a w => ∃ v9 : Value, Fr 94 [] [(1, v3), (3, .pointer (some ⟨b1, 0, none⟩)), (6, .slice none 0 0), (7, v9), (9, .int .i64 s.2)] a ∧ Stw ⟨Y, [], w0⟩ [(b1, [.int .i64 p0.1, v1, v2])] [row v9 59 (Rp.int .u64) s.1] w) ⟨(v4), F.re ⟨rfl, Aa, Aa, Aa, Aa, trivial⟩, W⟩ fun s o a w H L5 hR => ?_
  obtain ⟨x9, x10⟩ := s
  obtain ⟨v9, F, W⟩ := hR
  have F : Fr 94 [] [(1, v3), (3, .pointer (some ⟨b1, 0, none⟩)), (6, .slice none 0 0), (7, v9), (9, .int .i64 x10)] a := F
  have W : Stw ⟨Y, [], w0⟩ [(b1, [.int .i64 p0.1, v1, v2])] [row v9 59 (Rp.int .u64) x9] w := W
  rw [DT] at H
  refine Ah (Ah (Ab ?_))
  refine ls F W Aa (Af F Aa).q fun a w F W => ?_
  refine ls F W Aa (Ai Cw Aa Aa Aa T3 F Aa 0 Aa).q fun a w F W => ?_
  refine ls F W Aa (Ap (v := Value.int .i64 p0.1) 0 F Aa Aa T3 Aa).q fun a w F W => ?_
  refine ls F W Aa (Bb F Aa Aa).q fun a w F W => ?_
  refine Ae (Ac ?_)
  refine Av F Aa (fun hb => ?_) fun hb => ?_
  ·
   have H := AN (Bd hb) H
   rw [hb] at F
   clear hb
   refine Ao (Ac ?_)
   obtain ⟨o6, G6, K6⟩ := Al H
   refine AE (fun a w => ∃ x11 : List Int, ∃ v10 : Value, some (x11) = some o6 ∧ Fr 94 [] [(1, v3), (3, .pointer (some ⟨b1, 0, none⟩)), (6, .slice none 0 0), (7, v10), (9, .int .i64 x10)] a ∧ Stw ⟨Y, [], w0⟩ [(b1, [.int .i64 p0.1, v1, v2])] [row v10 59 (Rp.int .u64) x11] w) ?_ ?_
   ·
    have H := G6
    clear G6 K6
    refine Aq (Ah (Ab ?_))
    refine ls F W Aa (Ad F Aa).q fun a w F W => ?_
    refine Ae (Ac ?_)
    obtain ⟨o7, G7, K7⟩ := Al H
    refine AE (fun a w => ∃ x12 : List Int, ∃ v11 : Value, some (x12) = some o7 ∧ Fr 94 [] [(1, v3), (3, .pointer (some ⟨b1, 0, none⟩)), (6, .slice none 0 0), (7, v9), (9, .int .i64 x10), (10, v11)] a ∧ Stw ⟨Y, [], w0⟩ [(b1, [.int .i64 p0.1, v1, v2])] [row v9 59 (Rp.int .u64) x9, row v11 59 (Rp.int .u64) x12] w) ?_ ?_
    ·
     have H := G7
     clear G7 K7
     refine Ah (Ab ?_)
     refine ls F W Aa (Ad F Aa).q fun a w F W => ?_
     refine Ae (Ac (Aq ?_))
     have W := W.nilRow 59 (Rp.int .u64)
     have W := W.frontZ (i := 1) Aa Aa
     refine A4 H (fun s a w => ∃ v12 : Value, Fr 94 [] [(1, v3), (3, .pointer (some ⟨b1, 0, none⟩)), (6, .slice none 0 0), (7, v9), (9, .int .i64 x10), (10, v12), (11, .int .i64 s.2)] a ∧ Stw ⟨Y, [], w0⟩ [(b1, [.int .i64 p0.1, v1, v2])] [row v9 59 (Rp.int .u64) x9, row v12 59 (Rp.int .u64) s.1] w) ⟨(Value.slice none 0 0), F.re ⟨rfl, Aa, Aa, Aa, Aa, Aa, Aa, trivial⟩, W⟩ fun s o a w H L8 hR => ?_
     obtain ⟨x13, x14⟩ := s
     obtain ⟨v12, F, W⟩ := hR
     have F : Fr 94 [] [(1, v3), (3, .pointer (some ⟨b1, 0, none⟩)), (6, .slice none 0 0), (7, v9), (9, .int .i64 x10), (10, v12), (11, .int .i64 x14)] a := F
     have W : Stw ⟨Y, [], w0⟩ [(b1, [.int .i64 p0.1, v1, v2])] [row v9 59 (Rp.int .u64) x9, row v12 59 (Rp.int .u64) x13] w := W
     rw [DV] at H
     refine Ah (Ah (Ab ?_))
     refine ls F W Aa (Af F Aa).q fun a w F W => ?_
     refine ls F W Aa (Ai Cw Aa Aa Aa T3 F Aa 0 Aa).q fun a w F W => ?_
     refine ls F W Aa (Ap (v := Value.int .i64 p0.1) 0 F Aa Aa T3 Aa).q fun a w F W => ?_
     refine ls F W Aa (Bb F Aa Aa).q fun a w F W => ?_
     refine Ae (Ac ?_)
     refine Av F Aa (fun hb => ?_) fun hb => ?_
     ·
      have H := AN (Bd hb) H
      rw [hb] at F
      clear hb
      refine Ao (Ac ?_)
      obtain ⟨o9, G9, K9⟩ := Al H
      refine AE (fun a w => ∃ x15 : List Int, ∃ v13 : Value, some (x15) = some o9 ∧ Fr 94 [] [(1, v3), (3, .pointer (some ⟨b1, 0, none⟩)), (6, .slice none 0 0), (7, v9), (9, .int .i64 x10), (10, v13), (11, .int .i64 x14)] a ∧ Stw ⟨Y, [], w0⟩ [(b1, [.int .i64 p0.1, v1, v2])] [row v9 59 (Rp.int .u64) x9, row v13 59 (Rp.int .u64) x15] w) ?_ ?_
      ·
       have H := G9
       clear G9 K9
       refine Aq (Ah (Ab ?_))
       iterate 2 refine ls F W Aa (Af F Aa).q fun a w F W => ?_
       obtain ⟨x16, h4, H⟩ := Al H
       refine ls F W Aa (AC (r := (Rp.int .u64)) Lo F Aa Aa (An 0 Aa) h4).q fun a w F W => ?_
       refine ls F W Aa (As (y := Value.int .u64 x16) (j := 0) (i := x14) F Aa Aa (An 0 Aa) h4 Fl.int.to N1 Aa).q fun a w F W => ?_
       refine ls F W Aa (Ad F Aa).q fun a w F W => ?_
       refine Ae (Ac (Ah (Ab ?_)))
       refine ls F W Aa (Ap (v := Value.agg #[.int .i64 p0.1, v1, v2]) 0 F Aa Aa GC Aa).q fun a w F W => ?_
       refine ls F W Aa (Af F Aa).q fun a w F W => ?_
       obtain ⟨x17, h5, H⟩ := Al H
       refine Bi (Ml := []) (Zl := []) (M := [(b1, [.int .i64 p0.1, v1, v2])]) (Z := [row v9 59 (Rp.int .u64) x9, row v12 59 (Rp.int .u64) x13]) (β := Value) (rv := fun x => x) (MM := fun x => []) (ZZ := fun x => [row x 79 Gd x17]) F W Se Aa Aa (fun hL => HE _ w (v1) (v2) p0 x14 _ h5 ((Ak h_v1) w W).nx ((Ak h_v2) w W).nx) fun x a w F W => ?_
       obtain ⟨v14, rfl⟩ : ∃ y, y = x := ⟨x, rfl⟩
       have W : Stw ⟨Y, [], w0⟩ [(b1, [.int .i64 p0.1, v1, v2])] [row v14 79 Gd x17, row v9 59 (Rp.int .u64) x9, row v12 59 (Rp.int .u64) x13] w := W
       refine ls F W Aa (Ad F Aa).q fun a w F W => ?_
       refine Ae (Ac ?_)
       obtain ⟨o10, G10, K10⟩ := Al H
       refine AE (fun a w => ∃ x18 : Int, some (x18) = some o10 ∧ Fr 94 [] [(1, v3), (3, .pointer (some ⟨b1, 0, none⟩)), (6, .slice none 0 0), (7, v9), (9, .int .i64 x10), (10, v12), (11, .int .i64 x14), (12, .int .u64 x18)] a ∧ Stw ⟨Y, [], w0⟩ [(b1, [.int .i64 p0.1, v1, v2])] [row v9 59 (Rp.int .u64) x9, row v12 59 (Rp.int .u64) x13] w) ?_ ?_
       ·
        have H := G10
        clear G10 K10
        refine Ah (Ab ?_)
        refine ls F W Aa (Ad F Aa).q fun a w F W => ?_
        refine Ae (Ac (Aq ?_))
        have W := W.frontZ (i := 2) Aa Aa
        have W := W.frontZ (i := 2) Aa Aa
        refine A4 H (fun s a w => Fr 94 [] [(1, v3), (3, .pointer (some ⟨b1, 0, none⟩)), (6, .slice none 0 0), (7, v9), (9, .int .i64 x10), (10, v12), (11, .int .i64 x14), (12, .int .u64 s.1), (13, v14), (14, .int .i64 s.2)] a ∧ Stw ⟨Y, [], w0⟩ [(b1, [.int .i64 p0.1, v1, v2])] [row v9 59 (Rp.int .u64) x9, row v12 59 (Rp.int .u64) x13, row v14 79 Gd x17] w) ⟨F.re ⟨rfl, Aa, Aa, Aa, Aa, Aa, Aa, Aa, Aa, Aa, trivial⟩, W⟩ fun s o a w H L11 hR => ?_
        obtain ⟨x19, x20⟩ := s
        obtain ⟨F, W⟩ := hR
        have F : Fr 94 [] [(1, v3), (3, .pointer (some ⟨b1, 0, none⟩)), (6, .slice none 0 0), (7, v9), (9, .int .i64 x10), (10, v12), (11, .int .i64 x14), (12, .int .u64 x19), (13, v14), (14, .int .i64 x20)] a := F
        have W : Stw ⟨Y, [], w0⟩ [(b1, [.int .i64 p0.1, v1, v2])] [row v9 59 (Rp.int .u64) x9, row v12 59 (Rp.int .u64) x13, row v14 79 Gd x17] w := W
        rw [Dl] at H
        refine Ah (Ah (Ab ?_))
        iterate 2 refine ls F W Aa (Af F Aa).q fun a w F W => ?_
        refine ls F W Aa (Bm (r := Gd) (l := x17) P9 Aa F Aa (An 2 Aa)).q fun a w F W => ?_
        refine ls F W Aa (Bb F Aa Aa).q fun a w F W => ?_
        refine Ae (Ac ?_)
        refine Av F Aa (fun hb => ?_) fun hb => ?_
        ·
         have H := AN (Bd hb) H
         rw [hb] at F
         clear hb
         refine Ao (Ac ?_)
         obtain ⟨o12, G12, K12⟩ := Al H
         refine AE (fun a w => ∃ x21 : Int, some (x21) = some o12 ∧ Fr 94 [] [(1, v3), (3, .pointer (some ⟨b1, 0, none⟩)), (6, .slice none 0 0), (7, v9), (9, .int .i64 x10), (10, v12), (11, .int .i64 x14), (12, .int .u64 x21), (13, v14), (14, .int .i64 x20)] a ∧ Stw ⟨Y, [], w0⟩ [(b1, [.int .i64 p0.1, v1, v2])] [row v9 59 (Rp.int .u64) x9, row v12 59 (Rp.int .u64) x13, row v14 79 Gd x17] w) ?_ ?_
         ·
          have H := G12
          clear G12 K12
          refine Aq (Ah ?_)
          refine Cb W MO (by kernel_rfl) ?_
          iterate 3 refine qs F Aa (Af F Aa).q fun a F => ?_
          obtain ⟨x22, h6, H⟩ := Al H
          refine qs F Aa (AC (r := Gd) Qq F Aa Aa (An 2 Aa) h6).q fun a F => ?_
          refine qs F Aa (Ai Lh Aa Aa Aa T3 F Aa (Ew v14 + (x20).toNat * 3 + 2) Aa).q fun a F => ?_
          refine qs F Aa (As (y := Value.int .i64 x22.2.2) (j := 2) (i := x20) F Aa Aa (An 2 Aa) h6 Qt.to T3 Aa).q fun a F => ?_
          obtain ⟨x23, h7, H⟩ := Al H
          refine qs F Aa (AC (r := (Rp.int .u64)) Lo F Aa Aa (Ak h_v3) h7).q fun a F => ?_
          refine qs F Aa (As (y := Value.int .u64 x23) (j := 0) (i := x22.2.2) F Aa Aa (Ak h_v3) h7 Fl.int.to N1 Aa).q fun a F => ?_
          iterate 3 refine qs F Aa (Af F Aa).q fun a F => ?_
          obtain ⟨x24, h8, H⟩ := Al H
          refine qs F Aa (AC (r := Gd) Qq F Aa Aa (An 2 Aa) h8).q fun a F => ?_
          refine qs F Aa (Ai Lh Aa Aa Aa T3 F Aa (Ew v14 + (x20).toNat * 3 + 1) Aa).q fun a F => ?_
          refine qs F Aa (As (y := Value.int .i64 x24.2.1) (j := 1) (i := x20) F Aa Aa (An 2 Aa) h8 Qt.to T3 Aa).q fun a F => ?_
          obtain ⟨x25, h9, H⟩ := Al H
          refine qs F Aa (AC (r := (Rp.int .u64)) Lo F Aa Aa (An 0 Aa) h9).q fun a F => ?_
          refine qs F Aa (As (y := Value.int .u64 x25) (j := 0) (i := x24.2.1) F Aa Aa (An 0 Aa) h9 Fl.int.to N1 Aa).q fun a F => ?_
          refine qs F Aa (AX (v := Value.int .u64 (EC x23 x25)) F Sq Aa (fun w W => J2 any w x23 x25 _ Aa)) fun a F => ?_
          refine qs F Aa (Ad F Aa).q fun a F => ?_
          refine Bf fun w W => ?_
          refine Ac (Ah (Ab ?_))
          iterate 2 refine ls F W Aa (Af F Aa).q fun a w F W => ?_
          refine ls F W Aa (Bb F Aa Aa).q fun a w F W => ?_
          refine Ae (Ac ?_)
          refine Av F Aa (fun hb => ?_) fun hb => ?_
          ·
           have H := AN (Bd hb) H
           rw [hb] at F
           clear hb
           refine Ab ?_
           refine ls F W Aa (Af F Aa).q fun a w F W => ?_
           refine ls F W Aa (Ad F Aa).q fun a w F W => ?_
           refine Ae (AK (Ac ?_))
           have W := W.frontZ (i := 2) Aa Aa
           have W := W.frontZ (i := 2) Aa Aa
           have W := W.frontZ (i := 2) Aa Aa
           exact ⟨_, H, F.re ⟨rfl, Aa, Aa, Aa, Aa, Aa, Aa, Aa, Aa, Aa, trivial⟩, W⟩
          have H := AO (Be hb) H
          rw [hb] at F
          clear hb
          refine Ao (AK (Ac ?_))
          have W := W.frontZ (i := 2) Aa Aa
          have W := W.frontZ (i := 2) Aa Aa
          have W := W.frontZ (i := 2) Aa Aa
          exact ⟨_, H, F.re ⟨rfl, Aa, Aa, Aa, Aa, Aa, Aa, Aa, Aa, Aa, trivial⟩, W⟩
         rintro a w ⟨x21, hj, F, W⟩
         have hj := AP hj
         subst hj
         have H := K12
         clear G12 K12
         refine Ab ?_
         refine ls F W Aa (Af F Aa).q fun a w F W => ?_
         refine ls F W Aa (Bw F Aa Aa Aa).q fun a w F W => ?_
         refine ls F W Aa (Ad F Aa).q fun a w F W => ?_
         refine Ae (Ac ?_)
         have W := W.frontZ (i := 2) Aa Aa
         have W := W.frontZ (i := 2) Aa Aa
         have W := W.frontZ (i := 2) Aa Aa
         exact ⟨_, H, F.re ⟨rfl, Aa, Aa, Aa, Aa, Aa, Aa, Aa, Aa, Aa, trivial⟩, W⟩
        have H := AO (Be hb) H
        rw [hb] at F
        clear hb
        refine A9 ?_
        iterate 2 refine Bl ?_
        refine A7 (Ac ?_)
        have W := W.frontZ (i := 1) Aa Aa
        have W := W.frontZ (i := 1) Aa Aa
        have W := W.sub (M' := [(b1, [.int .i64 p0.1, v1, v2])]) (Z' := [row v9 59 (Rp.int .u64) x9, row v12 59 (Rp.int .u64) x13]) (List.Sublist.refl _) (List.Sublist.cons_cons _ (List.Sublist.cons_cons _ (List.nil_sublist _)))
        have H := L11 _ H
        exact ⟨_, H, F.re ⟨rfl, Aa, Aa, Aa, Aa, Aa, Aa, Aa, trivial⟩, W⟩
       rintro a w ⟨x18, hj, F, W⟩
       have hj := AP hj
       subst hj
       have H := K10
       clear G10 K10
       refine Ab ?_
       iterate 2 refine ls F W Aa (Af F Aa).q fun a w F W => ?_
       refine Dq (z := Value.int .u64 0) (cs := [.int .u64 x18]) (Rp.int .u64) ([x18] : List Int) F W Aa Lo R9 Aa Aa Aa Aa Aa Aa (Fl.int.repL _ _ ([x18] : List Int)) fun v15 a w F W => ?_
       obtain ⟨x26, h10, H⟩ := Al H
       refine Cj (r := (Rp.int .u64)) (i := 2) F W Aa Lo Aa Aa Aa Aa (Cz W 0 Aa) h10 Aa fun v16 a w F W => ?_
       have W : Stw ⟨Y, [], w0⟩ [(b1, [.int .i64 p0.1, v1, v2])] [row v16 59 (Rp.int .u64) x26, row v15 59 (Rp.int .u64) ([x18] : List Int), row v9 59 (Rp.int .u64) x9] w := W
       refine ls F W Aa (Ad F Aa).q fun a w F W => ?_
       refine Ae (AK (Ac ?_))
       have W := W.frontZ (i := 2) Aa Aa
       have W := W.sub (M' := [(b1, [.int .i64 p0.1, v1, v2])]) (Z' := [row v9 59 (Rp.int .u64) x9, row v16 59 (Rp.int .u64) x26]) (List.Sublist.refl _) (List.Sublist.cons_cons _ (List.Sublist.cons_cons _ (List.nil_sublist _)))
       exact ⟨_, (v16), H, F.re ⟨rfl, Aa, Aa, Aa, Aa, Aa, Aa, trivial⟩, W⟩
      rintro a w ⟨x15, v13, hj, F, W⟩
      have hj := AP hj
      subst hj
      have H := K9
      clear G9 K9
      refine Ab ?_
      refine ls F W Aa (Af F Aa).q fun a w F W => ?_
      refine ls F W Aa (Bw F Aa Aa Aa).q fun a w F W => ?_
      refine ls F W Aa (Ad F Aa).q fun a w F W => ?_
      refine Ae (Ac ?_)
      have W := W.frontZ (i := 1) Aa Aa
      have W := W.frontZ (i := 1) Aa Aa
      exact ⟨_, H, (v13), F.re ⟨rfl, Aa, Aa, Aa, Aa, Aa, Aa, trivial⟩, W⟩
     have H := AO (Be hb) H
     rw [hb] at F
     clear hb
     refine A9 ?_
     iterate 2 refine Bl ?_
     refine A7 (Ac ?_)
     have W := W.frontZ (i := 1) Aa Aa
     have W := W.frontZ (i := 1) Aa Aa
     have H := L8 _ H
     exact ⟨_, (v12), H, F.re ⟨rfl, Aa, Aa, Aa, Aa, Aa, trivial⟩, W⟩
    rintro a w ⟨x12, v11, hj, F, W⟩
    have hj := AP hj
    subst hj
    have H := K7
    clear G7 K7
    refine Ab ?_
    refine ls F W Aa (Af F Aa).q fun a w F W => ?_
    refine ls F W Aa (Ad F Aa).q fun a w F W => ?_
    refine Ae (AK (Ac ?_))
    have W := W.frontZ (i := 1) Aa Aa
    have W := W.sub (M' := [(b1, [.int .i64 p0.1, v1, v2])]) (Z' := [row v11 59 (Rp.int .u64) x12]) (List.Sublist.refl _) (List.Sublist.cons_cons _ (List.nil_sublist _))
    exact ⟨_, (v11), H, F.re ⟨rfl, Aa, Aa, Aa, Aa, trivial⟩, W⟩
   rintro a w ⟨x11, v10, hj, F, W⟩
   have hj := AP hj
   subst hj
   have H := K6
   clear G6 K6
   refine Ab ?_
   refine ls F W Aa (Af F Aa).q fun a w F W => ?_
   refine ls F W Aa (Bw F Aa Aa Aa).q fun a w F W => ?_
   refine ls F W Aa (Ad F Aa).q fun a w F W => ?_
   refine Ae (Ac ?_)
   exact ⟨_, H, (v10), F.re ⟨rfl, Aa, Aa, Aa, Aa, trivial⟩, W⟩
  have H := AO (Be hb) H
  rw [hb] at F
  clear hb
  refine A9 ?_
  iterate 2 refine Bl ?_
  refine A7 (Ac ?_)
  have H := L5 _ H
  exact ⟨_, (v9), H, F.re ⟨rfl, Aa, trivial⟩, W⟩
 rintro a w ⟨x8, v8, hj, F, W⟩
 have hj := AP hj
 subst hj
 have H := K4
 clear G4 K4
 refine Ah (Ab ?_)
 refine ls F W Aa (Af F Aa).q fun a w F W => ?_
 refine ls F W Aa (Ad F Aa).q fun a w F W => ?_
 refine Ae (Ac (Ax ?_))
 have H := AP H
 subst H
 refine AQ (.inl Aa) F W Aa (Au F Aa) ?_
 have W := W.sub (M' := []) (Z' := [row v8 59 (Rp.int .u64) x8]) (List.nil_sublist _) (List.Sublist.refl _)
 exact ⟨(v8), Aa, W⟩
theorem RV : Has Try.prog 13 := ⟨fun args w => Aj Try.func13 rfl (by decide) args w⟩
noncomputable def E7 (p0 : List Int) (p1 : List Int) : Int → Option (Int ⊕ (Unit ⊕ Bool))
  | x1 => (if x1 < (p0.length : Int) then (ix p0 x1).bind fun x2 => (ix p1 x1).bind fun x3 => (if x2 ≠ x3 then some (.inr (.inr false)) else some (.inl (BI (x1 + 1)))) else some (.inr (.inl ())))
noncomputable def F7 (p0 : List Int) (p1 : List Int) : Option Bool := (if (p0.length : Int) ≠ (p1.length : Int) then some false else HK (AH (E7 p0 p1) 0) fun _ => some true)
theorem Nk (Y : Nat → Prop) (w0 : World) (v1 : Value) (v2 : Value) (p0 : List Int) (p1 : List Int) (r : Bool) (H : F7 p0 p1 = some r) (h_v1 : Sl w0 (NX []) (Rp.int .u64) v1 p0) (h_v2 : Sl w0 (NX []) (Rp.int .u64) v2 p1) :
    Calls Try.prog 10 #[v1, v2] w0 fun e w' => e = .returned (.bool r) ∧ Below w0.heap.size w0 w' := by
 refine enter Try.func10 Aa Try.ntmps10 Aa fun a F => ?_
 have W := Stw.start Y w0
 unfold F7 at H
 refine Ah (Ab ?_)
 refine ls F W Aa (Ad F Aa).q fun a w F W => ?_
 refine Ae (Ac (Ah (Ah (Ab ?_))))
 refine ls F W Aa (Af F Aa).q fun a w F W => ?_
 refine ls F W Aa (Bm (r := (Rp.int .u64)) (l := p0) IW Aa F Aa (Ak h_v1)).q fun a w F W => ?_
 refine ls F W Aa (Af F Aa).q fun a w F W => ?_
 refine ls F W Aa (Bm (r := (Rp.int .u64)) (l := p1) IW Aa F Aa (Ak h_v2)).q fun a w F W => ?_
 refine ls F W Aa (GK F Aa Aa).q fun a w F W => ?_
 refine Ae (Ac ?_)
 refine Av F Aa (fun hb => ?_) fun hb => ?_
 ·
  have H := AN (Bd hb) H
  rw [hb] at F
  clear hb
  refine Ah (Ab ?_)
  refine ls F W Aa (Ad F Aa).q fun a w F W => ?_
  refine Ae (Ac (Ax (AL ?_)))
  have H := AP H
  subst H
  refine AQ (.inl Aa) F W Aa (Au F Aa) ?_
  exact ⟨rfl, W.done⟩
 have H := AO (Be hb) H
 rw [hb] at F
 clear hb
 refine Ao (Ac ?_)
 obtain ⟨o1, G1, K1, L1⟩ := MZ H
 refine AE (fun a w => some (Sum.inl ()) = some o1 ∧ Fr 26 [] [(4, .bool false)] a ∧ Stw ⟨Y, [], w0⟩ [] [] w) ?_ ?_
 ·
  have H := G1
  clear G1 K1
  refine Ah (Ab ?_)
  refine ls F W Aa (Ad F Aa).q fun a w F W => ?_
  refine Ae (Ac (Aq ?_))
  refine A4 H (fun s a w => Fr 26 [] [(0, v1), (1, v2), (4, .bool false), (5, .int .i64 s)] a ∧ Stw ⟨Y, [], w0⟩ [] [] w) ⟨F.re ⟨rfl, Aa, Aa, Aa, trivial⟩, W⟩ fun s o a w H L2 hR => ?_
  obtain ⟨x1, rfl⟩ : ∃ x, x = s := ⟨s, rfl⟩
  obtain ⟨F, W⟩ := hR
  have F : Fr 26 [] [(0, v1), (1, v2), (4, .bool false), (5, .int .i64 x1)] a := F
  have W : Stw ⟨Y, [], w0⟩ [] [] w := W
  rw [E7] at H
  refine Ah (Ah (Ab ?_))
  iterate 2 refine ls F W Aa (Af F Aa).q fun a w F W => ?_
  refine ls F W Aa (Bm (r := (Rp.int .u64)) (l := p0) IW Aa F Aa (Ak h_v1)).q fun a w F W => ?_
  refine ls F W Aa (Bb F Aa Aa).q fun a w F W => ?_
  refine Ae (Ac ?_)
  refine Av F Aa (fun hb => ?_) fun hb => ?_
  ·
   have H := AN (Bd hb) H
   rw [hb] at F
   clear hb
   refine Ao (Ac (Ah (Aq (Ah ?_))))
   refine Cb W MO (by kernel_rfl) ?_
   iterate 2 refine qs F Aa (Af F Aa).q fun a F => ?_
   obtain ⟨x2, h1, H⟩ := Al H
   refine qs F Aa (AC (r := (Rp.int .u64)) Lo F Aa Aa (Ak h_v1) h1).q fun a F => ?_
   refine qs F Aa (As (y := Value.int .u64 x2) (j := 0) (i := x1) F Aa Aa (Ak h_v1) h1 Fl.int.to N1 Aa).q fun a F => ?_
   iterate 2 refine qs F Aa (Af F Aa).q fun a F => ?_
   obtain ⟨x3, h2, H⟩ := Al H
   refine qs F Aa (AC (r := (Rp.int .u64)) Lo F Aa Aa (Ak h_v2) h2).q fun a F => ?_
   refine qs F Aa (As (y := Value.int .u64 x3) (j := 0) (i := x1) F Aa Aa (Ak h_v2) h2 Fl.int.to N1 Aa).q fun a F => ?_
   refine qs F Aa (GK F Aa Aa).q fun a F => ?_
   refine Bf fun w W => ?_
   refine Ac ?_
   refine Av F Aa (fun hb => ?_) fun hb => ?_
   ·
    have H := AN (Bd hb) H
    rw [hb] at F
    clear hb
    refine Ah (Ab ?_)
    refine ls F W Aa (Ad F Aa).q fun a w F W => ?_
    refine Ae (Ac (Ax (A8 ?_)))
    iterate 2 refine AL ?_
    refine A8 (AL ?_)
    have H := L2 _ H
    have H := L1 _ H
    have H := AP H
    subst H
    refine AQ (.inl Aa) F W Aa (Au F Aa) ?_
    exact ⟨rfl, W.done⟩
   have H := AO (Be hb) H
   rw [hb] at F
   clear hb
   refine Ao (AK (Ac (Ab ?_)))
   refine ls F W Aa (Af F Aa).q fun a w F W => ?_
   refine ls F W Aa (Bw F Aa Aa Aa).q fun a w F W => ?_
   refine ls F W Aa (Ad F Aa).q fun a w F W => ?_
   refine Ae (Ac ?_)
   exact ⟨_, H, F.re ⟨rfl, Aa, Aa, Aa, trivial⟩, W⟩
  have H := AO (Be hb) H
  rw [hb] at F
  clear hb
  refine A9 ?_
  iterate 2 refine Bl ?_
  refine A7 (Ac ?_)
  have H := L2 _ H
  exact ⟨H, F.re ⟨rfl, trivial⟩, W⟩
 rintro a w ⟨hj, F, W⟩
 have H := K1 _ hj
 clear hj G1 K1 L1
 refine Ah (Ab ?_)
 refine ls F W Aa (Ad F Aa).q fun a w F W => ?_
 refine Ae (Ac (Ax ?_))
 have H := AP H
 subst H
 refine AQ (.inl Aa) F W Aa (Au F Aa) ?_
 exact ⟨rfl, W.done⟩
theorem SJ : Has Try.prog 10 := ⟨fun args w => Aj Try.func10 rfl (by decide) args w⟩
theorem Su : Ty Try.prog 79 true 3 := ⟨by kernel_rfl, by kernel_rfl⟩
def Cd (p0 : Int) : Int := (if (BF p0) = 9221120237041090561 then 0 else (if (BF p0) = 18442240474082181120 then 1 else (if 9223372036854775808 < (BF p0) then 2 else (if (BF p0) = 9223372036854775808 then 3 else (if (BF p0) = 0 then 4 else (if (BF p0) < 9218868437227405312 then 5 else 6))))))
theorem Mi (Y : Nat → Prop) (w0 : World)  (p0 : Int) (r : Int) (H : Cd p0 = r)  :
    Calls Try.prog 82 #[.int .u64 p0] w0 fun e w' => e = .returned (.int .i64 r) ∧ Below w0.heap.size w0 w' := by
 refine enter Try.func82 Aa Try.ntmps82 Aa fun a F => ?_
 have W := Stw.start Y w0
 unfold Cd at H
 refine Ah (Ab ?_)
 refine ls F W Aa (Ad F Aa).q fun a w F W => ?_
 refine Ae (Ac (Ah (Ab ?_)))
 refine ls F W Aa (Af F Aa).q fun a w F W => ?_
 refine ls F W Aa (AX (v := Value.int .u64 (BF p0)) F Sh Aa (fun w W => I2 any w p0 _ Aa)) fun a w F W => ?_
 refine ls F W Aa (Ad F Aa).q fun a w F W => ?_
 refine Ae (Ac (Ah (Ah (Ab ?_))))
 refine ls F W Aa (Af F Aa).q fun a w F W => ?_
 refine ls F W Aa (Cf F Aa Aa).q fun a w F W => ?_
 refine Ae (Ac ?_)
 refine Av F Aa (fun hb => ?_) fun hb => ?_
 ·
  have H := AN (Bd hb) H
  rw [hb] at F
  clear hb
  refine Ah (Ab ?_)
  refine ls F W Aa (Ad F Aa).q fun a w F W => ?_
  refine Ae (Ac (Ax (AL ?_)))
  subst H
  refine AQ (.inl Aa) F W Aa (Au F Aa) ?_
  exact ⟨rfl, W.done⟩
 have H := AO (Be hb) H
 rw [hb] at F
 clear hb
 refine Ao (Ac (Ah (Ah (Ab ?_))))
 refine ls F W Aa (Af F Aa).q fun a w F W => ?_
 refine ls F W Aa (Cf F Aa Aa).q fun a w F W => ?_
 refine Ae (Ac ?_)
 refine Av F Aa (fun hb => ?_) fun hb => ?_
 ·
  have H := AN (Bd hb) H
  rw [hb] at F
  clear hb
  refine Ah (Ab ?_)
  refine ls F W Aa (Ad F Aa).q fun a w F W => ?_
  refine Ae (Ac (Ax (AL ?_)))
  subst H
  refine AQ (.inl Aa) F W Aa (Au F Aa) ?_
  exact ⟨rfl, W.done⟩
 have H := AO (Be hb) H
 rw [hb] at F
 clear hb
 refine Ao (Ac (Ah (Ah (Ab ?_))))
 refine ls F W Aa (Af F Aa).q fun a w F W => ?_
 refine ls F W Aa (DL F Aa Aa).q fun a w F W => ?_
 refine Ae (Ac ?_)
 refine Av F Aa (fun hb => ?_) fun hb => ?_
 ·
  have H := AN (Bd hb) H
  rw [hb] at F
  clear hb
  refine Ah (Ab ?_)
  refine ls F W Aa (Ad F Aa).q fun a w F W => ?_
  refine Ae (Ac (Ax (AL ?_)))
  subst H
  refine AQ (.inl Aa) F W Aa (Au F Aa) ?_
  exact ⟨rfl, W.done⟩
 have H := AO (Be hb) H
 rw [hb] at F
 clear hb
 refine Ao (Ac (Ah (Ah (Ab ?_))))
 refine ls F W Aa (Af F Aa).q fun a w F W => ?_
 refine ls F W Aa (Cf F Aa Aa).q fun a w F W => ?_
 refine Ae (Ac ?_)
 refine Av F Aa (fun hb => ?_) fun hb => ?_
 ·
  have H := AN (Bd hb) H
  rw [hb] at F
  clear hb
  refine Ah (Ab ?_)
  refine ls F W Aa (Ad F Aa).q fun a w F W => ?_
  refine Ae (Ac (Ax (AL ?_)))
  subst H
  refine AQ (.inl Aa) F W Aa (Au F Aa) ?_
  exact ⟨rfl, W.done⟩
 have H := AO (Be hb) H
 rw [hb] at F
 clear hb
 refine Ao (Ac (Ah (Ah (Ab ?_))))
 refine ls F W Aa (Af F Aa).q fun a w F W => ?_
 refine ls F W Aa (Cf F Aa Aa).q fun a w F W => ?_
 refine Ae (Ac ?_)
 refine Av F Aa (fun hb => ?_) fun hb => ?_
 ·
  have H := AN (Bd hb) H
  rw [hb] at F
  clear hb
  refine Ah (Ab ?_)
  refine ls F W Aa (Ad F Aa).q fun a w F W => ?_
  refine Ae (Ac (Ax (AL ?_)))
  subst H
  refine AQ (.inl Aa) F W Aa (Au F Aa) ?_
  exact ⟨rfl, W.done⟩
 have H := AO (Be hb) H
 rw [hb] at F
 clear hb
 refine Ao (Ac (Ah (Ah (Ab ?_))))
 refine ls F W Aa (Af F Aa).q fun a w F W => ?_
 refine ls F W Aa (Bb F Aa Aa).q fun a w F W => ?_
 refine Ae (Ac ?_)
 refine Av F Aa (fun hb => ?_) fun hb => ?_
 ·
  have H := AN (Bd hb) H
  rw [hb] at F
  clear hb
  refine Ah (Ab ?_)
  refine ls F W Aa (Ad F Aa).q fun a w F W => ?_
  refine Ae (Ac (Ax (AL ?_)))
  subst H
  refine AQ (.inl Aa) F W Aa (Au F Aa) ?_
  exact ⟨rfl, W.done⟩
 have H := AO (Be hb) H
 rw [hb] at F
 clear hb
 refine Ao (Ac (Ah (Ab ?_)))
 refine ls F W Aa (Ad F Aa).q fun a w F W => ?_
 refine Ae (Ac (Ax ?_))
 subst H
 refine AQ (.inl Aa) F W Aa (Au F Aa) ?_
 exact ⟨rfl, W.done⟩
theorem SX : Has Try.prog 82 := ⟨fun args w => Aj Try.func82 rfl (by decide) args w⟩
noncomputable def JK (p0 : List Int) (p1 : Int) : Option Bool := (if (decide (p1 < 0) || decide ((p0.length : Int) ≤ p1)) = true then some false else (ix p0 p1).bind fun x1 => some (decide (0 < (Cd x1)) && decide ((Cd x1) < 6)))
theorem Pa (Y : Nat → Prop) (w0 : World) (v1 : Value) (p0 : List Int) (p1 : Int) (r : Bool) (H : JK p0 p1 = some r) (h_v1 : Sl w0 (NX []) (Rp.int .u64) v1 p0) :
    Calls Try.prog 59 #[v1, .int .i64 p1] w0 fun e w' => e = .returned (.bool r) ∧ Below w0.heap.size w0 w' := by
 refine enter Try.func59 Aa Try.ntmps59 Aa fun a F => ?_
 have W := Stw.start Y w0
 unfold JK at H
 refine Ah (Ab ?_)
 refine ls F W Aa (Ad F Aa).q fun a w F W => ?_
 refine Ae (Ac (Ah ?_))
 refine AE (fun a w => Fr 25 [] [(0, v1), (1, .int .i64 p1), (4, .bool false), (13, .bool (decide (p1 < 0) || decide ((p0.length : Int) ≤ p1)))] a ∧ Stw ⟨Y, [], w0⟩ [] [] w) ?_ ?_
 ·
  refine Ab ?_
  refine ls F W Aa (Af F Aa).q fun a w F W => ?_
  refine ls F W Aa (Bb F Aa Aa).q fun a w F W => ?_
  refine ls F W Aa (Af F Aa).q fun a w F W => ?_
  rcases Bool.eq_false_or_eq_true (decide (p1 < 0)) with hb0 | hb0
  ·
   rw [hb0] at F
   iterate 4 refine CL F Aa Aa Aa Aa Aa Aa Aa fun a F => ?_
   refine ls F W Aa (Aw F Aa Aa Aa).q fun a w F W => ?_
   refine Ae (Ac ?_)
   exact ⟨F.re ⟨rfl, Aa, Aa, (by show some (Value.bool true) = some (Value.bool (decide (p1 < 0) || decide ((p0.length : Int) ≤ p1))); try rw [hb0]; all_goals simp only [Bool.not_true, Bool.not_false, Bool.true_and, Bool.false_and, Bool.true_or, Bool.false_or, Bool.and_true, Bool.or_false, cond_true, cond_false]), trivial⟩, W⟩
  rw [hb0] at F
  iterate 2 refine AG F W (Ag F Aa Aa Aa Aa) Aa (Am Aa) (Af F Aa).q fun a w F W => ?_
  refine AG F W (Ag F Aa Aa Aa Aa) Aa (Am Aa) (Bm (r := (Rp.int .u64)) (l := p0) IW Aa F Aa (Ak h_v1)).q fun a w F W => ?_
  refine AG F W (Ag F Aa Aa Aa Aa) Aa (Am Aa) (Fk F Aa Aa).q fun a w F W => ?_
  refine ls F W Aa (Ay F Aa Aa Aa).q fun a w F W => ?_
  refine Ae (Ac ?_)
  exact ⟨F.re ⟨rfl, Aa, Aa, (by show some (Value.bool (decide ((p0.length : Int) ≤ p1))) = some (Value.bool (decide (p1 < 0) || decide ((p0.length : Int) ≤ p1))); try rw [hb0]; all_goals simp only [Bool.not_true, Bool.not_false, Bool.true_and, Bool.false_and, Bool.true_or, Bool.false_or, Bool.and_true, Bool.or_false, cond_true, cond_false]), trivial⟩, W⟩
 rintro a w ⟨F, W⟩
 refine Av F Aa (fun hb => ?_) fun hb => ?_
 ·
  have H := AN hb H
  rw [hb] at F
  clear hb
  refine Ah (Ab ?_)
  refine ls F W Aa (Ad F Aa).q fun a w F W => ?_
  refine Ae (Ac (Ax (AL ?_)))
  have H := AP H
  subst H
  refine AQ (.inl Aa) F W Aa (Au F Aa) ?_
  exact ⟨rfl, W.done⟩
 have H := AO (by rw [hb]; decide) H
 rw [hb] at F
 clear hb
 refine Ao (Ac (Ah (Ab ?_)))
 iterate 2 refine ls F W Aa (Af F Aa).q fun a w F W => ?_
 obtain ⟨x1, h1, H⟩ := Al H
 refine ls F W Aa (AC (r := (Rp.int .u64)) Lo F Aa Aa (Ak h_v1) h1).q fun a w F W => ?_
 refine ls F W Aa (As (y := Value.int .u64 x1) (j := 0) (i := p1) F Aa Aa (Ak h_v1) h1 Fl.int.to N1 Aa).q fun a w F W => ?_
 refine ls F W Aa (AX (v := Value.int .i64 (Cd x1)) F SX Aa (fun w W => Mi any w x1 _ Aa)) fun a w F W => ?_
 refine ls F W Aa (Ad F Aa).q fun a w F W => ?_
 refine Ae (Ac ?_)
 refine AE (fun a w => Fr 25 [] [(4, .bool (decide (0 < (Cd x1)) && decide ((Cd x1) < 6)))] a ∧ Stw ⟨Y, [], w0⟩ [] [] w) ?_ ?_
 ·
  refine Ab ?_
  refine ls F W Aa (Af F Aa).q fun a w F W => ?_
  refine ls F W Aa (DL F Aa Aa).q fun a w F W => ?_
  refine ls F W Aa (Af F Aa).q fun a w F W => ?_
  rcases Bool.eq_false_or_eq_true (decide (0 < (Cd x1))) with hb0 | hb0
  ·
   rw [hb0] at F
   refine AG F W (Ag F Aa Aa Aa Aa) Aa (Am Aa) (Af F Aa).q fun a w F W => ?_
   refine AG F W (Ag F Aa Aa Aa Aa) Aa (Am Aa) (Bb F Aa Aa).q fun a w F W => ?_
   refine ls F W Aa (Aw F Aa Aa Aa).q fun a w F W => ?_
   refine ls F W Aa (Ad F Aa).q fun a w F W => ?_
   refine Ae (Ac ?_)
   exact ⟨F.re ⟨(by show some (Value.bool (decide ((Cd x1) < 6))) = some (Value.bool (decide (0 < (Cd x1)) && decide ((Cd x1) < 6))); try rw [hb0]; all_goals simp only [Bool.not_true, Bool.not_false, Bool.true_and, Bool.false_and, Bool.true_or, Bool.false_or, Bool.and_true, Bool.or_false, cond_true, cond_false]), trivial⟩, W⟩
  rw [hb0] at F
  iterate 2 refine CL F Aa Aa Aa Aa Aa Aa Aa fun a F => ?_
  refine ls F W Aa (Ay F Aa Aa Aa).q fun a w F W => ?_
  refine ls F W Aa (Ad F Aa).q fun a w F W => ?_
  refine Ae (Ac ?_)
  exact ⟨F.re ⟨(by show some (Value.bool false) = some (Value.bool (decide (0 < (Cd x1)) && decide ((Cd x1) < 6))); try rw [hb0]; all_goals simp only [Bool.not_true, Bool.not_false, Bool.true_and, Bool.false_and, Bool.true_or, Bool.false_or, Bool.and_true, Bool.or_false, cond_true, cond_false]), trivial⟩, W⟩
 rintro a w ⟨F, W⟩
 refine Ax ?_
 have H := AP H
 subst H
 refine AQ (.inl Aa) F W Aa (Au F Aa) ?_
 exact ⟨rfl, W.done⟩
theorem S9 : Has Try.prog 59 := ⟨fun args w => Aj Try.func59 rfl (by decide) args w⟩
noncomputable def F5 (p0 : List Int) (p1 : List Int) (p2 : Int) (p3 : Int × Int × Int) : Option Bool := ((ix p1 p2).bind fun x2 => (if x2 ≠ 9218868437227405312 then (JK p0 p3.2.2).bind fun x3 => (if x3 = true then (ix p0 p3.2.2).bind fun x4 => (ix p1 p3.2.1).bind fun x5 => (ix p1 p2).bind fun x6 => some (decide ((EC x4 x5) = x6)) else some false) else some false)).bind fun x1 => some x1
theorem J3 (Y : Nat → Prop) (w0 : World) (v1 : Value) (v2 : Value) (p0 : List Int) (p1 : List Int) (p2 : Int) (p3 : Int × Int × Int) (r : Bool) (H : F5 p0 p1 p2 p3 = some r) (h_v1 : Sl w0 (NX []) (Rp.int .u64) v1 p0) (h_v2 : Sl w0 (NX []) (Rp.int .u64) v2 p1) :
    Calls Try.prog 40 #[v1, v2, .int .i64 p2, .agg #[.int .i64 p3.1, .int .i64 p3.2.1, .int .i64 p3.2.2]] w0 fun e w' => e = .returned (.bool r) ∧ Below w0.heap.size w0 w' := by
 refine enter Try.func40 Aa Try.ntmps40 Aa fun a F => ?_
 have W := Stw.start Y w0
 unfold F5 at H
 refine Ah (Ab ?_)
 refine DO (cs := [.int .i64 p3.1, .int .i64 p3.2.1, .int .i64 p3.2.2]) F W Aa Aa Aa fun b1 a w F W => ?_
 refine ls F W Aa (Ad F Aa).q fun a w F W => ?_
 refine Ae (Ac ?_)
 obtain ⟨o1, G1, K1⟩ := Al H
 refine AE (fun a w => ∃ x1 : Bool, some (x1) = some o1 ∧ Fr 38 [] [(8, .bool x1)] a ∧ Stw ⟨Y, [], w0⟩ [(b1, [.int .i64 p3.1, .int .i64 p3.2.1, .int .i64 p3.2.2])] [] w) ?_ ?_
 ·
  have H := G1
  clear G1 K1
  refine Cb W MO (by kernel_rfl) ?_
  iterate 2 refine qs F Aa (Af F Aa).q fun a F => ?_
  obtain ⟨x2, h1, H⟩ := Al H
  refine qs F Aa (AC (r := (Rp.int .u64)) Lo F Aa Aa (Ak h_v2) h1).q fun a F => ?_
  refine qs F Aa (As (y := Value.int .u64 x2) (j := 0) (i := p2) F Aa Aa (Ak h_v2) h1 Fl.int.to N1 Aa).q fun a F => ?_
  refine qs F Aa (GK F Aa Aa).q fun a F => ?_
  refine qs F Aa (Af F Aa).q fun a F => ?_
  rcases Bool.eq_false_or_eq_true (decide (x2 ≠ 9218868437227405312)) with hb | hb
  ·
   have H := AN (Bd hb) H
   rw [hb] at F
   clear hb
   refine Bu F (Ag F Aa Aa Aa Aa) Aa (Am Aa) (Af F Aa).q fun a F => ?_
   refine Bu F (Ag F Aa Aa Aa Aa) Aa (Am Aa) (Ai Lh Aa Aa Aa T3 F Aa 2 Aa).q fun a F => ?_
   refine Bu F (Ag F Aa Aa Aa Aa) Aa (Am Aa) (Ap (v := Value.int .i64 p3.2.2) 0 F Aa Aa T3 Aa).q fun a F => ?_
   obtain ⟨x3, h2, H⟩ := Al H
   refine Bu F (Ag F Aa Aa Aa Aa) Aa (Am Aa) (AX (v := Value.bool x3) F S9 Aa (fun w W => Pa any w (v1) p0 p3.2.2 _ h2 (((Ak h_v1) : Dw _ _ _ _ _ _) w W).nx)) fun a F => ?_
   refine qs F Aa (Aw F Aa Aa Aa).q fun a F => ?_
   refine qs F Aa (Af F Aa).q fun a F => ?_
   rcases Bool.eq_false_or_eq_true x3 with hb | hb
   ·
    have H := AN hb H
    rw [hb] at F
    clear hb
    refine Bu F (Ag F Aa Aa Aa Aa) Aa (Am Aa) (Af F Aa).q fun a F => ?_
    refine Bu F (Ag F Aa Aa Aa Aa) Aa (Am Aa) (Ai Lh Aa Aa Aa T3 F Aa 2 Aa).q fun a F => ?_
    refine Bu F (Ag F Aa Aa Aa Aa) Aa (Am Aa) (Ap (v := Value.int .i64 p3.2.2) 0 F Aa Aa T3 Aa).q fun a F => ?_
    obtain ⟨x4, h3, H⟩ := Al H
    refine Bu F (Ag F Aa Aa Aa Aa) Aa (Am Aa) (AC (r := (Rp.int .u64)) Lo F Aa Aa (Ak h_v1) h3).q fun a F => ?_
    refine Bu F (Ag F Aa Aa Aa Aa) Aa (Am Aa) (As (y := Value.int .u64 x4) (j := 0) (i := p3.2.2) F Aa Aa (Ak h_v1) h3 Fl.int.to N1 Aa).q fun a F => ?_
    refine Bu F (Ag F Aa Aa Aa Aa) Aa (Am Aa) (Af F Aa).q fun a F => ?_
    refine Bu F (Ag F Aa Aa Aa Aa) Aa (Am Aa) (Ai Lh Aa Aa Aa T3 F Aa 1 Aa).q fun a F => ?_
    refine Bu F (Ag F Aa Aa Aa Aa) Aa (Am Aa) (Ap (v := Value.int .i64 p3.2.1) 0 F Aa Aa T3 Aa).q fun a F => ?_
    obtain ⟨x5, h4, H⟩ := Al H
    refine Bu F (Ag F Aa Aa Aa Aa) Aa (Am Aa) (AC (r := (Rp.int .u64)) Lo F Aa Aa (Ak h_v2) h4).q fun a F => ?_
    refine Bu F (Ag F Aa Aa Aa Aa) Aa (Am Aa) (As (y := Value.int .u64 x5) (j := 0) (i := p3.2.1) F Aa Aa (Ak h_v2) h4 Fl.int.to N1 Aa).q fun a F => ?_
    refine Bu F (Ag F Aa Aa Aa Aa) Aa (Am Aa) (AX (v := Value.int .u64 (EC x4 x5)) F Sq Aa (fun w W => J2 any w x4 x5 _ Aa)) fun a F => ?_
    iterate 2 refine Bu F (Ag F Aa Aa Aa Aa) Aa (Am Aa) (Af F Aa).q fun a F => ?_
    obtain ⟨x6, h5, H⟩ := Al H
    refine Bu F (Ag F Aa Aa Aa Aa) Aa (Am Aa) (AC (r := (Rp.int .u64)) Lo F Aa Aa (Ak h_v2) h5).q fun a F => ?_
    refine Bu F (Ag F Aa Aa Aa Aa) Aa (Am Aa) (As (y := Value.int .u64 x6) (j := 0) (i := p2) F Aa Aa (Ak h_v2) h5 Fl.int.to N1 Aa).q fun a F => ?_
    refine Bu F (Ag F Aa Aa Aa Aa) Aa (Am Aa) (Cf F Aa Aa).q fun a F => ?_
    refine qs F Aa (Aw F Aa Aa Aa).q fun a F => ?_
    refine qs F Aa (Ad F Aa).q fun a F => ?_
    refine Bf fun w W => ?_
    refine Ac ?_
    exact ⟨_, H, F.re ⟨rfl, trivial⟩, W⟩
   have H := AO (by rw [hb]; decide) H
   rw [hb] at F
   clear hb
   iterate 16 refine D1 F (Cu F Aa Aa Aa Aa Aa) Aa Aa fun a F => ?_
   refine qs F Aa (Ay F Aa Aa Aa).q fun a F => ?_
   refine qs F Aa (Ad F Aa).q fun a F => ?_
   refine Bf fun w W => ?_
   refine Ac ?_
   exact ⟨_, H, F.re ⟨rfl, trivial⟩, W⟩
  have H := AO (Be hb) H
  rw [hb] at F
  clear hb
  iterate 4 refine D1 F (Cu F Aa Aa Aa Aa Aa) Aa Aa fun a F => ?_
  refine qs F Aa (Ay F Aa Aa Aa).q fun a F => ?_
  refine qs F Aa (Af F Aa).q fun a F => ?_
  iterate 16 refine D1 F (Cu F Aa Aa Aa Aa Aa) Aa Aa fun a F => ?_
  refine qs F Aa (Ay F Aa Aa Aa).q fun a F => ?_
  refine qs F Aa (Ad F Aa).q fun a F => ?_
  refine Bf fun w W => ?_
  refine Ac ?_
  exact ⟨_, H, F.re ⟨rfl, trivial⟩, W⟩
 rintro a w ⟨x1, hj, F, W⟩
 have hj := AP hj
 subst hj
 have H := K1
 clear G1 K1
 refine Ax ?_
 have H := AP H
 subst H
 refine AQ (.inl Aa) F W Aa (Au F Aa) ?_
 exact ⟨rfl, W.done⟩
theorem Sk : Has Try.prog 40 := ⟨fun args w => Aj Try.func40 rfl (by decide) args w⟩
noncomputable def CV (x1 : List Int) : (List Int × Int) → Option ((List Int × Int) ⊕ (List Int))
  | (x3, x4) => (if x4 < (x1.length : Int) then (Hz x3 ([(-1)] : List Int)).bind fun x5 => some (.inl (x5, BI (x4 + 1))) else some (.inr x3))
noncomputable def Dj (p1 : List Int) (x1 : List Int) (x10 : Int) (x13 : Int) (x15 : (List (Int × Int × Int))) : (List Int × Int) → Option ((List Int × Int) ⊕ (List Int))
  | (x16, x17) => (if x17 < (x15.length : Int) then (((ix x16 x13).bind fun x20 => (if x20 = (-1) then (ix x15 x17).bind fun x21 => (ix x16 x21.2.1).bind fun x22 => (if x22 = (BI (x10 - 1)) then (ix x15 x17).bind fun x23 => (F5 p1 x1 x13 x23).bind fun x24 => some x24 else some false) else some false)).bind fun x19 => (if x19 = true then (ix x16 x13).bind fun x25 => some (AD x16 x13 x10) else some x16)).bind fun x18 => some (.inl (x18, BI (x17 + 1))) else some (.inr x16))
noncomputable def Di (p0 : Int × (List (Int × Int × Int × Int × Int × Int)) × (List (Int × Int))) (p1 : List Int) (x1 : List Int) (x10 : Int) : (List Int × Int) → Option ((List Int × Int) ⊕ (List Int))
  | (x12, x13) => (if x13 < (x1.length : Int) then ((E8 p0 x13).bind fun x15 => AH (Dj p1 x1 x10 x13 x15) (x12, 0)).bind fun x14 => some (.inl (x14, BI (x13 + 1))) else some (.inr x12))
noncomputable def CT (p0 : Int × (List (Int × Int × Int × Int × Int × Int)) × (List (Int × Int))) (p1 : List Int) (x1 : List Int) : (List Int × Int) → Option ((List Int × Int) ⊕ (List Int))
  | (x9, x10) => (if x10 < (x1.length : Int) then (AH (Di p0 p1 x1 x10) (x9, 0)).bind fun x11 => some (.inl (x11, BI (x10 + 1))) else some (.inr x9))
noncomputable def DW (p0 : Int × (List (Int × Int × Int × Int × Int × Int)) × (List (Int × Int))) (p1 : List Int) (p2 : Int) : Option (List Int) := (CQ p0 p1 p2).bind fun x1 => (AH (CV x1) ([], 0)).bind fun x2 => (if 0 < (x1.length : Int) then (ix x2 p2).bind fun x7 => some (AD x2 p2 0) else some x2).bind fun x6 => (AH (CT p0 p1 x1) (x6, 1)).bind fun x8 => some x8
theorem Jb (Y : Nat → Prop) (w0 : World) (v1 : Value) (v2 : Value) (v3 : Value) (p0 : Int × (List (Int × Int × Int × Int × Int × Int)) × (List (Int × Int))) (p1 : List Int) (p2 : Int) (r : List Int) (H : DW p0 p1 p2 = some r) (h_v1 : Sl w0 (NX []) Ff v1 p0.2.1) (h_v2 : Sl w0 (NX []) Fa v2 p0.2.2) (h_v3 : Sl w0 (NX []) (Rp.int .u64) v3 p1) :
    Calls Try.prog 16 #[.agg #[.int .i64 p0.1, v1, v2], v3, .int .i64 p2] w0 fun e w' => ∃ x : Value, e = .returned (x) ∧ Stw ⟨Y, [], w0⟩ [] [row (x) 3 (Rp.int .i64) r] w' := by
 refine enter Try.func16 Aa Try.ntmps16 Aa fun a F => ?_
 have W := Stw.start Y w0
 unfold DW at H
 refine Ah (Ab ?_)
 refine DO (cs := [.int .i64 p0.1, v1, v2]) F W Aa Aa Aa fun b1 a w F W => ?_
 refine ls F W Aa (Ad F Aa).q fun a w F W => ?_
 refine Ae (Ac (Ah (Ab ?_)))
 refine ls F W Aa (Ap (v := Value.agg #[.int .i64 p0.1, v1, v2]) 0 F Aa Aa GC Aa).q fun a w F W => ?_
 iterate 2 refine ls F W Aa (Af F Aa).q fun a w F W => ?_
 obtain ⟨x1, h1, H⟩ := Al H
 refine Bi (Ml := []) (Zl := []) (M := [(b1, [.int .i64 p0.1, v1, v2])]) (Z := []) (β := Value) (rv := fun x => x) (MM := fun x => []) (ZZ := fun x => [row x 59 (Rp.int .u64) x1]) F W RV Aa Aa (fun hL => GY _ w (v1) (v2) (v3) p0 p1 p2 _ h1 ((Ak h_v1) w W).nx ((Ak h_v2) w W).nx ((Ak h_v3) w W).nx) fun x a w F W => ?_
 obtain ⟨v4, rfl⟩ : ∃ y, y = x := ⟨x, rfl⟩
 have W : Stw ⟨Y, [], w0⟩ [(b1, [.int .i64 p0.1, v1, v2])] [row v4 59 (Rp.int .u64) x1] w := W
 refine ls F W Aa (Ad F Aa).q fun a w F W => ?_
 refine Ae (Ac (Ah (Ab ?_)))
 refine ls F W Aa (Ad F Aa).q fun a w F W => ?_
 refine Ae (Ac ?_)
 obtain ⟨o1, G1, K1⟩ := Al H
 refine AE (fun a w => ∃ x2 : List Int, ∃ v5 : Value, some (x2) = some o1 ∧ Fr 87 [] [(1, v3), (2, .int .i64 p2), (3, .pointer (some ⟨b1, 0, none⟩)), (6, .slice none 0 0), (7, v4), (8, v5)] a ∧ Stw ⟨Y, [], w0⟩ [(b1, [.int .i64 p0.1, v1, v2])] [row v4 59 (Rp.int .u64) x1, row v5 3 (Rp.int .i64) x2] w) ?_ ?_
 ·
  have H := G1
  clear G1 K1
  refine Ah (Ab ?_)
  refine ls F W Aa (Ad F Aa).q fun a w F W => ?_
  refine Ae (Ac (Aq ?_))
  have W := W.nilRow 3 (Rp.int .i64)
  have W := W.frontZ (i := 1) Aa Aa
  refine A4 H (fun s a w => ∃ v6 : Value, Fr 87 [] [(1, v3), (2, .int .i64 p2), (3, .pointer (some ⟨b1, 0, none⟩)), (6, .slice none 0 0), (7, v4), (8, v6), (9, .int .i64 s.2)] a ∧ Stw ⟨Y, [], w0⟩ [(b1, [.int .i64 p0.1, v1, v2])] [row v4 59 (Rp.int .u64) x1, row v6 3 (Rp.int .i64) s.1] w) ⟨(Value.slice none 0 0), F.re ⟨rfl, Aa, Aa, Aa, Aa, Aa, Aa, trivial⟩, W⟩ fun s o a w H L2 hR => ?_
  obtain ⟨x3, x4⟩ := s
  obtain ⟨v6, F, W⟩ := hR
  have F : Fr 87 [] [(1, v3), (2, .int .i64 p2), (3, .pointer (some ⟨b1, 0, none⟩)), (6, .slice none 0 0), (7, v4), (8, v6), (9, .int .i64 x4)] a := F
  have W : Stw ⟨Y, [], w0⟩ [(b1, [.int .i64 p0.1, v1, v2])] [row v4 59 (Rp.int .u64) x1, row v6 3 (Rp.int .i64) x3] w := W
  rw [CV] at H
  refine Ah (Ah (Ab ?_))
  iterate 2 refine ls F W Aa (Af F Aa).q fun a w F W => ?_
  refine ls F W Aa (Bm (r := (Rp.int .u64)) (l := x1) IW Aa F Aa (An 0 Aa)).q fun a w F W => ?_
  refine ls F W Aa (Bb F Aa Aa).q fun a w F W => ?_
  refine Ae (Ac ?_)
  refine Av F Aa (fun hb => ?_) fun hb => ?_
  ·
   have H := AN (Bd hb) H
   rw [hb] at F
   clear hb
   refine Ao (Ac (Ah (Aq (Ab ?_))))
   refine ls F W Aa (Af F Aa).q fun a w F W => ?_
   refine Dq (z := Value.int .i64 0) (cs := [.int .i64 (-1)]) (Rp.int .i64) ([(-1)] : List Int) F W Aa Fi Z3 Aa Aa Aa Aa Aa Aa (Fl.int.repL _ _ ([(-1)] : List Int)) fun v7 a w F W => ?_
   obtain ⟨x5, h2, H⟩ := Al H
   refine Cj (r := (Rp.int .i64)) (i := 2) F W Aa Fi Aa Aa Aa Aa (Cz W 0 Aa) h2 Aa fun v8 a w F W => ?_
   have W : Stw ⟨Y, [], w0⟩ [(b1, [.int .i64 p0.1, v1, v2])] [row v8 3 (Rp.int .i64) x5, row v7 3 (Rp.int .i64) ([(-1)] : List Int), row v4 59 (Rp.int .u64) x1] w := W
   refine ls F W Aa (Ad F Aa).q fun a w F W => ?_
   refine Ae (AK (Ac (Ab ?_)))
   refine ls F W Aa (Af F Aa).q fun a w F W => ?_
   refine ls F W Aa (Bw F Aa Aa Aa).q fun a w F W => ?_
   refine ls F W Aa (Ad F Aa).q fun a w F W => ?_
   refine Ae (Ac ?_)
   have W := W.frontZ (i := 2) Aa Aa
   have W := W.sub (M' := [(b1, [.int .i64 p0.1, v1, v2])]) (Z' := [row v4 59 (Rp.int .u64) x1, row v8 3 (Rp.int .i64) x5]) (List.Sublist.refl _) (List.Sublist.cons_cons _ (List.Sublist.cons_cons _ (List.nil_sublist _)))
   exact ⟨_, H, (v8), F.re ⟨rfl, Aa, Aa, Aa, Aa, Aa, Aa, trivial⟩, W⟩
  have H := AO (Be hb) H
  rw [hb] at F
  clear hb
  refine A9 ?_
  iterate 2 refine Bl ?_
  refine A7 (Ac ?_)
  have W := W.frontZ (i := 1) Aa Aa
  have W := W.frontZ (i := 1) Aa Aa
  have H := L2 _ H
  exact ⟨_, (v6), H, F.re ⟨rfl, Aa, Aa, Aa, Aa, Aa, trivial⟩, W⟩
 rintro a w ⟨x2, v5, hj, F, W⟩
 have hj := AP hj
 subst hj
 have H := K1
 clear G1 K1
 obtain ⟨o3, G3, K3⟩ := Al H
 refine AE (fun a w => ∃ x6 : List Int, some (x6) = some o3 ∧ Fr 87 [] [(1, v3), (3, .pointer (some ⟨b1, 0, none⟩)), (6, .slice none 0 0), (7, v4), (8, v5)] a ∧ Stw ⟨Y, [], w0⟩ [(b1, [.int .i64 p0.1, v1, v2])] [row v4 59 (Rp.int .u64) x1, row v5 3 (Rp.int .i64) x6] w) ?_ ?_
 ·
  have H := G3
  clear G3 K3
  refine Ah (Ab ?_)
  refine ls F W Aa (Af F Aa).q fun a w F W => ?_
  refine ls F W Aa (Bm (r := (Rp.int .u64)) (l := x1) IW Aa F Aa (An 0 Aa)).q fun a w F W => ?_
  refine ls F W Aa (DL F Aa Aa).q fun a w F W => ?_
  refine Ae (Ac ?_)
  refine Av F Aa (fun hb => ?_) fun hb => ?_
  ·
   have H := AN (Bd hb) H
   rw [hb] at F
   clear hb
   refine Ab ?_
   iterate 2 refine ls F W Aa (Af F Aa).q fun a w F W => ?_
   obtain ⟨x7, h3, H⟩ := Al H
   refine ls F W Aa (AC (r := (Rp.int .i64)) Fi F Aa Aa (An 1 Aa) h3).q fun a w F W => ?_
   refine Cs (i := p2) (j := 0) (vs := [.int .i64 0]) (x' := 0) F W Aa Aa Aa (k := 1) Aa Aa h3 T3 Aa Aa Aa Aa (fun A cs _ => Fl.int.sto (by rfl) _ _ _) fun w W => ?_
   refine Ae (Ac ?_)
   have W := W.frontZ (i := 1) Aa Aa
   exact ⟨_, H, F.re ⟨rfl, Aa, Aa, Aa, Aa, trivial⟩, W⟩
  have H := AO (Be hb) H
  rw [hb] at F
  clear hb
  refine Ao (Ac ?_)
  have W := W.frontZ (i := 1) Aa Aa
  have W := W.frontZ (i := 1) Aa Aa
  exact ⟨_, H, F.re ⟨rfl, Aa, Aa, Aa, Aa, trivial⟩, W⟩
 rintro a w ⟨x6, hj, F, W⟩
 have hj := AP hj
 subst hj
 have H := K3
 clear G3 K3
 obtain ⟨o4, G4, K4⟩ := Al H
 refine AE (fun a w => ∃ x8 : List Int, some (x8) = some o4 ∧ Fr 87 [] [(6, .slice none 0 0), (8, v5)] a ∧ Stw ⟨Y, [], w0⟩ [(b1, [.int .i64 p0.1, v1, v2])] [row v5 3 (Rp.int .i64) x8] w) ?_ ?_
 ·
  have H := G4
  clear G4 K4
  refine Ah (Ab ?_)
  refine ls F W Aa (Ad F Aa).q fun a w F W => ?_
  refine Ae (Ac (Aq ?_))
  have W := W.frontZ (i := 1) Aa Aa
  have W := W.frontZ (i := 1) Aa Aa
  refine A4 H (fun s a w => Fr 87 [] [(1, v3), (3, .pointer (some ⟨b1, 0, none⟩)), (6, .slice none 0 0), (7, v4), (8, v5), (10, .int .i64 s.2)] a ∧ Stw ⟨Y, [], w0⟩ [(b1, [.int .i64 p0.1, v1, v2])] [row v4 59 (Rp.int .u64) x1, row v5 3 (Rp.int .i64) s.1] w) ⟨F.re ⟨rfl, Aa, Aa, Aa, Aa, Aa, trivial⟩, W⟩ fun s o a w H L5 hR => ?_
  obtain ⟨x9, x10⟩ := s
  obtain ⟨F, W⟩ := hR
  have F : Fr 87 [] [(1, v3), (3, .pointer (some ⟨b1, 0, none⟩)), (6, .slice none 0 0), (7, v4), (8, v5), (10, .int .i64 x10)] a := F
  have W : Stw ⟨Y, [], w0⟩ [(b1, [.int .i64 p0.1, v1, v2])] [row v4 59 (Rp.int .u64) x1, row v5 3 (Rp.int .i64) x9] w := W
  rw [CT] at H
  refine Ah (Ah (Ab ?_))
  iterate 2 refine ls F W Aa (Af F Aa).q fun a w F W => ?_
  refine ls F W Aa (Bm (r := (Rp.int .u64)) (l := x1) IW Aa F Aa (An 0 Aa)).q fun a w F W => ?_
  refine ls F W Aa (Bb F Aa Aa).q fun a w F W => ?_
  refine Ae (Ac ?_)
  refine Av F Aa (fun hb => ?_) fun hb => ?_
  ·
   have H := AN (Bd hb) H
   rw [hb] at F
   clear hb
   refine Ao (Ac ?_)
   obtain ⟨o6, G6, K6⟩ := Al H
   refine AE (fun a w => ∃ x11 : List Int, some (x11) = some o6 ∧ Fr 87 [] [(1, v3), (3, .pointer (some ⟨b1, 0, none⟩)), (6, .slice none 0 0), (7, v4), (8, v5), (10, .int .i64 x10)] a ∧ Stw ⟨Y, [], w0⟩ [(b1, [.int .i64 p0.1, v1, v2])] [row v4 59 (Rp.int .u64) x1, row v5 3 (Rp.int .i64) x11] w) ?_ ?_
   ·
    have H := G6
    clear G6 K6
    refine Aq (Ah (Ab ?_))
    refine ls F W Aa (Ad F Aa).q fun a w F W => ?_
    refine Ae (Ac (Aq ?_))
    have W := W.frontZ (i := 1) Aa Aa
    have W := W.frontZ (i := 1) Aa Aa
    refine A4 H (fun s a w => Fr 87 [] [(1, v3), (3, .pointer (some ⟨b1, 0, none⟩)), (6, .slice none 0 0), (7, v4), (8, v5), (10, .int .i64 x10), (11, .int .i64 s.2)] a ∧ Stw ⟨Y, [], w0⟩ [(b1, [.int .i64 p0.1, v1, v2])] [row v4 59 (Rp.int .u64) x1, row v5 3 (Rp.int .i64) s.1] w) ⟨F.re ⟨rfl, Aa, Aa, Aa, Aa, Aa, Aa, trivial⟩, W⟩ fun s o a w H L7 hR => ?_
    obtain ⟨x12, x13⟩ := s
    obtain ⟨F, W⟩ := hR
    have F : Fr 87 [] [(1, v3), (3, .pointer (some ⟨b1, 0, none⟩)), (6, .slice none 0 0), (7, v4), (8, v5), (10, .int .i64 x10), (11, .int .i64 x13)] a := F
    have W : Stw ⟨Y, [], w0⟩ [(b1, [.int .i64 p0.1, v1, v2])] [row v4 59 (Rp.int .u64) x1, row v5 3 (Rp.int .i64) x12] w := W
    rw [Di] at H
    refine Ah (Ah (Ab ?_))
    iterate 2 refine ls F W Aa (Af F Aa).q fun a w F W => ?_
    refine ls F W Aa (Bm (r := (Rp.int .u64)) (l := x1) IW Aa F Aa (An 0 Aa)).q fun a w F W => ?_
    refine ls F W Aa (Bb F Aa Aa).q fun a w F W => ?_
    refine Ae (Ac ?_)
    refine Av F Aa (fun hb => ?_) fun hb => ?_
    ·
     have H := AN (Bd hb) H
     rw [hb] at F
     clear hb
     refine Ao (Ac ?_)
     obtain ⟨o8, G8, K8⟩ := Al H
     refine AE (fun a w => ∃ x14 : List Int, some (x14) = some o8 ∧ Fr 87 [] [(1, v3), (3, .pointer (some ⟨b1, 0, none⟩)), (6, .slice none 0 0), (7, v4), (8, v5), (10, .int .i64 x10), (11, .int .i64 x13)] a ∧ Stw ⟨Y, [], w0⟩ [(b1, [.int .i64 p0.1, v1, v2])] [row v4 59 (Rp.int .u64) x1, row v5 3 (Rp.int .i64) x14] w) ?_ ?_
     ·
      have H := G8
      clear G8 K8
      refine Aq (Ah (Ab ?_))
      refine ls F W Aa (Ap (v := Value.agg #[.int .i64 p0.1, v1, v2]) 0 F Aa Aa GC Aa).q fun a w F W => ?_
      refine ls F W Aa (Af F Aa).q fun a w F W => ?_
      obtain ⟨x15, h4, H⟩ := Al H
      refine Bi (Ml := []) (Zl := []) (M := [(b1, [.int .i64 p0.1, v1, v2])]) (Z := [row v4 59 (Rp.int .u64) x1, row v5 3 (Rp.int .i64) x12]) (β := Value) (rv := fun x => x) (MM := fun x => []) (ZZ := fun x => [row x 79 Gd x15]) F W Se Aa Aa (fun hL => HE _ w (v1) (v2) p0 x13 _ h4 ((Ak h_v1) w W).nx ((Ak h_v2) w W).nx) fun x a w F W => ?_
      obtain ⟨v9, rfl⟩ : ∃ y, y = x := ⟨x, rfl⟩
      have W : Stw ⟨Y, [], w0⟩ [(b1, [.int .i64 p0.1, v1, v2])] [row v9 79 Gd x15, row v4 59 (Rp.int .u64) x1, row v5 3 (Rp.int .i64) x12] w := W
      refine ls F W Aa (Ad F Aa).q fun a w F W => ?_
      refine Ae (Ac (Ah (Ab ?_)))
      refine ls F W Aa (Ad F Aa).q fun a w F W => ?_
      refine Ae (Ac (Aq ?_))
      have W := W.frontZ (i := 2) Aa Aa
      have W := W.frontZ (i := 2) Aa Aa
      refine A4 H (fun s a w => Fr 87 [] [(1, v3), (3, .pointer (some ⟨b1, 0, none⟩)), (6, .slice none 0 0), (7, v4), (8, v5), (10, .int .i64 x10), (11, .int .i64 x13), (12, v9), (13, .int .i64 s.2)] a ∧ Stw ⟨Y, [], w0⟩ [(b1, [.int .i64 p0.1, v1, v2])] [row v4 59 (Rp.int .u64) x1, row v5 3 (Rp.int .i64) s.1, row v9 79 Gd x15] w) ⟨F.re ⟨rfl, Aa, Aa, Aa, Aa, Aa, Aa, Aa, Aa, trivial⟩, W⟩ fun s o a w H L9 hR => ?_
      obtain ⟨x16, x17⟩ := s
      obtain ⟨F, W⟩ := hR
      have F : Fr 87 [] [(1, v3), (3, .pointer (some ⟨b1, 0, none⟩)), (6, .slice none 0 0), (7, v4), (8, v5), (10, .int .i64 x10), (11, .int .i64 x13), (12, v9), (13, .int .i64 x17)] a := F
      have W : Stw ⟨Y, [], w0⟩ [(b1, [.int .i64 p0.1, v1, v2])] [row v4 59 (Rp.int .u64) x1, row v5 3 (Rp.int .i64) x16, row v9 79 Gd x15] w := W
      rw [Dj] at H
      refine Ah (Ah (Ab ?_))
      iterate 2 refine ls F W Aa (Af F Aa).q fun a w F W => ?_
      refine ls F W Aa (Bm (r := Gd) (l := x15) P9 Aa F Aa (An 2 Aa)).q fun a w F W => ?_
      refine ls F W Aa (Bb F Aa Aa).q fun a w F W => ?_
      refine Ae (Ac ?_)
      refine Av F Aa (fun hb => ?_) fun hb => ?_
      ·
       have H := AN (Bd hb) H
       rw [hb] at F
       clear hb
       refine Ao (Ac ?_)
       obtain ⟨o10, G10, K10⟩ := Al H
       refine AE (fun a w => ∃ x18 : List Int, some (x18) = some o10 ∧ Fr 87 [] [(1, v3), (3, .pointer (some ⟨b1, 0, none⟩)), (6, .slice none 0 0), (7, v4), (8, v5), (10, .int .i64 x10), (11, .int .i64 x13), (12, v9), (13, .int .i64 x17)] a ∧ Stw ⟨Y, [], w0⟩ [(b1, [.int .i64 p0.1, v1, v2])] [row v4 59 (Rp.int .u64) x1, row v5 3 (Rp.int .i64) x18, row v9 79 Gd x15] w) ?_ ?_
       ·
        have H := G10
        clear G10 K10
        refine Aq ?_
        obtain ⟨o11, G11, K11⟩ := Al H
        refine AE (fun a w => ∃ x19 : Bool, some (x19) = some o11 ∧ Fr 87 [] [(1, v3), (3, .pointer (some ⟨b1, 0, none⟩)), (6, .slice none 0 0), (7, v4), (8, v5), (10, .int .i64 x10), (11, .int .i64 x13), (12, v9), (13, .int .i64 x17), (81, .bool x19)] a ∧ Stw ⟨Y, [], w0⟩ [(b1, [.int .i64 p0.1, v1, v2])] [row v4 59 (Rp.int .u64) x1, row v5 3 (Rp.int .i64) x16, row v9 79 Gd x15] w) ?_ ?_
        ·
         have H := G11
         clear G11 K11
         refine Ab ?_
         iterate 2 refine ls F W Aa (Af F Aa).q fun a w F W => ?_
         obtain ⟨x20, h5, H⟩ := Al H
         refine ls F W Aa (AC (r := (Rp.int .i64)) Fi F Aa Aa (An 1 Aa) h5).q fun a w F W => ?_
         refine ls F W Aa (As (y := Value.int .i64 x20) (j := 0) (i := x13) F Aa Aa (An 1 Aa) h5 Fl.int.to T3 Aa).q fun a w F W => ?_
         refine ls F W Aa (Cf F Aa Aa).q fun a w F W => ?_
         refine ls F W Aa (Af F Aa).q fun a w F W => ?_
         rcases Bool.eq_false_or_eq_true (decide (x20 = (-1))) with hb | hb
         ·
          have H := AN (Bd hb) H
          rw [hb] at F
          clear hb
          iterate 3 refine AG F W (Ag F Aa Aa Aa Aa) Aa (Am Aa) (Af F Aa).q fun a w F W => ?_
          obtain ⟨x21, h6, H⟩ := Al H
          refine AG F W (Ag F Aa Aa Aa Aa) Aa (Am Aa) (AC (r := Gd) Qq F Aa Aa (An 2 Aa) h6).q fun a w F W => ?_
          refine AG F W (Ag F Aa Aa Aa Aa) Aa (Am Aa) (Ai Lh Aa Aa Aa T3 F Aa (Ew v9 + (x17).toNat * 3 + 1) Aa).q fun a w F W => ?_
          refine AG F W (Ag F Aa Aa Aa Aa) Aa (Am Aa) (As (y := Value.int .i64 x21.2.1) (j := 1) (i := x17) F Aa Aa (An 2 Aa) h6 Qt.to T3 Aa).q fun a w F W => ?_
          obtain ⟨x22, h7, H⟩ := Al H
          refine AG F W (Ag F Aa Aa Aa Aa) Aa (Am Aa) (AC (r := (Rp.int .i64)) Fi F Aa Aa (An 1 Aa) h7).q fun a w F W => ?_
          refine AG F W (Ag F Aa Aa Aa Aa) Aa (Am Aa) (As (y := Value.int .i64 x22) (j := 0) (i := x21.2.1) F Aa Aa (An 1 Aa) h7 Fl.int.to T3 Aa).q fun a w F W => ?_
          refine AG F W (Ag F Aa Aa Aa Aa) Aa (Am Aa) (Af F Aa).q fun a w F W => ?_
          refine AG F W (Ag F Aa Aa Aa Aa) Aa (Am Aa) (FJ F Aa Aa Aa).q fun a w F W => ?_
          refine AG F W (Ag F Aa Aa Aa Aa) Aa (Am Aa) (Cf F Aa Aa).q fun a w F W => ?_
          refine ls F W Aa (Aw F Aa Aa Aa).q fun a w F W => ?_
          refine ls F W Aa (Af F Aa).q fun a w F W => ?_
          rcases Bool.eq_false_or_eq_true (decide (x22 = (BI (x10 - 1)))) with hb | hb
          ·
           have H := AN (Bd hb) H
           rw [hb] at F
           clear hb
           iterate 5 refine AG F W (Ag F Aa Aa Aa Aa) Aa (Am Aa) (Af F Aa).q fun a w F W => ?_
           obtain ⟨x23, h8, H⟩ := Al H
           refine AG F W (Ag F Aa Aa Aa Aa) Aa (Am Aa) (AC (r := Gd) Qq F Aa Aa (An 2 Aa) h8).q fun a w F W => ?_
           refine AG F W (Ag F Aa Aa Aa Aa) Aa (Am Aa) (As (y := Value.agg #[.int .i64 x23.1, .int .i64 x23.2.1, .int .i64 x23.2.2]) (j := 0) (i := x17) F Aa Aa (An 2 Aa) h8 Qt.to Su Aa).q fun a w F W => ?_
           refine Lz (Ag F Aa Aa Aa Aa) ?_
           obtain ⟨x24, h9, H⟩ := Al H
           refine ls F W Aa (AX (v := Value.bool x24) F Sk Aa (fun w W => J3 any w (v3) (v4) p1 x1 x13 x23 _ h9 (((Ak h_v3) : Dw _ _ _ _ _ _) w W).nx (((An 0 Aa) : Dw _ _ _ _ _ _) w W).nx)) fun a w F W => ?_
           refine ls F W Aa (Aw F Aa Aa Aa).q fun a w F W => ?_
           refine Ae (Ac ?_)
           have W := W.frontZ (i := 2) Aa Aa
           have W := W.frontZ (i := 2) Aa Aa
           have W := W.frontZ (i := 2) Aa Aa
           exact ⟨_, H, F.re ⟨rfl, Aa, Aa, Aa, Aa, Aa, Aa, Aa, Aa, Aa, trivial⟩, W⟩
          have H := AO (Be hb) H
          rw [hb] at F
          clear hb
          iterate 8 refine CL F Aa Aa Aa Aa Aa Aa Aa fun a F => ?_
          refine ls F W Aa (Ay F Aa Aa Aa).q fun a w F W => ?_
          refine Ae (Ac ?_)
          have W := W.frontZ (i := 2) Aa Aa
          have W := W.frontZ (i := 2) Aa Aa
          have W := W.frontZ (i := 2) Aa Aa
          exact ⟨_, H, F.re ⟨rfl, Aa, Aa, Aa, Aa, Aa, Aa, Aa, Aa, Aa, trivial⟩, W⟩
         have H := AO (Be hb) H
         rw [hb] at F
         clear hb
         iterate 11 refine CL F Aa Aa Aa Aa Aa Aa Aa fun a F => ?_
         refine ls F W Aa (Ay F Aa Aa Aa).q fun a w F W => ?_
         refine ls F W Aa (Af F Aa).q fun a w F W => ?_
         iterate 8 refine CL F Aa Aa Aa Aa Aa Aa Aa fun a F => ?_
         refine ls F W Aa (Ay F Aa Aa Aa).q fun a w F W => ?_
         refine Ae (Ac ?_)
         have W := W.frontZ (i := 2) Aa Aa
         have W := W.frontZ (i := 2) Aa Aa
         have W := W.frontZ (i := 2) Aa Aa
         exact ⟨_, H, F.re ⟨rfl, Aa, Aa, Aa, Aa, Aa, Aa, Aa, Aa, Aa, trivial⟩, W⟩
        rintro a w ⟨x19, hj, F, W⟩
        have hj := AP hj
        subst hj
        have H := K11
        clear G11 K11
        refine Av F Aa (fun hb => ?_) fun hb => ?_
        ·
         have H := AN hb H
         rw [hb] at F
         clear hb
         refine Ab ?_
         iterate 3 refine ls F W Aa (Af F Aa).q fun a w F W => ?_
         obtain ⟨x25, h10, H⟩ := Al H
         refine ls F W Aa (AC (r := (Rp.int .i64)) Fi F Aa Aa (An 1 Aa) h10).q fun a w F W => ?_
         refine Cs (i := x13) (j := 0) (vs := [.int .i64 x10]) (x' := x10) F W Aa Aa Aa (k := 1) Aa Aa h10 T3 Aa Aa Aa Aa (fun A cs _ => Fl.int.sto (by rfl) _ _ _) fun w W => ?_
         refine Ae (AK (Ac ?_))
         have W := W.frontZ (i := 2) Aa Aa
         have W := W.frontZ (i := 1) Aa Aa
         have W := W.frontZ (i := 2) Aa Aa
         exact ⟨_, H, F.re ⟨rfl, Aa, Aa, Aa, Aa, Aa, Aa, Aa, Aa, trivial⟩, W⟩
        have H := AO (by rw [hb]; decide) H
        rw [hb] at F
        clear hb
        refine Ao (AK (Ac ?_))
        have W := W.frontZ (i := 2) Aa Aa
        have W := W.frontZ (i := 2) Aa Aa
        have W := W.frontZ (i := 2) Aa Aa
        exact ⟨_, H, F.re ⟨rfl, Aa, Aa, Aa, Aa, Aa, Aa, Aa, Aa, trivial⟩, W⟩
       rintro a w ⟨x18, hj, F, W⟩
       have hj := AP hj
       subst hj
       have H := K10
       clear G10 K10
       refine Ab ?_
       refine ls F W Aa (Af F Aa).q fun a w F W => ?_
       refine ls F W Aa (Bw F Aa Aa Aa).q fun a w F W => ?_
       refine ls F W Aa (Ad F Aa).q fun a w F W => ?_
       refine Ae (Ac ?_)
       have W := W.frontZ (i := 2) Aa Aa
       have W := W.frontZ (i := 2) Aa Aa
       have W := W.frontZ (i := 2) Aa Aa
       exact ⟨_, H, F.re ⟨rfl, Aa, Aa, Aa, Aa, Aa, Aa, Aa, Aa, trivial⟩, W⟩
      have H := AO (Be hb) H
      rw [hb] at F
      clear hb
      refine A9 ?_
      iterate 2 refine Bl ?_
      refine A7 (AK (Ac ?_))
      have W := W.frontZ (i := 1) Aa Aa
      have W := W.frontZ (i := 1) Aa Aa
      have W := W.sub (M' := [(b1, [.int .i64 p0.1, v1, v2])]) (Z' := [row v4 59 (Rp.int .u64) x1, row v5 3 (Rp.int .i64) x16]) (List.Sublist.refl _) (List.Sublist.cons_cons _ (List.Sublist.cons_cons _ (List.nil_sublist _)))
      have H := L9 _ H
      exact ⟨_, H, F.re ⟨rfl, Aa, Aa, Aa, Aa, Aa, Aa, trivial⟩, W⟩
     rintro a w ⟨x14, hj, F, W⟩
     have hj := AP hj
     subst hj
     have H := K8
     clear G8 K8
     refine Ab ?_
     refine ls F W Aa (Af F Aa).q fun a w F W => ?_
     refine ls F W Aa (Bw F Aa Aa Aa).q fun a w F W => ?_
     refine ls F W Aa (Ad F Aa).q fun a w F W => ?_
     refine Ae (Ac ?_)
     have W := W.frontZ (i := 1) Aa Aa
     have W := W.frontZ (i := 1) Aa Aa
     exact ⟨_, H, F.re ⟨rfl, Aa, Aa, Aa, Aa, Aa, Aa, trivial⟩, W⟩
    have H := AO (Be hb) H
    rw [hb] at F
    clear hb
    refine A9 ?_
    iterate 2 refine Bl ?_
    refine A7 (AK (Ac ?_))
    have W := W.frontZ (i := 1) Aa Aa
    have W := W.frontZ (i := 1) Aa Aa
    have H := L7 _ H
    exact ⟨_, H, F.re ⟨rfl, Aa, Aa, Aa, Aa, Aa, trivial⟩, W⟩
   rintro a w ⟨x11, hj, F, W⟩
   have hj := AP hj
   subst hj
   have H := K6
   clear G6 K6
   refine Ab ?_
   refine ls F W Aa (Af F Aa).q fun a w F W => ?_
   refine ls F W Aa (Bw F Aa Aa Aa).q fun a w F W => ?_
   refine ls F W Aa (Ad F Aa).q fun a w F W => ?_
   refine Ae (Ac ?_)
   have W := W.frontZ (i := 1) Aa Aa
   have W := W.frontZ (i := 1) Aa Aa
   exact ⟨_, H, F.re ⟨rfl, Aa, Aa, Aa, Aa, Aa, trivial⟩, W⟩
  have H := AO (Be hb) H
  rw [hb] at F
  clear hb
  refine A9 ?_
  iterate 2 refine Bl ?_
  refine A7 (Ac ?_)
  have W := W.frontZ (i := 1) Aa Aa
  have W := W.sub (M' := [(b1, [.int .i64 p0.1, v1, v2])]) (Z' := [row v5 3 (Rp.int .i64) x9]) (List.Sublist.refl _) (List.Sublist.cons_cons _ (List.nil_sublist _))
  have H := L5 _ H
  exact ⟨_, H, F.re ⟨rfl, Aa, trivial⟩, W⟩
 rintro a w ⟨x8, hj, F, W⟩
 have hj := AP hj
 subst hj
 have H := K4
 clear G4 K4
 refine Ah (Ab ?_)
 refine ls F W Aa (Af F Aa).q fun a w F W => ?_
 refine ls F W Aa (Ad F Aa).q fun a w F W => ?_
 refine Ae (Ac (Ax ?_))
 have H := AP H
 subst H
 refine AQ (.inl Aa) F W Aa (Au F Aa) ?_
 have W := W.sub (M' := []) (Z' := [row v5 3 (Rp.int .i64) x8]) (List.nil_sublist _) (List.Sublist.refl _)
 exact ⟨(v5), Aa, W⟩
theorem Sn : Has Try.prog 16 := ⟨fun args w => Aj Try.func16 rfl (by decide) args w⟩
noncomputable def E2 (p0 : List Int) (p1 : List Int) : Int → Option (Int ⊕ (Unit ⊕ Bool))
  | x1 => (if x1 < (p0.length : Int) then (ix p0 x1).bind fun x2 => (ix p1 x1).bind fun x3 => (if x2 ≠ x3 then some (.inr (.inr false)) else some (.inl (BI (x1 + 1)))) else some (.inr (.inl ())))
noncomputable def EA (p0 : List Int) (p1 : List Int) : Option Bool := (if (p0.length : Int) ≠ (p1.length : Int) then some false else HK (AH (E2 p0 p1) 0) fun _ => some true)
theorem HF (Y : Nat → Prop) (w0 : World) (v1 : Value) (v2 : Value) (p0 : List Int) (p1 : List Int) (r : Bool) (H : EA p0 p1 = some r) (h_v1 : Sl w0 (NX []) (Rp.int .i64) v1 p0) (h_v2 : Sl w0 (NX []) (Rp.int .i64) v2 p1) :
    Calls Try.prog 14 #[v1, v2] w0 fun e w' => e = .returned (.bool r) ∧ Below w0.heap.size w0 w' := by
 refine enter Try.func14 Aa Try.ntmps14 Aa fun a F => ?_
 have W := Stw.start Y w0
 unfold EA at H
 refine Ah (Ab ?_)
 refine ls F W Aa (Ad F Aa).q fun a w F W => ?_
 refine Ae (Ac (Ah (Ah (Ab ?_))))
 refine ls F W Aa (Af F Aa).q fun a w F W => ?_
 refine ls F W Aa (Bm (r := (Rp.int .i64)) (l := p0) Kw Aa F Aa (Ak h_v1)).q fun a w F W => ?_
 refine ls F W Aa (Af F Aa).q fun a w F W => ?_
 refine ls F W Aa (Bm (r := (Rp.int .i64)) (l := p1) Kw Aa F Aa (Ak h_v2)).q fun a w F W => ?_
 refine ls F W Aa (GK F Aa Aa).q fun a w F W => ?_
 refine Ae (Ac ?_)
 refine Av F Aa (fun hb => ?_) fun hb => ?_
 ·
  have H := AN (Bd hb) H
  rw [hb] at F
  clear hb
  refine Ah (Ab ?_)
  refine ls F W Aa (Ad F Aa).q fun a w F W => ?_
  refine Ae (Ac (Ax (AL ?_)))
  have H := AP H
  subst H
  refine AQ (.inl Aa) F W Aa (Au F Aa) ?_
  exact ⟨rfl, W.done⟩
 have H := AO (Be hb) H
 rw [hb] at F
 clear hb
 refine Ao (Ac ?_)
 obtain ⟨o1, G1, K1, L1⟩ := MZ H
 refine AE (fun a w => some (Sum.inl ()) = some o1 ∧ Fr 26 [] [(4, .bool false)] a ∧ Stw ⟨Y, [], w0⟩ [] [] w) ?_ ?_
 ·
  have H := G1
  clear G1 K1
  refine Ah (Ab ?_)
  refine ls F W Aa (Ad F Aa).q fun a w F W => ?_
  refine Ae (Ac (Aq ?_))
  refine A4 H (fun s a w => Fr 26 [] [(0, v1), (1, v2), (4, .bool false), (5, .int .i64 s)] a ∧ Stw ⟨Y, [], w0⟩ [] [] w) ⟨F.re ⟨rfl, Aa, Aa, Aa, trivial⟩, W⟩ fun s o a w H L2 hR => ?_
  obtain ⟨x1, rfl⟩ : ∃ x, x = s := ⟨s, rfl⟩
  obtain ⟨F, W⟩ := hR
  have F : Fr 26 [] [(0, v1), (1, v2), (4, .bool false), (5, .int .i64 x1)] a := F
  have W : Stw ⟨Y, [], w0⟩ [] [] w := W
  rw [E2] at H
  refine Ah (Ah (Ab ?_))
  iterate 2 refine ls F W Aa (Af F Aa).q fun a w F W => ?_
  refine ls F W Aa (Bm (r := (Rp.int .i64)) (l := p0) Kw Aa F Aa (Ak h_v1)).q fun a w F W => ?_
  refine ls F W Aa (Bb F Aa Aa).q fun a w F W => ?_
  refine Ae (Ac ?_)
  refine Av F Aa (fun hb => ?_) fun hb => ?_
  ·
   have H := AN (Bd hb) H
   rw [hb] at F
   clear hb
   refine Ao (Ac (Ah (Aq (Ah ?_))))
   refine Cb W MO (by kernel_rfl) ?_
   iterate 2 refine qs F Aa (Af F Aa).q fun a F => ?_
   obtain ⟨x2, h1, H⟩ := Al H
   refine qs F Aa (AC (r := (Rp.int .i64)) Fi F Aa Aa (Ak h_v1) h1).q fun a F => ?_
   refine qs F Aa (As (y := Value.int .i64 x2) (j := 0) (i := x1) F Aa Aa (Ak h_v1) h1 Fl.int.to T3 Aa).q fun a F => ?_
   iterate 2 refine qs F Aa (Af F Aa).q fun a F => ?_
   obtain ⟨x3, h2, H⟩ := Al H
   refine qs F Aa (AC (r := (Rp.int .i64)) Fi F Aa Aa (Ak h_v2) h2).q fun a F => ?_
   refine qs F Aa (As (y := Value.int .i64 x3) (j := 0) (i := x1) F Aa Aa (Ak h_v2) h2 Fl.int.to T3 Aa).q fun a F => ?_
   refine qs F Aa (GK F Aa Aa).q fun a F => ?_
   refine Bf fun w W => ?_
   refine Ac ?_
   refine Av F Aa (fun hb => ?_) fun hb => ?_
   ·
    have H := AN (Bd hb) H
    rw [hb] at F
    clear hb
    refine Ah (Ab ?_)
    refine ls F W Aa (Ad F Aa).q fun a w F W => ?_
    refine Ae (Ac (Ax (A8 ?_)))
    iterate 2 refine AL ?_
    refine A8 (AL ?_)
    have H := L2 _ H
    have H := L1 _ H
    have H := AP H
    subst H
    refine AQ (.inl Aa) F W Aa (Au F Aa) ?_
    exact ⟨rfl, W.done⟩
   have H := AO (Be hb) H
   rw [hb] at F
   clear hb
   refine Ao (AK (Ac (Ab ?_)))
   refine ls F W Aa (Af F Aa).q fun a w F W => ?_
   refine ls F W Aa (Bw F Aa Aa Aa).q fun a w F W => ?_
   refine ls F W Aa (Ad F Aa).q fun a w F W => ?_
   refine Ae (Ac ?_)
   exact ⟨_, H, F.re ⟨rfl, Aa, Aa, Aa, trivial⟩, W⟩
  have H := AO (Be hb) H
  rw [hb] at F
  clear hb
  refine A9 ?_
  iterate 2 refine Bl ?_
  refine A7 (Ac ?_)
  have H := L2 _ H
  exact ⟨H, F.re ⟨rfl, trivial⟩, W⟩
 rintro a w ⟨hj, F, W⟩
 have H := K1 _ hj
 clear hj G1 K1 L1
 refine Ah (Ab ?_)
 refine ls F W Aa (Ad F Aa).q fun a w F W => ?_
 refine Ae (Ac (Ax ?_))
 have H := AP H
 subst H
 refine AQ (.inl Aa) F W Aa (Au F Aa) ?_
 exact ⟨rfl, W.done⟩
end Go.Proofs.Ytbogijdfacoccaa
