/- The functions of layer 42, ET. Conditions: none. -/
import Derived.Test.YtflaelbmglmmcaaeA0
namespace Go.Proofs.Ytflaelbmglmmcaa
open Go Go.RowKit
set_option linter.unusedVariables false
set_option linter.unusedSimpArgs false
set_option maxRecDepth 20000
theorem Qn : Has Try.prog 53 := ⟨fun args w => Am Try.func53 rfl (by decide) args w⟩
noncomputable def Cp (p0 : (List (Int × Int × Int × Int × (Nat × List Int) × Int × Int × Int)) × (List (Int × Int)) × List Int) (p1 : Int × Int × Int × Int × Int × Int) : Option ((List (Int × Int × Int × Int × (Nat × List Int) × Int × Int × Int)) × (List (Int × Int)) × List Int) := (if p1.1 = 1 then (CF p0 p1).bind fun x1 => some x1 else (if p1.1 = 2 then some true else (if p1.1 = 3 then some true else some (decide (p1.1 = 4)))).bind fun x2 => (if x2 = true then (if (AC p0 p1.2.2.1) ≠ (-1) then (B3 p0 (AC p0 p1.2.2.1) p1).bind fun x3 => some x3 else some p0) else some p0))
theorem GZ (Y : Nat → Prop) (X : List Nat) (w0 : World) (q_p0 : Nat) (v1 : Value) (m_v2 : Nat) (v3 : Value) (p0 : (List (Int × Int × Int × Int × (Nat × List Int) × Int × Int × Int)) × (List (Int × Int)) × List Int) (p1 : Int × Int × Int × Int × Int × Int) (d_v1 : {x : List (Int × Int × Int × Int × (Value × Nat × List Int) × Int × Int × Int) // x.map Cx = p0.1}) (r : ((List (Int × Int × Int × Int × (Nat × List Int) × Int × Int × Int)) × (List (Int × Int)) × List Int)) (H : Cp p0 p1 = some r) (hL : Stw ⟨Y, X, w0⟩ [(q_p0, [v1, .map (some m_v2), v3])] [Bj v1 78 BO d_v1.1, row v3 3 (Rp.int .i64) p0.2.2, mp m_v2 Bw Bw p0.2.1] w0) :
    Calls Try.prog 43 #[.pointer (some ⟨q_p0, 0, none⟩), .agg #[.int .i64 p1.1, .int .i64 p1.2.1, .int .i64 p1.2.2.1, .int .i64 p1.2.2.2.1, .int .i64 p1.2.2.2.2.1, .int .i64 p1.2.2.2.2.2]] w0 fun e w' => ∃ x : Value × ({x : List (Int × Int × Int × Int × (Value × Nat × List Int) × Int × Int × Int) // x.map Cx = r.1}) × Value, e = .returned (.tuple #[]) ∧ Stw ⟨Y, X, w0⟩ [(q_p0, [x.1, .map (some m_v2), x.2.2])] [Bj (x.1) 78 BO (x.2.1.1), row (x.2.2) 3 (Rp.int .i64) r.2.2, mp m_v2 Bw Bw r.2.1] w' := by
 refine enter Try.func43 Aa Try.ntmps43 Aa fun a F => ?_
 have W := hL
 unfold Cp at H
 refine Ai (Ac ?_)
 refine B9 (cs := [.int .i64 p1.1, .int .i64 p1.2.1, .int .i64 p1.2.2.1, .int .i64 p1.2.2.2.1, .int .i64 p1.2.2.2.2.1, .int .i64 p1.2.2.2.2.2]) F W Aa Aa Aa fun b1 a w F W => ?_
 refine Ad (Ab (Ai (Ac ?_)))
 refine ls F W Aa (Ag DQ Aa Aa Aa T3 F Aa 0 Aa).q fun a w F W => ?_
 refine ls F W Aa (Al (v := Value.int .i64 p1.1) 0 F Aa Aa T3 Aa).q fun a w F W => ?_
 refine Ad (Ab (Aw (Ai (Ac ?_))))
 refine ls F W Aa (BZ F Aa Aa).q fun a w F W => ?_
 refine ls F W Aa (Ah F Aa).q fun a w F W => ?_
 refine Ad (Ab ?_)
 refine Ay F Aa (fun hb => ?_) fun hb => ?_
 ·
  have H := AN (Bf hb) H
  rw [hb] at F
  clear hb
  refine Ac ?_
  refine ls F W Aa (Ae F Aa).q fun a w F W => ?_
  refine ls F W Aa (Al (v := Value.agg #[.int .i64 p1.1, .int .i64 p1.2.1, .int .i64 p1.2.2.1, .int .i64 p1.2.2.2.1, .int .i64 p1.2.2.2.2.1, .int .i64 p1.2.2.2.2.2]) 0 F Aa Aa Mo Aa).q fun a w F W => ?_
  obtain ⟨x1, h1, H⟩ := Ao H
  have W := W.frontZ (i := 2) Aa Aa
  have W := W.frontZ (i := 2) Aa Aa
  have W := W.frontZ (i := 2) Aa Aa
  have W := W.frontM (i := 1) Aa Aa
  refine Cf (Ml := [(q_p0, [v1, .map (some m_v2), v3])]) (Zl := [Bj v1 78 BO d_v1.1, row v3 3 (Rp.int .i64) p0.2.2, mp m_v2 Bw Bw p0.2.1]) (M := [(b1, [.int .i64 p1.1, .int .i64 p1.2.1, .int .i64 p1.2.2.1, .int .i64 p1.2.2.2.1, .int .i64 p1.2.2.2.2.1, .int .i64 p1.2.2.2.2.2])]) (Z := []) (β := Value × ({x : List (Int × Int × Int × Int × (Value × Nat × List Int) × Int × Int × Int) // x.map Cx = x1.1}) × Value) (rv := fun x => .tuple #[]) (MM := fun x => [(q_p0, [x.1, .map (some m_v2), x.2.2])]) (ZZ := fun x => [Bj x.1 78 BO x.2.1.1, row x.2.2 3 (Rp.int .i64) x1.2.2, mp m_v2 Bw Bw x1.2.1]) F W PQ Aa Aa (fun hL => GK _ _ w q_p0 (v1) m_v2 (v3) p0 p1 ⟨d_v1.1, d_v1.2⟩ _ h1 hL) fun x a w F W => ?_
  obtain ⟨v4, v5, v6⟩ := x
  have W : Stw ⟨Y, X, w0⟩ [(q_p0, [v4, .map (some m_v2), v6]), (b1, [.int .i64 p1.1, .int .i64 p1.2.1, .int .i64 p1.2.2.1, .int .i64 p1.2.2.2.1, .int .i64 p1.2.2.2.2.1, .int .i64 p1.2.2.2.2.2])] [Bj v4 78 BO v5.1, row v6 3 (Rp.int .i64) x1.2.2, mp m_v2 Bw Bw x1.2.1] w := W
  refine Ad (AK ?_)
  have H := AW H
  subst H
  refine FV (.inr Aa) F Aa ?_
  have W := W.frontZ (i := 2) Aa Aa
  have W := W.frontZ (i := 2) Aa Aa
  have W := W.frontZ (i := 2) Aa Aa
  have W := W.sub (M' := [(q_p0, [v4, .map (some m_v2), v6])]) (Z' := [Bj v4 78 BO v5.1, row v6 3 (Rp.int .i64) x1.2.2, mp m_v2 Bw Bw x1.2.1]) (List.Sublist.cons_cons _ (List.nil_sublist _)) (List.Sublist.refl _)
  exact ⟨((v4), ⟨v5.1, v5.2⟩, (v6)), Aa, W⟩
 have H := AM (Bg hb) H
 rw [hb] at F
 clear hb
 obtain ⟨o1, G1, K1⟩ := Ao H
 refine AH (fun a w => ∃ x2 : Bool, some (x2) = some o1 ∧ Fr 26 [] [(0, .pointer (some ⟨q_p0, 0, none⟩)), (3, .pointer (some ⟨b1, 0, none⟩)), (12, .bool x2)] a ∧ Stw ⟨Y, X, w0⟩ [(b1, [.int .i64 p1.1, .int .i64 p1.2.1, .int .i64 p1.2.2.1, .int .i64 p1.2.2.2.1, .int .i64 p1.2.2.2.2.1, .int .i64 p1.2.2.2.2.2]), (q_p0, [v1, .map (some m_v2), v3])] [Bj v1 78 BO d_v1.1, row v3 3 (Rp.int .i64) p0.2.2, mp m_v2 Bw Bw p0.2.1] w) ?_ ?_
 ·
  have H := G1
  clear G1 K1
  refine Ai (Ac ?_)
  refine ls F W Aa (BZ F Aa Aa).q fun a w F W => ?_
  refine ls F W Aa (Ah F Aa).q fun a w F W => ?_
  refine Ad (Ab ?_)
  refine Ay F Aa (fun hb => ?_) fun hb => ?_
  ·
   have H := AN (Bf hb) H
   rw [hb] at F
   clear hb
   refine Aq (Ab ?_)
   have W := W.frontZ (i := 2) Aa Aa
   have W := W.frontZ (i := 2) Aa Aa
   have W := W.frontZ (i := 2) Aa Aa
   have W := W.frontM (i := 1) Aa Aa
   have W := W.frontM (i := 1) Aa Aa
   exact ⟨_, H, F.re ⟨rfl, Aa, Aa, trivial⟩, W⟩
  have H := AM (Bg hb) H
  rw [hb] at F
  clear hb
  refine Ai (Ac ?_)
  refine ls F W Aa (BZ F Aa Aa).q fun a w F W => ?_
  refine ls F W Aa (Ah F Aa).q fun a w F W => ?_
  refine Ad (Ab ?_)
  refine Ay F Aa (fun hb => ?_) fun hb => ?_
  ·
   have H := AN (Bf hb) H
   rw [hb] at F
   clear hb
   refine Aq (Ab ?_)
   have W := W.frontZ (i := 2) Aa Aa
   have W := W.frontZ (i := 2) Aa Aa
   have W := W.frontZ (i := 2) Aa Aa
   have W := W.frontM (i := 1) Aa Aa
   have W := W.frontM (i := 1) Aa Aa
   exact ⟨_, H, F.re ⟨rfl, Aa, Aa, trivial⟩, W⟩
  have H := AM (Bg hb) H
  rw [hb] at F
  clear hb
  refine Ac ?_
  refine ls F W Aa (BZ F Aa Aa).q fun a w F W => ?_
  refine ls F W Aa (Ah F Aa).q fun a w F W => ?_
  refine Ad (Ab ?_)
  have W := W.frontZ (i := 2) Aa Aa
  have W := W.frontZ (i := 2) Aa Aa
  have W := W.frontZ (i := 2) Aa Aa
  have W := W.frontM (i := 1) Aa Aa
  have W := W.frontM (i := 1) Aa Aa
  exact ⟨_, H, F.re ⟨rfl, Aa, Aa, trivial⟩, W⟩
 rintro a w ⟨x2, hj, F, W⟩
 have hj := AW hj
 subst hj
 have H := K1
 clear G1 K1
 refine Ay F Aa (fun hb => ?_) fun hb => ?_
 ·
  have H := AN hb H
  rw [hb] at F
  clear hb
  refine Ai (Ac ?_)
  refine ls F W Aa (Ae F Aa).q fun a w F W => ?_
  refine ls F W Aa (Ag DQ Aa Aa Aa T3 F Aa 2 Aa).q fun a w F W => ?_
  refine ls F W Aa (Al (v := Value.int .i64 p1.2.2.1) 0 F Aa Aa T3 Aa).q fun a w F W => ?_
  have W := W.frontZ (i := 2) Aa Aa
  have W := W.frontZ (i := 2) Aa Aa
  have W := W.frontZ (i := 2) Aa Aa
  have W := W.frontM (i := 1) Aa Aa
  refine Cf (Ml := [(q_p0, [v1, .map (some m_v2), v3])]) (Zl := [Bj v1 78 BO d_v1.1, row v3 3 (Rp.int .i64) p0.2.2, mp m_v2 Bw Bw p0.2.1]) (M := [(b1, [.int .i64 p1.1, .int .i64 p1.2.1, .int .i64 p1.2.2.1, .int .i64 p1.2.2.2.1, .int .i64 p1.2.2.2.2.1, .int .i64 p1.2.2.2.2.2])]) (Z := []) (β := Unit) (rv := fun x => .int .i64 (AC p0 p1.2.2.1)) (MM := fun x => [(q_p0, [v1, .map (some m_v2), v3])]) (ZZ := fun x => [Bj v1 78 BO d_v1.1, row v3 3 (Rp.int .i64) p0.2.2, mp m_v2 Bw Bw p0.2.1]) F W Pu Aa Aa (fun hL => DZ _ _ w q_p0 (v1) m_v2 (v3) p0 p1.2.2.1 ⟨d_v1.1, d_v1.2⟩ _ Aa hL) fun x a w F W => ?_
  have W : Stw ⟨Y, X, w0⟩ [(q_p0, [v1, .map (some m_v2), v3]), (b1, [.int .i64 p1.1, .int .i64 p1.2.1, .int .i64 p1.2.2.1, .int .i64 p1.2.2.2.1, .int .i64 p1.2.2.2.2.1, .int .i64 p1.2.2.2.2.2])] [Bj v1 78 BO d_v1.1, row v3 3 (Rp.int .i64) p0.2.2, mp m_v2 Bw Bw p0.2.1] w := W
  refine ls F W Aa (Ah F Aa).q fun a w F W => ?_
  refine Ad (Ab (Ai (Ac ?_)))
  refine ls F W Aa (Ae F Aa).q fun a w F W => ?_
  refine ls F W Aa (Fd F Aa Aa).q fun a w F W => ?_
  refine Ad (Ab ?_)
  refine Ay F Aa (fun hb => ?_) fun hb => ?_
  ·
   have H := AN (Bf hb) H
   rw [hb] at F
   clear hb
   refine Ac ?_
   iterate 2 refine ls F W Aa (Ae F Aa).q fun a w F W => ?_
   refine ls F W Aa (Al (v := Value.agg #[.int .i64 p1.1, .int .i64 p1.2.1, .int .i64 p1.2.2.1, .int .i64 p1.2.2.2.1, .int .i64 p1.2.2.2.2.1, .int .i64 p1.2.2.2.2.2]) 1 F Aa Aa Mo Aa).q fun a w F W => ?_
   obtain ⟨x3, h2, H⟩ := Ao H
   have W := W.frontZ (i := 2) Aa Aa
   have W := W.frontZ (i := 2) Aa Aa
   have W := W.frontZ (i := 2) Aa Aa
   refine Cf (Ml := [(q_p0, [v1, .map (some m_v2), v3])]) (Zl := [Bj v1 78 BO d_v1.1, row v3 3 (Rp.int .i64) p0.2.2, mp m_v2 Bw Bw p0.2.1]) (M := [(b1, [.int .i64 p1.1, .int .i64 p1.2.1, .int .i64 p1.2.2.1, .int .i64 p1.2.2.2.1, .int .i64 p1.2.2.2.2.1, .int .i64 p1.2.2.2.2.2])]) (Z := []) (β := Value × ({x : List (Int × Int × Int × Int × (Value × Nat × List Int) × Int × Int × Int) // x.map Cx = x3.1}) × Value) (rv := fun x => .tuple #[]) (MM := fun x => [(q_p0, [x.1, .map (some m_v2), x.2.2])]) (ZZ := fun x => [Bj x.1 78 BO x.2.1.1, row x.2.2 3 (Rp.int .i64) x3.2.2, mp m_v2 Bw Bw x3.2.1]) F W Qn Aa Aa (fun hL => Gq _ _ w q_p0 (v1) m_v2 (v3) p0 (AC p0 p1.2.2.1) p1 ⟨d_v1.1, d_v1.2⟩ _ h2 hL) fun x a w F W => ?_
   obtain ⟨v7, v8, v9⟩ := x
   have W : Stw ⟨Y, X, w0⟩ [(q_p0, [v7, .map (some m_v2), v9]), (b1, [.int .i64 p1.1, .int .i64 p1.2.1, .int .i64 p1.2.2.1, .int .i64 p1.2.2.2.1, .int .i64 p1.2.2.2.2.1, .int .i64 p1.2.2.2.2.2])] [Bj v7 78 BO v8.1, row v9 3 (Rp.int .i64) x3.2.2, mp m_v2 Bw Bw x3.2.1] w := W
   refine Ad (AK ?_)
   have H := AW H
   subst H
   refine FV (.inr Aa) F Aa ?_
   have W := W.frontZ (i := 2) Aa Aa
   have W := W.frontZ (i := 2) Aa Aa
   have W := W.frontZ (i := 2) Aa Aa
   have W := W.sub (M' := [(q_p0, [v7, .map (some m_v2), v9])]) (Z' := [Bj v7 78 BO v8.1, row v9 3 (Rp.int .i64) x3.2.2, mp m_v2 Bw Bw x3.2.1]) (List.Sublist.cons_cons _ (List.nil_sublist _)) (List.Sublist.refl _)
   exact ⟨((v7), ⟨v8.1, v8.2⟩, (v9)), Aa, W⟩
  have H := AM (Bg hb) H
  rw [hb] at F
  clear hb
  refine Aq (AK ?_)
  have H := AW H
  subst H
  refine FV (.inr Aa) F Aa ?_
  have W := W.frontZ (i := 2) Aa Aa
  have W := W.frontZ (i := 2) Aa Aa
  have W := W.frontZ (i := 2) Aa Aa
  have W := W.sub (M' := [(q_p0, [v1, .map (some m_v2), v3])]) (Z' := [Bj v1 78 BO d_v1.1, row v3 3 (Rp.int .i64) p0.2.2, mp m_v2 Bw Bw p0.2.1]) (List.Sublist.cons_cons _ (List.nil_sublist _)) (List.Sublist.refl _)
  exact ⟨((v1), ⟨d_v1.1, d_v1.2⟩, (v3)), Aa, W⟩
 have H := AM (by rw [hb]; decide) H
 rw [hb] at F
 clear hb
 refine Aq (AK ?_)
 have H := AW H
 subst H
 refine FV (.inr Aa) F Aa ?_
 have W := W.frontZ (i := 2) Aa Aa
 have W := W.frontZ (i := 2) Aa Aa
 have W := W.frontZ (i := 2) Aa Aa
 have W := W.frontM (i := 1) Aa Aa
 have W := W.sub (M' := [(q_p0, [v1, .map (some m_v2), v3])]) (Z' := [Bj v1 78 BO d_v1.1, row v3 3 (Rp.int .i64) p0.2.2, mp m_v2 Bw Bw p0.2.1]) (List.Sublist.cons_cons _ (List.nil_sublist _)) (List.Sublist.refl _)
 exact ⟨((v1), ⟨d_v1.1, d_v1.2⟩, (v3)), Aa, W⟩
theorem QC : Has Try.prog 43 := ⟨fun args w => Am Try.func43 rfl (by decide) args w⟩
noncomputable def C0 (p0 : List (Int × Int × Int × Int × Int × Int)) : (Int × (List (Int × Int × Int × Int × (Nat × List Int) × Int × Int × Int)) × List Int × (List (Int × Int))) → Option ((Int × (List (Int × Int × Int × Int × (Nat × List Int) × Int × Int × Int)) × List Int × (List (Int × Int))) ⊕ ((List (Int × Int × Int × Int × (Nat × List Int) × Int × Int × Int)) × List Int × (List (Int × Int))))
  | (x4, x5, x6, x7) => (if x4 < (p0.length : Int) then (ix p0 x4).bind fun x8 => (Cp (x5, x7, x6) x8).bind fun x9 => some (.inl (DH (x4 + 1), x9.1, x9.2.2, x9.2.1)) else some (.inr (x5, x6, x7)))
noncomputable def E3 (p0 : List (Int × Int × Int × Int × Int × Int)) : Option (List (Int × Int × Int × Int × List Int × Int × Int × Int)) := (AQ (C0 p0) (0, [], [], ([] : List (Int × Int)))).bind fun (x1, x2, x3) => (Gf Lp x1).bind fun x10 => some x10
theorem Ku (Y : Nat → Prop) (w0 : World) (v1 : Value) (p0 : List (Int × Int × Int × Int × Int × Int)) (r : (List (Int × Int × Int × Int × List Int × Int × Int × Int))) (H : E3 p0 = some r) (h_v1 : Sl w0 (NX []) DB v1 p0) :
    Calls Try.prog 29 #[v1] w0 fun e w' => ∃ x : Value, e = .returned (x) ∧ Stw ⟨Y, [], w0⟩ [] [row (x) 78 Is r] w' := by
 refine enter Try.func29 Aa Try.ntmps29 Aa fun a F => ?_
 have W := Stw.start Y w0
 unfold E3 at H
 refine Ai (Ac ?_)
 refine ls F W Aa (Ah F Aa).q fun a w F W => ?_
 refine Ad (Ab (Ai (Ac ?_)))
 refine Gh Bw Bw F W Aa fun b1 a w F W => ?_
 have W : Stw ⟨Y, [], w0⟩ [] [mp b1 Bw Bw ([] : List (Int × Int))] w := W
 refine ls F W Aa (BA (v := Value.agg #[.slice none 0 0, .map (some b1), .slice none 0 0]) Pz F Aa Aa Aa).q fun a w F W => ?_
 refine B1 (cs := [.slice none 0 0, .map none, .slice none 0 0]) F W Aa P5 Aa fun b2 a w F W => ?_
 refine BM (vs := [.slice none 0 0, .map (some b1), .slice none 0 0]) (M' := [(b2, [.slice none 0 0, .map (some b1), .slice none 0 0])]) 0 F W Aa Aa Aa P6 Aa Aa Aa Aa Aa fun w W => ?_
 refine Ad (Ab ?_)
 obtain ⟨o1, G1, K1⟩ := Ao H
 refine AH (fun a w => ∃ x1 : List (Int × Int × Int × Int × (Nat × List Int) × Int × Int × Int), ∃ x2 : List Int, ∃ x3 : List (Int × Int), ∃ v2 : Value, ∃ g_x1 : {x : List (Int × Int × Int × Int × (Value × Nat × List Int) × Int × Int × Int) // x.map Cx = x1}, ∃ v3 : Value, some ((x1, x2, x3)) = some o1 ∧ Fr 19 [] [(2, .slice none 0 0), (3, .pointer (some ⟨b2, 0, none⟩))] a ∧ Stw ⟨Y, [], w0⟩ [(b2, [v2, .map (some b1), v3])] [Bj v2 78 BO g_x1.1, row v3 3 (Rp.int .i64) x2, mp b1 Bw Bw x3] w) ?_ ?_
 ·
  have H := G1
  clear G1 K1
  refine Ai (Ac ?_)
  refine ls F W Aa (Ae F Aa).q fun a w F W => ?_
  refine ls F W Aa (A7 (r := DB) (l := p0) ME Aa F Aa (Aj h_v1)).q fun a w F W => ?_
  refine ls F W Aa (Ae F Aa).q fun a w F W => ?_
  refine Ad (Ab (Aw ?_))
  have W := W.dNil 78 BO
  have h1 : List.map Cx ([] : List (Int × Int × Int × Int × (Value × Nat × List Int) × Int × Int × Int)) = ([] : List (Int × Int × Int × Int × (Nat × List Int) × Int × Int × Int)) := Aa
  have W := W.nilRow 3 (Rp.int .i64)
  have W := W.frontZ (i := 2) Aa Aa
  have W := W.frontZ (i := 1) Aa Aa
  have W := W.frontZ (i := 2) Aa Aa
  refine Bv H (fun s a w => ∃ v4 : Value, ∃ g_x5 : {x : List (Int × Int × Int × Int × (Value × Nat × List Int) × Int × Int × Int) // x.map Cx = s.2.1}, ∃ v5 : Value, Fr 19 [] [(2, .slice none 0 0), (3, .pointer (some ⟨b2, 0, none⟩)), (8, v1), (9, .int .i64 (p0.length : Int)), (10, .int .i64 s.1)] a ∧ Stw ⟨Y, [], w0⟩ [(b2, [v4, .map (some b1), v5])] [Bj v4 78 BO g_x5.1, row v5 3 (Rp.int .i64) s.2.2.1, mp b1 Bw Bw s.2.2.2] w) ⟨(Value.slice none 0 0), ⟨([] : List (Int × Int × Int × Int × (Value × Nat × List Int) × Int × Int × Int)), h1⟩, (Value.slice none 0 0), F.re ⟨rfl, Aa, Aa, Aa, Aa, trivial⟩, W⟩ fun s o a w H L2 hR => ?_
  obtain ⟨x4, x5, x6, x7⟩ := s
  obtain ⟨v4, g_x5, v5, F, W⟩ := hR
  have F : Fr 19 [] [(2, .slice none 0 0), (3, .pointer (some ⟨b2, 0, none⟩)), (8, v1), (9, .int .i64 (p0.length : Int)), (10, .int .i64 x4)] a := F
  have W : Stw ⟨Y, [], w0⟩ [(b2, [v4, .map (some b1), v5])] [Bj v4 78 BO g_x5.1, row v5 3 (Rp.int .i64) x6, mp b1 Bw Bw x7] w := W
  rw [C0] at H
  refine Ai (Ac ?_)
  refine ls F W Aa (Bq F Aa Aa).q fun a w F W => ?_
  refine Ad (Ab (Ai ?_))
  refine Ay F Aa (fun hb => ?_) fun hb => ?_
  ·
   have H := AN (Bf hb) H
   rw [hb] at F
   clear hb
   refine Aq (Ab (Ai (Aw (Ai (Ac ?_)))))
   obtain ⟨x8, h2, H⟩ := Ao H
   refine ls F W Aa (AJ (r := DB) KY F Aa Aa (Aj h_v1) h2).q fun a w F W => ?_
   refine ls F W Aa (Az (y := Value.agg #[.int .i64 x8.1, .int .i64 x8.2.1, .int .i64 x8.2.2.1, .int .i64 x8.2.2.2.1, .int .i64 x8.2.2.2.2.1, .int .i64 x8.2.2.2.2.2]) (j := 0) (i := x4) F Aa Aa (Aj h_v1) h2 MG.to Mo Aa).q fun a w F W => ?_
   refine B1 (cs := [.int .i64 0, .int .i64 0, .int .i64 0, .int .i64 0, .int .i64 0, .int .i64 0]) F W Aa NC Aa fun b3 a w F W => ?_
   refine BM (vs := [.int .i64 x8.1, .int .i64 x8.2.1, .int .i64 x8.2.2.1, .int .i64 x8.2.2.2.1, .int .i64 x8.2.2.2.2.1, .int .i64 x8.2.2.2.2.2]) (M' := [(b3, [.int .i64 x8.1, .int .i64 x8.2.1, .int .i64 x8.2.2.1, .int .i64 x8.2.2.2.1, .int .i64 x8.2.2.2.2.1, .int .i64 x8.2.2.2.2.2]), (b2, [v4, .map (some b1), v5])]) 0 F W Aa Aa Aa Mo Aa Aa Aa Aa Aa fun w W => ?_
   refine Ad (Ab (Ac ?_))
   refine ls F W Aa (Al (v := Value.agg #[.int .i64 x8.1, .int .i64 x8.2.1, .int .i64 x8.2.2.1, .int .i64 x8.2.2.2.1, .int .i64 x8.2.2.2.2.1, .int .i64 x8.2.2.2.2.2]) 0 F Aa Aa Mo Aa).q fun a w F W => ?_
   obtain ⟨x9, h3, H⟩ := Ao H
   have W := W.frontZ (i := 2) Aa Aa
   have W := W.frontZ (i := 2) Aa Aa
   have W := W.frontZ (i := 2) Aa Aa
   have W := W.frontM (i := 1) Aa Aa
   refine Cf (Ml := [(b2, [v4, .map (some b1), v5])]) (Zl := [Bj v4 78 BO g_x5.1, row v5 3 (Rp.int .i64) x6, mp b1 Bw Bw x7]) (M := [(b3, [.int .i64 x8.1, .int .i64 x8.2.1, .int .i64 x8.2.2.1, .int .i64 x8.2.2.2.1, .int .i64 x8.2.2.2.2.1, .int .i64 x8.2.2.2.2.2])]) (Z := []) (β := Value × ({x : List (Int × Int × Int × Int × (Value × Nat × List Int) × Int × Int × Int) // x.map Cx = x9.1}) × Value) (rv := fun x => .tuple #[]) (MM := fun x => [(b2, [x.1, .map (some b1), x.2.2])]) (ZZ := fun x => [Bj x.1 78 BO x.2.1.1, row x.2.2 3 (Rp.int .i64) x9.2.2, mp b1 Bw Bw x9.2.1]) F W QC Aa Aa (fun hL => GZ _ _ w b2 (v4) b1 (v5) (x5, x7, x6) x8 ⟨g_x5.1, g_x5.2⟩ _ h3 hL) fun x a w F W => ?_
   obtain ⟨v6, v7, v8⟩ := x
   have W : Stw ⟨Y, [], w0⟩ [(b2, [v6, .map (some b1), v8]), (b3, [.int .i64 x8.1, .int .i64 x8.2.1, .int .i64 x8.2.2.1, .int .i64 x8.2.2.2.1, .int .i64 x8.2.2.2.2.1, .int .i64 x8.2.2.2.2.2])] [Bj v6 78 BO v7.1, row v8 3 (Rp.int .i64) x9.2.2, mp b1 Bw Bw x9.2.1] w := W
   refine Ad (AK (Ab (Ac ?_)))
   refine ls F W Aa (Cq F Aa Aa Aa).q fun a w F W => ?_
   refine ls F W Aa (Ae F Aa).q fun a w F W => ?_
   refine Ad (Ab ?_)
   have W := W.frontZ (i := 2) Aa Aa
   have W := W.frontZ (i := 2) Aa Aa
   have W := W.frontZ (i := 2) Aa Aa
   have W := W.sub (M' := [(b2, [v6, .map (some b1), v8])]) (Z' := [Bj v6 78 BO v7.1, row v8 3 (Rp.int .i64) x9.2.2, mp b1 Bw Bw x9.2.1]) (List.Sublist.cons_cons _ (List.nil_sublist _)) (List.Sublist.refl _)
   exact ⟨_, H, (v6), ⟨v7.1, v7.2⟩, (v8), F.re ⟨rfl, Aa, Aa, Aa, Aa, trivial⟩, W⟩
  have H := AM (Bg hb) H
  rw [hb] at F
  clear hb
  refine Bk ?_
  iterate 2 refine BJ ?_
  refine Bl (Ab ?_)
  have W := W.frontZ (i := 2) Aa Aa
  have W := W.frontZ (i := 2) Aa Aa
  have W := W.frontZ (i := 2) Aa Aa
  have H := L2 _ H
  exact ⟨_, _, _, (v4), ⟨g_x5.1, g_x5.2⟩, (v5), H, F.re ⟨rfl, Aa, trivial⟩, W⟩
 rintro a w ⟨x1, x2, x3, v2, g_x1, v3, hj, F, W⟩
 have hj := AW hj
 subst hj
 have H := K1
 clear G1 K1
 refine Ai (Ac ?_)
 refine ls F W Aa (Ag HT Aa Aa Aa MT F Aa 0 Aa).q fun a w F W => ?_
 refine ls F W Aa (Al (v := v2) 0 F Aa Aa MT Aa).q fun a w F W => ?_
 refine ls F W Aa (Ah F Aa).q fun a w F W => ?_
 refine Ad (Ab (AA ?_))
 obtain ⟨x10, h4, H⟩ := Ao H
 have H := AW H
 subst H
 refine A8 (.inl Aa) F W Aa (Ap F Aa) ?_
 have W := Stw.ddRest O5 g_x1.2 h4 W
 have W := W.sub (M' := []) (Z' := [row v2 78 Is x10]) (List.nil_sublist _) (List.Sublist.cons_cons _ (List.nil_sublist _))
 exact ⟨(v2), Aa, W⟩
theorem NJ : type_of% Try.underlying100 := Try.underlying100
theorem OJ : type_of% Try.underlying101 := Try.underlying101
theorem P2 : Has Try.prog 29 := ⟨fun args w => Am Try.func29 rfl (by decide) args w⟩
abbrev Ny : Rp (Int × Int × Int × Int × (Value × List Int) × Int × Int × Int) := (Rp.pair (Rp.int .i64) (Rp.pair (Rp.int .i64) (Rp.pair (Rp.int .i64) (Rp.pair (Rp.int .i64) (Rp.pair (Rp.vsl (Rp.int .i64)) (Rp.pair (Rp.int .i64) (Rp.pair (Rp.int .i64) (Rp.int .i64))))))))
abbrev OW (p : Int × Int × Int × Int × (Value × List Int) × Int × Int × Int) : Int × Int × Int × Int × List Int × Int × Int × Int := (p.1, p.2.1, p.2.2.1, p.2.2.2.1, p.2.2.2.2.1.2, p.2.2.2.2.2.1, p.2.2.2.2.2.2.1, p.2.2.2.2.2.2.2)
theorem NM : Ex Is Ny OW := (Ex.pair Ex.rfl' (Ex.pair Ex.rfl' (Ex.pair Ex.rfl' (Ex.pair Ex.rfl' (Ex.pair Ex.sliceF (Ex.pair Ex.rfl' (Ex.pair Ex.rfl' Ex.rfl')))))))
abbrev NY (a : Int × Int × Int × Int × (Value × List Int) × Int × Int × Int) : List Value := [.int .i64 a.1, .int .i64 a.2.1, .int .i64 a.2.2.1, .int .i64 a.2.2.2.1, a.2.2.2.2.1.1, .int .i64 a.2.2.2.2.2.1, .int .i64 a.2.2.2.2.2.2.1, .int .i64 a.2.2.2.2.2.2.2]
theorem OZ : E8 Ny NY := (E8.pair Fl.int.to (E8.pair Fl.int.to (E8.pair Fl.int.to (E8.pair Fl.int.to (E8.pair E8.vsl (E8.pair Fl.int.to (E8.pair Fl.int.to Fl.int.to)))))))
theorem ON : Ty Try.prog 78 true 8 := ⟨by kernel_rfl, by kernel_rfl⟩
abbrev DA (x : Unit) : Value := .agg #[]
theorem Ou : Bt Try.prog 101 [] [] := ⟨⟨.agg #[], by kernel_rfl, rfl⟩, ⟨_, OJ, fun w => by kernel_rfl⟩⟩
noncomputable def Ck (p0 : Int × Int × Int × Int × List Int × Int × Int × Int) : (Int × (List (Int × Unit))) → Option ((Int × (List (Int × Unit))) ⊕ (List (Int × Unit)))
  | (x2, x3) => (if x2 < (p0.2.2.2.2.1.length : Int) then (ix p0.2.2.2.2.1 x2).bind fun x4 => some (.inl (DH (x2 + 1), CY x3 x4 ())) else some (.inr x3))
noncomputable def C3 (p0 : Int × Int × Int × Int × List Int × Int × Int × Int) : Option Bool := (AQ (Ck p0) (0, ([] : List (Int × Unit)))).bind fun x1 => some (decide ((x1.length : Int) < (p0.2.2.2.2.1.length : Int)))
theorem IM (Y : Nat → Prop) (w0 : World) (v1 : Value) (p0 : Int × Int × Int × Int × List Int × Int × Int × Int) (r : Bool) (H : C3 p0 = some r) (h_v1 : Sl w0 (NX []) (Rp.int .i64) v1 p0.2.2.2.2.1) :
    Calls Try.prog 30 #[.agg #[.int .i64 p0.1, .int .i64 p0.2.1, .int .i64 p0.2.2.1, .int .i64 p0.2.2.2.1, v1, .int .i64 p0.2.2.2.2.2.1, .int .i64 p0.2.2.2.2.2.2.1, .int .i64 p0.2.2.2.2.2.2.2]] w0 fun e w' => e = .returned (.bool r) ∧ Below w0.heap.size w0 w' := by
 refine enter Try.func30 Aa Try.ntmps30 Aa fun a F => ?_
 have W := Stw.start Y w0
 unfold C3 at H
 refine Ai (Ac ?_)
 refine B9 (cs := [.int .i64 p0.1, .int .i64 p0.2.1, .int .i64 p0.2.2.1, .int .i64 p0.2.2.2.1, v1, .int .i64 p0.2.2.2.2.2.1, .int .i64 p0.2.2.2.2.2.2.1, .int .i64 p0.2.2.2.2.2.2.2]) F W Aa Aa Aa fun b1 a w F W => ?_
 refine ls F W Aa (Ah F Aa).q fun a w F W => ?_
 refine Ad (Ab (Ai (Ac ?_)))
 refine Gh Bw DA F W Aa fun b2 a w F W => ?_
 have W : Stw ⟨Y, [], w0⟩ [(b1, [.int .i64 p0.1, .int .i64 p0.2.1, .int .i64 p0.2.2.1, .int .i64 p0.2.2.2.1, v1, .int .i64 p0.2.2.2.2.2.1, .int .i64 p0.2.2.2.2.2.2.1, .int .i64 p0.2.2.2.2.2.2.2])] [mp b2 Bw DA ([] : List (Int × Unit))] w := W
 refine ls F W Aa (Ah F Aa).q fun a w F W => ?_
 refine Ad (Ab ?_)
 obtain ⟨o1, G1, K1⟩ := Ao H
 refine AH (fun a w => ∃ x1 : List (Int × Unit), some (x1) = some o1 ∧ Fr 24 [] [(1, .pointer (some ⟨b1, 0, none⟩)), (2, .bool false), (3, .map (some b2))] a ∧ Stw ⟨Y, [], w0⟩ [(b1, [.int .i64 p0.1, .int .i64 p0.2.1, .int .i64 p0.2.2.1, .int .i64 p0.2.2.2.1, v1, .int .i64 p0.2.2.2.2.2.1, .int .i64 p0.2.2.2.2.2.2.1, .int .i64 p0.2.2.2.2.2.2.2])] [mp b2 Bw DA x1] w) ?_ ?_
 ·
  have H := G1
  clear G1 K1
  refine Ai (Ac ?_)
  refine ls F W Aa (Ag Ew Aa Aa Aa FZ F Aa 4 Aa).q fun a w F W => ?_
  refine ls F W Aa (Al (v := v1) 0 F Aa Aa FZ Aa).q fun a w F W => ?_
  refine ls F W Aa (A7 (r := (Rp.int .i64)) (l := p0.2.2.2.2.1) Fq Aa F Aa (Aj h_v1)).q fun a w F W => ?_
  refine ls F W Aa (Ae F Aa).q fun a w F W => ?_
  refine Ad (Ab (Aw ?_))
  refine Bv H (fun s a w => Fr 24 [] [(1, .pointer (some ⟨b1, 0, none⟩)), (2, .bool false), (3, .map (some b2)), (8, v1), (9, .int .i64 (p0.2.2.2.2.1.length : Int)), (10, .int .i64 s.1)] a ∧ Stw ⟨Y, [], w0⟩ [(b1, [.int .i64 p0.1, .int .i64 p0.2.1, .int .i64 p0.2.2.1, .int .i64 p0.2.2.2.1, v1, .int .i64 p0.2.2.2.2.2.1, .int .i64 p0.2.2.2.2.2.2.1, .int .i64 p0.2.2.2.2.2.2.2])] [mp b2 Bw DA s.2] w) ⟨F.re ⟨rfl, Aa, Aa, Aa, Aa, Aa, trivial⟩, W⟩ fun s o a w H L2 hR => ?_
  obtain ⟨x2, x3⟩ := s
  obtain ⟨F, W⟩ := hR
  have F : Fr 24 [] [(1, .pointer (some ⟨b1, 0, none⟩)), (2, .bool false), (3, .map (some b2)), (8, v1), (9, .int .i64 (p0.2.2.2.2.1.length : Int)), (10, .int .i64 x2)] a := F
  have W : Stw ⟨Y, [], w0⟩ [(b1, [.int .i64 p0.1, .int .i64 p0.2.1, .int .i64 p0.2.2.1, .int .i64 p0.2.2.2.1, v1, .int .i64 p0.2.2.2.2.2.1, .int .i64 p0.2.2.2.2.2.2.1, .int .i64 p0.2.2.2.2.2.2.2])] [mp b2 Bw DA x3] w := W
  rw [Ck] at H
  refine Ai (Ac ?_)
  refine ls F W Aa (Bq F Aa Aa).q fun a w F W => ?_
  refine Ad (Ab (Ai ?_))
  refine Ay F Aa (fun hb => ?_) fun hb => ?_
  ·
   have H := AN (Bf hb) H
   rw [hb] at F
   clear hb
   refine Aq (Ab (Ai (Aw (Ai (Ac ?_)))))
   obtain ⟨x4, h1, H⟩ := Ao H
   refine ls F W Aa (AJ (r := (Rp.int .i64)) HV F Aa Aa (Aj h_v1) h1).q fun a w F W => ?_
   refine ls F W Aa (Az (y := Value.int .i64 x4) (j := 0) (i := x2) F Aa Aa (Aj h_v1) h1 Fl.int.to T3 Aa).q fun a w F W => ?_
   refine ls F W Aa (Ah F Aa).q fun a w F W => ?_
   refine Ad (Ab (Ac ?_))
   iterate 2 refine ls F W Aa (Ae F Aa).q fun a w F W => ?_
   refine ls F W Aa (BA (v := Value.agg #[]) Ou F Aa Aa Aa).q fun a w F W => ?_
   refine F3 (q := 0) (kx := (x4 : Int)) (vx := (() : Unit)) (E := Bw) (V := DA) F W Aa Aa Aa Aa Aa Oi NJ fun w W => ?_
   have W : Stw ⟨Y, [], w0⟩ [(b1, [.int .i64 p0.1, .int .i64 p0.2.1, .int .i64 p0.2.2.1, .int .i64 p0.2.2.2.1, v1, .int .i64 p0.2.2.2.2.2.1, .int .i64 p0.2.2.2.2.2.2.1, .int .i64 p0.2.2.2.2.2.2.2])] [mp b2 Bw DA (CY x3 x4 ())] w := W
   refine Ad (AK (Ab (Ac ?_)))
   refine ls F W Aa (Cq F Aa Aa Aa).q fun a w F W => ?_
   refine ls F W Aa (Ae F Aa).q fun a w F W => ?_
   refine Ad (Ab ?_)
   exact ⟨_, H, F.re ⟨rfl, Aa, Aa, Aa, Aa, Aa, trivial⟩, W⟩
  have H := AM (Bg hb) H
  rw [hb] at F
  clear hb
  refine Bk ?_
  iterate 2 refine BJ ?_
  refine Bl (Ab ?_)
  have H := L2 _ H
  exact ⟨_, H, F.re ⟨rfl, Aa, Aa, trivial⟩, W⟩
 rintro a w ⟨x1, hj, F, W⟩
 have hj := AW hj
 subst hj
 have H := K1
 clear G1 K1
 refine Ai (Ac ?_)
 refine ls F W Aa (Ae F Aa).q fun a w F W => ?_
 refine ls F W Aa (Mx (q := 0) (E := Bw) (V := DA) F Aa Aa Aa NJ).q fun a w F W => ?_
 refine ls F W Aa (Ag Ew Aa Aa Aa FZ F Aa 4 Aa).q fun a w F W => ?_
 refine ls F W Aa (Al (v := v1) 0 F Aa Aa FZ Aa).q fun a w F W => ?_
 refine ls F W Aa (A7 (r := (Rp.int .i64)) (l := p0.2.2.2.2.1) Fq Aa F Aa (Aj h_v1)).q fun a w F W => ?_
 refine ls F W Aa (Bq F Aa Aa).q fun a w F W => ?_
 refine ls F W Aa (Ah F Aa).q fun a w F W => ?_
 refine Ad (Ab (AA ?_))
 have H := AW H
 subst H
 refine A8 (.inl Aa) F W Aa (Ap F Aa) ?_
 exact ⟨rfl, W.done⟩
theorem Kw : type_of% Try.underlying40 := Try.underlying40
theorem OG : type_of% Try.underlying45 := Try.underlying45
theorem Qx : Has Try.prog 30 := ⟨fun args w => Am Try.func30 rfl (by decide) args w⟩
theorem Oe : Bt Try.prog 45 [.int .i64 0, .int .i64 0] [(0, 1), (1, 1)] := ⟨⟨.agg #[.int .i64 0, .int .i64 0], by kernel_rfl, rfl⟩, ⟨_, OG, fun w => by kernel_rfl⟩⟩
theorem OQ : (Try.prog.info? 45).bind (·.zero) = some (.agg #[.int .i64 0, .int .i64 0]) := by kernel_rfl
abbrev Dv : Rp (Int × Int) := (Rp.pair (Rp.int .i64) (Rp.int .i64))
def Ql (a : Int × Int) : List Value := [.int .i64 a.1, .int .i64 a.2]
theorem Oj : Fl Dv Ql := (Fl.pair Fl.int Fl.int)
theorem MV : Et Try.prog 40 45 2 16 := Et.of Kw (by kernel_rfl) (by kernel_rfl) (by kernel_rfl) (by decide)
def Bh (p0 : Int × Int × Int) (p1 : Int) : Bool := (decide (p0.2.1 ≤ p1) && decide (p1 ≤ p0.2.2))
theorem EK (Y : Nat → Prop) (w0 : World) (q_p1 : Nat) (p0 : Int × Int × Int) (p1 : Int) (r : Bool) (H : Bh p0 p1 = r) (a_q_p1 : At ⟨Y, [], w0⟩ q_p1 0 [.int .i64 p1]) :
    Calls Try.prog 41 #[.agg #[.int .i64 p0.1, .int .i64 p0.2.1, .int .i64 p0.2.2], .pointer (some ⟨q_p1, 0, none⟩)] w0 fun e w' => e = .returned (.bool r) ∧ Below w0.heap.size w0 w' := by
 refine enter Try.func41 Aa Try.ntmps41 Aa fun a F => ?_
 have W := Stw.start Y w0
 unfold Bh at H
 refine Ai (Ac ?_)
 refine B9 (cs := [.int .i64 p0.1, .int .i64 p0.2.1, .int .i64 p0.2.2]) F W Aa Aa Aa fun b1 a w F W => ?_
 refine ls F W Aa (Ah F Aa).q fun a w F W => ?_
 refine Ad (Ab ?_)
 refine AH (fun a w => Fr 14 [] [(3, .bool (decide (p0.2.1 ≤ p1) && decide (p1 ≤ p0.2.2)))] a ∧ Stw ⟨Y, [], w0⟩ [(b1, [.int .i64 p0.1, .int .i64 p0.2.1, .int .i64 p0.2.2])] [] w) ?_ ?_
 ·
  refine Ac ?_
  refine ls F W Aa (Ag Lu Aa Aa Aa T3 F Aa 1 Aa).q fun a w F W => ?_
  refine ls F W Aa (Al (v := Value.int .i64 p0.2.1) 0 F Aa Aa T3 Aa).q fun a w F W => ?_
  refine ls F W Aa (I6 (y := Value.int .i64 p1) (j := 0) F Aa (Nat.zero_add _).symm a_q_p1 T3 Aa).q fun a w F W => ?_
  refine ls F W Aa (Id F Aa Aa).q fun a w F W => ?_
  refine ls F W Aa (Ae F Aa).q fun a w F W => ?_
  rcases Bool.eq_false_or_eq_true (decide (p0.2.1 ≤ p1)) with hb0 | hb0
  ·
   rw [hb0] at F
   refine Au F W (Af F Aa Aa Aa Aa) Aa (Ak Aa) (I6 (y := Value.int .i64 p1) (j := 0) F Aa (Nat.zero_add _).symm a_q_p1 T3 Aa).q fun a w F W => ?_
   refine Au F W (Af F Aa Aa Aa Aa) Aa (Ak Aa) (Ag Lu Aa Aa Aa T3 F Aa 2 Aa).q fun a w F W => ?_
   refine Au F W (Af F Aa Aa Aa Aa) Aa (Ak Aa) (Al (v := Value.int .i64 p0.2.2) 0 F Aa Aa T3 Aa).q fun a w F W => ?_
   refine Au F W (Af F Aa Aa Aa Aa) Aa (Ak Aa) (Id F Aa Aa).q fun a w F W => ?_
   refine ls F W Aa (An F Aa Aa Aa).q fun a w F W => ?_
   refine ls F W Aa (Ah F Aa).q fun a w F W => ?_
   refine Ad (Ab ?_)
   exact ⟨F.re ⟨(by show some (Value.bool (decide (p1 ≤ p0.2.2))) = some (Value.bool (decide (p0.2.1 ≤ p1) && decide (p1 ≤ p0.2.2))); try rw [hb0]; all_goals simp only [Bool.not_true, Bool.not_false, Bool.true_and, Bool.false_and, Bool.true_or, Bool.false_or, Bool.and_true, Bool.or_false, cond_true, cond_false]), trivial⟩, W⟩
  rw [hb0] at F
  iterate 4 refine BW F Aa Aa Aa Aa Aa Aa Aa fun a F => ?_
  refine ls F W Aa (As F Aa Aa Aa).q fun a w F W => ?_
  refine ls F W Aa (Ah F Aa).q fun a w F W => ?_
  refine Ad (Ab ?_)
  exact ⟨F.re ⟨(by show some (Value.bool false) = some (Value.bool (decide (p0.2.1 ≤ p1) && decide (p1 ≤ p0.2.2))); try rw [hb0]; all_goals simp only [Bool.not_true, Bool.not_false, Bool.true_and, Bool.false_and, Bool.true_or, Bool.false_or, Bool.and_true, Bool.or_false, cond_true, cond_false]), trivial⟩, W⟩
 rintro a w ⟨F, W⟩
 refine AA ?_
 subst H
 refine A8 (.inl Aa) F W Aa (Ap F Aa) ?_
 exact ⟨rfl, W.done⟩
theorem PE : Has Try.prog 41 := ⟨fun args w => Am Try.func41 rfl (by decide) args w⟩
noncomputable def Av (p0 : List (Int × Int × Int)) (p1c0 : Int) : Int → Option (Int ⊕ (Unit ⊕ Int))
  | x1 => (if x1 < (p0.length : Int) then (ix p0 x1).bind fun x2 => (if (Bh x2 p1c0) = true then some (.inr (.inr x1)) else some (.inl (DH (x1 + 1)))) else some (.inr (.inl ())))
noncomputable def AV (p0 : List (Int × Int × Int)) (p1c0 : Int) : Option Int := D7 (AQ (Av p0 p1c0) 0) fun _ => some (-1)
theorem C4 (Y : Nat → Prop) (w0 : World) (v1 : Value) (q_p1c0 : Nat) (p0 : List (Int × Int × Int)) (p1c0 : Int) (r : Int) (H : AV p0 p1c0 = some r) (h_v1 : Sl w0 (NX []) CW v1 p0) (a_q_p1c0 : At ⟨Y, [], w0⟩ q_p1c0 0 [.int .i64 p1c0]) :
    Calls Try.prog 49 #[v1, .func (.func 41) #[] #[.pointer (some ⟨q_p1c0, 0, none⟩)]] w0 fun e w' => e = .returned (.int .i64 r) ∧ Below w0.heap.size w0 w' := by
 refine enter Try.func49 Aa Try.ntmps49 Aa fun a F => ?_
 have W := Stw.start Y w0
 unfold AV at H
 refine Ai (Ac ?_)
 refine ls F W Aa (Ah F Aa).q fun a w F W => ?_
 refine Ad (Ab ?_)
 obtain ⟨o1, G1, K1, L1⟩ := IY H
 refine AH (fun a w => some (Sum.inl ()) = some o1 ∧ Fr 19 [] [(4, .int .i64 0)] a ∧ Stw ⟨Y, [], w0⟩ [] [] w) ?_ ?_
 ·
  have H := G1
  clear G1 K1
  refine Ai (Ac ?_)
  refine ls F W Aa (Ae F Aa).q fun a w F W => ?_
  refine ls F W Aa (A7 (r := CW) (l := p0) M6 Aa F Aa (Aj h_v1)).q fun a w F W => ?_
  refine ls F W Aa (Ae F Aa).q fun a w F W => ?_
  refine Ad (Ab (Aw ?_))
  refine Bv H (fun s a w => Fr 19 [] [(0, v1), (1, .func (.func 41) #[] #[.pointer (some ⟨q_p1c0, 0, none⟩)]), (4, .int .i64 0), (7, .int .i64 (p0.length : Int)), (8, .int .i64 s)] a ∧ Stw ⟨Y, [], w0⟩ [] [] w) ⟨F.re ⟨rfl, Aa, Aa, Aa, Aa, trivial⟩, W⟩ fun s o a w H L2 hR => ?_
  obtain ⟨x1, rfl⟩ : ∃ x, x = s := ⟨s, rfl⟩
  obtain ⟨F, W⟩ := hR
  have F : Fr 19 [] [(0, v1), (1, .func (.func 41) #[] #[.pointer (some ⟨q_p1c0, 0, none⟩)]), (4, .int .i64 0), (7, .int .i64 (p0.length : Int)), (8, .int .i64 x1)] a := F
  have W : Stw ⟨Y, [], w0⟩ [] [] w := W
  rw [Av] at H
  refine Ai (Ac ?_)
  refine ls F W Aa (Bq F Aa Aa).q fun a w F W => ?_
  refine Ad (Ab (Ai ?_))
  refine Ay F Aa (fun hb => ?_) fun hb => ?_
  ·
   have H := AN (Bf hb) H
   rw [hb] at F
   clear hb
   refine Aq (Ab (Ai (Aw (Ai (Ac ?_)))))
   refine ls F W Aa (Ae F Aa).q fun a w F W => ?_
   refine ls F W Aa (Ah F Aa).q fun a w F W => ?_
   refine Ad (Ab (Ai (Ac ?_)))
   iterate 3 refine ls F W Aa (Ae F Aa).q fun a w F W => ?_
   obtain ⟨x2, h1, H⟩ := Ao H
   refine ls F W Aa (AJ (r := CW) NL F Aa Aa (Aj h_v1) h1).q fun a w F W => ?_
   refine ls F W Aa (Az (y := Value.agg #[.int .i64 x2.1, .int .i64 x2.2.1, .int .i64 x2.2.2]) (j := 0) (i := x1) F Aa Aa (Aj h_v1) h1 NS.to Nr Aa).q fun a w F W => ?_
   refine ls F W Aa (Jt (ws := [.agg #[.int .i64 x2.1, .int .i64 x2.2.1, .int .i64 x2.2.2], .pointer (some ⟨q_p1c0, 0, none⟩)]) (v := Value.bool (Bh x2 p1c0)) F PE Aa (fun w W => EK any w q_p1c0 x2 p1c0 _ Aa (At.re a_q_p1c0 W))) fun a w F W => ?_
   refine Ad (Ab ?_)
   refine Ay F Aa (fun hb => ?_) fun hb => ?_
   ·
    have H := AN hb H
    rw [hb] at F
    clear hb
    refine Ai (Ac ?_)
    refine ls F W Aa (Ae F Aa).q fun a w F W => ?_
    refine ls F W Aa (Ah F Aa).q fun a w F W => ?_
    refine Ad (Ab (AA (AF ?_)))
    iterate 2 refine AD ?_
    refine AF (AD ?_)
    have H := L2 _ H
    have H := L1 _ H
    have H := AW H
    subst H
    refine A8 (.inl Aa) F W Aa (Ap F Aa) ?_
    exact ⟨rfl, W.done⟩
   have H := AM (by rw [hb]; decide) H
   rw [hb] at F
   clear hb
   refine Aq (AK (Ab (Ac ?_)))
   refine ls F W Aa (Cq F Aa Aa Aa).q fun a w F W => ?_
   refine ls F W Aa (Ae F Aa).q fun a w F W => ?_
   refine Ad (Ab ?_)
   exact ⟨_, H, F.re ⟨rfl, Aa, Aa, Aa, Aa, trivial⟩, W⟩
  have H := AM (Bg hb) H
  rw [hb] at F
  clear hb
  refine Bk ?_
  iterate 2 refine BJ ?_
  refine Bl (Ab ?_)
  have H := L2 _ H
  exact ⟨H, F.re ⟨rfl, trivial⟩, W⟩
 rintro a w ⟨hj, F, W⟩
 have H := K1 _ hj
 clear hj G1 K1 L1
 refine Ai (Ac ?_)
 refine ls F W Aa (Ah F Aa).q fun a w F W => ?_
 refine Ad (Ab (AA ?_))
 have H := AW H
 subst H
 refine A8 (.inl Aa) F W Aa (Ap F Aa) ?_
 exact ⟨rfl, W.done⟩
theorem Py : Has Try.prog 49 := ⟨fun args w => Am Try.func49 rfl (by decide) args w⟩
noncomputable def AL (p0 : List (Int × Int × Int)) (p1c0 : Int) : Option Bool := (AV p0 p1c0).bind fun x1 => some (decide (0 ≤ x1))
theorem CP (Y : Nat → Prop) (w0 : World) (v1 : Value) (q_p1c0 : Nat) (p0 : List (Int × Int × Int)) (p1c0 : Int) (r : Bool) (H : AL p0 p1c0 = some r) (h_v1 : Sl w0 (NX []) CW v1 p0) (a_q_p1c0 : At ⟨Y, [], w0⟩ q_p1c0 0 [.int .i64 p1c0]) :
    Calls Try.prog 40 #[v1, .func (.func 41) #[] #[.pointer (some ⟨q_p1c0, 0, none⟩)]] w0 fun e w' => e = .returned (.bool r) ∧ Below w0.heap.size w0 w' := by
 refine enter Try.func40 Aa Try.ntmps40 Aa fun a F => ?_
 have W := Stw.start Y w0
 unfold AL at H
 refine Ai (Ac ?_)
 refine ls F W Aa (Ah F Aa).q fun a w F W => ?_
 refine Ad (Ab (Ai (Ac ?_)))
 iterate 2 refine ls F W Aa (Ae F Aa).q fun a w F W => ?_
 obtain ⟨x1, h1, H⟩ := Ao H
 refine ls F W Aa (BI (v := Value.int .i64 x1) F Py Aa (fun w W => C4 any w (v1) q_p1c0 p0 p1c0 _ h1 (((Aj h_v1) : CZ _ _ _ _ _ _) w W).nx (At.re a_q_p1c0 W))) fun a w F W => ?_
 refine ls F W Aa (DC F Aa Aa).q fun a w F W => ?_
 refine ls F W Aa (Ah F Aa).q fun a w F W => ?_
 refine Ad (Ab (AA ?_))
 have H := AW H
 subst H
 refine A8 (.inl Aa) F W Aa (Ap F Aa) ?_
 exact ⟨rfl, W.done⟩
theorem Qp : Has Try.prog 40 := ⟨fun args w => Am Try.func40 rfl (by decide) args w⟩
noncomputable def Be (p0 : (List (Int × Int × Int)) × (List (Int × Int))) (p1 : Int) : Option Bool := (AL p0.1 p1).bind fun x1 => some x1
theorem E9 (Y : Nat → Prop) (w0 : World) (v1 : Value) (v2 : Value) (p0 : (List (Int × Int × Int)) × (List (Int × Int))) (p1 : Int) (r : Bool) (H : Be p0 p1 = some r) (h_v1 : Sl w0 (NX []) CW v1 p0.1) (h_v2 : Sl w0 (NX []) EZ v2 p0.2) :
    Calls Try.prog 27 #[.agg #[v1, v2], .int .i64 p1] w0 fun e w' => e = .returned (.bool r) ∧ Below w0.heap.size w0 w' := by
 refine enter Try.func27 Aa Try.ntmps27 Aa fun a F => ?_
 have W := Stw.start Y w0
 unfold Be at H
 refine Ai (Ac ?_)
 refine B9 (cs := [v1, v2]) F W Aa Aa Aa fun b1 a w F W => ?_
 refine B9 (cs := [.int .i64 p1]) F W Aa Aa Aa fun b2 a w F W => ?_
 refine ls F W Aa (Ah F Aa).q fun a w F W => ?_
 refine Ad (Ab (Ai (Ac ?_)))
 refine ls F W Aa (Ag LI Aa Aa Aa NG F Aa 0 Aa).q fun a w F W => ?_
 refine ls F W Aa (Al (v := v1) 1 F Aa Aa NG Aa).q fun a w F W => ?_
 refine ls F W Aa (GB (us := []) (vs := [.pointer (some ⟨b2, 0, none⟩)]) F Aa Aa).q fun a w F W => ?_
 obtain ⟨x1, h1, H⟩ := Ao H
 refine ls F W Aa (BI (v := Value.bool x1) F Qp Aa (fun w W => CP any w (v1) b2 p0.1 p1 _ h1 (((Aj h_v1) : CZ _ _ _ _ _ _) w W).nx (OU W 0 Aa))) fun a w F W => ?_
 refine ls F W Aa (Ah F Aa).q fun a w F W => ?_
 refine Ad (Ab (AA ?_))
 have H := AW H
 subst H
 refine A8 (.inl Aa) F W Aa (Ap F Aa) ?_
 exact ⟨rfl, W.done⟩
theorem Qg : Has Try.prog 27 := ⟨fun args w => Am Try.func27 rfl (by decide) args w⟩
theorem Pc (Y : Nat → Prop) (w0 : World) (v : Value) (h1 : v.oneCell' = true) : Calls Try.prog 42 [v].toArray w0 fun e w' => ∃ b, e = .returned (.func (.func 50) #[] #[.pointer (some ⟨b, 0, none⟩)]) ∧ Stw ⟨Y, [], w0⟩ [(b, [v])] [] w' := by
 refine enter Try.func42 Aa Try.ntmps42 Aa fun a F => ?_
 have W := Stw.start Y w0
 refine Ai (Ac ?_)
 refine B9 (cs := [v]) F W Aa Aa (CG h1) fun b1 a w F W => ?_
 refine ls F W Aa (Ah F Aa).q fun a w F W => ?_
 refine Ad (Ab (Ai (Ac ?_)))
 refine ls F W Aa (GB (us := []) (vs := [.pointer (some ⟨b1, 0, none⟩)]) F Aa Aa).q fun a w F W => ?_
 refine ls F W Aa (Ah F Aa).q fun a w F W => ?_
 refine Ad (Ab (AA ?_))
 refine A8 (.inl Aa) F W Aa (Ap F Aa) ?_
 exact ⟨b1, Aa, W⟩
theorem Qi : Has Try.prog 42 := ⟨fun args w => Am Try.func42 rfl (by decide) args w⟩
theorem Ph : Ty Try.prog 91 true 2 := ⟨by kernel_rfl, by kernel_rfl⟩
theorem Qm (b : Nat) (v : Value) (l : List (Int × Int)) (hn : l.length ≤ 1000000000) :
    N5 Try.prog 50 [.pointer (some ⟨b, 0, none⟩)] (Og b v EZ l) (HJ l) (fun p => [.int .i64 p.1, Value.agg #[.int .i64 p.2.1, .int .i64 p.2.2]]) := by
 intro y K Kx w0 hB hR hY h0
 refine enter (args := [.func (.yield y) #[] #[], .pointer (some ⟨b, 0, none⟩)]) Try.func50 Aa Try.ntmps50 Aa fun a F => ?_
 refine Ai (Ac ?_)
 have W := Stw.start any w0
 have hr := hR _ _ h0
 refine ls F W Aa (HY (cs := [v]) (v := v) hr.1 (by simp) F Aa NK Aa).q fun a w F W => ?_
 refine ls F W Aa (A7 (r := EZ) (l := l) OA Aa F Aa (Aj hr.2.nx)).q fun a w F W => ?_
 refine ls F W Aa (HE (r := (l.length : Int) - 1) F Aa Aa (Js hn)).q fun a w F W => ?_
 refine ls F W Aa (Ah F Aa).q fun a w F W => ?_
 refine Ad (Ab ?_)
 have hK := hB _ _ _ h0 W.frm.below
 have F : Fr 19 [] [(0, .func (.yield y) #[] #[]), (1, .pointer (some ⟨b, 0, none⟩)), (3, .int .i64 ((l.length : Int) - 1))] a := F.re ⟨rfl, Aa, Aa, trivial⟩
 clear W hr h0
 have hl : l.take l.length = l := List.take_length
 rw [← hl] at hK
 refine Aw ?_
 refine Fs (fun m a w => m ≤ l.length ∧ Fr 19 [] [(0, .func (.yield y) #[] #[]), (1, .pointer (some ⟨b, 0, none⟩)), (3, .int .i64 ((m : Int) - 1))] a ∧ K (HJ (l.take m)) w) l.length ⟨Nat.le_refl _, F, hK⟩ ?_
 clear F hK w
 rintro m a w ⟨hm, F, hK⟩
 have W := Stw.start any w
 have hr := hR _ _ hK
 refine Ai (Ai (Ac ?_))
 refine ls F W Aa (Ae F Aa).q fun a w1 F W => ?_
 refine ls F W Aa (DC F Aa Aa).q fun a w1 F W => ?_
 refine Ad (Ab ?_)
 cases m with
 | zero =>
  refine GT F Aa ?_
  refine Bk ?_
  iterate 2 refine BJ ?_
  refine Bl ?_
  exact FV (.inr Aa) (F.re (F' := []) trivial) Aa ⟨⟨_, Aa⟩, .inl (hB _ _ _ hK W.frm.below)⟩
 | succ k =>
  refine GP F (by show some (Value.bool (decide ((0 : Int) ≤ (k + 1 : Nat) - 1))) = some (Value.bool true); rw [decide_eq_true (by omega)]) ?_
  have hk : k < l.length := hm
  have hx : ix l (k : Int) = some l[k] := by unfold ix; rw [if_pos (by omega)]; simp
  have hx2 : l[k]? = some l[k] := by simp
  have e1 : ((k + 1 : Nat) : Int) - 1 = k := by omega
  rw [e1] at F
  rw [Ha hx2] at hK
  refine Aq (Ab (Ai (Aw (Ai ?_))))
  refine Jb 6 (fun ⟨_, _, h⟩ => by obtain ⟨⟨_, h⟩, _⟩ := h; cases h) ?_
  iterate 2 refine ls F W Aa (Ae F Aa).q fun a w1 F W => ?_
  refine ls F W Aa (HY (cs := [v]) (v := v) hr.1 (by simp) F Aa NK Aa).q fun a w1 F W => ?_
  refine ls F W Aa (Ae F Aa).q fun a w1 F W => ?_
  refine ls F W Aa (AJ (r := EZ) O6 F Aa Aa (Aj hr.2.nx) hx).q fun a w1 F W => ?_
  refine ls F W Aa (Az (y := Value.agg #[.int .i64 ((l[k]).1), .int .i64 ((l[k]).2)]) (j := 0) (i := (k : Int)) F Aa Aa (Aj hr.2.nx) hx Pj.to Ph Aa).q fun a w1 F W => ?_
  refine Ad ?_
  have hK := hB _ _ _ hK W.frm.below
  refine KU (vs := [.int .i64 k, Value.agg #[.int .i64 ((l[k]).1), .int .i64 ((l[k]).2)]]) F Aa Aa Aa (hY _ _ _ hK) ?_
  rintro e w2 (⟨rfl, hK2⟩ | ⟨rfl, hx2⟩)
  · refine ⟨_, rfl, fun a F => ?_⟩
    refine JA F Aa Aa fun a F => ?_
    refine JK (Ab ?_)
    refine GT F Aa ?_
    refine Aq (AK (Ab (Ac ?_)))
    have W := Stw.start any w2
    refine ls F W Aa (Ae F Aa).q fun a w3 F W => ?_
    refine ls F W Aa (HE (r := (k : Int) - 1) F Aa Aa (Js (by omega))).q fun a w3 F W => ?_
    refine ls F W Aa (Ah F Aa).q fun a w3 F W => ?_
    refine Ad (Ab ?_)
    exact ⟨k, Nat.lt_succ_self k, Nat.le_of_lt hk, F.re ⟨rfl, Aa, Aa, trivial⟩, hB _ _ _ hK2 W.frm.below⟩
  · refine ⟨_, rfl, fun a F => ?_⟩
    refine JA F Aa Aa fun a F => ?_
    refine JK (Ab ?_)
    refine GP F Aa ?_
    refine AA (AF ?_)
    iterate 2 refine AD ?_
    refine AF ?_
    refine FV (.inl Aa) (F.re (F' := []) trivial) Aa ⟨⟨_, Aa⟩, .inr hx2⟩
theorem PJ : Has Try.prog 50 := ⟨fun args w => Am Try.func50 rfl (by decide) args w⟩
noncomputable def Bb (p1 : Int) (x2 : Int × Int × Int) : Unit → Option (Unit ⊕ Int)
  | _ => (if x2.2.2 < p1 then some (.inr x2.2.1) else some (.inl ()))
noncomputable def Bo (p0 : (List (Int × Int × Int)) × (List (Int × Int))) (p1 : Int) : Option Int := (back p0.2).bind fun x1 => D7 (EH (Bb p1) x1 ()) fun _ => some 0
theorem FE (Y : Nat → Prop) (w0 : World) (v1 : Value) (v2 : Value) (p0 : (List (Int × Int × Int)) × (List (Int × Int))) (p1 : Int) (r : Int) (H : Bo p0 p1 = some r) (h_v1 : Sl w0 (NX []) CW v1 p0.1) (h_v2 : Sl w0 (NX []) EZ v2 p0.2) :
    Calls Try.prog 28 #[.agg #[v1, v2], .int .i64 p1] w0 fun e w' => e = .returned (.int .i64 r) ∧ Below w0.heap.size w0 w' := by
 refine Mu Try.func28 Aa Try.ntmps28 Aa fun a F => ?_
 have W := Stw.start Y w0
 unfold Bo at H
 refine Ai (Ac ?_)
 refine B9 (cs := [v1, v2]) F W Aa Aa Aa fun b1 a w F W => ?_
 refine B9 (cs := [.int .i64 p1]) F W Aa Aa Aa fun b2 a w F W => ?_
 refine B1 (cs := [.int .i64 0]) F W Aa Z3 Aa fun b3 a w F W => ?_
 refine Ad (Ab (Ai (Ai (Ac ?_))))
 refine ls F W Aa (Ag LI Aa Aa Aa NK F Aa 1 Aa).q fun a w F W => ?_
 refine ls F W Aa (Al (v := v2) 2 F Aa Aa NK Aa).q fun a w F W => ?_
 refine Cf (β := Nat) (Ml := []) (M := [(b3, [.int .i64 0]), (b2, [.int .i64 p1]), (b1, [v1, v2])]) (Zl := []) (Z := []) (rv := fun b4 => .func (.func 50) #[] #[.pointer (some ⟨b4, 0, none⟩)]) (MM := fun b4 => [(b4, [v2])]) (ZZ := fun _ => []) F W Qi Aa Aa (fun _ => Pc _ w v2 ((Aj h_v2) _ W).one) fun b4 a w F W => ?_
 have W : Stw ⟨Y, [], w0⟩ [(b4, [v2]), (b3, [.int .i64 0]), (b2, [.int .i64 p1]), (b1, [v1, v2])] [] w := W
 refine Ad (Ab (Aw ?_))
 obtain ⟨x1, h1, H⟩ := Ao H
 obtain ⟨hn, rfl⟩ := Ji h1
 have F : Fr 18 [] [(0, .agg #[v1, v2]), (1, .int .i64 p1), (2, .pointer (some ⟨b1, 0, none⟩)), (3, .pointer (some ⟨b2, 0, none⟩)), (4, .pointer (some ⟨b3, 0, none⟩)), (7, .pointer (some ⟨b1, 1, none⟩)), (8, v2), (9, .func (.func 50) #[] #[.pointer (some ⟨b4, 0, none⟩)])] a := F.re ⟨rfl, Aa, Aa, Aa, Aa, Aa, Aa, Aa, trivial⟩
 have W := W.frontM (i := 3) Aa Aa
 have W := W.frontM (i := 3) Aa Aa
 have W := W.frontM (i := 3) Aa Aa
 have W := W.frontM (i := 3) Aa Aa
 refine Lh (Z := []) (fun s M Z => M = [(b4, [v2]), (b3, [.int .i64 0]), (b2, [.int .i64 p1]), (b1, [v1, v2])] ∧ Z = []) H F W ⟨rfl, Aa⟩ Aa PJ (Qm b4 v2 p0.2 hn) (fun _ => rfl) Aa (fun s M Z hK w Z' W => ?_) (fun l dD1 r1a r1b x2 s o M Z a a₂ w H L1 hK F hF2 W => ?_) fun dD1 s M Z a w H hK F W => ?_
 ·
  obtain ⟨rfl, rfl⟩ := hK
  exact Og.of (i := 0) W Aa (Aj h_v2)
 ·
  obtain ⟨rfl, rfl⟩ := hK
  have F : Fr 18 [] [(0, .agg #[v1, v2]), (1, .int .i64 p1), (2, .pointer (some ⟨b1, 0, none⟩)), (3, .pointer (some ⟨b2, 0, none⟩)), (4, .pointer (some ⟨b3, 0, none⟩)), (7, .pointer (some ⟨b1, 1, none⟩)), (8, v2), (9, .func (.func 50) #[] #[.pointer (some ⟨b4, 0, none⟩)]), (10, .int .i64 x2.1), (11, .agg #[.int .i64 x2.2.1, .int .i64 x2.2.2])] a := F.re ⟨rfl, Aa, Aa, Aa, Aa, Aa, Aa, Aa, Aa, Aa, trivial⟩
  have W : Stw ⟨Y, [], w0⟩ [(b4, [v2]), (b3, [.int .i64 0]), (b2, [.int .i64 p1]), (b1, [v1, v2])] [r1a, GD dD1] w := W
  rw [Bb] at H
  refine Ac ?_
  refine B1 (cs := [.int .i64 0, .int .i64 0]) F W Aa Pt Aa fun b5 a w F W => ?_
  refine BM (vs := [.int .i64 x2.2.1, .int .i64 x2.2.2]) (M' := [(b5, [.int .i64 x2.2.1, .int .i64 x2.2.2]), (b4, [v2]), (b3, [.int .i64 0]), (b2, [.int .i64 p1]), (b1, [v1, v2])]) 0 F W Aa Aa Aa Ph Aa Aa Aa Aa Aa fun w W => ?_
  refine Ad (Ab ?_)
  refine ⟨[(b5, [.int .i64 x2.2.1, .int .i64 x2.2.2]), (b4, [v2]), (b3, [.int .i64 0]), (b2, [.int .i64 p1]), (b1, [v1, v2])], [], W, fun w W => ?_⟩
  have W : Stw ⟨Y, [], w0⟩ [(b5, [.int .i64 x2.2.1, .int .i64 x2.2.2]), (b4, [v2]), (b3, [.int .i64 0]), (b2, [.int .i64 p1]), (b1, [v1, v2])] [r1b, GD dD1] w := W
  refine Aw (Ai (Ac ?_))
  refine ls F W Aa (Ag N8 Aa Aa Aa T3 F Aa 1 Aa).q fun a w F W => ?_
  refine ls F W Aa (Al (v := Value.int .i64 x2.2.2) 0 F Aa Aa T3 Aa).q fun a w F W => ?_
  refine ls F W Aa (Al (v := Value.int .i64 p1) 3 F Aa Aa T3 Aa).q fun a w F W => ?_
  refine ls F W Aa (Bq F Aa Aa).q fun a w F W => ?_
  refine Ad (Ab ?_)
  refine Ay F Aa (fun hb => ?_) fun hb => ?_
  ·
   have H := AN (Bf hb) H
   rw [hb] at F
   clear hb
   refine Ai (Ac ?_)
   refine ls F W Aa (Ag N8 Aa Aa Aa T3 F Aa 0 Aa).q fun a w F W => ?_
   refine ls F W Aa (Al (v := Value.int .i64 x2.2.1) 0 F Aa Aa T3 Aa).q fun a w F W => ?_
   refine BM (vs := [.int .i64 x2.2.1]) (M' := [(b5, [.int .i64 x2.2.1, .int .i64 x2.2.2]), (b4, [v2]), (b3, [.int .i64 x2.2.1]), (b2, [.int .i64 p1]), (b1, [v1, v2])]) 2 F W Aa Aa Aa T3 Aa Aa Aa Aa Aa fun w W => ?_
   refine Ad (Ab (AA (AF ?_)))
   refine N9 (M := [(b5, [.int .i64 x2.2.1, .int .i64 x2.2.2]), (b4, [v2]), (b3, [.int .i64 x2.2.1]), (b2, [.int .i64 p1]), (b1, [v1, v2])]) (Z := []) W fun w W => ?_
   have W : Stw ⟨Y, [], w0⟩ [(b5, [.int .i64 x2.2.1, .int .i64 x2.2.2]), (b4, [v2]), (b3, [.int .i64 x2.2.1]), (b2, [.int .i64 p1]), (b1, [v1, v2])] [GD dD1] w := W
   have F := hF2
   refine AA (AF (AD ?_))
   have H := L1 _ H
   have H := AW H
   subst H
   refine KK (Z := []) (.inl Aa) F W fun w W => ?_
   have W : Stw ⟨Y, [], w0⟩ [(b5, [.int .i64 x2.2.1, .int .i64 x2.2.2]), (b4, [v2]), (b3, [.int .i64 x2.2.1]), (b2, [.int .i64 p1]), (b1, [v1, v2])] [] w := W
   refine Ia W Aa (JL 2 F Aa Aa T3 Aa) ?_
   exact ⟨rfl, W.done⟩
  have H := AM (Bg hb) H
  rw [hb] at F
  clear hb
  refine Aq (AK ?_)
  have W := W.frontZ (i := 1) Aa Aa
  have W := W.frontZ (i := 1) Aa Aa
  have W := W.frontM (i := 4) Aa Aa
  have W := W.frontM (i := 4) Aa Aa
  have W := W.frontM (i := 4) Aa Aa
  have W := W.frontM (i := 4) Aa Aa
  have W := W.sub (M' := [(b4, [v2]), (b3, [.int .i64 0]), (b2, [.int .i64 p1]), (b1, [v1, v2])]) (Z' := [r1b, GD dD1]) (List.Sublist.cons_cons _ (List.Sublist.cons_cons _ (List.Sublist.cons_cons _ (List.Sublist.cons_cons _ (List.nil_sublist _))))) (List.Sublist.refl _)
  exact Ni ⟨_, _, _, H, ⟨rfl, Aa⟩, W⟩
 obtain ⟨rfl, rfl⟩ := hK
 have F : Fr 18 [MS dD1] [(0, .agg #[v1, v2]), (1, .int .i64 p1), (2, .pointer (some ⟨b1, 0, none⟩)), (3, .pointer (some ⟨b2, 0, none⟩)), (4, .pointer (some ⟨b3, 0, none⟩)), (7, .pointer (some ⟨b1, 1, none⟩)), (8, v2), (9, .func (.func 50) #[] #[.pointer (some ⟨b4, 0, none⟩)])] a := F
 have W : Stw ⟨Y, [], w0⟩ [(b4, [v2]), (b3, [.int .i64 0]), (b2, [.int .i64 p1]), (b1, [v1, v2])] [GD dD1] w := W
 refine AK (Ab (Ai (Ac ?_)))
 refine BM (vs := [.int .i64 0]) (M' := [(b4, [v2]), (b3, [.int .i64 0]), (b2, [.int .i64 p1]), (b1, [v1, v2])]) 1 F W Aa Aa Aa T3 Aa Aa Aa Aa Aa fun w W => ?_
 refine Ad (Ab (AA ?_))
 have H := AW H
 subst H
 refine KK (Z := []) (.inl Aa) F W fun w W => ?_
 have W : Stw ⟨Y, [], w0⟩ [(b4, [v2]), (b3, [.int .i64 0]), (b2, [.int .i64 p1]), (b1, [v1, v2])] [] w := W
 refine Ia W Aa (JL 1 F Aa Aa T3 Aa) ?_
 exact ⟨rfl, W.done⟩
theorem IX : type_of% Try.underlying22 := Try.underlying22
theorem B2 : type_of% Try.underlying114 := Try.underlying114
theorem NI : type_of% Try.underlying123 := Try.underlying123
theorem HH : type_of% Try.underlying126 := Try.underlying126
theorem Qt : Has Try.prog 28 := ⟨fun args w => Am Try.func28 rfl (by decide) args w⟩
abbrev N6 (a : Value × List (Value × List Int)) : List Value := [a.1]
theorem OS : E8 (Rp.vsl (Rp.vsl (Rp.int .i64))) N6 := E8.vsl
theorem Qz : Ty Try.prog 52 false 1 := ⟨by kernel_rfl, by kernel_rfl⟩
theorem H3 : Ty Try.prog 22 false 1 := ⟨by kernel_rfl, by kernel_rfl⟩
theorem FW : Ty Try.prog 23 false 1 := ⟨by kernel_rfl, by kernel_rfl⟩
abbrev Fe (x : Int × Int) : Value := .agg #[.int .i64 x.1, .int .i64 x.2]
theorem Ok : Et Try.prog 22 114 6 48 := Et.of IX (by kernel_rfl) (by kernel_rfl) (by kernel_rfl) (by decide)
def O9 (a : Int × Int × Int × Int × Int × Int) : List Value := [.int .i64 a.1, .int .i64 a.2.1, .int .i64 a.2.2.1, .int .i64 a.2.2.2.1, .int .i64 a.2.2.2.2.1, .int .i64 a.2.2.2.2.2]
theorem LD : Fl CS O9 := (Fl.pair Fl.int (Fl.pair Fl.int (Fl.pair Fl.int (Fl.pair Fl.int (Fl.pair Fl.int Fl.int)))))
theorem Iv : Ty Try.prog 114 true 6 := ⟨by kernel_rfl, by kernel_rfl⟩
theorem LW : (Try.prog.info? 114).bind (·.zero) = some (.agg #[.int .i64 0, .int .i64 0, .int .i64 0, .int .i64 0, .int .i64 0, .int .i64 0]) := by kernel_rfl
theorem LL : Bt Try.prog 126 [.int .i64 0, .int .i64 0] [(0, 1), (1, 1)] := ⟨⟨.agg #[.int .i64 0, .int .i64 0], by kernel_rfl, rfl⟩, ⟨_, HH, fun w => by kernel_rfl⟩⟩
theorem Nf : (Try.prog.info? 126).bind (·.zero) = some (.agg #[.int .i64 0, .int .i64 0]) := by kernel_rfl
abbrev D3 : Rp (Int × Int) := (Rp.pair (Rp.int .i64) (Rp.int .i64))
def O8 (a : Int × Int) : List Value := [.int .i64 a.1, .int .i64 a.2]
theorem Ob : Fl D3 O8 := (Fl.pair Fl.int Fl.int)
theorem LZ : Et Try.prog 123 126 2 16 := Et.of NI (by kernel_rfl) (by kernel_rfl) (by kernel_rfl) (by decide)
theorem OR : Ty Try.prog 60 true 2 := ⟨by kernel_rfl, by kernel_rfl⟩
noncomputable def Cl (p0 : Int × (List (Int × Int × Int × Int × Int × Int)) × (List (Int × Int))) : ((List (Int × Int)) × Int) → Option (((List (Int × Int)) × Int) ⊕ (List (Int × Int)))
  | (x2, x3) => (if x3 < (p0.2.1.length : Int) then (ix p0.2.1 x3).bind fun x4 => (FR x2 ([(x4.1, x4.2.1), (x4.2.2.1, x4.2.2.2.1)] : List (Int × Int))).bind fun x5 => some (.inl (x5, DH (x3 + 1))) else some (.inr x2))
noncomputable def Ci (p0 : Int × (List (Int × Int × Int × Int × Int × Int)) × (List (Int × Int))) : ((List (Int × Int)) × Int) → Option (((List (Int × Int)) × Int) ⊕ (List (Int × Int)))
  | (x7, x8) => (if x8 < (p0.2.2.length : Int) then (ix p0.2.2 x8).bind fun x9 => (FR x7 ([x9] : List (Int × Int))).bind fun x10 => some (.inl (x10, DH (x8 + 1))) else some (.inr x7))
noncomputable def Dk (p0 : Int × (List (Int × Int × Int × Int × Int × Int)) × (List (Int × Int))) : Option (List (Int × Int)) := (AQ (Cl p0) ([], 0)).bind fun x1 => (AQ (Ci p0) (x1, 0)).bind fun x6 => some x6
theorem IR (Y : Nat → Prop) (w0 : World) (v1 : Value) (v2 : Value) (p0 : Int × (List (Int × Int × Int × Int × Int × Int)) × (List (Int × Int))) (r : (List (Int × Int))) (H : Dk p0 = some r) (h_v1 : Sl w0 (NX []) CS v1 p0.2.1) (h_v2 : Sl w0 (NX []) Ec v2 p0.2.2) :
    Calls Try.prog 64 #[.agg #[.int .i64 p0.1, v1, v2]] w0 fun e w' => ∃ x : Value, e = .returned (x) ∧ Stw ⟨Y, [], w0⟩ [] [row (x) 126 D3 r] w' := by
 refine enter Try.func64 Aa Try.ntmps64 Aa fun a F => ?_
 have W := Stw.start Y w0
 unfold Dk at H
 refine Ai (Ac ?_)
 refine B9 (cs := [.int .i64 p0.1, v1, v2]) F W Aa Aa Aa fun b1 a w F W => ?_
 refine ls F W Aa (Ah F Aa).q fun a w F W => ?_
 refine Ad (Ab (Ai (Ac ?_)))
 refine ls F W Aa (Ah F Aa).q fun a w F W => ?_
 refine Ad (Ab ?_)
 obtain ⟨o1, G1, K1⟩ := Ao H
 refine AH (fun a w => ∃ x1 : List (Int × Int), ∃ v3 : Value, some (x1) = some o1 ∧ Fr 46 [] [(1, .pointer (some ⟨b1, 0, none⟩)), (2, .slice none 0 0), (3, v3)] a ∧ Stw ⟨Y, [], w0⟩ [(b1, [.int .i64 p0.1, v1, v2])] [row v3 126 D3 x1] w) ?_ ?_
 ·
  have H := G1
  clear G1 K1
  refine Ai (Ac ?_)
  refine ls F W Aa (Ag CJ Aa Aa Aa H3 F Aa 1 Aa).q fun a w F W => ?_
  refine ls F W Aa (Al (v := v1) 0 F Aa Aa H3 Aa).q fun a w F W => ?_
  refine ls F W Aa (A7 (r := CS) (l := p0.2.1) IX Aa F Aa (Aj h_v1)).q fun a w F W => ?_
  refine ls F W Aa (Ae F Aa).q fun a w F W => ?_
  refine Ad (Ab (Aw ?_))
  have W := W.nilRow 126 D3
  refine Bv H (fun s a w => ∃ v4 : Value, Fr 46 [] [(1, .pointer (some ⟨b1, 0, none⟩)), (2, .slice none 0 0), (3, v4), (9, v1), (10, .int .i64 (p0.2.1.length : Int)), (11, .int .i64 s.2)] a ∧ Stw ⟨Y, [], w0⟩ [(b1, [.int .i64 p0.1, v1, v2])] [row v4 126 D3 s.1] w) ⟨(Value.slice none 0 0), F.re ⟨rfl, Aa, Aa, Aa, Aa, Aa, trivial⟩, W⟩ fun s o a w H L2 hR => ?_
  obtain ⟨x2, x3⟩ := s
  obtain ⟨v4, F, W⟩ := hR
  have F : Fr 46 [] [(1, .pointer (some ⟨b1, 0, none⟩)), (2, .slice none 0 0), (3, v4), (9, v1), (10, .int .i64 (p0.2.1.length : Int)), (11, .int .i64 x3)] a := F
  have W : Stw ⟨Y, [], w0⟩ [(b1, [.int .i64 p0.1, v1, v2])] [row v4 126 D3 x2] w := W
  rw [Cl] at H
  refine Ai (Ac ?_)
  refine ls F W Aa (Bq F Aa Aa).q fun a w F W => ?_
  refine Ad (Ab (Ai ?_))
  refine Ay F Aa (fun hb => ?_) fun hb => ?_
  ·
   have H := AN (Bf hb) H
   rw [hb] at F
   clear hb
   refine Aq (Ab (Ai (Aw (Ai (Ac ?_)))))
   obtain ⟨x4, h1, H⟩ := Ao H
   refine ls F W Aa (AJ (r := CS) Ok F Aa Aa (Aj h_v1) h1).q fun a w F W => ?_
   refine ls F W Aa (Az (y := Value.agg #[.int .i64 x4.1, .int .i64 x4.2.1, .int .i64 x4.2.2.1, .int .i64 x4.2.2.2.1, .int .i64 x4.2.2.2.2.1, .int .i64 x4.2.2.2.2.2]) (j := 0) (i := x3) F Aa Aa (Aj h_v1) h1 LD.to Iv Aa).q fun a w F W => ?_
   refine B1 (cs := [.int .i64 0, .int .i64 0, .int .i64 0, .int .i64 0, .int .i64 0, .int .i64 0]) F W Aa LW Aa fun b2 a w F W => ?_
   refine BM (vs := [.int .i64 x4.1, .int .i64 x4.2.1, .int .i64 x4.2.2.1, .int .i64 x4.2.2.2.1, .int .i64 x4.2.2.2.2.1, .int .i64 x4.2.2.2.2.2]) (M' := [(b2, [.int .i64 x4.1, .int .i64 x4.2.1, .int .i64 x4.2.2.1, .int .i64 x4.2.2.2.1, .int .i64 x4.2.2.2.2.1, .int .i64 x4.2.2.2.2.2]), (b1, [.int .i64 p0.1, v1, v2])]) 0 F W Aa Aa Aa Iv Aa Aa Aa Aa Aa fun w W => ?_
   refine Ad (Ab (Ac ?_))
   refine ls F W Aa (Ae F Aa).q fun a w F W => ?_
   refine ls F W Aa (Ag B2 Aa Aa Aa T3 F Aa 0 Aa).q fun a w F W => ?_
   refine ls F W Aa (Al (v := Value.int .i64 x4.1) 0 F Aa Aa T3 Aa).q fun a w F W => ?_
   refine ls F W Aa (Ag B2 Aa Aa Aa T3 F Aa 1 Aa).q fun a w F W => ?_
   refine ls F W Aa (Al (v := Value.int .i64 x4.2.1) 0 F Aa Aa T3 Aa).q fun a w F W => ?_
   refine ls F W Aa (BA (v := Value.agg #[.int .i64 x4.1, .int .i64 x4.2.1]) LL F Aa Aa Aa).q fun a w F W => ?_
   refine ls F W Aa (Ag B2 Aa Aa Aa T3 F Aa 2 Aa).q fun a w F W => ?_
   refine ls F W Aa (Al (v := Value.int .i64 x4.2.2.1) 0 F Aa Aa T3 Aa).q fun a w F W => ?_
   refine ls F W Aa (Ag B2 Aa Aa Aa T3 F Aa 3 Aa).q fun a w F W => ?_
   refine ls F W Aa (Al (v := Value.int .i64 x4.2.2.2.1) 0 F Aa Aa T3 Aa).q fun a w F W => ?_
   refine ls F W Aa (BA (v := Value.agg #[.int .i64 x4.2.2.1, .int .i64 x4.2.2.2.1]) LL F Aa Aa Aa).q fun a w F W => ?_
   refine C1 (z := Value.agg #[.int .i64 0, .int .i64 0]) (cs := [.int .i64 x4.1, .int .i64 x4.2.1, .int .i64 x4.2.2.1, .int .i64 x4.2.2.2.1]) D3 ([(x4.1, x4.2.1), (x4.2.2.1, x4.2.2.2.1)] : List (Int × Int)) F W Aa LZ Nf Aa Aa Aa Aa Aa Aa (Ob.repL _ _ ([(x4.1, x4.2.1), (x4.2.2.1, x4.2.2.2.1)] : List (Int × Int))) fun v5 a w F W => ?_
   obtain ⟨x5, h2, H⟩ := Ao H
   refine Cz (r := D3) (i := 1) F W Aa LZ Aa Aa Aa Aa (C7 W 0 Aa) h2 Aa fun v6 a w F W => ?_
   have W : Stw ⟨Y, [], w0⟩ [(b2, [.int .i64 x4.1, .int .i64 x4.2.1, .int .i64 x4.2.2.1, .int .i64 x4.2.2.2.1, .int .i64 x4.2.2.2.2.1, .int .i64 x4.2.2.2.2.2]), (b1, [.int .i64 p0.1, v1, v2])] [row v6 126 D3 x5, row v5 126 D3 ([(x4.1, x4.2.1), (x4.2.2.1, x4.2.2.2.1)] : List (Int × Int))] w := W
   refine ls F W Aa (Ah F Aa).q fun a w F W => ?_
   refine Ad (AK (Ab (Ac ?_)))
   refine ls F W Aa (Cq F Aa Aa Aa).q fun a w F W => ?_
   refine ls F W Aa (Ae F Aa).q fun a w F W => ?_
   refine Ad (Ab ?_)
   have W := W.frontM (i := 1) Aa Aa
   have W := W.sub (M' := [(b1, [.int .i64 p0.1, v1, v2])]) (Z' := [row v6 126 D3 x5]) (List.Sublist.cons_cons _ (List.nil_sublist _)) (List.Sublist.cons_cons _ (List.nil_sublist _))
   exact ⟨_, H, (v6), F.re ⟨rfl, Aa, Aa, Aa, Aa, Aa, trivial⟩, W⟩
  have H := AM (Bg hb) H
  rw [hb] at F
  clear hb
  refine Bk ?_
  iterate 2 refine BJ ?_
  refine Bl (Ab ?_)
  have H := L2 _ H
  exact ⟨_, (v4), H, F.re ⟨rfl, Aa, Aa, trivial⟩, W⟩
 rintro a w ⟨x1, v3, hj, F, W⟩
 have hj := AW hj
 subst hj
 have H := K1
 clear G1 K1
 obtain ⟨o3, G3, K3⟩ := Ao H
 refine AH (fun a w => ∃ x6 : List (Int × Int), ∃ v7 : Value, some (x6) = some o3 ∧ Fr 46 [] [(2, .slice none 0 0), (3, v7)] a ∧ Stw ⟨Y, [], w0⟩ [(b1, [.int .i64 p0.1, v1, v2])] [row v7 126 D3 x6] w) ?_ ?_
 ·
  have H := G3
  clear G3 K3
  refine Ai (Ac ?_)
  refine ls F W Aa (Ag CJ Aa Aa Aa FW F Aa 2 Aa).q fun a w F W => ?_
  refine ls F W Aa (Al (v := v2) 0 F Aa Aa FW Aa).q fun a w F W => ?_
  refine ls F W Aa (A7 (r := Ec) (l := p0.2.2) GW Aa F Aa (Aj h_v2)).q fun a w F W => ?_
  refine ls F W Aa (Ae F Aa).q fun a w F W => ?_
  refine Ad (Ab (Aw ?_))
  refine Bv H (fun s a w => ∃ v8 : Value, Fr 46 [] [(2, .slice none 0 0), (3, v8), (30, v2), (31, .int .i64 (p0.2.2.length : Int)), (32, .int .i64 s.2)] a ∧ Stw ⟨Y, [], w0⟩ [(b1, [.int .i64 p0.1, v1, v2])] [row v8 126 D3 s.1] w) ⟨(v3), F.re ⟨rfl, Aa, Aa, Aa, Aa, trivial⟩, W⟩ fun s o a w H L4 hR => ?_
  obtain ⟨x7, x8⟩ := s
  obtain ⟨v8, F, W⟩ := hR
  have F : Fr 46 [] [(2, .slice none 0 0), (3, v8), (30, v2), (31, .int .i64 (p0.2.2.length : Int)), (32, .int .i64 x8)] a := F
  have W : Stw ⟨Y, [], w0⟩ [(b1, [.int .i64 p0.1, v1, v2])] [row v8 126 D3 x7] w := W
  rw [Ci] at H
  refine Ai (Ac ?_)
  refine ls F W Aa (Bq F Aa Aa).q fun a w F W => ?_
  refine Ad (Ab (Ai ?_))
  refine Ay F Aa (fun hb => ?_) fun hb => ?_
  ·
   have H := AN (Bf hb) H
   rw [hb] at F
   clear hb
   refine Aq (Ab (Ai (Aw (Ai (Ac ?_)))))
   obtain ⟨x9, h3, H⟩ := Ao H
   refine ls F W Aa (AJ (r := Ec) Nd F Aa Aa (Aj h_v2) h3).q fun a w F W => ?_
   refine ls F W Aa (Az (y := Value.agg #[.int .i64 x9.1, .int .i64 x9.2]) (j := 0) (i := x8) F Aa Aa (Aj h_v2) h3 Nm.to OR Aa).q fun a w F W => ?_
   refine B1 (cs := [.int .i64 0, .int .i64 0]) F W Aa Po Aa fun b3 a w F W => ?_
   refine BM (vs := [.int .i64 x9.1, .int .i64 x9.2]) (M' := [(b3, [.int .i64 x9.1, .int .i64 x9.2]), (b1, [.int .i64 p0.1, v1, v2])]) 0 F W Aa Aa Aa OR Aa Aa Aa Aa Aa fun w W => ?_
   refine Ad (Ab (Ac ?_))
   refine ls F W Aa (Ae F Aa).q fun a w F W => ?_
   refine ls F W Aa (Ag I1 Aa Aa Aa T3 F Aa 0 Aa).q fun a w F W => ?_
   refine ls F W Aa (Al (v := Value.int .i64 x9.1) 0 F Aa Aa T3 Aa).q fun a w F W => ?_
   refine ls F W Aa (Ag I1 Aa Aa Aa T3 F Aa 1 Aa).q fun a w F W => ?_
   refine ls F W Aa (Al (v := Value.int .i64 x9.2) 0 F Aa Aa T3 Aa).q fun a w F W => ?_
   refine ls F W Aa (BA (v := Value.agg #[.int .i64 x9.1, .int .i64 x9.2]) LL F Aa Aa Aa).q fun a w F W => ?_
   refine C1 (z := Value.agg #[.int .i64 0, .int .i64 0]) (cs := [.int .i64 x9.1, .int .i64 x9.2]) D3 ([x9] : List (Int × Int)) F W Aa LZ Nf Aa Aa Aa Aa Aa Aa (Ob.repL _ _ ([x9] : List (Int × Int))) fun v9 a w F W => ?_
   obtain ⟨x10, h4, H⟩ := Ao H
   refine Cz (r := D3) (i := 1) F W Aa LZ Aa Aa Aa Aa (C7 W 0 Aa) h4 Aa fun v10 a w F W => ?_
   have W : Stw ⟨Y, [], w0⟩ [(b3, [.int .i64 x9.1, .int .i64 x9.2]), (b1, [.int .i64 p0.1, v1, v2])] [row v10 126 D3 x10, row v9 126 D3 ([x9] : List (Int × Int))] w := W
   refine ls F W Aa (Ah F Aa).q fun a w F W => ?_
   refine Ad (AK (Ab (Ac ?_)))
   refine ls F W Aa (Cq F Aa Aa Aa).q fun a w F W => ?_
   refine ls F W Aa (Ae F Aa).q fun a w F W => ?_
   refine Ad (Ab ?_)
   have W := W.frontM (i := 1) Aa Aa
   have W := W.sub (M' := [(b1, [.int .i64 p0.1, v1, v2])]) (Z' := [row v10 126 D3 x10]) (List.Sublist.cons_cons _ (List.nil_sublist _)) (List.Sublist.cons_cons _ (List.nil_sublist _))
   exact ⟨_, H, (v10), F.re ⟨rfl, Aa, Aa, Aa, Aa, trivial⟩, W⟩
  have H := AM (Bg hb) H
  rw [hb] at F
  clear hb
  refine Bk ?_
  iterate 2 refine BJ ?_
  refine Bl (Ab ?_)
  have H := L4 _ H
  exact ⟨_, (v8), H, F.re ⟨rfl, Aa, trivial⟩, W⟩
 rintro a w ⟨x6, v7, hj, F, W⟩
 have hj := AW hj
 subst hj
 have H := K3
 clear G3 K3
 refine Ai (Ac ?_)
 refine ls F W Aa (Ae F Aa).q fun a w F W => ?_
 refine ls F W Aa (Ah F Aa).q fun a w F W => ?_
 refine Ad (Ab (AA ?_))
 have H := AW H
 subst H
 refine A8 (.inl Aa) F W Aa (Ap F Aa) ?_
 have W := W.sub (M' := []) (Z' := [row v7 126 D3 x6]) (List.nil_sublist _) (List.Sublist.refl _)
 exact ⟨(v7), Aa, W⟩
theorem Pw : Has Try.prog 64 := ⟨fun args w => Am Try.func64 rfl (by decide) args w⟩
theorem KQ : Ty Try.prog 126 true 2 := ⟨by kernel_rfl, by kernel_rfl⟩
theorem Ot (dd : Nat) (x0 : Int) (x1 : Int) (y0 : Int) (y1 : Int) (w : World) : (Op.equalIn (dd + 2) 126 (.agg #[.int .i64 x0, .int .i64 x1]) (.agg #[.int .i64 y0, .int .i64 y1])).run Try.prog w = .ok (decide (x0 = y0 ∧ x1 = y1)) w :=
  Hn (d := dd + 1) (rs := [decide (x0 = y0), decide (x1 = y1)]) HH (by kernel_rfl) ⟨rfl, Gl (d := dd + 0) rfl rfl Nn T3 rfl rfl, rfl, Gl (d := dd + 0) rfl rfl Nn T3 rfl rfl, trivial⟩ (by simp) w
theorem OC : Try.prog.eqGuardType Try.prog.depth 126 = false := by kernel_rfl
theorem NT (x0 : Int) (x1 : Int) (y0 : Int) (y1 : Int) (w : World) : (Op.equalIn 10000 126 (.agg #[.int .i64 x0, .int .i64 x1]) (.agg #[.int .i64 y0, .int .i64 y1])).run Try.prog w = .ok (decide (x0 = y0 ∧ x1 = y1)) w := Ot 9998 x0 x1 y0 y1 w
theorem NE : KeyEnc Try.prog 126 Fe := ⟨⟨_, HH, .inl fun _ _ => rfl⟩, fun x y w => (NT x.1 x.2 y.1 y.2 w).trans (by congr 1; exact decide_eq_decide.2 (by simp only [Prod.ext_iff])), fun b x w => HS (m := 9999) (cs := List.toArray [.int .i64 x.1, .int .i64 x.2]) HH ⟨⟨_, J8 T3 rfl, FK (m := 9998) Nn⟩, ⟨_, J8 T3 rfl, FK (m := 9998) Nn⟩, trivial⟩ b w, fun x => by simp [Instr.sameBits]⟩
theorem Ow : (Try.prog.info? 101).bind (·.zero) = some (.agg #[]) := by kernel_rfl
theorem Pa : Ty Try.prog 101 true 0 := ⟨by kernel_rfl, by kernel_rfl⟩
def Bi (p0 : Int × Int × Int × Int × Int × Int) : Bool := (decide (p0.1 = p0.2.2.1) || (decide (p0.2.2.2.2.1 < 1) || (decide (p0.2.2.2.2.2 < p0.2.2.2.2.1) || decide (1000 < p0.2.2.2.2.2))))
theorem Hr (Y : Nat → Prop) (w0 : World)  (p0 : Int × Int × Int × Int × Int × Int) (r : Bool) (H : Bi p0 = r)  :
    Calls Try.prog 66 #[.agg #[.int .i64 p0.1, .int .i64 p0.2.1, .int .i64 p0.2.2.1, .int .i64 p0.2.2.2.1, .int .i64 p0.2.2.2.2.1, .int .i64 p0.2.2.2.2.2]] w0 fun e w' => e = .returned (.bool r) ∧ Below w0.heap.size w0 w' := by
 refine enter Try.func66 Aa Try.ntmps66 Aa fun a F => ?_
 have W := Stw.start Y w0
 unfold Bi at H
 refine Ai (Ac ?_)
 refine B9 (cs := [.int .i64 p0.1, .int .i64 p0.2.1, .int .i64 p0.2.2.1, .int .i64 p0.2.2.2.1, .int .i64 p0.2.2.2.2.1, .int .i64 p0.2.2.2.2.2]) F W Aa Aa Aa fun b1 a w F W => ?_
 refine ls F W Aa (Ah F Aa).q fun a w F W => ?_
 refine Ad (Ab ?_)
 refine AH (fun a w => Fr 25 [] [(2, .bool (decide (p0.1 = p0.2.2.1) || (decide (p0.2.2.2.2.1 < 1) || (decide (p0.2.2.2.2.2 < p0.2.2.2.2.1) || decide (1000 < p0.2.2.2.2.2)))))] a ∧ Stw ⟨Y, [], w0⟩ [(b1, [.int .i64 p0.1, .int .i64 p0.2.1, .int .i64 p0.2.2.1, .int .i64 p0.2.2.2.1, .int .i64 p0.2.2.2.2.1, .int .i64 p0.2.2.2.2.2])] [] w) ?_ ?_
 ·
  refine Ac ?_
  refine ls F W Aa (Ag B2 Aa Aa Aa T3 F Aa 0 Aa).q fun a w F W => ?_
  refine ls F W Aa (Al (v := Value.int .i64 p0.1) 0 F Aa Aa T3 Aa).q fun a w F W => ?_
  refine ls F W Aa (Ag B2 Aa Aa Aa T3 F Aa 2 Aa).q fun a w F W => ?_
  refine ls F W Aa (Al (v := Value.int .i64 p0.2.2.1) 0 F Aa Aa T3 Aa).q fun a w F W => ?_
  refine ls F W Aa (BZ F Aa Aa).q fun a w F W => ?_
  refine ls F W Aa (Ae F Aa).q fun a w F W => ?_
  rcases Bool.eq_false_or_eq_true (decide (p0.1 = p0.2.2.1)) with hb0 | hb0
  ·
   rw [hb0] at F
   iterate 3 refine BW F Aa Aa Aa Aa Aa Aa Aa fun a F => ?_
   refine ls F W Aa (An F Aa Aa Aa).q fun a w F W => ?_
   refine ls F W Aa (Ae F Aa).q fun a w F W => ?_
   iterate 5 refine BW F Aa Aa Aa Aa Aa Aa Aa fun a F => ?_
   refine ls F W Aa (An F Aa Aa Aa).q fun a w F W => ?_
   refine ls F W Aa (Ae F Aa).q fun a w F W => ?_
   iterate 3 refine BW F Aa Aa Aa Aa Aa Aa Aa fun a F => ?_
   refine ls F W Aa (An F Aa Aa Aa).q fun a w F W => ?_
   refine ls F W Aa (Ah F Aa).q fun a w F W => ?_
   refine Ad (Ab ?_)
   exact ⟨F.re ⟨(by show some (Value.bool true) = some (Value.bool (decide (p0.1 = p0.2.2.1) || (decide (p0.2.2.2.2.1 < 1) || (decide (p0.2.2.2.2.2 < p0.2.2.2.2.1) || decide (1000 < p0.2.2.2.2.2))))); try rw [hb0]; all_goals simp only [Bool.not_true, Bool.not_false, Bool.true_and, Bool.false_and, Bool.true_or, Bool.false_or, Bool.and_true, Bool.or_false, cond_true, cond_false]), trivial⟩, W⟩
  rw [hb0] at F
  refine Au F W (Af F Aa Aa Aa Aa) Aa (Ak Aa) (Ag B2 Aa Aa Aa T3 F Aa 4 Aa).q fun a w F W => ?_
  refine Au F W (Af F Aa Aa Aa Aa) Aa (Ak Aa) (Al (v := Value.int .i64 p0.2.2.2.2.1) 0 F Aa Aa T3 Aa).q fun a w F W => ?_
  refine Au F W (Af F Aa Aa Aa Aa) Aa (Ak Aa) (Bq F Aa Aa).q fun a w F W => ?_
  refine ls F W Aa (As F Aa Aa Aa).q fun a w F W => ?_
  refine ls F W Aa (Ae F Aa).q fun a w F W => ?_
  rcases Bool.eq_false_or_eq_true (decide (p0.2.2.2.2.1 < 1)) with hb1 | hb1
  ·
   rw [hb1] at F
   iterate 5 refine BW F Aa Aa Aa Aa Aa Aa Aa fun a F => ?_
   refine ls F W Aa (An F Aa Aa Aa).q fun a w F W => ?_
   refine ls F W Aa (Ae F Aa).q fun a w F W => ?_
   iterate 3 refine BW F Aa Aa Aa Aa Aa Aa Aa fun a F => ?_
   refine ls F W Aa (An F Aa Aa Aa).q fun a w F W => ?_
   refine ls F W Aa (Ah F Aa).q fun a w F W => ?_
   refine Ad (Ab ?_)
   exact ⟨F.re ⟨(by show some (Value.bool true) = some (Value.bool (decide (p0.1 = p0.2.2.1) || (decide (p0.2.2.2.2.1 < 1) || (decide (p0.2.2.2.2.2 < p0.2.2.2.2.1) || decide (1000 < p0.2.2.2.2.2))))); try rw [hb1]; try rw [hb0]; all_goals simp only [Bool.not_true, Bool.not_false, Bool.true_and, Bool.false_and, Bool.true_or, Bool.false_or, Bool.and_true, Bool.or_false, cond_true, cond_false]), trivial⟩, W⟩
  rw [hb1] at F
  refine Au F W (Af F Aa Aa Aa Aa) Aa (Ak Aa) (Ag B2 Aa Aa Aa T3 F Aa 5 Aa).q fun a w F W => ?_
  refine Au F W (Af F Aa Aa Aa Aa) Aa (Ak Aa) (Al (v := Value.int .i64 p0.2.2.2.2.2) 0 F Aa Aa T3 Aa).q fun a w F W => ?_
  refine Au F W (Af F Aa Aa Aa Aa) Aa (Ak Aa) (Ag B2 Aa Aa Aa T3 F Aa 4 Aa).q fun a w F W => ?_
  refine Au F W (Af F Aa Aa Aa Aa) Aa (Ak Aa) (Al (v := Value.int .i64 p0.2.2.2.2.1) 0 F Aa Aa T3 Aa).q fun a w F W => ?_
  refine Au F W (Af F Aa Aa Aa Aa) Aa (Ak Aa) (Bq F Aa Aa).q fun a w F W => ?_
  refine ls F W Aa (As F Aa Aa Aa).q fun a w F W => ?_
  refine ls F W Aa (Ae F Aa).q fun a w F W => ?_
  rcases Bool.eq_false_or_eq_true (decide (p0.2.2.2.2.2 < p0.2.2.2.2.1)) with hb2 | hb2
  ·
   rw [hb2] at F
   iterate 3 refine BW F Aa Aa Aa Aa Aa Aa Aa fun a F => ?_
   refine ls F W Aa (An F Aa Aa Aa).q fun a w F W => ?_
   refine ls F W Aa (Ah F Aa).q fun a w F W => ?_
   refine Ad (Ab ?_)
   exact ⟨F.re ⟨(by show some (Value.bool true) = some (Value.bool (decide (p0.1 = p0.2.2.1) || (decide (p0.2.2.2.2.1 < 1) || (decide (p0.2.2.2.2.2 < p0.2.2.2.2.1) || decide (1000 < p0.2.2.2.2.2))))); try rw [hb2]; try rw [hb1]; try rw [hb0]; all_goals simp only [Bool.not_true, Bool.not_false, Bool.true_and, Bool.false_and, Bool.true_or, Bool.false_or, Bool.and_true, Bool.or_false, cond_true, cond_false]), trivial⟩, W⟩
  rw [hb2] at F
  refine Au F W (Af F Aa Aa Aa Aa) Aa (Ak Aa) (Ag B2 Aa Aa Aa T3 F Aa 5 Aa).q fun a w F W => ?_
  refine Au F W (Af F Aa Aa Aa Aa) Aa (Ak Aa) (Al (v := Value.int .i64 p0.2.2.2.2.2) 0 F Aa Aa T3 Aa).q fun a w F W => ?_
  refine Au F W (Af F Aa Aa Aa Aa) Aa (Ak Aa) (Fa F Aa Aa).q fun a w F W => ?_
  refine ls F W Aa (As F Aa Aa Aa).q fun a w F W => ?_
  refine ls F W Aa (Ah F Aa).q fun a w F W => ?_
  refine Ad (Ab ?_)
  exact ⟨F.re ⟨(by show some (Value.bool (decide (1000 < p0.2.2.2.2.2))) = some (Value.bool (decide (p0.1 = p0.2.2.1) || (decide (p0.2.2.2.2.1 < 1) || (decide (p0.2.2.2.2.2 < p0.2.2.2.2.1) || decide (1000 < p0.2.2.2.2.2))))); try rw [hb2]; try rw [hb1]; try rw [hb0]; all_goals simp only [Bool.not_true, Bool.not_false, Bool.true_and, Bool.false_and, Bool.true_or, Bool.false_or, Bool.and_true, Bool.or_false, cond_true, cond_false]), trivial⟩, W⟩
 rintro a w ⟨F, W⟩
 refine AA ?_
 subst H
 refine A8 (.inl Aa) F W Aa (Ap F Aa) ?_
 exact ⟨rfl, W.done⟩
theorem PY : Has Try.prog 66 := ⟨fun args w => Am Try.func66 rfl (by decide) args w⟩
noncomputable def AB (p0 : List (Int × Int × Int × Int × Int × Int)) : Int → Option (Int ⊕ (Unit ⊕ Int))
  | x1 => (if x1 < (p0.length : Int) then (ix p0 x1).bind fun x2 => (if (Bi x2) = true then some (.inr (.inr x1)) else some (.inl (DH (x1 + 1)))) else some (.inr (.inl ())))
noncomputable def AY (p0 : List (Int × Int × Int × Int × Int × Int)) : Option Int := D7 (AQ (AB p0) 0) fun _ => some (-1)
theorem Dz (Y : Nat → Prop) (w0 : World) (v1 : Value) (p0 : List (Int × Int × Int × Int × Int × Int)) (r : Int) (H : AY p0 = some r) (h_v1 : Sl w0 (NX []) CS v1 p0) :
    Calls Try.prog 70 #[v1, .func (.func 66) #[] #[]] w0 fun e w' => e = .returned (.int .i64 r) ∧ Below w0.heap.size w0 w' := by
 refine enter Try.func70 Aa Try.ntmps70 Aa fun a F => ?_
 have W := Stw.start Y w0
 unfold AY at H
 refine Ai (Ac ?_)
 refine ls F W Aa (Ah F Aa).q fun a w F W => ?_
 refine Ad (Ab ?_)
 obtain ⟨o1, G1, K1, L1⟩ := IY H
 refine AH (fun a w => some (Sum.inl ()) = some o1 ∧ Fr 19 [] [(4, .int .i64 0)] a ∧ Stw ⟨Y, [], w0⟩ [] [] w) ?_ ?_
 ·
  have H := G1
  clear G1 K1
  refine Ai (Ac ?_)
  refine ls F W Aa (Ae F Aa).q fun a w F W => ?_
  refine ls F W Aa (A7 (r := CS) (l := p0) IX Aa F Aa (Aj h_v1)).q fun a w F W => ?_
  refine ls F W Aa (Ae F Aa).q fun a w F W => ?_
  refine Ad (Ab (Aw ?_))
  refine Bv H (fun s a w => Fr 19 [] [(0, v1), (1, .func (.func 66) #[] #[]), (4, .int .i64 0), (7, .int .i64 (p0.length : Int)), (8, .int .i64 s)] a ∧ Stw ⟨Y, [], w0⟩ [] [] w) ⟨F.re ⟨rfl, Aa, Aa, Aa, Aa, trivial⟩, W⟩ fun s o a w H L2 hR => ?_
  obtain ⟨x1, rfl⟩ : ∃ x, x = s := ⟨s, rfl⟩
  obtain ⟨F, W⟩ := hR
  have F : Fr 19 [] [(0, v1), (1, .func (.func 66) #[] #[]), (4, .int .i64 0), (7, .int .i64 (p0.length : Int)), (8, .int .i64 x1)] a := F
  have W : Stw ⟨Y, [], w0⟩ [] [] w := W
  rw [AB] at H
  refine Ai (Ac ?_)
  refine ls F W Aa (Bq F Aa Aa).q fun a w F W => ?_
  refine Ad (Ab (Ai ?_))
  refine Ay F Aa (fun hb => ?_) fun hb => ?_
  ·
   have H := AN (Bf hb) H
   rw [hb] at F
   clear hb
   refine Aq (Ab (Ai (Aw (Ai (Ac ?_)))))
   refine ls F W Aa (Ae F Aa).q fun a w F W => ?_
   refine ls F W Aa (Ah F Aa).q fun a w F W => ?_
   refine Ad (Ab (Ai (Ac ?_)))
   iterate 3 refine ls F W Aa (Ae F Aa).q fun a w F W => ?_
   obtain ⟨x2, h1, H⟩ := Ao H
   refine ls F W Aa (AJ (r := CS) Ok F Aa Aa (Aj h_v1) h1).q fun a w F W => ?_
   refine ls F W Aa (Az (y := Value.agg #[.int .i64 x2.1, .int .i64 x2.2.1, .int .i64 x2.2.2.1, .int .i64 x2.2.2.2.1, .int .i64 x2.2.2.2.2.1, .int .i64 x2.2.2.2.2.2]) (j := 0) (i := x1) F Aa Aa (Aj h_v1) h1 LD.to Iv Aa).q fun a w F W => ?_
   refine ls F W Aa (Jt (ws := [.agg #[.int .i64 x2.1, .int .i64 x2.2.1, .int .i64 x2.2.2.1, .int .i64 x2.2.2.2.1, .int .i64 x2.2.2.2.2.1, .int .i64 x2.2.2.2.2.2]]) (v := Value.bool (Bi x2)) F PY Aa (fun w W => Hr any w x2 _ Aa)) fun a w F W => ?_
   refine Ad (Ab ?_)
   refine Ay F Aa (fun hb => ?_) fun hb => ?_
   ·
    have H := AN hb H
    rw [hb] at F
    clear hb
    refine Ai (Ac ?_)
    refine ls F W Aa (Ae F Aa).q fun a w F W => ?_
    refine ls F W Aa (Ah F Aa).q fun a w F W => ?_
    refine Ad (Ab (AA (AF ?_)))
    iterate 2 refine AD ?_
    refine AF (AD ?_)
    have H := L2 _ H
    have H := L1 _ H
    have H := AW H
    subst H
    refine A8 (.inl Aa) F W Aa (Ap F Aa) ?_
    exact ⟨rfl, W.done⟩
   have H := AM (by rw [hb]; decide) H
   rw [hb] at F
   clear hb
   refine Aq (AK (Ab (Ac ?_)))
   refine ls F W Aa (Cq F Aa Aa Aa).q fun a w F W => ?_
   refine ls F W Aa (Ae F Aa).q fun a w F W => ?_
   refine Ad (Ab ?_)
   exact ⟨_, H, F.re ⟨rfl, Aa, Aa, Aa, Aa, trivial⟩, W⟩
  have H := AM (Bg hb) H
  rw [hb] at F
  clear hb
  refine Bk ?_
  iterate 2 refine BJ ?_
  refine Bl (Ab ?_)
  have H := L2 _ H
  exact ⟨H, F.re ⟨rfl, trivial⟩, W⟩
 rintro a w ⟨hj, F, W⟩
 have H := K1 _ hj
 clear hj G1 K1 L1
 refine Ai (Ac ?_)
 refine ls F W Aa (Ah F Aa).q fun a w F W => ?_
 refine Ad (Ab (AA ?_))
 have H := AW H
 subst H
 refine A8 (.inl Aa) F W Aa (Ap F Aa) ?_
 exact ⟨rfl, W.done⟩
theorem Qv : Has Try.prog 70 := ⟨fun args w => Am Try.func70 rfl (by decide) args w⟩
noncomputable def AO (p0 : List (Int × Int × Int × Int × Int × Int)) : Option Bool := (AY p0).bind fun x1 => some (decide (0 ≤ x1))
theorem Dj (Y : Nat → Prop) (w0 : World) (v1 : Value) (p0 : List (Int × Int × Int × Int × Int × Int)) (r : Bool) (H : AO p0 = some r) (h_v1 : Sl w0 (NX []) CS v1 p0) :
    Calls Try.prog 65 #[v1, .func (.func 66) #[] #[]] w0 fun e w' => e = .returned (.bool r) ∧ Below w0.heap.size w0 w' := by
 refine enter Try.func65 Aa Try.ntmps65 Aa fun a F => ?_
 have W := Stw.start Y w0
 unfold AO at H
 refine Ai (Ac ?_)
 refine ls F W Aa (Ah F Aa).q fun a w F W => ?_
 refine Ad (Ab (Ai (Ac ?_)))
 iterate 2 refine ls F W Aa (Ae F Aa).q fun a w F W => ?_
 obtain ⟨x1, h1, H⟩ := Ao H
 refine ls F W Aa (BI (v := Value.int .i64 x1) F Qv Aa (fun w W => Dz any w (v1) p0 _ h1 (((Aj h_v1) : CZ _ _ _ _ _ _) w W).nx)) fun a w F W => ?_
 refine ls F W Aa (DC F Aa Aa).q fun a w F W => ?_
 refine ls F W Aa (Ah F Aa).q fun a w F W => ?_
 refine Ad (Ab (AA ?_))
 have H := AW H
 subst H
 refine A8 (.inl Aa) F W Aa (Ap F Aa) ?_
 exact ⟨rfl, W.done⟩
theorem NF : type_of% Try.underlying122 := Try.underlying122
theorem PV : Has Try.prog 65 := ⟨fun args w => Am Try.func65 rfl (by decide) args w⟩
noncomputable def BP (p0 : Int × (List (Int × Int × Int × Int × Int × Int)) × (List (Int × Int))) (x2 : (List (Int × Int))) : (Int × (List ((Int × Int) × Unit))) → Option ((Int × (List ((Int × Int) × Unit))) ⊕ ((List ((Int × Int) × Unit)) ⊕ Bool))
  | (x3, x4) => (if x3 < (x2.length : Int) then (ix x2 x3).bind fun x5 => (if (decide (x5.1 < 0) || (decide (p0.1 ≤ x5.1) || (decide (x5.2 < 0) || decide (8 ≤ x5.2)))) = true then some (.inr (.inr false)) else (if ((CE x4 x5).isSome) = true then some (.inr (.inr false)) else some (.inl (DH (x3 + 1), CY x4 x5 ())))) else some (.inr (.inl x4)))
noncomputable def DI (p0 : Int × (List (Int × Int × Int × Int × Int × Int)) × (List (Int × Int))) : Option Bool := (if (decide (p0.1 < 1) || (decide (8 < p0.1) || (decide (24 < (p0.2.1.length : Int)) || decide (8 < (p0.2.2.length : Int))))) = true then some false else D7 ((Dk p0).bind fun x2 => AQ (BP p0 x2) (0, ([] : List ((Int × Int) × Unit)))) fun x1 => (AO p0.2.1).bind fun x6 => some (!x6))
theorem Jy (Y : Nat → Prop) (w0 : World) (v1 : Value) (v2 : Value) (p0 : Int × (List (Int × Int × Int × Int × Int × Int)) × (List (Int × Int))) (r : Bool) (H : DI p0 = some r) (h_v1 : Sl w0 (NX []) CS v1 p0.2.1) (h_v2 : Sl w0 (NX []) Ec v2 p0.2.2) :
    Calls Try.prog 58 #[.agg #[.int .i64 p0.1, v1, v2]] w0 fun e w' => e = .returned (.bool r) ∧ Below w0.heap.size w0 w' := by
 refine enter Try.func58 Aa Try.ntmps58 Aa fun a F => ?_
 have W := Stw.start Y w0
 unfold DI at H
 refine Ai (Ac ?_)
 refine B9 (cs := [.int .i64 p0.1, v1, v2]) F W Aa Aa Aa fun b1 a w F W => ?_
 refine ls F W Aa (Ah F Aa).q fun a w F W => ?_
 refine Ad (Ab (Ai ?_))
 refine AH (fun a w => Fr 71 [] [(1, .pointer (some ⟨b1, 0, none⟩)), (2, .bool false), (27, .bool (decide (p0.1 < 1) || (decide (8 < p0.1) || (decide (24 < (p0.2.1.length : Int)) || decide (8 < (p0.2.2.length : Int))))))] a ∧ Stw ⟨Y, [], w0⟩ [(b1, [.int .i64 p0.1, v1, v2])] [] w) ?_ ?_
 ·
  refine Ac ?_
  refine ls F W Aa (Ag CJ Aa Aa Aa T3 F Aa 0 Aa).q fun a w F W => ?_
  refine ls F W Aa (Al (v := Value.int .i64 p0.1) 0 F Aa Aa T3 Aa).q fun a w F W => ?_
  refine ls F W Aa (Bq F Aa Aa).q fun a w F W => ?_
  refine ls F W Aa (Ae F Aa).q fun a w F W => ?_
  rcases Bool.eq_false_or_eq_true (decide (p0.1 < 1)) with hb0 | hb0
  ·
   rw [hb0] at F
   iterate 3 refine BW F Aa Aa Aa Aa Aa Aa Aa fun a F => ?_
   refine ls F W Aa (An F Aa Aa Aa).q fun a w F W => ?_
   refine ls F W Aa (Ae F Aa).q fun a w F W => ?_
   iterate 4 refine BW F Aa Aa Aa Aa Aa Aa Aa fun a F => ?_
   refine ls F W Aa (An F Aa Aa Aa).q fun a w F W => ?_
   refine ls F W Aa (Ae F Aa).q fun a w F W => ?_
   iterate 4 refine BW F Aa Aa Aa Aa Aa Aa Aa fun a F => ?_
   refine ls F W Aa (An F Aa Aa Aa).q fun a w F W => ?_
   refine Ad (Ab ?_)
   exact ⟨F.re ⟨rfl, Aa, (by show some (Value.bool true) = some (Value.bool (decide (p0.1 < 1) || (decide (8 < p0.1) || (decide (24 < (p0.2.1.length : Int)) || decide (8 < (p0.2.2.length : Int)))))); try rw [hb0]; all_goals simp only [Bool.not_true, Bool.not_false, Bool.true_and, Bool.false_and, Bool.true_or, Bool.false_or, Bool.and_true, Bool.or_false, cond_true, cond_false]), trivial⟩, W⟩
  rw [hb0] at F
  refine Au F W (Af F Aa Aa Aa Aa) Aa (Ak Aa) (Ag CJ Aa Aa Aa T3 F Aa 0 Aa).q fun a w F W => ?_
  refine Au F W (Af F Aa Aa Aa Aa) Aa (Ak Aa) (Al (v := Value.int .i64 p0.1) 0 F Aa Aa T3 Aa).q fun a w F W => ?_
  refine Au F W (Af F Aa Aa Aa Aa) Aa (Ak Aa) (Fa F Aa Aa).q fun a w F W => ?_
  refine ls F W Aa (As F Aa Aa Aa).q fun a w F W => ?_
  refine ls F W Aa (Ae F Aa).q fun a w F W => ?_
  rcases Bool.eq_false_or_eq_true (decide (8 < p0.1)) with hb1 | hb1
  ·
   rw [hb1] at F
   iterate 4 refine BW F Aa Aa Aa Aa Aa Aa Aa fun a F => ?_
   refine ls F W Aa (An F Aa Aa Aa).q fun a w F W => ?_
   refine ls F W Aa (Ae F Aa).q fun a w F W => ?_
   iterate 4 refine BW F Aa Aa Aa Aa Aa Aa Aa fun a F => ?_
   refine ls F W Aa (An F Aa Aa Aa).q fun a w F W => ?_
   refine Ad (Ab ?_)
   exact ⟨F.re ⟨rfl, Aa, (by show some (Value.bool true) = some (Value.bool (decide (p0.1 < 1) || (decide (8 < p0.1) || (decide (24 < (p0.2.1.length : Int)) || decide (8 < (p0.2.2.length : Int)))))); try rw [hb0]; try rw [hb1]; all_goals simp only [Bool.not_true, Bool.not_false, Bool.true_and, Bool.false_and, Bool.true_or, Bool.false_or, Bool.and_true, Bool.or_false, cond_true, cond_false]), trivial⟩, W⟩
  rw [hb1] at F
  refine Au F W (Af F Aa Aa Aa Aa) Aa (Ak Aa) (Ag CJ Aa Aa Aa H3 F Aa 1 Aa).q fun a w F W => ?_
  refine Au F W (Af F Aa Aa Aa Aa) Aa (Ak Aa) (Al (v := v1) 0 F Aa Aa H3 Aa).q fun a w F W => ?_
  refine Au F W (Af F Aa Aa Aa Aa) Aa (Ak Aa) (A7 (r := CS) (l := p0.2.1) IX Aa F Aa (Aj h_v1)).q fun a w F W => ?_
  refine Au F W (Af F Aa Aa Aa Aa) Aa (Ak Aa) (Fa F Aa Aa).q fun a w F W => ?_
  refine ls F W Aa (As F Aa Aa Aa).q fun a w F W => ?_
  refine ls F W Aa (Ae F Aa).q fun a w F W => ?_
  rcases Bool.eq_false_or_eq_true (decide (24 < (p0.2.1.length : Int))) with hb2 | hb2
  ·
   rw [hb2] at F
   iterate 4 refine BW F Aa Aa Aa Aa Aa Aa Aa fun a F => ?_
   refine ls F W Aa (An F Aa Aa Aa).q fun a w F W => ?_
   refine Ad (Ab ?_)
   exact ⟨F.re ⟨rfl, Aa, (by show some (Value.bool true) = some (Value.bool (decide (p0.1 < 1) || (decide (8 < p0.1) || (decide (24 < (p0.2.1.length : Int)) || decide (8 < (p0.2.2.length : Int)))))); try rw [hb2]; try rw [hb0]; try rw [hb1]; all_goals simp only [Bool.not_true, Bool.not_false, Bool.true_and, Bool.false_and, Bool.true_or, Bool.false_or, Bool.and_true, Bool.or_false, cond_true, cond_false]), trivial⟩, W⟩
  rw [hb2] at F
  refine Au F W (Af F Aa Aa Aa Aa) Aa (Ak Aa) (Ag CJ Aa Aa Aa FW F Aa 2 Aa).q fun a w F W => ?_
  refine Au F W (Af F Aa Aa Aa Aa) Aa (Ak Aa) (Al (v := v2) 0 F Aa Aa FW Aa).q fun a w F W => ?_
  refine Au F W (Af F Aa Aa Aa Aa) Aa (Ak Aa) (A7 (r := Ec) (l := p0.2.2) GW Aa F Aa (Aj h_v2)).q fun a w F W => ?_
  refine Au F W (Af F Aa Aa Aa Aa) Aa (Ak Aa) (Fa F Aa Aa).q fun a w F W => ?_
  refine ls F W Aa (As F Aa Aa Aa).q fun a w F W => ?_
  refine Ad (Ab ?_)
  exact ⟨F.re ⟨rfl, Aa, (by show some (Value.bool (decide (8 < (p0.2.2.length : Int)))) = some (Value.bool (decide (p0.1 < 1) || (decide (8 < p0.1) || (decide (24 < (p0.2.1.length : Int)) || decide (8 < (p0.2.2.length : Int)))))); try rw [hb2]; try rw [hb0]; try rw [hb1]; all_goals simp only [Bool.not_true, Bool.not_false, Bool.true_and, Bool.false_and, Bool.true_or, Bool.false_or, Bool.and_true, Bool.or_false, cond_true, cond_false]), trivial⟩, W⟩
 rintro a w ⟨F, W⟩
 refine Ay F Aa (fun hb => ?_) fun hb => ?_
 ·
  have H := AN hb H
  rw [hb] at F
  clear hb
  refine Ai (Ac ?_)
  refine ls F W Aa (Ah F Aa).q fun a w F W => ?_
  refine Ad (Ab (AA (AD ?_)))
  have H := AW H
  subst H
  refine A8 (.inl Aa) F W Aa (Ap F Aa) ?_
  exact ⟨rfl, W.done⟩
 have H := AM (by rw [hb]; decide) H
 rw [hb] at F
 clear hb
 refine Aq (Ab (Ai (Ac ?_)))
 refine Gh Fe DA F W Aa fun b2 a w F W => ?_
 have W : Stw ⟨Y, [], w0⟩ [(b1, [.int .i64 p0.1, v1, v2])] [mp b2 Fe DA ([] : List ((Int × Int) × Unit))] w := W
 refine ls F W Aa (Ah F Aa).q fun a w F W => ?_
 refine Ad (Ab ?_)
 obtain ⟨o1, G1, K1, L1⟩ := IY H
 refine AH (fun a w => ∃ x1 : List ((Int × Int) × Unit), some (Sum.inl x1) = some o1 ∧ Fr 71 [] [(1, .pointer (some ⟨b1, 0, none⟩)), (2, .bool false)] a ∧ Stw ⟨Y, [], w0⟩ [(b1, [.int .i64 p0.1, v1, v2])] [mp b2 Fe DA x1] w) ?_ ?_
 ·
  have H := G1
  clear G1 K1
  refine Ai (Ac ?_)
  refine ls F W Aa (Al (v := Value.agg #[.int .i64 p0.1, v1, v2]) 0 F Aa Aa G0 Aa).q fun a w F W => ?_
  obtain ⟨x2, h1, H⟩ := Ao H
  refine Cf (Ml := []) (Zl := []) (M := [(b1, [.int .i64 p0.1, v1, v2])]) (Z := [mp b2 Fe DA ([] : List ((Int × Int) × Unit))]) (β := Value) (rv := fun x => x) (MM := fun x => []) (ZZ := fun x => [row x 126 D3 x2]) F W Pw Aa Aa (fun hL => IR _ w (v1) (v2) p0 _ h1 ((Aj h_v1) w W).nx ((Aj h_v2) w W).nx) fun x a w F W => ?_
  obtain ⟨v3, rfl⟩ : ∃ y, y = x := ⟨x, rfl⟩
  have W : Stw ⟨Y, [], w0⟩ [(b1, [.int .i64 p0.1, v1, v2])] [row v3 126 D3 x2, mp b2 Fe DA ([] : List ((Int × Int) × Unit))] w := W
  refine ls F W Aa (A7 (r := D3) (l := x2) NI Aa F Aa (AP 0 Aa)).q fun a w F W => ?_
  refine ls F W Aa (Ae F Aa).q fun a w F W => ?_
  refine Ad (Ab (Aw ?_))
  have W := W.frontZ (i := 1) Aa Aa
  have W := W.frontZ (i := 1) Aa Aa
  refine Bv H (fun s a w => Fr 71 [] [(1, .pointer (some ⟨b1, 0, none⟩)), (2, .bool false), (3, .map (some b2)), (30, v3), (31, .int .i64 (x2.length : Int)), (32, .int .i64 s.1)] a ∧ Stw ⟨Y, [], w0⟩ [(b1, [.int .i64 p0.1, v1, v2])] [row v3 126 D3 x2, mp b2 Fe DA s.2] w) ⟨F.re ⟨rfl, Aa, Aa, Aa, Aa, Aa, trivial⟩, W⟩ fun s o a w H L2 hR => ?_
  obtain ⟨x3, x4⟩ := s
  obtain ⟨F, W⟩ := hR
  have F : Fr 71 [] [(1, .pointer (some ⟨b1, 0, none⟩)), (2, .bool false), (3, .map (some b2)), (30, v3), (31, .int .i64 (x2.length : Int)), (32, .int .i64 x3)] a := F
  have W : Stw ⟨Y, [], w0⟩ [(b1, [.int .i64 p0.1, v1, v2])] [row v3 126 D3 x2, mp b2 Fe DA x4] w := W
  rw [BP] at H
  refine Ai (Ac ?_)
  refine ls F W Aa (Bq F Aa Aa).q fun a w F W => ?_
  refine Ad (Ab (Ai ?_))
  refine Ay F Aa (fun hb => ?_) fun hb => ?_
  ·
   have H := AN (Bf hb) H
   rw [hb] at F
   clear hb
   refine Aq (Ab (Ai (Aw (Ai (Ac ?_)))))
   obtain ⟨x5, h2, H⟩ := Ao H
   refine ls F W Aa (AJ (r := D3) LZ F Aa Aa (AP 0 Aa) h2).q fun a w F W => ?_
   refine ls F W Aa (Az (y := Value.agg #[.int .i64 x5.1, .int .i64 x5.2]) (j := 0) (i := x3) F Aa Aa (AP 0 Aa) h2 Ob.to KQ Aa).q fun a w F W => ?_
   refine B1 (cs := [.int .i64 0, .int .i64 0]) F W Aa Nf Aa fun b3 a w F W => ?_
   refine BM (vs := [.int .i64 x5.1, .int .i64 x5.2]) (M' := [(b3, [.int .i64 x5.1, .int .i64 x5.2]), (b1, [.int .i64 p0.1, v1, v2])]) 0 F W Aa Aa Aa KQ Aa Aa Aa Aa Aa fun w W => ?_
   refine Ad (Ab (Ai ?_))
   refine AH (fun a w => Fr 71 [] [(1, .pointer (some ⟨b1, 0, none⟩)), (2, .bool false), (3, .map (some b2)), (5, .pointer (some ⟨b3, 0, none⟩)), (30, v3), (31, .int .i64 (x2.length : Int)), (32, .int .i64 x3), (55, .bool (decide (x5.1 < 0) || (decide (p0.1 ≤ x5.1) || (decide (x5.2 < 0) || decide (8 ≤ x5.2)))))] a ∧ Stw ⟨Y, [], w0⟩ [(b3, [.int .i64 x5.1, .int .i64 x5.2]), (b1, [.int .i64 p0.1, v1, v2])] [row v3 126 D3 x2, mp b2 Fe DA x4] w) ?_ ?_
   ·
    refine Ac ?_
    refine ls F W Aa (Ag HH Aa Aa Aa T3 F Aa 0 Aa).q fun a w F W => ?_
    refine ls F W Aa (Al (v := Value.int .i64 x5.1) 0 F Aa Aa T3 Aa).q fun a w F W => ?_
    refine ls F W Aa (Bq F Aa Aa).q fun a w F W => ?_
    refine ls F W Aa (Ae F Aa).q fun a w F W => ?_
    rcases Bool.eq_false_or_eq_true (decide (x5.1 < 0)) with hb0 | hb0
    ·
     rw [hb0] at F
     iterate 5 refine BW F Aa Aa Aa Aa Aa Aa Aa fun a F => ?_
     refine ls F W Aa (An F Aa Aa Aa).q fun a w F W => ?_
     refine ls F W Aa (Ae F Aa).q fun a w F W => ?_
     iterate 3 refine BW F Aa Aa Aa Aa Aa Aa Aa fun a F => ?_
     refine ls F W Aa (An F Aa Aa Aa).q fun a w F W => ?_
     refine ls F W Aa (Ae F Aa).q fun a w F W => ?_
     iterate 3 refine BW F Aa Aa Aa Aa Aa Aa Aa fun a F => ?_
     refine ls F W Aa (An F Aa Aa Aa).q fun a w F W => ?_
     refine Ad (Ab ?_)
     exact ⟨F.re ⟨rfl, Aa, Aa, Aa, Aa, Aa, Aa, (by show some (Value.bool true) = some (Value.bool (decide (x5.1 < 0) || (decide (p0.1 ≤ x5.1) || (decide (x5.2 < 0) || decide (8 ≤ x5.2))))); try rw [hb0]; all_goals simp only [Bool.not_true, Bool.not_false, Bool.true_and, Bool.false_and, Bool.true_or, Bool.false_or, Bool.and_true, Bool.or_false, cond_true, cond_false]), trivial⟩, W⟩
    rw [hb0] at F
    refine Au F W (Af F Aa Aa Aa Aa) Aa (Ak Aa) (Ag HH Aa Aa Aa T3 F Aa 0 Aa).q fun a w F W => ?_
    refine Au F W (Af F Aa Aa Aa Aa) Aa (Ak Aa) (Al (v := Value.int .i64 x5.1) 0 F Aa Aa T3 Aa).q fun a w F W => ?_
    refine Au F W (Af F Aa Aa Aa Aa) Aa (Ak Aa) (Ag CJ Aa Aa Aa T3 F Aa 0 Aa).q fun a w F W => ?_
    refine Au F W (Af F Aa Aa Aa Aa) Aa (Ak Aa) (Al (v := Value.int .i64 p0.1) 1 F Aa Aa T3 Aa).q fun a w F W => ?_
    refine Au F W (Af F Aa Aa Aa Aa) Aa (Ak Aa) (DC F Aa Aa).q fun a w F W => ?_
    refine ls F W Aa (As F Aa Aa Aa).q fun a w F W => ?_
    refine ls F W Aa (Ae F Aa).q fun a w F W => ?_
    rcases Bool.eq_false_or_eq_true (decide (p0.1 ≤ x5.1)) with hb1 | hb1
    ·
     rw [hb1] at F
     iterate 3 refine BW F Aa Aa Aa Aa Aa Aa Aa fun a F => ?_
     refine ls F W Aa (An F Aa Aa Aa).q fun a w F W => ?_
     refine ls F W Aa (Ae F Aa).q fun a w F W => ?_
     iterate 3 refine BW F Aa Aa Aa Aa Aa Aa Aa fun a F => ?_
     refine ls F W Aa (An F Aa Aa Aa).q fun a w F W => ?_
     refine Ad (Ab ?_)
     exact ⟨F.re ⟨rfl, Aa, Aa, Aa, Aa, Aa, Aa, (by show some (Value.bool true) = some (Value.bool (decide (x5.1 < 0) || (decide (p0.1 ≤ x5.1) || (decide (x5.2 < 0) || decide (8 ≤ x5.2))))); try rw [hb1]; try rw [hb0]; all_goals simp only [Bool.not_true, Bool.not_false, Bool.true_and, Bool.false_and, Bool.true_or, Bool.false_or, Bool.and_true, Bool.or_false, cond_true, cond_false]), trivial⟩, W⟩
    rw [hb1] at F
    refine Au F W (Af F Aa Aa Aa Aa) Aa (Ak Aa) (Ag HH Aa Aa Aa T3 F Aa 1 Aa).q fun a w F W => ?_
    refine Au F W (Af F Aa Aa Aa Aa) Aa (Ak Aa) (Al (v := Value.int .i64 x5.2) 0 F Aa Aa T3 Aa).q fun a w F W => ?_
    refine Au F W (Af F Aa Aa Aa Aa) Aa (Ak Aa) (Bq F Aa Aa).q fun a w F W => ?_
    refine ls F W Aa (As F Aa Aa Aa).q fun a w F W => ?_
    refine ls F W Aa (Ae F Aa).q fun a w F W => ?_
    rcases Bool.eq_false_or_eq_true (decide (x5.2 < 0)) with hb2 | hb2
    ·
     rw [hb2] at F
     iterate 3 refine BW F Aa Aa Aa Aa Aa Aa Aa fun a F => ?_
     refine ls F W Aa (An F Aa Aa Aa).q fun a w F W => ?_
     refine Ad (Ab ?_)
     exact ⟨F.re ⟨rfl, Aa, Aa, Aa, Aa, Aa, Aa, (by show some (Value.bool true) = some (Value.bool (decide (x5.1 < 0) || (decide (p0.1 ≤ x5.1) || (decide (x5.2 < 0) || decide (8 ≤ x5.2))))); try rw [hb1]; try rw [hb0]; try rw [hb2]; all_goals simp only [Bool.not_true, Bool.not_false, Bool.true_and, Bool.false_and, Bool.true_or, Bool.false_or, Bool.and_true, Bool.or_false, cond_true, cond_false]), trivial⟩, W⟩
    rw [hb2] at F
    refine Au F W (Af F Aa Aa Aa Aa) Aa (Ak Aa) (Ag HH Aa Aa Aa T3 F Aa 1 Aa).q fun a w F W => ?_
    refine Au F W (Af F Aa Aa Aa Aa) Aa (Ak Aa) (Al (v := Value.int .i64 x5.2) 0 F Aa Aa T3 Aa).q fun a w F W => ?_
    refine Au F W (Af F Aa Aa Aa Aa) Aa (Ak Aa) (DC F Aa Aa).q fun a w F W => ?_
    refine ls F W Aa (As F Aa Aa Aa).q fun a w F W => ?_
    refine Ad (Ab ?_)
    exact ⟨F.re ⟨rfl, Aa, Aa, Aa, Aa, Aa, Aa, (by show some (Value.bool (decide (8 ≤ x5.2))) = some (Value.bool (decide (x5.1 < 0) || (decide (p0.1 ≤ x5.1) || (decide (x5.2 < 0) || decide (8 ≤ x5.2))))); try rw [hb1]; try rw [hb0]; try rw [hb2]; all_goals simp only [Bool.not_true, Bool.not_false, Bool.true_and, Bool.false_and, Bool.true_or, Bool.false_or, Bool.and_true, Bool.or_false, cond_true, cond_false]), trivial⟩, W⟩
   rintro a w ⟨F, W⟩
   refine Ay F Aa (fun hb => ?_) fun hb => ?_
   ·
    have H := AN hb H
    rw [hb] at F
    clear hb
    refine Ai (Ac ?_)
    refine ls F W Aa (Ah F Aa).q fun a w F W => ?_
    refine Ad (Ab (AA (AD (AF ?_))))
    iterate 2 refine AD ?_
    refine AF (AD ?_)
    have H := L2 _ H
    have H := L1 _ H
    have H := AW H
    subst H
    refine A8 (.inl Aa) F W Aa (Ap F Aa) ?_
    exact ⟨rfl, W.done⟩
   have H := AM (by rw [hb]; decide) H
   rw [hb] at F
   clear hb
   refine Aq (Ab (Ai (Ai (Ac ?_))))
   refine ls F W Aa (Ae F Aa).q fun a w F W => ?_
   refine ls F W Aa (Al (v := Value.agg #[.int .i64 x5.1, .int .i64 x5.2]) 0 F Aa Aa KQ Aa).q fun a w F W => ?_
   refine ls F W Aa (Hm (zv := (() : Unit)) (kx := (x5 : Int × Int)) (q := 1) (E := Fe) (V := DA) F Aa Aa Aa NE NF Ow).q fun a w F W => ?_
   refine ls F W Aa (Ae F Aa).q fun a w F W => ?_
   refine ls F W Aa (AZ (v := Value.agg #[]) F Aa Aa).q fun a w F W => ?_
   refine ls F W Aa (AZ (v := Value.bool ((CE x4 x5).isSome)) F Aa Aa).q fun a w F W => ?_
   refine B1 (cs := []) F W Aa Ow Aa fun b4 a w F W => ?_
   refine BM (vs := []) (M' := [(b4, []), (b3, [.int .i64 x5.1, .int .i64 x5.2]), (b1, [.int .i64 p0.1, v1, v2])]) 0 F W Aa Aa Aa Pa Aa Aa Aa Aa Aa fun w W => ?_
   refine ls F W Aa (Ah F Aa).q fun a w F W => ?_
   refine Ad (Ab (Ai (Ac ?_)))
   refine ls F W Aa (Ae F Aa).q fun a w F W => ?_
   refine Ad (Ab ?_)
   refine Ay F Aa (fun hb => ?_) fun hb => ?_
   ·
    have H := AN hb H
    rw [hb] at F
    clear hb
    refine Ai (Ac ?_)
    refine ls F W Aa (Ah F Aa).q fun a w F W => ?_
    refine Ad (Ab (AA (AD (AF ?_))))
    iterate 2 refine AD ?_
    refine AF (AD ?_)
    have H := L2 _ H
    have H := L1 _ H
    have H := AW H
    subst H
    refine A8 (.inl Aa) F W Aa (Ap F Aa) ?_
    exact ⟨rfl, W.done⟩
   have H := AM (by rw [hb]; decide) H
   rw [hb] at F
   clear hb
   refine Aq (Ab (Ac ?_))
   refine ls F W Aa (Ae F Aa).q fun a w F W => ?_
   refine ls F W Aa (Al (v := Value.agg #[.int .i64 x5.1, .int .i64 x5.2]) 1 F Aa Aa KQ Aa).q fun a w F W => ?_
   refine ls F W Aa (BA (v := Value.agg #[]) Ou F Aa Aa Aa).q fun a w F W => ?_
   refine F3 (q := 1) (kx := (x5 : Int × Int)) (vx := (() : Unit)) (E := Fe) (V := DA) F W Aa Aa Aa Aa Aa NE NF fun w W => ?_
   have W : Stw ⟨Y, [], w0⟩ [(b4, []), (b3, [.int .i64 x5.1, .int .i64 x5.2]), (b1, [.int .i64 p0.1, v1, v2])] [mp b2 Fe DA (CY x4 x5 ()), row v3 126 D3 x2] w := W
   refine Ad (AK (Ab (Ac ?_)))
   refine ls F W Aa (Cq F Aa Aa Aa).q fun a w F W => ?_
   refine ls F W Aa (Ae F Aa).q fun a w F W => ?_
   refine Ad (Ab ?_)
   have W := W.frontZ (i := 1) Aa Aa
   have W := W.frontM (i := 2) Aa Aa
   have W := W.sub (M' := [(b1, [.int .i64 p0.1, v1, v2])]) (Z' := [row v3 126 D3 x2, mp b2 Fe DA (CY x4 x5 ())]) (List.Sublist.cons_cons _ (List.nil_sublist _)) (List.Sublist.refl _)
   exact ⟨_, H, F.re ⟨rfl, Aa, Aa, Aa, Aa, Aa, trivial⟩, W⟩
  have H := AM (Bg hb) H
  rw [hb] at F
  clear hb
  refine Bk ?_
  iterate 2 refine BJ ?_
  refine Bl (Ab ?_)
  have W := W.frontZ (i := 1) Aa Aa
  have W := W.sub (M' := [(b1, [.int .i64 p0.1, v1, v2])]) (Z' := [mp b2 Fe DA x4]) (List.Sublist.refl _) (List.Sublist.cons_cons _ (List.nil_sublist _))
  have H := L2 _ H
  exact ⟨_, H, F.re ⟨rfl, Aa, trivial⟩, W⟩
 rintro a w ⟨x1, hj, F, W⟩
 have H := K1 _ hj
 clear hj G1 K1 L1
 refine Ai (Ac ?_)
 refine ls F W Aa (Ag CJ Aa Aa Aa H3 F Aa 1 Aa).q fun a w F W => ?_
 refine ls F W Aa (Al (v := v1) 0 F Aa Aa H3 Aa).q fun a w F W => ?_
 obtain ⟨x6, h3, H⟩ := Ao H
 refine ls F W Aa (BI (v := Value.bool x6) F PV Aa (fun w W => Dj any w (v1) p0.2.1 _ h3 (((Aj h_v1) : CZ _ _ _ _ _ _) w W).nx)) fun a w F W => ?_
 refine ls F W Aa (EJ F Aa).q fun a w F W => ?_
 refine ls F W Aa (Ah F Aa).q fun a w F W => ?_
 refine Ad (Ab (AA ?_))
 have H := AW H
 subst H
 refine A8 (.inl Aa) F W Aa (Ap F Aa) ?_
 exact ⟨rfl, W.done⟩
theorem PM : Has Try.prog 58 := ⟨fun args w => Am Try.func58 rfl (by decide) args w⟩
abbrev Ez (a : Value × List Int) : List Value := [a.1]
theorem HL : E8 (Rp.vsl (Rp.int .i64)) Ez := E8.vsl
def B7 (p0 : Int) : Bool := (decide (p0 < 0) || decide (8 ≤ p0))
theorem GL (Y : Nat → Prop) (w0 : World)  (p0 : Int) (r : Bool) (H : B7 p0 = r)  :
    Calls Try.prog 60 #[.int .i64 p0] w0 fun e w' => e = .returned (.bool r) ∧ Below w0.heap.size w0 w' := by
 refine enter Try.func60 Aa Try.ntmps60 Aa fun a F => ?_
 have W := Stw.start Y w0
 unfold B7 at H
 refine Ai (Ac ?_)
 refine ls F W Aa (Ah F Aa).q fun a w F W => ?_
 refine Ad (Ab ?_)
 refine AH (fun a w => Fr 9 [] [(2, .bool (decide (p0 < 0) || decide (8 ≤ p0)))] a ∧ Stw ⟨Y, [], w0⟩ [] [] w) ?_ ?_
 ·
  refine Ac ?_
  refine ls F W Aa (Ae F Aa).q fun a w F W => ?_
  refine ls F W Aa (Bq F Aa Aa).q fun a w F W => ?_
  refine ls F W Aa (Ae F Aa).q fun a w F W => ?_
  rcases Bool.eq_false_or_eq_true (decide (p0 < 0)) with hb0 | hb0
  ·
   rw [hb0] at F
   iterate 2 refine BW F Aa Aa Aa Aa Aa Aa Aa fun a F => ?_
   refine ls F W Aa (An F Aa Aa Aa).q fun a w F W => ?_
   refine ls F W Aa (Ah F Aa).q fun a w F W => ?_
   refine Ad (Ab ?_)
   exact ⟨F.re ⟨(by show some (Value.bool true) = some (Value.bool (decide (p0 < 0) || decide (8 ≤ p0))); try rw [hb0]; all_goals simp only [Bool.not_true, Bool.not_false, Bool.true_and, Bool.false_and, Bool.true_or, Bool.false_or, Bool.and_true, Bool.or_false, cond_true, cond_false]), trivial⟩, W⟩
  rw [hb0] at F
  refine Au F W (Af F Aa Aa Aa Aa) Aa (Ak Aa) (Ae F Aa).q fun a w F W => ?_
  refine Au F W (Af F Aa Aa Aa Aa) Aa (Ak Aa) (DC F Aa Aa).q fun a w F W => ?_
  refine ls F W Aa (As F Aa Aa Aa).q fun a w F W => ?_
  refine ls F W Aa (Ah F Aa).q fun a w F W => ?_
  refine Ad (Ab ?_)
  exact ⟨F.re ⟨(by show some (Value.bool (decide (8 ≤ p0))) = some (Value.bool (decide (p0 < 0) || decide (8 ≤ p0))); try rw [hb0]; all_goals simp only [Bool.not_true, Bool.not_false, Bool.true_and, Bool.false_and, Bool.true_or, Bool.false_or, Bool.and_true, Bool.or_false, cond_true, cond_false]), trivial⟩, W⟩
 rintro a w ⟨F, W⟩
 refine AA ?_
 subst H
 refine A8 (.inl Aa) F W Aa (Ap F Aa) ?_
 exact ⟨rfl, W.done⟩
end Go.Proofs.Ytflaelbmglmmcaa
