/- The functions of layer 42, FF. Conditions: none. -/
import Derived.Test.YtflaelbmglmmcaadA0
namespace Go.Proofs.Ytflaelbmglmmcaa
open Go Go.RowKit
set_option linter.unusedVariables false
set_option linter.unusedSimpArgs false
set_option maxRecDepth 20000
theorem Ss : Has Try.prog 53 := ⟨fun args w => Al Try.func53 rfl (by decide) args w⟩
noncomputable def Cz (p0 : (List (Int × Int × Int × Int × (Nat × List Int) × Int × Int × Int)) × (List (Int × Int)) × List Int) (p1 : Int × Int × Int × Int × Int × Int) : Option ((List (Int × Int × Int × Int × (Nat × List Int) × Int × Int × Int)) × (List (Int × Int)) × List Int) := (if p1.1 = 1 then (CV p0 p1).bind fun x1 => some x1 else (if p1.1 = 2 then some true else (if p1.1 = 3 then some true else some (decide (p1.1 = 4)))).bind fun x2 => (if x2 = true then (if (AJ p0 p1.2.2.1) ≠ (-1) then (Cc p0 (AJ p0 p1.2.2.1) p1).bind fun x3 => some x3 else some p0) else some p0))
theorem HF (Y : Nat → Prop) (X : List Nat) (w0 : World) (q_p0 : Nat) (v1 : Value) (m_v2 : Nat) (v3 : Value) (p0 : (List (Int × Int × Int × Int × (Nat × List Int) × Int × Int × Int)) × (List (Int × Int)) × List Int) (p1 : Int × Int × Int × Int × Int × Int) (d_v1 : {x : List (Int × Int × Int × Int × (Value × Nat × List Int) × Int × Int × Int) // x.map CI = p0.1}) (r : ((List (Int × Int × Int × Int × (Nat × List Int) × Int × Int × Int)) × (List (Int × Int)) × List Int)) (H : Cz p0 p1 = some r) (hL : Stw ⟨Y, X, w0⟩ [(q_p0, [v1, .map (some m_v2), v3])] [Be v1 78 BZ d_v1.1, row v3 3 (Rp.int .i64) p0.2.2, mp m_v2 BL BL p0.2.1] w0) :
    Calls Try.prog 43 #[.pointer (some ⟨q_p0, 0, none⟩), .agg #[.int .i64 p1.1, .int .i64 p1.2.1, .int .i64 p1.2.2.1, .int .i64 p1.2.2.2.1, .int .i64 p1.2.2.2.2.1, .int .i64 p1.2.2.2.2.2]] w0 fun e w' => ∃ x : Value × ({x : List (Int × Int × Int × Int × (Value × Nat × List Int) × Int × Int × Int) // x.map CI = r.1}) × Value, e = .returned (.tuple #[]) ∧ Stw ⟨Y, X, w0⟩ [(q_p0, [x.1, .map (some m_v2), x.2.2])] [Be (x.1) 78 BZ (x.2.1.1), row (x.2.2) 3 (Rp.int .i64) r.2.2, mp m_v2 BL BL r.2.1] w' := by
 refine enter Try.func43 Aa Try.ntmps43 Aa fun a F => ?_
 have W := hL
 unfold Cz at H
 refine Ai (Ac ?_)
 refine B9 (cs := [.int .i64 p1.1, .int .i64 p1.2.1, .int .i64 p1.2.2.1, .int .i64 p1.2.2.2.1, .int .i64 p1.2.2.2.2.1, .int .i64 p1.2.2.2.2.2]) F W Aa Aa Aa fun b1 a w F W => ?_
 refine Ad (Ab (Ai (Ac ?_)))
 refine ls F W Aa (Af Cf Aa Aa Aa T3 F Aa 0 Aa).q fun a w F W => ?_
 refine ls F W Aa (Am (v := Value.int .i64 p1.1) 0 F Aa Aa T3 Aa).q fun a w F W => ?_
 refine Ad (Ab (Au (Ai (Ac ?_))))
 refine ls F W Aa (Bz F Aa Aa).q fun a w F W => ?_
 refine ls F W Aa (Ah F Aa).q fun a w F W => ?_
 refine Ad (Ab ?_)
 refine Ax F Aa (fun hb => ?_) fun hb => ?_
 ·
  have H := AK (Bd hb) H
  rw [hb] at F
  clear hb
  refine Ac ?_
  refine ls F W Aa (Ag F Aa).q fun a w F W => ?_
  refine ls F W Aa (Am (v := Value.agg #[.int .i64 p1.1, .int .i64 p1.2.1, .int .i64 p1.2.2.1, .int .i64 p1.2.2.2.1, .int .i64 p1.2.2.2.2.1, .int .i64 p1.2.2.2.2.2]) 0 F Aa Aa Mu Aa).q fun a w F W => ?_
  obtain ⟨x1, h1, H⟩ := An H
  have W := W.frontZ (i := 2) Aa Aa
  have W := W.frontZ (i := 2) Aa Aa
  have W := W.frontZ (i := 2) Aa Aa
  have W := W.frontM (i := 1) Aa Aa
  refine BW (Ml := [(q_p0, [v1, .map (some m_v2), v3])]) (Zl := [Be v1 78 BZ d_v1.1, row v3 3 (Rp.int .i64) p0.2.2, mp m_v2 BL BL p0.2.1]) (M := [(b1, [.int .i64 p1.1, .int .i64 p1.2.1, .int .i64 p1.2.2.1, .int .i64 p1.2.2.2.1, .int .i64 p1.2.2.2.2.1, .int .i64 p1.2.2.2.2.2])]) (Z := []) (β := Value × ({x : List (Int × Int × Int × Int × (Value × Nat × List Int) × Int × Int × Int) // x.map CI = x1.1}) × Value) (rv := fun x => .tuple #[]) (MM := fun x => [(q_p0, [x.1, .map (some m_v2), x.2.2])]) (ZZ := fun x => [Be x.1 78 BZ x.2.1.1, row x.2.2 3 (Rp.int .i64) x1.2.2, mp m_v2 BL BL x1.2.1]) F W Sk Aa Aa (fun hL => HB _ _ w q_p0 (v1) m_v2 (v3) p0 p1 ⟨d_v1.1, d_v1.2⟩ _ h1 hL) fun x a w F W => ?_
  obtain ⟨v4, v5, v6⟩ := x
  have W : Stw ⟨Y, X, w0⟩ [(q_p0, [v4, .map (some m_v2), v6]), (b1, [.int .i64 p1.1, .int .i64 p1.2.1, .int .i64 p1.2.2.1, .int .i64 p1.2.2.2.1, .int .i64 p1.2.2.2.2.1, .int .i64 p1.2.2.2.2.2])] [Be v4 78 BZ v5.1, row v6 3 (Rp.int .i64) x1.2.2, mp m_v2 BL BL x1.2.1] w := W
  refine Ad (AF ?_)
  have H := AN H
  subst H
  refine GF (.inr Aa) F Aa ?_
  have W := W.frontZ (i := 2) Aa Aa
  have W := W.frontZ (i := 2) Aa Aa
  have W := W.frontZ (i := 2) Aa Aa
  have W := W.sub (M' := [(q_p0, [v4, .map (some m_v2), v6])]) (Z' := [Be v4 78 BZ v5.1, row v6 3 (Rp.int .i64) x1.2.2, mp m_v2 BL BL x1.2.1]) (List.Sublist.cons_cons _ (List.nil_sublist _)) (List.Sublist.refl _)
  exact ⟨((v4), ⟨v5.1, v5.2⟩, (v6)), Aa, W⟩
 have H := AL (Bc hb) H
 rw [hb] at F
 clear hb
 obtain ⟨o1, G1, K1⟩ := An H
 refine AB (fun a w => ∃ x2 : Bool, some (x2) = some o1 ∧ Fr 26 [] [(0, .pointer (some ⟨q_p0, 0, none⟩)), (3, .pointer (some ⟨b1, 0, none⟩)), (12, .bool x2)] a ∧ Stw ⟨Y, X, w0⟩ [(b1, [.int .i64 p1.1, .int .i64 p1.2.1, .int .i64 p1.2.2.1, .int .i64 p1.2.2.2.1, .int .i64 p1.2.2.2.2.1, .int .i64 p1.2.2.2.2.2]), (q_p0, [v1, .map (some m_v2), v3])] [Be v1 78 BZ d_v1.1, row v3 3 (Rp.int .i64) p0.2.2, mp m_v2 BL BL p0.2.1] w) ?_ ?_
 ·
  have H := G1
  clear G1 K1
  refine Ai (Ac ?_)
  refine ls F W Aa (Bz F Aa Aa).q fun a w F W => ?_
  refine ls F W Aa (Ah F Aa).q fun a w F W => ?_
  refine Ad (Ab ?_)
  refine Ax F Aa (fun hb => ?_) fun hb => ?_
  ·
   have H := AK (Bd hb) H
   rw [hb] at F
   clear hb
   refine Ap (Ab ?_)
   have W := W.frontZ (i := 2) Aa Aa
   have W := W.frontZ (i := 2) Aa Aa
   have W := W.frontZ (i := 2) Aa Aa
   have W := W.frontM (i := 1) Aa Aa
   have W := W.frontM (i := 1) Aa Aa
   exact ⟨_, H, F.re ⟨rfl, Aa, Aa, trivial⟩, W⟩
  have H := AL (Bc hb) H
  rw [hb] at F
  clear hb
  refine Ai (Ac ?_)
  refine ls F W Aa (Bz F Aa Aa).q fun a w F W => ?_
  refine ls F W Aa (Ah F Aa).q fun a w F W => ?_
  refine Ad (Ab ?_)
  refine Ax F Aa (fun hb => ?_) fun hb => ?_
  ·
   have H := AK (Bd hb) H
   rw [hb] at F
   clear hb
   refine Ap (Ab ?_)
   have W := W.frontZ (i := 2) Aa Aa
   have W := W.frontZ (i := 2) Aa Aa
   have W := W.frontZ (i := 2) Aa Aa
   have W := W.frontM (i := 1) Aa Aa
   have W := W.frontM (i := 1) Aa Aa
   exact ⟨_, H, F.re ⟨rfl, Aa, Aa, trivial⟩, W⟩
  have H := AL (Bc hb) H
  rw [hb] at F
  clear hb
  refine Ac ?_
  refine ls F W Aa (Bz F Aa Aa).q fun a w F W => ?_
  refine ls F W Aa (Ah F Aa).q fun a w F W => ?_
  refine Ad (Ab ?_)
  have W := W.frontZ (i := 2) Aa Aa
  have W := W.frontZ (i := 2) Aa Aa
  have W := W.frontZ (i := 2) Aa Aa
  have W := W.frontM (i := 1) Aa Aa
  have W := W.frontM (i := 1) Aa Aa
  exact ⟨_, H, F.re ⟨rfl, Aa, Aa, trivial⟩, W⟩
 rintro a w ⟨x2, hj, F, W⟩
 have hj := AN hj
 subst hj
 have H := K1
 clear G1 K1
 refine Ax F Aa (fun hb => ?_) fun hb => ?_
 ·
  have H := AK hb H
  rw [hb] at F
  clear hb
  refine Ai (Ac ?_)
  refine ls F W Aa (Ag F Aa).q fun a w F W => ?_
  refine ls F W Aa (Af Cf Aa Aa Aa T3 F Aa 2 Aa).q fun a w F W => ?_
  refine ls F W Aa (Am (v := Value.int .i64 p1.2.2.1) 0 F Aa Aa T3 Aa).q fun a w F W => ?_
  have W := W.frontZ (i := 2) Aa Aa
  have W := W.frontZ (i := 2) Aa Aa
  have W := W.frontZ (i := 2) Aa Aa
  have W := W.frontM (i := 1) Aa Aa
  refine BW (Ml := [(q_p0, [v1, .map (some m_v2), v3])]) (Zl := [Be v1 78 BZ d_v1.1, row v3 3 (Rp.int .i64) p0.2.2, mp m_v2 BL BL p0.2.1]) (M := [(b1, [.int .i64 p1.1, .int .i64 p1.2.1, .int .i64 p1.2.2.1, .int .i64 p1.2.2.2.1, .int .i64 p1.2.2.2.2.1, .int .i64 p1.2.2.2.2.2])]) (Z := []) (β := Unit) (rv := fun x => .int .i64 (AJ p0 p1.2.2.1)) (MM := fun x => [(q_p0, [v1, .map (some m_v2), v3])]) (ZZ := fun x => [Be v1 78 BZ d_v1.1, row v3 3 (Rp.int .i64) p0.2.2, mp m_v2 BL BL p0.2.1]) F W QM Aa Aa (fun hL => EE _ _ w q_p0 (v1) m_v2 (v3) p0 p1.2.2.1 ⟨d_v1.1, d_v1.2⟩ _ Aa hL) fun x a w F W => ?_
  have W : Stw ⟨Y, X, w0⟩ [(q_p0, [v1, .map (some m_v2), v3]), (b1, [.int .i64 p1.1, .int .i64 p1.2.1, .int .i64 p1.2.2.1, .int .i64 p1.2.2.2.1, .int .i64 p1.2.2.2.2.1, .int .i64 p1.2.2.2.2.2])] [Be v1 78 BZ d_v1.1, row v3 3 (Rp.int .i64) p0.2.2, mp m_v2 BL BL p0.2.1] w := W
  refine ls F W Aa (Ah F Aa).q fun a w F W => ?_
  refine Ad (Ab (Ai (Ac ?_)))
  refine ls F W Aa (Ag F Aa).q fun a w F W => ?_
  refine ls F W Aa (Dx F Aa Aa).q fun a w F W => ?_
  refine Ad (Ab ?_)
  refine Ax F Aa (fun hb => ?_) fun hb => ?_
  ·
   have H := AK (Bd hb) H
   rw [hb] at F
   clear hb
   refine Ac ?_
   iterate 2 refine ls F W Aa (Ag F Aa).q fun a w F W => ?_
   refine ls F W Aa (Am (v := Value.agg #[.int .i64 p1.1, .int .i64 p1.2.1, .int .i64 p1.2.2.1, .int .i64 p1.2.2.2.1, .int .i64 p1.2.2.2.2.1, .int .i64 p1.2.2.2.2.2]) 1 F Aa Aa Mu Aa).q fun a w F W => ?_
   obtain ⟨x3, h2, H⟩ := An H
   have W := W.frontZ (i := 2) Aa Aa
   have W := W.frontZ (i := 2) Aa Aa
   have W := W.frontZ (i := 2) Aa Aa
   refine BW (Ml := [(q_p0, [v1, .map (some m_v2), v3])]) (Zl := [Be v1 78 BZ d_v1.1, row v3 3 (Rp.int .i64) p0.2.2, mp m_v2 BL BL p0.2.1]) (M := [(b1, [.int .i64 p1.1, .int .i64 p1.2.1, .int .i64 p1.2.2.1, .int .i64 p1.2.2.2.1, .int .i64 p1.2.2.2.2.1, .int .i64 p1.2.2.2.2.2])]) (Z := []) (β := Value × ({x : List (Int × Int × Int × Int × (Value × Nat × List Int) × Int × Int × Int) // x.map CI = x3.1}) × Value) (rv := fun x => .tuple #[]) (MM := fun x => [(q_p0, [x.1, .map (some m_v2), x.2.2])]) (ZZ := fun x => [Be x.1 78 BZ x.2.1.1, row x.2.2 3 (Rp.int .i64) x3.2.2, mp m_v2 BL BL x3.2.1]) F W Ss Aa Aa (fun hL => Hb _ _ w q_p0 (v1) m_v2 (v3) p0 (AJ p0 p1.2.2.1) p1 ⟨d_v1.1, d_v1.2⟩ _ h2 hL) fun x a w F W => ?_
   obtain ⟨v7, v8, v9⟩ := x
   have W : Stw ⟨Y, X, w0⟩ [(q_p0, [v7, .map (some m_v2), v9]), (b1, [.int .i64 p1.1, .int .i64 p1.2.1, .int .i64 p1.2.2.1, .int .i64 p1.2.2.2.1, .int .i64 p1.2.2.2.2.1, .int .i64 p1.2.2.2.2.2])] [Be v7 78 BZ v8.1, row v9 3 (Rp.int .i64) x3.2.2, mp m_v2 BL BL x3.2.1] w := W
   refine Ad (AF ?_)
   have H := AN H
   subst H
   refine GF (.inr Aa) F Aa ?_
   have W := W.frontZ (i := 2) Aa Aa
   have W := W.frontZ (i := 2) Aa Aa
   have W := W.frontZ (i := 2) Aa Aa
   have W := W.sub (M' := [(q_p0, [v7, .map (some m_v2), v9])]) (Z' := [Be v7 78 BZ v8.1, row v9 3 (Rp.int .i64) x3.2.2, mp m_v2 BL BL x3.2.1]) (List.Sublist.cons_cons _ (List.nil_sublist _)) (List.Sublist.refl _)
   exact ⟨((v7), ⟨v8.1, v8.2⟩, (v9)), Aa, W⟩
  have H := AL (Bc hb) H
  rw [hb] at F
  clear hb
  refine Ap (AF ?_)
  have H := AN H
  subst H
  refine GF (.inr Aa) F Aa ?_
  have W := W.frontZ (i := 2) Aa Aa
  have W := W.frontZ (i := 2) Aa Aa
  have W := W.frontZ (i := 2) Aa Aa
  have W := W.sub (M' := [(q_p0, [v1, .map (some m_v2), v3])]) (Z' := [Be v1 78 BZ d_v1.1, row v3 3 (Rp.int .i64) p0.2.2, mp m_v2 BL BL p0.2.1]) (List.Sublist.cons_cons _ (List.nil_sublist _)) (List.Sublist.refl _)
  exact ⟨((v1), ⟨d_v1.1, d_v1.2⟩, (v3)), Aa, W⟩
 have H := AL (by rw [hb]; decide) H
 rw [hb] at F
 clear hb
 refine Ap (AF ?_)
 have H := AN H
 subst H
 refine GF (.inr Aa) F Aa ?_
 have W := W.frontZ (i := 2) Aa Aa
 have W := W.frontZ (i := 2) Aa Aa
 have W := W.frontZ (i := 2) Aa Aa
 have W := W.frontM (i := 1) Aa Aa
 have W := W.sub (M' := [(q_p0, [v1, .map (some m_v2), v3])]) (Z' := [Be v1 78 BZ d_v1.1, row v3 3 (Rp.int .i64) p0.2.2, mp m_v2 BL BL p0.2.1]) (List.Sublist.cons_cons _ (List.nil_sublist _)) (List.Sublist.refl _)
 exact ⟨((v1), ⟨d_v1.1, d_v1.2⟩, (v3)), Aa, W⟩
theorem Sf : Has Try.prog 43 := ⟨fun args w => Al Try.func43 rfl (by decide) args w⟩
noncomputable def Dm (p0 : List (Int × Int × Int × Int × Int × Int)) : (Int × (List (Int × Int × Int × Int × (Nat × List Int) × Int × Int × Int)) × List Int × (List (Int × Int))) → Option ((Int × (List (Int × Int × Int × Int × (Nat × List Int) × Int × Int × Int)) × List Int × (List (Int × Int))) ⊕ ((List (Int × Int × Int × Int × (Nat × List Int) × Int × Int × Int)) × List Int × (List (Int × Int))))
  | (x4, x5, x6, x7) => (if x4 < (p0.length : Int) then (ix p0 x4).bind fun x8 => (Cz (x5, x7, x6) x8).bind fun x9 => some (.inl (Dz (x4 + 1), x9.1, x9.2.2, x9.2.1)) else some (.inr (x5, x6, x7)))
noncomputable def FP (p0 : List (Int × Int × Int × Int × Int × Int)) : Option (List (Int × Int × Int × Int × List Int × Int × Int × Int)) := (AM (Dm p0) (0, [], [], ([] : List (Int × Int)))).bind fun (x1, x2, x3) => (FZ MX x1).bind fun x10 => some x10
theorem LM (Y : Nat → Prop) (w0 : World) (v1 : Value) (p0 : List (Int × Int × Int × Int × Int × Int)) (r : (List (Int × Int × Int × Int × List Int × Int × Int × Int))) (H : FP p0 = some r) (h_v1 : Sl w0 (NX []) Ej v1 p0) :
    Calls Try.prog 29 #[v1] w0 fun e w' => ∃ x : Value, e = .returned (x) ∧ Stw ⟨Y, [], w0⟩ [] [row (x) 78 Jl r] w' := by
 refine enter Try.func29 Aa Try.ntmps29 Aa fun a F => ?_
 have W := Stw.start Y w0
 unfold FP at H
 refine Ai (Ac ?_)
 refine ls F W Aa (Ah F Aa).q fun a w F W => ?_
 refine Ad (Ab (Ai (Ac ?_)))
 refine GX BL BL F W Aa fun b1 a w F W => ?_
 have W : Stw ⟨Y, [], w0⟩ [] [mp b1 BL BL ([] : List (Int × Int))] w := W
 refine ls F W Aa (BH (v := Value.agg #[.slice none 0 0, .map (some b1), .slice none 0 0]) Rx F Aa Aa Aa).q fun a w F W => ?_
 refine BX (cs := [.slice none 0 0, .map none, .slice none 0 0]) F W Aa Rb Aa fun b2 a w F W => ?_
 refine BJ (vs := [.slice none 0 0, .map (some b1), .slice none 0 0]) (M' := [(b2, [.slice none 0 0, .map (some b1), .slice none 0 0])]) 0 F W Aa Aa Aa Sm Aa Aa Aa Aa Aa fun w W => ?_
 refine Ad (Ab ?_)
 obtain ⟨o1, G1, K1⟩ := An H
 refine AB (fun a w => ∃ x1 : List (Int × Int × Int × Int × (Nat × List Int) × Int × Int × Int), ∃ x2 : List Int, ∃ x3 : List (Int × Int), ∃ v2 : Value, ∃ g_x1 : {x : List (Int × Int × Int × Int × (Value × Nat × List Int) × Int × Int × Int) // x.map CI = x1}, ∃ v3 : Value, some ((x1, x2, x3)) = some o1 ∧ Fr 19 [] [(2, .slice none 0 0), (3, .pointer (some ⟨b2, 0, none⟩))] a ∧ Stw ⟨Y, [], w0⟩ [(b2, [v2, .map (some b1), v3])] [Be v2 78 BZ g_x1.1, row v3 3 (Rp.int .i64) x2, mp b1 BL BL x3] w) ?_ ?_
 ·
  have H := G1
  clear G1 K1
  refine Ai (Ac ?_)
  refine ls F W Aa (Ag F Aa).q fun a w F W => ?_
  refine ls F W Aa (A6 (r := Ej) (l := p0) JE Aa F Aa (Aj h_v1)).q fun a w F W => ?_
  refine ls F W Aa (Ag F Aa).q fun a w F W => ?_
  refine Ad (Ab (Au ?_))
  have W := W.dNil 78 BZ
  have h1 : List.map CI ([] : List (Int × Int × Int × Int × (Value × Nat × List Int) × Int × Int × Int)) = ([] : List (Int × Int × Int × Int × (Nat × List Int) × Int × Int × Int)) := Aa
  have W := W.nilRow 3 (Rp.int .i64)
  have W := W.frontZ (i := 2) Aa Aa
  have W := W.frontZ (i := 1) Aa Aa
  have W := W.frontZ (i := 2) Aa Aa
  refine Bf H (fun s a w => ∃ v4 : Value, ∃ g_x5 : {x : List (Int × Int × Int × Int × (Value × Nat × List Int) × Int × Int × Int) // x.map CI = s.2.1}, ∃ v5 : Value, Fr 19 [] [(2, .slice none 0 0), (3, .pointer (some ⟨b2, 0, none⟩)), (8, v1), (9, .int .i64 (p0.length : Int)), (10, .int .i64 s.1)] a ∧ Stw ⟨Y, [], w0⟩ [(b2, [v4, .map (some b1), v5])] [Be v4 78 BZ g_x5.1, row v5 3 (Rp.int .i64) s.2.2.1, mp b1 BL BL s.2.2.2] w) ⟨(Value.slice none 0 0), ⟨([] : List (Int × Int × Int × Int × (Value × Nat × List Int) × Int × Int × Int)), h1⟩, (Value.slice none 0 0), F.re ⟨rfl, Aa, Aa, Aa, Aa, trivial⟩, W⟩ fun s o a w H L2 hR => ?_
  obtain ⟨x4, x5, x6, x7⟩ := s
  obtain ⟨v4, g_x5, v5, F, W⟩ := hR
  have F : Fr 19 [] [(2, .slice none 0 0), (3, .pointer (some ⟨b2, 0, none⟩)), (8, v1), (9, .int .i64 (p0.length : Int)), (10, .int .i64 x4)] a := F
  have W : Stw ⟨Y, [], w0⟩ [(b2, [v4, .map (some b1), v5])] [Be v4 78 BZ g_x5.1, row v5 3 (Rp.int .i64) x6, mp b1 BL BL x7] w := W
  rw [Dm] at H
  refine Ai (Ac ?_)
  refine ls F W Aa (Bi F Aa Aa).q fun a w F W => ?_
  refine Ad (Ab (Ai ?_))
  refine Ax F Aa (fun hb => ?_) fun hb => ?_
  ·
   have H := AK (Bd hb) H
   rw [hb] at F
   clear hb
   refine Ap (Ab (Ai (Au (Ai (Ac ?_)))))
   obtain ⟨x8, h2, H⟩ := An H
   refine ls F W Aa (Az (r := Ej) JK F Aa Aa (Aj h_v1) h2).q fun a w F W => ?_
   refine ls F W Aa (Aq (y := Value.agg #[.int .i64 x8.1, .int .i64 x8.2.1, .int .i64 x8.2.2.1, .int .i64 x8.2.2.2.1, .int .i64 x8.2.2.2.2.1, .int .i64 x8.2.2.2.2.2]) (j := 0) (i := x4) F Aa Aa (Aj h_v1) h2 JJ.to Mu Aa).q fun a w F W => ?_
   refine BX (cs := [.int .i64 0, .int .i64 0, .int .i64 0, .int .i64 0, .int .i64 0, .int .i64 0]) F W Aa Px Aa fun b3 a w F W => ?_
   refine BJ (vs := [.int .i64 x8.1, .int .i64 x8.2.1, .int .i64 x8.2.2.1, .int .i64 x8.2.2.2.1, .int .i64 x8.2.2.2.2.1, .int .i64 x8.2.2.2.2.2]) (M' := [(b3, [.int .i64 x8.1, .int .i64 x8.2.1, .int .i64 x8.2.2.1, .int .i64 x8.2.2.2.1, .int .i64 x8.2.2.2.2.1, .int .i64 x8.2.2.2.2.2]), (b2, [v4, .map (some b1), v5])]) 0 F W Aa Aa Aa Mu Aa Aa Aa Aa Aa fun w W => ?_
   refine Ad (Ab (Ac ?_))
   refine ls F W Aa (Am (v := Value.agg #[.int .i64 x8.1, .int .i64 x8.2.1, .int .i64 x8.2.2.1, .int .i64 x8.2.2.2.1, .int .i64 x8.2.2.2.2.1, .int .i64 x8.2.2.2.2.2]) 0 F Aa Aa Mu Aa).q fun a w F W => ?_
   obtain ⟨x9, h3, H⟩ := An H
   have W := W.frontZ (i := 2) Aa Aa
   have W := W.frontZ (i := 2) Aa Aa
   have W := W.frontZ (i := 2) Aa Aa
   have W := W.frontM (i := 1) Aa Aa
   refine BW (Ml := [(b2, [v4, .map (some b1), v5])]) (Zl := [Be v4 78 BZ g_x5.1, row v5 3 (Rp.int .i64) x6, mp b1 BL BL x7]) (M := [(b3, [.int .i64 x8.1, .int .i64 x8.2.1, .int .i64 x8.2.2.1, .int .i64 x8.2.2.2.1, .int .i64 x8.2.2.2.2.1, .int .i64 x8.2.2.2.2.2])]) (Z := []) (β := Value × ({x : List (Int × Int × Int × Int × (Value × Nat × List Int) × Int × Int × Int) // x.map CI = x9.1}) × Value) (rv := fun x => .tuple #[]) (MM := fun x => [(b2, [x.1, .map (some b1), x.2.2])]) (ZZ := fun x => [Be x.1 78 BZ x.2.1.1, row x.2.2 3 (Rp.int .i64) x9.2.2, mp b1 BL BL x9.2.1]) F W Sf Aa Aa (fun hL => HF _ _ w b2 (v4) b1 (v5) (x5, x7, x6) x8 ⟨g_x5.1, g_x5.2⟩ _ h3 hL) fun x a w F W => ?_
   obtain ⟨v6, v7, v8⟩ := x
   have W : Stw ⟨Y, [], w0⟩ [(b2, [v6, .map (some b1), v8]), (b3, [.int .i64 x8.1, .int .i64 x8.2.1, .int .i64 x8.2.2.1, .int .i64 x8.2.2.2.1, .int .i64 x8.2.2.2.2.1, .int .i64 x8.2.2.2.2.2])] [Be v6 78 BZ v7.1, row v8 3 (Rp.int .i64) x9.2.2, mp b1 BL BL x9.2.1] w := W
   refine Ad (AF (Ab (Ac ?_)))
   refine ls F W Aa (BS F Aa Aa Aa).q fun a w F W => ?_
   refine ls F W Aa (Ag F Aa).q fun a w F W => ?_
   refine Ad (Ab ?_)
   have W := W.frontZ (i := 2) Aa Aa
   have W := W.frontZ (i := 2) Aa Aa
   have W := W.frontZ (i := 2) Aa Aa
   have W := W.sub (M' := [(b2, [v6, .map (some b1), v8])]) (Z' := [Be v6 78 BZ v7.1, row v8 3 (Rp.int .i64) x9.2.2, mp b1 BL BL x9.2.1]) (List.Sublist.cons_cons _ (List.nil_sublist _)) (List.Sublist.refl _)
   exact ⟨_, H, (v6), ⟨v7.1, v7.2⟩, (v8), F.re ⟨rfl, Aa, Aa, Aa, Aa, trivial⟩, W⟩
  have H := AL (Bc hb) H
  rw [hb] at F
  clear hb
  refine A8 ?_
  iterate 2 refine Bk ?_
  refine A9 (Ab ?_)
  have W := W.frontZ (i := 2) Aa Aa
  have W := W.frontZ (i := 2) Aa Aa
  have W := W.frontZ (i := 2) Aa Aa
  have H := L2 _ H
  exact ⟨_, _, _, (v4), ⟨g_x5.1, g_x5.2⟩, (v5), H, F.re ⟨rfl, Aa, trivial⟩, W⟩
 rintro a w ⟨x1, x2, x3, v2, g_x1, v3, hj, F, W⟩
 have hj := AN hj
 subst hj
 have H := K1
 clear G1 K1
 refine Ai (Ac ?_)
 refine ls F W Aa (Af II Aa Aa Aa Ob F Aa 0 Aa).q fun a w F W => ?_
 refine ls F W Aa (Am (v := v2) 0 F Aa Aa Ob Aa).q fun a w F W => ?_
 refine ls F W Aa (Ah F Aa).q fun a w F W => ?_
 refine Ad (Ab (AA ?_))
 obtain ⟨x10, h4, H⟩ := An H
 have H := AN H
 subst H
 refine AW (.inl Aa) F W Aa (As F Aa) ?_
 have W := Stw.ddRest Qc g_x1.2 h4 W
 have W := W.sub (M' := []) (Z' := [row v2 78 Jl x10]) (List.nil_sublist _) (List.Sublist.cons_cons _ (List.nil_sublist _))
 exact ⟨(v2), Aa, W⟩
theorem ON : type_of% Try.underlying100 := Try.underlying100
theorem PE : type_of% Try.underlying101 := Try.underlying101
theorem RT : Has Try.prog 29 := ⟨fun args w => Al Try.func29 rfl (by decide) args w⟩
abbrev Oi : Rp (Int × Int × Int × Int × (Value × List Int) × Int × Int × Int) := (Rp.pair (Rp.int .i64) (Rp.pair (Rp.int .i64) (Rp.pair (Rp.int .i64) (Rp.pair (Rp.int .i64) (Rp.pair (Rp.vsl (Rp.int .i64)) (Rp.pair (Rp.int .i64) (Rp.pair (Rp.int .i64) (Rp.int .i64))))))))
abbrev Ql (p : Int × Int × Int × Int × (Value × List Int) × Int × Int × Int) : Int × Int × Int × Int × List Int × Int × Int × Int := (p.1, p.2.1, p.2.2.1, p.2.2.2.1, p.2.2.2.2.1.2, p.2.2.2.2.2.1, p.2.2.2.2.2.2.1, p.2.2.2.2.2.2.2)
theorem Pj : Ex Jl Oi Ql := (Ex.pair Ex.rfl' (Ex.pair Ex.rfl' (Ex.pair Ex.rfl' (Ex.pair Ex.rfl' (Ex.pair Ex.sliceF (Ex.pair Ex.rfl' (Ex.pair Ex.rfl' Ex.rfl')))))))
abbrev O2 (a : Int × Int × Int × Int × (Value × List Int) × Int × Int × Int) : List Value := [.int .i64 a.1, .int .i64 a.2.1, .int .i64 a.2.2.1, .int .i64 a.2.2.2.1, a.2.2.2.2.1.1, .int .i64 a.2.2.2.2.2.1, .int .i64 a.2.2.2.2.2.2.1, .int .i64 a.2.2.2.2.2.2.2]
theorem Qm : Ec Oi O2 := (Ec.pair Fl.int.to (Ec.pair Fl.int.to (Ec.pair Fl.int.to (Ec.pair Fl.int.to (Ec.pair Ec.vsl (Ec.pair Fl.int.to (Ec.pair Fl.int.to Fl.int.to)))))))
theorem P3 : Ty Try.prog 78 true 8 := ⟨by kernel_rfl, by kernel_rfl⟩
abbrev D5 (x : Unit) : Value := .agg #[]
theorem PG : Bt Try.prog 101 [] [] := ⟨⟨.agg #[], by kernel_rfl, rfl⟩, ⟨_, PE, fun w => by kernel_rfl⟩⟩
noncomputable def Cu (p0 : Int × Int × Int × Int × List Int × Int × Int × Int) : (Int × (List (Int × Unit))) → Option ((Int × (List (Int × Unit))) ⊕ (List (Int × Unit)))
  | (x2, x3) => (if x2 < (p0.2.2.2.2.1.length : Int) then (ix p0.2.2.2.2.1 x2).bind fun x4 => some (.inl (Dz (x2 + 1), C5 x3 x4 ())) else some (.inr x3))
noncomputable def Dl (p0 : Int × Int × Int × Int × List Int × Int × Int × Int) : Option Bool := (AM (Cu p0) (0, ([] : List (Int × Unit)))).bind fun x1 => some (decide ((x1.length : Int) < (p0.2.2.2.2.1.length : Int)))
theorem J1 (Y : Nat → Prop) (w0 : World) (v1 : Value) (p0 : Int × Int × Int × Int × List Int × Int × Int × Int) (r : Bool) (H : Dl p0 = some r) (h_v1 : Sl w0 (NX []) (Rp.int .i64) v1 p0.2.2.2.2.1) :
    Calls Try.prog 30 #[.agg #[.int .i64 p0.1, .int .i64 p0.2.1, .int .i64 p0.2.2.1, .int .i64 p0.2.2.2.1, v1, .int .i64 p0.2.2.2.2.2.1, .int .i64 p0.2.2.2.2.2.2.1, .int .i64 p0.2.2.2.2.2.2.2]] w0 fun e w' => e = .returned (.bool r) ∧ Below w0.heap.size w0 w' := by
 refine enter Try.func30 Aa Try.ntmps30 Aa fun a F => ?_
 have W := Stw.start Y w0
 unfold Dl at H
 refine Ai (Ac ?_)
 refine B9 (cs := [.int .i64 p0.1, .int .i64 p0.2.1, .int .i64 p0.2.2.1, .int .i64 p0.2.2.2.1, v1, .int .i64 p0.2.2.2.2.2.1, .int .i64 p0.2.2.2.2.2.2.1, .int .i64 p0.2.2.2.2.2.2.2]) F W Aa Aa Aa fun b1 a w F W => ?_
 refine ls F W Aa (Ah F Aa).q fun a w F W => ?_
 refine Ad (Ab (Ai (Ac ?_)))
 refine GX BL D5 F W Aa fun b2 a w F W => ?_
 have W : Stw ⟨Y, [], w0⟩ [(b1, [.int .i64 p0.1, .int .i64 p0.2.1, .int .i64 p0.2.2.1, .int .i64 p0.2.2.2.1, v1, .int .i64 p0.2.2.2.2.2.1, .int .i64 p0.2.2.2.2.2.2.1, .int .i64 p0.2.2.2.2.2.2.2])] [mp b2 BL D5 ([] : List (Int × Unit))] w := W
 refine ls F W Aa (Ah F Aa).q fun a w F W => ?_
 refine Ad (Ab ?_)
 obtain ⟨o1, G1, K1⟩ := An H
 refine AB (fun a w => ∃ x1 : List (Int × Unit), some (x1) = some o1 ∧ Fr 24 [] [(1, .pointer (some ⟨b1, 0, none⟩)), (2, .bool false), (3, .map (some b2))] a ∧ Stw ⟨Y, [], w0⟩ [(b1, [.int .i64 p0.1, .int .i64 p0.2.1, .int .i64 p0.2.2.1, .int .i64 p0.2.2.2.1, v1, .int .i64 p0.2.2.2.2.2.1, .int .i64 p0.2.2.2.2.2.2.1, .int .i64 p0.2.2.2.2.2.2.2])] [mp b2 BL D5 x1] w) ?_ ?_
 ·
  have H := G1
  clear G1 K1
  refine Ai (Ac ?_)
  refine ls F W Aa (Af Fk Aa Aa Aa E1 F Aa 4 Aa).q fun a w F W => ?_
  refine ls F W Aa (Am (v := v1) 0 F Aa Aa E1 Aa).q fun a w F W => ?_
  refine ls F W Aa (A6 (r := (Rp.int .i64)) (l := p0.2.2.2.2.1) Fc Aa F Aa (Aj h_v1)).q fun a w F W => ?_
  refine ls F W Aa (Ag F Aa).q fun a w F W => ?_
  refine Ad (Ab (Au ?_))
  refine Bf H (fun s a w => Fr 24 [] [(1, .pointer (some ⟨b1, 0, none⟩)), (2, .bool false), (3, .map (some b2)), (8, v1), (9, .int .i64 (p0.2.2.2.2.1.length : Int)), (10, .int .i64 s.1)] a ∧ Stw ⟨Y, [], w0⟩ [(b1, [.int .i64 p0.1, .int .i64 p0.2.1, .int .i64 p0.2.2.1, .int .i64 p0.2.2.2.1, v1, .int .i64 p0.2.2.2.2.2.1, .int .i64 p0.2.2.2.2.2.2.1, .int .i64 p0.2.2.2.2.2.2.2])] [mp b2 BL D5 s.2] w) ⟨F.re ⟨rfl, Aa, Aa, Aa, Aa, Aa, trivial⟩, W⟩ fun s o a w H L2 hR => ?_
  obtain ⟨x2, x3⟩ := s
  obtain ⟨F, W⟩ := hR
  have F : Fr 24 [] [(1, .pointer (some ⟨b1, 0, none⟩)), (2, .bool false), (3, .map (some b2)), (8, v1), (9, .int .i64 (p0.2.2.2.2.1.length : Int)), (10, .int .i64 x2)] a := F
  have W : Stw ⟨Y, [], w0⟩ [(b1, [.int .i64 p0.1, .int .i64 p0.2.1, .int .i64 p0.2.2.1, .int .i64 p0.2.2.2.1, v1, .int .i64 p0.2.2.2.2.2.1, .int .i64 p0.2.2.2.2.2.2.1, .int .i64 p0.2.2.2.2.2.2.2])] [mp b2 BL D5 x3] w := W
  rw [Cu] at H
  refine Ai (Ac ?_)
  refine ls F W Aa (Bi F Aa Aa).q fun a w F W => ?_
  refine Ad (Ab (Ai ?_))
  refine Ax F Aa (fun hb => ?_) fun hb => ?_
  ·
   have H := AK (Bd hb) H
   rw [hb] at F
   clear hb
   refine Ap (Ab (Ai (Au (Ai (Ac ?_)))))
   obtain ⟨x4, h1, H⟩ := An H
   refine ls F W Aa (Az (r := (Rp.int .i64)) Hl F Aa Aa (Aj h_v1) h1).q fun a w F W => ?_
   refine ls F W Aa (Aq (y := Value.int .i64 x4) (j := 0) (i := x2) F Aa Aa (Aj h_v1) h1 Fl.int.to T3 Aa).q fun a w F W => ?_
   refine ls F W Aa (Ah F Aa).q fun a w F W => ?_
   refine Ad (Ab (Ac ?_))
   iterate 2 refine ls F W Aa (Ag F Aa).q fun a w F W => ?_
   refine ls F W Aa (BH (v := Value.agg #[]) PG F Aa Aa Aa).q fun a w F W => ?_
   refine GN (q := 0) (kx := (x4 : Int)) (vx := (() : Unit)) (E := BL) (V := D5) F W Aa Aa Aa Aa Aa PB ON fun w W => ?_
   have W : Stw ⟨Y, [], w0⟩ [(b1, [.int .i64 p0.1, .int .i64 p0.2.1, .int .i64 p0.2.2.1, .int .i64 p0.2.2.2.1, v1, .int .i64 p0.2.2.2.2.2.1, .int .i64 p0.2.2.2.2.2.2.1, .int .i64 p0.2.2.2.2.2.2.2])] [mp b2 BL D5 (C5 x3 x4 ())] w := W
   refine Ad (AF (Ab (Ac ?_)))
   refine ls F W Aa (BS F Aa Aa Aa).q fun a w F W => ?_
   refine ls F W Aa (Ag F Aa).q fun a w F W => ?_
   refine Ad (Ab ?_)
   exact ⟨_, H, F.re ⟨rfl, Aa, Aa, Aa, Aa, Aa, trivial⟩, W⟩
  have H := AL (Bc hb) H
  rw [hb] at F
  clear hb
  refine A8 ?_
  iterate 2 refine Bk ?_
  refine A9 (Ab ?_)
  have H := L2 _ H
  exact ⟨_, H, F.re ⟨rfl, Aa, Aa, trivial⟩, W⟩
 rintro a w ⟨x1, hj, F, W⟩
 have hj := AN hj
 subst hj
 have H := K1
 clear G1 K1
 refine Ai (Ac ?_)
 refine ls F W Aa (Ag F Aa).q fun a w F W => ?_
 refine ls F W Aa (NO (q := 0) (E := BL) (V := D5) F Aa Aa Aa ON).q fun a w F W => ?_
 refine ls F W Aa (Af Fk Aa Aa Aa E1 F Aa 4 Aa).q fun a w F W => ?_
 refine ls F W Aa (Am (v := v1) 0 F Aa Aa E1 Aa).q fun a w F W => ?_
 refine ls F W Aa (A6 (r := (Rp.int .i64)) (l := p0.2.2.2.2.1) Fc Aa F Aa (Aj h_v1)).q fun a w F W => ?_
 refine ls F W Aa (Bi F Aa Aa).q fun a w F W => ?_
 refine ls F W Aa (Ah F Aa).q fun a w F W => ?_
 refine Ad (Ab (AA ?_))
 have H := AN H
 subst H
 refine AW (.inl Aa) F W Aa (As F Aa) ?_
 exact ⟨rfl, W.done⟩
theorem OG : type_of% Try.underlying40 := Try.underlying40
theorem Ot : type_of% Try.underlying45 := Try.underlying45
theorem Sj : Has Try.prog 30 := ⟨fun args w => Al Try.func30 rfl (by decide) args w⟩
theorem PK : Bt Try.prog 45 [.int .i64 0, .int .i64 0] [(0, 1), (1, 1)] := ⟨⟨.agg #[.int .i64 0, .int .i64 0], by kernel_rfl, rfl⟩, ⟨_, Ot, fun w => by kernel_rfl⟩⟩
theorem P7 : (Try.prog.info? 45).bind (·.zero) = some (.agg #[.int .i64 0, .int .i64 0]) := by kernel_rfl
abbrev E2 : Rp (Int × Int) := (Rp.pair (Rp.int .i64) (Rp.int .i64))
def Rz (a : Int × Int) : List Value := [.int .i64 a.1, .int .i64 a.2]
theorem O3 : Fl E2 Rz := (Fl.pair Fl.int Fl.int)
theorem NE : Et Try.prog 40 45 2 16 := Et.of OG (by kernel_rfl) (by kernel_rfl) (by kernel_rfl) (by decide)
def Bw (p0 : Int × Int × Int) (p1 : Int) : Bool := (decide (p0.2.1 ≤ p1) && decide (p1 ≤ p0.2.2))
theorem Fs (Y : Nat → Prop) (w0 : World) (q_p1 : Nat) (p0 : Int × Int × Int) (p1 : Int) (r : Bool) (H : Bw p0 p1 = r) (a_q_p1 : At ⟨Y, [], w0⟩ q_p1 0 [.int .i64 p1]) :
    Calls Try.prog 41 #[.agg #[.int .i64 p0.1, .int .i64 p0.2.1, .int .i64 p0.2.2], .pointer (some ⟨q_p1, 0, none⟩)] w0 fun e w' => e = .returned (.bool r) ∧ Below w0.heap.size w0 w' := by
 refine enter Try.func41 Aa Try.ntmps41 Aa fun a F => ?_
 have W := Stw.start Y w0
 unfold Bw at H
 refine Ai (Ac ?_)
 refine B9 (cs := [.int .i64 p0.1, .int .i64 p0.2.1, .int .i64 p0.2.2]) F W Aa Aa Aa fun b1 a w F W => ?_
 refine ls F W Aa (Ah F Aa).q fun a w F W => ?_
 refine Ad (Ab ?_)
 refine AB (fun a w => Fr 14 [] [(3, .bool (decide (p0.2.1 ≤ p1) && decide (p1 ≤ p0.2.2)))] a ∧ Stw ⟨Y, [], w0⟩ [(b1, [.int .i64 p0.1, .int .i64 p0.2.1, .int .i64 p0.2.2])] [] w) ?_ ?_
 ·
  refine Ac ?_
  refine ls F W Aa (Af KO Aa Aa Aa T3 F Aa 1 Aa).q fun a w F W => ?_
  refine ls F W Aa (Am (v := Value.int .i64 p0.2.1) 0 F Aa Aa T3 Aa).q fun a w F W => ?_
  refine ls F W Aa (Kf (y := Value.int .i64 p1) (j := 0) F Aa (Nat.zero_add _).symm a_q_p1 T3 Aa).q fun a w F W => ?_
  refine ls F W Aa (Is F Aa Aa).q fun a w F W => ?_
  refine ls F W Aa (Ag F Aa).q fun a w F W => ?_
  rcases Bool.eq_false_or_eq_true (decide (p0.2.1 ≤ p1)) with hb0 | hb0
  ·
   rw [hb0] at F
   refine Ay F W (Ae F Aa Aa Aa Aa) Aa (Ak Aa) (Kf (y := Value.int .i64 p1) (j := 0) F Aa (Nat.zero_add _).symm a_q_p1 T3 Aa).q fun a w F W => ?_
   refine Ay F W (Ae F Aa Aa Aa Aa) Aa (Ak Aa) (Af KO Aa Aa Aa T3 F Aa 2 Aa).q fun a w F W => ?_
   refine Ay F W (Ae F Aa Aa Aa Aa) Aa (Ak Aa) (Am (v := Value.int .i64 p0.2.2) 0 F Aa Aa T3 Aa).q fun a w F W => ?_
   refine Ay F W (Ae F Aa Aa Aa Aa) Aa (Ak Aa) (Is F Aa Aa).q fun a w F W => ?_
   refine ls F W Aa (Ao F Aa Aa Aa).q fun a w F W => ?_
   refine ls F W Aa (Ah F Aa).q fun a w F W => ?_
   refine Ad (Ab ?_)
   exact ⟨F.re ⟨(by show some (Value.bool (decide (p1 ≤ p0.2.2))) = some (Value.bool (decide (p0.2.1 ≤ p1) && decide (p1 ≤ p0.2.2))); try rw [hb0]; all_goals simp only [Bool.not_true, Bool.not_false, Bool.true_and, Bool.false_and, Bool.true_or, Bool.false_or, Bool.and_true, Bool.or_false, cond_true, cond_false]), trivial⟩, W⟩
  rw [hb0] at F
  iterate 4 refine B4 F Aa Aa Aa Aa Aa Aa Aa fun a F => ?_
  refine ls F W Aa (Av F Aa Aa Aa).q fun a w F W => ?_
  refine ls F W Aa (Ah F Aa).q fun a w F W => ?_
  refine Ad (Ab ?_)
  exact ⟨F.re ⟨(by show some (Value.bool false) = some (Value.bool (decide (p0.2.1 ≤ p1) && decide (p1 ≤ p0.2.2))); try rw [hb0]; all_goals simp only [Bool.not_true, Bool.not_false, Bool.true_and, Bool.false_and, Bool.true_or, Bool.false_or, Bool.and_true, Bool.or_false, cond_true, cond_false]), trivial⟩, W⟩
 rintro a w ⟨F, W⟩
 refine AA ?_
 subst H
 refine AW (.inl Aa) F W Aa (As F Aa) ?_
 exact ⟨rfl, W.done⟩
theorem QZ : Has Try.prog 41 := ⟨fun args w => Al Try.func41 rfl (by decide) args w⟩
noncomputable def AC (p0 : List (Int × Int × Int)) (p1c0 : Int) : Int → Option (Int ⊕ (Unit ⊕ Int))
  | x1 => (if x1 < (p0.length : Int) then (ix p0 x1).bind fun x2 => (if (Bw x2 p1c0) = true then some (.inr (.inr x1)) else some (.inl (Dz (x1 + 1)))) else some (.inr (.inl ())))
noncomputable def AZ (p0 : List (Int × Int × Int)) (p1c0 : Int) : Option Int := D6 (AM (AC p0 p1c0) 0) fun _ => some (-1)
theorem Do (Y : Nat → Prop) (w0 : World) (v1 : Value) (q_p1c0 : Nat) (p0 : List (Int × Int × Int)) (p1c0 : Int) (r : Int) (H : AZ p0 p1c0 = some r) (h_v1 : Sl w0 (NX []) CG v1 p0) (a_q_p1c0 : At ⟨Y, [], w0⟩ q_p1c0 0 [.int .i64 p1c0]) :
    Calls Try.prog 49 #[v1, .func (.func 41) #[] #[.pointer (some ⟨q_p1c0, 0, none⟩)]] w0 fun e w' => e = .returned (.int .i64 r) ∧ Below w0.heap.size w0 w' := by
 refine enter Try.func49 Aa Try.ntmps49 Aa fun a F => ?_
 have W := Stw.start Y w0
 unfold AZ at H
 refine Ai (Ac ?_)
 refine ls F W Aa (Ah F Aa).q fun a w F W => ?_
 refine Ad (Ab ?_)
 obtain ⟨o1, G1, K1, L1⟩ := H4 H
 refine AB (fun a w => some (Sum.inl ()) = some o1 ∧ Fr 19 [] [(4, .int .i64 0)] a ∧ Stw ⟨Y, [], w0⟩ [] [] w) ?_ ?_
 ·
  have H := G1
  clear G1 K1
  refine Ai (Ac ?_)
  refine ls F W Aa (Ag F Aa).q fun a w F W => ?_
  refine ls F W Aa (A6 (r := CG) (l := p0) N4 Aa F Aa (Aj h_v1)).q fun a w F W => ?_
  refine ls F W Aa (Ag F Aa).q fun a w F W => ?_
  refine Ad (Ab (Au ?_))
  refine Bf H (fun s a w => Fr 19 [] [(0, v1), (1, .func (.func 41) #[] #[.pointer (some ⟨q_p1c0, 0, none⟩)]), (4, .int .i64 0), (7, .int .i64 (p0.length : Int)), (8, .int .i64 s)] a ∧ Stw ⟨Y, [], w0⟩ [] [] w) ⟨F.re ⟨rfl, Aa, Aa, Aa, Aa, trivial⟩, W⟩ fun s o a w H L2 hR => ?_
  obtain ⟨x1, rfl⟩ : ∃ x, x = s := ⟨s, rfl⟩
  obtain ⟨F, W⟩ := hR
  have F : Fr 19 [] [(0, v1), (1, .func (.func 41) #[] #[.pointer (some ⟨q_p1c0, 0, none⟩)]), (4, .int .i64 0), (7, .int .i64 (p0.length : Int)), (8, .int .i64 x1)] a := F
  have W : Stw ⟨Y, [], w0⟩ [] [] w := W
  rw [AC] at H
  refine Ai (Ac ?_)
  refine ls F W Aa (Bi F Aa Aa).q fun a w F W => ?_
  refine Ad (Ab (Ai ?_))
  refine Ax F Aa (fun hb => ?_) fun hb => ?_
  ·
   have H := AK (Bd hb) H
   rw [hb] at F
   clear hb
   refine Ap (Ab (Ai (Au (Ai (Ac ?_)))))
   refine ls F W Aa (Ag F Aa).q fun a w F W => ?_
   refine ls F W Aa (Ah F Aa).q fun a w F W => ?_
   refine Ad (Ab (Ai (Ac ?_)))
   iterate 3 refine ls F W Aa (Ag F Aa).q fun a w F W => ?_
   obtain ⟨x2, h1, H⟩ := An H
   refine ls F W Aa (Az (r := CG) Nt F Aa Aa (Aj h_v1) h1).q fun a w F W => ?_
   refine ls F W Aa (Aq (y := Value.agg #[.int .i64 x2.1, .int .i64 x2.2.1, .int .i64 x2.2.2]) (j := 0) (i := x1) F Aa Aa (Aj h_v1) h1 N9.to Ow Aa).q fun a w F W => ?_
   refine ls F W Aa (IV (ws := [.agg #[.int .i64 x2.1, .int .i64 x2.2.1, .int .i64 x2.2.2], .pointer (some ⟨q_p1c0, 0, none⟩)]) (v := Value.bool (Bw x2 p1c0)) F QZ Aa (fun w W => Fs any w q_p1c0 x2 p1c0 _ Aa (At.re a_q_p1c0 W))) fun a w F W => ?_
   refine Ad (Ab ?_)
   refine Ax F Aa (fun hb => ?_) fun hb => ?_
   ·
    have H := AK hb H
    rw [hb] at F
    clear hb
    refine Ai (Ac ?_)
    refine ls F W Aa (Ag F Aa).q fun a w F W => ?_
    refine ls F W Aa (Ah F Aa).q fun a w F W => ?_
    refine Ad (Ab (AA (AH ?_)))
    iterate 2 refine AD ?_
    refine AH (AD ?_)
    have H := L2 _ H
    have H := L1 _ H
    have H := AN H
    subst H
    refine AW (.inl Aa) F W Aa (As F Aa) ?_
    exact ⟨rfl, W.done⟩
   have H := AL (by rw [hb]; decide) H
   rw [hb] at F
   clear hb
   refine Ap (AF (Ab (Ac ?_)))
   refine ls F W Aa (BS F Aa Aa Aa).q fun a w F W => ?_
   refine ls F W Aa (Ag F Aa).q fun a w F W => ?_
   refine Ad (Ab ?_)
   exact ⟨_, H, F.re ⟨rfl, Aa, Aa, Aa, Aa, trivial⟩, W⟩
  have H := AL (Bc hb) H
  rw [hb] at F
  clear hb
  refine A8 ?_
  iterate 2 refine Bk ?_
  refine A9 (Ab ?_)
  have H := L2 _ H
  exact ⟨H, F.re ⟨rfl, trivial⟩, W⟩
 rintro a w ⟨hj, F, W⟩
 have H := K1 _ hj
 clear hj G1 K1 L1
 refine Ai (Ac ?_)
 refine ls F W Aa (Ah F Aa).q fun a w F W => ?_
 refine Ad (Ab (AA ?_))
 have H := AN H
 subst H
 refine AW (.inl Aa) F W Aa (As F Aa) ?_
 exact ⟨rfl, W.done⟩
theorem RG : Has Try.prog 49 := ⟨fun args w => Al Try.func49 rfl (by decide) args w⟩
noncomputable def AS (p0 : List (Int × Int × Int)) (p1c0 : Int) : Option Bool := (AZ p0 p1c0).bind fun x1 => some (decide (0 ≤ x1))
theorem Db (Y : Nat → Prop) (w0 : World) (v1 : Value) (q_p1c0 : Nat) (p0 : List (Int × Int × Int)) (p1c0 : Int) (r : Bool) (H : AS p0 p1c0 = some r) (h_v1 : Sl w0 (NX []) CG v1 p0) (a_q_p1c0 : At ⟨Y, [], w0⟩ q_p1c0 0 [.int .i64 p1c0]) :
    Calls Try.prog 40 #[v1, .func (.func 41) #[] #[.pointer (some ⟨q_p1c0, 0, none⟩)]] w0 fun e w' => e = .returned (.bool r) ∧ Below w0.heap.size w0 w' := by
 refine enter Try.func40 Aa Try.ntmps40 Aa fun a F => ?_
 have W := Stw.start Y w0
 unfold AS at H
 refine Ai (Ac ?_)
 refine ls F W Aa (Ah F Aa).q fun a w F W => ?_
 refine Ad (Ab (Ai (Ac ?_)))
 iterate 2 refine ls F W Aa (Ag F Aa).q fun a w F W => ?_
 obtain ⟨x1, h1, H⟩ := An H
 refine ls F W Aa (Bl (v := Value.int .i64 x1) F RG Aa (fun w W => Do any w (v1) q_p1c0 p0 p1c0 _ h1 (((Aj h_v1) : CH _ _ _ _ _ _) w W).nx (At.re a_q_p1c0 W))) fun a w F W => ?_
 refine ls F W Aa (DH F Aa Aa).q fun a w F W => ?_
 refine ls F W Aa (Ah F Aa).q fun a w F W => ?_
 refine Ad (Ab (AA ?_))
 have H := AN H
 subst H
 refine AW (.inl Aa) F W Aa (As F Aa) ?_
 exact ⟨rfl, W.done⟩
theorem Si : Has Try.prog 40 := ⟨fun args w => Al Try.func40 rfl (by decide) args w⟩
noncomputable def Bh (p0 : (List (Int × Int × Int)) × (List (Int × Int))) (p1 : Int) : Option Bool := (AS p0.1 p1).bind fun x1 => some x1
theorem DX (Y : Nat → Prop) (w0 : World) (v1 : Value) (v2 : Value) (p0 : (List (Int × Int × Int)) × (List (Int × Int))) (p1 : Int) (r : Bool) (H : Bh p0 p1 = some r) (h_v1 : Sl w0 (NX []) CG v1 p0.1) (h_v2 : Sl w0 (NX []) Fb v2 p0.2) :
    Calls Try.prog 27 #[.agg #[v1, v2], .int .i64 p1] w0 fun e w' => e = .returned (.bool r) ∧ Below w0.heap.size w0 w' := by
 refine enter Try.func27 Aa Try.ntmps27 Aa fun a F => ?_
 have W := Stw.start Y w0
 unfold Bh at H
 refine Ai (Ac ?_)
 refine B9 (cs := [v1, v2]) F W Aa Aa Aa fun b1 a w F W => ?_
 refine B9 (cs := [.int .i64 p1]) F W Aa Aa Aa fun b2 a w F W => ?_
 refine ls F W Aa (Ah F Aa).q fun a w F W => ?_
 refine Ad (Ab (Ai (Ac ?_)))
 refine ls F W Aa (Af MP Aa Aa Aa OX F Aa 0 Aa).q fun a w F W => ?_
 refine ls F W Aa (Am (v := v1) 1 F Aa Aa OX Aa).q fun a w F W => ?_
 refine ls F W Aa (Hr (us := []) (vs := [.pointer (some ⟨b2, 0, none⟩)]) F Aa Aa).q fun a w F W => ?_
 obtain ⟨x1, h1, H⟩ := An H
 refine ls F W Aa (Bl (v := Value.bool x1) F Si Aa (fun w W => Db any w (v1) b2 p0.1 p1 _ h1 (((Aj h_v1) : CH _ _ _ _ _ _) w W).nx (Qu W 0 Aa))) fun a w F W => ?_
 refine ls F W Aa (Ah F Aa).q fun a w F W => ?_
 refine Ad (Ab (AA ?_))
 have H := AN H
 subst H
 refine AW (.inl Aa) F W Aa (As F Aa) ?_
 exact ⟨rfl, W.done⟩
theorem QY : Has Try.prog 27 := ⟨fun args w => Al Try.func27 rfl (by decide) args w⟩
theorem Qd (Y : Nat → Prop) (w0 : World) (v : Value) (h1 : v.oneCell' = true) : Calls Try.prog 42 [v].toArray w0 fun e w' => ∃ b, e = .returned (.func (.func 50) #[] #[.pointer (some ⟨b, 0, none⟩)]) ∧ Stw ⟨Y, [], w0⟩ [(b, [v])] [] w' := by
 refine enter Try.func42 Aa Try.ntmps42 Aa fun a F => ?_
 have W := Stw.start Y w0
 refine Ai (Ac ?_)
 refine B9 (cs := [v]) F W Aa Aa (DB h1) fun b1 a w F W => ?_
 refine ls F W Aa (Ah F Aa).q fun a w F W => ?_
 refine Ad (Ab (Ai (Ac ?_)))
 refine ls F W Aa (Hr (us := []) (vs := [.pointer (some ⟨b1, 0, none⟩)]) F Aa Aa).q fun a w F W => ?_
 refine ls F W Aa (Ah F Aa).q fun a w F W => ?_
 refine Ad (Ab (AA ?_))
 refine AW (.inl Aa) F W Aa (As F Aa) ?_
 exact ⟨b1, Aa, W⟩
theorem Q3 : Has Try.prog 42 := ⟨fun args w => Al Try.func42 rfl (by decide) args w⟩
theorem QD : Ty Try.prog 91 true 2 := ⟨by kernel_rfl, by kernel_rfl⟩
theorem Rq (b : Nat) (v : Value) (l : List (Int × Int)) (hn : l.length ≤ 1000000000) :
    O7 Try.prog 50 [.pointer (some ⟨b, 0, none⟩)] (Pw b v Fb l) (IL l) (fun p => [.int .i64 p.1, Value.agg #[.int .i64 p.2.1, .int .i64 p.2.2]]) := by
 intro y K Kx w0 hB hR hY h0
 refine enter (args := [.func (.yield y) #[] #[], .pointer (some ⟨b, 0, none⟩)]) Try.func50 Aa Try.ntmps50 Aa fun a F => ?_
 refine Ai (Ac ?_)
 have W := Stw.start any w0
 have hr := hR _ _ h0
 refine ls F W Aa (I2 (cs := [v]) (v := v) hr.1 (by simp) F Aa OP Aa).q fun a w F W => ?_
 refine ls F W Aa (A6 (r := Fb) (l := l) PS Aa F Aa (Aj hr.2.nx)).q fun a w F W => ?_
 refine ls F W Aa (HE (r := (l.length : Int) - 1) F Aa Aa (KG hn)).q fun a w F W => ?_
 refine ls F W Aa (Ah F Aa).q fun a w F W => ?_
 refine Ad (Ab ?_)
 have hK := hB _ _ _ h0 W.frm.below
 have F : Fr 19 [] [(0, .func (.yield y) #[] #[]), (1, .pointer (some ⟨b, 0, none⟩)), (3, .int .i64 ((l.length : Int) - 1))] a := F.re ⟨rfl, Aa, Aa, trivial⟩
 clear W hr h0
 have hl : l.take l.length = l := List.take_length
 rw [← hl] at hK
 refine Au ?_
 refine Ga (fun m a w => m ≤ l.length ∧ Fr 19 [] [(0, .func (.yield y) #[] #[]), (1, .pointer (some ⟨b, 0, none⟩)), (3, .int .i64 ((m : Int) - 1))] a ∧ K (IL (l.take m)) w) l.length ⟨Nat.le_refl _, F, hK⟩ ?_
 clear F hK w
 rintro m a w ⟨hm, F, hK⟩
 have W := Stw.start any w
 have hr := hR _ _ hK
 refine Ai (Ai (Ac ?_))
 refine ls F W Aa (Ag F Aa).q fun a w1 F W => ?_
 refine ls F W Aa (DH F Aa Aa).q fun a w1 F W => ?_
 refine Ad (Ab ?_)
 cases m with
 | zero =>
  refine HD F Aa ?_
  refine A8 ?_
  iterate 2 refine Bk ?_
  refine A9 ?_
  exact GF (.inr Aa) (F.re (F' := []) trivial) Aa ⟨⟨_, Aa⟩, .inl (hB _ _ _ hK W.frm.below)⟩
 | succ k =>
  refine HG F (by show some (Value.bool (decide ((0 : Int) ≤ (k + 1 : Nat) - 1))) = some (Value.bool true); rw [decide_eq_true (by omega)]) ?_
  have hk : k < l.length := hm
  have hx : ix l (k : Int) = some l[k] := by unfold ix; rw [if_pos (by omega)]; simp
  have hx2 : l[k]? = some l[k] := by simp
  have e1 : ((k + 1 : Nat) : Int) - 1 = k := by omega
  rw [e1] at F
  rw [HS hx2] at hK
  refine Ap (Ab (Ai (Au (Ai ?_))))
  refine J5 6 (fun ⟨_, _, h⟩ => by obtain ⟨⟨_, h⟩, _⟩ := h; cases h) ?_
  iterate 2 refine ls F W Aa (Ag F Aa).q fun a w1 F W => ?_
  refine ls F W Aa (I2 (cs := [v]) (v := v) hr.1 (by simp) F Aa OP Aa).q fun a w1 F W => ?_
  refine ls F W Aa (Ag F Aa).q fun a w1 F W => ?_
  refine ls F W Aa (Az (r := Fb) Qa F Aa Aa (Aj hr.2.nx) hx).q fun a w1 F W => ?_
  refine ls F W Aa (Aq (y := Value.agg #[.int .i64 ((l[k]).1), .int .i64 ((l[k]).2)]) (j := 0) (i := (k : Int)) F Aa Aa (Aj hr.2.nx) hx QS.to QD Aa).q fun a w1 F W => ?_
  refine Ad ?_
  have hK := hB _ _ _ hK W.frm.below
  refine Mo (vs := [.int .i64 k, Value.agg #[.int .i64 ((l[k]).1), .int .i64 ((l[k]).2)]]) F Aa Aa Aa (hY _ _ _ hK) ?_
  rintro e w2 (⟨rfl, hK2⟩ | ⟨rfl, hx2⟩)
  · refine ⟨_, rfl, fun a F => ?_⟩
    refine KF F Aa Aa fun a F => ?_
    refine KK (Ab ?_)
    refine HD F Aa ?_
    refine Ap (AF (Ab (Ac ?_)))
    have W := Stw.start any w2
    refine ls F W Aa (Ag F Aa).q fun a w3 F W => ?_
    refine ls F W Aa (HE (r := (k : Int) - 1) F Aa Aa (KG (by omega))).q fun a w3 F W => ?_
    refine ls F W Aa (Ah F Aa).q fun a w3 F W => ?_
    refine Ad (Ab ?_)
    exact ⟨k, Nat.lt_succ_self k, Nat.le_of_lt hk, F.re ⟨rfl, Aa, Aa, trivial⟩, hB _ _ _ hK2 W.frm.below⟩
  · refine ⟨_, rfl, fun a F => ?_⟩
    refine KF F Aa Aa fun a F => ?_
    refine KK (Ab ?_)
    refine HG F Aa ?_
    refine AA (AH ?_)
    iterate 2 refine AD ?_
    refine AH ?_
    refine GF (.inl Aa) (F.re (F' := []) trivial) Aa ⟨⟨_, Aa⟩, .inr hx2⟩
theorem RD : Has Try.prog 50 := ⟨fun args w => Al Try.func50 rfl (by decide) args w⟩
noncomputable def Bo (p1 : Int) (x2 : Int × Int × Int) : Unit → Option (Unit ⊕ Int)
  | _ => (if x2.2.2 < p1 then some (.inr x2.2.1) else some (.inl ()))
noncomputable def Bq (p0 : (List (Int × Int × Int)) × (List (Int × Int))) (p1 : Int) : Option Int := (back p0.2).bind fun x1 => D6 (Fm (Bo p1) x1 ()) fun _ => some 0
theorem Ef (Y : Nat → Prop) (w0 : World) (v1 : Value) (v2 : Value) (p0 : (List (Int × Int × Int)) × (List (Int × Int))) (p1 : Int) (r : Int) (H : Bq p0 p1 = some r) (h_v1 : Sl w0 (NX []) CG v1 p0.1) (h_v2 : Sl w0 (NX []) Fb v2 p0.2) :
    Calls Try.prog 28 #[.agg #[v1, v2], .int .i64 p1] w0 fun e w' => e = .returned (.int .i64 r) ∧ Below w0.heap.size w0 w' := by
 refine Ny Try.func28 Aa Try.ntmps28 Aa fun a F => ?_
 have W := Stw.start Y w0
 unfold Bq at H
 refine Ai (Ac ?_)
 refine B9 (cs := [v1, v2]) F W Aa Aa Aa fun b1 a w F W => ?_
 refine B9 (cs := [.int .i64 p1]) F W Aa Aa Aa fun b2 a w F W => ?_
 refine BX (cs := [.int .i64 0]) F W Aa Z3 Aa fun b3 a w F W => ?_
 refine Ad (Ab (Ai (Ai (Ac ?_))))
 refine ls F W Aa (Af MP Aa Aa Aa OP F Aa 1 Aa).q fun a w F W => ?_
 refine ls F W Aa (Am (v := v2) 2 F Aa Aa OP Aa).q fun a w F W => ?_
 refine BW (β := Nat) (Ml := []) (M := [(b3, [.int .i64 0]), (b2, [.int .i64 p1]), (b1, [v1, v2])]) (Zl := []) (Z := []) (rv := fun b4 => .func (.func 50) #[] #[.pointer (some ⟨b4, 0, none⟩)]) (MM := fun b4 => [(b4, [v2])]) (ZZ := fun _ => []) F W Q3 Aa Aa (fun _ => Qd _ w v2 ((Aj h_v2) _ W).one) fun b4 a w F W => ?_
 have W : Stw ⟨Y, [], w0⟩ [(b4, [v2]), (b3, [.int .i64 0]), (b2, [.int .i64 p1]), (b1, [v1, v2])] [] w := W
 refine Ad (Ab (Au ?_))
 obtain ⟨x1, h1, H⟩ := An H
 obtain ⟨hn, rfl⟩ := J4 h1
 have F : Fr 18 [] [(0, .agg #[v1, v2]), (1, .int .i64 p1), (2, .pointer (some ⟨b1, 0, none⟩)), (3, .pointer (some ⟨b2, 0, none⟩)), (4, .pointer (some ⟨b3, 0, none⟩)), (7, .pointer (some ⟨b1, 1, none⟩)), (8, v2), (9, .func (.func 50) #[] #[.pointer (some ⟨b4, 0, none⟩)])] a := F.re ⟨rfl, Aa, Aa, Aa, Aa, Aa, Aa, Aa, trivial⟩
 have W := W.frontM (i := 3) Aa Aa
 have W := W.frontM (i := 3) Aa Aa
 have W := W.frontM (i := 3) Aa Aa
 have W := W.frontM (i := 3) Aa Aa
 refine Mj (Z := []) (fun s M Z => M = [(b4, [v2]), (b3, [.int .i64 0]), (b2, [.int .i64 p1]), (b1, [v1, v2])] ∧ Z = []) H F W ⟨rfl, Aa⟩ Aa RD (Rq b4 v2 p0.2 hn) (fun _ => rfl) Aa (fun s M Z hK w Z' W => ?_) (fun l dD1 r1a r1b x2 s o M Z a a₂ w H L1 hK F hF2 W => ?_) fun dD1 s M Z a w H hK F W => ?_
 ·
  obtain ⟨rfl, rfl⟩ := hK
  exact Pw.of (i := 0) W Aa (Aj h_v2)
 ·
  obtain ⟨rfl, rfl⟩ := hK
  have F : Fr 18 [] [(0, .agg #[v1, v2]), (1, .int .i64 p1), (2, .pointer (some ⟨b1, 0, none⟩)), (3, .pointer (some ⟨b2, 0, none⟩)), (4, .pointer (some ⟨b3, 0, none⟩)), (7, .pointer (some ⟨b1, 1, none⟩)), (8, v2), (9, .func (.func 50) #[] #[.pointer (some ⟨b4, 0, none⟩)]), (10, .int .i64 x2.1), (11, .agg #[.int .i64 x2.2.1, .int .i64 x2.2.2])] a := F.re ⟨rfl, Aa, Aa, Aa, Aa, Aa, Aa, Aa, Aa, Aa, trivial⟩
  have W : Stw ⟨Y, [], w0⟩ [(b4, [v2]), (b3, [.int .i64 0]), (b2, [.int .i64 p1]), (b1, [v1, v2])] [r1a, Hm dD1] w := W
  rw [Bo] at H
  refine Ac ?_
  refine BX (cs := [.int .i64 0, .int .i64 0]) F W Aa QT Aa fun b5 a w F W => ?_
  refine BJ (vs := [.int .i64 x2.2.1, .int .i64 x2.2.2]) (M' := [(b5, [.int .i64 x2.2.1, .int .i64 x2.2.2]), (b4, [v2]), (b3, [.int .i64 0]), (b2, [.int .i64 p1]), (b1, [v1, v2])]) 0 F W Aa Aa Aa QD Aa Aa Aa Aa Aa fun w W => ?_
  refine Ad (Ab ?_)
  refine ⟨[(b5, [.int .i64 x2.2.1, .int .i64 x2.2.2]), (b4, [v2]), (b3, [.int .i64 0]), (b2, [.int .i64 p1]), (b1, [v1, v2])], [], W, fun w W => ?_⟩
  have W : Stw ⟨Y, [], w0⟩ [(b5, [.int .i64 x2.2.1, .int .i64 x2.2.2]), (b4, [v2]), (b3, [.int .i64 0]), (b2, [.int .i64 p1]), (b1, [v1, v2])] [r1b, Hm dD1] w := W
  refine Au (Ai (Ac ?_))
  refine ls F W Aa (Af Pg Aa Aa Aa T3 F Aa 1 Aa).q fun a w F W => ?_
  refine ls F W Aa (Am (v := Value.int .i64 x2.2.2) 0 F Aa Aa T3 Aa).q fun a w F W => ?_
  refine ls F W Aa (Am (v := Value.int .i64 p1) 3 F Aa Aa T3 Aa).q fun a w F W => ?_
  refine ls F W Aa (Bi F Aa Aa).q fun a w F W => ?_
  refine Ad (Ab ?_)
  refine Ax F Aa (fun hb => ?_) fun hb => ?_
  ·
   have H := AK (Bd hb) H
   rw [hb] at F
   clear hb
   refine Ai (Ac ?_)
   refine ls F W Aa (Af Pg Aa Aa Aa T3 F Aa 0 Aa).q fun a w F W => ?_
   refine ls F W Aa (Am (v := Value.int .i64 x2.2.1) 0 F Aa Aa T3 Aa).q fun a w F W => ?_
   refine BJ (vs := [.int .i64 x2.2.1]) (M' := [(b5, [.int .i64 x2.2.1, .int .i64 x2.2.2]), (b4, [v2]), (b3, [.int .i64 x2.2.1]), (b2, [.int .i64 p1]), (b1, [v1, v2])]) 2 F W Aa Aa Aa T3 Aa Aa Aa Aa Aa fun w W => ?_
   refine Ad (Ab (AA (AH ?_)))
   refine O1 (M := [(b5, [.int .i64 x2.2.1, .int .i64 x2.2.2]), (b4, [v2]), (b3, [.int .i64 x2.2.1]), (b2, [.int .i64 p1]), (b1, [v1, v2])]) (Z := []) W fun w W => ?_
   have W : Stw ⟨Y, [], w0⟩ [(b5, [.int .i64 x2.2.1, .int .i64 x2.2.2]), (b4, [v2]), (b3, [.int .i64 x2.2.1]), (b2, [.int .i64 p1]), (b1, [v1, v2])] [Hm dD1] w := W
   have F := hF2
   refine AA (AH (AD ?_))
   have H := L1 _ H
   have H := AN H
   subst H
   refine LV (Z := []) (.inl Aa) F W fun w W => ?_
   have W : Stw ⟨Y, [], w0⟩ [(b5, [.int .i64 x2.2.1, .int .i64 x2.2.2]), (b4, [v2]), (b3, [.int .i64 x2.2.1]), (b2, [.int .i64 p1]), (b1, [v1, v2])] [] w := W
   refine Js W Aa (KJ 2 F Aa Aa T3 Aa) ?_
   exact ⟨rfl, W.done⟩
  have H := AL (Bc hb) H
  rw [hb] at F
  clear hb
  refine Ap (AF ?_)
  have W := W.frontZ (i := 1) Aa Aa
  have W := W.frontZ (i := 1) Aa Aa
  have W := W.frontM (i := 4) Aa Aa
  have W := W.frontM (i := 4) Aa Aa
  have W := W.frontM (i := 4) Aa Aa
  have W := W.frontM (i := 4) Aa Aa
  have W := W.sub (M' := [(b4, [v2]), (b3, [.int .i64 0]), (b2, [.int .i64 p1]), (b1, [v1, v2])]) (Z' := [r1b, Hm dD1]) (List.Sublist.cons_cons _ (List.Sublist.cons_cons _ (List.Sublist.cons_cons _ (List.Sublist.cons_cons _ (List.nil_sublist _))))) (List.Sublist.refl _)
  exact Ol ⟨_, _, _, H, ⟨rfl, Aa⟩, W⟩
 obtain ⟨rfl, rfl⟩ := hK
 have F : Fr 18 [Oa dD1] [(0, .agg #[v1, v2]), (1, .int .i64 p1), (2, .pointer (some ⟨b1, 0, none⟩)), (3, .pointer (some ⟨b2, 0, none⟩)), (4, .pointer (some ⟨b3, 0, none⟩)), (7, .pointer (some ⟨b1, 1, none⟩)), (8, v2), (9, .func (.func 50) #[] #[.pointer (some ⟨b4, 0, none⟩)])] a := F
 have W : Stw ⟨Y, [], w0⟩ [(b4, [v2]), (b3, [.int .i64 0]), (b2, [.int .i64 p1]), (b1, [v1, v2])] [Hm dD1] w := W
 refine AF (Ab (Ai (Ac ?_)))
 refine BJ (vs := [.int .i64 0]) (M' := [(b4, [v2]), (b3, [.int .i64 0]), (b2, [.int .i64 p1]), (b1, [v1, v2])]) 1 F W Aa Aa Aa T3 Aa Aa Aa Aa Aa fun w W => ?_
 refine Ad (Ab (AA ?_))
 have H := AN H
 subst H
 refine LV (Z := []) (.inl Aa) F W fun w W => ?_
 have W : Stw ⟨Y, [], w0⟩ [(b4, [v2]), (b3, [.int .i64 0]), (b2, [.int .i64 p1]), (b1, [v1, v2])] [] w := W
 refine Js W Aa (KJ 1 F Aa Aa T3 Aa) ?_
 exact ⟨rfl, W.done⟩
theorem JY : type_of% Try.underlying22 := Try.underlying22
theorem Ca : type_of% Try.underlying114 := Try.underlying114
theorem OR : type_of% Try.underlying123 := Try.underlying123
theorem Ik : type_of% Try.underlying126 := Try.underlying126
theorem QC : Has Try.prog 28 := ⟨fun args w => Al Try.func28 rfl (by decide) args w⟩
abbrev Me (a : Value × List (Value × List Int)) : List Value := [a.1]
theorem Pi : Ec (Rp.vsl (Rp.vsl (Rp.int .i64))) Me := Ec.vsl
theorem P9 : Ty Try.prog 52 false 1 := ⟨by kernel_rfl, by kernel_rfl⟩
theorem IY : Ty Try.prog 22 false 1 := ⟨by kernel_rfl, by kernel_rfl⟩
theorem GW : Ty Try.prog 23 false 1 := ⟨by kernel_rfl, by kernel_rfl⟩
abbrev FW (x : Int × Int) : Value := .agg #[.int .i64 x.1, .int .i64 x.2]
theorem Py : Et Try.prog 22 114 6 48 := Et.of JY (by kernel_rfl) (by kernel_rfl) (by kernel_rfl) (by decide)
def Qq (a : Int × Int × Int × Int × Int × Int) : List Value := [.int .i64 a.1, .int .i64 a.2.1, .int .i64 a.2.2.1, .int .i64 a.2.2.2.1, .int .i64 a.2.2.2.2.1, .int .i64 a.2.2.2.2.2]
theorem M9 : Fl C8 Qq := (Fl.pair Fl.int (Fl.pair Fl.int (Fl.pair Fl.int (Fl.pair Fl.int (Fl.pair Fl.int Fl.int)))))
theorem Jk : Ty Try.prog 114 true 6 := ⟨by kernel_rfl, by kernel_rfl⟩
theorem NU : (Try.prog.info? 114).bind (·.zero) = some (.agg #[.int .i64 0, .int .i64 0, .int .i64 0, .int .i64 0, .int .i64 0, .int .i64 0]) := by kernel_rfl
theorem M8 : Bt Try.prog 126 [.int .i64 0, .int .i64 0] [(0, 1), (1, 1)] := ⟨⟨.agg #[.int .i64 0, .int .i64 0], by kernel_rfl, rfl⟩, ⟨_, Ik, fun w => by kernel_rfl⟩⟩
theorem OK : (Try.prog.info? 126).bind (·.zero) = some (.agg #[.int .i64 0, .int .i64 0]) := by kernel_rfl
abbrev Ek : Rp (Int × Int) := (Rp.pair (Rp.int .i64) (Rp.int .i64))
def Qf (a : Int × Int) : List Value := [.int .i64 a.1, .int .i64 a.2]
theorem Pq : Fl Ek Qf := (Fl.pair Fl.int Fl.int)
theorem Nn : Et Try.prog 123 126 2 16 := Et.of OR (by kernel_rfl) (by kernel_rfl) (by kernel_rfl) (by decide)
theorem P8 : Ty Try.prog 60 true 2 := ⟨by kernel_rfl, by kernel_rfl⟩
noncomputable def Cr (p0 : Int × (List (Int × Int × Int × Int × Int × Int)) × (List (Int × Int))) : ((List (Int × Int)) × Int) → Option (((List (Int × Int)) × Int) ⊕ (List (Int × Int)))
  | (x2, x3) => (if x3 < (p0.2.1.length : Int) then (ix p0.2.1 x3).bind fun x4 => (FR x2 ([(x4.1, x4.2.1), (x4.2.2.1, x4.2.2.2.1)] : List (Int × Int))).bind fun x5 => some (.inl (x5, Dz (x3 + 1))) else some (.inr x2))
noncomputable def Cv (p0 : Int × (List (Int × Int × Int × Int × Int × Int)) × (List (Int × Int))) : ((List (Int × Int)) × Int) → Option (((List (Int × Int)) × Int) ⊕ (List (Int × Int)))
  | (x7, x8) => (if x8 < (p0.2.2.length : Int) then (ix p0.2.2 x8).bind fun x9 => (FR x7 ([x9] : List (Int × Int))).bind fun x10 => some (.inl (x10, Dz (x8 + 1))) else some (.inr x7))
noncomputable def DQ (p0 : Int × (List (Int × Int × Int × Int × Int × Int)) × (List (Int × Int))) : Option (List (Int × Int)) := (AM (Cr p0) ([], 0)).bind fun x1 => (AM (Cv p0) (x1, 0)).bind fun x6 => some x6
theorem JL (Y : Nat → Prop) (w0 : World) (v1 : Value) (v2 : Value) (p0 : Int × (List (Int × Int × Int × Int × Int × Int)) × (List (Int × Int))) (r : (List (Int × Int))) (H : DQ p0 = some r) (h_v1 : Sl w0 (NX []) C8 v1 p0.2.1) (h_v2 : Sl w0 (NX []) EL v2 p0.2.2) :
    Calls Try.prog 64 #[.agg #[.int .i64 p0.1, v1, v2]] w0 fun e w' => ∃ x : Value, e = .returned (x) ∧ Stw ⟨Y, [], w0⟩ [] [row (x) 126 Ek r] w' := by
 refine enter Try.func64 Aa Try.ntmps64 Aa fun a F => ?_
 have W := Stw.start Y w0
 unfold DQ at H
 refine Ai (Ac ?_)
 refine B9 (cs := [.int .i64 p0.1, v1, v2]) F W Aa Aa Aa fun b1 a w F W => ?_
 refine ls F W Aa (Ah F Aa).q fun a w F W => ?_
 refine Ad (Ab (Ai (Ac ?_)))
 refine ls F W Aa (Ah F Aa).q fun a w F W => ?_
 refine Ad (Ab ?_)
 obtain ⟨o1, G1, K1⟩ := An H
 refine AB (fun a w => ∃ x1 : List (Int × Int), ∃ v3 : Value, some (x1) = some o1 ∧ Fr 46 [] [(1, .pointer (some ⟨b1, 0, none⟩)), (2, .slice none 0 0), (3, v3)] a ∧ Stw ⟨Y, [], w0⟩ [(b1, [.int .i64 p0.1, v1, v2])] [row v3 126 Ek x1] w) ?_ ?_
 ·
  have H := G1
  clear G1 K1
  refine Ai (Ac ?_)
  refine ls F W Aa (Af Dg Aa Aa Aa IY F Aa 1 Aa).q fun a w F W => ?_
  refine ls F W Aa (Am (v := v1) 0 F Aa Aa IY Aa).q fun a w F W => ?_
  refine ls F W Aa (A6 (r := C8) (l := p0.2.1) JY Aa F Aa (Aj h_v1)).q fun a w F W => ?_
  refine ls F W Aa (Ag F Aa).q fun a w F W => ?_
  refine Ad (Ab (Au ?_))
  have W := W.nilRow 126 Ek
  refine Bf H (fun s a w => ∃ v4 : Value, Fr 46 [] [(1, .pointer (some ⟨b1, 0, none⟩)), (2, .slice none 0 0), (3, v4), (9, v1), (10, .int .i64 (p0.2.1.length : Int)), (11, .int .i64 s.2)] a ∧ Stw ⟨Y, [], w0⟩ [(b1, [.int .i64 p0.1, v1, v2])] [row v4 126 Ek s.1] w) ⟨(Value.slice none 0 0), F.re ⟨rfl, Aa, Aa, Aa, Aa, Aa, trivial⟩, W⟩ fun s o a w H L2 hR => ?_
  obtain ⟨x2, x3⟩ := s
  obtain ⟨v4, F, W⟩ := hR
  have F : Fr 46 [] [(1, .pointer (some ⟨b1, 0, none⟩)), (2, .slice none 0 0), (3, v4), (9, v1), (10, .int .i64 (p0.2.1.length : Int)), (11, .int .i64 x3)] a := F
  have W : Stw ⟨Y, [], w0⟩ [(b1, [.int .i64 p0.1, v1, v2])] [row v4 126 Ek x2] w := W
  rw [Cr] at H
  refine Ai (Ac ?_)
  refine ls F W Aa (Bi F Aa Aa).q fun a w F W => ?_
  refine Ad (Ab (Ai ?_))
  refine Ax F Aa (fun hb => ?_) fun hb => ?_
  ·
   have H := AK (Bd hb) H
   rw [hb] at F
   clear hb
   refine Ap (Ab (Ai (Au (Ai (Ac ?_)))))
   obtain ⟨x4, h1, H⟩ := An H
   refine ls F W Aa (Az (r := C8) Py F Aa Aa (Aj h_v1) h1).q fun a w F W => ?_
   refine ls F W Aa (Aq (y := Value.agg #[.int .i64 x4.1, .int .i64 x4.2.1, .int .i64 x4.2.2.1, .int .i64 x4.2.2.2.1, .int .i64 x4.2.2.2.2.1, .int .i64 x4.2.2.2.2.2]) (j := 0) (i := x3) F Aa Aa (Aj h_v1) h1 M9.to Jk Aa).q fun a w F W => ?_
   refine BX (cs := [.int .i64 0, .int .i64 0, .int .i64 0, .int .i64 0, .int .i64 0, .int .i64 0]) F W Aa NU Aa fun b2 a w F W => ?_
   refine BJ (vs := [.int .i64 x4.1, .int .i64 x4.2.1, .int .i64 x4.2.2.1, .int .i64 x4.2.2.2.1, .int .i64 x4.2.2.2.2.1, .int .i64 x4.2.2.2.2.2]) (M' := [(b2, [.int .i64 x4.1, .int .i64 x4.2.1, .int .i64 x4.2.2.1, .int .i64 x4.2.2.2.1, .int .i64 x4.2.2.2.2.1, .int .i64 x4.2.2.2.2.2]), (b1, [.int .i64 p0.1, v1, v2])]) 0 F W Aa Aa Aa Jk Aa Aa Aa Aa Aa fun w W => ?_
   refine Ad (Ab (Ac ?_))
   refine ls F W Aa (Ag F Aa).q fun a w F W => ?_
   refine ls F W Aa (Af Ca Aa Aa Aa T3 F Aa 0 Aa).q fun a w F W => ?_
   refine ls F W Aa (Am (v := Value.int .i64 x4.1) 0 F Aa Aa T3 Aa).q fun a w F W => ?_
   refine ls F W Aa (Af Ca Aa Aa Aa T3 F Aa 1 Aa).q fun a w F W => ?_
   refine ls F W Aa (Am (v := Value.int .i64 x4.2.1) 0 F Aa Aa T3 Aa).q fun a w F W => ?_
   refine ls F W Aa (BH (v := Value.agg #[.int .i64 x4.1, .int .i64 x4.2.1]) M8 F Aa Aa Aa).q fun a w F W => ?_
   refine ls F W Aa (Af Ca Aa Aa Aa T3 F Aa 2 Aa).q fun a w F W => ?_
   refine ls F W Aa (Am (v := Value.int .i64 x4.2.2.1) 0 F Aa Aa T3 Aa).q fun a w F W => ?_
   refine ls F W Aa (Af Ca Aa Aa Aa T3 F Aa 3 Aa).q fun a w F W => ?_
   refine ls F W Aa (Am (v := Value.int .i64 x4.2.2.2.1) 0 F Aa Aa T3 Aa).q fun a w F W => ?_
   refine ls F W Aa (BH (v := Value.agg #[.int .i64 x4.2.2.1, .int .i64 x4.2.2.2.1]) M8 F Aa Aa Aa).q fun a w F W => ?_
   refine Da (z := Value.agg #[.int .i64 0, .int .i64 0]) (cs := [.int .i64 x4.1, .int .i64 x4.2.1, .int .i64 x4.2.2.1, .int .i64 x4.2.2.2.1]) Ek ([(x4.1, x4.2.1), (x4.2.2.1, x4.2.2.2.1)] : List (Int × Int)) F W Aa Nn OK Aa Aa Aa Aa Aa Aa (Pq.repL _ _ ([(x4.1, x4.2.1), (x4.2.2.1, x4.2.2.2.1)] : List (Int × Int))) fun v5 a w F W => ?_
   obtain ⟨x5, h2, H⟩ := An H
   refine Cg (r := Ek) (i := 1) F W Aa Nn Aa Aa Aa Aa (CE W 0 Aa) h2 Aa fun v6 a w F W => ?_
   have W : Stw ⟨Y, [], w0⟩ [(b2, [.int .i64 x4.1, .int .i64 x4.2.1, .int .i64 x4.2.2.1, .int .i64 x4.2.2.2.1, .int .i64 x4.2.2.2.2.1, .int .i64 x4.2.2.2.2.2]), (b1, [.int .i64 p0.1, v1, v2])] [row v6 126 Ek x5, row v5 126 Ek ([(x4.1, x4.2.1), (x4.2.2.1, x4.2.2.2.1)] : List (Int × Int))] w := W
   refine ls F W Aa (Ah F Aa).q fun a w F W => ?_
   refine Ad (AF (Ab (Ac ?_)))
   refine ls F W Aa (BS F Aa Aa Aa).q fun a w F W => ?_
   refine ls F W Aa (Ag F Aa).q fun a w F W => ?_
   refine Ad (Ab ?_)
   have W := W.frontM (i := 1) Aa Aa
   have W := W.sub (M' := [(b1, [.int .i64 p0.1, v1, v2])]) (Z' := [row v6 126 Ek x5]) (List.Sublist.cons_cons _ (List.nil_sublist _)) (List.Sublist.cons_cons _ (List.nil_sublist _))
   exact ⟨_, H, (v6), F.re ⟨rfl, Aa, Aa, Aa, Aa, Aa, trivial⟩, W⟩
  have H := AL (Bc hb) H
  rw [hb] at F
  clear hb
  refine A8 ?_
  iterate 2 refine Bk ?_
  refine A9 (Ab ?_)
  have H := L2 _ H
  exact ⟨_, (v4), H, F.re ⟨rfl, Aa, Aa, trivial⟩, W⟩
 rintro a w ⟨x1, v3, hj, F, W⟩
 have hj := AN hj
 subst hj
 have H := K1
 clear G1 K1
 obtain ⟨o3, G3, K3⟩ := An H
 refine AB (fun a w => ∃ x6 : List (Int × Int), ∃ v7 : Value, some (x6) = some o3 ∧ Fr 46 [] [(2, .slice none 0 0), (3, v7)] a ∧ Stw ⟨Y, [], w0⟩ [(b1, [.int .i64 p0.1, v1, v2])] [row v7 126 Ek x6] w) ?_ ?_
 ·
  have H := G3
  clear G3 K3
  refine Ai (Ac ?_)
  refine ls F W Aa (Af Dg Aa Aa Aa GW F Aa 2 Aa).q fun a w F W => ?_
  refine ls F W Aa (Am (v := v2) 0 F Aa Aa GW Aa).q fun a w F W => ?_
  refine ls F W Aa (A6 (r := EL) (l := p0.2.2) IK Aa F Aa (Aj h_v2)).q fun a w F W => ?_
  refine ls F W Aa (Ag F Aa).q fun a w F W => ?_
  refine Ad (Ab (Au ?_))
  refine Bf H (fun s a w => ∃ v8 : Value, Fr 46 [] [(2, .slice none 0 0), (3, v8), (30, v2), (31, .int .i64 (p0.2.2.length : Int)), (32, .int .i64 s.2)] a ∧ Stw ⟨Y, [], w0⟩ [(b1, [.int .i64 p0.1, v1, v2])] [row v8 126 Ek s.1] w) ⟨(v3), F.re ⟨rfl, Aa, Aa, Aa, Aa, trivial⟩, W⟩ fun s o a w H L4 hR => ?_
  obtain ⟨x7, x8⟩ := s
  obtain ⟨v8, F, W⟩ := hR
  have F : Fr 46 [] [(2, .slice none 0 0), (3, v8), (30, v2), (31, .int .i64 (p0.2.2.length : Int)), (32, .int .i64 x8)] a := F
  have W : Stw ⟨Y, [], w0⟩ [(b1, [.int .i64 p0.1, v1, v2])] [row v8 126 Ek x7] w := W
  rw [Cv] at H
  refine Ai (Ac ?_)
  refine ls F W Aa (Bi F Aa Aa).q fun a w F W => ?_
  refine Ad (Ab (Ai ?_))
  refine Ax F Aa (fun hb => ?_) fun hb => ?_
  ·
   have H := AK (Bd hb) H
   rw [hb] at F
   clear hb
   refine Ap (Ab (Ai (Au (Ai (Ac ?_)))))
   obtain ⟨x9, h3, H⟩ := An H
   refine ls F W Aa (Az (r := EL) Od F Aa Aa (Aj h_v2) h3).q fun a w F W => ?_
   refine ls F W Aa (Aq (y := Value.agg #[.int .i64 x9.1, .int .i64 x9.2]) (j := 0) (i := x8) F Aa Aa (Aj h_v2) h3 OA.to P8 Aa).q fun a w F W => ?_
   refine BX (cs := [.int .i64 0, .int .i64 0]) F W Aa QV Aa fun b3 a w F W => ?_
   refine BJ (vs := [.int .i64 x9.1, .int .i64 x9.2]) (M' := [(b3, [.int .i64 x9.1, .int .i64 x9.2]), (b1, [.int .i64 p0.1, v1, v2])]) 0 F W Aa Aa Aa P8 Aa Aa Aa Aa Aa fun w W => ?_
   refine Ad (Ab (Ac ?_))
   refine ls F W Aa (Ag F Aa).q fun a w F W => ?_
   refine ls F W Aa (Af JS Aa Aa Aa T3 F Aa 0 Aa).q fun a w F W => ?_
   refine ls F W Aa (Am (v := Value.int .i64 x9.1) 0 F Aa Aa T3 Aa).q fun a w F W => ?_
   refine ls F W Aa (Af JS Aa Aa Aa T3 F Aa 1 Aa).q fun a w F W => ?_
   refine ls F W Aa (Am (v := Value.int .i64 x9.2) 0 F Aa Aa T3 Aa).q fun a w F W => ?_
   refine ls F W Aa (BH (v := Value.agg #[.int .i64 x9.1, .int .i64 x9.2]) M8 F Aa Aa Aa).q fun a w F W => ?_
   refine Da (z := Value.agg #[.int .i64 0, .int .i64 0]) (cs := [.int .i64 x9.1, .int .i64 x9.2]) Ek ([x9] : List (Int × Int)) F W Aa Nn OK Aa Aa Aa Aa Aa Aa (Pq.repL _ _ ([x9] : List (Int × Int))) fun v9 a w F W => ?_
   obtain ⟨x10, h4, H⟩ := An H
   refine Cg (r := Ek) (i := 1) F W Aa Nn Aa Aa Aa Aa (CE W 0 Aa) h4 Aa fun v10 a w F W => ?_
   have W : Stw ⟨Y, [], w0⟩ [(b3, [.int .i64 x9.1, .int .i64 x9.2]), (b1, [.int .i64 p0.1, v1, v2])] [row v10 126 Ek x10, row v9 126 Ek ([x9] : List (Int × Int))] w := W
   refine ls F W Aa (Ah F Aa).q fun a w F W => ?_
   refine Ad (AF (Ab (Ac ?_)))
   refine ls F W Aa (BS F Aa Aa Aa).q fun a w F W => ?_
   refine ls F W Aa (Ag F Aa).q fun a w F W => ?_
   refine Ad (Ab ?_)
   have W := W.frontM (i := 1) Aa Aa
   have W := W.sub (M' := [(b1, [.int .i64 p0.1, v1, v2])]) (Z' := [row v10 126 Ek x10]) (List.Sublist.cons_cons _ (List.nil_sublist _)) (List.Sublist.cons_cons _ (List.nil_sublist _))
   exact ⟨_, H, (v10), F.re ⟨rfl, Aa, Aa, Aa, Aa, trivial⟩, W⟩
  have H := AL (Bc hb) H
  rw [hb] at F
  clear hb
  refine A8 ?_
  iterate 2 refine Bk ?_
  refine A9 (Ab ?_)
  have H := L4 _ H
  exact ⟨_, (v8), H, F.re ⟨rfl, Aa, trivial⟩, W⟩
 rintro a w ⟨x6, v7, hj, F, W⟩
 have hj := AN hj
 subst hj
 have H := K3
 clear G3 K3
 refine Ai (Ac ?_)
 refine ls F W Aa (Ag F Aa).q fun a w F W => ?_
 refine ls F W Aa (Ah F Aa).q fun a w F W => ?_
 refine Ad (Ab (AA ?_))
 have H := AN H
 subst H
 refine AW (.inl Aa) F W Aa (As F Aa) ?_
 have W := W.sub (M' := []) (Z' := [row v7 126 Ek x6]) (List.nil_sublist _) (List.Sublist.refl _)
 exact ⟨(v7), Aa, W⟩
theorem RH : Has Try.prog 64 := ⟨fun args w => Al Try.func64 rfl (by decide) args w⟩
theorem LZ : Ty Try.prog 126 true 2 := ⟨by kernel_rfl, by kernel_rfl⟩
theorem PU (dd : Nat) (x0 : Int) (x1 : Int) (y0 : Int) (y1 : Int) (w : World) : (Op.equalIn (dd + 2) 126 (.agg #[.int .i64 x0, .int .i64 x1]) (.agg #[.int .i64 y0, .int .i64 y1])).run Try.prog w = .ok (decide (x0 = y0 ∧ x1 = y1)) w :=
  HX (d := dd + 1) (rs := [decide (x0 = y0), decide (x1 = y1)]) Ik (by kernel_rfl) ⟨rfl, G0 (d := dd + 0) rfl rfl On T3 rfl rfl, rfl, G0 (d := dd + 0) rfl rfl On T3 rfl rfl, trivial⟩ (by simp) w
theorem PR : Try.prog.eqGuardType Try.prog.depth 126 = false := by kernel_rfl
theorem O0 (x0 : Int) (x1 : Int) (y0 : Int) (y1 : Int) (w : World) : (Op.equalIn 10000 126 (.agg #[.int .i64 x0, .int .i64 x1]) (.agg #[.int .i64 y0, .int .i64 y1])).run Try.prog w = .ok (decide (x0 = y0 ∧ x1 = y1)) w := PU 9998 x0 x1 y0 y1 w
theorem OO : KeyEnc Try.prog 126 FW := ⟨⟨_, Ik, .inl fun _ _ => rfl⟩, fun x y w => (O0 x.1 x.2 y.1 y.2 w).trans (by congr 1; exact decide_eq_decide.2 (by simp only [Prod.ext_iff])), fun b x w => IJ (m := 9999) (cs := List.toArray [.int .i64 x.1, .int .i64 x.2]) Ik ⟨⟨_, Lw T3 rfl, Gt (m := 9998) On⟩, ⟨_, Lw T3 rfl, Gt (m := 9998) On⟩, trivial⟩ b w, fun x => by simp [Instr.sameBits]⟩
theorem PH : (Try.prog.info? 101).bind (·.zero) = some (.agg #[]) := by kernel_rfl
theorem Qj : Ty Try.prog 101 true 0 := ⟨by kernel_rfl, by kernel_rfl⟩
def Bx (p0 : Int × Int × Int × Int × Int × Int) : Bool := (decide (p0.1 = p0.2.2.1) || (decide (p0.2.2.2.2.1 < 1) || (decide (p0.2.2.2.2.2 < p0.2.2.2.2.1) || decide (1000 < p0.2.2.2.2.2))))
theorem H0 (Y : Nat → Prop) (w0 : World)  (p0 : Int × Int × Int × Int × Int × Int) (r : Bool) (H : Bx p0 = r)  :
    Calls Try.prog 66 #[.agg #[.int .i64 p0.1, .int .i64 p0.2.1, .int .i64 p0.2.2.1, .int .i64 p0.2.2.2.1, .int .i64 p0.2.2.2.2.1, .int .i64 p0.2.2.2.2.2]] w0 fun e w' => e = .returned (.bool r) ∧ Below w0.heap.size w0 w' := by
 refine enter Try.func66 Aa Try.ntmps66 Aa fun a F => ?_
 have W := Stw.start Y w0
 unfold Bx at H
 refine Ai (Ac ?_)
 refine B9 (cs := [.int .i64 p0.1, .int .i64 p0.2.1, .int .i64 p0.2.2.1, .int .i64 p0.2.2.2.1, .int .i64 p0.2.2.2.2.1, .int .i64 p0.2.2.2.2.2]) F W Aa Aa Aa fun b1 a w F W => ?_
 refine ls F W Aa (Ah F Aa).q fun a w F W => ?_
 refine Ad (Ab ?_)
 refine AB (fun a w => Fr 25 [] [(2, .bool (decide (p0.1 = p0.2.2.1) || (decide (p0.2.2.2.2.1 < 1) || (decide (p0.2.2.2.2.2 < p0.2.2.2.2.1) || decide (1000 < p0.2.2.2.2.2)))))] a ∧ Stw ⟨Y, [], w0⟩ [(b1, [.int .i64 p0.1, .int .i64 p0.2.1, .int .i64 p0.2.2.1, .int .i64 p0.2.2.2.1, .int .i64 p0.2.2.2.2.1, .int .i64 p0.2.2.2.2.2])] [] w) ?_ ?_
 ·
  refine Ac ?_
  refine ls F W Aa (Af Ca Aa Aa Aa T3 F Aa 0 Aa).q fun a w F W => ?_
  refine ls F W Aa (Am (v := Value.int .i64 p0.1) 0 F Aa Aa T3 Aa).q fun a w F W => ?_
  refine ls F W Aa (Af Ca Aa Aa Aa T3 F Aa 2 Aa).q fun a w F W => ?_
  refine ls F W Aa (Am (v := Value.int .i64 p0.2.2.1) 0 F Aa Aa T3 Aa).q fun a w F W => ?_
  refine ls F W Aa (Bz F Aa Aa).q fun a w F W => ?_
  refine ls F W Aa (Ag F Aa).q fun a w F W => ?_
  rcases Bool.eq_false_or_eq_true (decide (p0.1 = p0.2.2.1)) with hb0 | hb0
  ·
   rw [hb0] at F
   iterate 3 refine B4 F Aa Aa Aa Aa Aa Aa Aa fun a F => ?_
   refine ls F W Aa (Ao F Aa Aa Aa).q fun a w F W => ?_
   refine ls F W Aa (Ag F Aa).q fun a w F W => ?_
   iterate 5 refine B4 F Aa Aa Aa Aa Aa Aa Aa fun a F => ?_
   refine ls F W Aa (Ao F Aa Aa Aa).q fun a w F W => ?_
   refine ls F W Aa (Ag F Aa).q fun a w F W => ?_
   iterate 3 refine B4 F Aa Aa Aa Aa Aa Aa Aa fun a F => ?_
   refine ls F W Aa (Ao F Aa Aa Aa).q fun a w F W => ?_
   refine ls F W Aa (Ah F Aa).q fun a w F W => ?_
   refine Ad (Ab ?_)
   exact ⟨F.re ⟨(by show some (Value.bool true) = some (Value.bool (decide (p0.1 = p0.2.2.1) || (decide (p0.2.2.2.2.1 < 1) || (decide (p0.2.2.2.2.2 < p0.2.2.2.2.1) || decide (1000 < p0.2.2.2.2.2))))); try rw [hb0]; all_goals simp only [Bool.not_true, Bool.not_false, Bool.true_and, Bool.false_and, Bool.true_or, Bool.false_or, Bool.and_true, Bool.or_false, cond_true, cond_false]), trivial⟩, W⟩
  rw [hb0] at F
  refine Ay F W (Ae F Aa Aa Aa Aa) Aa (Ak Aa) (Af Ca Aa Aa Aa T3 F Aa 4 Aa).q fun a w F W => ?_
  refine Ay F W (Ae F Aa Aa Aa Aa) Aa (Ak Aa) (Am (v := Value.int .i64 p0.2.2.2.2.1) 0 F Aa Aa T3 Aa).q fun a w F W => ?_
  refine Ay F W (Ae F Aa Aa Aa Aa) Aa (Ak Aa) (Bi F Aa Aa).q fun a w F W => ?_
  refine ls F W Aa (Av F Aa Aa Aa).q fun a w F W => ?_
  refine ls F W Aa (Ag F Aa).q fun a w F W => ?_
  rcases Bool.eq_false_or_eq_true (decide (p0.2.2.2.2.1 < 1)) with hb1 | hb1
  ·
   rw [hb1] at F
   iterate 5 refine B4 F Aa Aa Aa Aa Aa Aa Aa fun a F => ?_
   refine ls F W Aa (Ao F Aa Aa Aa).q fun a w F W => ?_
   refine ls F W Aa (Ag F Aa).q fun a w F W => ?_
   iterate 3 refine B4 F Aa Aa Aa Aa Aa Aa Aa fun a F => ?_
   refine ls F W Aa (Ao F Aa Aa Aa).q fun a w F W => ?_
   refine ls F W Aa (Ah F Aa).q fun a w F W => ?_
   refine Ad (Ab ?_)
   exact ⟨F.re ⟨(by show some (Value.bool true) = some (Value.bool (decide (p0.1 = p0.2.2.1) || (decide (p0.2.2.2.2.1 < 1) || (decide (p0.2.2.2.2.2 < p0.2.2.2.2.1) || decide (1000 < p0.2.2.2.2.2))))); try rw [hb1]; try rw [hb0]; all_goals simp only [Bool.not_true, Bool.not_false, Bool.true_and, Bool.false_and, Bool.true_or, Bool.false_or, Bool.and_true, Bool.or_false, cond_true, cond_false]), trivial⟩, W⟩
  rw [hb1] at F
  refine Ay F W (Ae F Aa Aa Aa Aa) Aa (Ak Aa) (Af Ca Aa Aa Aa T3 F Aa 5 Aa).q fun a w F W => ?_
  refine Ay F W (Ae F Aa Aa Aa Aa) Aa (Ak Aa) (Am (v := Value.int .i64 p0.2.2.2.2.2) 0 F Aa Aa T3 Aa).q fun a w F W => ?_
  refine Ay F W (Ae F Aa Aa Aa Aa) Aa (Ak Aa) (Af Ca Aa Aa Aa T3 F Aa 4 Aa).q fun a w F W => ?_
  refine Ay F W (Ae F Aa Aa Aa Aa) Aa (Ak Aa) (Am (v := Value.int .i64 p0.2.2.2.2.1) 0 F Aa Aa T3 Aa).q fun a w F W => ?_
  refine Ay F W (Ae F Aa Aa Aa Aa) Aa (Ak Aa) (Bi F Aa Aa).q fun a w F W => ?_
  refine ls F W Aa (Av F Aa Aa Aa).q fun a w F W => ?_
  refine ls F W Aa (Ag F Aa).q fun a w F W => ?_
  rcases Bool.eq_false_or_eq_true (decide (p0.2.2.2.2.2 < p0.2.2.2.2.1)) with hb2 | hb2
  ·
   rw [hb2] at F
   iterate 3 refine B4 F Aa Aa Aa Aa Aa Aa Aa fun a F => ?_
   refine ls F W Aa (Ao F Aa Aa Aa).q fun a w F W => ?_
   refine ls F W Aa (Ah F Aa).q fun a w F W => ?_
   refine Ad (Ab ?_)
   exact ⟨F.re ⟨(by show some (Value.bool true) = some (Value.bool (decide (p0.1 = p0.2.2.1) || (decide (p0.2.2.2.2.1 < 1) || (decide (p0.2.2.2.2.2 < p0.2.2.2.2.1) || decide (1000 < p0.2.2.2.2.2))))); try rw [hb2]; try rw [hb1]; try rw [hb0]; all_goals simp only [Bool.not_true, Bool.not_false, Bool.true_and, Bool.false_and, Bool.true_or, Bool.false_or, Bool.and_true, Bool.or_false, cond_true, cond_false]), trivial⟩, W⟩
  rw [hb2] at F
  refine Ay F W (Ae F Aa Aa Aa Aa) Aa (Ak Aa) (Af Ca Aa Aa Aa T3 F Aa 5 Aa).q fun a w F W => ?_
  refine Ay F W (Ae F Aa Aa Aa Aa) Aa (Ak Aa) (Am (v := Value.int .i64 p0.2.2.2.2.2) 0 F Aa Aa T3 Aa).q fun a w F W => ?_
  refine Ay F W (Ae F Aa Aa Aa Aa) Aa (Ak Aa) (E6 F Aa Aa).q fun a w F W => ?_
  refine ls F W Aa (Av F Aa Aa Aa).q fun a w F W => ?_
  refine ls F W Aa (Ah F Aa).q fun a w F W => ?_
  refine Ad (Ab ?_)
  exact ⟨F.re ⟨(by show some (Value.bool (decide (1000 < p0.2.2.2.2.2))) = some (Value.bool (decide (p0.1 = p0.2.2.1) || (decide (p0.2.2.2.2.1 < 1) || (decide (p0.2.2.2.2.2 < p0.2.2.2.2.1) || decide (1000 < p0.2.2.2.2.2))))); try rw [hb2]; try rw [hb1]; try rw [hb0]; all_goals simp only [Bool.not_true, Bool.not_false, Bool.true_and, Bool.false_and, Bool.true_or, Bool.false_or, Bool.and_true, Bool.or_false, cond_true, cond_false]), trivial⟩, W⟩
 rintro a w ⟨F, W⟩
 refine AA ?_
 subst H
 refine AW (.inl Aa) F W Aa (As F Aa) ?_
 exact ⟨rfl, W.done⟩
theorem Rn : Has Try.prog 66 := ⟨fun args w => Al Try.func66 rfl (by decide) args w⟩
noncomputable def AG (p0 : List (Int × Int × Int × Int × Int × Int)) : Int → Option (Int ⊕ (Unit ⊕ Int))
  | x1 => (if x1 < (p0.length : Int) then (ix p0 x1).bind fun x2 => (if (Bx x2) = true then some (.inr (.inr x1)) else some (.inl (Dz (x1 + 1)))) else some (.inr (.inl ())))
noncomputable def Bg (p0 : List (Int × Int × Int × Int × Int × Int)) : Option Int := D6 (AM (AG p0) 0) fun _ => some (-1)
theorem D0 (Y : Nat → Prop) (w0 : World) (v1 : Value) (p0 : List (Int × Int × Int × Int × Int × Int)) (r : Int) (H : Bg p0 = some r) (h_v1 : Sl w0 (NX []) C8 v1 p0) :
    Calls Try.prog 70 #[v1, .func (.func 66) #[] #[]] w0 fun e w' => e = .returned (.int .i64 r) ∧ Below w0.heap.size w0 w' := by
 refine enter Try.func70 Aa Try.ntmps70 Aa fun a F => ?_
 have W := Stw.start Y w0
 unfold Bg at H
 refine Ai (Ac ?_)
 refine ls F W Aa (Ah F Aa).q fun a w F W => ?_
 refine Ad (Ab ?_)
 obtain ⟨o1, G1, K1, L1⟩ := H4 H
 refine AB (fun a w => some (Sum.inl ()) = some o1 ∧ Fr 19 [] [(4, .int .i64 0)] a ∧ Stw ⟨Y, [], w0⟩ [] [] w) ?_ ?_
 ·
  have H := G1
  clear G1 K1
  refine Ai (Ac ?_)
  refine ls F W Aa (Ag F Aa).q fun a w F W => ?_
  refine ls F W Aa (A6 (r := C8) (l := p0) JY Aa F Aa (Aj h_v1)).q fun a w F W => ?_
  refine ls F W Aa (Ag F Aa).q fun a w F W => ?_
  refine Ad (Ab (Au ?_))
  refine Bf H (fun s a w => Fr 19 [] [(0, v1), (1, .func (.func 66) #[] #[]), (4, .int .i64 0), (7, .int .i64 (p0.length : Int)), (8, .int .i64 s)] a ∧ Stw ⟨Y, [], w0⟩ [] [] w) ⟨F.re ⟨rfl, Aa, Aa, Aa, Aa, trivial⟩, W⟩ fun s o a w H L2 hR => ?_
  obtain ⟨x1, rfl⟩ : ∃ x, x = s := ⟨s, rfl⟩
  obtain ⟨F, W⟩ := hR
  have F : Fr 19 [] [(0, v1), (1, .func (.func 66) #[] #[]), (4, .int .i64 0), (7, .int .i64 (p0.length : Int)), (8, .int .i64 x1)] a := F
  have W : Stw ⟨Y, [], w0⟩ [] [] w := W
  rw [AG] at H
  refine Ai (Ac ?_)
  refine ls F W Aa (Bi F Aa Aa).q fun a w F W => ?_
  refine Ad (Ab (Ai ?_))
  refine Ax F Aa (fun hb => ?_) fun hb => ?_
  ·
   have H := AK (Bd hb) H
   rw [hb] at F
   clear hb
   refine Ap (Ab (Ai (Au (Ai (Ac ?_)))))
   refine ls F W Aa (Ag F Aa).q fun a w F W => ?_
   refine ls F W Aa (Ah F Aa).q fun a w F W => ?_
   refine Ad (Ab (Ai (Ac ?_)))
   iterate 3 refine ls F W Aa (Ag F Aa).q fun a w F W => ?_
   obtain ⟨x2, h1, H⟩ := An H
   refine ls F W Aa (Az (r := C8) Py F Aa Aa (Aj h_v1) h1).q fun a w F W => ?_
   refine ls F W Aa (Aq (y := Value.agg #[.int .i64 x2.1, .int .i64 x2.2.1, .int .i64 x2.2.2.1, .int .i64 x2.2.2.2.1, .int .i64 x2.2.2.2.2.1, .int .i64 x2.2.2.2.2.2]) (j := 0) (i := x1) F Aa Aa (Aj h_v1) h1 M9.to Jk Aa).q fun a w F W => ?_
   refine ls F W Aa (IV (ws := [.agg #[.int .i64 x2.1, .int .i64 x2.2.1, .int .i64 x2.2.2.1, .int .i64 x2.2.2.2.1, .int .i64 x2.2.2.2.2.1, .int .i64 x2.2.2.2.2.2]]) (v := Value.bool (Bx x2)) F Rn Aa (fun w W => H0 any w x2 _ Aa)) fun a w F W => ?_
   refine Ad (Ab ?_)
   refine Ax F Aa (fun hb => ?_) fun hb => ?_
   ·
    have H := AK hb H
    rw [hb] at F
    clear hb
    refine Ai (Ac ?_)
    refine ls F W Aa (Ag F Aa).q fun a w F W => ?_
    refine ls F W Aa (Ah F Aa).q fun a w F W => ?_
    refine Ad (Ab (AA (AH ?_)))
    iterate 2 refine AD ?_
    refine AH (AD ?_)
    have H := L2 _ H
    have H := L1 _ H
    have H := AN H
    subst H
    refine AW (.inl Aa) F W Aa (As F Aa) ?_
    exact ⟨rfl, W.done⟩
   have H := AL (by rw [hb]; decide) H
   rw [hb] at F
   clear hb
   refine Ap (AF (Ab (Ac ?_)))
   refine ls F W Aa (BS F Aa Aa Aa).q fun a w F W => ?_
   refine ls F W Aa (Ag F Aa).q fun a w F W => ?_
   refine Ad (Ab ?_)
   exact ⟨_, H, F.re ⟨rfl, Aa, Aa, Aa, Aa, trivial⟩, W⟩
  have H := AL (Bc hb) H
  rw [hb] at F
  clear hb
  refine A8 ?_
  iterate 2 refine Bk ?_
  refine A9 (Ab ?_)
  have H := L2 _ H
  exact ⟨H, F.re ⟨rfl, trivial⟩, W⟩
 rintro a w ⟨hj, F, W⟩
 have H := K1 _ hj
 clear hj G1 K1 L1
 refine Ai (Ac ?_)
 refine ls F W Aa (Ah F Aa).q fun a w F W => ?_
 refine Ad (Ab (AA ?_))
 have H := AN H
 subst H
 refine AW (.inl Aa) F W Aa (As F Aa) ?_
 exact ⟨rfl, W.done⟩
theorem R1 : Has Try.prog 70 := ⟨fun args w => Al Try.func70 rfl (by decide) args w⟩
noncomputable def AU (p0 : List (Int × Int × Int × Int × Int × Int)) : Option Bool := (Bg p0).bind fun x1 => some (decide (0 ≤ x1))
theorem DI (Y : Nat → Prop) (w0 : World) (v1 : Value) (p0 : List (Int × Int × Int × Int × Int × Int)) (r : Bool) (H : AU p0 = some r) (h_v1 : Sl w0 (NX []) C8 v1 p0) :
    Calls Try.prog 65 #[v1, .func (.func 66) #[] #[]] w0 fun e w' => e = .returned (.bool r) ∧ Below w0.heap.size w0 w' := by
 refine enter Try.func65 Aa Try.ntmps65 Aa fun a F => ?_
 have W := Stw.start Y w0
 unfold AU at H
 refine Ai (Ac ?_)
 refine ls F W Aa (Ah F Aa).q fun a w F W => ?_
 refine Ad (Ab (Ai (Ac ?_)))
 iterate 2 refine ls F W Aa (Ag F Aa).q fun a w F W => ?_
 obtain ⟨x1, h1, H⟩ := An H
 refine ls F W Aa (Bl (v := Value.int .i64 x1) F R1 Aa (fun w W => D0 any w (v1) p0 _ h1 (((Aj h_v1) : CH _ _ _ _ _ _) w W).nx)) fun a w F W => ?_
 refine ls F W Aa (DH F Aa Aa).q fun a w F W => ?_
 refine ls F W Aa (Ah F Aa).q fun a w F W => ?_
 refine Ad (Ab (AA ?_))
 have H := AN H
 subst H
 refine AW (.inl Aa) F W Aa (As F Aa) ?_
 exact ⟨rfl, W.done⟩
theorem OW : type_of% Try.underlying122 := Try.underlying122
theorem Sc : Has Try.prog 65 := ⟨fun args w => Al Try.func65 rfl (by decide) args w⟩
noncomputable def B1 (p0 : Int × (List (Int × Int × Int × Int × Int × Int)) × (List (Int × Int))) (x2 : (List (Int × Int))) : (Int × (List ((Int × Int) × Unit))) → Option ((Int × (List ((Int × Int) × Unit))) ⊕ ((List ((Int × Int) × Unit)) ⊕ Bool))
  | (x3, x4) => (if x3 < (x2.length : Int) then (ix x2 x3).bind fun x5 => (if (decide (x5.1 < 0) || (decide (p0.1 ≤ x5.1) || (decide (x5.2 < 0) || decide (8 ≤ x5.2)))) = true then some (.inr (.inr false)) else (if ((C2 x4 x5).isSome) = true then some (.inr (.inr false)) else some (.inl (Dz (x3 + 1), C5 x4 x5 ())))) else some (.inr (.inl x4)))
noncomputable def D9 (p0 : Int × (List (Int × Int × Int × Int × Int × Int)) × (List (Int × Int))) : Option Bool := (if (decide (p0.1 < 1) || (decide (8 < p0.1) || (decide (24 < (p0.2.1.length : Int)) || decide (8 < (p0.2.2.length : Int))))) = true then some false else D6 ((DQ p0).bind fun x2 => AM (B1 p0 x2) (0, ([] : List ((Int × Int) × Unit)))) fun x1 => (AU p0.2.1).bind fun x6 => some (!x6))
theorem KR (Y : Nat → Prop) (w0 : World) (v1 : Value) (v2 : Value) (p0 : Int × (List (Int × Int × Int × Int × Int × Int)) × (List (Int × Int))) (r : Bool) (H : D9 p0 = some r) (h_v1 : Sl w0 (NX []) C8 v1 p0.2.1) (h_v2 : Sl w0 (NX []) EL v2 p0.2.2) :
    Calls Try.prog 58 #[.agg #[.int .i64 p0.1, v1, v2]] w0 fun e w' => e = .returned (.bool r) ∧ Below w0.heap.size w0 w' := by
 refine enter Try.func58 Aa Try.ntmps58 Aa fun a F => ?_
 have W := Stw.start Y w0
 unfold D9 at H
 refine Ai (Ac ?_)
 refine B9 (cs := [.int .i64 p0.1, v1, v2]) F W Aa Aa Aa fun b1 a w F W => ?_
 refine ls F W Aa (Ah F Aa).q fun a w F W => ?_
 refine Ad (Ab (Ai ?_))
 refine AB (fun a w => Fr 71 [] [(1, .pointer (some ⟨b1, 0, none⟩)), (2, .bool false), (27, .bool (decide (p0.1 < 1) || (decide (8 < p0.1) || (decide (24 < (p0.2.1.length : Int)) || decide (8 < (p0.2.2.length : Int))))))] a ∧ Stw ⟨Y, [], w0⟩ [(b1, [.int .i64 p0.1, v1, v2])] [] w) ?_ ?_
 ·
  refine Ac ?_
  refine ls F W Aa (Af Dg Aa Aa Aa T3 F Aa 0 Aa).q fun a w F W => ?_
  refine ls F W Aa (Am (v := Value.int .i64 p0.1) 0 F Aa Aa T3 Aa).q fun a w F W => ?_
  refine ls F W Aa (Bi F Aa Aa).q fun a w F W => ?_
  refine ls F W Aa (Ag F Aa).q fun a w F W => ?_
  rcases Bool.eq_false_or_eq_true (decide (p0.1 < 1)) with hb0 | hb0
  ·
   rw [hb0] at F
   iterate 3 refine B4 F Aa Aa Aa Aa Aa Aa Aa fun a F => ?_
   refine ls F W Aa (Ao F Aa Aa Aa).q fun a w F W => ?_
   refine ls F W Aa (Ag F Aa).q fun a w F W => ?_
   iterate 4 refine B4 F Aa Aa Aa Aa Aa Aa Aa fun a F => ?_
   refine ls F W Aa (Ao F Aa Aa Aa).q fun a w F W => ?_
   refine ls F W Aa (Ag F Aa).q fun a w F W => ?_
   iterate 4 refine B4 F Aa Aa Aa Aa Aa Aa Aa fun a F => ?_
   refine ls F W Aa (Ao F Aa Aa Aa).q fun a w F W => ?_
   refine Ad (Ab ?_)
   exact ⟨F.re ⟨rfl, Aa, (by show some (Value.bool true) = some (Value.bool (decide (p0.1 < 1) || (decide (8 < p0.1) || (decide (24 < (p0.2.1.length : Int)) || decide (8 < (p0.2.2.length : Int)))))); try rw [hb0]; all_goals simp only [Bool.not_true, Bool.not_false, Bool.true_and, Bool.false_and, Bool.true_or, Bool.false_or, Bool.and_true, Bool.or_false, cond_true, cond_false]), trivial⟩, W⟩
  rw [hb0] at F
  refine Ay F W (Ae F Aa Aa Aa Aa) Aa (Ak Aa) (Af Dg Aa Aa Aa T3 F Aa 0 Aa).q fun a w F W => ?_
  refine Ay F W (Ae F Aa Aa Aa Aa) Aa (Ak Aa) (Am (v := Value.int .i64 p0.1) 0 F Aa Aa T3 Aa).q fun a w F W => ?_
  refine Ay F W (Ae F Aa Aa Aa Aa) Aa (Ak Aa) (E6 F Aa Aa).q fun a w F W => ?_
  refine ls F W Aa (Av F Aa Aa Aa).q fun a w F W => ?_
  refine ls F W Aa (Ag F Aa).q fun a w F W => ?_
  rcases Bool.eq_false_or_eq_true (decide (8 < p0.1)) with hb1 | hb1
  ·
   rw [hb1] at F
   iterate 4 refine B4 F Aa Aa Aa Aa Aa Aa Aa fun a F => ?_
   refine ls F W Aa (Ao F Aa Aa Aa).q fun a w F W => ?_
   refine ls F W Aa (Ag F Aa).q fun a w F W => ?_
   iterate 4 refine B4 F Aa Aa Aa Aa Aa Aa Aa fun a F => ?_
   refine ls F W Aa (Ao F Aa Aa Aa).q fun a w F W => ?_
   refine Ad (Ab ?_)
   exact ⟨F.re ⟨rfl, Aa, (by show some (Value.bool true) = some (Value.bool (decide (p0.1 < 1) || (decide (8 < p0.1) || (decide (24 < (p0.2.1.length : Int)) || decide (8 < (p0.2.2.length : Int)))))); try rw [hb0]; try rw [hb1]; all_goals simp only [Bool.not_true, Bool.not_false, Bool.true_and, Bool.false_and, Bool.true_or, Bool.false_or, Bool.and_true, Bool.or_false, cond_true, cond_false]), trivial⟩, W⟩
  rw [hb1] at F
  refine Ay F W (Ae F Aa Aa Aa Aa) Aa (Ak Aa) (Af Dg Aa Aa Aa IY F Aa 1 Aa).q fun a w F W => ?_
  refine Ay F W (Ae F Aa Aa Aa Aa) Aa (Ak Aa) (Am (v := v1) 0 F Aa Aa IY Aa).q fun a w F W => ?_
  refine Ay F W (Ae F Aa Aa Aa Aa) Aa (Ak Aa) (A6 (r := C8) (l := p0.2.1) JY Aa F Aa (Aj h_v1)).q fun a w F W => ?_
  refine Ay F W (Ae F Aa Aa Aa Aa) Aa (Ak Aa) (E6 F Aa Aa).q fun a w F W => ?_
  refine ls F W Aa (Av F Aa Aa Aa).q fun a w F W => ?_
  refine ls F W Aa (Ag F Aa).q fun a w F W => ?_
  rcases Bool.eq_false_or_eq_true (decide (24 < (p0.2.1.length : Int))) with hb2 | hb2
  ·
   rw [hb2] at F
   iterate 4 refine B4 F Aa Aa Aa Aa Aa Aa Aa fun a F => ?_
   refine ls F W Aa (Ao F Aa Aa Aa).q fun a w F W => ?_
   refine Ad (Ab ?_)
   exact ⟨F.re ⟨rfl, Aa, (by show some (Value.bool true) = some (Value.bool (decide (p0.1 < 1) || (decide (8 < p0.1) || (decide (24 < (p0.2.1.length : Int)) || decide (8 < (p0.2.2.length : Int)))))); try rw [hb2]; try rw [hb0]; try rw [hb1]; all_goals simp only [Bool.not_true, Bool.not_false, Bool.true_and, Bool.false_and, Bool.true_or, Bool.false_or, Bool.and_true, Bool.or_false, cond_true, cond_false]), trivial⟩, W⟩
  rw [hb2] at F
  refine Ay F W (Ae F Aa Aa Aa Aa) Aa (Ak Aa) (Af Dg Aa Aa Aa GW F Aa 2 Aa).q fun a w F W => ?_
  refine Ay F W (Ae F Aa Aa Aa Aa) Aa (Ak Aa) (Am (v := v2) 0 F Aa Aa GW Aa).q fun a w F W => ?_
  refine Ay F W (Ae F Aa Aa Aa Aa) Aa (Ak Aa) (A6 (r := EL) (l := p0.2.2) IK Aa F Aa (Aj h_v2)).q fun a w F W => ?_
  refine Ay F W (Ae F Aa Aa Aa Aa) Aa (Ak Aa) (E6 F Aa Aa).q fun a w F W => ?_
  refine ls F W Aa (Av F Aa Aa Aa).q fun a w F W => ?_
  refine Ad (Ab ?_)
  exact ⟨F.re ⟨rfl, Aa, (by show some (Value.bool (decide (8 < (p0.2.2.length : Int)))) = some (Value.bool (decide (p0.1 < 1) || (decide (8 < p0.1) || (decide (24 < (p0.2.1.length : Int)) || decide (8 < (p0.2.2.length : Int)))))); try rw [hb2]; try rw [hb0]; try rw [hb1]; all_goals simp only [Bool.not_true, Bool.not_false, Bool.true_and, Bool.false_and, Bool.true_or, Bool.false_or, Bool.and_true, Bool.or_false, cond_true, cond_false]), trivial⟩, W⟩
 rintro a w ⟨F, W⟩
 refine Ax F Aa (fun hb => ?_) fun hb => ?_
 ·
  have H := AK hb H
  rw [hb] at F
  clear hb
  refine Ai (Ac ?_)
  refine ls F W Aa (Ah F Aa).q fun a w F W => ?_
  refine Ad (Ab (AA (AD ?_)))
  have H := AN H
  subst H
  refine AW (.inl Aa) F W Aa (As F Aa) ?_
  exact ⟨rfl, W.done⟩
 have H := AL (by rw [hb]; decide) H
 rw [hb] at F
 clear hb
 refine Ap (Ab (Ai (Ac ?_)))
 refine GX FW D5 F W Aa fun b2 a w F W => ?_
 have W : Stw ⟨Y, [], w0⟩ [(b1, [.int .i64 p0.1, v1, v2])] [mp b2 FW D5 ([] : List ((Int × Int) × Unit))] w := W
 refine ls F W Aa (Ah F Aa).q fun a w F W => ?_
 refine Ad (Ab ?_)
 obtain ⟨o1, G1, K1, L1⟩ := H4 H
 refine AB (fun a w => ∃ x1 : List ((Int × Int) × Unit), some (Sum.inl x1) = some o1 ∧ Fr 71 [] [(1, .pointer (some ⟨b1, 0, none⟩)), (2, .bool false)] a ∧ Stw ⟨Y, [], w0⟩ [(b1, [.int .i64 p0.1, v1, v2])] [mp b2 FW D5 x1] w) ?_ ?_
 ·
  have H := G1
  clear G1 K1
  refine Ai (Ac ?_)
  refine ls F W Aa (Am (v := Value.agg #[.int .i64 p0.1, v1, v2]) 0 F Aa Aa HW Aa).q fun a w F W => ?_
  obtain ⟨x2, h1, H⟩ := An H
  refine BW (Ml := []) (Zl := []) (M := [(b1, [.int .i64 p0.1, v1, v2])]) (Z := [mp b2 FW D5 ([] : List ((Int × Int) × Unit))]) (β := Value) (rv := fun x => x) (MM := fun x => []) (ZZ := fun x => [row x 126 Ek x2]) F W RH Aa Aa (fun hL => JL _ w (v1) (v2) p0 _ h1 ((Aj h_v1) w W).nx ((Aj h_v2) w W).nx) fun x a w F W => ?_
  obtain ⟨v3, rfl⟩ : ∃ y, y = x := ⟨x, rfl⟩
  have W : Stw ⟨Y, [], w0⟩ [(b1, [.int .i64 p0.1, v1, v2])] [row v3 126 Ek x2, mp b2 FW D5 ([] : List ((Int × Int) × Unit))] w := W
  refine ls F W Aa (A6 (r := Ek) (l := x2) OR Aa F Aa (AE 0 Aa)).q fun a w F W => ?_
  refine ls F W Aa (Ag F Aa).q fun a w F W => ?_
  refine Ad (Ab (Au ?_))
  have W := W.frontZ (i := 1) Aa Aa
  have W := W.frontZ (i := 1) Aa Aa
  refine Bf H (fun s a w => Fr 71 [] [(1, .pointer (some ⟨b1, 0, none⟩)), (2, .bool false), (3, .map (some b2)), (30, v3), (31, .int .i64 (x2.length : Int)), (32, .int .i64 s.1)] a ∧ Stw ⟨Y, [], w0⟩ [(b1, [.int .i64 p0.1, v1, v2])] [row v3 126 Ek x2, mp b2 FW D5 s.2] w) ⟨F.re ⟨rfl, Aa, Aa, Aa, Aa, Aa, trivial⟩, W⟩ fun s o a w H L2 hR => ?_
  obtain ⟨x3, x4⟩ := s
  obtain ⟨F, W⟩ := hR
  have F : Fr 71 [] [(1, .pointer (some ⟨b1, 0, none⟩)), (2, .bool false), (3, .map (some b2)), (30, v3), (31, .int .i64 (x2.length : Int)), (32, .int .i64 x3)] a := F
  have W : Stw ⟨Y, [], w0⟩ [(b1, [.int .i64 p0.1, v1, v2])] [row v3 126 Ek x2, mp b2 FW D5 x4] w := W
  rw [B1] at H
  refine Ai (Ac ?_)
  refine ls F W Aa (Bi F Aa Aa).q fun a w F W => ?_
  refine Ad (Ab (Ai ?_))
  refine Ax F Aa (fun hb => ?_) fun hb => ?_
  ·
   have H := AK (Bd hb) H
   rw [hb] at F
   clear hb
   refine Ap (Ab (Ai (Au (Ai (Ac ?_)))))
   obtain ⟨x5, h2, H⟩ := An H
   refine ls F W Aa (Az (r := Ek) Nn F Aa Aa (AE 0 Aa) h2).q fun a w F W => ?_
   refine ls F W Aa (Aq (y := Value.agg #[.int .i64 x5.1, .int .i64 x5.2]) (j := 0) (i := x3) F Aa Aa (AE 0 Aa) h2 Pq.to LZ Aa).q fun a w F W => ?_
   refine BX (cs := [.int .i64 0, .int .i64 0]) F W Aa OK Aa fun b3 a w F W => ?_
   refine BJ (vs := [.int .i64 x5.1, .int .i64 x5.2]) (M' := [(b3, [.int .i64 x5.1, .int .i64 x5.2]), (b1, [.int .i64 p0.1, v1, v2])]) 0 F W Aa Aa Aa LZ Aa Aa Aa Aa Aa fun w W => ?_
   refine Ad (Ab (Ai ?_))
   refine AB (fun a w => Fr 71 [] [(1, .pointer (some ⟨b1, 0, none⟩)), (2, .bool false), (3, .map (some b2)), (5, .pointer (some ⟨b3, 0, none⟩)), (30, v3), (31, .int .i64 (x2.length : Int)), (32, .int .i64 x3), (55, .bool (decide (x5.1 < 0) || (decide (p0.1 ≤ x5.1) || (decide (x5.2 < 0) || decide (8 ≤ x5.2)))))] a ∧ Stw ⟨Y, [], w0⟩ [(b3, [.int .i64 x5.1, .int .i64 x5.2]), (b1, [.int .i64 p0.1, v1, v2])] [row v3 126 Ek x2, mp b2 FW D5 x4] w) ?_ ?_
   ·
    refine Ac ?_
    refine ls F W Aa (Af Ik Aa Aa Aa T3 F Aa 0 Aa).q fun a w F W => ?_
    refine ls F W Aa (Am (v := Value.int .i64 x5.1) 0 F Aa Aa T3 Aa).q fun a w F W => ?_
    refine ls F W Aa (Bi F Aa Aa).q fun a w F W => ?_
    refine ls F W Aa (Ag F Aa).q fun a w F W => ?_
    rcases Bool.eq_false_or_eq_true (decide (x5.1 < 0)) with hb0 | hb0
    ·
     rw [hb0] at F
     iterate 5 refine B4 F Aa Aa Aa Aa Aa Aa Aa fun a F => ?_
     refine ls F W Aa (Ao F Aa Aa Aa).q fun a w F W => ?_
     refine ls F W Aa (Ag F Aa).q fun a w F W => ?_
     iterate 3 refine B4 F Aa Aa Aa Aa Aa Aa Aa fun a F => ?_
     refine ls F W Aa (Ao F Aa Aa Aa).q fun a w F W => ?_
     refine ls F W Aa (Ag F Aa).q fun a w F W => ?_
     iterate 3 refine B4 F Aa Aa Aa Aa Aa Aa Aa fun a F => ?_
     refine ls F W Aa (Ao F Aa Aa Aa).q fun a w F W => ?_
     refine Ad (Ab ?_)
     exact ⟨F.re ⟨rfl, Aa, Aa, Aa, Aa, Aa, Aa, (by show some (Value.bool true) = some (Value.bool (decide (x5.1 < 0) || (decide (p0.1 ≤ x5.1) || (decide (x5.2 < 0) || decide (8 ≤ x5.2))))); try rw [hb0]; all_goals simp only [Bool.not_true, Bool.not_false, Bool.true_and, Bool.false_and, Bool.true_or, Bool.false_or, Bool.and_true, Bool.or_false, cond_true, cond_false]), trivial⟩, W⟩
    rw [hb0] at F
    refine Ay F W (Ae F Aa Aa Aa Aa) Aa (Ak Aa) (Af Ik Aa Aa Aa T3 F Aa 0 Aa).q fun a w F W => ?_
    refine Ay F W (Ae F Aa Aa Aa Aa) Aa (Ak Aa) (Am (v := Value.int .i64 x5.1) 0 F Aa Aa T3 Aa).q fun a w F W => ?_
    refine Ay F W (Ae F Aa Aa Aa Aa) Aa (Ak Aa) (Af Dg Aa Aa Aa T3 F Aa 0 Aa).q fun a w F W => ?_
    refine Ay F W (Ae F Aa Aa Aa Aa) Aa (Ak Aa) (Am (v := Value.int .i64 p0.1) 1 F Aa Aa T3 Aa).q fun a w F W => ?_
    refine Ay F W (Ae F Aa Aa Aa Aa) Aa (Ak Aa) (DH F Aa Aa).q fun a w F W => ?_
    refine ls F W Aa (Av F Aa Aa Aa).q fun a w F W => ?_
    refine ls F W Aa (Ag F Aa).q fun a w F W => ?_
    rcases Bool.eq_false_or_eq_true (decide (p0.1 ≤ x5.1)) with hb1 | hb1
    ·
     rw [hb1] at F
     iterate 3 refine B4 F Aa Aa Aa Aa Aa Aa Aa fun a F => ?_
     refine ls F W Aa (Ao F Aa Aa Aa).q fun a w F W => ?_
     refine ls F W Aa (Ag F Aa).q fun a w F W => ?_
     iterate 3 refine B4 F Aa Aa Aa Aa Aa Aa Aa fun a F => ?_
     refine ls F W Aa (Ao F Aa Aa Aa).q fun a w F W => ?_
     refine Ad (Ab ?_)
     exact ⟨F.re ⟨rfl, Aa, Aa, Aa, Aa, Aa, Aa, (by show some (Value.bool true) = some (Value.bool (decide (x5.1 < 0) || (decide (p0.1 ≤ x5.1) || (decide (x5.2 < 0) || decide (8 ≤ x5.2))))); try rw [hb1]; try rw [hb0]; all_goals simp only [Bool.not_true, Bool.not_false, Bool.true_and, Bool.false_and, Bool.true_or, Bool.false_or, Bool.and_true, Bool.or_false, cond_true, cond_false]), trivial⟩, W⟩
    rw [hb1] at F
    refine Ay F W (Ae F Aa Aa Aa Aa) Aa (Ak Aa) (Af Ik Aa Aa Aa T3 F Aa 1 Aa).q fun a w F W => ?_
    refine Ay F W (Ae F Aa Aa Aa Aa) Aa (Ak Aa) (Am (v := Value.int .i64 x5.2) 0 F Aa Aa T3 Aa).q fun a w F W => ?_
    refine Ay F W (Ae F Aa Aa Aa Aa) Aa (Ak Aa) (Bi F Aa Aa).q fun a w F W => ?_
    refine ls F W Aa (Av F Aa Aa Aa).q fun a w F W => ?_
    refine ls F W Aa (Ag F Aa).q fun a w F W => ?_
    rcases Bool.eq_false_or_eq_true (decide (x5.2 < 0)) with hb2 | hb2
    ·
     rw [hb2] at F
     iterate 3 refine B4 F Aa Aa Aa Aa Aa Aa Aa fun a F => ?_
     refine ls F W Aa (Ao F Aa Aa Aa).q fun a w F W => ?_
     refine Ad (Ab ?_)
     exact ⟨F.re ⟨rfl, Aa, Aa, Aa, Aa, Aa, Aa, (by show some (Value.bool true) = some (Value.bool (decide (x5.1 < 0) || (decide (p0.1 ≤ x5.1) || (decide (x5.2 < 0) || decide (8 ≤ x5.2))))); try rw [hb1]; try rw [hb0]; try rw [hb2]; all_goals simp only [Bool.not_true, Bool.not_false, Bool.true_and, Bool.false_and, Bool.true_or, Bool.false_or, Bool.and_true, Bool.or_false, cond_true, cond_false]), trivial⟩, W⟩
    rw [hb2] at F
    refine Ay F W (Ae F Aa Aa Aa Aa) Aa (Ak Aa) (Af Ik Aa Aa Aa T3 F Aa 1 Aa).q fun a w F W => ?_
    refine Ay F W (Ae F Aa Aa Aa Aa) Aa (Ak Aa) (Am (v := Value.int .i64 x5.2) 0 F Aa Aa T3 Aa).q fun a w F W => ?_
    refine Ay F W (Ae F Aa Aa Aa Aa) Aa (Ak Aa) (DH F Aa Aa).q fun a w F W => ?_
    refine ls F W Aa (Av F Aa Aa Aa).q fun a w F W => ?_
    refine Ad (Ab ?_)
    exact ⟨F.re ⟨rfl, Aa, Aa, Aa, Aa, Aa, Aa, (by show some (Value.bool (decide (8 ≤ x5.2))) = some (Value.bool (decide (x5.1 < 0) || (decide (p0.1 ≤ x5.1) || (decide (x5.2 < 0) || decide (8 ≤ x5.2))))); try rw [hb1]; try rw [hb0]; try rw [hb2]; all_goals simp only [Bool.not_true, Bool.not_false, Bool.true_and, Bool.false_and, Bool.true_or, Bool.false_or, Bool.and_true, Bool.or_false, cond_true, cond_false]), trivial⟩, W⟩
   rintro a w ⟨F, W⟩
   refine Ax F Aa (fun hb => ?_) fun hb => ?_
   ·
    have H := AK hb H
    rw [hb] at F
    clear hb
    refine Ai (Ac ?_)
    refine ls F W Aa (Ah F Aa).q fun a w F W => ?_
    refine Ad (Ab (AA (AD (AH ?_))))
    iterate 2 refine AD ?_
    refine AH (AD ?_)
    have H := L2 _ H
    have H := L1 _ H
    have H := AN H
    subst H
    refine AW (.inl Aa) F W Aa (As F Aa) ?_
    exact ⟨rfl, W.done⟩
   have H := AL (by rw [hb]; decide) H
   rw [hb] at F
   clear hb
   refine Ap (Ab (Ai (Ai (Ac ?_))))
   refine ls F W Aa (Ag F Aa).q fun a w F W => ?_
   refine ls F W Aa (Am (v := Value.agg #[.int .i64 x5.1, .int .i64 x5.2]) 0 F Aa Aa LZ Aa).q fun a w F W => ?_
   refine ls F W Aa (H6 (zv := (() : Unit)) (kx := (x5 : Int × Int)) (q := 1) (E := FW) (V := D5) F Aa Aa Aa OO OW PH).q fun a w F W => ?_
   refine ls F W Aa (Ag F Aa).q fun a w F W => ?_
   refine ls F W Aa (Bj (v := Value.agg #[]) F Aa Aa).q fun a w F W => ?_
   refine ls F W Aa (Bj (v := Value.bool ((C2 x4 x5).isSome)) F Aa Aa).q fun a w F W => ?_
   refine BX (cs := []) F W Aa PH Aa fun b4 a w F W => ?_
   refine BJ (vs := []) (M' := [(b4, []), (b3, [.int .i64 x5.1, .int .i64 x5.2]), (b1, [.int .i64 p0.1, v1, v2])]) 0 F W Aa Aa Aa Qj Aa Aa Aa Aa Aa fun w W => ?_
   refine ls F W Aa (Ah F Aa).q fun a w F W => ?_
   refine Ad (Ab (Ai (Ac ?_)))
   refine ls F W Aa (Ag F Aa).q fun a w F W => ?_
   refine Ad (Ab ?_)
   refine Ax F Aa (fun hb => ?_) fun hb => ?_
   ·
    have H := AK hb H
    rw [hb] at F
    clear hb
    refine Ai (Ac ?_)
    refine ls F W Aa (Ah F Aa).q fun a w F W => ?_
    refine Ad (Ab (AA (AD (AH ?_))))
    iterate 2 refine AD ?_
    refine AH (AD ?_)
    have H := L2 _ H
    have H := L1 _ H
    have H := AN H
    subst H
    refine AW (.inl Aa) F W Aa (As F Aa) ?_
    exact ⟨rfl, W.done⟩
   have H := AL (by rw [hb]; decide) H
   rw [hb] at F
   clear hb
   refine Ap (Ab (Ac ?_))
   refine ls F W Aa (Ag F Aa).q fun a w F W => ?_
   refine ls F W Aa (Am (v := Value.agg #[.int .i64 x5.1, .int .i64 x5.2]) 1 F Aa Aa LZ Aa).q fun a w F W => ?_
   refine ls F W Aa (BH (v := Value.agg #[]) PG F Aa Aa Aa).q fun a w F W => ?_
   refine GN (q := 1) (kx := (x5 : Int × Int)) (vx := (() : Unit)) (E := FW) (V := D5) F W Aa Aa Aa Aa Aa OO OW fun w W => ?_
   have W : Stw ⟨Y, [], w0⟩ [(b4, []), (b3, [.int .i64 x5.1, .int .i64 x5.2]), (b1, [.int .i64 p0.1, v1, v2])] [mp b2 FW D5 (C5 x4 x5 ()), row v3 126 Ek x2] w := W
   refine Ad (AF (Ab (Ac ?_)))
   refine ls F W Aa (BS F Aa Aa Aa).q fun a w F W => ?_
   refine ls F W Aa (Ag F Aa).q fun a w F W => ?_
   refine Ad (Ab ?_)
   have W := W.frontZ (i := 1) Aa Aa
   have W := W.frontM (i := 2) Aa Aa
   have W := W.sub (M' := [(b1, [.int .i64 p0.1, v1, v2])]) (Z' := [row v3 126 Ek x2, mp b2 FW D5 (C5 x4 x5 ())]) (List.Sublist.cons_cons _ (List.nil_sublist _)) (List.Sublist.refl _)
   exact ⟨_, H, F.re ⟨rfl, Aa, Aa, Aa, Aa, Aa, trivial⟩, W⟩
  have H := AL (Bc hb) H
  rw [hb] at F
  clear hb
  refine A8 ?_
  iterate 2 refine Bk ?_
  refine A9 (Ab ?_)
  have W := W.frontZ (i := 1) Aa Aa
  have W := W.sub (M' := [(b1, [.int .i64 p0.1, v1, v2])]) (Z' := [mp b2 FW D5 x4]) (List.Sublist.refl _) (List.Sublist.cons_cons _ (List.nil_sublist _))
  have H := L2 _ H
  exact ⟨_, H, F.re ⟨rfl, Aa, trivial⟩, W⟩
 rintro a w ⟨x1, hj, F, W⟩
 have H := K1 _ hj
 clear hj G1 K1 L1
 refine Ai (Ac ?_)
 refine ls F W Aa (Af Dg Aa Aa Aa IY F Aa 1 Aa).q fun a w F W => ?_
 refine ls F W Aa (Am (v := v1) 0 F Aa Aa IY Aa).q fun a w F W => ?_
 obtain ⟨x6, h3, H⟩ := An H
 refine ls F W Aa (Bl (v := Value.bool x6) F Sc Aa (fun w W => DI any w (v1) p0.2.1 _ h3 (((Aj h_v1) : CH _ _ _ _ _ _) w W).nx)) fun a w F W => ?_
 refine ls F W Aa (E5 F Aa).q fun a w F W => ?_
 refine ls F W Aa (Ah F Aa).q fun a w F W => ?_
 refine Ad (Ab (AA ?_))
 have H := AN H
 subst H
 refine AW (.inl Aa) F W Aa (As F Aa) ?_
 exact ⟨rfl, W.done⟩
theorem So : Has Try.prog 58 := ⟨fun args w => Al Try.func58 rfl (by decide) args w⟩
abbrev Fi (a : Value × List Int) : List Value := [a.1]
theorem IA : Ec (Rp.vsl (Rp.int .i64)) Fi := Ec.vsl
def Ci (p0 : Int) : Bool := (decide (p0 < 0) || decide (8 ≤ p0))
theorem HO (Y : Nat → Prop) (w0 : World)  (p0 : Int) (r : Bool) (H : Ci p0 = r)  :
    Calls Try.prog 60 #[.int .i64 p0] w0 fun e w' => e = .returned (.bool r) ∧ Below w0.heap.size w0 w' := by
 refine enter Try.func60 Aa Try.ntmps60 Aa fun a F => ?_
 have W := Stw.start Y w0
 unfold Ci at H
 refine Ai (Ac ?_)
 refine ls F W Aa (Ah F Aa).q fun a w F W => ?_
 refine Ad (Ab ?_)
 refine AB (fun a w => Fr 9 [] [(2, .bool (decide (p0 < 0) || decide (8 ≤ p0)))] a ∧ Stw ⟨Y, [], w0⟩ [] [] w) ?_ ?_
 ·
  refine Ac ?_
  refine ls F W Aa (Ag F Aa).q fun a w F W => ?_
  refine ls F W Aa (Bi F Aa Aa).q fun a w F W => ?_
  refine ls F W Aa (Ag F Aa).q fun a w F W => ?_
  rcases Bool.eq_false_or_eq_true (decide (p0 < 0)) with hb0 | hb0
  ·
   rw [hb0] at F
   iterate 2 refine B4 F Aa Aa Aa Aa Aa Aa Aa fun a F => ?_
   refine ls F W Aa (Ao F Aa Aa Aa).q fun a w F W => ?_
   refine ls F W Aa (Ah F Aa).q fun a w F W => ?_
   refine Ad (Ab ?_)
   exact ⟨F.re ⟨(by show some (Value.bool true) = some (Value.bool (decide (p0 < 0) || decide (8 ≤ p0))); try rw [hb0]; all_goals simp only [Bool.not_true, Bool.not_false, Bool.true_and, Bool.false_and, Bool.true_or, Bool.false_or, Bool.and_true, Bool.or_false, cond_true, cond_false]), trivial⟩, W⟩
  rw [hb0] at F
  refine Ay F W (Ae F Aa Aa Aa Aa) Aa (Ak Aa) (Ag F Aa).q fun a w F W => ?_
  refine Ay F W (Ae F Aa Aa Aa Aa) Aa (Ak Aa) (DH F Aa Aa).q fun a w F W => ?_
  refine ls F W Aa (Av F Aa Aa Aa).q fun a w F W => ?_
  refine ls F W Aa (Ah F Aa).q fun a w F W => ?_
  refine Ad (Ab ?_)
  exact ⟨F.re ⟨(by show some (Value.bool (decide (8 ≤ p0))) = some (Value.bool (decide (p0 < 0) || decide (8 ≤ p0))); try rw [hb0]; all_goals simp only [Bool.not_true, Bool.not_false, Bool.true_and, Bool.false_and, Bool.true_or, Bool.false_or, Bool.and_true, Bool.or_false, cond_true, cond_false]), trivial⟩, W⟩
 rintro a w ⟨F, W⟩
 refine AA ?_
 subst H
 refine AW (.inl Aa) F W Aa (As F Aa) ?_
 exact ⟨rfl, W.done⟩
end Go.Proofs.Ytflaelbmglmmcaa
