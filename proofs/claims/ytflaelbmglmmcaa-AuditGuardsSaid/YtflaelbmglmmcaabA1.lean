/- The functions of layer 42, Gn. Conditions: none. -/
import Derived.Test.YtflaelbmglmmcaabA0
namespace Go.Proofs.Ytflaelbmglmmcaa
open Go Go.RowKit
set_option linter.unusedVariables false
set_option linter.unusedSimpArgs false
set_option maxRecDepth 20000
theorem Nr : Has Try.prog 53 := ⟨fun args w => Aj Try.func53 rfl (by decide) args w⟩
noncomputable def Cs (p0 : (List (Int × Int × Int × Int × (Nat × List Int) × Int × Int × Int)) × (List (Int × Int)) × List Int) (p1 : Int × Int × Int × Int × Int × Int) : Option ((List (Int × Int × Int × Int × (Nat × List Int) × Int × Int × Int)) × (List (Int × Int)) × List Int) := (if p1.1 = 1 then (Ct p0 p1).bind fun x1 => some x1 else (if p1.1 = 2 then some true else (if p1.1 = 3 then some true else some (decide (p1.1 = 4)))).bind fun x2 => (if x2 = true then (if (Aq p0 p1.2.2.1) ≠ (-1) then (B9 p0 (Aq p0 p1.2.2.1) p1).bind fun x3 => some x3 else some p0) else some p0))
theorem FS (Y : Nat → Prop) (X : List Nat) (w0 : World) (q_p0 : Nat) (v1 : Value) (m_v2 : Nat) (v3 : Value) (p0 : (List (Int × Int × Int × Int × (Nat × List Int) × Int × Int × Int)) × (List (Int × Int)) × List Int) (p1 : Int × Int × Int × Int × Int × Int) (d_v1 : {x : List (Int × Int × Int × Int × (Value × Nat × List Int) × Int × Int × Int) // x.map B1 = p0.1}) (r : ((List (Int × Int × Int × Int × (Nat × List Int) × Int × Int × Int)) × (List (Int × Int)) × List Int)) (H : Cs p0 p1 = some r) (hL : Stw ⟨Y, X, w0⟩ [(q_p0, [v1, .map (some m_v2), v3])] [AS v1 78 Bk d_v1.1, row v3 3 (Rp.int .i64) p0.2.2, mp m_v2 A8 A8 p0.2.1] w0) :
    Calls Try.prog 43 #[.pointer (some ⟨q_p0, 0, none⟩), .agg #[.int .i64 p1.1, .int .i64 p1.2.1, .int .i64 p1.2.2.1, .int .i64 p1.2.2.2.1, .int .i64 p1.2.2.2.2.1, .int .i64 p1.2.2.2.2.2]] w0 fun e w' => ∃ x : Value × ({x : List (Int × Int × Int × Int × (Value × Nat × List Int) × Int × Int × Int) // x.map B1 = r.1}) × Value, e = .returned (.tuple #[]) ∧ Stw ⟨Y, X, w0⟩ [(q_p0, [x.1, .map (some m_v2), x.2.2])] [AS (x.1) 78 Bk (x.2.1.1), row (x.2.2) 3 (Rp.int .i64) r.2.2, mp m_v2 A8 A8 r.2.1] w' := by
 refine enter Try.func43 Aa Try.ntmps43 Aa fun a F => ?_
 have W := hL
 unfold Cs at H
 refine Ah (Ab ?_)
 refine Cf (cs := [.int .i64 p1.1, .int .i64 p1.2.1, .int .i64 p1.2.2.1, .int .i64 p1.2.2.2.1, .int .i64 p1.2.2.2.2.1, .int .i64 p1.2.2.2.2.2]) F W Aa Aa Aa fun b1 a w F W => ?_
 refine Ad (Ac (Ah (Ab ?_)))
 refine ls F W Aa (Af Dl Aa Aa Aa T3 F Aa 0 Aa).q fun a w F W => ?_
 refine ls F W Aa (Ak (v := Value.int .i64 p1.1) 0 F Aa Aa T3 Aa).q fun a w F W => ?_
 refine Ad (Ac (Ax (Ah (Ab ?_))))
 refine ls F W Aa (CB F Aa Aa).q fun a w F W => ?_
 refine ls F W Aa (Ae F Aa).q fun a w F W => ?_
 refine Ad (Ac ?_)
 refine AB F Aa (fun hb => ?_) fun hb => ?_
 ·
  have H := AU (Bv hb) H
  rw [hb] at F
  clear hb
  refine Ab ?_
  refine ls F W Aa (Ag F Aa).q fun a w F W => ?_
  refine ls F W Aa (Ak (v := Value.agg #[.int .i64 p1.1, .int .i64 p1.2.1, .int .i64 p1.2.2.1, .int .i64 p1.2.2.2.1, .int .i64 p1.2.2.2.2.1, .int .i64 p1.2.2.2.2.2]) 0 F Aa Aa JM Aa).q fun a w F W => ?_
  obtain ⟨x1, h1, H⟩ := An H
  have W := W.frontZ (i := 2) Aa Aa
  have W := W.frontZ (i := 2) Aa Aa
  have W := W.frontZ (i := 2) Aa Aa
  have W := W.frontM (i := 1) Aa Aa
  refine BP (Ml := [(q_p0, [v1, .map (some m_v2), v3])]) (Zl := [AS v1 78 Bk d_v1.1, row v3 3 (Rp.int .i64) p0.2.2, mp m_v2 A8 A8 p0.2.1]) (M := [(b1, [.int .i64 p1.1, .int .i64 p1.2.1, .int .i64 p1.2.2.1, .int .i64 p1.2.2.2.1, .int .i64 p1.2.2.2.2.1, .int .i64 p1.2.2.2.2.2])]) (Z := []) (β := Value × ({x : List (Int × Int × Int × Int × (Value × Nat × List Int) × Int × Int × Int) // x.map B1 = x1.1}) × Value) (rv := fun x => .tuple #[]) (MM := fun x => [(q_p0, [x.1, .map (some m_v2), x.2.2])]) (ZZ := fun x => [AS x.1 78 Bk x.2.1.1, row x.2.2 3 (Rp.int .i64) x1.2.2, mp m_v2 A8 A8 x1.2.1]) F W MA Aa Aa (fun hL => FQ _ _ w q_p0 (v1) m_v2 (v3) p0 p1 ⟨d_v1.1, d_v1.2⟩ _ h1 hL) fun x a w F W => ?_
  obtain ⟨v4, v5, v6⟩ := x
  have W : Stw ⟨Y, X, w0⟩ [(q_p0, [v4, .map (some m_v2), v6]), (b1, [.int .i64 p1.1, .int .i64 p1.2.1, .int .i64 p1.2.2.1, .int .i64 p1.2.2.2.1, .int .i64 p1.2.2.2.2.1, .int .i64 p1.2.2.2.2.2])] [AS v4 78 Bk v5.1, row v6 3 (Rp.int .i64) x1.2.2, mp m_v2 A8 A8 x1.2.1] w := W
  refine Ad (AJ ?_)
  have H := AV H
  subst H
  refine E1 (.inr Aa) F Aa ?_
  have W := W.frontZ (i := 2) Aa Aa
  have W := W.frontZ (i := 2) Aa Aa
  have W := W.frontZ (i := 2) Aa Aa
  have W := W.sub (M' := [(q_p0, [v4, .map (some m_v2), v6])]) (Z' := [AS v4 78 Bk v5.1, row v6 3 (Rp.int .i64) x1.2.2, mp m_v2 A8 A8 x1.2.1]) (List.Sublist.cons_cons _ (List.nil_sublist _)) (List.Sublist.refl _)
  exact ⟨((v4), ⟨v5.1, v5.2⟩, (v6)), Aa, W⟩
 have H := AW (Bu hb) H
 rw [hb] at F
 clear hb
 obtain ⟨o1, G1, K1⟩ := An H
 refine AR (fun a w => ∃ x2 : Bool, some (x2) = some o1 ∧ Fr 26 [] [(0, .pointer (some ⟨q_p0, 0, none⟩)), (3, .pointer (some ⟨b1, 0, none⟩)), (12, .bool x2)] a ∧ Stw ⟨Y, X, w0⟩ [(b1, [.int .i64 p1.1, .int .i64 p1.2.1, .int .i64 p1.2.2.1, .int .i64 p1.2.2.2.1, .int .i64 p1.2.2.2.2.1, .int .i64 p1.2.2.2.2.2]), (q_p0, [v1, .map (some m_v2), v3])] [AS v1 78 Bk d_v1.1, row v3 3 (Rp.int .i64) p0.2.2, mp m_v2 A8 A8 p0.2.1] w) ?_ ?_
 ·
  have H := G1
  clear G1 K1
  refine Ah (Ab ?_)
  refine ls F W Aa (CB F Aa Aa).q fun a w F W => ?_
  refine ls F W Aa (Ae F Aa).q fun a w F W => ?_
  refine Ad (Ac ?_)
  refine AB F Aa (fun hb => ?_) fun hb => ?_
  ·
   have H := AU (Bv hb) H
   rw [hb] at F
   clear hb
   refine As (Ac ?_)
   have W := W.frontZ (i := 2) Aa Aa
   have W := W.frontZ (i := 2) Aa Aa
   have W := W.frontZ (i := 2) Aa Aa
   have W := W.frontM (i := 1) Aa Aa
   have W := W.frontM (i := 1) Aa Aa
   exact ⟨_, H, F.re ⟨rfl, Aa, Aa, trivial⟩, W⟩
  have H := AW (Bu hb) H
  rw [hb] at F
  clear hb
  refine Ah (Ab ?_)
  refine ls F W Aa (CB F Aa Aa).q fun a w F W => ?_
  refine ls F W Aa (Ae F Aa).q fun a w F W => ?_
  refine Ad (Ac ?_)
  refine AB F Aa (fun hb => ?_) fun hb => ?_
  ·
   have H := AU (Bv hb) H
   rw [hb] at F
   clear hb
   refine As (Ac ?_)
   have W := W.frontZ (i := 2) Aa Aa
   have W := W.frontZ (i := 2) Aa Aa
   have W := W.frontZ (i := 2) Aa Aa
   have W := W.frontM (i := 1) Aa Aa
   have W := W.frontM (i := 1) Aa Aa
   exact ⟨_, H, F.re ⟨rfl, Aa, Aa, trivial⟩, W⟩
  have H := AW (Bu hb) H
  rw [hb] at F
  clear hb
  refine Ab ?_
  refine ls F W Aa (CB F Aa Aa).q fun a w F W => ?_
  refine ls F W Aa (Ae F Aa).q fun a w F W => ?_
  refine Ad (Ac ?_)
  have W := W.frontZ (i := 2) Aa Aa
  have W := W.frontZ (i := 2) Aa Aa
  have W := W.frontZ (i := 2) Aa Aa
  have W := W.frontM (i := 1) Aa Aa
  have W := W.frontM (i := 1) Aa Aa
  exact ⟨_, H, F.re ⟨rfl, Aa, Aa, trivial⟩, W⟩
 rintro a w ⟨x2, hj, F, W⟩
 have hj := AV hj
 subst hj
 have H := K1
 clear G1 K1
 refine AB F Aa (fun hb => ?_) fun hb => ?_
 ·
  have H := AU hb H
  rw [hb] at F
  clear hb
  refine Ah (Ab ?_)
  refine ls F W Aa (Ag F Aa).q fun a w F W => ?_
  refine ls F W Aa (Af Dl Aa Aa Aa T3 F Aa 2 Aa).q fun a w F W => ?_
  refine ls F W Aa (Ak (v := Value.int .i64 p1.2.2.1) 0 F Aa Aa T3 Aa).q fun a w F W => ?_
  have W := W.frontZ (i := 2) Aa Aa
  have W := W.frontZ (i := 2) Aa Aa
  have W := W.frontZ (i := 2) Aa Aa
  have W := W.frontM (i := 1) Aa Aa
  refine BP (Ml := [(q_p0, [v1, .map (some m_v2), v3])]) (Zl := [AS v1 78 Bk d_v1.1, row v3 3 (Rp.int .i64) p0.2.2, mp m_v2 A8 A8 p0.2.1]) (M := [(b1, [.int .i64 p1.1, .int .i64 p1.2.1, .int .i64 p1.2.2.1, .int .i64 p1.2.2.2.1, .int .i64 p1.2.2.2.2.1, .int .i64 p1.2.2.2.2.2])]) (Z := []) (β := Unit) (rv := fun x => .int .i64 (Aq p0 p1.2.2.1)) (MM := fun x => [(q_p0, [v1, .map (some m_v2), v3])]) (ZZ := fun x => [AS v1 78 Bk d_v1.1, row v3 3 (Rp.int .i64) p0.2.2, mp m_v2 A8 A8 p0.2.1]) F W My Aa Aa (fun hL => C9 _ _ w q_p0 (v1) m_v2 (v3) p0 p1.2.2.1 ⟨d_v1.1, d_v1.2⟩ _ Aa hL) fun x a w F W => ?_
  have W : Stw ⟨Y, X, w0⟩ [(q_p0, [v1, .map (some m_v2), v3]), (b1, [.int .i64 p1.1, .int .i64 p1.2.1, .int .i64 p1.2.2.1, .int .i64 p1.2.2.2.1, .int .i64 p1.2.2.2.2.1, .int .i64 p1.2.2.2.2.2])] [AS v1 78 Bk d_v1.1, row v3 3 (Rp.int .i64) p0.2.2, mp m_v2 A8 A8 p0.2.1] w := W
  refine ls F W Aa (Ae F Aa).q fun a w F W => ?_
  refine Ad (Ac (Ah (Ab ?_)))
  refine ls F W Aa (Ag F Aa).q fun a w F W => ?_
  refine ls F W Aa (Fv F Aa Aa).q fun a w F W => ?_
  refine Ad (Ac ?_)
  refine AB F Aa (fun hb => ?_) fun hb => ?_
  ·
   have H := AU (Bv hb) H
   rw [hb] at F
   clear hb
   refine Ab ?_
   iterate 2 refine ls F W Aa (Ag F Aa).q fun a w F W => ?_
   refine ls F W Aa (Ak (v := Value.agg #[.int .i64 p1.1, .int .i64 p1.2.1, .int .i64 p1.2.2.1, .int .i64 p1.2.2.2.1, .int .i64 p1.2.2.2.2.1, .int .i64 p1.2.2.2.2.2]) 1 F Aa Aa JM Aa).q fun a w F W => ?_
   obtain ⟨x3, h2, H⟩ := An H
   have W := W.frontZ (i := 2) Aa Aa
   have W := W.frontZ (i := 2) Aa Aa
   have W := W.frontZ (i := 2) Aa Aa
   refine BP (Ml := [(q_p0, [v1, .map (some m_v2), v3])]) (Zl := [AS v1 78 Bk d_v1.1, row v3 3 (Rp.int .i64) p0.2.2, mp m_v2 A8 A8 p0.2.1]) (M := [(b1, [.int .i64 p1.1, .int .i64 p1.2.1, .int .i64 p1.2.2.1, .int .i64 p1.2.2.2.1, .int .i64 p1.2.2.2.2.1, .int .i64 p1.2.2.2.2.2])]) (Z := []) (β := Value × ({x : List (Int × Int × Int × Int × (Value × Nat × List Int) × Int × Int × Int) // x.map B1 = x3.1}) × Value) (rv := fun x => .tuple #[]) (MM := fun x => [(q_p0, [x.1, .map (some m_v2), x.2.2])]) (ZZ := fun x => [AS x.1 78 Bk x.2.1.1, row x.2.2 3 (Rp.int .i64) x3.2.2, mp m_v2 A8 A8 x3.2.1]) F W Nr Aa Aa (fun hL => Fq _ _ w q_p0 (v1) m_v2 (v3) p0 (Aq p0 p1.2.2.1) p1 ⟨d_v1.1, d_v1.2⟩ _ h2 hL) fun x a w F W => ?_
   obtain ⟨v7, v8, v9⟩ := x
   have W : Stw ⟨Y, X, w0⟩ [(q_p0, [v7, .map (some m_v2), v9]), (b1, [.int .i64 p1.1, .int .i64 p1.2.1, .int .i64 p1.2.2.1, .int .i64 p1.2.2.2.1, .int .i64 p1.2.2.2.2.1, .int .i64 p1.2.2.2.2.2])] [AS v7 78 Bk v8.1, row v9 3 (Rp.int .i64) x3.2.2, mp m_v2 A8 A8 x3.2.1] w := W
   refine Ad (AJ ?_)
   have H := AV H
   subst H
   refine E1 (.inr Aa) F Aa ?_
   have W := W.frontZ (i := 2) Aa Aa
   have W := W.frontZ (i := 2) Aa Aa
   have W := W.frontZ (i := 2) Aa Aa
   have W := W.sub (M' := [(q_p0, [v7, .map (some m_v2), v9])]) (Z' := [AS v7 78 Bk v8.1, row v9 3 (Rp.int .i64) x3.2.2, mp m_v2 A8 A8 x3.2.1]) (List.Sublist.cons_cons _ (List.nil_sublist _)) (List.Sublist.refl _)
   exact ⟨((v7), ⟨v8.1, v8.2⟩, (v9)), Aa, W⟩
  have H := AW (Bu hb) H
  rw [hb] at F
  clear hb
  refine As (AJ ?_)
  have H := AV H
  subst H
  refine E1 (.inr Aa) F Aa ?_
  have W := W.frontZ (i := 2) Aa Aa
  have W := W.frontZ (i := 2) Aa Aa
  have W := W.frontZ (i := 2) Aa Aa
  have W := W.sub (M' := [(q_p0, [v1, .map (some m_v2), v3])]) (Z' := [AS v1 78 Bk d_v1.1, row v3 3 (Rp.int .i64) p0.2.2, mp m_v2 A8 A8 p0.2.1]) (List.Sublist.cons_cons _ (List.nil_sublist _)) (List.Sublist.refl _)
  exact ⟨((v1), ⟨d_v1.1, d_v1.2⟩, (v3)), Aa, W⟩
 have H := AW (by rw [hb]; decide) H
 rw [hb] at F
 clear hb
 refine As (AJ ?_)
 have H := AV H
 subst H
 refine E1 (.inr Aa) F Aa ?_
 have W := W.frontZ (i := 2) Aa Aa
 have W := W.frontZ (i := 2) Aa Aa
 have W := W.frontZ (i := 2) Aa Aa
 have W := W.frontM (i := 1) Aa Aa
 have W := W.sub (M' := [(q_p0, [v1, .map (some m_v2), v3])]) (Z' := [AS v1 78 Bk d_v1.1, row v3 3 (Rp.int .i64) p0.2.2, mp m_v2 A8 A8 p0.2.1]) (List.Sublist.cons_cons _ (List.nil_sublist _)) (List.Sublist.refl _)
 exact ⟨((v1), ⟨d_v1.1, d_v1.2⟩, (v3)), Aa, W⟩
theorem Nf : Has Try.prog 43 := ⟨fun args w => Aj Try.func43 rfl (by decide) args w⟩
noncomputable def En (p0 : List (Int × Int × Int × Int × Int × Int)) : (Int × (List (Int × Int × Int × Int × (Nat × List Int) × Int × Int × Int)) × List Int × (List (Int × Int))) → Option ((Int × (List (Int × Int × Int × Int × (Nat × List Int) × Int × Int × Int)) × List Int × (List (Int × Int))) ⊕ ((List (Int × Int × Int × Int × (Nat × List Int) × Int × Int × Int)) × List Int × (List (Int × Int))))
  | (x4, x5, x6, x7) => (if x4 < (p0.length : Int) then (ix p0 x4).bind fun x8 => (Cs (x5, x7, x6) x8).bind fun x9 => some (.inl (D8 (x4 + 1), x9.1, x9.2.2, x9.2.1)) else some (.inr (x5, x6, x7)))
noncomputable def Fc (p0 : List (Int × Int × Int × Int × Int × Int)) : Option (List (Int × Int × Int × Int × List Int × Int × Int × Int)) := (Bj (En p0) (0, [], [], ([] : List (Int × Int)))).bind fun (x1, x2, x3) => (FY Lf x1).bind fun x10 => some x10
theorem IQ (Y : Nat → Prop) (w0 : World) (v1 : Value) (p0 : List (Int × Int × Int × Int × Int × Int)) (r : (List (Int × Int × Int × Int × List Int × Int × Int × Int))) (H : Fc p0 = some r) (h_v1 : Sl w0 (NX []) EN v1 p0) :
    Calls Try.prog 29 #[v1] w0 fun e w' => ∃ x : Value, e = .returned (x) ∧ Stw ⟨Y, [], w0⟩ [] [row (x) 78 Hc r] w' := by
 refine enter Try.func29 Aa Try.ntmps29 Aa fun a F => ?_
 have W := Stw.start Y w0
 unfold Fc at H
 refine Ah (Ab ?_)
 refine ls F W Aa (Ae F Aa).q fun a w F W => ?_
 refine Ad (Ac (Ah (Ab ?_)))
 refine Fo A8 A8 F W Aa fun b1 a w F W => ?_
 have W : Stw ⟨Y, [], w0⟩ [] [mp b1 A8 A8 ([] : List (Int × Int))] w := W
 refine ls F W Aa (Bf (v := Value.agg #[.slice none 0 0, .map (some b1), .slice none 0 0]) Na F Aa Aa Aa).q fun a w F W => ?_
 refine BI (cs := [.slice none 0 0, .map none, .slice none 0 0]) F W Aa Nw Aa fun b2 a w F W => ?_
 refine Bx (vs := [.slice none 0 0, .map (some b1), .slice none 0 0]) (M' := [(b2, [.slice none 0 0, .map (some b1), .slice none 0 0])]) 0 F W Aa Aa Aa NG Aa Aa Aa Aa Aa fun w W => ?_
 refine Ad (Ac ?_)
 obtain ⟨o1, G1, K1⟩ := An H
 refine AR (fun a w => ∃ x1 : List (Int × Int × Int × Int × (Nat × List Int) × Int × Int × Int), ∃ x2 : List Int, ∃ x3 : List (Int × Int), ∃ v2 : Value, ∃ g_x1 : {x : List (Int × Int × Int × Int × (Value × Nat × List Int) × Int × Int × Int) // x.map B1 = x1}, ∃ v3 : Value, some ((x1, x2, x3)) = some o1 ∧ Fr 19 [] [(2, .slice none 0 0), (3, .pointer (some ⟨b2, 0, none⟩))] a ∧ Stw ⟨Y, [], w0⟩ [(b2, [v2, .map (some b1), v3])] [AS v2 78 Bk g_x1.1, row v3 3 (Rp.int .i64) x2, mp b1 A8 A8 x3] w) ?_ ?_
 ·
  have H := G1
  clear G1 K1
  refine Ah (Ab ?_)
  refine ls F W Aa (Ag F Aa).q fun a w F W => ?_
  refine ls F W Aa (Bi (r := EN) (l := p0) J5 Aa F Aa (Al h_v1)).q fun a w F W => ?_
  refine ls F W Aa (Ag F Aa).q fun a w F W => ?_
  refine Ad (Ac (Ax ?_))
  have W := W.dNil 78 Bk
  have h1 : List.map B1 ([] : List (Int × Int × Int × Int × (Value × Nat × List Int) × Int × Int × Int)) = ([] : List (Int × Int × Int × Int × (Nat × List Int) × Int × Int × Int)) := Aa
  have W := W.nilRow 3 (Rp.int .i64)
  have W := W.frontZ (i := 2) Aa Aa
  have W := W.frontZ (i := 1) Aa Aa
  have W := W.frontZ (i := 2) Aa Aa
  refine BT H (fun s a w => ∃ v4 : Value, ∃ g_x5 : {x : List (Int × Int × Int × Int × (Value × Nat × List Int) × Int × Int × Int) // x.map B1 = s.2.1}, ∃ v5 : Value, Fr 19 [] [(2, .slice none 0 0), (3, .pointer (some ⟨b2, 0, none⟩)), (8, v1), (9, .int .i64 (p0.length : Int)), (10, .int .i64 s.1)] a ∧ Stw ⟨Y, [], w0⟩ [(b2, [v4, .map (some b1), v5])] [AS v4 78 Bk g_x5.1, row v5 3 (Rp.int .i64) s.2.2.1, mp b1 A8 A8 s.2.2.2] w) ⟨(Value.slice none 0 0), ⟨([] : List (Int × Int × Int × Int × (Value × Nat × List Int) × Int × Int × Int)), h1⟩, (Value.slice none 0 0), F.re ⟨rfl, Aa, Aa, Aa, Aa, trivial⟩, W⟩ fun s o a w H L2 hR => ?_
  obtain ⟨x4, x5, x6, x7⟩ := s
  obtain ⟨v4, g_x5, v5, F, W⟩ := hR
  have F : Fr 19 [] [(2, .slice none 0 0), (3, .pointer (some ⟨b2, 0, none⟩)), (8, v1), (9, .int .i64 (p0.length : Int)), (10, .int .i64 x4)] a := F
  have W : Stw ⟨Y, [], w0⟩ [(b2, [v4, .map (some b1), v5])] [AS v4 78 Bk g_x5.1, row v5 3 (Rp.int .i64) x6, mp b1 A8 A8 x7] w := W
  rw [En] at H
  refine Ah (Ab ?_)
  refine ls F W Aa (BU F Aa Aa).q fun a w F W => ?_
  refine Ad (Ac (Ah ?_))
  refine AB F Aa (fun hb => ?_) fun hb => ?_
  ·
   have H := AU (Bv hb) H
   rw [hb] at F
   clear hb
   refine As (Ac (Ah (Ax (Ah (Ab ?_)))))
   obtain ⟨x8, h2, H⟩ := An H
   refine ls F W Aa (AN (r := EN) J8 F Aa Aa (Al h_v1) h2).q fun a w F W => ?_
   refine ls F W Aa (AG (y := Value.agg #[.int .i64 x8.1, .int .i64 x8.2.1, .int .i64 x8.2.2.1, .int .i64 x8.2.2.2.1, .int .i64 x8.2.2.2.2.1, .int .i64 x8.2.2.2.2.2]) (j := 0) (i := x4) F Aa Aa (Al h_v1) h2 KC.to JM Aa).q fun a w F W => ?_
   refine BI (cs := [.int .i64 0, .int .i64 0, .int .i64 0, .int .i64 0, .int .i64 0, .int .i64 0]) F W Aa KT Aa fun b3 a w F W => ?_
   refine Bx (vs := [.int .i64 x8.1, .int .i64 x8.2.1, .int .i64 x8.2.2.1, .int .i64 x8.2.2.2.1, .int .i64 x8.2.2.2.2.1, .int .i64 x8.2.2.2.2.2]) (M' := [(b3, [.int .i64 x8.1, .int .i64 x8.2.1, .int .i64 x8.2.2.1, .int .i64 x8.2.2.2.1, .int .i64 x8.2.2.2.2.1, .int .i64 x8.2.2.2.2.2]), (b2, [v4, .map (some b1), v5])]) 0 F W Aa Aa Aa JM Aa Aa Aa Aa Aa fun w W => ?_
   refine Ad (Ac (Ab ?_))
   refine ls F W Aa (Ak (v := Value.agg #[.int .i64 x8.1, .int .i64 x8.2.1, .int .i64 x8.2.2.1, .int .i64 x8.2.2.2.1, .int .i64 x8.2.2.2.2.1, .int .i64 x8.2.2.2.2.2]) 0 F Aa Aa JM Aa).q fun a w F W => ?_
   obtain ⟨x9, h3, H⟩ := An H
   have W := W.frontZ (i := 2) Aa Aa
   have W := W.frontZ (i := 2) Aa Aa
   have W := W.frontZ (i := 2) Aa Aa
   have W := W.frontM (i := 1) Aa Aa
   refine BP (Ml := [(b2, [v4, .map (some b1), v5])]) (Zl := [AS v4 78 Bk g_x5.1, row v5 3 (Rp.int .i64) x6, mp b1 A8 A8 x7]) (M := [(b3, [.int .i64 x8.1, .int .i64 x8.2.1, .int .i64 x8.2.2.1, .int .i64 x8.2.2.2.1, .int .i64 x8.2.2.2.2.1, .int .i64 x8.2.2.2.2.2])]) (Z := []) (β := Value × ({x : List (Int × Int × Int × Int × (Value × Nat × List Int) × Int × Int × Int) // x.map B1 = x9.1}) × Value) (rv := fun x => .tuple #[]) (MM := fun x => [(b2, [x.1, .map (some b1), x.2.2])]) (ZZ := fun x => [AS x.1 78 Bk x.2.1.1, row x.2.2 3 (Rp.int .i64) x9.2.2, mp b1 A8 A8 x9.2.1]) F W Nf Aa Aa (fun hL => FS _ _ w b2 (v4) b1 (v5) (x5, x7, x6) x8 ⟨g_x5.1, g_x5.2⟩ _ h3 hL) fun x a w F W => ?_
   obtain ⟨v6, v7, v8⟩ := x
   have W : Stw ⟨Y, [], w0⟩ [(b2, [v6, .map (some b1), v8]), (b3, [.int .i64 x8.1, .int .i64 x8.2.1, .int .i64 x8.2.2.1, .int .i64 x8.2.2.2.1, .int .i64 x8.2.2.2.2.1, .int .i64 x8.2.2.2.2.2])] [AS v6 78 Bk v7.1, row v8 3 (Rp.int .i64) x9.2.2, mp b1 A8 A8 x9.2.1] w := W
   refine Ad (AJ (Ac (Ab ?_)))
   refine ls F W Aa (CW F Aa Aa Aa).q fun a w F W => ?_
   refine ls F W Aa (Ag F Aa).q fun a w F W => ?_
   refine Ad (Ac ?_)
   have W := W.frontZ (i := 2) Aa Aa
   have W := W.frontZ (i := 2) Aa Aa
   have W := W.frontZ (i := 2) Aa Aa
   have W := W.sub (M' := [(b2, [v6, .map (some b1), v8])]) (Z' := [AS v6 78 Bk v7.1, row v8 3 (Rp.int .i64) x9.2.2, mp b1 A8 A8 x9.2.1]) (List.Sublist.cons_cons _ (List.nil_sublist _)) (List.Sublist.refl _)
   exact ⟨_, H, (v6), ⟨v7.1, v7.2⟩, (v8), F.re ⟨rfl, Aa, Aa, Aa, Aa, trivial⟩, W⟩
  have H := AW (Bu hb) H
  rw [hb] at F
  clear hb
  refine BC ?_
  iterate 2 refine B6 ?_
  refine BD (Ac ?_)
  have W := W.frontZ (i := 2) Aa Aa
  have W := W.frontZ (i := 2) Aa Aa
  have W := W.frontZ (i := 2) Aa Aa
  have H := L2 _ H
  exact ⟨_, _, _, (v4), ⟨g_x5.1, g_x5.2⟩, (v5), H, F.re ⟨rfl, Aa, trivial⟩, W⟩
 rintro a w ⟨x1, x2, x3, v2, g_x1, v3, hj, F, W⟩
 have hj := AV hj
 subst hj
 have H := K1
 clear G1 K1
 refine Ah (Ab ?_)
 refine ls F W Aa (Af GD Aa Aa Aa Ka F Aa 0 Aa).q fun a w F W => ?_
 refine ls F W Aa (Ak (v := v2) 0 F Aa Aa Ka Aa).q fun a w F W => ?_
 refine ls F W Aa (Ae F Aa).q fun a w F W => ?_
 refine Ad (Ac (Ay ?_))
 obtain ⟨x10, h4, H⟩ := An H
 have H := AV H
 subst H
 refine A5 (.inl Aa) F W Aa (Au F Aa) ?_
 have W := Stw.ddRest L5 g_x1.2 h4 W
 have W := W.sub (M' := []) (Z' := [row v2 78 Hc x10]) (List.nil_sublist _) (List.Sublist.cons_cons _ (List.nil_sublist _))
 exact ⟨(v2), Aa, W⟩
theorem KE : type_of% Try.underlying100 := Try.underlying100
theorem Lm : type_of% Try.underlying101 := Try.underlying101
theorem MI : Has Try.prog 29 := ⟨fun args w => Aj Try.func29 rfl (by decide) args w⟩
abbrev Kk : Rp (Int × Int × Int × Int × (Value × List Int) × Int × Int × Int) := (Rp.pair (Rp.int .i64) (Rp.pair (Rp.int .i64) (Rp.pair (Rp.int .i64) (Rp.pair (Rp.int .i64) (Rp.pair (Rp.vsl (Rp.int .i64)) (Rp.pair (Rp.int .i64) (Rp.pair (Rp.int .i64) (Rp.int .i64))))))))
abbrev LS (p : Int × Int × Int × Int × (Value × List Int) × Int × Int × Int) : Int × Int × Int × Int × List Int × Int × Int × Int := (p.1, p.2.1, p.2.2.1, p.2.2.2.1, p.2.2.2.2.1.2, p.2.2.2.2.2.1, p.2.2.2.2.2.2.1, p.2.2.2.2.2.2.2)
theorem KM : Ex Hc Kk LS := (Ex.pair Ex.rfl' (Ex.pair Ex.rfl' (Ex.pair Ex.rfl' (Ex.pair Ex.rfl' (Ex.pair Ex.sliceF (Ex.pair Ex.rfl' (Ex.pair Ex.rfl' Ex.rfl')))))))
abbrev Lb (a : Int × Int × Int × Int × (Value × List Int) × Int × Int × Int) : List Value := [.int .i64 a.1, .int .i64 a.2.1, .int .i64 a.2.2.1, .int .i64 a.2.2.2.1, a.2.2.2.2.1.1, .int .i64 a.2.2.2.2.2.1, .int .i64 a.2.2.2.2.2.2.1, .int .i64 a.2.2.2.2.2.2.2]
theorem L7 : El Kk Lb := (El.pair Fl.int.to (El.pair Fl.int.to (El.pair Fl.int.to (El.pair Fl.int.to (El.pair El.vsl (El.pair Fl.int.to (El.pair Fl.int.to Fl.int.to)))))))
theorem LK : Ty Try.prog 78 true 8 := ⟨by kernel_rfl, by kernel_rfl⟩
abbrev CR (x : Unit) : Value := .agg #[]
theorem Lv : Bt Try.prog 101 [] [] := ⟨⟨.agg #[], by kernel_rfl, rfl⟩, ⟨_, Lm, fun w => by kernel_rfl⟩⟩
noncomputable def Dj (p0 : Int × Int × Int × Int × List Int × Int × Int × Int) : (Int × (List (Int × Unit))) → Option ((Int × (List (Int × Unit))) ⊕ (List (Int × Unit)))
  | (x2, x3) => (if x2 < (p0.2.2.2.2.1.length : Int) then (ix p0.2.2.2.2.1 x2).bind fun x4 => some (.inl (D8 (x2 + 1), CM x3 x4 ())) else some (.inr x3))
noncomputable def DK (p0 : Int × Int × Int × Int × List Int × Int × Int × Int) : Option Bool := (Bj (Dj p0) (0, ([] : List (Int × Unit)))).bind fun x1 => some (decide ((x1.length : Int) < (p0.2.2.2.2.1.length : Int)))
theorem HC (Y : Nat → Prop) (w0 : World) (v1 : Value) (p0 : Int × Int × Int × Int × List Int × Int × Int × Int) (r : Bool) (H : DK p0 = some r) (h_v1 : Sl w0 (NX []) (Rp.int .i64) v1 p0.2.2.2.2.1) :
    Calls Try.prog 30 #[.agg #[.int .i64 p0.1, .int .i64 p0.2.1, .int .i64 p0.2.2.1, .int .i64 p0.2.2.2.1, v1, .int .i64 p0.2.2.2.2.2.1, .int .i64 p0.2.2.2.2.2.2.1, .int .i64 p0.2.2.2.2.2.2.2]] w0 fun e w' => e = .returned (.bool r) ∧ Below w0.heap.size w0 w' := by
 refine enter Try.func30 Aa Try.ntmps30 Aa fun a F => ?_
 have W := Stw.start Y w0
 unfold DK at H
 refine Ah (Ab ?_)
 refine Cf (cs := [.int .i64 p0.1, .int .i64 p0.2.1, .int .i64 p0.2.2.1, .int .i64 p0.2.2.2.1, v1, .int .i64 p0.2.2.2.2.2.1, .int .i64 p0.2.2.2.2.2.2.1, .int .i64 p0.2.2.2.2.2.2.2]) F W Aa Aa Aa fun b1 a w F W => ?_
 refine ls F W Aa (Ae F Aa).q fun a w F W => ?_
 refine Ad (Ac (Ah (Ab ?_)))
 refine Fo A8 CR F W Aa fun b2 a w F W => ?_
 have W : Stw ⟨Y, [], w0⟩ [(b1, [.int .i64 p0.1, .int .i64 p0.2.1, .int .i64 p0.2.2.1, .int .i64 p0.2.2.2.1, v1, .int .i64 p0.2.2.2.2.2.1, .int .i64 p0.2.2.2.2.2.2.1, .int .i64 p0.2.2.2.2.2.2.2])] [mp b2 A8 CR ([] : List (Int × Unit))] w := W
 refine ls F W Aa (Ae F Aa).q fun a w F W => ?_
 refine Ad (Ac ?_)
 obtain ⟨o1, G1, K1⟩ := An H
 refine AR (fun a w => ∃ x1 : List (Int × Unit), some (x1) = some o1 ∧ Fr 24 [] [(1, .pointer (some ⟨b1, 0, none⟩)), (2, .bool false), (3, .map (some b2))] a ∧ Stw ⟨Y, [], w0⟩ [(b1, [.int .i64 p0.1, .int .i64 p0.2.1, .int .i64 p0.2.2.1, .int .i64 p0.2.2.2.1, v1, .int .i64 p0.2.2.2.2.2.1, .int .i64 p0.2.2.2.2.2.2.1, .int .i64 p0.2.2.2.2.2.2.2])] [mp b2 A8 CR x1] w) ?_ ?_
 ·
  have H := G1
  clear G1 K1
  refine Ah (Ab ?_)
  refine ls F W Aa (Af DT Aa Aa Aa F8 F Aa 4 Aa).q fun a w F W => ?_
  refine ls F W Aa (Ak (v := v1) 0 F Aa Aa F8 Aa).q fun a w F W => ?_
  refine ls F W Aa (Bi (r := (Rp.int .i64)) (l := p0.2.2.2.2.1) F4 Aa F Aa (Al h_v1)).q fun a w F W => ?_
  refine ls F W Aa (Ag F Aa).q fun a w F W => ?_
  refine Ad (Ac (Ax ?_))
  refine BT H (fun s a w => Fr 24 [] [(1, .pointer (some ⟨b1, 0, none⟩)), (2, .bool false), (3, .map (some b2)), (8, v1), (9, .int .i64 (p0.2.2.2.2.1.length : Int)), (10, .int .i64 s.1)] a ∧ Stw ⟨Y, [], w0⟩ [(b1, [.int .i64 p0.1, .int .i64 p0.2.1, .int .i64 p0.2.2.1, .int .i64 p0.2.2.2.1, v1, .int .i64 p0.2.2.2.2.2.1, .int .i64 p0.2.2.2.2.2.2.1, .int .i64 p0.2.2.2.2.2.2.2])] [mp b2 A8 CR s.2] w) ⟨F.re ⟨rfl, Aa, Aa, Aa, Aa, Aa, trivial⟩, W⟩ fun s o a w H L2 hR => ?_
  obtain ⟨x2, x3⟩ := s
  obtain ⟨F, W⟩ := hR
  have F : Fr 24 [] [(1, .pointer (some ⟨b1, 0, none⟩)), (2, .bool false), (3, .map (some b2)), (8, v1), (9, .int .i64 (p0.2.2.2.2.1.length : Int)), (10, .int .i64 x2)] a := F
  have W : Stw ⟨Y, [], w0⟩ [(b1, [.int .i64 p0.1, .int .i64 p0.2.1, .int .i64 p0.2.2.1, .int .i64 p0.2.2.2.1, v1, .int .i64 p0.2.2.2.2.2.1, .int .i64 p0.2.2.2.2.2.2.1, .int .i64 p0.2.2.2.2.2.2.2])] [mp b2 A8 CR x3] w := W
  rw [Dj] at H
  refine Ah (Ab ?_)
  refine ls F W Aa (BU F Aa Aa).q fun a w F W => ?_
  refine Ad (Ac (Ah ?_))
  refine AB F Aa (fun hb => ?_) fun hb => ?_
  ·
   have H := AU (Bv hb) H
   rw [hb] at F
   clear hb
   refine As (Ac (Ah (Ax (Ah (Ab ?_)))))
   obtain ⟨x4, h1, H⟩ := An H
   refine ls F W Aa (AN (r := (Rp.int .i64)) Ip F Aa Aa (Al h_v1) h1).q fun a w F W => ?_
   refine ls F W Aa (AG (y := Value.int .i64 x4) (j := 0) (i := x2) F Aa Aa (Al h_v1) h1 Fl.int.to T3 Aa).q fun a w F W => ?_
   refine ls F W Aa (Ae F Aa).q fun a w F W => ?_
   refine Ad (Ac (Ab ?_))
   iterate 2 refine ls F W Aa (Ag F Aa).q fun a w F W => ?_
   refine ls F W Aa (Bf (v := Value.agg #[]) Lv F Aa Aa Aa).q fun a w F W => ?_
   refine Fi (q := 0) (kx := (x4 : Int)) (vx := (() : Unit)) (E := A8) (V := CR) F W Aa Aa Aa Aa Aa Lh KE fun w W => ?_
   have W : Stw ⟨Y, [], w0⟩ [(b1, [.int .i64 p0.1, .int .i64 p0.2.1, .int .i64 p0.2.2.1, .int .i64 p0.2.2.2.1, v1, .int .i64 p0.2.2.2.2.2.1, .int .i64 p0.2.2.2.2.2.2.1, .int .i64 p0.2.2.2.2.2.2.2])] [mp b2 A8 CR (CM x3 x4 ())] w := W
   refine Ad (AJ (Ac (Ab ?_)))
   refine ls F W Aa (CW F Aa Aa Aa).q fun a w F W => ?_
   refine ls F W Aa (Ag F Aa).q fun a w F W => ?_
   refine Ad (Ac ?_)
   exact ⟨_, H, F.re ⟨rfl, Aa, Aa, Aa, Aa, Aa, trivial⟩, W⟩
  have H := AW (Bu hb) H
  rw [hb] at F
  clear hb
  refine BC ?_
  iterate 2 refine B6 ?_
  refine BD (Ac ?_)
  have H := L2 _ H
  exact ⟨_, H, F.re ⟨rfl, Aa, Aa, trivial⟩, W⟩
 rintro a w ⟨x1, hj, F, W⟩
 have hj := AV hj
 subst hj
 have H := K1
 clear G1 K1
 refine Ah (Ab ?_)
 refine ls F W Aa (Ag F Aa).q fun a w F W => ?_
 refine ls F W Aa (JK (q := 0) (E := A8) (V := CR) F Aa Aa Aa KE).q fun a w F W => ?_
 refine ls F W Aa (Af DT Aa Aa Aa F8 F Aa 4 Aa).q fun a w F W => ?_
 refine ls F W Aa (Ak (v := v1) 0 F Aa Aa F8 Aa).q fun a w F W => ?_
 refine ls F W Aa (Bi (r := (Rp.int .i64)) (l := p0.2.2.2.2.1) F4 Aa F Aa (Al h_v1)).q fun a w F W => ?_
 refine ls F W Aa (BU F Aa Aa).q fun a w F W => ?_
 refine ls F W Aa (Ae F Aa).q fun a w F W => ?_
 refine Ad (Ac (Ay ?_))
 have H := AV H
 subst H
 refine A5 (.inl Aa) F W Aa (Au F Aa) ?_
 exact ⟨rfl, W.done⟩
theorem KW : type_of% Try.underlying40 := Try.underlying40
theorem Lp : type_of% Try.underlying45 := Try.underlying45
theorem Nd : Has Try.prog 30 := ⟨fun args w => Aj Try.func30 rfl (by decide) args w⟩
theorem Ls : Bt Try.prog 45 [.int .i64 0, .int .i64 0] [(0, 1), (1, 1)] := ⟨⟨.agg #[.int .i64 0, .int .i64 0], by kernel_rfl, rfl⟩, ⟨_, Lp, fun w => by kernel_rfl⟩⟩
theorem LM : (Try.prog.info? 45).bind (·.zero) = some (.agg #[.int .i64 0, .int .i64 0]) := by kernel_rfl
abbrev Em : Rp (Int × Int) := (Rp.pair (Rp.int .i64) (Rp.int .i64))
def MN (a : Int × Int) : List Value := [.int .i64 a.1, .int .i64 a.2]
theorem LE : Fl Em MN := (Fl.pair Fl.int Fl.int)
theorem Kv : Et Try.prog 40 45 2 16 := Et.of KW (by kernel_rfl) (by kernel_rfl) (by kernel_rfl) (by decide)
def AQ (p0 : Int × Int × Int) (p1 : Int) : Bool := (decide (p0.2.1 ≤ p1) && decide (p1 ≤ p0.2.2))
theorem DX (Y : Nat → Prop) (w0 : World) (q_p1 : Nat) (p0 : Int × Int × Int) (p1 : Int) (r : Bool) (H : AQ p0 p1 = r) (a_q_p1 : At ⟨Y, [], w0⟩ q_p1 0 [.int .i64 p1]) :
    Calls Try.prog 41 #[.agg #[.int .i64 p0.1, .int .i64 p0.2.1, .int .i64 p0.2.2], .pointer (some ⟨q_p1, 0, none⟩)] w0 fun e w' => e = .returned (.bool r) ∧ Below w0.heap.size w0 w' := by
 refine enter Try.func41 Aa Try.ntmps41 Aa fun a F => ?_
 have W := Stw.start Y w0
 unfold AQ at H
 refine Ah (Ab ?_)
 refine Cf (cs := [.int .i64 p0.1, .int .i64 p0.2.1, .int .i64 p0.2.2]) F W Aa Aa Aa fun b1 a w F W => ?_
 refine ls F W Aa (Ae F Aa).q fun a w F W => ?_
 refine Ad (Ac ?_)
 refine AR (fun a w => Fr 14 [] [(3, .bool (decide (p0.2.1 ≤ p1) && decide (p1 ≤ p0.2.2)))] a ∧ Stw ⟨Y, [], w0⟩ [(b1, [.int .i64 p0.1, .int .i64 p0.2.1, .int .i64 p0.2.2])] [] w) ?_ ?_
 ·
  refine Ab ?_
  refine ls F W Aa (Af HY Aa Aa Aa T3 F Aa 1 Aa).q fun a w F W => ?_
  refine ls F W Aa (Ak (v := Value.int .i64 p0.2.1) 0 F Aa Aa T3 Aa).q fun a w F W => ?_
  refine ls F W Aa (HF (y := Value.int .i64 p1) (j := 0) F Aa (Nat.zero_add _).symm a_q_p1 T3 Aa).q fun a w F W => ?_
  refine ls F W Aa (JY F Aa Aa).q fun a w F W => ?_
  refine ls F W Aa (Ag F Aa).q fun a w F W => ?_
  rcases Bool.eq_false_or_eq_true (decide (p0.2.1 ≤ p1)) with hb0 | hb0
  ·
   rw [hb0] at F
   refine AH F W (Ai F Aa Aa Aa Aa) Aa (Ao Aa) (HF (y := Value.int .i64 p1) (j := 0) F Aa (Nat.zero_add _).symm a_q_p1 T3 Aa).q fun a w F W => ?_
   refine AH F W (Ai F Aa Aa Aa Aa) Aa (Ao Aa) (Af HY Aa Aa Aa T3 F Aa 2 Aa).q fun a w F W => ?_
   refine AH F W (Ai F Aa Aa Aa Aa) Aa (Ao Aa) (Ak (v := Value.int .i64 p0.2.2) 0 F Aa Aa T3 Aa).q fun a w F W => ?_
   refine AH F W (Ai F Aa Aa Aa Aa) Aa (Ao Aa) (JY F Aa Aa).q fun a w F W => ?_
   refine ls F W Aa (Av F Aa Aa Aa).q fun a w F W => ?_
   refine ls F W Aa (Ae F Aa).q fun a w F W => ?_
   refine Ad (Ac ?_)
   exact ⟨F.re ⟨(by show some (Value.bool (decide (p1 ≤ p0.2.2))) = some (Value.bool (decide (p0.2.1 ≤ p1) && decide (p1 ≤ p0.2.2))); try rw [hb0]; all_goals simp only [Bool.not_true, Bool.not_false, Bool.true_and, Bool.false_and, Bool.true_or, Bool.false_or, Bool.and_true, Bool.or_false, cond_true, cond_false]), trivial⟩, W⟩
  rw [hb0] at F
  iterate 4 refine Dm F Aa Aa Aa Aa Aa Aa Aa fun a F => ?_
  refine ls F W Aa (AF F Aa Aa Aa).q fun a w F W => ?_
  refine ls F W Aa (Ae F Aa).q fun a w F W => ?_
  refine Ad (Ac ?_)
  exact ⟨F.re ⟨(by show some (Value.bool false) = some (Value.bool (decide (p0.2.1 ≤ p1) && decide (p1 ≤ p0.2.2))); try rw [hb0]; all_goals simp only [Bool.not_true, Bool.not_false, Bool.true_and, Bool.false_and, Bool.true_or, Bool.false_or, Bool.and_true, Bool.or_false, cond_true, cond_false]), trivial⟩, W⟩
 rintro a w ⟨F, W⟩
 refine Ay ?_
 subst H
 refine A5 (.inl Aa) F W Aa (Au F Aa) ?_
 exact ⟨rfl, W.done⟩
theorem NA : Has Try.prog 41 := ⟨fun args w => Aj Try.func41 rfl (by decide) args w⟩
noncomputable def Am (p0 : List (Int × Int × Int)) (p1c0 : Int) : Int → Option (Int ⊕ (Unit ⊕ Int))
  | x1 => (if x1 < (p0.length : Int) then (ix p0 x1).bind fun x2 => (if (AQ x2 p1c0) = true then some (.inr (.inr x1)) else some (.inl (D8 (x1 + 1)))) else some (.inr (.inl ())))
noncomputable def AD (p0 : List (Int × Int × Int)) (p1c0 : Int) : Option Int := F6 (Bj (Am p0 p1c0) 0) fun _ => some (-1)
theorem Cl (Y : Nat → Prop) (w0 : World) (v1 : Value) (q_p1c0 : Nat) (p0 : List (Int × Int × Int)) (p1c0 : Int) (r : Int) (H : AD p0 p1c0 = some r) (h_v1 : Sl w0 (NX []) BK v1 p0) (a_q_p1c0 : At ⟨Y, [], w0⟩ q_p1c0 0 [.int .i64 p1c0]) :
    Calls Try.prog 49 #[v1, .func (.func 41) #[] #[.pointer (some ⟨q_p1c0, 0, none⟩)]] w0 fun e w' => e = .returned (.int .i64 r) ∧ Below w0.heap.size w0 w' := by
 refine enter Try.func49 Aa Try.ntmps49 Aa fun a F => ?_
 have W := Stw.start Y w0
 unfold AD at H
 refine Ah (Ab ?_)
 refine ls F W Aa (Ae F Aa).q fun a w F W => ?_
 refine Ad (Ac ?_)
 obtain ⟨o1, G1, K1, L1⟩ := JO H
 refine AR (fun a w => some (Sum.inl ()) = some o1 ∧ Fr 19 [] [(4, .int .i64 0)] a ∧ Stw ⟨Y, [], w0⟩ [] [] w) ?_ ?_
 ·
  have H := G1
  clear G1 K1
  refine Ah (Ab ?_)
  refine ls F W Aa (Ag F Aa).q fun a w F W => ?_
  refine ls F W Aa (Bi (r := BK) (l := p0) H2 Aa F Aa (Al h_v1)).q fun a w F W => ?_
  refine ls F W Aa (Ag F Aa).q fun a w F W => ?_
  refine Ad (Ac (Ax ?_))
  refine BT H (fun s a w => Fr 19 [] [(0, v1), (1, .func (.func 41) #[] #[.pointer (some ⟨q_p1c0, 0, none⟩)]), (4, .int .i64 0), (7, .int .i64 (p0.length : Int)), (8, .int .i64 s)] a ∧ Stw ⟨Y, [], w0⟩ [] [] w) ⟨F.re ⟨rfl, Aa, Aa, Aa, Aa, trivial⟩, W⟩ fun s o a w H L2 hR => ?_
  obtain ⟨x1, rfl⟩ : ∃ x, x = s := ⟨s, rfl⟩
  obtain ⟨F, W⟩ := hR
  have F : Fr 19 [] [(0, v1), (1, .func (.func 41) #[] #[.pointer (some ⟨q_p1c0, 0, none⟩)]), (4, .int .i64 0), (7, .int .i64 (p0.length : Int)), (8, .int .i64 x1)] a := F
  have W : Stw ⟨Y, [], w0⟩ [] [] w := W
  rw [Am] at H
  refine Ah (Ab ?_)
  refine ls F W Aa (BU F Aa Aa).q fun a w F W => ?_
  refine Ad (Ac (Ah ?_))
  refine AB F Aa (fun hb => ?_) fun hb => ?_
  ·
   have H := AU (Bv hb) H
   rw [hb] at F
   clear hb
   refine As (Ac (Ah (Ax (Ah (Ab ?_)))))
   refine ls F W Aa (Ag F Aa).q fun a w F W => ?_
   refine ls F W Aa (Ae F Aa).q fun a w F W => ?_
   refine Ad (Ac (Ah (Ab ?_)))
   iterate 3 refine ls F W Aa (Ag F Aa).q fun a w F W => ?_
   obtain ⟨x2, h1, H⟩ := An H
   refine ls F W Aa (AN (r := BK) J2 F Aa Aa (Al h_v1) h1).q fun a w F W => ?_
   refine ls F W Aa (AG (y := Value.agg #[.int .i64 x2.1, .int .i64 x2.2.1, .int .i64 x2.2.2]) (j := 0) (i := x1) F Aa Aa (Al h_v1) h1 Kb.to J7 Aa).q fun a w F W => ?_
   refine ls F W Aa (H1 (ws := [.agg #[.int .i64 x2.1, .int .i64 x2.2.1, .int .i64 x2.2.2], .pointer (some ⟨q_p1c0, 0, none⟩)]) (v := Value.bool (AQ x2 p1c0)) F NA Aa (fun w W => DX any w q_p1c0 x2 p1c0 _ Aa (At.re a_q_p1c0 W))) fun a w F W => ?_
   refine Ad (Ac ?_)
   refine AB F Aa (fun hb => ?_) fun hb => ?_
   ·
    have H := AU hb H
    rw [hb] at F
    clear hb
    refine Ah (Ab ?_)
    refine ls F W Aa (Ag F Aa).q fun a w F W => ?_
    refine ls F W Aa (Ae F Aa).q fun a w F W => ?_
    refine Ad (Ac (Ay (AP ?_)))
    iterate 2 refine AL ?_
    refine AP (AL ?_)
    have H := L2 _ H
    have H := L1 _ H
    have H := AV H
    subst H
    refine A5 (.inl Aa) F W Aa (Au F Aa) ?_
    exact ⟨rfl, W.done⟩
   have H := AW (by rw [hb]; decide) H
   rw [hb] at F
   clear hb
   refine As (AJ (Ac (Ab ?_)))
   refine ls F W Aa (CW F Aa Aa Aa).q fun a w F W => ?_
   refine ls F W Aa (Ag F Aa).q fun a w F W => ?_
   refine Ad (Ac ?_)
   exact ⟨_, H, F.re ⟨rfl, Aa, Aa, Aa, Aa, trivial⟩, W⟩
  have H := AW (Bu hb) H
  rw [hb] at F
  clear hb
  refine BC ?_
  iterate 2 refine B6 ?_
  refine BD (Ac ?_)
  have H := L2 _ H
  exact ⟨H, F.re ⟨rfl, trivial⟩, W⟩
 rintro a w ⟨hj, F, W⟩
 have H := K1 _ hj
 clear hj G1 K1 L1
 refine Ah (Ab ?_)
 refine ls F W Aa (Ae F Aa).q fun a w F W => ?_
 refine Ad (Ac (Ay ?_))
 have H := AV H
 subst H
 refine A5 (.inl Aa) F W Aa (Au F Aa) ?_
 exact ⟨rfl, W.done⟩
theorem Nn : Has Try.prog 49 := ⟨fun args w => Aj Try.func49 rfl (by decide) args w⟩
noncomputable def Az (p0 : List (Int × Int × Int)) (p1c0 : Int) : Option Bool := (AD p0 p1c0).bind fun x1 => some (decide (0 ≤ x1))
theorem Ce (Y : Nat → Prop) (w0 : World) (v1 : Value) (q_p1c0 : Nat) (p0 : List (Int × Int × Int)) (p1c0 : Int) (r : Bool) (H : Az p0 p1c0 = some r) (h_v1 : Sl w0 (NX []) BK v1 p0) (a_q_p1c0 : At ⟨Y, [], w0⟩ q_p1c0 0 [.int .i64 p1c0]) :
    Calls Try.prog 40 #[v1, .func (.func 41) #[] #[.pointer (some ⟨q_p1c0, 0, none⟩)]] w0 fun e w' => e = .returned (.bool r) ∧ Below w0.heap.size w0 w' := by
 refine enter Try.func40 Aa Try.ntmps40 Aa fun a F => ?_
 have W := Stw.start Y w0
 unfold Az at H
 refine Ah (Ab ?_)
 refine ls F W Aa (Ae F Aa).q fun a w F W => ?_
 refine Ad (Ac (Ah (Ab ?_)))
 iterate 2 refine ls F W Aa (Ag F Aa).q fun a w F W => ?_
 obtain ⟨x1, h1, H⟩ := An H
 refine ls F W Aa (BB (v := Value.int .i64 x1) F Nn Aa (fun w W => Cl any w (v1) q_p1c0 p0 p1c0 _ h1 (((Al h_v1) : DC _ _ _ _ _ _) w W).nx (At.re a_q_p1c0 W))) fun a w F W => ?_
 refine ls F W Aa (Ep F Aa Aa).q fun a w F W => ?_
 refine ls F W Aa (Ae F Aa).q fun a w F W => ?_
 refine Ad (Ac (Ay ?_))
 have H := AV H
 subst H
 refine A5 (.inl Aa) F W Aa (Au F Aa) ?_
 exact ⟨rfl, W.done⟩
theorem Nj : Has Try.prog 40 := ⟨fun args w => Aj Try.func40 rfl (by decide) args w⟩
noncomputable def AO (p0 : (List (Int × Int × Int)) × (List (Int × Int))) (p1 : Int) : Option Bool := (Az p0.1 p1).bind fun x1 => some x1
theorem CK (Y : Nat → Prop) (w0 : World) (v1 : Value) (v2 : Value) (p0 : (List (Int × Int × Int)) × (List (Int × Int))) (p1 : Int) (r : Bool) (H : AO p0 p1 = some r) (h_v1 : Sl w0 (NX []) BK v1 p0.1) (h_v2 : Sl w0 (NX []) DQ v2 p0.2) :
    Calls Try.prog 27 #[.agg #[v1, v2], .int .i64 p1] w0 fun e w' => e = .returned (.bool r) ∧ Below w0.heap.size w0 w' := by
 refine enter Try.func27 Aa Try.ntmps27 Aa fun a F => ?_
 have W := Stw.start Y w0
 unfold AO at H
 refine Ah (Ab ?_)
 refine Cf (cs := [v1, v2]) F W Aa Aa Aa fun b1 a w F W => ?_
 refine Cf (cs := [.int .i64 p1]) F W Aa Aa Aa fun b2 a w F W => ?_
 refine ls F W Aa (Ae F Aa).q fun a w F W => ?_
 refine Ad (Ac (Ah (Ab ?_)))
 refine ls F W Aa (Af Ji Aa Aa Aa KJ F Aa 0 Aa).q fun a w F W => ?_
 refine ls F W Aa (Ak (v := v1) 1 F Aa Aa KJ Aa).q fun a w F W => ?_
 refine ls F W Aa (FJ (us := []) (vs := [.pointer (some ⟨b2, 0, none⟩)]) F Aa Aa).q fun a w F W => ?_
 obtain ⟨x1, h1, H⟩ := An H
 refine ls F W Aa (BB (v := Value.bool x1) F Nj Aa (fun w W => Ce any w (v1) b2 p0.1 p1 _ h1 (((Al h_v1) : DC _ _ _ _ _ _) w W).nx (L9 W 0 Aa))) fun a w F W => ?_
 refine ls F W Aa (Ae F Aa).q fun a w F W => ?_
 refine Ad (Ac (Ay ?_))
 have H := AV H
 subst H
 refine A5 (.inl Aa) F W Aa (Au F Aa) ?_
 exact ⟨rfl, W.done⟩
theorem Mq : Has Try.prog 27 := ⟨fun args w => Aj Try.func27 rfl (by decide) args w⟩
theorem LZ (Y : Nat → Prop) (w0 : World) (v : Value) (h1 : v.oneCell' = true) : Calls Try.prog 42 [v].toArray w0 fun e w' => ∃ b, e = .returned (.func (.func 50) #[] #[.pointer (some ⟨b, 0, none⟩)]) ∧ Stw ⟨Y, [], w0⟩ [(b, [v])] [] w' := by
 refine enter Try.func42 Aa Try.ntmps42 Aa fun a F => ?_
 have W := Stw.start Y w0
 refine Ah (Ab ?_)
 refine Cf (cs := [v]) F W Aa Aa (CG h1) fun b1 a w F W => ?_
 refine ls F W Aa (Ae F Aa).q fun a w F W => ?_
 refine Ad (Ac (Ah (Ab ?_)))
 refine ls F W Aa (FJ (us := []) (vs := [.pointer (some ⟨b1, 0, none⟩)]) F Aa Aa).q fun a w F W => ?_
 refine ls F W Aa (Ae F Aa).q fun a w F W => ?_
 refine Ad (Ac (Ay ?_))
 refine A5 (.inl Aa) F W Aa (Au F Aa) ?_
 exact ⟨b1, Aa, W⟩
theorem MF : Has Try.prog 42 := ⟨fun args w => Aj Try.func42 rfl (by decide) args w⟩
theorem Mx : Ty Try.prog 91 true 2 := ⟨by kernel_rfl, by kernel_rfl⟩
theorem MR (b : Nat) (v : Value) (l : List (Int × Int)) (hn : l.length ≤ 1000000000) :
    KP Try.prog 50 [.pointer (some ⟨b, 0, none⟩)] (Li b v DQ l) (HG l) (fun p => [.int .i64 p.1, Value.agg #[.int .i64 p.2.1, .int .i64 p.2.2]]) := by
 intro y K Kx w0 hB hR hY h0
 refine enter (args := [.func (.yield y) #[] #[], .pointer (some ⟨b, 0, none⟩)]) Try.func50 Aa Try.ntmps50 Aa fun a F => ?_
 refine Ah (Ab ?_)
 have W := Stw.start any w0
 have hr := hR _ _ h0
 refine ls F W Aa (GM (cs := [v]) (v := v) hr.1 (by simp) F Aa KI Aa).q fun a w F W => ?_
 refine ls F W Aa (Bi (r := DQ) (l := l) Lx Aa F Aa (Al hr.2.nx)).q fun a w F W => ?_
 refine ls F W Aa (GV (r := (l.length : Int) - 1) F Aa Aa (H4 hn)).q fun a w F W => ?_
 refine ls F W Aa (Ae F Aa).q fun a w F W => ?_
 refine Ad (Ac ?_)
 have hK := hB _ _ _ h0 W.frm.below
 have F : Fr 19 [] [(0, .func (.yield y) #[] #[]), (1, .pointer (some ⟨b, 0, none⟩)), (3, .int .i64 ((l.length : Int) - 1))] a := F.re ⟨rfl, Aa, Aa, trivial⟩
 clear W hr h0
 have hl : l.take l.length = l := List.take_length
 rw [← hl] at hK
 refine Ax ?_
 refine Ey (fun m a w => m ≤ l.length ∧ Fr 19 [] [(0, .func (.yield y) #[] #[]), (1, .pointer (some ⟨b, 0, none⟩)), (3, .int .i64 ((m : Int) - 1))] a ∧ K (HG (l.take m)) w) l.length ⟨Nat.le_refl _, F, hK⟩ ?_
 clear F hK w
 rintro m a w ⟨hm, F, hK⟩
 have W := Stw.start any w
 have hr := hR _ _ hK
 refine Ah (Ah (Ab ?_))
 refine ls F W Aa (Ag F Aa).q fun a w1 F W => ?_
 refine ls F W Aa (Ep F Aa Aa).q fun a w1 F W => ?_
 refine Ad (Ac ?_)
 cases m with
 | zero =>
  refine F1 F Aa ?_
  refine BC ?_
  iterate 2 refine B6 ?_
  refine BD ?_
  exact E1 (.inr Aa) (F.re (F' := []) trivial) Aa ⟨⟨_, Aa⟩, .inl (hB _ _ _ hK W.frm.below)⟩
 | succ k =>
  refine F5 F (by show some (Value.bool (decide ((0 : Int) ≤ (k + 1 : Nat) - 1))) = some (Value.bool true); rw [decide_eq_true (by omega)]) ?_
  have hk : k < l.length := hm
  have hx : ix l (k : Int) = some l[k] := by unfold ix; rw [if_pos (by omega)]; simp
  have hx2 : l[k]? = some l[k] := by simp
  have e1 : ((k + 1 : Nat) : Int) - 1 = k := by omega
  rw [e1] at F
  rw [Hm hx2] at hK
  refine As (Ac (Ah (Ax (Ah ?_))))
  refine HH 6 (fun ⟨_, _, h⟩ => by obtain ⟨⟨_, h⟩, _⟩ := h; cases h) ?_
  iterate 2 refine ls F W Aa (Ag F Aa).q fun a w1 F W => ?_
  refine ls F W Aa (GM (cs := [v]) (v := v) hr.1 (by simp) F Aa KI Aa).q fun a w1 F W => ?_
  refine ls F W Aa (Ag F Aa).q fun a w1 F W => ?_
  refine ls F W Aa (AN (r := DQ) L6 F Aa Aa (Al hr.2.nx) hx).q fun a w1 F W => ?_
  refine ls F W Aa (AG (y := Value.agg #[.int .i64 ((l[k]).1), .int .i64 ((l[k]).2)]) (j := 0) (i := (k : Int)) F Aa Aa (Al hr.2.nx) hx Mg.to Mx Aa).q fun a w1 F W => ?_
  refine Ad ?_
  have hK := hB _ _ _ hK W.frm.below
  refine I2 (vs := [.int .i64 k, Value.agg #[.int .i64 ((l[k]).1), .int .i64 ((l[k]).2)]]) F Aa Aa Aa (hY _ _ _ hK) ?_
  rintro e w2 (⟨rfl, hK2⟩ | ⟨rfl, hx2⟩)
  · refine ⟨_, rfl, fun a F => ?_⟩
    refine HX F Aa Aa fun a F => ?_
    refine Ii (Ac ?_)
    refine F1 F Aa ?_
    refine As (AJ (Ac (Ab ?_)))
    have W := Stw.start any w2
    refine ls F W Aa (Ag F Aa).q fun a w3 F W => ?_
    refine ls F W Aa (GV (r := (k : Int) - 1) F Aa Aa (H4 (by omega))).q fun a w3 F W => ?_
    refine ls F W Aa (Ae F Aa).q fun a w3 F W => ?_
    refine Ad (Ac ?_)
    exact ⟨k, Nat.lt_succ_self k, Nat.le_of_lt hk, F.re ⟨rfl, Aa, Aa, trivial⟩, hB _ _ _ hK2 W.frm.below⟩
  · refine ⟨_, rfl, fun a F => ?_⟩
    refine HX F Aa Aa fun a F => ?_
    refine Ii (Ac ?_)
    refine F5 F Aa ?_
    refine Ay (AP ?_)
    iterate 2 refine AL ?_
    refine AP ?_
    refine E1 (.inl Aa) (F.re (F' := []) trivial) Aa ⟨⟨_, Aa⟩, .inr hx2⟩
theorem Ns : Has Try.prog 50 := ⟨fun args w => Aj Try.func50 rfl (by decide) args w⟩
noncomputable def BG (p1 : Int) (x2 : Int × Int × Int) : Unit → Option (Unit ⊕ Int)
  | _ => (if x2.2.2 < p1 then some (.inr x2.2.1) else some (.inl ()))
noncomputable def Bl (p0 : (List (Int × Int × Int)) × (List (Int × Int))) (p1 : Int) : Option Int := (back p0.2).bind fun x1 => F6 (Eo (BG p1) x1 ()) fun _ => some 0
theorem C3 (Y : Nat → Prop) (w0 : World) (v1 : Value) (v2 : Value) (p0 : (List (Int × Int × Int)) × (List (Int × Int))) (p1 : Int) (r : Int) (H : Bl p0 p1 = some r) (h_v1 : Sl w0 (NX []) BK v1 p0.1) (h_v2 : Sl w0 (NX []) DQ v2 p0.2) :
    Calls Try.prog 28 #[.agg #[v1, v2], .int .i64 p1] w0 fun e w' => e = .returned (.int .i64 r) ∧ Below w0.heap.size w0 w' := by
 refine JR Try.func28 Aa Try.ntmps28 Aa fun a F => ?_
 have W := Stw.start Y w0
 unfold Bl at H
 refine Ah (Ab ?_)
 refine Cf (cs := [v1, v2]) F W Aa Aa Aa fun b1 a w F W => ?_
 refine Cf (cs := [.int .i64 p1]) F W Aa Aa Aa fun b2 a w F W => ?_
 refine BI (cs := [.int .i64 0]) F W Aa Z3 Aa fun b3 a w F W => ?_
 refine Ad (Ac (Ah (Ah (Ab ?_))))
 refine ls F W Aa (Af Ji Aa Aa Aa KI F Aa 1 Aa).q fun a w F W => ?_
 refine ls F W Aa (Ak (v := v2) 2 F Aa Aa KI Aa).q fun a w F W => ?_
 refine BP (β := Nat) (Ml := []) (M := [(b3, [.int .i64 0]), (b2, [.int .i64 p1]), (b1, [v1, v2])]) (Zl := []) (Z := []) (rv := fun b4 => .func (.func 50) #[] #[.pointer (some ⟨b4, 0, none⟩)]) (MM := fun b4 => [(b4, [v2])]) (ZZ := fun _ => []) F W MF Aa Aa (fun _ => LZ _ w v2 ((Al h_v2) _ W).one) fun b4 a w F W => ?_
 have W : Stw ⟨Y, [], w0⟩ [(b4, [v2]), (b3, [.int .i64 0]), (b2, [.int .i64 p1]), (b1, [v1, v2])] [] w := W
 refine Ad (Ac (Ax ?_))
 obtain ⟨x1, h1, H⟩ := An H
 obtain ⟨hn, rfl⟩ := HK h1
 have F : Fr 18 [] [(0, .agg #[v1, v2]), (1, .int .i64 p1), (2, .pointer (some ⟨b1, 0, none⟩)), (3, .pointer (some ⟨b2, 0, none⟩)), (4, .pointer (some ⟨b3, 0, none⟩)), (7, .pointer (some ⟨b1, 1, none⟩)), (8, v2), (9, .func (.func 50) #[] #[.pointer (some ⟨b4, 0, none⟩)])] a := F.re ⟨rfl, Aa, Aa, Aa, Aa, Aa, Aa, Aa, trivial⟩
 have W := W.frontM (i := 3) Aa Aa
 have W := W.frontM (i := 3) Aa Aa
 have W := W.frontM (i := 3) Aa Aa
 have W := W.frontM (i := 3) Aa Aa
 refine I4 (Z := []) (fun s M Z => M = [(b4, [v2]), (b3, [.int .i64 0]), (b2, [.int .i64 p1]), (b1, [v1, v2])] ∧ Z = []) H F W ⟨rfl, Aa⟩ Aa Ns (MR b4 v2 p0.2 hn) (fun _ => rfl) Aa (fun s M Z hK w Z' W => ?_) (fun l dD1 r1a r1b x2 s o M Z a a₂ w H L1 hK F hF2 W => ?_) fun dD1 s M Z a w H hK F W => ?_
 ·
  obtain ⟨rfl, rfl⟩ := hK
  exact Li.of (i := 0) W Aa (Al h_v2)
 ·
  obtain ⟨rfl, rfl⟩ := hK
  have F : Fr 18 [] [(0, .agg #[v1, v2]), (1, .int .i64 p1), (2, .pointer (some ⟨b1, 0, none⟩)), (3, .pointer (some ⟨b2, 0, none⟩)), (4, .pointer (some ⟨b3, 0, none⟩)), (7, .pointer (some ⟨b1, 1, none⟩)), (8, v2), (9, .func (.func 50) #[] #[.pointer (some ⟨b4, 0, none⟩)]), (10, .int .i64 x2.1), (11, .agg #[.int .i64 x2.2.1, .int .i64 x2.2.2])] a := F.re ⟨rfl, Aa, Aa, Aa, Aa, Aa, Aa, Aa, Aa, Aa, trivial⟩
  have W : Stw ⟨Y, [], w0⟩ [(b4, [v2]), (b3, [.int .i64 0]), (b2, [.int .i64 p1]), (b1, [v1, v2])] [r1a, FE dD1] w := W
  rw [BG] at H
  refine Ab ?_
  refine BI (cs := [.int .i64 0, .int .i64 0]) F W Aa Mw Aa fun b5 a w F W => ?_
  refine Bx (vs := [.int .i64 x2.2.1, .int .i64 x2.2.2]) (M' := [(b5, [.int .i64 x2.2.1, .int .i64 x2.2.2]), (b4, [v2]), (b3, [.int .i64 0]), (b2, [.int .i64 p1]), (b1, [v1, v2])]) 0 F W Aa Aa Aa Mx Aa Aa Aa Aa Aa fun w W => ?_
  refine Ad (Ac ?_)
  refine ⟨[(b5, [.int .i64 x2.2.1, .int .i64 x2.2.2]), (b4, [v2]), (b3, [.int .i64 0]), (b2, [.int .i64 p1]), (b1, [v1, v2])], [], W, fun w W => ?_⟩
  have W : Stw ⟨Y, [], w0⟩ [(b5, [.int .i64 x2.2.1, .int .i64 x2.2.2]), (b4, [v2]), (b3, [.int .i64 0]), (b2, [.int .i64 p1]), (b1, [v1, v2])] [r1b, FE dD1] w := W
  refine Ax (Ah (Ab ?_))
  refine ls F W Aa (Af KO Aa Aa Aa T3 F Aa 1 Aa).q fun a w F W => ?_
  refine ls F W Aa (Ak (v := Value.int .i64 x2.2.2) 0 F Aa Aa T3 Aa).q fun a w F W => ?_
  refine ls F W Aa (Ak (v := Value.int .i64 p1) 3 F Aa Aa T3 Aa).q fun a w F W => ?_
  refine ls F W Aa (BU F Aa Aa).q fun a w F W => ?_
  refine Ad (Ac ?_)
  refine AB F Aa (fun hb => ?_) fun hb => ?_
  ·
   have H := AU (Bv hb) H
   rw [hb] at F
   clear hb
   refine Ah (Ab ?_)
   refine ls F W Aa (Af KO Aa Aa Aa T3 F Aa 0 Aa).q fun a w F W => ?_
   refine ls F W Aa (Ak (v := Value.int .i64 x2.2.1) 0 F Aa Aa T3 Aa).q fun a w F W => ?_
   refine Bx (vs := [.int .i64 x2.2.1]) (M' := [(b5, [.int .i64 x2.2.1, .int .i64 x2.2.2]), (b4, [v2]), (b3, [.int .i64 x2.2.1]), (b2, [.int .i64 p1]), (b1, [v1, v2])]) 2 F W Aa Aa Aa T3 Aa Aa Aa Aa Aa fun w W => ?_
   refine Ad (Ac (Ay (AP ?_)))
   refine Ld (M := [(b5, [.int .i64 x2.2.1, .int .i64 x2.2.2]), (b4, [v2]), (b3, [.int .i64 x2.2.1]), (b2, [.int .i64 p1]), (b1, [v1, v2])]) (Z := []) W fun w W => ?_
   have W : Stw ⟨Y, [], w0⟩ [(b5, [.int .i64 x2.2.1, .int .i64 x2.2.2]), (b4, [v2]), (b3, [.int .i64 x2.2.1]), (b2, [.int .i64 p1]), (b1, [v1, v2])] [FE dD1] w := W
   have F := hF2
   refine Ay (AP (AL ?_))
   have H := L1 _ H
   have H := AV H
   subst H
   refine IR (Z := []) (.inl Aa) F W fun w W => ?_
   have W : Stw ⟨Y, [], w0⟩ [(b5, [.int .i64 x2.2.1, .int .i64 x2.2.2]), (b4, [v2]), (b3, [.int .i64 x2.2.1]), (b2, [.int .i64 p1]), (b1, [v1, v2])] [] w := W
   refine Ho W Aa (HW 2 F Aa Aa T3 Aa) ?_
   exact ⟨rfl, W.done⟩
  have H := AW (Bu hb) H
  rw [hb] at F
  clear hb
  refine As (AJ ?_)
  have W := W.frontZ (i := 1) Aa Aa
  have W := W.frontZ (i := 1) Aa Aa
  have W := W.frontM (i := 4) Aa Aa
  have W := W.frontM (i := 4) Aa Aa
  have W := W.frontM (i := 4) Aa Aa
  have W := W.frontM (i := 4) Aa Aa
  have W := W.sub (M' := [(b4, [v2]), (b3, [.int .i64 0]), (b2, [.int .i64 p1]), (b1, [v1, v2])]) (Z' := [r1b, FE dD1]) (List.Sublist.cons_cons _ (List.Sublist.cons_cons _ (List.Sublist.cons_cons _ (List.Sublist.cons_cons _ (List.nil_sublist _))))) (List.Sublist.refl _)
  exact Ky ⟨_, _, _, H, ⟨rfl, Aa⟩, W⟩
 obtain ⟨rfl, rfl⟩ := hK
 have F : Fr 18 [J6 dD1] [(0, .agg #[v1, v2]), (1, .int .i64 p1), (2, .pointer (some ⟨b1, 0, none⟩)), (3, .pointer (some ⟨b2, 0, none⟩)), (4, .pointer (some ⟨b3, 0, none⟩)), (7, .pointer (some ⟨b1, 1, none⟩)), (8, v2), (9, .func (.func 50) #[] #[.pointer (some ⟨b4, 0, none⟩)])] a := F
 have W : Stw ⟨Y, [], w0⟩ [(b4, [v2]), (b3, [.int .i64 0]), (b2, [.int .i64 p1]), (b1, [v1, v2])] [FE dD1] w := W
 refine AJ (Ac (Ah (Ab ?_)))
 refine Bx (vs := [.int .i64 0]) (M' := [(b4, [v2]), (b3, [.int .i64 0]), (b2, [.int .i64 p1]), (b1, [v1, v2])]) 1 F W Aa Aa Aa T3 Aa Aa Aa Aa Aa fun w W => ?_
 refine Ad (Ac (Ay ?_))
 have H := AV H
 subst H
 refine IR (Z := []) (.inl Aa) F W fun w W => ?_
 have W : Stw ⟨Y, [], w0⟩ [(b4, [v2]), (b3, [.int .i64 0]), (b2, [.int .i64 p1]), (b1, [v1, v2])] [] w := W
 refine Ho W Aa (HW 1 F Aa Aa T3 Aa) ?_
 exact ⟨rfl, W.done⟩
theorem JN : type_of% Try.underlying22 := Try.underlying22
theorem Dn : type_of% Try.underlying114 := Try.underlying114
theorem KG : type_of% Try.underlying123 := Try.underlying123
theorem Gy : type_of% Try.underlying126 := Try.underlying126
theorem Mh : Has Try.prog 28 := ⟨fun args w => Aj Try.func28 rfl (by decide) args w⟩
abbrev KX (a : Value × List (Value × List Int)) : List Value := [a.1]
theorem LR : El (Rp.vsl (Rp.vsl (Rp.int .i64))) KX := El.vsl
theorem NC : Ty Try.prog 52 false 1 := ⟨by kernel_rfl, by kernel_rfl⟩
theorem KD : Ty Try.prog 22 false 1 := ⟨by kernel_rfl, by kernel_rfl⟩
theorem J9 : Ty Try.prog 23 false 1 := ⟨by kernel_rfl, by kernel_rfl⟩
abbrev Er (x : Int × Int) : Value := .agg #[.int .i64 x.1, .int .i64 x.2]
theorem Mf : Et Try.prog 22 114 6 48 := Et.of JN (by kernel_rfl) (by kernel_rfl) (by kernel_rfl) (by decide)
def LW (a : Int × Int × Int × Int × Int × Int) : List Value := [.int .i64 a.1, .int .i64 a.2.1, .int .i64 a.2.2.1, .int .i64 a.2.2.2.1, .int .i64 a.2.2.2.2.1, .int .i64 a.2.2.2.2.2]
theorem KV : Fl EM LW := (Fl.pair Fl.int (Fl.pair Fl.int (Fl.pair Fl.int (Fl.pair Fl.int (Fl.pair Fl.int Fl.int)))))
theorem JT : Ty Try.prog 114 true 6 := ⟨by kernel_rfl, by kernel_rfl⟩
theorem LG : (Try.prog.info? 114).bind (·.zero) = some (.agg #[.int .i64 0, .int .i64 0, .int .i64 0, .int .i64 0, .int .i64 0, .int .i64 0]) := by kernel_rfl
theorem Jt : Bt Try.prog 126 [.int .i64 0, .int .i64 0] [(0, 1), (1, 1)] := ⟨⟨.agg #[.int .i64 0, .int .i64 0], by kernel_rfl, rfl⟩, ⟨_, Gy, fun w => by kernel_rfl⟩⟩
theorem Kq : (Try.prog.info? 126).bind (·.zero) = some (.agg #[.int .i64 0, .int .i64 0]) := by kernel_rfl
abbrev C6 : Rp (Int × Int) := (Rp.pair (Rp.int .i64) (Rp.int .i64))
def Mb (a : Int × Int) : List Value := [.int .i64 a.1, .int .i64 a.2]
theorem KY : Fl C6 Mb := (Fl.pair Fl.int Fl.int)
theorem JB : Et Try.prog 123 126 2 16 := Et.of KG (by kernel_rfl) (by kernel_rfl) (by kernel_rfl) (by decide)
theorem LJ : Ty Try.prog 60 true 2 := ⟨by kernel_rfl, by kernel_rfl⟩
noncomputable def Dh (p0 : Int × (List (Int × Int × Int × Int × Int × Int)) × (List (Int × Int))) : ((List (Int × Int)) × Int) → Option (((List (Int × Int)) × Int) ⊕ (List (Int × Int)))
  | (x2, x3) => (if x3 < (p0.2.1.length : Int) then (ix p0.2.1 x3).bind fun x4 => (E9 x2 ([(x4.1, x4.2.1), (x4.2.2.1, x4.2.2.2.1)] : List (Int × Int))).bind fun x5 => some (.inl (x5, D8 (x3 + 1))) else some (.inr x2))
noncomputable def C7 (p0 : Int × (List (Int × Int × Int × Int × Int × Int)) × (List (Int × Int))) : ((List (Int × Int)) × Int) → Option (((List (Int × Int)) × Int) ⊕ (List (Int × Int)))
  | (x7, x8) => (if x8 < (p0.2.2.length : Int) then (ix p0.2.2 x8).bind fun x9 => (E9 x7 ([x9] : List (Int × Int))).bind fun x10 => some (.inl (x10, D8 (x8 + 1))) else some (.inr x7))
noncomputable def DH (p0 : Int × (List (Int × Int × Int × Int × Int × Int)) × (List (Int × Int))) : Option (List (Int × Int)) := (Bj (Dh p0) ([], 0)).bind fun x1 => (Bj (C7 p0) (x1, 0)).bind fun x6 => some x6
theorem Hv (Y : Nat → Prop) (w0 : World) (v1 : Value) (v2 : Value) (p0 : Int × (List (Int × Int × Int × Int × Int × Int)) × (List (Int × Int))) (r : (List (Int × Int))) (H : DH p0 = some r) (h_v1 : Sl w0 (NX []) EM v1 p0.2.1) (h_v2 : Sl w0 (NX []) F2 v2 p0.2.2) :
    Calls Try.prog 64 #[.agg #[.int .i64 p0.1, v1, v2]] w0 fun e w' => ∃ x : Value, e = .returned (x) ∧ Stw ⟨Y, [], w0⟩ [] [row (x) 126 C6 r] w' := by
 refine enter Try.func64 Aa Try.ntmps64 Aa fun a F => ?_
 have W := Stw.start Y w0
 unfold DH at H
 refine Ah (Ab ?_)
 refine Cf (cs := [.int .i64 p0.1, v1, v2]) F W Aa Aa Aa fun b1 a w F W => ?_
 refine ls F W Aa (Ae F Aa).q fun a w F W => ?_
 refine Ad (Ac (Ah (Ab ?_)))
 refine ls F W Aa (Ae F Aa).q fun a w F W => ?_
 refine Ad (Ac ?_)
 obtain ⟨o1, G1, K1⟩ := An H
 refine AR (fun a w => ∃ x1 : List (Int × Int), ∃ v3 : Value, some (x1) = some o1 ∧ Fr 46 [] [(1, .pointer (some ⟨b1, 0, none⟩)), (2, .slice none 0 0), (3, v3)] a ∧ Stw ⟨Y, [], w0⟩ [(b1, [.int .i64 p0.1, v1, v2])] [row v3 126 C6 x1] w) ?_ ?_
 ·
  have H := G1
  clear G1 K1
  refine Ah (Ab ?_)
  refine ls F W Aa (Af FK Aa Aa Aa KD F Aa 1 Aa).q fun a w F W => ?_
  refine ls F W Aa (Ak (v := v1) 0 F Aa Aa KD Aa).q fun a w F W => ?_
  refine ls F W Aa (Bi (r := EM) (l := p0.2.1) JN Aa F Aa (Al h_v1)).q fun a w F W => ?_
  refine ls F W Aa (Ag F Aa).q fun a w F W => ?_
  refine Ad (Ac (Ax ?_))
  have W := W.nilRow 126 C6
  refine BT H (fun s a w => ∃ v4 : Value, Fr 46 [] [(1, .pointer (some ⟨b1, 0, none⟩)), (2, .slice none 0 0), (3, v4), (9, v1), (10, .int .i64 (p0.2.1.length : Int)), (11, .int .i64 s.2)] a ∧ Stw ⟨Y, [], w0⟩ [(b1, [.int .i64 p0.1, v1, v2])] [row v4 126 C6 s.1] w) ⟨(Value.slice none 0 0), F.re ⟨rfl, Aa, Aa, Aa, Aa, Aa, trivial⟩, W⟩ fun s o a w H L2 hR => ?_
  obtain ⟨x2, x3⟩ := s
  obtain ⟨v4, F, W⟩ := hR
  have F : Fr 46 [] [(1, .pointer (some ⟨b1, 0, none⟩)), (2, .slice none 0 0), (3, v4), (9, v1), (10, .int .i64 (p0.2.1.length : Int)), (11, .int .i64 x3)] a := F
  have W : Stw ⟨Y, [], w0⟩ [(b1, [.int .i64 p0.1, v1, v2])] [row v4 126 C6 x2] w := W
  rw [Dh] at H
  refine Ah (Ab ?_)
  refine ls F W Aa (BU F Aa Aa).q fun a w F W => ?_
  refine Ad (Ac (Ah ?_))
  refine AB F Aa (fun hb => ?_) fun hb => ?_
  ·
   have H := AU (Bv hb) H
   rw [hb] at F
   clear hb
   refine As (Ac (Ah (Ax (Ah (Ab ?_)))))
   obtain ⟨x4, h1, H⟩ := An H
   refine ls F W Aa (AN (r := EM) Mf F Aa Aa (Al h_v1) h1).q fun a w F W => ?_
   refine ls F W Aa (AG (y := Value.agg #[.int .i64 x4.1, .int .i64 x4.2.1, .int .i64 x4.2.2.1, .int .i64 x4.2.2.2.1, .int .i64 x4.2.2.2.2.1, .int .i64 x4.2.2.2.2.2]) (j := 0) (i := x3) F Aa Aa (Al h_v1) h1 KV.to JT Aa).q fun a w F W => ?_
   refine BI (cs := [.int .i64 0, .int .i64 0, .int .i64 0, .int .i64 0, .int .i64 0, .int .i64 0]) F W Aa LG Aa fun b2 a w F W => ?_
   refine Bx (vs := [.int .i64 x4.1, .int .i64 x4.2.1, .int .i64 x4.2.2.1, .int .i64 x4.2.2.2.1, .int .i64 x4.2.2.2.2.1, .int .i64 x4.2.2.2.2.2]) (M' := [(b2, [.int .i64 x4.1, .int .i64 x4.2.1, .int .i64 x4.2.2.1, .int .i64 x4.2.2.2.1, .int .i64 x4.2.2.2.2.1, .int .i64 x4.2.2.2.2.2]), (b1, [.int .i64 p0.1, v1, v2])]) 0 F W Aa Aa Aa JT Aa Aa Aa Aa Aa fun w W => ?_
   refine Ad (Ac (Ab ?_))
   refine ls F W Aa (Ag F Aa).q fun a w F W => ?_
   refine ls F W Aa (Af Dn Aa Aa Aa T3 F Aa 0 Aa).q fun a w F W => ?_
   refine ls F W Aa (Ak (v := Value.int .i64 x4.1) 0 F Aa Aa T3 Aa).q fun a w F W => ?_
   refine ls F W Aa (Af Dn Aa Aa Aa T3 F Aa 1 Aa).q fun a w F W => ?_
   refine ls F W Aa (Ak (v := Value.int .i64 x4.2.1) 0 F Aa Aa T3 Aa).q fun a w F W => ?_
   refine ls F W Aa (Bf (v := Value.agg #[.int .i64 x4.1, .int .i64 x4.2.1]) Jt F Aa Aa Aa).q fun a w F W => ?_
   refine ls F W Aa (Af Dn Aa Aa Aa T3 F Aa 2 Aa).q fun a w F W => ?_
   refine ls F W Aa (Ak (v := Value.int .i64 x4.2.2.1) 0 F Aa Aa T3 Aa).q fun a w F W => ?_
   refine ls F W Aa (Af Dn Aa Aa Aa T3 F Aa 3 Aa).q fun a w F W => ?_
   refine ls F W Aa (Ak (v := Value.int .i64 x4.2.2.2.1) 0 F Aa Aa T3 Aa).q fun a w F W => ?_
   refine ls F W Aa (Bf (v := Value.agg #[.int .i64 x4.2.2.1, .int .i64 x4.2.2.2.1]) Jt F Aa Aa Aa).q fun a w F W => ?_
   refine CV (z := Value.agg #[.int .i64 0, .int .i64 0]) (cs := [.int .i64 x4.1, .int .i64 x4.2.1, .int .i64 x4.2.2.1, .int .i64 x4.2.2.2.1]) C6 ([(x4.1, x4.2.1), (x4.2.2.1, x4.2.2.2.1)] : List (Int × Int)) F W Aa JB Kq Aa Aa Aa Aa Aa Aa (KY.repL _ _ ([(x4.1, x4.2.1), (x4.2.2.1, x4.2.2.2.1)] : List (Int × Int))) fun v5 a w F W => ?_
   obtain ⟨x5, h2, H⟩ := An H
   refine Ca (r := C6) (i := 1) F W Aa JB Aa Aa Aa Aa (CI W 0 Aa) h2 Aa fun v6 a w F W => ?_
   have W : Stw ⟨Y, [], w0⟩ [(b2, [.int .i64 x4.1, .int .i64 x4.2.1, .int .i64 x4.2.2.1, .int .i64 x4.2.2.2.1, .int .i64 x4.2.2.2.2.1, .int .i64 x4.2.2.2.2.2]), (b1, [.int .i64 p0.1, v1, v2])] [row v6 126 C6 x5, row v5 126 C6 ([(x4.1, x4.2.1), (x4.2.2.1, x4.2.2.2.1)] : List (Int × Int))] w := W
   refine ls F W Aa (Ae F Aa).q fun a w F W => ?_
   refine Ad (AJ (Ac (Ab ?_)))
   refine ls F W Aa (CW F Aa Aa Aa).q fun a w F W => ?_
   refine ls F W Aa (Ag F Aa).q fun a w F W => ?_
   refine Ad (Ac ?_)
   have W := W.frontM (i := 1) Aa Aa
   have W := W.sub (M' := [(b1, [.int .i64 p0.1, v1, v2])]) (Z' := [row v6 126 C6 x5]) (List.Sublist.cons_cons _ (List.nil_sublist _)) (List.Sublist.cons_cons _ (List.nil_sublist _))
   exact ⟨_, H, (v6), F.re ⟨rfl, Aa, Aa, Aa, Aa, Aa, trivial⟩, W⟩
  have H := AW (Bu hb) H
  rw [hb] at F
  clear hb
  refine BC ?_
  iterate 2 refine B6 ?_
  refine BD (Ac ?_)
  have H := L2 _ H
  exact ⟨_, (v4), H, F.re ⟨rfl, Aa, Aa, trivial⟩, W⟩
 rintro a w ⟨x1, v3, hj, F, W⟩
 have hj := AV hj
 subst hj
 have H := K1
 clear G1 K1
 obtain ⟨o3, G3, K3⟩ := An H
 refine AR (fun a w => ∃ x6 : List (Int × Int), ∃ v7 : Value, some (x6) = some o3 ∧ Fr 46 [] [(2, .slice none 0 0), (3, v7)] a ∧ Stw ⟨Y, [], w0⟩ [(b1, [.int .i64 p0.1, v1, v2])] [row v7 126 C6 x6] w) ?_ ?_
 ·
  have H := G3
  clear G3 K3
  refine Ah (Ab ?_)
  refine ls F W Aa (Af FK Aa Aa Aa J9 F Aa 2 Aa).q fun a w F W => ?_
  refine ls F W Aa (Ak (v := v2) 0 F Aa Aa J9 Aa).q fun a w F W => ?_
  refine ls F W Aa (Bi (r := F2) (l := p0.2.2) Js Aa F Aa (Al h_v2)).q fun a w F W => ?_
  refine ls F W Aa (Ag F Aa).q fun a w F W => ?_
  refine Ad (Ac (Ax ?_))
  refine BT H (fun s a w => ∃ v8 : Value, Fr 46 [] [(2, .slice none 0 0), (3, v8), (30, v2), (31, .int .i64 (p0.2.2.length : Int)), (32, .int .i64 s.2)] a ∧ Stw ⟨Y, [], w0⟩ [(b1, [.int .i64 p0.1, v1, v2])] [row v8 126 C6 s.1] w) ⟨(v3), F.re ⟨rfl, Aa, Aa, Aa, Aa, trivial⟩, W⟩ fun s o a w H L4 hR => ?_
  obtain ⟨x7, x8⟩ := s
  obtain ⟨v8, F, W⟩ := hR
  have F : Fr 46 [] [(2, .slice none 0 0), (3, v8), (30, v2), (31, .int .i64 (p0.2.2.length : Int)), (32, .int .i64 x8)] a := F
  have W : Stw ⟨Y, [], w0⟩ [(b1, [.int .i64 p0.1, v1, v2])] [row v8 126 C6 x7] w := W
  rw [C7] at H
  refine Ah (Ab ?_)
  refine ls F W Aa (BU F Aa Aa).q fun a w F W => ?_
  refine Ad (Ac (Ah ?_))
  refine AB F Aa (fun hb => ?_) fun hb => ?_
  ·
   have H := AU (Bv hb) H
   rw [hb] at F
   clear hb
   refine As (Ac (Ah (Ax (Ah (Ab ?_)))))
   obtain ⟨x9, h3, H⟩ := An H
   refine ls F W Aa (AN (r := F2) LQ F Aa Aa (Al h_v2) h3).q fun a w F W => ?_
   refine ls F W Aa (AG (y := Value.agg #[.int .i64 x9.1, .int .i64 x9.2]) (j := 0) (i := x8) F Aa Aa (Al h_v2) h3 Me.to LJ Aa).q fun a w F W => ?_
   refine BI (cs := [.int .i64 0, .int .i64 0]) F W Aa Mu Aa fun b3 a w F W => ?_
   refine Bx (vs := [.int .i64 x9.1, .int .i64 x9.2]) (M' := [(b3, [.int .i64 x9.1, .int .i64 x9.2]), (b1, [.int .i64 p0.1, v1, v2])]) 0 F W Aa Aa Aa LJ Aa Aa Aa Aa Aa fun w W => ?_
   refine Ad (Ac (Ab ?_))
   refine ls F W Aa (Ag F Aa).q fun a w F W => ?_
   refine ls F W Aa (Af Kp Aa Aa Aa T3 F Aa 0 Aa).q fun a w F W => ?_
   refine ls F W Aa (Ak (v := Value.int .i64 x9.1) 0 F Aa Aa T3 Aa).q fun a w F W => ?_
   refine ls F W Aa (Af Kp Aa Aa Aa T3 F Aa 1 Aa).q fun a w F W => ?_
   refine ls F W Aa (Ak (v := Value.int .i64 x9.2) 0 F Aa Aa T3 Aa).q fun a w F W => ?_
   refine ls F W Aa (Bf (v := Value.agg #[.int .i64 x9.1, .int .i64 x9.2]) Jt F Aa Aa Aa).q fun a w F W => ?_
   refine CV (z := Value.agg #[.int .i64 0, .int .i64 0]) (cs := [.int .i64 x9.1, .int .i64 x9.2]) C6 ([x9] : List (Int × Int)) F W Aa JB Kq Aa Aa Aa Aa Aa Aa (KY.repL _ _ ([x9] : List (Int × Int))) fun v9 a w F W => ?_
   obtain ⟨x10, h4, H⟩ := An H
   refine Ca (r := C6) (i := 1) F W Aa JB Aa Aa Aa Aa (CI W 0 Aa) h4 Aa fun v10 a w F W => ?_
   have W : Stw ⟨Y, [], w0⟩ [(b3, [.int .i64 x9.1, .int .i64 x9.2]), (b1, [.int .i64 p0.1, v1, v2])] [row v10 126 C6 x10, row v9 126 C6 ([x9] : List (Int × Int))] w := W
   refine ls F W Aa (Ae F Aa).q fun a w F W => ?_
   refine Ad (AJ (Ac (Ab ?_)))
   refine ls F W Aa (CW F Aa Aa Aa).q fun a w F W => ?_
   refine ls F W Aa (Ag F Aa).q fun a w F W => ?_
   refine Ad (Ac ?_)
   have W := W.frontM (i := 1) Aa Aa
   have W := W.sub (M' := [(b1, [.int .i64 p0.1, v1, v2])]) (Z' := [row v10 126 C6 x10]) (List.Sublist.cons_cons _ (List.nil_sublist _)) (List.Sublist.cons_cons _ (List.nil_sublist _))
   exact ⟨_, H, (v10), F.re ⟨rfl, Aa, Aa, Aa, Aa, trivial⟩, W⟩
  have H := AW (Bu hb) H
  rw [hb] at F
  clear hb
  refine BC ?_
  iterate 2 refine B6 ?_
  refine BD (Ac ?_)
  have H := L4 _ H
  exact ⟨_, (v8), H, F.re ⟨rfl, Aa, trivial⟩, W⟩
 rintro a w ⟨x6, v7, hj, F, W⟩
 have hj := AV hj
 subst hj
 have H := K3
 clear G3 K3
 refine Ah (Ab ?_)
 refine ls F W Aa (Ag F Aa).q fun a w F W => ?_
 refine ls F W Aa (Ae F Aa).q fun a w F W => ?_
 refine Ad (Ac (Ay ?_))
 have H := AV H
 subst H
 refine A5 (.inl Aa) F W Aa (Au F Aa) ?_
 have W := W.sub (M' := []) (Z' := [row v7 126 C6 x6]) (List.nil_sublist _) (List.Sublist.refl _)
 exact ⟨(v7), Aa, W⟩
theorem MB : Has Try.prog 64 := ⟨fun args w => Aj Try.func64 rfl (by decide) args w⟩
theorem IY : Ty Try.prog 126 true 2 := ⟨by kernel_rfl, by kernel_rfl⟩
theorem Ln (dd : Nat) (x0 : Int) (x1 : Int) (y0 : Int) (y1 : Int) (w : World) : (Op.equalIn (dd + 2) 126 (.agg #[.int .i64 x0, .int .i64 x1]) (.agg #[.int .i64 y0, .int .i64 y1])).run Try.prog w = .ok (decide (x0 = y0 ∧ x1 = y1)) w :=
  Fj (d := dd + 1) (rs := [decide (x0 = y0), decide (x1 = y1)]) Gy (by kernel_rfl) ⟨rfl, DY (d := dd + 0) rfl rfl Jw T3 rfl rfl, rfl, DY (d := dd + 0) rfl rfl Jw T3 rfl rfl, trivial⟩ (by simp) w
theorem LA : Try.prog.eqGuardType Try.prog.depth 126 = false := by kernel_rfl
theorem KU (x0 : Int) (x1 : Int) (y0 : Int) (y1 : Int) (w : World) : (Op.equalIn 10000 126 (.agg #[.int .i64 x0, .int .i64 x1]) (.agg #[.int .i64 y0, .int .i64 y1])).run Try.prog w = .ok (decide (x0 = y0 ∧ x1 = y1)) w := Ln 9998 x0 x1 y0 y1 w
theorem KF : KeyEnc Try.prog 126 Er := ⟨⟨_, Gy, .inl fun _ _ => rfl⟩, fun x y w => (KU x.1 x.2 y.1 y.2 w).trans (by congr 1; exact decide_eq_decide.2 (by simp only [Prod.ext_iff])), fun b x w => GH (m := 9999) (cs := List.toArray [.int .i64 x.1, .int .i64 x.2]) Gy ⟨⟨_, IF T3 rfl, EY (m := 9998) Jw⟩, ⟨_, IF T3 rfl, EY (m := 9998) Jw⟩, trivial⟩ b w, fun x => by simp [Instr.sameBits]⟩
theorem Lt : (Try.prog.info? 101).bind (·.zero) = some (.agg #[]) := by kernel_rfl
theorem LT : Ty Try.prog 101 true 0 := ⟨by kernel_rfl, by kernel_rfl⟩
def CD (p0 : Int × Int × Int × Int × Int × Int) : Bool := (decide (p0.1 = p0.2.2.1) || (decide (p0.2.2.2.2.1 < 1) || (decide (p0.2.2.2.2.2 < p0.2.2.2.2.1) || decide (1000 < p0.2.2.2.2.2))))
theorem Gf (Y : Nat → Prop) (w0 : World)  (p0 : Int × Int × Int × Int × Int × Int) (r : Bool) (H : CD p0 = r)  :
    Calls Try.prog 66 #[.agg #[.int .i64 p0.1, .int .i64 p0.2.1, .int .i64 p0.2.2.1, .int .i64 p0.2.2.2.1, .int .i64 p0.2.2.2.2.1, .int .i64 p0.2.2.2.2.2]] w0 fun e w' => e = .returned (.bool r) ∧ Below w0.heap.size w0 w' := by
 refine enter Try.func66 Aa Try.ntmps66 Aa fun a F => ?_
 have W := Stw.start Y w0
 unfold CD at H
 refine Ah (Ab ?_)
 refine Cf (cs := [.int .i64 p0.1, .int .i64 p0.2.1, .int .i64 p0.2.2.1, .int .i64 p0.2.2.2.1, .int .i64 p0.2.2.2.2.1, .int .i64 p0.2.2.2.2.2]) F W Aa Aa Aa fun b1 a w F W => ?_
 refine ls F W Aa (Ae F Aa).q fun a w F W => ?_
 refine Ad (Ac ?_)
 refine AR (fun a w => Fr 25 [] [(2, .bool (decide (p0.1 = p0.2.2.1) || (decide (p0.2.2.2.2.1 < 1) || (decide (p0.2.2.2.2.2 < p0.2.2.2.2.1) || decide (1000 < p0.2.2.2.2.2)))))] a ∧ Stw ⟨Y, [], w0⟩ [(b1, [.int .i64 p0.1, .int .i64 p0.2.1, .int .i64 p0.2.2.1, .int .i64 p0.2.2.2.1, .int .i64 p0.2.2.2.2.1, .int .i64 p0.2.2.2.2.2])] [] w) ?_ ?_
 ·
  refine Ab ?_
  refine ls F W Aa (Af Dn Aa Aa Aa T3 F Aa 0 Aa).q fun a w F W => ?_
  refine ls F W Aa (Ak (v := Value.int .i64 p0.1) 0 F Aa Aa T3 Aa).q fun a w F W => ?_
  refine ls F W Aa (Af Dn Aa Aa Aa T3 F Aa 2 Aa).q fun a w F W => ?_
  refine ls F W Aa (Ak (v := Value.int .i64 p0.2.2.1) 0 F Aa Aa T3 Aa).q fun a w F W => ?_
  refine ls F W Aa (CB F Aa Aa).q fun a w F W => ?_
  refine ls F W Aa (Ag F Aa).q fun a w F W => ?_
  rcases Bool.eq_false_or_eq_true (decide (p0.1 = p0.2.2.1)) with hb0 | hb0
  ·
   rw [hb0] at F
   iterate 3 refine Dm F Aa Aa Aa Aa Aa Aa Aa fun a F => ?_
   refine ls F W Aa (Av F Aa Aa Aa).q fun a w F W => ?_
   refine ls F W Aa (Ag F Aa).q fun a w F W => ?_
   iterate 5 refine Dm F Aa Aa Aa Aa Aa Aa Aa fun a F => ?_
   refine ls F W Aa (Av F Aa Aa Aa).q fun a w F W => ?_
   refine ls F W Aa (Ag F Aa).q fun a w F W => ?_
   iterate 3 refine Dm F Aa Aa Aa Aa Aa Aa Aa fun a F => ?_
   refine ls F W Aa (Av F Aa Aa Aa).q fun a w F W => ?_
   refine ls F W Aa (Ae F Aa).q fun a w F W => ?_
   refine Ad (Ac ?_)
   exact ⟨F.re ⟨(by show some (Value.bool true) = some (Value.bool (decide (p0.1 = p0.2.2.1) || (decide (p0.2.2.2.2.1 < 1) || (decide (p0.2.2.2.2.2 < p0.2.2.2.2.1) || decide (1000 < p0.2.2.2.2.2))))); try rw [hb0]; all_goals simp only [Bool.not_true, Bool.not_false, Bool.true_and, Bool.false_and, Bool.true_or, Bool.false_or, Bool.and_true, Bool.or_false, cond_true, cond_false]), trivial⟩, W⟩
  rw [hb0] at F
  refine AH F W (Ai F Aa Aa Aa Aa) Aa (Ao Aa) (Af Dn Aa Aa Aa T3 F Aa 4 Aa).q fun a w F W => ?_
  refine AH F W (Ai F Aa Aa Aa Aa) Aa (Ao Aa) (Ak (v := Value.int .i64 p0.2.2.2.2.1) 0 F Aa Aa T3 Aa).q fun a w F W => ?_
  refine AH F W (Ai F Aa Aa Aa Aa) Aa (Ao Aa) (BU F Aa Aa).q fun a w F W => ?_
  refine ls F W Aa (AF F Aa Aa Aa).q fun a w F W => ?_
  refine ls F W Aa (Ag F Aa).q fun a w F W => ?_
  rcases Bool.eq_false_or_eq_true (decide (p0.2.2.2.2.1 < 1)) with hb1 | hb1
  ·
   rw [hb1] at F
   iterate 5 refine Dm F Aa Aa Aa Aa Aa Aa Aa fun a F => ?_
   refine ls F W Aa (Av F Aa Aa Aa).q fun a w F W => ?_
   refine ls F W Aa (Ag F Aa).q fun a w F W => ?_
   iterate 3 refine Dm F Aa Aa Aa Aa Aa Aa Aa fun a F => ?_
   refine ls F W Aa (Av F Aa Aa Aa).q fun a w F W => ?_
   refine ls F W Aa (Ae F Aa).q fun a w F W => ?_
   refine Ad (Ac ?_)
   exact ⟨F.re ⟨(by show some (Value.bool true) = some (Value.bool (decide (p0.1 = p0.2.2.1) || (decide (p0.2.2.2.2.1 < 1) || (decide (p0.2.2.2.2.2 < p0.2.2.2.2.1) || decide (1000 < p0.2.2.2.2.2))))); try rw [hb1]; try rw [hb0]; all_goals simp only [Bool.not_true, Bool.not_false, Bool.true_and, Bool.false_and, Bool.true_or, Bool.false_or, Bool.and_true, Bool.or_false, cond_true, cond_false]), trivial⟩, W⟩
  rw [hb1] at F
  refine AH F W (Ai F Aa Aa Aa Aa) Aa (Ao Aa) (Af Dn Aa Aa Aa T3 F Aa 5 Aa).q fun a w F W => ?_
  refine AH F W (Ai F Aa Aa Aa Aa) Aa (Ao Aa) (Ak (v := Value.int .i64 p0.2.2.2.2.2) 0 F Aa Aa T3 Aa).q fun a w F W => ?_
  refine AH F W (Ai F Aa Aa Aa Aa) Aa (Ao Aa) (Af Dn Aa Aa Aa T3 F Aa 4 Aa).q fun a w F W => ?_
  refine AH F W (Ai F Aa Aa Aa Aa) Aa (Ao Aa) (Ak (v := Value.int .i64 p0.2.2.2.2.1) 0 F Aa Aa T3 Aa).q fun a w F W => ?_
  refine AH F W (Ai F Aa Aa Aa Aa) Aa (Ao Aa) (BU F Aa Aa).q fun a w F W => ?_
  refine ls F W Aa (AF F Aa Aa Aa).q fun a w F W => ?_
  refine ls F W Aa (Ag F Aa).q fun a w F W => ?_
  rcases Bool.eq_false_or_eq_true (decide (p0.2.2.2.2.2 < p0.2.2.2.2.1)) with hb2 | hb2
  ·
   rw [hb2] at F
   iterate 3 refine Dm F Aa Aa Aa Aa Aa Aa Aa fun a F => ?_
   refine ls F W Aa (Av F Aa Aa Aa).q fun a w F W => ?_
   refine ls F W Aa (Ae F Aa).q fun a w F W => ?_
   refine Ad (Ac ?_)
   exact ⟨F.re ⟨(by show some (Value.bool true) = some (Value.bool (decide (p0.1 = p0.2.2.1) || (decide (p0.2.2.2.2.1 < 1) || (decide (p0.2.2.2.2.2 < p0.2.2.2.2.1) || decide (1000 < p0.2.2.2.2.2))))); try rw [hb2]; try rw [hb1]; try rw [hb0]; all_goals simp only [Bool.not_true, Bool.not_false, Bool.true_and, Bool.false_and, Bool.true_or, Bool.false_or, Bool.and_true, Bool.or_false, cond_true, cond_false]), trivial⟩, W⟩
  rw [hb2] at F
  refine AH F W (Ai F Aa Aa Aa Aa) Aa (Ao Aa) (Af Dn Aa Aa Aa T3 F Aa 5 Aa).q fun a w F W => ?_
  refine AH F W (Ai F Aa Aa Aa Aa) Aa (Ao Aa) (Ak (v := Value.int .i64 p0.2.2.2.2.2) 0 F Aa Aa T3 Aa).q fun a w F W => ?_
  refine AH F W (Ai F Aa Aa Aa Aa) Aa (Ao Aa) (Hk F Aa Aa).q fun a w F W => ?_
  refine ls F W Aa (AF F Aa Aa Aa).q fun a w F W => ?_
  refine ls F W Aa (Ae F Aa).q fun a w F W => ?_
  refine Ad (Ac ?_)
  exact ⟨F.re ⟨(by show some (Value.bool (decide (1000 < p0.2.2.2.2.2))) = some (Value.bool (decide (p0.1 = p0.2.2.1) || (decide (p0.2.2.2.2.1 < 1) || (decide (p0.2.2.2.2.2 < p0.2.2.2.2.1) || decide (1000 < p0.2.2.2.2.2))))); try rw [hb2]; try rw [hb1]; try rw [hb0]; all_goals simp only [Bool.not_true, Bool.not_false, Bool.true_and, Bool.false_and, Bool.true_or, Bool.false_or, Bool.and_true, Bool.or_false, cond_true, cond_false]), trivial⟩, W⟩
 rintro a w ⟨F, W⟩
 refine Ay ?_
 subst H
 refine A5 (.inl Aa) F W Aa (Au F Aa) ?_
 exact ⟨rfl, W.done⟩
theorem MP : Has Try.prog 66 := ⟨fun args w => Aj Try.func66 rfl (by decide) args w⟩
noncomputable def AY (p0 : List (Int × Int × Int × Int × Int × Int)) : Int → Option (Int ⊕ (Unit ⊕ Int))
  | x1 => (if x1 < (p0.length : Int) then (ix p0 x1).bind fun x2 => (if (CD x2) = true then some (.inr (.inr x1)) else some (.inl (D8 (x1 + 1)))) else some (.inr (.inl ())))
noncomputable def AM (p0 : List (Int × Int × Int × Int × Int × Int)) : Option Int := F6 (Bj (AY p0) 0) fun _ => some (-1)
theorem CO (Y : Nat → Prop) (w0 : World) (v1 : Value) (p0 : List (Int × Int × Int × Int × Int × Int)) (r : Int) (H : AM p0 = some r) (h_v1 : Sl w0 (NX []) EM v1 p0) :
    Calls Try.prog 70 #[v1, .func (.func 66) #[] #[]] w0 fun e w' => e = .returned (.int .i64 r) ∧ Below w0.heap.size w0 w' := by
 refine enter Try.func70 Aa Try.ntmps70 Aa fun a F => ?_
 have W := Stw.start Y w0
 unfold AM at H
 refine Ah (Ab ?_)
 refine ls F W Aa (Ae F Aa).q fun a w F W => ?_
 refine Ad (Ac ?_)
 obtain ⟨o1, G1, K1, L1⟩ := JO H
 refine AR (fun a w => some (Sum.inl ()) = some o1 ∧ Fr 19 [] [(4, .int .i64 0)] a ∧ Stw ⟨Y, [], w0⟩ [] [] w) ?_ ?_
 ·
  have H := G1
  clear G1 K1
  refine Ah (Ab ?_)
  refine ls F W Aa (Ag F Aa).q fun a w F W => ?_
  refine ls F W Aa (Bi (r := EM) (l := p0) JN Aa F Aa (Al h_v1)).q fun a w F W => ?_
  refine ls F W Aa (Ag F Aa).q fun a w F W => ?_
  refine Ad (Ac (Ax ?_))
  refine BT H (fun s a w => Fr 19 [] [(0, v1), (1, .func (.func 66) #[] #[]), (4, .int .i64 0), (7, .int .i64 (p0.length : Int)), (8, .int .i64 s)] a ∧ Stw ⟨Y, [], w0⟩ [] [] w) ⟨F.re ⟨rfl, Aa, Aa, Aa, Aa, trivial⟩, W⟩ fun s o a w H L2 hR => ?_
  obtain ⟨x1, rfl⟩ : ∃ x, x = s := ⟨s, rfl⟩
  obtain ⟨F, W⟩ := hR
  have F : Fr 19 [] [(0, v1), (1, .func (.func 66) #[] #[]), (4, .int .i64 0), (7, .int .i64 (p0.length : Int)), (8, .int .i64 x1)] a := F
  have W : Stw ⟨Y, [], w0⟩ [] [] w := W
  rw [AY] at H
  refine Ah (Ab ?_)
  refine ls F W Aa (BU F Aa Aa).q fun a w F W => ?_
  refine Ad (Ac (Ah ?_))
  refine AB F Aa (fun hb => ?_) fun hb => ?_
  ·
   have H := AU (Bv hb) H
   rw [hb] at F
   clear hb
   refine As (Ac (Ah (Ax (Ah (Ab ?_)))))
   refine ls F W Aa (Ag F Aa).q fun a w F W => ?_
   refine ls F W Aa (Ae F Aa).q fun a w F W => ?_
   refine Ad (Ac (Ah (Ab ?_)))
   iterate 3 refine ls F W Aa (Ag F Aa).q fun a w F W => ?_
   obtain ⟨x2, h1, H⟩ := An H
   refine ls F W Aa (AN (r := EM) Mf F Aa Aa (Al h_v1) h1).q fun a w F W => ?_
   refine ls F W Aa (AG (y := Value.agg #[.int .i64 x2.1, .int .i64 x2.2.1, .int .i64 x2.2.2.1, .int .i64 x2.2.2.2.1, .int .i64 x2.2.2.2.2.1, .int .i64 x2.2.2.2.2.2]) (j := 0) (i := x1) F Aa Aa (Al h_v1) h1 KV.to JT Aa).q fun a w F W => ?_
   refine ls F W Aa (H1 (ws := [.agg #[.int .i64 x2.1, .int .i64 x2.2.1, .int .i64 x2.2.2.1, .int .i64 x2.2.2.2.1, .int .i64 x2.2.2.2.2.1, .int .i64 x2.2.2.2.2.2]]) (v := Value.bool (CD x2)) F MP Aa (fun w W => Gf any w x2 _ Aa)) fun a w F W => ?_
   refine Ad (Ac ?_)
   refine AB F Aa (fun hb => ?_) fun hb => ?_
   ·
    have H := AU hb H
    rw [hb] at F
    clear hb
    refine Ah (Ab ?_)
    refine ls F W Aa (Ag F Aa).q fun a w F W => ?_
    refine ls F W Aa (Ae F Aa).q fun a w F W => ?_
    refine Ad (Ac (Ay (AP ?_)))
    iterate 2 refine AL ?_
    refine AP (AL ?_)
    have H := L2 _ H
    have H := L1 _ H
    have H := AV H
    subst H
    refine A5 (.inl Aa) F W Aa (Au F Aa) ?_
    exact ⟨rfl, W.done⟩
   have H := AW (by rw [hb]; decide) H
   rw [hb] at F
   clear hb
   refine As (AJ (Ac (Ab ?_)))
   refine ls F W Aa (CW F Aa Aa Aa).q fun a w F W => ?_
   refine ls F W Aa (Ag F Aa).q fun a w F W => ?_
   refine Ad (Ac ?_)
   exact ⟨_, H, F.re ⟨rfl, Aa, Aa, Aa, Aa, trivial⟩, W⟩
  have H := AW (Bu hb) H
  rw [hb] at F
  clear hb
  refine BC ?_
  iterate 2 refine B6 ?_
  refine BD (Ac ?_)
  have H := L2 _ H
  exact ⟨H, F.re ⟨rfl, trivial⟩, W⟩
 rintro a w ⟨hj, F, W⟩
 have H := K1 _ hj
 clear hj G1 K1 L1
 refine Ah (Ab ?_)
 refine ls F W Aa (Ae F Aa).q fun a w F W => ?_
 refine Ad (Ac (Ay ?_))
 have H := AV H
 subst H
 refine A5 (.inl Aa) F W Aa (Au F Aa) ?_
 exact ⟨rfl, W.done⟩
theorem M8 : Has Try.prog 70 := ⟨fun args w => Aj Try.func70 rfl (by decide) args w⟩
noncomputable def AK (p0 : List (Int × Int × Int × Int × Int × Int)) : Option Bool := (AM p0).bind fun x1 => some (decide (0 ≤ x1))
theorem CA (Y : Nat → Prop) (w0 : World) (v1 : Value) (p0 : List (Int × Int × Int × Int × Int × Int)) (r : Bool) (H : AK p0 = some r) (h_v1 : Sl w0 (NX []) EM v1 p0) :
    Calls Try.prog 65 #[v1, .func (.func 66) #[] #[]] w0 fun e w' => e = .returned (.bool r) ∧ Below w0.heap.size w0 w' := by
 refine enter Try.func65 Aa Try.ntmps65 Aa fun a F => ?_
 have W := Stw.start Y w0
 unfold AK at H
 refine Ah (Ab ?_)
 refine ls F W Aa (Ae F Aa).q fun a w F W => ?_
 refine Ad (Ac (Ah (Ab ?_)))
 iterate 2 refine ls F W Aa (Ag F Aa).q fun a w F W => ?_
 obtain ⟨x1, h1, H⟩ := An H
 refine ls F W Aa (BB (v := Value.int .i64 x1) F M8 Aa (fun w W => CO any w (v1) p0 _ h1 (((Al h_v1) : DC _ _ _ _ _ _) w W).nx)) fun a w F W => ?_
 refine ls F W Aa (Ep F Aa Aa).q fun a w F W => ?_
 refine ls F W Aa (Ae F Aa).q fun a w F W => ?_
 refine Ad (Ac (Ay ?_))
 have H := AV H
 subst H
 refine A5 (.inl Aa) F W Aa (Au F Aa) ?_
 exact ⟨rfl, W.done⟩
theorem KH : type_of% Try.underlying122 := Try.underlying122
theorem MT : Has Try.prog 65 := ⟨fun args w => Aj Try.func65 rfl (by decide) args w⟩
noncomputable def Dy (p0 : Int × (List (Int × Int × Int × Int × Int × Int)) × (List (Int × Int))) (x2 : (List (Int × Int))) : (Int × (List ((Int × Int) × Unit))) → Option ((Int × (List ((Int × Int) × Unit))) ⊕ ((List ((Int × Int) × Unit)) ⊕ Bool))
  | (x3, x4) => (if x3 < (x2.length : Int) then (ix x2 x3).bind fun x5 => (if (decide (x5.1 < 0) || (decide (p0.1 ≤ x5.1) || (decide (x5.2 < 0) || decide (8 ≤ x5.2)))) = true then some (.inr (.inr false)) else (if ((CP x4 x5).isSome) = true then some (.inr (.inr false)) else some (.inl (D8 (x3 + 1), CM x4 x5 ())))) else some (.inr (.inl x4)))
noncomputable def D7 (p0 : Int × (List (Int × Int × Int × Int × Int × Int)) × (List (Int × Int))) : Option Bool := (if (decide (p0.1 < 1) || (decide (8 < p0.1) || (decide (24 < (p0.2.1.length : Int)) || decide (8 < (p0.2.2.length : Int))))) = true then some false else F6 ((DH p0).bind fun x2 => Bj (Dy p0 x2) (0, ([] : List ((Int × Int) × Unit)))) fun x1 => (AK p0.2.1).bind fun x6 => some (!x6))
theorem In (Y : Nat → Prop) (w0 : World) (v1 : Value) (v2 : Value) (p0 : Int × (List (Int × Int × Int × Int × Int × Int)) × (List (Int × Int))) (r : Bool) (H : D7 p0 = some r) (h_v1 : Sl w0 (NX []) EM v1 p0.2.1) (h_v2 : Sl w0 (NX []) F2 v2 p0.2.2) :
    Calls Try.prog 58 #[.agg #[.int .i64 p0.1, v1, v2]] w0 fun e w' => e = .returned (.bool r) ∧ Below w0.heap.size w0 w' := by
 refine enter Try.func58 Aa Try.ntmps58 Aa fun a F => ?_
 have W := Stw.start Y w0
 unfold D7 at H
 refine Ah (Ab ?_)
 refine Cf (cs := [.int .i64 p0.1, v1, v2]) F W Aa Aa Aa fun b1 a w F W => ?_
 refine ls F W Aa (Ae F Aa).q fun a w F W => ?_
 refine Ad (Ac (Ah ?_))
 refine AR (fun a w => Fr 71 [] [(1, .pointer (some ⟨b1, 0, none⟩)), (2, .bool false), (27, .bool (decide (p0.1 < 1) || (decide (8 < p0.1) || (decide (24 < (p0.2.1.length : Int)) || decide (8 < (p0.2.2.length : Int))))))] a ∧ Stw ⟨Y, [], w0⟩ [(b1, [.int .i64 p0.1, v1, v2])] [] w) ?_ ?_
 ·
  refine Ab ?_
  refine ls F W Aa (Af FK Aa Aa Aa T3 F Aa 0 Aa).q fun a w F W => ?_
  refine ls F W Aa (Ak (v := Value.int .i64 p0.1) 0 F Aa Aa T3 Aa).q fun a w F W => ?_
  refine ls F W Aa (BU F Aa Aa).q fun a w F W => ?_
  refine ls F W Aa (Ag F Aa).q fun a w F W => ?_
  rcases Bool.eq_false_or_eq_true (decide (p0.1 < 1)) with hb0 | hb0
  ·
   rw [hb0] at F
   iterate 3 refine Dm F Aa Aa Aa Aa Aa Aa Aa fun a F => ?_
   refine ls F W Aa (Av F Aa Aa Aa).q fun a w F W => ?_
   refine ls F W Aa (Ag F Aa).q fun a w F W => ?_
   iterate 4 refine Dm F Aa Aa Aa Aa Aa Aa Aa fun a F => ?_
   refine ls F W Aa (Av F Aa Aa Aa).q fun a w F W => ?_
   refine ls F W Aa (Ag F Aa).q fun a w F W => ?_
   iterate 4 refine Dm F Aa Aa Aa Aa Aa Aa Aa fun a F => ?_
   refine ls F W Aa (Av F Aa Aa Aa).q fun a w F W => ?_
   refine Ad (Ac ?_)
   exact ⟨F.re ⟨rfl, Aa, (by show some (Value.bool true) = some (Value.bool (decide (p0.1 < 1) || (decide (8 < p0.1) || (decide (24 < (p0.2.1.length : Int)) || decide (8 < (p0.2.2.length : Int)))))); try rw [hb0]; all_goals simp only [Bool.not_true, Bool.not_false, Bool.true_and, Bool.false_and, Bool.true_or, Bool.false_or, Bool.and_true, Bool.or_false, cond_true, cond_false]), trivial⟩, W⟩
  rw [hb0] at F
  refine AH F W (Ai F Aa Aa Aa Aa) Aa (Ao Aa) (Af FK Aa Aa Aa T3 F Aa 0 Aa).q fun a w F W => ?_
  refine AH F W (Ai F Aa Aa Aa Aa) Aa (Ao Aa) (Ak (v := Value.int .i64 p0.1) 0 F Aa Aa T3 Aa).q fun a w F W => ?_
  refine AH F W (Ai F Aa Aa Aa Aa) Aa (Ao Aa) (Hk F Aa Aa).q fun a w F W => ?_
  refine ls F W Aa (AF F Aa Aa Aa).q fun a w F W => ?_
  refine ls F W Aa (Ag F Aa).q fun a w F W => ?_
  rcases Bool.eq_false_or_eq_true (decide (8 < p0.1)) with hb1 | hb1
  ·
   rw [hb1] at F
   iterate 4 refine Dm F Aa Aa Aa Aa Aa Aa Aa fun a F => ?_
   refine ls F W Aa (Av F Aa Aa Aa).q fun a w F W => ?_
   refine ls F W Aa (Ag F Aa).q fun a w F W => ?_
   iterate 4 refine Dm F Aa Aa Aa Aa Aa Aa Aa fun a F => ?_
   refine ls F W Aa (Av F Aa Aa Aa).q fun a w F W => ?_
   refine Ad (Ac ?_)
   exact ⟨F.re ⟨rfl, Aa, (by show some (Value.bool true) = some (Value.bool (decide (p0.1 < 1) || (decide (8 < p0.1) || (decide (24 < (p0.2.1.length : Int)) || decide (8 < (p0.2.2.length : Int)))))); try rw [hb0]; try rw [hb1]; all_goals simp only [Bool.not_true, Bool.not_false, Bool.true_and, Bool.false_and, Bool.true_or, Bool.false_or, Bool.and_true, Bool.or_false, cond_true, cond_false]), trivial⟩, W⟩
  rw [hb1] at F
  refine AH F W (Ai F Aa Aa Aa Aa) Aa (Ao Aa) (Af FK Aa Aa Aa KD F Aa 1 Aa).q fun a w F W => ?_
  refine AH F W (Ai F Aa Aa Aa Aa) Aa (Ao Aa) (Ak (v := v1) 0 F Aa Aa KD Aa).q fun a w F W => ?_
  refine AH F W (Ai F Aa Aa Aa Aa) Aa (Ao Aa) (Bi (r := EM) (l := p0.2.1) JN Aa F Aa (Al h_v1)).q fun a w F W => ?_
  refine AH F W (Ai F Aa Aa Aa Aa) Aa (Ao Aa) (Hk F Aa Aa).q fun a w F W => ?_
  refine ls F W Aa (AF F Aa Aa Aa).q fun a w F W => ?_
  refine ls F W Aa (Ag F Aa).q fun a w F W => ?_
  rcases Bool.eq_false_or_eq_true (decide (24 < (p0.2.1.length : Int))) with hb2 | hb2
  ·
   rw [hb2] at F
   iterate 4 refine Dm F Aa Aa Aa Aa Aa Aa Aa fun a F => ?_
   refine ls F W Aa (Av F Aa Aa Aa).q fun a w F W => ?_
   refine Ad (Ac ?_)
   exact ⟨F.re ⟨rfl, Aa, (by show some (Value.bool true) = some (Value.bool (decide (p0.1 < 1) || (decide (8 < p0.1) || (decide (24 < (p0.2.1.length : Int)) || decide (8 < (p0.2.2.length : Int)))))); try rw [hb2]; try rw [hb0]; try rw [hb1]; all_goals simp only [Bool.not_true, Bool.not_false, Bool.true_and, Bool.false_and, Bool.true_or, Bool.false_or, Bool.and_true, Bool.or_false, cond_true, cond_false]), trivial⟩, W⟩
  rw [hb2] at F
  refine AH F W (Ai F Aa Aa Aa Aa) Aa (Ao Aa) (Af FK Aa Aa Aa J9 F Aa 2 Aa).q fun a w F W => ?_
  refine AH F W (Ai F Aa Aa Aa Aa) Aa (Ao Aa) (Ak (v := v2) 0 F Aa Aa J9 Aa).q fun a w F W => ?_
  refine AH F W (Ai F Aa Aa Aa Aa) Aa (Ao Aa) (Bi (r := F2) (l := p0.2.2) Js Aa F Aa (Al h_v2)).q fun a w F W => ?_
  refine AH F W (Ai F Aa Aa Aa Aa) Aa (Ao Aa) (Hk F Aa Aa).q fun a w F W => ?_
  refine ls F W Aa (AF F Aa Aa Aa).q fun a w F W => ?_
  refine Ad (Ac ?_)
  exact ⟨F.re ⟨rfl, Aa, (by show some (Value.bool (decide (8 < (p0.2.2.length : Int)))) = some (Value.bool (decide (p0.1 < 1) || (decide (8 < p0.1) || (decide (24 < (p0.2.1.length : Int)) || decide (8 < (p0.2.2.length : Int)))))); try rw [hb2]; try rw [hb0]; try rw [hb1]; all_goals simp only [Bool.not_true, Bool.not_false, Bool.true_and, Bool.false_and, Bool.true_or, Bool.false_or, Bool.and_true, Bool.or_false, cond_true, cond_false]), trivial⟩, W⟩
 rintro a w ⟨F, W⟩
 refine AB F Aa (fun hb => ?_) fun hb => ?_
 ·
  have H := AU hb H
  rw [hb] at F
  clear hb
  refine Ah (Ab ?_)
  refine ls F W Aa (Ae F Aa).q fun a w F W => ?_
  refine Ad (Ac (Ay (AL ?_)))
  have H := AV H
  subst H
  refine A5 (.inl Aa) F W Aa (Au F Aa) ?_
  exact ⟨rfl, W.done⟩
 have H := AW (by rw [hb]; decide) H
 rw [hb] at F
 clear hb
 refine As (Ac (Ah (Ab ?_)))
 refine Fo Er CR F W Aa fun b2 a w F W => ?_
 have W : Stw ⟨Y, [], w0⟩ [(b1, [.int .i64 p0.1, v1, v2])] [mp b2 Er CR ([] : List ((Int × Int) × Unit))] w := W
 refine ls F W Aa (Ae F Aa).q fun a w F W => ?_
 refine Ad (Ac ?_)
 obtain ⟨o1, G1, K1, L1⟩ := JO H
 refine AR (fun a w => ∃ x1 : List ((Int × Int) × Unit), some (Sum.inl x1) = some o1 ∧ Fr 71 [] [(1, .pointer (some ⟨b1, 0, none⟩)), (2, .bool false)] a ∧ Stw ⟨Y, [], w0⟩ [(b1, [.int .i64 p0.1, v1, v2])] [mp b2 Er CR x1] w) ?_ ?_
 ·
  have H := G1
  clear G1 K1
  refine Ah (Ab ?_)
  refine ls F W Aa (Ak (v := Value.agg #[.int .i64 p0.1, v1, v2]) 0 F Aa Aa Jv Aa).q fun a w F W => ?_
  obtain ⟨x2, h1, H⟩ := An H
  refine BP (Ml := []) (Zl := []) (M := [(b1, [.int .i64 p0.1, v1, v2])]) (Z := [mp b2 Er CR ([] : List ((Int × Int) × Unit))]) (β := Value) (rv := fun x => x) (MM := fun x => []) (ZZ := fun x => [row x 126 C6 x2]) F W MB Aa Aa (fun hL => Hv _ w (v1) (v2) p0 _ h1 ((Al h_v1) w W).nx ((Al h_v2) w W).nx) fun x a w F W => ?_
  obtain ⟨v3, rfl⟩ : ∃ y, y = x := ⟨x, rfl⟩
  have W : Stw ⟨Y, [], w0⟩ [(b1, [.int .i64 p0.1, v1, v2])] [row v3 126 C6 x2, mp b2 Er CR ([] : List ((Int × Int) × Unit))] w := W
  refine ls F W Aa (Bi (r := C6) (l := x2) KG Aa F Aa (AE 0 Aa)).q fun a w F W => ?_
  refine ls F W Aa (Ag F Aa).q fun a w F W => ?_
  refine Ad (Ac (Ax ?_))
  have W := W.frontZ (i := 1) Aa Aa
  have W := W.frontZ (i := 1) Aa Aa
  refine BT H (fun s a w => Fr 71 [] [(1, .pointer (some ⟨b1, 0, none⟩)), (2, .bool false), (3, .map (some b2)), (30, v3), (31, .int .i64 (x2.length : Int)), (32, .int .i64 s.1)] a ∧ Stw ⟨Y, [], w0⟩ [(b1, [.int .i64 p0.1, v1, v2])] [row v3 126 C6 x2, mp b2 Er CR s.2] w) ⟨F.re ⟨rfl, Aa, Aa, Aa, Aa, Aa, trivial⟩, W⟩ fun s o a w H L2 hR => ?_
  obtain ⟨x3, x4⟩ := s
  obtain ⟨F, W⟩ := hR
  have F : Fr 71 [] [(1, .pointer (some ⟨b1, 0, none⟩)), (2, .bool false), (3, .map (some b2)), (30, v3), (31, .int .i64 (x2.length : Int)), (32, .int .i64 x3)] a := F
  have W : Stw ⟨Y, [], w0⟩ [(b1, [.int .i64 p0.1, v1, v2])] [row v3 126 C6 x2, mp b2 Er CR x4] w := W
  rw [Dy] at H
  refine Ah (Ab ?_)
  refine ls F W Aa (BU F Aa Aa).q fun a w F W => ?_
  refine Ad (Ac (Ah ?_))
  refine AB F Aa (fun hb => ?_) fun hb => ?_
  ·
   have H := AU (Bv hb) H
   rw [hb] at F
   clear hb
   refine As (Ac (Ah (Ax (Ah (Ab ?_)))))
   obtain ⟨x5, h2, H⟩ := An H
   refine ls F W Aa (AN (r := C6) JB F Aa Aa (AE 0 Aa) h2).q fun a w F W => ?_
   refine ls F W Aa (AG (y := Value.agg #[.int .i64 x5.1, .int .i64 x5.2]) (j := 0) (i := x3) F Aa Aa (AE 0 Aa) h2 KY.to IY Aa).q fun a w F W => ?_
   refine BI (cs := [.int .i64 0, .int .i64 0]) F W Aa Kq Aa fun b3 a w F W => ?_
   refine Bx (vs := [.int .i64 x5.1, .int .i64 x5.2]) (M' := [(b3, [.int .i64 x5.1, .int .i64 x5.2]), (b1, [.int .i64 p0.1, v1, v2])]) 0 F W Aa Aa Aa IY Aa Aa Aa Aa Aa fun w W => ?_
   refine Ad (Ac (Ah ?_))
   refine AR (fun a w => Fr 71 [] [(1, .pointer (some ⟨b1, 0, none⟩)), (2, .bool false), (3, .map (some b2)), (5, .pointer (some ⟨b3, 0, none⟩)), (30, v3), (31, .int .i64 (x2.length : Int)), (32, .int .i64 x3), (55, .bool (decide (x5.1 < 0) || (decide (p0.1 ≤ x5.1) || (decide (x5.2 < 0) || decide (8 ≤ x5.2)))))] a ∧ Stw ⟨Y, [], w0⟩ [(b3, [.int .i64 x5.1, .int .i64 x5.2]), (b1, [.int .i64 p0.1, v1, v2])] [row v3 126 C6 x2, mp b2 Er CR x4] w) ?_ ?_
   ·
    refine Ab ?_
    refine ls F W Aa (Af Gy Aa Aa Aa T3 F Aa 0 Aa).q fun a w F W => ?_
    refine ls F W Aa (Ak (v := Value.int .i64 x5.1) 0 F Aa Aa T3 Aa).q fun a w F W => ?_
    refine ls F W Aa (BU F Aa Aa).q fun a w F W => ?_
    refine ls F W Aa (Ag F Aa).q fun a w F W => ?_
    rcases Bool.eq_false_or_eq_true (decide (x5.1 < 0)) with hb0 | hb0
    ·
     rw [hb0] at F
     iterate 5 refine Dm F Aa Aa Aa Aa Aa Aa Aa fun a F => ?_
     refine ls F W Aa (Av F Aa Aa Aa).q fun a w F W => ?_
     refine ls F W Aa (Ag F Aa).q fun a w F W => ?_
     iterate 3 refine Dm F Aa Aa Aa Aa Aa Aa Aa fun a F => ?_
     refine ls F W Aa (Av F Aa Aa Aa).q fun a w F W => ?_
     refine ls F W Aa (Ag F Aa).q fun a w F W => ?_
     iterate 3 refine Dm F Aa Aa Aa Aa Aa Aa Aa fun a F => ?_
     refine ls F W Aa (Av F Aa Aa Aa).q fun a w F W => ?_
     refine Ad (Ac ?_)
     exact ⟨F.re ⟨rfl, Aa, Aa, Aa, Aa, Aa, Aa, (by show some (Value.bool true) = some (Value.bool (decide (x5.1 < 0) || (decide (p0.1 ≤ x5.1) || (decide (x5.2 < 0) || decide (8 ≤ x5.2))))); try rw [hb0]; all_goals simp only [Bool.not_true, Bool.not_false, Bool.true_and, Bool.false_and, Bool.true_or, Bool.false_or, Bool.and_true, Bool.or_false, cond_true, cond_false]), trivial⟩, W⟩
    rw [hb0] at F
    refine AH F W (Ai F Aa Aa Aa Aa) Aa (Ao Aa) (Af Gy Aa Aa Aa T3 F Aa 0 Aa).q fun a w F W => ?_
    refine AH F W (Ai F Aa Aa Aa Aa) Aa (Ao Aa) (Ak (v := Value.int .i64 x5.1) 0 F Aa Aa T3 Aa).q fun a w F W => ?_
    refine AH F W (Ai F Aa Aa Aa Aa) Aa (Ao Aa) (Af FK Aa Aa Aa T3 F Aa 0 Aa).q fun a w F W => ?_
    refine AH F W (Ai F Aa Aa Aa Aa) Aa (Ao Aa) (Ak (v := Value.int .i64 p0.1) 1 F Aa Aa T3 Aa).q fun a w F W => ?_
    refine AH F W (Ai F Aa Aa Aa Aa) Aa (Ao Aa) (Ep F Aa Aa).q fun a w F W => ?_
    refine ls F W Aa (AF F Aa Aa Aa).q fun a w F W => ?_
    refine ls F W Aa (Ag F Aa).q fun a w F W => ?_
    rcases Bool.eq_false_or_eq_true (decide (p0.1 ≤ x5.1)) with hb1 | hb1
    ·
     rw [hb1] at F
     iterate 3 refine Dm F Aa Aa Aa Aa Aa Aa Aa fun a F => ?_
     refine ls F W Aa (Av F Aa Aa Aa).q fun a w F W => ?_
     refine ls F W Aa (Ag F Aa).q fun a w F W => ?_
     iterate 3 refine Dm F Aa Aa Aa Aa Aa Aa Aa fun a F => ?_
     refine ls F W Aa (Av F Aa Aa Aa).q fun a w F W => ?_
     refine Ad (Ac ?_)
     exact ⟨F.re ⟨rfl, Aa, Aa, Aa, Aa, Aa, Aa, (by show some (Value.bool true) = some (Value.bool (decide (x5.1 < 0) || (decide (p0.1 ≤ x5.1) || (decide (x5.2 < 0) || decide (8 ≤ x5.2))))); try rw [hb1]; try rw [hb0]; all_goals simp only [Bool.not_true, Bool.not_false, Bool.true_and, Bool.false_and, Bool.true_or, Bool.false_or, Bool.and_true, Bool.or_false, cond_true, cond_false]), trivial⟩, W⟩
    rw [hb1] at F
    refine AH F W (Ai F Aa Aa Aa Aa) Aa (Ao Aa) (Af Gy Aa Aa Aa T3 F Aa 1 Aa).q fun a w F W => ?_
    refine AH F W (Ai F Aa Aa Aa Aa) Aa (Ao Aa) (Ak (v := Value.int .i64 x5.2) 0 F Aa Aa T3 Aa).q fun a w F W => ?_
    refine AH F W (Ai F Aa Aa Aa Aa) Aa (Ao Aa) (BU F Aa Aa).q fun a w F W => ?_
    refine ls F W Aa (AF F Aa Aa Aa).q fun a w F W => ?_
    refine ls F W Aa (Ag F Aa).q fun a w F W => ?_
    rcases Bool.eq_false_or_eq_true (decide (x5.2 < 0)) with hb2 | hb2
    ·
     rw [hb2] at F
     iterate 3 refine Dm F Aa Aa Aa Aa Aa Aa Aa fun a F => ?_
     refine ls F W Aa (Av F Aa Aa Aa).q fun a w F W => ?_
     refine Ad (Ac ?_)
     exact ⟨F.re ⟨rfl, Aa, Aa, Aa, Aa, Aa, Aa, (by show some (Value.bool true) = some (Value.bool (decide (x5.1 < 0) || (decide (p0.1 ≤ x5.1) || (decide (x5.2 < 0) || decide (8 ≤ x5.2))))); try rw [hb1]; try rw [hb0]; try rw [hb2]; all_goals simp only [Bool.not_true, Bool.not_false, Bool.true_and, Bool.false_and, Bool.true_or, Bool.false_or, Bool.and_true, Bool.or_false, cond_true, cond_false]), trivial⟩, W⟩
    rw [hb2] at F
    refine AH F W (Ai F Aa Aa Aa Aa) Aa (Ao Aa) (Af Gy Aa Aa Aa T3 F Aa 1 Aa).q fun a w F W => ?_
    refine AH F W (Ai F Aa Aa Aa Aa) Aa (Ao Aa) (Ak (v := Value.int .i64 x5.2) 0 F Aa Aa T3 Aa).q fun a w F W => ?_
    refine AH F W (Ai F Aa Aa Aa Aa) Aa (Ao Aa) (Ep F Aa Aa).q fun a w F W => ?_
    refine ls F W Aa (AF F Aa Aa Aa).q fun a w F W => ?_
    refine Ad (Ac ?_)
    exact ⟨F.re ⟨rfl, Aa, Aa, Aa, Aa, Aa, Aa, (by show some (Value.bool (decide (8 ≤ x5.2))) = some (Value.bool (decide (x5.1 < 0) || (decide (p0.1 ≤ x5.1) || (decide (x5.2 < 0) || decide (8 ≤ x5.2))))); try rw [hb1]; try rw [hb0]; try rw [hb2]; all_goals simp only [Bool.not_true, Bool.not_false, Bool.true_and, Bool.false_and, Bool.true_or, Bool.false_or, Bool.and_true, Bool.or_false, cond_true, cond_false]), trivial⟩, W⟩
   rintro a w ⟨F, W⟩
   refine AB F Aa (fun hb => ?_) fun hb => ?_
   ·
    have H := AU hb H
    rw [hb] at F
    clear hb
    refine Ah (Ab ?_)
    refine ls F W Aa (Ae F Aa).q fun a w F W => ?_
    refine Ad (Ac (Ay (AL (AP ?_))))
    iterate 2 refine AL ?_
    refine AP (AL ?_)
    have H := L2 _ H
    have H := L1 _ H
    have H := AV H
    subst H
    refine A5 (.inl Aa) F W Aa (Au F Aa) ?_
    exact ⟨rfl, W.done⟩
   have H := AW (by rw [hb]; decide) H
   rw [hb] at F
   clear hb
   refine As (Ac (Ah (Ah (Ab ?_))))
   refine ls F W Aa (Ag F Aa).q fun a w F W => ?_
   refine ls F W Aa (Ak (v := Value.agg #[.int .i64 x5.1, .int .i64 x5.2]) 0 F Aa Aa IY Aa).q fun a w F W => ?_
   refine ls F W Aa (Gd (zv := (() : Unit)) (kx := (x5 : Int × Int)) (q := 1) (E := Er) (V := CR) F Aa Aa Aa KF KH Lt).q fun a w F W => ?_
   refine ls F W Aa (Ag F Aa).q fun a w F W => ?_
   refine ls F W Aa (Bz (v := Value.agg #[]) F Aa Aa).q fun a w F W => ?_
   refine ls F W Aa (Bz (v := Value.bool ((CP x4 x5).isSome)) F Aa Aa).q fun a w F W => ?_
   refine BI (cs := []) F W Aa Lt Aa fun b4 a w F W => ?_
   refine Bx (vs := []) (M' := [(b4, []), (b3, [.int .i64 x5.1, .int .i64 x5.2]), (b1, [.int .i64 p0.1, v1, v2])]) 0 F W Aa Aa Aa LT Aa Aa Aa Aa Aa fun w W => ?_
   refine ls F W Aa (Ae F Aa).q fun a w F W => ?_
   refine Ad (Ac (Ah (Ab ?_)))
   refine ls F W Aa (Ag F Aa).q fun a w F W => ?_
   refine Ad (Ac ?_)
   refine AB F Aa (fun hb => ?_) fun hb => ?_
   ·
    have H := AU hb H
    rw [hb] at F
    clear hb
    refine Ah (Ab ?_)
    refine ls F W Aa (Ae F Aa).q fun a w F W => ?_
    refine Ad (Ac (Ay (AL (AP ?_))))
    iterate 2 refine AL ?_
    refine AP (AL ?_)
    have H := L2 _ H
    have H := L1 _ H
    have H := AV H
    subst H
    refine A5 (.inl Aa) F W Aa (Au F Aa) ?_
    exact ⟨rfl, W.done⟩
   have H := AW (by rw [hb]; decide) H
   rw [hb] at F
   clear hb
   refine As (Ac (Ab ?_))
   refine ls F W Aa (Ag F Aa).q fun a w F W => ?_
   refine ls F W Aa (Ak (v := Value.agg #[.int .i64 x5.1, .int .i64 x5.2]) 1 F Aa Aa IY Aa).q fun a w F W => ?_
   refine ls F W Aa (Bf (v := Value.agg #[]) Lv F Aa Aa Aa).q fun a w F W => ?_
   refine Fi (q := 1) (kx := (x5 : Int × Int)) (vx := (() : Unit)) (E := Er) (V := CR) F W Aa Aa Aa Aa Aa KF KH fun w W => ?_
   have W : Stw ⟨Y, [], w0⟩ [(b4, []), (b3, [.int .i64 x5.1, .int .i64 x5.2]), (b1, [.int .i64 p0.1, v1, v2])] [mp b2 Er CR (CM x4 x5 ()), row v3 126 C6 x2] w := W
   refine Ad (AJ (Ac (Ab ?_)))
   refine ls F W Aa (CW F Aa Aa Aa).q fun a w F W => ?_
   refine ls F W Aa (Ag F Aa).q fun a w F W => ?_
   refine Ad (Ac ?_)
   have W := W.frontZ (i := 1) Aa Aa
   have W := W.frontM (i := 2) Aa Aa
   have W := W.sub (M' := [(b1, [.int .i64 p0.1, v1, v2])]) (Z' := [row v3 126 C6 x2, mp b2 Er CR (CM x4 x5 ())]) (List.Sublist.cons_cons _ (List.nil_sublist _)) (List.Sublist.refl _)
   exact ⟨_, H, F.re ⟨rfl, Aa, Aa, Aa, Aa, Aa, trivial⟩, W⟩
  have H := AW (Bu hb) H
  rw [hb] at F
  clear hb
  refine BC ?_
  iterate 2 refine B6 ?_
  refine BD (Ac ?_)
  have W := W.frontZ (i := 1) Aa Aa
  have W := W.sub (M' := [(b1, [.int .i64 p0.1, v1, v2])]) (Z' := [mp b2 Er CR x4]) (List.Sublist.refl _) (List.Sublist.cons_cons _ (List.nil_sublist _))
  have H := L2 _ H
  exact ⟨_, H, F.re ⟨rfl, Aa, trivial⟩, W⟩
 rintro a w ⟨x1, hj, F, W⟩
 have H := K1 _ hj
 clear hj G1 K1 L1
 refine Ah (Ab ?_)
 refine ls F W Aa (Af FK Aa Aa Aa KD F Aa 1 Aa).q fun a w F W => ?_
 refine ls F W Aa (Ak (v := v1) 0 F Aa Aa KD Aa).q fun a w F W => ?_
 obtain ⟨x6, h3, H⟩ := An H
 refine ls F W Aa (BB (v := Value.bool x6) F MT Aa (fun w W => CA any w (v1) p0.2.1 _ h3 (((Al h_v1) : DC _ _ _ _ _ _) w W).nx)) fun a w F W => ?_
 refine ls F W Aa (Gr F Aa).q fun a w F W => ?_
 refine ls F W Aa (Ae F Aa).q fun a w F W => ?_
 refine Ad (Ac (Ay ?_))
 have H := AV H
 subst H
 refine A5 (.inl Aa) F W Aa (Au F Aa) ?_
 exact ⟨rfl, W.done⟩
theorem ME : Has Try.prog 58 := ⟨fun args w => Aj Try.func58 rfl (by decide) args w⟩
abbrev H6 (a : Value × List Int) : List Value := [a.1]
theorem KB : El (Rp.vsl (Rp.int .i64)) H6 := El.vsl
def Cp (p0 : Int) : Bool := (decide (p0 < 0) || decide (8 ≤ p0))
theorem FM (Y : Nat → Prop) (w0 : World)  (p0 : Int) (r : Bool) (H : Cp p0 = r)  :
    Calls Try.prog 60 #[.int .i64 p0] w0 fun e w' => e = .returned (.bool r) ∧ Below w0.heap.size w0 w' := by
 refine enter Try.func60 Aa Try.ntmps60 Aa fun a F => ?_
 have W := Stw.start Y w0
 unfold Cp at H
 refine Ah (Ab ?_)
 refine ls F W Aa (Ae F Aa).q fun a w F W => ?_
 refine Ad (Ac ?_)
 refine AR (fun a w => Fr 9 [] [(2, .bool (decide (p0 < 0) || decide (8 ≤ p0)))] a ∧ Stw ⟨Y, [], w0⟩ [] [] w) ?_ ?_
 ·
  refine Ab ?_
  refine ls F W Aa (Ag F Aa).q fun a w F W => ?_
  refine ls F W Aa (BU F Aa Aa).q fun a w F W => ?_
  refine ls F W Aa (Ag F Aa).q fun a w F W => ?_
  rcases Bool.eq_false_or_eq_true (decide (p0 < 0)) with hb0 | hb0
  ·
   rw [hb0] at F
   iterate 2 refine Dm F Aa Aa Aa Aa Aa Aa Aa fun a F => ?_
   refine ls F W Aa (Av F Aa Aa Aa).q fun a w F W => ?_
   refine ls F W Aa (Ae F Aa).q fun a w F W => ?_
   refine Ad (Ac ?_)
   exact ⟨F.re ⟨(by show some (Value.bool true) = some (Value.bool (decide (p0 < 0) || decide (8 ≤ p0))); try rw [hb0]; all_goals simp only [Bool.not_true, Bool.not_false, Bool.true_and, Bool.false_and, Bool.true_or, Bool.false_or, Bool.and_true, Bool.or_false, cond_true, cond_false]), trivial⟩, W⟩
  rw [hb0] at F
  refine AH F W (Ai F Aa Aa Aa Aa) Aa (Ao Aa) (Ag F Aa).q fun a w F W => ?_
  refine AH F W (Ai F Aa Aa Aa Aa) Aa (Ao Aa) (Ep F Aa Aa).q fun a w F W => ?_
  refine ls F W Aa (AF F Aa Aa Aa).q fun a w F W => ?_
  refine ls F W Aa (Ae F Aa).q fun a w F W => ?_
  refine Ad (Ac ?_)
  exact ⟨F.re ⟨(by show some (Value.bool (decide (8 ≤ p0))) = some (Value.bool (decide (p0 < 0) || decide (8 ≤ p0))); try rw [hb0]; all_goals simp only [Bool.not_true, Bool.not_false, Bool.true_and, Bool.false_and, Bool.true_or, Bool.false_or, Bool.and_true, Bool.or_false, cond_true, cond_false]), trivial⟩, W⟩
 rintro a w ⟨F, W⟩
 refine Ay ?_
 subst H
 refine A5 (.inl Aa) F W Aa (Au F Aa) ?_
 exact ⟨rfl, W.done⟩
end Go.Proofs.Ytflaelbmglmmcaa
