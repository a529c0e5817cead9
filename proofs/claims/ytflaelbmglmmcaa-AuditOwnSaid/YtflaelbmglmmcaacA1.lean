/- The functions of layer 42, EK. Conditions: none. -/
import Derived.Test.YtflaelbmglmmcaacA0
namespace Go.Proofs.Ytflaelbmglmmcaa
open Go Go.RowKit
set_option linter.unusedVariables false
set_option linter.unusedSimpArgs false
set_option maxRecDepth 20000
theorem Pp : Has Try.prog 53 := ⟨fun args w => Aj Try.func53 rfl (by decide) args w⟩
noncomputable def Ck (p0 : (List (Int × Int × Int × Int × (Nat × List Int) × Int × Int × Int)) × (List (Int × Int)) × List Int) (p1 : Int × Int × Int × Int × Int × Int) : Option ((List (Int × Int × Int × Int × (Nat × List Int) × Int × Int × Int)) × (List (Int × Int)) × List Int) := (if p1.1 = 1 then (CC p0 p1).bind fun x1 => some x1 else (if p1.1 = 2 then some true else (if p1.1 = 3 then some true else some (decide (p1.1 = 4)))).bind fun x2 => (if x2 = true then (if (Au p0 p1.2.2.1) ≠ (-1) then (BR p0 (Au p0 p1.2.2.1) p1).bind fun x3 => some x3 else some p0) else some p0))
theorem Gv (Y : Nat → Prop) (X : List Nat) (w0 : World) (q_p0 : Nat) (v1 : Value) (m_v2 : Nat) (v3 : Value) (p0 : (List (Int × Int × Int × Int × (Nat × List Int) × Int × Int × Int)) × (List (Int × Int)) × List Int) (p1 : Int × Int × Int × Int × Int × Int) (d_v1 : {x : List (Int × Int × Int × Int × (Value × Nat × List Int) × Int × Int × Int) // x.map Co = p0.1}) (r : ((List (Int × Int × Int × Int × (Nat × List Int) × Int × Int × Int)) × (List (Int × Int)) × List Int)) (H : Ck p0 p1 = some r) (hL : Stw ⟨Y, X, w0⟩ [(q_p0, [v1, .map (some m_v2), v3])] [Bd v1 78 BD d_v1.1, row v3 3 (Rp.int .i64) p0.2.2, mp m_v2 Bo Bo p0.2.1] w0) :
    Calls Try.prog 43 #[.pointer (some ⟨q_p0, 0, none⟩), .agg #[.int .i64 p1.1, .int .i64 p1.2.1, .int .i64 p1.2.2.1, .int .i64 p1.2.2.2.1, .int .i64 p1.2.2.2.2.1, .int .i64 p1.2.2.2.2.2]] w0 fun e w' => ∃ x : Value × ({x : List (Int × Int × Int × Int × (Value × Nat × List Int) × Int × Int × Int) // x.map Co = r.1}) × Value, e = .returned (.tuple #[]) ∧ Stw ⟨Y, X, w0⟩ [(q_p0, [x.1, .map (some m_v2), x.2.2])] [Bd (x.1) 78 BD (x.2.1.1), row (x.2.2) 3 (Rp.int .i64) r.2.2, mp m_v2 Bo Bo r.2.1] w' := by
 refine enter Try.func43 Aa Try.ntmps43 Aa fun a F => ?_
 have W := hL
 unfold Ck at H
 refine Ah (Ab ?_)
 refine Cx (cs := [.int .i64 p1.1, .int .i64 p1.2.1, .int .i64 p1.2.2.1, .int .i64 p1.2.2.2.1, .int .i64 p1.2.2.2.2.1, .int .i64 p1.2.2.2.2.2]) F W Aa Aa Aa fun b1 a w F W => ?_
 refine Ad (Ac (Ah (Ab ?_)))
 refine ls F W Aa (Af Ds Aa Aa Aa T3 F Aa 0 Aa).q fun a w F W => ?_
 refine ls F W Aa (Al (v := Value.int .i64 p1.1) 0 F Aa Aa T3 Aa).q fun a w F W => ?_
 refine Ad (Ac (Ax (Ah (Ab ?_))))
 refine ls F W Aa (C9 F Aa Aa).q fun a w F W => ?_
 refine ls F W Aa (Ae F Aa).q fun a w F W => ?_
 refine Ad (Ac ?_)
 refine AA F Aa (fun hb => ?_) fun hb => ?_
 ·
  have H := Ba (BO hb) H
  rw [hb] at F
  clear hb
  refine Ab ?_
  refine ls F W Aa (Ag F Aa).q fun a w F W => ?_
  refine ls F W Aa (Al (v := Value.agg #[.int .i64 p1.1, .int .i64 p1.2.1, .int .i64 p1.2.2.1, .int .i64 p1.2.2.2.1, .int .i64 p1.2.2.2.2.1, .int .i64 p1.2.2.2.2.2]) 0 F Aa Aa LL Aa).q fun a w F W => ?_
  obtain ⟨x1, h1, H⟩ := An H
  have W := W.frontZ (i := 2) Aa Aa
  have W := W.frontZ (i := 2) Aa Aa
  have W := W.frontZ (i := 2) Aa Aa
  have W := W.frontM (i := 1) Aa Aa
  refine Cw (Ml := [(q_p0, [v1, .map (some m_v2), v3])]) (Zl := [Bd v1 78 BD d_v1.1, row v3 3 (Rp.int .i64) p0.2.2, mp m_v2 Bo Bo p0.2.1]) (M := [(b1, [.int .i64 p1.1, .int .i64 p1.2.1, .int .i64 p1.2.2.1, .int .i64 p1.2.2.2.1, .int .i64 p1.2.2.2.2.1, .int .i64 p1.2.2.2.2.2])]) (Z := []) (β := Value × ({x : List (Int × Int × Int × Int × (Value × Nat × List Int) × Int × Int × Int) // x.map Co = x1.1}) × Value) (rv := fun x => .tuple #[]) (MM := fun x => [(q_p0, [x.1, .map (some m_v2), x.2.2])]) (ZZ := fun x => [Bd x.1 78 BD x.2.1.1, row x.2.2 3 (Rp.int .i64) x1.2.2, mp m_v2 Bo Bo x1.2.1]) F W Pq Aa Aa (fun hL => GC _ _ w q_p0 (v1) m_v2 (v3) p0 p1 ⟨d_v1.1, d_v1.2⟩ _ h1 hL) fun x a w F W => ?_
  obtain ⟨v4, v5, v6⟩ := x
  have W : Stw ⟨Y, X, w0⟩ [(q_p0, [v4, .map (some m_v2), v6]), (b1, [.int .i64 p1.1, .int .i64 p1.2.1, .int .i64 p1.2.2.1, .int .i64 p1.2.2.2.1, .int .i64 p1.2.2.2.2.1, .int .i64 p1.2.2.2.2.2])] [Bd v4 78 BD v5.1, row v6 3 (Rp.int .i64) x1.2.2, mp m_v2 Bo Bo x1.2.1] w := W
  refine Ad (AP ?_)
  have H := A1 H
  subst H
  refine FF (.inr Aa) F Aa ?_
  have W := W.frontZ (i := 2) Aa Aa
  have W := W.frontZ (i := 2) Aa Aa
  have W := W.frontZ (i := 2) Aa Aa
  have W := W.sub (M' := [(q_p0, [v4, .map (some m_v2), v6])]) (Z' := [Bd v4 78 BD v5.1, row v6 3 (Rp.int .i64) x1.2.2, mp m_v2 Bo Bo x1.2.1]) (List.Sublist.cons_cons _ (List.nil_sublist _)) (List.Sublist.refl _)
  exact ⟨((v4), ⟨v5.1, v5.2⟩, (v6)), Aa, W⟩
 have H := A9 (BS hb) H
 rw [hb] at F
 clear hb
 obtain ⟨o1, G1, K1⟩ := An H
 refine AR (fun a w => ∃ x2 : Bool, some (x2) = some o1 ∧ Fr 26 [] [(0, .pointer (some ⟨q_p0, 0, none⟩)), (3, .pointer (some ⟨b1, 0, none⟩)), (12, .bool x2)] a ∧ Stw ⟨Y, X, w0⟩ [(b1, [.int .i64 p1.1, .int .i64 p1.2.1, .int .i64 p1.2.2.1, .int .i64 p1.2.2.2.1, .int .i64 p1.2.2.2.2.1, .int .i64 p1.2.2.2.2.2]), (q_p0, [v1, .map (some m_v2), v3])] [Bd v1 78 BD d_v1.1, row v3 3 (Rp.int .i64) p0.2.2, mp m_v2 Bo Bo p0.2.1] w) ?_ ?_
 ·
  have H := G1
  clear G1 K1
  refine Ah (Ab ?_)
  refine ls F W Aa (C9 F Aa Aa).q fun a w F W => ?_
  refine ls F W Aa (Ae F Aa).q fun a w F W => ?_
  refine Ad (Ac ?_)
  refine AA F Aa (fun hb => ?_) fun hb => ?_
  ·
   have H := Ba (BO hb) H
   rw [hb] at F
   clear hb
   refine As (Ac ?_)
   have W := W.frontZ (i := 2) Aa Aa
   have W := W.frontZ (i := 2) Aa Aa
   have W := W.frontZ (i := 2) Aa Aa
   have W := W.frontM (i := 1) Aa Aa
   have W := W.frontM (i := 1) Aa Aa
   exact ⟨_, H, F.re ⟨rfl, Aa, Aa, trivial⟩, W⟩
  have H := A9 (BS hb) H
  rw [hb] at F
  clear hb
  refine Ah (Ab ?_)
  refine ls F W Aa (C9 F Aa Aa).q fun a w F W => ?_
  refine ls F W Aa (Ae F Aa).q fun a w F W => ?_
  refine Ad (Ac ?_)
  refine AA F Aa (fun hb => ?_) fun hb => ?_
  ·
   have H := Ba (BO hb) H
   rw [hb] at F
   clear hb
   refine As (Ac ?_)
   have W := W.frontZ (i := 2) Aa Aa
   have W := W.frontZ (i := 2) Aa Aa
   have W := W.frontZ (i := 2) Aa Aa
   have W := W.frontM (i := 1) Aa Aa
   have W := W.frontM (i := 1) Aa Aa
   exact ⟨_, H, F.re ⟨rfl, Aa, Aa, trivial⟩, W⟩
  have H := A9 (BS hb) H
  rw [hb] at F
  clear hb
  refine Ab ?_
  refine ls F W Aa (C9 F Aa Aa).q fun a w F W => ?_
  refine ls F W Aa (Ae F Aa).q fun a w F W => ?_
  refine Ad (Ac ?_)
  have W := W.frontZ (i := 2) Aa Aa
  have W := W.frontZ (i := 2) Aa Aa
  have W := W.frontZ (i := 2) Aa Aa
  have W := W.frontM (i := 1) Aa Aa
  have W := W.frontM (i := 1) Aa Aa
  exact ⟨_, H, F.re ⟨rfl, Aa, Aa, trivial⟩, W⟩
 rintro a w ⟨x2, hj, F, W⟩
 have hj := A1 hj
 subst hj
 have H := K1
 clear G1 K1
 refine AA F Aa (fun hb => ?_) fun hb => ?_
 ·
  have H := Ba hb H
  rw [hb] at F
  clear hb
  refine Ah (Ab ?_)
  refine ls F W Aa (Ag F Aa).q fun a w F W => ?_
  refine ls F W Aa (Af Ds Aa Aa Aa T3 F Aa 2 Aa).q fun a w F W => ?_
  refine ls F W Aa (Al (v := Value.int .i64 p1.2.2.1) 0 F Aa Aa T3 Aa).q fun a w F W => ?_
  have W := W.frontZ (i := 2) Aa Aa
  have W := W.frontZ (i := 2) Aa Aa
  have W := W.frontZ (i := 2) Aa Aa
  have W := W.frontM (i := 1) Aa Aa
  refine Cw (Ml := [(q_p0, [v1, .map (some m_v2), v3])]) (Zl := [Bd v1 78 BD d_v1.1, row v3 3 (Rp.int .i64) p0.2.2, mp m_v2 Bo Bo p0.2.1]) (M := [(b1, [.int .i64 p1.1, .int .i64 p1.2.1, .int .i64 p1.2.2.1, .int .i64 p1.2.2.2.1, .int .i64 p1.2.2.2.2.1, .int .i64 p1.2.2.2.2.2])]) (Z := []) (β := Unit) (rv := fun x => .int .i64 (Au p0 p1.2.2.1)) (MM := fun x => [(q_p0, [v1, .map (some m_v2), v3])]) (ZZ := fun x => [Bd v1 78 BD d_v1.1, row v3 3 (Rp.int .i64) p0.2.2, mp m_v2 Bo Bo p0.2.1]) F W O2 Aa Aa (fun hL => DJ _ _ w q_p0 (v1) m_v2 (v3) p0 p1.2.2.1 ⟨d_v1.1, d_v1.2⟩ _ Aa hL) fun x a w F W => ?_
  have W : Stw ⟨Y, X, w0⟩ [(q_p0, [v1, .map (some m_v2), v3]), (b1, [.int .i64 p1.1, .int .i64 p1.2.1, .int .i64 p1.2.2.1, .int .i64 p1.2.2.2.1, .int .i64 p1.2.2.2.2.1, .int .i64 p1.2.2.2.2.2])] [Bd v1 78 BD d_v1.1, row v3 3 (Rp.int .i64) p0.2.2, mp m_v2 Bo Bo p0.2.1] w := W
  refine ls F W Aa (Ae F Aa).q fun a w F W => ?_
  refine Ad (Ac (Ah (Ab ?_)))
  refine ls F W Aa (Ag F Aa).q fun a w F W => ?_
  refine ls F W Aa (GO F Aa Aa).q fun a w F W => ?_
  refine Ad (Ac ?_)
  refine AA F Aa (fun hb => ?_) fun hb => ?_
  ·
   have H := Ba (BO hb) H
   rw [hb] at F
   clear hb
   refine Ab ?_
   iterate 2 refine ls F W Aa (Ag F Aa).q fun a w F W => ?_
   refine ls F W Aa (Al (v := Value.agg #[.int .i64 p1.1, .int .i64 p1.2.1, .int .i64 p1.2.2.1, .int .i64 p1.2.2.2.1, .int .i64 p1.2.2.2.2.1, .int .i64 p1.2.2.2.2.2]) 1 F Aa Aa LL Aa).q fun a w F W => ?_
   obtain ⟨x3, h2, H⟩ := An H
   have W := W.frontZ (i := 2) Aa Aa
   have W := W.frontZ (i := 2) Aa Aa
   have W := W.frontZ (i := 2) Aa Aa
   refine Cw (Ml := [(q_p0, [v1, .map (some m_v2), v3])]) (Zl := [Bd v1 78 BD d_v1.1, row v3 3 (Rp.int .i64) p0.2.2, mp m_v2 Bo Bo p0.2.1]) (M := [(b1, [.int .i64 p1.1, .int .i64 p1.2.1, .int .i64 p1.2.2.1, .int .i64 p1.2.2.2.1, .int .i64 p1.2.2.2.2.1, .int .i64 p1.2.2.2.2.2])]) (Z := []) (β := Value × ({x : List (Int × Int × Int × Int × (Value × Nat × List Int) × Int × Int × Int) // x.map Co = x3.1}) × Value) (rv := fun x => .tuple #[]) (MM := fun x => [(q_p0, [x.1, .map (some m_v2), x.2.2])]) (ZZ := fun x => [Bd x.1 78 BD x.2.1.1, row x.2.2 3 (Rp.int .i64) x3.2.2, mp m_v2 Bo Bo x3.2.1]) F W Pp Aa Aa (fun hL => F9 _ _ w q_p0 (v1) m_v2 (v3) p0 (Au p0 p1.2.2.1) p1 ⟨d_v1.1, d_v1.2⟩ _ h2 hL) fun x a w F W => ?_
   obtain ⟨v7, v8, v9⟩ := x
   have W : Stw ⟨Y, X, w0⟩ [(q_p0, [v7, .map (some m_v2), v9]), (b1, [.int .i64 p1.1, .int .i64 p1.2.1, .int .i64 p1.2.2.1, .int .i64 p1.2.2.2.1, .int .i64 p1.2.2.2.2.1, .int .i64 p1.2.2.2.2.2])] [Bd v7 78 BD v8.1, row v9 3 (Rp.int .i64) x3.2.2, mp m_v2 Bo Bo x3.2.1] w := W
   refine Ad (AP ?_)
   have H := A1 H
   subst H
   refine FF (.inr Aa) F Aa ?_
   have W := W.frontZ (i := 2) Aa Aa
   have W := W.frontZ (i := 2) Aa Aa
   have W := W.frontZ (i := 2) Aa Aa
   have W := W.sub (M' := [(q_p0, [v7, .map (some m_v2), v9])]) (Z' := [Bd v7 78 BD v8.1, row v9 3 (Rp.int .i64) x3.2.2, mp m_v2 Bo Bo x3.2.1]) (List.Sublist.cons_cons _ (List.nil_sublist _)) (List.Sublist.refl _)
   exact ⟨((v7), ⟨v8.1, v8.2⟩, (v9)), Aa, W⟩
  have H := A9 (BS hb) H
  rw [hb] at F
  clear hb
  refine As (AP ?_)
  have H := A1 H
  subst H
  refine FF (.inr Aa) F Aa ?_
  have W := W.frontZ (i := 2) Aa Aa
  have W := W.frontZ (i := 2) Aa Aa
  have W := W.frontZ (i := 2) Aa Aa
  have W := W.sub (M' := [(q_p0, [v1, .map (some m_v2), v3])]) (Z' := [Bd v1 78 BD d_v1.1, row v3 3 (Rp.int .i64) p0.2.2, mp m_v2 Bo Bo p0.2.1]) (List.Sublist.cons_cons _ (List.nil_sublist _)) (List.Sublist.refl _)
  exact ⟨((v1), ⟨d_v1.1, d_v1.2⟩, (v3)), Aa, W⟩
 have H := A9 (by rw [hb]; decide) H
 rw [hb] at F
 clear hb
 refine As (AP ?_)
 have H := A1 H
 subst H
 refine FF (.inr Aa) F Aa ?_
 have W := W.frontZ (i := 2) Aa Aa
 have W := W.frontZ (i := 2) Aa Aa
 have W := W.frontZ (i := 2) Aa Aa
 have W := W.frontM (i := 1) Aa Aa
 have W := W.sub (M' := [(q_p0, [v1, .map (some m_v2), v3])]) (Z' := [Bd v1 78 BD d_v1.1, row v3 3 (Rp.int .i64) p0.2.2, mp m_v2 Bo Bo p0.2.1]) (List.Sublist.cons_cons _ (List.nil_sublist _)) (List.Sublist.refl _)
 exact ⟨((v1), ⟨d_v1.1, d_v1.2⟩, (v3)), Aa, W⟩
theorem PN : Has Try.prog 43 := ⟨fun args w => Aj Try.func43 rfl (by decide) args w⟩
noncomputable def CR (p0 : List (Int × Int × Int × Int × Int × Int)) : (Int × (List (Int × Int × Int × Int × (Nat × List Int) × Int × Int × Int)) × List Int × (List (Int × Int))) → Option ((Int × (List (Int × Int × Int × Int × (Nat × List Int) × Int × Int × Int)) × List Int × (List (Int × Int))) ⊕ ((List (Int × Int × Int × Int × (Nat × List Int) × Int × Int × Int)) × List Int × (List (Int × Int))))
  | (x4, x5, x6, x7) => (if x4 < (p0.length : Int) then (ix p0 x4).bind fun x8 => (Ck (x5, x7, x6) x8).bind fun x9 => some (.inl (DC (x4 + 1), x9.1, x9.2.2, x9.2.1)) else some (.inr (x5, x6, x7)))
noncomputable def EH (p0 : List (Int × Int × Int × Int × Int × Int)) : Option (List (Int × Int × Int × Int × List Int × Int × Int × Int)) := (AF (CR p0) (0, [], [], ([] : List (Int × Int)))).bind fun (x1, x2, x3) => (FR Lp x1).bind fun x10 => some x10
theorem J8 (Y : Nat → Prop) (w0 : World) (v1 : Value) (p0 : List (Int × Int × Int × Int × Int × Int)) (r : (List (Int × Int × Int × Int × List Int × Int × Int × Int))) (H : EH p0 = some r) (h_v1 : Sl w0 (NX []) Ef v1 p0) :
    Calls Try.prog 29 #[v1] w0 fun e w' => ∃ x : Value, e = .returned (x) ∧ Stw ⟨Y, [], w0⟩ [] [row (x) 78 Ip r] w' := by
 refine enter Try.func29 Aa Try.ntmps29 Aa fun a F => ?_
 have W := Stw.start Y w0
 unfold EH at H
 refine Ah (Ab ?_)
 refine ls F W Aa (Ae F Aa).q fun a w F W => ?_
 refine Ad (Ac (Ah (Ab ?_)))
 refine F2 Bo Bo F W Aa fun b1 a w F W => ?_
 have W : Stw ⟨Y, [], w0⟩ [] [mp b1 Bo Bo ([] : List (Int × Int))] w := W
 refine ls F W Aa (Bx (v := Value.agg #[.slice none 0 0, .map (some b1), .slice none 0 0]) Qg F Aa Aa Aa).q fun a w F W => ?_
 refine B3 (cs := [.slice none 0 0, .map none, .slice none 0 0]) F W Aa Qj Aa fun b2 a w F W => ?_
 refine BQ (vs := [.slice none 0 0, .map (some b1), .slice none 0 0]) (M' := [(b2, [.slice none 0 0, .map (some b1), .slice none 0 0])]) 0 F W Aa Aa Aa Pz Aa Aa Aa Aa Aa fun w W => ?_
 refine Ad (Ac ?_)
 obtain ⟨o1, G1, K1⟩ := An H
 refine AR (fun a w => ∃ x1 : List (Int × Int × Int × Int × (Nat × List Int) × Int × Int × Int), ∃ x2 : List Int, ∃ x3 : List (Int × Int), ∃ v2 : Value, ∃ g_x1 : {x : List (Int × Int × Int × Int × (Value × Nat × List Int) × Int × Int × Int) // x.map Co = x1}, ∃ v3 : Value, some ((x1, x2, x3)) = some o1 ∧ Fr 19 [] [(2, .slice none 0 0), (3, .pointer (some ⟨b2, 0, none⟩))] a ∧ Stw ⟨Y, [], w0⟩ [(b2, [v2, .map (some b1), v3])] [Bd v2 78 BD g_x1.1, row v3 3 (Rp.int .i64) x2, mp b1 Bo Bo x3] w) ?_ ?_
 ·
  have H := G1
  clear G1 K1
  refine Ah (Ab ?_)
  refine ls F W Aa (Ag F Aa).q fun a w F W => ?_
  refine ls F W Aa (Bl (r := Ef) (l := p0) Km Aa F Aa (Ak h_v1)).q fun a w F W => ?_
  refine ls F W Aa (Ag F Aa).q fun a w F W => ?_
  refine Ad (Ac (Ax ?_))
  have W := W.dNil 78 BD
  have h1 : List.map Co ([] : List (Int × Int × Int × Int × (Value × Nat × List Int) × Int × Int × Int)) = ([] : List (Int × Int × Int × Int × (Nat × List Int) × Int × Int × Int)) := Aa
  have W := W.nilRow 3 (Rp.int .i64)
  have W := W.frontZ (i := 2) Aa Aa
  have W := W.frontZ (i := 1) Aa Aa
  have W := W.frontZ (i := 2) Aa Aa
  refine BZ H (fun s a w => ∃ v4 : Value, ∃ g_x5 : {x : List (Int × Int × Int × Int × (Value × Nat × List Int) × Int × Int × Int) // x.map Co = s.2.1}, ∃ v5 : Value, Fr 19 [] [(2, .slice none 0 0), (3, .pointer (some ⟨b2, 0, none⟩)), (8, v1), (9, .int .i64 (p0.length : Int)), (10, .int .i64 s.1)] a ∧ Stw ⟨Y, [], w0⟩ [(b2, [v4, .map (some b1), v5])] [Bd v4 78 BD g_x5.1, row v5 3 (Rp.int .i64) s.2.2.1, mp b1 Bo Bo s.2.2.2] w) ⟨(Value.slice none 0 0), ⟨([] : List (Int × Int × Int × Int × (Value × Nat × List Int) × Int × Int × Int)), h1⟩, (Value.slice none 0 0), F.re ⟨rfl, Aa, Aa, Aa, Aa, trivial⟩, W⟩ fun s o a w H L2 hR => ?_
  obtain ⟨x4, x5, x6, x7⟩ := s
  obtain ⟨v4, g_x5, v5, F, W⟩ := hR
  have F : Fr 19 [] [(2, .slice none 0 0), (3, .pointer (some ⟨b2, 0, none⟩)), (8, v1), (9, .int .i64 (p0.length : Int)), (10, .int .i64 x4)] a := F
  have W : Stw ⟨Y, [], w0⟩ [(b2, [v4, .map (some b1), v5])] [Bd v4 78 BD g_x5.1, row v5 3 (Rp.int .i64) x6, mp b1 Bo Bo x7] w := W
  rw [CR] at H
  refine Ah (Ab ?_)
  refine ls F W Aa (B0 F Aa Aa).q fun a w F W => ?_
  refine Ad (Ac (Ah ?_))
  refine AA F Aa (fun hb => ?_) fun hb => ?_
  ·
   have H := Ba (BO hb) H
   rw [hb] at F
   clear hb
   refine As (Ac (Ah (Ax (Ah (Ab ?_)))))
   obtain ⟨x8, h2, H⟩ := An H
   refine ls F W Aa (AU (r := Ef) J4 F Aa Aa (Ak h_v1) h2).q fun a w F W => ?_
   refine ls F W Aa (AC (y := Value.agg #[.int .i64 x8.1, .int .i64 x8.2.1, .int .i64 x8.2.2.1, .int .i64 x8.2.2.2.1, .int .i64 x8.2.2.2.2.1, .int .i64 x8.2.2.2.2.2]) (j := 0) (i := x4) F Aa Aa (Ak h_v1) h2 Lx.to LL Aa).q fun a w F W => ?_
   refine B3 (cs := [.int .i64 0, .int .i64 0, .int .i64 0, .int .i64 0, .int .i64 0, .int .i64 0]) F W Aa Ny Aa fun b3 a w F W => ?_
   refine BQ (vs := [.int .i64 x8.1, .int .i64 x8.2.1, .int .i64 x8.2.2.1, .int .i64 x8.2.2.2.1, .int .i64 x8.2.2.2.2.1, .int .i64 x8.2.2.2.2.2]) (M' := [(b3, [.int .i64 x8.1, .int .i64 x8.2.1, .int .i64 x8.2.2.1, .int .i64 x8.2.2.2.1, .int .i64 x8.2.2.2.2.1, .int .i64 x8.2.2.2.2.2]), (b2, [v4, .map (some b1), v5])]) 0 F W Aa Aa Aa LL Aa Aa Aa Aa Aa fun w W => ?_
   refine Ad (Ac (Ab ?_))
   refine ls F W Aa (Al (v := Value.agg #[.int .i64 x8.1, .int .i64 x8.2.1, .int .i64 x8.2.2.1, .int .i64 x8.2.2.2.1, .int .i64 x8.2.2.2.2.1, .int .i64 x8.2.2.2.2.2]) 0 F Aa Aa LL Aa).q fun a w F W => ?_
   obtain ⟨x9, h3, H⟩ := An H
   have W := W.frontZ (i := 2) Aa Aa
   have W := W.frontZ (i := 2) Aa Aa
   have W := W.frontZ (i := 2) Aa Aa
   have W := W.frontM (i := 1) Aa Aa
   refine Cw (Ml := [(b2, [v4, .map (some b1), v5])]) (Zl := [Bd v4 78 BD g_x5.1, row v5 3 (Rp.int .i64) x6, mp b1 Bo Bo x7]) (M := [(b3, [.int .i64 x8.1, .int .i64 x8.2.1, .int .i64 x8.2.2.1, .int .i64 x8.2.2.2.1, .int .i64 x8.2.2.2.2.1, .int .i64 x8.2.2.2.2.2])]) (Z := []) (β := Value × ({x : List (Int × Int × Int × Int × (Value × Nat × List Int) × Int × Int × Int) // x.map Co = x9.1}) × Value) (rv := fun x => .tuple #[]) (MM := fun x => [(b2, [x.1, .map (some b1), x.2.2])]) (ZZ := fun x => [Bd x.1 78 BD x.2.1.1, row x.2.2 3 (Rp.int .i64) x9.2.2, mp b1 Bo Bo x9.2.1]) F W PN Aa Aa (fun hL => Gv _ _ w b2 (v4) b1 (v5) (x5, x7, x6) x8 ⟨g_x5.1, g_x5.2⟩ _ h3 hL) fun x a w F W => ?_
   obtain ⟨v6, v7, v8⟩ := x
   have W : Stw ⟨Y, [], w0⟩ [(b2, [v6, .map (some b1), v8]), (b3, [.int .i64 x8.1, .int .i64 x8.2.1, .int .i64 x8.2.2.1, .int .i64 x8.2.2.2.1, .int .i64 x8.2.2.2.2.1, .int .i64 x8.2.2.2.2.2])] [Bd v6 78 BD v7.1, row v8 3 (Rp.int .i64) x9.2.2, mp b1 Bo Bo x9.2.1] w := W
   refine Ad (AP (Ac (Ab ?_)))
   refine ls F W Aa (Dk F Aa Aa Aa).q fun a w F W => ?_
   refine ls F W Aa (Ag F Aa).q fun a w F W => ?_
   refine Ad (Ac ?_)
   have W := W.frontZ (i := 2) Aa Aa
   have W := W.frontZ (i := 2) Aa Aa
   have W := W.frontZ (i := 2) Aa Aa
   have W := W.sub (M' := [(b2, [v6, .map (some b1), v8])]) (Z' := [Bd v6 78 BD v7.1, row v8 3 (Rp.int .i64) x9.2.2, mp b1 Bo Bo x9.2.1]) (List.Sublist.cons_cons _ (List.nil_sublist _)) (List.Sublist.refl _)
   exact ⟨_, H, (v6), ⟨v7.1, v7.2⟩, (v8), F.re ⟨rfl, Aa, Aa, Aa, Aa, trivial⟩, W⟩
  have H := A9 (BS hb) H
  rw [hb] at F
  clear hb
  refine BH ?_
  iterate 2 refine Cj ?_
  refine BI (Ac ?_)
  have W := W.frontZ (i := 2) Aa Aa
  have W := W.frontZ (i := 2) Aa Aa
  have W := W.frontZ (i := 2) Aa Aa
  have H := L2 _ H
  exact ⟨_, _, _, (v4), ⟨g_x5.1, g_x5.2⟩, (v5), H, F.re ⟨rfl, Aa, trivial⟩, W⟩
 rintro a w ⟨x1, x2, x3, v2, g_x1, v3, hj, F, W⟩
 have hj := A1 hj
 subst hj
 have H := K1
 clear G1 K1
 refine Ah (Ab ?_)
 refine ls F W Aa (Af HF Aa Aa Aa Mv F Aa 0 Aa).q fun a w F W => ?_
 refine ls F W Aa (Al (v := v2) 0 F Aa Aa Mv Aa).q fun a w F W => ?_
 refine ls F W Aa (Ae F Aa).q fun a w F W => ?_
 refine Ad (Ac (AB ?_))
 obtain ⟨x10, h4, H⟩ := An H
 have H := A1 H
 subst H
 refine Be (.inl Aa) F W Aa (Aw F Aa) ?_
 have W := Stw.ddRest OD g_x1.2 h4 W
 have W := W.sub (M' := []) (Z' := [row v2 78 Ip x10]) (List.nil_sublist _) (List.Sublist.cons_cons _ (List.nil_sublist _))
 exact ⟨(v2), Aa, W⟩
theorem Nf : type_of% Try.underlying100 := Try.underlying100
theorem Of : type_of% Try.underlying101 := Try.underlying101
theorem PO : Has Try.prog 29 := ⟨fun args w => Aj Try.func29 rfl (by decide) args w⟩
abbrev MT : Rp (Int × Int × Int × Int × (Value × List Int) × Int × Int × Int) := (Rp.pair (Rp.int .i64) (Rp.pair (Rp.int .i64) (Rp.pair (Rp.int .i64) (Rp.pair (Rp.int .i64) (Rp.pair (Rp.vsl (Rp.int .i64)) (Rp.pair (Rp.int .i64) (Rp.pair (Rp.int .i64) (Rp.int .i64))))))))
abbrev OV (p : Int × Int × Int × Int × (Value × List Int) × Int × Int × Int) : Int × Int × Int × Int × List Int × Int × Int × Int := (p.1, p.2.1, p.2.2.1, p.2.2.2.1, p.2.2.2.2.1.2, p.2.2.2.2.2.1, p.2.2.2.2.2.2.1, p.2.2.2.2.2.2.2)
theorem Nv : Ex Ip MT OV := (Ex.pair Ex.rfl' (Ex.pair Ex.rfl' (Ex.pair Ex.rfl' (Ex.pair Ex.rfl' (Ex.pair Ex.sliceF (Ex.pair Ex.rfl' (Ex.pair Ex.rfl' Ex.rfl')))))))
abbrev NG (a : Int × Int × Int × Int × (Value × List Int) × Int × Int × Int) : List Value := [.int .i64 a.1, .int .i64 a.2.1, .int .i64 a.2.2.1, .int .i64 a.2.2.2.1, a.2.2.2.2.1.1, .int .i64 a.2.2.2.2.2.1, .int .i64 a.2.2.2.2.2.2.1, .int .i64 a.2.2.2.2.2.2.2]
theorem OQ : EW MT NG := (EW.pair Fl.int.to (EW.pair Fl.int.to (EW.pair Fl.int.to (EW.pair Fl.int.to (EW.pair EW.vsl (EW.pair Fl.int.to (EW.pair Fl.int.to Fl.int.to)))))))
theorem Oz : Ty Try.prog 78 true 8 := ⟨by kernel_rfl, by kernel_rfl⟩
abbrev Dq (x : Unit) : Value := .agg #[]
theorem Oi : Bt Try.prog 101 [] [] := ⟨⟨.agg #[], by kernel_rfl, rfl⟩, ⟨_, Of, fun w => by kernel_rfl⟩⟩
noncomputable def Ca (p0 : Int × Int × Int × Int × List Int × Int × Int × Int) : (Int × (List (Int × Unit))) → Option ((Int × (List (Int × Unit))) ⊕ (List (Int × Unit)))
  | (x2, x3) => (if x2 < (p0.2.2.2.2.1.length : Int) then (ix p0.2.2.2.2.1 x2).bind fun x4 => some (.inl (DC (x2 + 1), CP x3 x4 ())) else some (.inr x3))
noncomputable def CS (p0 : Int × Int × Int × Int × List Int × Int × Int × Int) : Option Bool := (AF (Ca p0) (0, ([] : List (Int × Unit)))).bind fun x1 => some (decide ((x1.length : Int) < (p0.2.2.2.2.1.length : Int)))
theorem Iv (Y : Nat → Prop) (w0 : World) (v1 : Value) (p0 : Int × Int × Int × Int × List Int × Int × Int × Int) (r : Bool) (H : CS p0 = some r) (h_v1 : Sl w0 (NX []) (Rp.int .i64) v1 p0.2.2.2.2.1) :
    Calls Try.prog 30 #[.agg #[.int .i64 p0.1, .int .i64 p0.2.1, .int .i64 p0.2.2.1, .int .i64 p0.2.2.2.1, v1, .int .i64 p0.2.2.2.2.2.1, .int .i64 p0.2.2.2.2.2.2.1, .int .i64 p0.2.2.2.2.2.2.2]] w0 fun e w' => e = .returned (.bool r) ∧ Below w0.heap.size w0 w' := by
 refine enter Try.func30 Aa Try.ntmps30 Aa fun a F => ?_
 have W := Stw.start Y w0
 unfold CS at H
 refine Ah (Ab ?_)
 refine Cx (cs := [.int .i64 p0.1, .int .i64 p0.2.1, .int .i64 p0.2.2.1, .int .i64 p0.2.2.2.1, v1, .int .i64 p0.2.2.2.2.2.1, .int .i64 p0.2.2.2.2.2.2.1, .int .i64 p0.2.2.2.2.2.2.2]) F W Aa Aa Aa fun b1 a w F W => ?_
 refine ls F W Aa (Ae F Aa).q fun a w F W => ?_
 refine Ad (Ac (Ah (Ab ?_)))
 refine F2 Bo Dq F W Aa fun b2 a w F W => ?_
 have W : Stw ⟨Y, [], w0⟩ [(b1, [.int .i64 p0.1, .int .i64 p0.2.1, .int .i64 p0.2.2.1, .int .i64 p0.2.2.2.1, v1, .int .i64 p0.2.2.2.2.2.1, .int .i64 p0.2.2.2.2.2.2.1, .int .i64 p0.2.2.2.2.2.2.2])] [mp b2 Bo Dq ([] : List (Int × Unit))] w := W
 refine ls F W Aa (Ae F Aa).q fun a w F W => ?_
 refine Ad (Ac ?_)
 obtain ⟨o1, G1, K1⟩ := An H
 refine AR (fun a w => ∃ x1 : List (Int × Unit), some (x1) = some o1 ∧ Fr 24 [] [(1, .pointer (some ⟨b1, 0, none⟩)), (2, .bool false), (3, .map (some b2))] a ∧ Stw ⟨Y, [], w0⟩ [(b1, [.int .i64 p0.1, .int .i64 p0.2.1, .int .i64 p0.2.2.1, .int .i64 p0.2.2.2.1, v1, .int .i64 p0.2.2.2.2.2.1, .int .i64 p0.2.2.2.2.2.2.1, .int .i64 p0.2.2.2.2.2.2.2])] [mp b2 Bo Dq x1] w) ?_ ?_
 ·
  have H := G1
  clear G1 K1
  refine Ah (Ab ?_)
  refine ls F W Aa (Af Ek Aa Aa Aa Gy F Aa 4 Aa).q fun a w F W => ?_
  refine ls F W Aa (Al (v := v1) 0 F Aa Aa Gy Aa).q fun a w F W => ?_
  refine ls F W Aa (Bl (r := (Rp.int .i64)) (l := p0.2.2.2.2.1) Gn Aa F Aa (Ak h_v1)).q fun a w F W => ?_
  refine ls F W Aa (Ag F Aa).q fun a w F W => ?_
  refine Ad (Ac (Ax ?_))
  refine BZ H (fun s a w => Fr 24 [] [(1, .pointer (some ⟨b1, 0, none⟩)), (2, .bool false), (3, .map (some b2)), (8, v1), (9, .int .i64 (p0.2.2.2.2.1.length : Int)), (10, .int .i64 s.1)] a ∧ Stw ⟨Y, [], w0⟩ [(b1, [.int .i64 p0.1, .int .i64 p0.2.1, .int .i64 p0.2.2.1, .int .i64 p0.2.2.2.1, v1, .int .i64 p0.2.2.2.2.2.1, .int .i64 p0.2.2.2.2.2.2.1, .int .i64 p0.2.2.2.2.2.2.2])] [mp b2 Bo Dq s.2] w) ⟨F.re ⟨rfl, Aa, Aa, Aa, Aa, Aa, trivial⟩, W⟩ fun s o a w H L2 hR => ?_
  obtain ⟨x2, x3⟩ := s
  obtain ⟨F, W⟩ := hR
  have F : Fr 24 [] [(1, .pointer (some ⟨b1, 0, none⟩)), (2, .bool false), (3, .map (some b2)), (8, v1), (9, .int .i64 (p0.2.2.2.2.1.length : Int)), (10, .int .i64 x2)] a := F
  have W : Stw ⟨Y, [], w0⟩ [(b1, [.int .i64 p0.1, .int .i64 p0.2.1, .int .i64 p0.2.2.1, .int .i64 p0.2.2.2.1, v1, .int .i64 p0.2.2.2.2.2.1, .int .i64 p0.2.2.2.2.2.2.1, .int .i64 p0.2.2.2.2.2.2.2])] [mp b2 Bo Dq x3] w := W
  rw [Ca] at H
  refine Ah (Ab ?_)
  refine ls F W Aa (B0 F Aa Aa).q fun a w F W => ?_
  refine Ad (Ac (Ah ?_))
  refine AA F Aa (fun hb => ?_) fun hb => ?_
  ·
   have H := Ba (BO hb) H
   rw [hb] at F
   clear hb
   refine As (Ac (Ah (Ax (Ah (Ab ?_)))))
   obtain ⟨x4, h1, H⟩ := An H
   refine ls F W Aa (AU (r := (Rp.int .i64)) Jy F Aa Aa (Ak h_v1) h1).q fun a w F W => ?_
   refine ls F W Aa (AC (y := Value.int .i64 x4) (j := 0) (i := x2) F Aa Aa (Ak h_v1) h1 Fl.int.to T3 Aa).q fun a w F W => ?_
   refine ls F W Aa (Ae F Aa).q fun a w F W => ?_
   refine Ad (Ac (Ab ?_))
   iterate 2 refine ls F W Aa (Ag F Aa).q fun a w F W => ?_
   refine ls F W Aa (Bx (v := Value.agg #[]) Oi F Aa Aa Aa).q fun a w F W => ?_
   refine FZ (q := 0) (kx := (x4 : Int)) (vx := (() : Unit)) (E := Bo) (V := Dq) F W Aa Aa Aa Aa Aa NT Nf fun w W => ?_
   have W : Stw ⟨Y, [], w0⟩ [(b1, [.int .i64 p0.1, .int .i64 p0.2.1, .int .i64 p0.2.2.1, .int .i64 p0.2.2.2.1, v1, .int .i64 p0.2.2.2.2.2.1, .int .i64 p0.2.2.2.2.2.2.1, .int .i64 p0.2.2.2.2.2.2.2])] [mp b2 Bo Dq (CP x3 x4 ())] w := W
   refine Ad (AP (Ac (Ab ?_)))
   refine ls F W Aa (Dk F Aa Aa Aa).q fun a w F W => ?_
   refine ls F W Aa (Ag F Aa).q fun a w F W => ?_
   refine Ad (Ac ?_)
   exact ⟨_, H, F.re ⟨rfl, Aa, Aa, Aa, Aa, Aa, trivial⟩, W⟩
  have H := A9 (BS hb) H
  rw [hb] at F
  clear hb
  refine BH ?_
  iterate 2 refine Cj ?_
  refine BI (Ac ?_)
  have H := L2 _ H
  exact ⟨_, H, F.re ⟨rfl, Aa, Aa, trivial⟩, W⟩
 rintro a w ⟨x1, hj, F, W⟩
 have hj := A1 hj
 subst hj
 have H := K1
 clear G1 K1
 refine Ah (Ab ?_)
 refine ls F W Aa (Ag F Aa).q fun a w F W => ?_
 refine ls F W Aa (LS (q := 0) (E := Bo) (V := Dq) F Aa Aa Aa Nf).q fun a w F W => ?_
 refine ls F W Aa (Af Ek Aa Aa Aa Gy F Aa 4 Aa).q fun a w F W => ?_
 refine ls F W Aa (Al (v := v1) 0 F Aa Aa Gy Aa).q fun a w F W => ?_
 refine ls F W Aa (Bl (r := (Rp.int .i64)) (l := p0.2.2.2.2.1) Gn Aa F Aa (Ak h_v1)).q fun a w F W => ?_
 refine ls F W Aa (B0 F Aa Aa).q fun a w F W => ?_
 refine ls F W Aa (Ae F Aa).q fun a w F W => ?_
 refine Ad (Ac (AB ?_))
 have H := A1 H
 subst H
 refine Be (.inl Aa) F W Aa (Aw F Aa) ?_
 exact ⟨rfl, W.done⟩
theorem Ji : type_of% Try.underlying40 := Try.underlying40
theorem N9 : type_of% Try.underlying45 := Try.underlying45
theorem Ps : Has Try.prog 30 := ⟨fun args w => Aj Try.func30 rfl (by decide) args w⟩
theorem N1 : Bt Try.prog 45 [.int .i64 0, .int .i64 0] [(0, 1), (1, 1)] := ⟨⟨.agg #[.int .i64 0, .int .i64 0], by kernel_rfl, rfl⟩, ⟨_, N9, fun w => by kernel_rfl⟩⟩
theorem Oy : (Try.prog.info? 45).bind (·.zero) = some (.agg #[.int .i64 0, .int .i64 0]) := by kernel_rfl
abbrev C6 : Rp (Int × Int) := (Rp.pair (Rp.int .i64) (Rp.int .i64))
def PQ (a : Int × Int) : List Value := [.int .i64 a.1, .int .i64 a.2]
theorem Nx : Fl C6 PQ := (Fl.pair Fl.int Fl.int)
theorem Mh : Et Try.prog 40 45 2 16 := Et.of Ji (by kernel_rfl) (by kernel_rfl) (by kernel_rfl) (by decide)
def Bb (p0 : Int × Int × Int) (p1 : Int) : Bool := (decide (p0.2.1 ≤ p1) && decide (p1 ≤ p0.2.2))
theorem Es (Y : Nat → Prop) (w0 : World) (q_p1 : Nat) (p0 : Int × Int × Int) (p1 : Int) (r : Bool) (H : Bb p0 p1 = r) (a_q_p1 : At ⟨Y, [], w0⟩ q_p1 0 [.int .i64 p1]) :
    Calls Try.prog 41 #[.agg #[.int .i64 p0.1, .int .i64 p0.2.1, .int .i64 p0.2.2], .pointer (some ⟨q_p1, 0, none⟩)] w0 fun e w' => e = .returned (.bool r) ∧ Below w0.heap.size w0 w' := by
 refine enter Try.func41 Aa Try.ntmps41 Aa fun a F => ?_
 have W := Stw.start Y w0
 unfold Bb at H
 refine Ah (Ab ?_)
 refine Cx (cs := [.int .i64 p0.1, .int .i64 p0.2.1, .int .i64 p0.2.2]) F W Aa Aa Aa fun b1 a w F W => ?_
 refine ls F W Aa (Ae F Aa).q fun a w F W => ?_
 refine Ad (Ac ?_)
 refine AR (fun a w => Fr 14 [] [(3, .bool (decide (p0.2.1 ≤ p1) && decide (p1 ≤ p0.2.2)))] a ∧ Stw ⟨Y, [], w0⟩ [(b1, [.int .i64 p0.1, .int .i64 p0.2.1, .int .i64 p0.2.2])] [] w) ?_ ?_
 ·
  refine Ab ?_
  refine ls F W Aa (Af La Aa Aa Aa T3 F Aa 1 Aa).q fun a w F W => ?_
  refine ls F W Aa (Al (v := Value.int .i64 p0.2.1) 0 F Aa Aa T3 Aa).q fun a w F W => ?_
  refine ls F W Aa (IX (y := Value.int .i64 p1) (j := 0) F Aa (Nat.zero_add _).symm a_q_p1 T3 Aa).q fun a w F W => ?_
  refine ls F W Aa (JE F Aa Aa).q fun a w F W => ?_
  refine ls F W Aa (Ag F Aa).q fun a w F W => ?_
  rcases Bool.eq_false_or_eq_true (decide (p0.2.1 ≤ p1)) with hb0 | hb0
  ·
   rw [hb0] at F
   refine AM F W (Ai F Aa Aa Aa Aa) Aa (Ao Aa) (IX (y := Value.int .i64 p1) (j := 0) F Aa (Nat.zero_add _).symm a_q_p1 T3 Aa).q fun a w F W => ?_
   refine AM F W (Ai F Aa Aa Aa Aa) Aa (Ao Aa) (Af La Aa Aa Aa T3 F Aa 2 Aa).q fun a w F W => ?_
   refine AM F W (Ai F Aa Aa Aa Aa) Aa (Ao Aa) (Al (v := Value.int .i64 p0.2.2) 0 F Aa Aa T3 Aa).q fun a w F W => ?_
   refine AM F W (Ai F Aa Aa Aa Aa) Aa (Ao Aa) (JE F Aa Aa).q fun a w F W => ?_
   refine ls F W Aa (Ay F Aa Aa Aa).q fun a w F W => ?_
   refine ls F W Aa (Ae F Aa).q fun a w F W => ?_
   refine Ad (Ac ?_)
   exact ⟨F.re ⟨(by show some (Value.bool (decide (p1 ≤ p0.2.2))) = some (Value.bool (decide (p0.2.1 ≤ p1) && decide (p1 ≤ p0.2.2))); try rw [hb0]; all_goals simp only [Bool.not_true, Bool.not_false, Bool.true_and, Bool.false_and, Bool.true_or, Bool.false_or, Bool.and_true, Bool.or_false, cond_true, cond_false]), trivial⟩, W⟩
  rw [hb0] at F
  iterate 4 refine DU F Aa Aa Aa Aa Aa Aa Aa fun a F => ?_
  refine ls F W Aa (AL F Aa Aa Aa).q fun a w F W => ?_
  refine ls F W Aa (Ae F Aa).q fun a w F W => ?_
  refine Ad (Ac ?_)
  exact ⟨F.re ⟨(by show some (Value.bool false) = some (Value.bool (decide (p0.2.1 ≤ p1) && decide (p1 ≤ p0.2.2))); try rw [hb0]; all_goals simp only [Bool.not_true, Bool.not_false, Bool.true_and, Bool.false_and, Bool.true_or, Bool.false_or, Bool.and_true, Bool.or_false, cond_true, cond_false]), trivial⟩, W⟩
 rintro a w ⟨F, W⟩
 refine AB ?_
 subst H
 refine Be (.inl Aa) F W Aa (Aw F Aa) ?_
 exact ⟨rfl, W.done⟩
theorem P9 : Has Try.prog 41 := ⟨fun args w => Aj Try.func41 rfl (by decide) args w⟩
noncomputable def Am (p0 : List (Int × Int × Int)) (p1c0 : Int) : Int → Option (Int ⊕ (Unit ⊕ Int))
  | x1 => (if x1 < (p0.length : Int) then (ix p0 x1).bind fun x2 => (if (Bb x2 p1c0) = true then some (.inr (.inr x1)) else some (.inl (DC (x1 + 1)))) else some (.inr (.inl ())))
noncomputable def AK (p0 : List (Int × Int × Int)) (p1c0 : Int) : Option Int := DQ (AF (Am p0 p1c0) 0) fun _ => some (-1)
theorem CV (Y : Nat → Prop) (w0 : World) (v1 : Value) (q_p1c0 : Nat) (p0 : List (Int × Int × Int)) (p1c0 : Int) (r : Int) (H : AK p0 p1c0 = some r) (h_v1 : Sl w0 (NX []) CM v1 p0) (a_q_p1c0 : At ⟨Y, [], w0⟩ q_p1c0 0 [.int .i64 p1c0]) :
    Calls Try.prog 49 #[v1, .func (.func 41) #[] #[.pointer (some ⟨q_p1c0, 0, none⟩)]] w0 fun e w' => e = .returned (.int .i64 r) ∧ Below w0.heap.size w0 w' := by
 refine enter Try.func49 Aa Try.ntmps49 Aa fun a F => ?_
 have W := Stw.start Y w0
 unfold AK at H
 refine Ah (Ab ?_)
 refine ls F W Aa (Ae F Aa).q fun a w F W => ?_
 refine Ad (Ac ?_)
 obtain ⟨o1, G1, K1, L1⟩ := KM H
 refine AR (fun a w => some (Sum.inl ()) = some o1 ∧ Fr 19 [] [(4, .int .i64 0)] a ∧ Stw ⟨Y, [], w0⟩ [] [] w) ?_ ?_
 ·
  have H := G1
  clear G1 K1
  refine Ah (Ab ?_)
  refine ls F W Aa (Ag F Aa).q fun a w F W => ?_
  refine ls F W Aa (Bl (r := CM) (l := p0) MI Aa F Aa (Ak h_v1)).q fun a w F W => ?_
  refine ls F W Aa (Ag F Aa).q fun a w F W => ?_
  refine Ad (Ac (Ax ?_))
  refine BZ H (fun s a w => Fr 19 [] [(0, v1), (1, .func (.func 41) #[] #[.pointer (some ⟨q_p1c0, 0, none⟩)]), (4, .int .i64 0), (7, .int .i64 (p0.length : Int)), (8, .int .i64 s)] a ∧ Stw ⟨Y, [], w0⟩ [] [] w) ⟨F.re ⟨rfl, Aa, Aa, Aa, Aa, trivial⟩, W⟩ fun s o a w H L2 hR => ?_
  obtain ⟨x1, rfl⟩ : ∃ x, x = s := ⟨s, rfl⟩
  obtain ⟨F, W⟩ := hR
  have F : Fr 19 [] [(0, v1), (1, .func (.func 41) #[] #[.pointer (some ⟨q_p1c0, 0, none⟩)]), (4, .int .i64 0), (7, .int .i64 (p0.length : Int)), (8, .int .i64 x1)] a := F
  have W : Stw ⟨Y, [], w0⟩ [] [] w := W
  rw [Am] at H
  refine Ah (Ab ?_)
  refine ls F W Aa (B0 F Aa Aa).q fun a w F W => ?_
  refine Ad (Ac (Ah ?_))
  refine AA F Aa (fun hb => ?_) fun hb => ?_
  ·
   have H := Ba (BO hb) H
   rw [hb] at F
   clear hb
   refine As (Ac (Ah (Ax (Ah (Ab ?_)))))
   refine ls F W Aa (Ag F Aa).q fun a w F W => ?_
   refine ls F W Aa (Ae F Aa).q fun a w F W => ?_
   refine Ad (Ac (Ah (Ab ?_)))
   iterate 3 refine ls F W Aa (Ag F Aa).q fun a w F W => ?_
   obtain ⟨x2, h1, H⟩ := An H
   refine ls F W Aa (AU (r := CM) Ni F Aa Aa (Ak h_v1) h1).q fun a w F W => ?_
   refine ls F W Aa (AC (y := Value.agg #[.int .i64 x2.1, .int .i64 x2.2.1, .int .i64 x2.2.2]) (j := 0) (i := x1) F Aa Aa (Ak h_v1) h1 NO.to Mz Aa).q fun a w F W => ?_
   refine ls F W Aa (I4 (ws := [.agg #[.int .i64 x2.1, .int .i64 x2.2.1, .int .i64 x2.2.2], .pointer (some ⟨q_p1c0, 0, none⟩)]) (v := Value.bool (Bb x2 p1c0)) F P9 Aa (fun w W => Es any w q_p1c0 x2 p1c0 _ Aa (At.re a_q_p1c0 W))) fun a w F W => ?_
   refine Ad (Ac ?_)
   refine AA F Aa (fun hb => ?_) fun hb => ?_
   ·
    have H := Ba hb H
    rw [hb] at F
    clear hb
    refine Ah (Ab ?_)
    refine ls F W Aa (Ag F Aa).q fun a w F W => ?_
    refine ls F W Aa (Ae F Aa).q fun a w F W => ?_
    refine Ad (Ac (AB (AV ?_)))
    iterate 2 refine AO ?_
    refine AV (AO ?_)
    have H := L2 _ H
    have H := L1 _ H
    have H := A1 H
    subst H
    refine Be (.inl Aa) F W Aa (Aw F Aa) ?_
    exact ⟨rfl, W.done⟩
   have H := A9 (by rw [hb]; decide) H
   rw [hb] at F
   clear hb
   refine As (AP (Ac (Ab ?_)))
   refine ls F W Aa (Dk F Aa Aa Aa).q fun a w F W => ?_
   refine ls F W Aa (Ag F Aa).q fun a w F W => ?_
   refine Ad (Ac ?_)
   exact ⟨_, H, F.re ⟨rfl, Aa, Aa, Aa, Aa, trivial⟩, W⟩
  have H := A9 (BS hb) H
  rw [hb] at F
  clear hb
  refine BH ?_
  iterate 2 refine Cj ?_
  refine BI (Ac ?_)
  have H := L2 _ H
  exact ⟨H, F.re ⟨rfl, trivial⟩, W⟩
 rintro a w ⟨hj, F, W⟩
 have H := K1 _ hj
 clear hj G1 K1 L1
 refine Ah (Ab ?_)
 refine ls F W Aa (Ae F Aa).q fun a w F W => ?_
 refine Ad (Ac (AB ?_))
 have H := A1 H
 subst H
 refine Be (.inl Aa) F W Aa (Aw F Aa) ?_
 exact ⟨rfl, W.done⟩
theorem Pf : Has Try.prog 49 := ⟨fun args w => Aj Try.func49 rfl (by decide) args w⟩
noncomputable def AD (p0 : List (Int × Int × Int)) (p1c0 : Int) : Option Bool := (AK p0 p1c0).bind fun x1 => some (decide (0 ≤ x1))
theorem CH (Y : Nat → Prop) (w0 : World) (v1 : Value) (q_p1c0 : Nat) (p0 : List (Int × Int × Int)) (p1c0 : Int) (r : Bool) (H : AD p0 p1c0 = some r) (h_v1 : Sl w0 (NX []) CM v1 p0) (a_q_p1c0 : At ⟨Y, [], w0⟩ q_p1c0 0 [.int .i64 p1c0]) :
    Calls Try.prog 40 #[v1, .func (.func 41) #[] #[.pointer (some ⟨q_p1c0, 0, none⟩)]] w0 fun e w' => e = .returned (.bool r) ∧ Below w0.heap.size w0 w' := by
 refine enter Try.func40 Aa Try.ntmps40 Aa fun a F => ?_
 have W := Stw.start Y w0
 unfold AD at H
 refine Ah (Ab ?_)
 refine ls F W Aa (Ae F Aa).q fun a w F W => ?_
 refine Ad (Ac (Ah (Ab ?_)))
 iterate 2 refine ls F W Aa (Ag F Aa).q fun a w F W => ?_
 obtain ⟨x1, h1, H⟩ := An H
 refine ls F W Aa (Ch (v := Value.int .i64 x1) F Pf Aa (fun w W => CV any w (v1) q_p1c0 p0 p1c0 _ h1 (((Ak h_v1) : DV _ _ _ _ _ _) w W).nx (At.re a_q_p1c0 W))) fun a w F W => ?_
 refine ls F W Aa (E0 F Aa Aa).q fun a w F W => ?_
 refine ls F W Aa (Ae F Aa).q fun a w F W => ?_
 refine Ad (Ac (AB ?_))
 have H := A1 H
 subst H
 refine Be (.inl Aa) F W Aa (Aw F Aa) ?_
 exact ⟨rfl, W.done⟩
theorem PW : Has Try.prog 40 := ⟨fun args w => Aj Try.func40 rfl (by decide) args w⟩
noncomputable def A7 (p0 : (List (Int × Int × Int)) × (List (Int × Int))) (p1 : Int) : Option Bool := (AD p0.1 p1).bind fun x1 => some x1
theorem EV (Y : Nat → Prop) (w0 : World) (v1 : Value) (v2 : Value) (p0 : (List (Int × Int × Int)) × (List (Int × Int))) (p1 : Int) (r : Bool) (H : A7 p0 p1 = some r) (h_v1 : Sl w0 (NX []) CM v1 p0.1) (h_v2 : Sl w0 (NX []) ES v2 p0.2) :
    Calls Try.prog 27 #[.agg #[v1, v2], .int .i64 p1] w0 fun e w' => e = .returned (.bool r) ∧ Below w0.heap.size w0 w' := by
 refine enter Try.func27 Aa Try.ntmps27 Aa fun a F => ?_
 have W := Stw.start Y w0
 unfold A7 at H
 refine Ah (Ab ?_)
 refine Cx (cs := [v1, v2]) F W Aa Aa Aa fun b1 a w F W => ?_
 refine Cx (cs := [.int .i64 p1]) F W Aa Aa Aa fun b2 a w F W => ?_
 refine ls F W Aa (Ae F Aa).q fun a w F W => ?_
 refine Ad (Ac (Ah (Ab ?_)))
 refine ls F W Aa (Af Ll Aa Aa Aa Nj F Aa 0 Aa).q fun a w F W => ?_
 refine ls F W Aa (Al (v := v1) 1 F Aa Aa Nj Aa).q fun a w F W => ?_
 refine ls F W Aa (Gg (us := []) (vs := [.pointer (some ⟨b2, 0, none⟩)]) F Aa Aa).q fun a w F W => ?_
 obtain ⟨x1, h1, H⟩ := An H
 refine ls F W Aa (Ch (v := Value.bool x1) F PW Aa (fun w W => CH any w (v1) b2 p0.1 p1 _ h1 (((Ak h_v1) : DV _ _ _ _ _ _) w W).nx (OX W 0 Aa))) fun a w F W => ?_
 refine ls F W Aa (Ae F Aa).q fun a w F W => ?_
 refine Ad (Ac (AB ?_))
 have H := A1 H
 subst H
 refine Be (.inl Aa) F W Aa (Aw F Aa) ?_
 exact ⟨rfl, W.done⟩
theorem Pj : Has Try.prog 27 := ⟨fun args w => Aj Try.func27 rfl (by decide) args w⟩
theorem OL (Y : Nat → Prop) (w0 : World) (v : Value) (h1 : v.oneCell' = true) : Calls Try.prog 42 [v].toArray w0 fun e w' => ∃ b, e = .returned (.func (.func 50) #[] #[.pointer (some ⟨b, 0, none⟩)]) ∧ Stw ⟨Y, [], w0⟩ [(b, [v])] [] w' := by
 refine enter Try.func42 Aa Try.ntmps42 Aa fun a F => ?_
 have W := Stw.start Y w0
 refine Ah (Ab ?_)
 refine Cx (cs := [v]) F W Aa Aa (Dg h1) fun b1 a w F W => ?_
 refine ls F W Aa (Ae F Aa).q fun a w F W => ?_
 refine Ad (Ac (Ah (Ab ?_)))
 refine ls F W Aa (Gg (us := []) (vs := [.pointer (some ⟨b1, 0, none⟩)]) F Aa Aa).q fun a w F W => ?_
 refine ls F W Aa (Ae F Aa).q fun a w F W => ?_
 refine Ad (Ac (AB ?_))
 refine Be (.inl Aa) F W Aa (Aw F Aa) ?_
 exact ⟨b1, Aa, W⟩
theorem Px : Has Try.prog 42 := ⟨fun args w => Aj Try.func42 rfl (by decide) args w⟩
theorem O6 : Ty Try.prog 91 true 2 := ⟨by kernel_rfl, by kernel_rfl⟩
theorem P8 (b : Nat) (v : Value) (l : List (Int × Int)) (hn : l.length ≤ 1000000000) :
    ND Try.prog 50 [.pointer (some ⟨b, 0, none⟩)] (NU b v ES l) (Hz l) (fun p => [.int .i64 p.1, Value.agg #[.int .i64 p.2.1, .int .i64 p.2.2]]) := by
 intro y K Kx w0 hB hR hY h0
 refine enter (args := [.func (.yield y) #[] #[], .pointer (some ⟨b, 0, none⟩)]) Try.func50 Aa Try.ntmps50 Aa fun a F => ?_
 refine Ah (Ab ?_)
 have W := Stw.start any w0
 have hr := hR _ _ h0
 refine ls F W Aa (HJ (cs := [v]) (v := v) hr.1 (by simp) F Aa Nd Aa).q fun a w F W => ?_
 refine ls F W Aa (Bl (r := ES) (l := l) N5 Aa F Aa (Ak hr.2.nx)).q fun a w F W => ?_
 refine ls F W Aa (IP (r := (l.length : Int) - 1) F Aa Aa (Jo hn)).q fun a w F W => ?_
 refine ls F W Aa (Ae F Aa).q fun a w F W => ?_
 refine Ad (Ac ?_)
 have hK := hB _ _ _ h0 W.frm.below
 have F : Fr 19 [] [(0, .func (.yield y) #[] #[]), (1, .pointer (some ⟨b, 0, none⟩)), (3, .int .i64 ((l.length : Int) - 1))] a := F.re ⟨rfl, Aa, Aa, trivial⟩
 clear W hr h0
 have hl : l.take l.length = l := List.take_length
 rw [← hl] at hK
 refine Ax ?_
 refine Fb (fun m a w => m ≤ l.length ∧ Fr 19 [] [(0, .func (.yield y) #[] #[]), (1, .pointer (some ⟨b, 0, none⟩)), (3, .int .i64 ((m : Int) - 1))] a ∧ K (Hz (l.take m)) w) l.length ⟨Nat.le_refl _, F, hK⟩ ?_
 clear F hK w
 rintro m a w ⟨hm, F, hK⟩
 have W := Stw.start any w
 have hr := hR _ _ hK
 refine Ah (Ah (Ab ?_))
 refine ls F W Aa (Ag F Aa).q fun a w1 F W => ?_
 refine ls F W Aa (E0 F Aa Aa).q fun a w1 F W => ?_
 refine Ad (Ac ?_)
 cases m with
 | zero =>
  refine GE F Aa ?_
  refine BH ?_
  iterate 2 refine Cj ?_
  refine BI ?_
  exact FF (.inr Aa) (F.re (F' := []) trivial) Aa ⟨⟨_, Aa⟩, .inl (hB _ _ _ hK W.frm.below)⟩
 | succ k =>
  refine GF F (by show some (Value.bool (decide ((0 : Int) ≤ (k + 1 : Nat) - 1))) = some (Value.bool true); rw [decide_eq_true (by omega)]) ?_
  have hk : k < l.length := hm
  have hx : ix l (k : Int) = some l[k] := by unfold ix; rw [if_pos (by omega)]; simp
  have hx2 : l[k]? = some l[k] := by simp
  have e1 : ((k + 1 : Nat) : Int) - 1 = k := by omega
  rw [e1] at F
  rw [GN hx2] at hK
  refine As (Ac (Ah (Ax (Ah ?_))))
  refine IM 6 (fun ⟨_, _, h⟩ => by obtain ⟨⟨_, h⟩, _⟩ := h; cases h) ?_
  iterate 2 refine ls F W Aa (Ag F Aa).q fun a w1 F W => ?_
  refine ls F W Aa (HJ (cs := [v]) (v := v) hr.1 (by simp) F Aa Nd Aa).q fun a w1 F W => ?_
  refine ls F W Aa (Ag F Aa).q fun a w1 F W => ?_
  refine ls F W Aa (AU (r := ES) OY F Aa Aa (Ak hr.2.nx) hx).q fun a w1 F W => ?_
  refine ls F W Aa (AC (y := Value.agg #[.int .i64 ((l[k]).1), .int .i64 ((l[k]).2)]) (j := 0) (i := (k : Int)) F Aa Aa (Ak hr.2.nx) hx O9.to O6 Aa).q fun a w1 F W => ?_
  refine Ad ?_
  have hK := hB _ _ _ hK W.frm.below
  refine KO (vs := [.int .i64 k, Value.agg #[.int .i64 ((l[k]).1), .int .i64 ((l[k]).2)]]) F Aa Aa Aa (hY _ _ _ hK) ?_
  rintro e w2 (⟨rfl, hK2⟩ | ⟨rfl, hx2⟩)
  · refine ⟨_, rfl, fun a F => ?_⟩
    refine Jn F Aa Aa fun a F => ?_
    refine Jc (Ac ?_)
    refine GE F Aa ?_
    refine As (AP (Ac (Ab ?_)))
    have W := Stw.start any w2
    refine ls F W Aa (Ag F Aa).q fun a w3 F W => ?_
    refine ls F W Aa (IP (r := (k : Int) - 1) F Aa Aa (Jo (by omega))).q fun a w3 F W => ?_
    refine ls F W Aa (Ae F Aa).q fun a w3 F W => ?_
    refine Ad (Ac ?_)
    exact ⟨k, Nat.lt_succ_self k, Nat.le_of_lt hk, F.re ⟨rfl, Aa, Aa, trivial⟩, hB _ _ _ hK2 W.frm.below⟩
  · refine ⟨_, rfl, fun a F => ?_⟩
    refine Jn F Aa Aa fun a F => ?_
    refine Jc (Ac ?_)
    refine GF F Aa ?_
    refine AB (AV ?_)
    iterate 2 refine AO ?_
    refine AV ?_
    refine FF (.inl Aa) (F.re (F' := []) trivial) Aa ⟨⟨_, Aa⟩, .inr hx2⟩
theorem Pk : Has Try.prog 50 := ⟨fun args w => Aj Try.func50 rfl (by decide) args w⟩
noncomputable def AY (p1 : Int) (x2 : Int × Int × Int) : Unit → Option (Unit ⊕ Int)
  | _ => (if x2.2.2 < p1 then some (.inr x2.2.1) else some (.inl ()))
noncomputable def Bi (p0 : (List (Int × Int × Int)) × (List (Int × Int))) (p1 : Int) : Option Int := (back p0.2).bind fun x1 => DQ (Eo (AY p1) x1 ()) fun _ => some 0
theorem Fg (Y : Nat → Prop) (w0 : World) (v1 : Value) (v2 : Value) (p0 : (List (Int × Int × Int)) × (List (Int × Int))) (p1 : Int) (r : Int) (H : Bi p0 p1 = some r) (h_v1 : Sl w0 (NX []) CM v1 p0.1) (h_v2 : Sl w0 (NX []) ES v2 p0.2) :
    Calls Try.prog 28 #[.agg #[v1, v2], .int .i64 p1] w0 fun e w' => e = .returned (.int .i64 r) ∧ Below w0.heap.size w0 w' := by
 refine L6 Try.func28 Aa Try.ntmps28 Aa fun a F => ?_
 have W := Stw.start Y w0
 unfold Bi at H
 refine Ah (Ab ?_)
 refine Cx (cs := [v1, v2]) F W Aa Aa Aa fun b1 a w F W => ?_
 refine Cx (cs := [.int .i64 p1]) F W Aa Aa Aa fun b2 a w F W => ?_
 refine B3 (cs := [.int .i64 0]) F W Aa Z3 Aa fun b3 a w F W => ?_
 refine Ad (Ac (Ah (Ah (Ab ?_))))
 refine ls F W Aa (Af Ll Aa Aa Aa Nd F Aa 1 Aa).q fun a w F W => ?_
 refine ls F W Aa (Al (v := v2) 2 F Aa Aa Nd Aa).q fun a w F W => ?_
 refine Cw (β := Nat) (Ml := []) (M := [(b3, [.int .i64 0]), (b2, [.int .i64 p1]), (b1, [v1, v2])]) (Zl := []) (Z := []) (rv := fun b4 => .func (.func 50) #[] #[.pointer (some ⟨b4, 0, none⟩)]) (MM := fun b4 => [(b4, [v2])]) (ZZ := fun _ => []) F W Px Aa Aa (fun _ => OL _ w v2 ((Ak h_v2) _ W).one) fun b4 a w F W => ?_
 have W : Stw ⟨Y, [], w0⟩ [(b4, [v2]), (b3, [.int .i64 0]), (b2, [.int .i64 p1]), (b1, [v1, v2])] [] w := W
 refine Ad (Ac (Ax ?_))
 obtain ⟨x1, h1, H⟩ := An H
 obtain ⟨hn, rfl⟩ := IQ h1
 have F : Fr 18 [] [(0, .agg #[v1, v2]), (1, .int .i64 p1), (2, .pointer (some ⟨b1, 0, none⟩)), (3, .pointer (some ⟨b2, 0, none⟩)), (4, .pointer (some ⟨b3, 0, none⟩)), (7, .pointer (some ⟨b1, 1, none⟩)), (8, v2), (9, .func (.func 50) #[] #[.pointer (some ⟨b4, 0, none⟩)])] a := F.re ⟨rfl, Aa, Aa, Aa, Aa, Aa, Aa, Aa, trivial⟩
 have W := W.frontM (i := 3) Aa Aa
 have W := W.frontM (i := 3) Aa Aa
 have W := W.frontM (i := 3) Aa Aa
 have W := W.frontM (i := 3) Aa Aa
 refine KL (Z := []) (fun s M Z => M = [(b4, [v2]), (b3, [.int .i64 0]), (b2, [.int .i64 p1]), (b1, [v1, v2])] ∧ Z = []) H F W ⟨rfl, Aa⟩ Aa Pk (P8 b4 v2 p0.2 hn) (fun _ => rfl) Aa (fun s M Z hK w Z' W => ?_) (fun l dD1 r1a r1b x2 s o M Z a a₂ w H L1 hK F hF2 W => ?_) fun dD1 s M Z a w H hK F W => ?_
 ·
  obtain ⟨rfl, rfl⟩ := hK
  exact NU.of (i := 0) W Aa (Ak h_v2)
 ·
  obtain ⟨rfl, rfl⟩ := hK
  have F : Fr 18 [] [(0, .agg #[v1, v2]), (1, .int .i64 p1), (2, .pointer (some ⟨b1, 0, none⟩)), (3, .pointer (some ⟨b2, 0, none⟩)), (4, .pointer (some ⟨b3, 0, none⟩)), (7, .pointer (some ⟨b1, 1, none⟩)), (8, v2), (9, .func (.func 50) #[] #[.pointer (some ⟨b4, 0, none⟩)]), (10, .int .i64 x2.1), (11, .agg #[.int .i64 x2.2.1, .int .i64 x2.2.2])] a := F.re ⟨rfl, Aa, Aa, Aa, Aa, Aa, Aa, Aa, Aa, Aa, trivial⟩
  have W : Stw ⟨Y, [], w0⟩ [(b4, [v2]), (b3, [.int .i64 0]), (b2, [.int .i64 p1]), (b1, [v1, v2])] [r1a, Gs dD1] w := W
  rw [AY] at H
  refine Ab ?_
  refine B3 (cs := [.int .i64 0, .int .i64 0]) F W Aa Pd Aa fun b5 a w F W => ?_
  refine BQ (vs := [.int .i64 x2.2.1, .int .i64 x2.2.2]) (M' := [(b5, [.int .i64 x2.2.1, .int .i64 x2.2.2]), (b4, [v2]), (b3, [.int .i64 0]), (b2, [.int .i64 p1]), (b1, [v1, v2])]) 0 F W Aa Aa Aa O6 Aa Aa Aa Aa Aa fun w W => ?_
  refine Ad (Ac ?_)
  refine ⟨[(b5, [.int .i64 x2.2.1, .int .i64 x2.2.2]), (b4, [v2]), (b3, [.int .i64 0]), (b2, [.int .i64 p1]), (b1, [v1, v2])], [], W, fun w W => ?_⟩
  have W : Stw ⟨Y, [], w0⟩ [(b5, [.int .i64 x2.2.1, .int .i64 x2.2.2]), (b4, [v2]), (b3, [.int .i64 0]), (b2, [.int .i64 p1]), (b1, [v1, v2])] [r1b, Gs dD1] w := W
  refine Ax (Ah (Ab ?_))
  refine ls F W Aa (Af Np Aa Aa Aa T3 F Aa 1 Aa).q fun a w F W => ?_
  refine ls F W Aa (Al (v := Value.int .i64 x2.2.2) 0 F Aa Aa T3 Aa).q fun a w F W => ?_
  refine ls F W Aa (Al (v := Value.int .i64 p1) 3 F Aa Aa T3 Aa).q fun a w F W => ?_
  refine ls F W Aa (B0 F Aa Aa).q fun a w F W => ?_
  refine Ad (Ac ?_)
  refine AA F Aa (fun hb => ?_) fun hb => ?_
  ·
   have H := Ba (BO hb) H
   rw [hb] at F
   clear hb
   refine Ah (Ab ?_)
   refine ls F W Aa (Af Np Aa Aa Aa T3 F Aa 0 Aa).q fun a w F W => ?_
   refine ls F W Aa (Al (v := Value.int .i64 x2.2.1) 0 F Aa Aa T3 Aa).q fun a w F W => ?_
   refine BQ (vs := [.int .i64 x2.2.1]) (M' := [(b5, [.int .i64 x2.2.1, .int .i64 x2.2.2]), (b4, [v2]), (b3, [.int .i64 x2.2.1]), (b2, [.int .i64 p1]), (b1, [v1, v2])]) 2 F W Aa Aa Aa T3 Aa Aa Aa Aa Aa fun w W => ?_
   refine Ad (Ac (AB (AV ?_)))
   refine NE (M := [(b5, [.int .i64 x2.2.1, .int .i64 x2.2.2]), (b4, [v2]), (b3, [.int .i64 x2.2.1]), (b2, [.int .i64 p1]), (b1, [v1, v2])]) (Z := []) W fun w W => ?_
   have W : Stw ⟨Y, [], w0⟩ [(b5, [.int .i64 x2.2.1, .int .i64 x2.2.2]), (b4, [v2]), (b3, [.int .i64 x2.2.1]), (b2, [.int .i64 p1]), (b1, [v1, v2])] [Gs dD1] w := W
   have F := hF2
   refine AB (AV (AO ?_))
   have H := L1 _ H
   have H := A1 H
   subst H
   refine Ko (Z := []) (.inl Aa) F W fun w W => ?_
   have W : Stw ⟨Y, [], w0⟩ [(b5, [.int .i64 x2.2.1, .int .i64 x2.2.2]), (b4, [v2]), (b3, [.int .i64 x2.2.1]), (b2, [.int .i64 p1]), (b1, [v1, v2])] [] w := W
   refine H0 W Aa (I7 2 F Aa Aa T3 Aa) ?_
   exact ⟨rfl, W.done⟩
  have H := A9 (BS hb) H
  rw [hb] at F
  clear hb
  refine As (AP ?_)
  have W := W.frontZ (i := 1) Aa Aa
  have W := W.frontZ (i := 1) Aa Aa
  have W := W.frontM (i := 4) Aa Aa
  have W := W.frontM (i := 4) Aa Aa
  have W := W.frontM (i := 4) Aa Aa
  have W := W.frontM (i := 4) Aa Aa
  have W := W.sub (M' := [(b4, [v2]), (b3, [.int .i64 0]), (b2, [.int .i64 p1]), (b1, [v1, v2])]) (Z' := [r1b, Gs dD1]) (List.Sublist.cons_cons _ (List.Sublist.cons_cons _ (List.Sublist.cons_cons _ (List.Sublist.cons_cons _ (List.nil_sublist _))))) (List.Sublist.refl _)
  exact MQ ⟨_, _, _, H, ⟨rfl, Aa⟩, W⟩
 obtain ⟨rfl, rfl⟩ := hK
 have F : Fr 18 [Mu dD1] [(0, .agg #[v1, v2]), (1, .int .i64 p1), (2, .pointer (some ⟨b1, 0, none⟩)), (3, .pointer (some ⟨b2, 0, none⟩)), (4, .pointer (some ⟨b3, 0, none⟩)), (7, .pointer (some ⟨b1, 1, none⟩)), (8, v2), (9, .func (.func 50) #[] #[.pointer (some ⟨b4, 0, none⟩)])] a := F
 have W : Stw ⟨Y, [], w0⟩ [(b4, [v2]), (b3, [.int .i64 0]), (b2, [.int .i64 p1]), (b1, [v1, v2])] [Gs dD1] w := W
 refine AP (Ac (Ah (Ab ?_)))
 refine BQ (vs := [.int .i64 0]) (M' := [(b4, [v2]), (b3, [.int .i64 0]), (b2, [.int .i64 p1]), (b1, [v1, v2])]) 1 F W Aa Aa Aa T3 Aa Aa Aa Aa Aa fun w W => ?_
 refine Ad (Ac (AB ?_))
 have H := A1 H
 subst H
 refine Ko (Z := []) (.inl Aa) F W fun w W => ?_
 have W : Stw ⟨Y, [], w0⟩ [(b4, [v2]), (b3, [.int .i64 0]), (b2, [.int .i64 p1]), (b1, [v1, v2])] [] w := W
 refine H0 W Aa (I7 1 F Aa Aa T3 Aa) ?_
 exact ⟨rfl, W.done⟩
theorem K9 : type_of% Try.underlying22 := Try.underlying22
theorem DS : type_of% Try.underlying114 := Try.underlying114
theorem Nh : type_of% Try.underlying123 := Try.underlying123
theorem Hi : type_of% Try.underlying126 := Try.underlying126
theorem Pu : Has Try.prog 28 := ⟨fun args w => Aj Try.func28 rfl (by decide) args w⟩
abbrev LD (a : Value × List (Value × List Int)) : List Value := [a.1]
theorem Og : EW (Rp.vsl (Rp.vsl (Rp.int .i64))) LD := EW.vsl
theorem O4 : Ty Try.prog 52 false 1 := ⟨by kernel_rfl, by kernel_rfl⟩
theorem Mt : Ty Try.prog 22 false 1 := ⟨by kernel_rfl, by kernel_rfl⟩
theorem Lv : Ty Try.prog 23 false 1 := ⟨by kernel_rfl, by kernel_rfl⟩
abbrev EX (x : Int × Int) : Value := .agg #[.int .i64 x.1, .int .i64 x.2]
theorem OP : Et Try.prog 22 114 6 48 := Et.of K9 (by kernel_rfl) (by kernel_rfl) (by kernel_rfl) (by decide)
def OT (a : Int × Int × Int × Int × Int × Int) : List Value := [.int .i64 a.1, .int .i64 a.2.1, .int .i64 a.2.2.1, .int .i64 a.2.2.2.1, .int .i64 a.2.2.2.2.1, .int .i64 a.2.2.2.2.2]
theorem NB : Fl D6 OT := (Fl.pair Fl.int (Fl.pair Fl.int (Fl.pair Fl.int (Fl.pair Fl.int (Fl.pair Fl.int Fl.int)))))
theorem LK : Ty Try.prog 114 true 6 := ⟨by kernel_rfl, by kernel_rfl⟩
theorem N8 : (Try.prog.info? 114).bind (·.zero) = some (.agg #[.int .i64 0, .int .i64 0, .int .i64 0, .int .i64 0, .int .i64 0, .int .i64 0]) := by kernel_rfl
theorem Lb : Bt Try.prog 126 [.int .i64 0, .int .i64 0] [(0, 1), (1, 1)] := ⟨⟨.agg #[.int .i64 0, .int .i64 0], by kernel_rfl, rfl⟩, ⟨_, Hi, fun w => by kernel_rfl⟩⟩
theorem MN : (Try.prog.info? 126).bind (·.zero) = some (.agg #[.int .i64 0, .int .i64 0]) := by kernel_rfl
abbrev DH : Rp (Int × Int) := (Rp.pair (Rp.int .i64) (Rp.int .i64))
def OG (a : Int × Int) : List Value := [.int .i64 a.1, .int .i64 a.2]
theorem NR : Fl DH OG := (Fl.pair Fl.int Fl.int)
theorem L5 : Et Try.prog 123 126 2 16 := Et.of Nh (by kernel_rfl) (by kernel_rfl) (by kernel_rfl) (by decide)
theorem Ox : Ty Try.prog 60 true 2 := ⟨by kernel_rfl, by kernel_rfl⟩
noncomputable def Cb (p0 : Int × (List (Int × Int × Int × Int × Int × Int)) × (List (Int × Int))) : ((List (Int × Int)) × Int) → Option (((List (Int × Int)) × Int) ⊕ (List (Int × Int)))
  | (x2, x3) => (if x3 < (p0.2.1.length : Int) then (ix p0.2.1 x3).bind fun x4 => (Fo x2 ([(x4.1, x4.2.1), (x4.2.2.1, x4.2.2.2.1)] : List (Int × Int))).bind fun x5 => some (.inl (x5, DC (x3 + 1))) else some (.inr x2))
noncomputable def B9 (p0 : Int × (List (Int × Int × Int × Int × Int × Int)) × (List (Int × Int))) : ((List (Int × Int)) × Int) → Option (((List (Int × Int)) × Int) ⊕ (List (Int × Int)))
  | (x7, x8) => (if x8 < (p0.2.2.length : Int) then (ix p0.2.2 x8).bind fun x9 => (Fo x7 ([x9] : List (Int × Int))).bind fun x10 => some (.inl (x10, DC (x8 + 1))) else some (.inr x7))
noncomputable def Db (p0 : Int × (List (Int × Int × Int × Int × Int × Int)) × (List (Int × Int))) : Option (List (Int × Int)) := (AF (Cb p0) ([], 0)).bind fun x1 => (AF (B9 p0) (x1, 0)).bind fun x6 => some x6
theorem ID (Y : Nat → Prop) (w0 : World) (v1 : Value) (v2 : Value) (p0 : Int × (List (Int × Int × Int × Int × Int × Int)) × (List (Int × Int))) (r : (List (Int × Int))) (H : Db p0 = some r) (h_v1 : Sl w0 (NX []) D6 v1 p0.2.1) (h_v2 : Sl w0 (NX []) FI v2 p0.2.2) :
    Calls Try.prog 64 #[.agg #[.int .i64 p0.1, v1, v2]] w0 fun e w' => ∃ x : Value, e = .returned (x) ∧ Stw ⟨Y, [], w0⟩ [] [row (x) 126 DH r] w' := by
 refine enter Try.func64 Aa Try.ntmps64 Aa fun a F => ?_
 have W := Stw.start Y w0
 unfold Db at H
 refine Ah (Ab ?_)
 refine Cx (cs := [.int .i64 p0.1, v1, v2]) F W Aa Aa Aa fun b1 a w F W => ?_
 refine ls F W Aa (Ae F Aa).q fun a w F W => ?_
 refine Ad (Ac (Ah (Ab ?_)))
 refine ls F W Aa (Ae F Aa).q fun a w F W => ?_
 refine Ad (Ac ?_)
 obtain ⟨o1, G1, K1⟩ := An H
 refine AR (fun a w => ∃ x1 : List (Int × Int), ∃ v3 : Value, some (x1) = some o1 ∧ Fr 46 [] [(1, .pointer (some ⟨b1, 0, none⟩)), (2, .slice none 0 0), (3, v3)] a ∧ Stw ⟨Y, [], w0⟩ [(b1, [.int .i64 p0.1, v1, v2])] [row v3 126 DH x1] w) ?_ ?_
 ·
  have H := G1
  clear G1 K1
  refine Ah (Ab ?_)
  refine ls F W Aa (Af FM Aa Aa Aa Mt F Aa 1 Aa).q fun a w F W => ?_
  refine ls F W Aa (Al (v := v1) 0 F Aa Aa Mt Aa).q fun a w F W => ?_
  refine ls F W Aa (Bl (r := D6) (l := p0.2.1) K9 Aa F Aa (Ak h_v1)).q fun a w F W => ?_
  refine ls F W Aa (Ag F Aa).q fun a w F W => ?_
  refine Ad (Ac (Ax ?_))
  have W := W.nilRow 126 DH
  refine BZ H (fun s a w => ∃ v4 : Value, Fr 46 [] [(1, .pointer (some ⟨b1, 0, none⟩)), (2, .slice none 0 0), (3, v4), (9, v1), (10, .int .i64 (p0.2.1.length : Int)), (11, .int .i64 s.2)] a ∧ Stw ⟨Y, [], w0⟩ [(b1, [.int .i64 p0.1, v1, v2])] [row v4 126 DH s.1] w) ⟨(Value.slice none 0 0), F.re ⟨rfl, Aa, Aa, Aa, Aa, Aa, trivial⟩, W⟩ fun s o a w H L2 hR => ?_
  obtain ⟨x2, x3⟩ := s
  obtain ⟨v4, F, W⟩ := hR
  have F : Fr 46 [] [(1, .pointer (some ⟨b1, 0, none⟩)), (2, .slice none 0 0), (3, v4), (9, v1), (10, .int .i64 (p0.2.1.length : Int)), (11, .int .i64 x3)] a := F
  have W : Stw ⟨Y, [], w0⟩ [(b1, [.int .i64 p0.1, v1, v2])] [row v4 126 DH x2] w := W
  rw [Cb] at H
  refine Ah (Ab ?_)
  refine ls F W Aa (B0 F Aa Aa).q fun a w F W => ?_
  refine Ad (Ac (Ah ?_))
  refine AA F Aa (fun hb => ?_) fun hb => ?_
  ·
   have H := Ba (BO hb) H
   rw [hb] at F
   clear hb
   refine As (Ac (Ah (Ax (Ah (Ab ?_)))))
   obtain ⟨x4, h1, H⟩ := An H
   refine ls F W Aa (AU (r := D6) OP F Aa Aa (Ak h_v1) h1).q fun a w F W => ?_
   refine ls F W Aa (AC (y := Value.agg #[.int .i64 x4.1, .int .i64 x4.2.1, .int .i64 x4.2.2.1, .int .i64 x4.2.2.2.1, .int .i64 x4.2.2.2.2.1, .int .i64 x4.2.2.2.2.2]) (j := 0) (i := x3) F Aa Aa (Ak h_v1) h1 NB.to LK Aa).q fun a w F W => ?_
   refine B3 (cs := [.int .i64 0, .int .i64 0, .int .i64 0, .int .i64 0, .int .i64 0, .int .i64 0]) F W Aa N8 Aa fun b2 a w F W => ?_
   refine BQ (vs := [.int .i64 x4.1, .int .i64 x4.2.1, .int .i64 x4.2.2.1, .int .i64 x4.2.2.2.1, .int .i64 x4.2.2.2.2.1, .int .i64 x4.2.2.2.2.2]) (M' := [(b2, [.int .i64 x4.1, .int .i64 x4.2.1, .int .i64 x4.2.2.1, .int .i64 x4.2.2.2.1, .int .i64 x4.2.2.2.2.1, .int .i64 x4.2.2.2.2.2]), (b1, [.int .i64 p0.1, v1, v2])]) 0 F W Aa Aa Aa LK Aa Aa Aa Aa Aa fun w W => ?_
   refine Ad (Ac (Ab ?_))
   refine ls F W Aa (Ag F Aa).q fun a w F W => ?_
   refine ls F W Aa (Af DS Aa Aa Aa T3 F Aa 0 Aa).q fun a w F W => ?_
   refine ls F W Aa (Al (v := Value.int .i64 x4.1) 0 F Aa Aa T3 Aa).q fun a w F W => ?_
   refine ls F W Aa (Af DS Aa Aa Aa T3 F Aa 1 Aa).q fun a w F W => ?_
   refine ls F W Aa (Al (v := Value.int .i64 x4.2.1) 0 F Aa Aa T3 Aa).q fun a w F W => ?_
   refine ls F W Aa (Bx (v := Value.agg #[.int .i64 x4.1, .int .i64 x4.2.1]) Lb F Aa Aa Aa).q fun a w F W => ?_
   refine ls F W Aa (Af DS Aa Aa Aa T3 F Aa 2 Aa).q fun a w F W => ?_
   refine ls F W Aa (Al (v := Value.int .i64 x4.2.2.1) 0 F Aa Aa T3 Aa).q fun a w F W => ?_
   refine ls F W Aa (Af DS Aa Aa Aa T3 F Aa 3 Aa).q fun a w F W => ?_
   refine ls F W Aa (Al (v := Value.int .i64 x4.2.2.2.1) 0 F Aa Aa T3 Aa).q fun a w F W => ?_
   refine ls F W Aa (Bx (v := Value.agg #[.int .i64 x4.2.2.1, .int .i64 x4.2.2.2.1]) Lb F Aa Aa Aa).q fun a w F W => ?_
   refine Do (z := Value.agg #[.int .i64 0, .int .i64 0]) (cs := [.int .i64 x4.1, .int .i64 x4.2.1, .int .i64 x4.2.2.1, .int .i64 x4.2.2.2.1]) DH ([(x4.1, x4.2.1), (x4.2.2.1, x4.2.2.2.1)] : List (Int × Int)) F W Aa L5 MN Aa Aa Aa Aa Aa Aa (NR.repL _ _ ([(x4.1, x4.2.1), (x4.2.2.1, x4.2.2.2.1)] : List (Int × Int))) fun v5 a w F W => ?_
   obtain ⟨x5, h2, H⟩ := An H
   refine Cr (r := DH) (i := 1) F W Aa L5 Aa Aa Aa Aa (C5 W 0 Aa) h2 Aa fun v6 a w F W => ?_
   have W : Stw ⟨Y, [], w0⟩ [(b2, [.int .i64 x4.1, .int .i64 x4.2.1, .int .i64 x4.2.2.1, .int .i64 x4.2.2.2.1, .int .i64 x4.2.2.2.2.1, .int .i64 x4.2.2.2.2.2]), (b1, [.int .i64 p0.1, v1, v2])] [row v6 126 DH x5, row v5 126 DH ([(x4.1, x4.2.1), (x4.2.2.1, x4.2.2.2.1)] : List (Int × Int))] w := W
   refine ls F W Aa (Ae F Aa).q fun a w F W => ?_
   refine Ad (AP (Ac (Ab ?_)))
   refine ls F W Aa (Dk F Aa Aa Aa).q fun a w F W => ?_
   refine ls F W Aa (Ag F Aa).q fun a w F W => ?_
   refine Ad (Ac ?_)
   have W := W.frontM (i := 1) Aa Aa
   have W := W.sub (M' := [(b1, [.int .i64 p0.1, v1, v2])]) (Z' := [row v6 126 DH x5]) (List.Sublist.cons_cons _ (List.nil_sublist _)) (List.Sublist.cons_cons _ (List.nil_sublist _))
   exact ⟨_, H, (v6), F.re ⟨rfl, Aa, Aa, Aa, Aa, Aa, trivial⟩, W⟩
  have H := A9 (BS hb) H
  rw [hb] at F
  clear hb
  refine BH ?_
  iterate 2 refine Cj ?_
  refine BI (Ac ?_)
  have H := L2 _ H
  exact ⟨_, (v4), H, F.re ⟨rfl, Aa, Aa, trivial⟩, W⟩
 rintro a w ⟨x1, v3, hj, F, W⟩
 have hj := A1 hj
 subst hj
 have H := K1
 clear G1 K1
 obtain ⟨o3, G3, K3⟩ := An H
 refine AR (fun a w => ∃ x6 : List (Int × Int), ∃ v7 : Value, some (x6) = some o3 ∧ Fr 46 [] [(2, .slice none 0 0), (3, v7)] a ∧ Stw ⟨Y, [], w0⟩ [(b1, [.int .i64 p0.1, v1, v2])] [row v7 126 DH x6] w) ?_ ?_
 ·
  have H := G3
  clear G3 K3
  refine Ah (Ab ?_)
  refine ls F W Aa (Af FM Aa Aa Aa Lv F Aa 2 Aa).q fun a w F W => ?_
  refine ls F W Aa (Al (v := v2) 0 F Aa Aa Lv Aa).q fun a w F W => ?_
  refine ls F W Aa (Bl (r := FI) (l := p0.2.2) J9 Aa F Aa (Ak h_v2)).q fun a w F W => ?_
  refine ls F W Aa (Ag F Aa).q fun a w F W => ?_
  refine Ad (Ac (Ax ?_))
  refine BZ H (fun s a w => ∃ v8 : Value, Fr 46 [] [(2, .slice none 0 0), (3, v8), (30, v2), (31, .int .i64 (p0.2.2.length : Int)), (32, .int .i64 s.2)] a ∧ Stw ⟨Y, [], w0⟩ [(b1, [.int .i64 p0.1, v1, v2])] [row v8 126 DH s.1] w) ⟨(v3), F.re ⟨rfl, Aa, Aa, Aa, Aa, trivial⟩, W⟩ fun s o a w H L4 hR => ?_
  obtain ⟨x7, x8⟩ := s
  obtain ⟨v8, F, W⟩ := hR
  have F : Fr 46 [] [(2, .slice none 0 0), (3, v8), (30, v2), (31, .int .i64 (p0.2.2.length : Int)), (32, .int .i64 x8)] a := F
  have W : Stw ⟨Y, [], w0⟩ [(b1, [.int .i64 p0.1, v1, v2])] [row v8 126 DH x7] w := W
  rw [B9] at H
  refine Ah (Ab ?_)
  refine ls F W Aa (B0 F Aa Aa).q fun a w F W => ?_
  refine Ad (Ac (Ah ?_))
  refine AA F Aa (fun hb => ?_) fun hb => ?_
  ·
   have H := Ba (BO hb) H
   rw [hb] at F
   clear hb
   refine As (Ac (Ah (Ax (Ah (Ab ?_)))))
   obtain ⟨x9, h3, H⟩ := An H
   refine ls F W Aa (AU (r := FI) OE F Aa Aa (Ak h_v2) h3).q fun a w F W => ?_
   refine ls F W Aa (AC (y := Value.agg #[.int .i64 x9.1, .int .i64 x9.2]) (j := 0) (i := x8) F Aa Aa (Ak h_v2) h3 OI.to Ox Aa).q fun a w F W => ?_
   refine B3 (cs := [.int .i64 0, .int .i64 0]) F W Aa O3 Aa fun b3 a w F W => ?_
   refine BQ (vs := [.int .i64 x9.1, .int .i64 x9.2]) (M' := [(b3, [.int .i64 x9.1, .int .i64 x9.2]), (b1, [.int .i64 p0.1, v1, v2])]) 0 F W Aa Aa Aa Ox Aa Aa Aa Aa Aa fun w W => ?_
   refine Ad (Ac (Ab ?_))
   refine ls F W Aa (Ag F Aa).q fun a w F W => ?_
   refine ls F W Aa (Af MF Aa Aa Aa T3 F Aa 0 Aa).q fun a w F W => ?_
   refine ls F W Aa (Al (v := Value.int .i64 x9.1) 0 F Aa Aa T3 Aa).q fun a w F W => ?_
   refine ls F W Aa (Af MF Aa Aa Aa T3 F Aa 1 Aa).q fun a w F W => ?_
   refine ls F W Aa (Al (v := Value.int .i64 x9.2) 0 F Aa Aa T3 Aa).q fun a w F W => ?_
   refine ls F W Aa (Bx (v := Value.agg #[.int .i64 x9.1, .int .i64 x9.2]) Lb F Aa Aa Aa).q fun a w F W => ?_
   refine Do (z := Value.agg #[.int .i64 0, .int .i64 0]) (cs := [.int .i64 x9.1, .int .i64 x9.2]) DH ([x9] : List (Int × Int)) F W Aa L5 MN Aa Aa Aa Aa Aa Aa (NR.repL _ _ ([x9] : List (Int × Int))) fun v9 a w F W => ?_
   obtain ⟨x10, h4, H⟩ := An H
   refine Cr (r := DH) (i := 1) F W Aa L5 Aa Aa Aa Aa (C5 W 0 Aa) h4 Aa fun v10 a w F W => ?_
   have W : Stw ⟨Y, [], w0⟩ [(b3, [.int .i64 x9.1, .int .i64 x9.2]), (b1, [.int .i64 p0.1, v1, v2])] [row v10 126 DH x10, row v9 126 DH ([x9] : List (Int × Int))] w := W
   refine ls F W Aa (Ae F Aa).q fun a w F W => ?_
   refine Ad (AP (Ac (Ab ?_)))
   refine ls F W Aa (Dk F Aa Aa Aa).q fun a w F W => ?_
   refine ls F W Aa (Ag F Aa).q fun a w F W => ?_
   refine Ad (Ac ?_)
   have W := W.frontM (i := 1) Aa Aa
   have W := W.sub (M' := [(b1, [.int .i64 p0.1, v1, v2])]) (Z' := [row v10 126 DH x10]) (List.Sublist.cons_cons _ (List.nil_sublist _)) (List.Sublist.cons_cons _ (List.nil_sublist _))
   exact ⟨_, H, (v10), F.re ⟨rfl, Aa, Aa, Aa, Aa, trivial⟩, W⟩
  have H := A9 (BS hb) H
  rw [hb] at F
  clear hb
  refine BH ?_
  iterate 2 refine Cj ?_
  refine BI (Ac ?_)
  have H := L4 _ H
  exact ⟨_, (v8), H, F.re ⟨rfl, Aa, trivial⟩, W⟩
 rintro a w ⟨x6, v7, hj, F, W⟩
 have hj := A1 hj
 subst hj
 have H := K3
 clear G3 K3
 refine Ah (Ab ?_)
 refine ls F W Aa (Ag F Aa).q fun a w F W => ?_
 refine ls F W Aa (Ae F Aa).q fun a w F W => ?_
 refine Ad (Ac (AB ?_))
 have H := A1 H
 subst H
 refine Be (.inl Aa) F W Aa (Aw F Aa) ?_
 have W := W.sub (M' := []) (Z' := [row v7 126 DH x6]) (List.nil_sublist _) (List.Sublist.refl _)
 exact ⟨(v7), Aa, W⟩
theorem P3 : Has Try.prog 64 := ⟨fun args w => Aj Try.func64 rfl (by decide) args w⟩
theorem J5 : Ty Try.prog 126 true 2 := ⟨by kernel_rfl, by kernel_rfl⟩
theorem N4 (dd : Nat) (x0 : Int) (x1 : Int) (y0 : Int) (y1 : Int) (w : World) : (Op.equalIn (dd + 2) 126 (.agg #[.int .i64 x0, .int .i64 x1]) (.agg #[.int .i64 y0, .int .i64 y1])).run Try.prog w = .ok (decide (x0 = y0 ∧ x1 = y1)) w :=
  GU (d := dd + 1) (rs := [decide (x0 = y0), decide (x1 = y1)]) Hi (by kernel_rfl) ⟨rfl, F6 (d := dd + 0) rfl rfl MS T3 rfl rfl, rfl, F6 (d := dd + 0) rfl rfl MS T3 rfl rfl, trivial⟩ (by simp) w
theorem Oa : Try.prog.eqGuardType Try.prog.depth 126 = false := by kernel_rfl
theorem NC (x0 : Int) (x1 : Int) (y0 : Int) (y1 : Int) (w : World) : (Op.equalIn 10000 126 (.agg #[.int .i64 x0, .int .i64 x1]) (.agg #[.int .i64 y0, .int .i64 y1])).run Try.prog w = .ok (decide (x0 = y0 ∧ x1 = y1)) w := N4 9998 x0 x1 y0 y1 w
theorem Nm : KeyEnc Try.prog 126 EX := ⟨⟨_, Hi, .inl fun _ _ => rfl⟩, fun x y w => (NC x.1 x.2 y.1 y.2 w).trans (by congr 1; exact decide_eq_decide.2 (by simp only [Prod.ext_iff])), fun b x w => Hx (m := 9999) (cs := List.toArray [.int .i64 x.1, .int .i64 x.2]) Hi ⟨⟨_, JO T3 rfl, Ft (m := 9998) MS⟩, ⟨_, JO T3 rfl, Ft (m := 9998) MS⟩, trivial⟩ b w, fun x => by simp [Instr.sameBits]⟩
theorem Ok : (Try.prog.info? 101).bind (·.zero) = some (.agg #[]) := by kernel_rfl
theorem OS : Ty Try.prog 101 true 0 := ⟨by kernel_rfl, by kernel_rfl⟩
def Bc (p0 : Int × Int × Int × Int × Int × Int) : Bool := (decide (p0.1 = p0.2.2.1) || (decide (p0.2.2.2.2.1 < 1) || (decide (p0.2.2.2.2.2 < p0.2.2.2.2.1) || decide (1000 < p0.2.2.2.2.2))))
theorem Hb (Y : Nat → Prop) (w0 : World)  (p0 : Int × Int × Int × Int × Int × Int) (r : Bool) (H : Bc p0 = r)  :
    Calls Try.prog 66 #[.agg #[.int .i64 p0.1, .int .i64 p0.2.1, .int .i64 p0.2.2.1, .int .i64 p0.2.2.2.1, .int .i64 p0.2.2.2.2.1, .int .i64 p0.2.2.2.2.2]] w0 fun e w' => e = .returned (.bool r) ∧ Below w0.heap.size w0 w' := by
 refine enter Try.func66 Aa Try.ntmps66 Aa fun a F => ?_
 have W := Stw.start Y w0
 unfold Bc at H
 refine Ah (Ab ?_)
 refine Cx (cs := [.int .i64 p0.1, .int .i64 p0.2.1, .int .i64 p0.2.2.1, .int .i64 p0.2.2.2.1, .int .i64 p0.2.2.2.2.1, .int .i64 p0.2.2.2.2.2]) F W Aa Aa Aa fun b1 a w F W => ?_
 refine ls F W Aa (Ae F Aa).q fun a w F W => ?_
 refine Ad (Ac ?_)
 refine AR (fun a w => Fr 25 [] [(2, .bool (decide (p0.1 = p0.2.2.1) || (decide (p0.2.2.2.2.1 < 1) || (decide (p0.2.2.2.2.2 < p0.2.2.2.2.1) || decide (1000 < p0.2.2.2.2.2)))))] a ∧ Stw ⟨Y, [], w0⟩ [(b1, [.int .i64 p0.1, .int .i64 p0.2.1, .int .i64 p0.2.2.1, .int .i64 p0.2.2.2.1, .int .i64 p0.2.2.2.2.1, .int .i64 p0.2.2.2.2.2])] [] w) ?_ ?_
 ·
  refine Ab ?_
  refine ls F W Aa (Af DS Aa Aa Aa T3 F Aa 0 Aa).q fun a w F W => ?_
  refine ls F W Aa (Al (v := Value.int .i64 p0.1) 0 F Aa Aa T3 Aa).q fun a w F W => ?_
  refine ls F W Aa (Af DS Aa Aa Aa T3 F Aa 2 Aa).q fun a w F W => ?_
  refine ls F W Aa (Al (v := Value.int .i64 p0.2.2.1) 0 F Aa Aa T3 Aa).q fun a w F W => ?_
  refine ls F W Aa (C9 F Aa Aa).q fun a w F W => ?_
  refine ls F W Aa (Ag F Aa).q fun a w F W => ?_
  rcases Bool.eq_false_or_eq_true (decide (p0.1 = p0.2.2.1)) with hb0 | hb0
  ·
   rw [hb0] at F
   iterate 3 refine DU F Aa Aa Aa Aa Aa Aa Aa fun a F => ?_
   refine ls F W Aa (Ay F Aa Aa Aa).q fun a w F W => ?_
   refine ls F W Aa (Ag F Aa).q fun a w F W => ?_
   iterate 5 refine DU F Aa Aa Aa Aa Aa Aa Aa fun a F => ?_
   refine ls F W Aa (Ay F Aa Aa Aa).q fun a w F W => ?_
   refine ls F W Aa (Ag F Aa).q fun a w F W => ?_
   iterate 3 refine DU F Aa Aa Aa Aa Aa Aa Aa fun a F => ?_
   refine ls F W Aa (Ay F Aa Aa Aa).q fun a w F W => ?_
   refine ls F W Aa (Ae F Aa).q fun a w F W => ?_
   refine Ad (Ac ?_)
   exact ⟨F.re ⟨(by show some (Value.bool true) = some (Value.bool (decide (p0.1 = p0.2.2.1) || (decide (p0.2.2.2.2.1 < 1) || (decide (p0.2.2.2.2.2 < p0.2.2.2.2.1) || decide (1000 < p0.2.2.2.2.2))))); try rw [hb0]; all_goals simp only [Bool.not_true, Bool.not_false, Bool.true_and, Bool.false_and, Bool.true_or, Bool.false_or, Bool.and_true, Bool.or_false, cond_true, cond_false]), trivial⟩, W⟩
  rw [hb0] at F
  refine AM F W (Ai F Aa Aa Aa Aa) Aa (Ao Aa) (Af DS Aa Aa Aa T3 F Aa 4 Aa).q fun a w F W => ?_
  refine AM F W (Ai F Aa Aa Aa Aa) Aa (Ao Aa) (Al (v := Value.int .i64 p0.2.2.2.2.1) 0 F Aa Aa T3 Aa).q fun a w F W => ?_
  refine AM F W (Ai F Aa Aa Aa Aa) Aa (Ao Aa) (B0 F Aa Aa).q fun a w F W => ?_
  refine ls F W Aa (AL F Aa Aa Aa).q fun a w F W => ?_
  refine ls F W Aa (Ag F Aa).q fun a w F W => ?_
  rcases Bool.eq_false_or_eq_true (decide (p0.2.2.2.2.1 < 1)) with hb1 | hb1
  ·
   rw [hb1] at F
   iterate 5 refine DU F Aa Aa Aa Aa Aa Aa Aa fun a F => ?_
   refine ls F W Aa (Ay F Aa Aa Aa).q fun a w F W => ?_
   refine ls F W Aa (Ag F Aa).q fun a w F W => ?_
   iterate 3 refine DU F Aa Aa Aa Aa Aa Aa Aa fun a F => ?_
   refine ls F W Aa (Ay F Aa Aa Aa).q fun a w F W => ?_
   refine ls F W Aa (Ae F Aa).q fun a w F W => ?_
   refine Ad (Ac ?_)
   exact ⟨F.re ⟨(by show some (Value.bool true) = some (Value.bool (decide (p0.1 = p0.2.2.1) || (decide (p0.2.2.2.2.1 < 1) || (decide (p0.2.2.2.2.2 < p0.2.2.2.2.1) || decide (1000 < p0.2.2.2.2.2))))); try rw [hb1]; try rw [hb0]; all_goals simp only [Bool.not_true, Bool.not_false, Bool.true_and, Bool.false_and, Bool.true_or, Bool.false_or, Bool.and_true, Bool.or_false, cond_true, cond_false]), trivial⟩, W⟩
  rw [hb1] at F
  refine AM F W (Ai F Aa Aa Aa Aa) Aa (Ao Aa) (Af DS Aa Aa Aa T3 F Aa 5 Aa).q fun a w F W => ?_
  refine AM F W (Ai F Aa Aa Aa Aa) Aa (Ao Aa) (Al (v := Value.int .i64 p0.2.2.2.2.2) 0 F Aa Aa T3 Aa).q fun a w F W => ?_
  refine AM F W (Ai F Aa Aa Aa Aa) Aa (Ao Aa) (Af DS Aa Aa Aa T3 F Aa 4 Aa).q fun a w F W => ?_
  refine AM F W (Ai F Aa Aa Aa Aa) Aa (Ao Aa) (Al (v := Value.int .i64 p0.2.2.2.2.1) 0 F Aa Aa T3 Aa).q fun a w F W => ?_
  refine AM F W (Ai F Aa Aa Aa Aa) Aa (Ao Aa) (B0 F Aa Aa).q fun a w F W => ?_
  refine ls F W Aa (AL F Aa Aa Aa).q fun a w F W => ?_
  refine ls F W Aa (Ag F Aa).q fun a w F W => ?_
  rcases Bool.eq_false_or_eq_true (decide (p0.2.2.2.2.2 < p0.2.2.2.2.1)) with hb2 | hb2
  ·
   rw [hb2] at F
   iterate 3 refine DU F Aa Aa Aa Aa Aa Aa Aa fun a F => ?_
   refine ls F W Aa (Ay F Aa Aa Aa).q fun a w F W => ?_
   refine ls F W Aa (Ae F Aa).q fun a w F W => ?_
   refine Ad (Ac ?_)
   exact ⟨F.re ⟨(by show some (Value.bool true) = some (Value.bool (decide (p0.1 = p0.2.2.1) || (decide (p0.2.2.2.2.1 < 1) || (decide (p0.2.2.2.2.2 < p0.2.2.2.2.1) || decide (1000 < p0.2.2.2.2.2))))); try rw [hb2]; try rw [hb1]; try rw [hb0]; all_goals simp only [Bool.not_true, Bool.not_false, Bool.true_and, Bool.false_and, Bool.true_or, Bool.false_or, Bool.and_true, Bool.or_false, cond_true, cond_false]), trivial⟩, W⟩
  rw [hb2] at F
  refine AM F W (Ai F Aa Aa Aa Aa) Aa (Ao Aa) (Af DS Aa Aa Aa T3 F Aa 5 Aa).q fun a w F W => ?_
  refine AM F W (Ai F Aa Aa Aa Aa) Aa (Ao Aa) (Al (v := Value.int .i64 p0.2.2.2.2.2) 0 F Aa Aa T3 Aa).q fun a w F W => ?_
  refine AM F W (Ai F Aa Aa Aa Aa) Aa (Ao Aa) (FX F Aa Aa).q fun a w F W => ?_
  refine ls F W Aa (AL F Aa Aa Aa).q fun a w F W => ?_
  refine ls F W Aa (Ae F Aa).q fun a w F W => ?_
  refine Ad (Ac ?_)
  exact ⟨F.re ⟨(by show some (Value.bool (decide (1000 < p0.2.2.2.2.2))) = some (Value.bool (decide (p0.1 = p0.2.2.1) || (decide (p0.2.2.2.2.1 < 1) || (decide (p0.2.2.2.2.2 < p0.2.2.2.2.1) || decide (1000 < p0.2.2.2.2.2))))); try rw [hb2]; try rw [hb1]; try rw [hb0]; all_goals simp only [Bool.not_true, Bool.not_false, Bool.true_and, Bool.false_and, Bool.true_or, Bool.false_or, Bool.and_true, Bool.or_false, cond_true, cond_false]), trivial⟩, W⟩
 rintro a w ⟨F, W⟩
 refine AB ?_
 subst H
 refine Be (.inl Aa) F W Aa (Aw F Aa) ?_
 exact ⟨rfl, W.done⟩
theorem Qf : Has Try.prog 66 := ⟨fun args w => Aj Try.func66 rfl (by decide) args w⟩
noncomputable def Aq (p0 : List (Int × Int × Int × Int × Int × Int)) : Int → Option (Int ⊕ (Unit ⊕ Int))
  | x1 => (if x1 < (p0.length : Int) then (ix p0 x1).bind fun x2 => (if (Bc x2) = true then some (.inr (.inr x1)) else some (.inl (DC (x1 + 1)))) else some (.inr (.inl ())))
noncomputable def AQ (p0 : List (Int × Int × Int × Int × Int × Int)) : Option Int := DQ (AF (Aq p0) 0) fun _ => some (-1)
theorem Dl (Y : Nat → Prop) (w0 : World) (v1 : Value) (p0 : List (Int × Int × Int × Int × Int × Int)) (r : Int) (H : AQ p0 = some r) (h_v1 : Sl w0 (NX []) D6 v1 p0) :
    Calls Try.prog 70 #[v1, .func (.func 66) #[] #[]] w0 fun e w' => e = .returned (.int .i64 r) ∧ Below w0.heap.size w0 w' := by
 refine enter Try.func70 Aa Try.ntmps70 Aa fun a F => ?_
 have W := Stw.start Y w0
 unfold AQ at H
 refine Ah (Ab ?_)
 refine ls F W Aa (Ae F Aa).q fun a w F W => ?_
 refine Ad (Ac ?_)
 obtain ⟨o1, G1, K1, L1⟩ := KM H
 refine AR (fun a w => some (Sum.inl ()) = some o1 ∧ Fr 19 [] [(4, .int .i64 0)] a ∧ Stw ⟨Y, [], w0⟩ [] [] w) ?_ ?_
 ·
  have H := G1
  clear G1 K1
  refine Ah (Ab ?_)
  refine ls F W Aa (Ag F Aa).q fun a w F W => ?_
  refine ls F W Aa (Bl (r := D6) (l := p0) K9 Aa F Aa (Ak h_v1)).q fun a w F W => ?_
  refine ls F W Aa (Ag F Aa).q fun a w F W => ?_
  refine Ad (Ac (Ax ?_))
  refine BZ H (fun s a w => Fr 19 [] [(0, v1), (1, .func (.func 66) #[] #[]), (4, .int .i64 0), (7, .int .i64 (p0.length : Int)), (8, .int .i64 s)] a ∧ Stw ⟨Y, [], w0⟩ [] [] w) ⟨F.re ⟨rfl, Aa, Aa, Aa, Aa, trivial⟩, W⟩ fun s o a w H L2 hR => ?_
  obtain ⟨x1, rfl⟩ : ∃ x, x = s := ⟨s, rfl⟩
  obtain ⟨F, W⟩ := hR
  have F : Fr 19 [] [(0, v1), (1, .func (.func 66) #[] #[]), (4, .int .i64 0), (7, .int .i64 (p0.length : Int)), (8, .int .i64 x1)] a := F
  have W : Stw ⟨Y, [], w0⟩ [] [] w := W
  rw [Aq] at H
  refine Ah (Ab ?_)
  refine ls F W Aa (B0 F Aa Aa).q fun a w F W => ?_
  refine Ad (Ac (Ah ?_))
  refine AA F Aa (fun hb => ?_) fun hb => ?_
  ·
   have H := Ba (BO hb) H
   rw [hb] at F
   clear hb
   refine As (Ac (Ah (Ax (Ah (Ab ?_)))))
   refine ls F W Aa (Ag F Aa).q fun a w F W => ?_
   refine ls F W Aa (Ae F Aa).q fun a w F W => ?_
   refine Ad (Ac (Ah (Ab ?_)))
   iterate 3 refine ls F W Aa (Ag F Aa).q fun a w F W => ?_
   obtain ⟨x2, h1, H⟩ := An H
   refine ls F W Aa (AU (r := D6) OP F Aa Aa (Ak h_v1) h1).q fun a w F W => ?_
   refine ls F W Aa (AC (y := Value.agg #[.int .i64 x2.1, .int .i64 x2.2.1, .int .i64 x2.2.2.1, .int .i64 x2.2.2.2.1, .int .i64 x2.2.2.2.2.1, .int .i64 x2.2.2.2.2.2]) (j := 0) (i := x1) F Aa Aa (Ak h_v1) h1 NB.to LK Aa).q fun a w F W => ?_
   refine ls F W Aa (I4 (ws := [.agg #[.int .i64 x2.1, .int .i64 x2.2.1, .int .i64 x2.2.2.1, .int .i64 x2.2.2.2.1, .int .i64 x2.2.2.2.2.1, .int .i64 x2.2.2.2.2.2]]) (v := Value.bool (Bc x2)) F Qf Aa (fun w W => Hb any w x2 _ Aa)) fun a w F W => ?_
   refine Ad (Ac ?_)
   refine AA F Aa (fun hb => ?_) fun hb => ?_
   ·
    have H := Ba hb H
    rw [hb] at F
    clear hb
    refine Ah (Ab ?_)
    refine ls F W Aa (Ag F Aa).q fun a w F W => ?_
    refine ls F W Aa (Ae F Aa).q fun a w F W => ?_
    refine Ad (Ac (AB (AV ?_)))
    iterate 2 refine AO ?_
    refine AV (AO ?_)
    have H := L2 _ H
    have H := L1 _ H
    have H := A1 H
    subst H
    refine Be (.inl Aa) F W Aa (Aw F Aa) ?_
    exact ⟨rfl, W.done⟩
   have H := A9 (by rw [hb]; decide) H
   rw [hb] at F
   clear hb
   refine As (AP (Ac (Ab ?_)))
   refine ls F W Aa (Dk F Aa Aa Aa).q fun a w F W => ?_
   refine ls F W Aa (Ag F Aa).q fun a w F W => ?_
   refine Ad (Ac ?_)
   exact ⟨_, H, F.re ⟨rfl, Aa, Aa, Aa, Aa, trivial⟩, W⟩
  have H := A9 (BS hb) H
  rw [hb] at F
  clear hb
  refine BH ?_
  iterate 2 refine Cj ?_
  refine BI (Ac ?_)
  have H := L2 _ H
  exact ⟨H, F.re ⟨rfl, trivial⟩, W⟩
 rintro a w ⟨hj, F, W⟩
 have H := K1 _ hj
 clear hj G1 K1 L1
 refine Ah (Ab ?_)
 refine ls F W Aa (Ae F Aa).q fun a w F W => ?_
 refine Ad (Ac (AB ?_))
 have H := A1 H
 subst H
 refine Be (.inl Aa) F W Aa (Aw F Aa) ?_
 exact ⟨rfl, W.done⟩
theorem Qb : Has Try.prog 70 := ⟨fun args w => Aj Try.func70 rfl (by decide) args w⟩
noncomputable def AE (p0 : List (Int × Int × Int × Int × Int × Int)) : Option Bool := (AQ p0).bind fun x1 => some (decide (0 ≤ x1))
theorem C7 (Y : Nat → Prop) (w0 : World) (v1 : Value) (p0 : List (Int × Int × Int × Int × Int × Int)) (r : Bool) (H : AE p0 = some r) (h_v1 : Sl w0 (NX []) D6 v1 p0) :
    Calls Try.prog 65 #[v1, .func (.func 66) #[] #[]] w0 fun e w' => e = .returned (.bool r) ∧ Below w0.heap.size w0 w' := by
 refine enter Try.func65 Aa Try.ntmps65 Aa fun a F => ?_
 have W := Stw.start Y w0
 unfold AE at H
 refine Ah (Ab ?_)
 refine ls F W Aa (Ae F Aa).q fun a w F W => ?_
 refine Ad (Ac (Ah (Ab ?_)))
 iterate 2 refine ls F W Aa (Ag F Aa).q fun a w F W => ?_
 obtain ⟨x1, h1, H⟩ := An H
 refine ls F W Aa (Ch (v := Value.int .i64 x1) F Qb Aa (fun w W => Dl any w (v1) p0 _ h1 (((Ak h_v1) : DV _ _ _ _ _ _) w W).nx)) fun a w F W => ?_
 refine ls F W Aa (E0 F Aa Aa).q fun a w F W => ?_
 refine ls F W Aa (Ae F Aa).q fun a w F W => ?_
 refine Ad (Ac (AB ?_))
 have H := A1 H
 subst H
 refine Be (.inl Aa) F W Aa (Aw F Aa) ?_
 exact ⟨rfl, W.done⟩
theorem Ng : type_of% Try.underlying122 := Try.underlying122
theorem P0 : Has Try.prog 65 := ⟨fun args w => Aj Try.func65 rfl (by decide) args w⟩
noncomputable def BF (p0 : Int × (List (Int × Int × Int × Int × Int × Int)) × (List (Int × Int))) (x2 : (List (Int × Int))) : (Int × (List ((Int × Int) × Unit))) → Option ((Int × (List ((Int × Int) × Unit))) ⊕ ((List ((Int × Int) × Unit)) ⊕ Bool))
  | (x3, x4) => (if x3 < (x2.length : Int) then (ix x2 x3).bind fun x5 => (if (decide (x5.1 < 0) || (decide (p0.1 ≤ x5.1) || (decide (x5.2 < 0) || decide (8 ≤ x5.2)))) = true then some (.inr (.inr false)) else (if ((Cy x4 x5).isSome) = true then some (.inr (.inr false)) else some (.inl (DC (x3 + 1), CP x4 x5 ())))) else some (.inr (.inl x4)))
noncomputable def Dz (p0 : Int × (List (Int × Int × Int × Int × Int × Int)) × (List (Int × Int))) : Option Bool := (if (decide (p0.1 < 1) || (decide (8 < p0.1) || (decide (24 < (p0.2.1.length : Int)) || decide (8 < (p0.2.2.length : Int))))) = true then some false else DQ ((Db p0).bind fun x2 => AF (BF p0 x2) (0, ([] : List ((Int × Int) × Unit)))) fun x1 => (AE p0.2.1).bind fun x6 => some (!x6))
theorem Jh (Y : Nat → Prop) (w0 : World) (v1 : Value) (v2 : Value) (p0 : Int × (List (Int × Int × Int × Int × Int × Int)) × (List (Int × Int))) (r : Bool) (H : Dz p0 = some r) (h_v1 : Sl w0 (NX []) D6 v1 p0.2.1) (h_v2 : Sl w0 (NX []) FI v2 p0.2.2) :
    Calls Try.prog 58 #[.agg #[.int .i64 p0.1, v1, v2]] w0 fun e w' => e = .returned (.bool r) ∧ Below w0.heap.size w0 w' := by
 refine enter Try.func58 Aa Try.ntmps58 Aa fun a F => ?_
 have W := Stw.start Y w0
 unfold Dz at H
 refine Ah (Ab ?_)
 refine Cx (cs := [.int .i64 p0.1, v1, v2]) F W Aa Aa Aa fun b1 a w F W => ?_
 refine ls F W Aa (Ae F Aa).q fun a w F W => ?_
 refine Ad (Ac (Ah ?_))
 refine AR (fun a w => Fr 71 [] [(1, .pointer (some ⟨b1, 0, none⟩)), (2, .bool false), (27, .bool (decide (p0.1 < 1) || (decide (8 < p0.1) || (decide (24 < (p0.2.1.length : Int)) || decide (8 < (p0.2.2.length : Int))))))] a ∧ Stw ⟨Y, [], w0⟩ [(b1, [.int .i64 p0.1, v1, v2])] [] w) ?_ ?_
 ·
  refine Ab ?_
  refine ls F W Aa (Af FM Aa Aa Aa T3 F Aa 0 Aa).q fun a w F W => ?_
  refine ls F W Aa (Al (v := Value.int .i64 p0.1) 0 F Aa Aa T3 Aa).q fun a w F W => ?_
  refine ls F W Aa (B0 F Aa Aa).q fun a w F W => ?_
  refine ls F W Aa (Ag F Aa).q fun a w F W => ?_
  rcases Bool.eq_false_or_eq_true (decide (p0.1 < 1)) with hb0 | hb0
  ·
   rw [hb0] at F
   iterate 3 refine DU F Aa Aa Aa Aa Aa Aa Aa fun a F => ?_
   refine ls F W Aa (Ay F Aa Aa Aa).q fun a w F W => ?_
   refine ls F W Aa (Ag F Aa).q fun a w F W => ?_
   iterate 4 refine DU F Aa Aa Aa Aa Aa Aa Aa fun a F => ?_
   refine ls F W Aa (Ay F Aa Aa Aa).q fun a w F W => ?_
   refine ls F W Aa (Ag F Aa).q fun a w F W => ?_
   iterate 4 refine DU F Aa Aa Aa Aa Aa Aa Aa fun a F => ?_
   refine ls F W Aa (Ay F Aa Aa Aa).q fun a w F W => ?_
   refine Ad (Ac ?_)
   exact ⟨F.re ⟨rfl, Aa, (by show some (Value.bool true) = some (Value.bool (decide (p0.1 < 1) || (decide (8 < p0.1) || (decide (24 < (p0.2.1.length : Int)) || decide (8 < (p0.2.2.length : Int)))))); try rw [hb0]; all_goals simp only [Bool.not_true, Bool.not_false, Bool.true_and, Bool.false_and, Bool.true_or, Bool.false_or, Bool.and_true, Bool.or_false, cond_true, cond_false]), trivial⟩, W⟩
  rw [hb0] at F
  refine AM F W (Ai F Aa Aa Aa Aa) Aa (Ao Aa) (Af FM Aa Aa Aa T3 F Aa 0 Aa).q fun a w F W => ?_
  refine AM F W (Ai F Aa Aa Aa Aa) Aa (Ao Aa) (Al (v := Value.int .i64 p0.1) 0 F Aa Aa T3 Aa).q fun a w F W => ?_
  refine AM F W (Ai F Aa Aa Aa Aa) Aa (Ao Aa) (FX F Aa Aa).q fun a w F W => ?_
  refine ls F W Aa (AL F Aa Aa Aa).q fun a w F W => ?_
  refine ls F W Aa (Ag F Aa).q fun a w F W => ?_
  rcases Bool.eq_false_or_eq_true (decide (8 < p0.1)) with hb1 | hb1
  ·
   rw [hb1] at F
   iterate 4 refine DU F Aa Aa Aa Aa Aa Aa Aa fun a F => ?_
   refine ls F W Aa (Ay F Aa Aa Aa).q fun a w F W => ?_
   refine ls F W Aa (Ag F Aa).q fun a w F W => ?_
   iterate 4 refine DU F Aa Aa Aa Aa Aa Aa Aa fun a F => ?_
   refine ls F W Aa (Ay F Aa Aa Aa).q fun a w F W => ?_
   refine Ad (Ac ?_)
   exact ⟨F.re ⟨rfl, Aa, (by show some (Value.bool true) = some (Value.bool (decide (p0.1 < 1) || (decide (8 < p0.1) || (decide (24 < (p0.2.1.length : Int)) || decide (8 < (p0.2.2.length : Int)))))); try rw [hb0]; try rw [hb1]; all_goals simp only [Bool.not_true, Bool.not_false, Bool.true_and, Bool.false_and, Bool.true_or, Bool.false_or, Bool.and_true, Bool.or_false, cond_true, cond_false]), trivial⟩, W⟩
  rw [hb1] at F
  refine AM F W (Ai F Aa Aa Aa Aa) Aa (Ao Aa) (Af FM Aa Aa Aa Mt F Aa 1 Aa).q fun a w F W => ?_
  refine AM F W (Ai F Aa Aa Aa Aa) Aa (Ao Aa) (Al (v := v1) 0 F Aa Aa Mt Aa).q fun a w F W => ?_
  refine AM F W (Ai F Aa Aa Aa Aa) Aa (Ao Aa) (Bl (r := D6) (l := p0.2.1) K9 Aa F Aa (Ak h_v1)).q fun a w F W => ?_
  refine AM F W (Ai F Aa Aa Aa Aa) Aa (Ao Aa) (FX F Aa Aa).q fun a w F W => ?_
  refine ls F W Aa (AL F Aa Aa Aa).q fun a w F W => ?_
  refine ls F W Aa (Ag F Aa).q fun a w F W => ?_
  rcases Bool.eq_false_or_eq_true (decide (24 < (p0.2.1.length : Int))) with hb2 | hb2
  ·
   rw [hb2] at F
   iterate 4 refine DU F Aa Aa Aa Aa Aa Aa Aa fun a F => ?_
   refine ls F W Aa (Ay F Aa Aa Aa).q fun a w F W => ?_
   refine Ad (Ac ?_)
   exact ⟨F.re ⟨rfl, Aa, (by show some (Value.bool true) = some (Value.bool (decide (p0.1 < 1) || (decide (8 < p0.1) || (decide (24 < (p0.2.1.length : Int)) || decide (8 < (p0.2.2.length : Int)))))); try rw [hb2]; try rw [hb0]; try rw [hb1]; all_goals simp only [Bool.not_true, Bool.not_false, Bool.true_and, Bool.false_and, Bool.true_or, Bool.false_or, Bool.and_true, Bool.or_false, cond_true, cond_false]), trivial⟩, W⟩
  rw [hb2] at F
  refine AM F W (Ai F Aa Aa Aa Aa) Aa (Ao Aa) (Af FM Aa Aa Aa Lv F Aa 2 Aa).q fun a w F W => ?_
  refine AM F W (Ai F Aa Aa Aa Aa) Aa (Ao Aa) (Al (v := v2) 0 F Aa Aa Lv Aa).q fun a w F W => ?_
  refine AM F W (Ai F Aa Aa Aa Aa) Aa (Ao Aa) (Bl (r := FI) (l := p0.2.2) J9 Aa F Aa (Ak h_v2)).q fun a w F W => ?_
  refine AM F W (Ai F Aa Aa Aa Aa) Aa (Ao Aa) (FX F Aa Aa).q fun a w F W => ?_
  refine ls F W Aa (AL F Aa Aa Aa).q fun a w F W => ?_
  refine Ad (Ac ?_)
  exact ⟨F.re ⟨rfl, Aa, (by show some (Value.bool (decide (8 < (p0.2.2.length : Int)))) = some (Value.bool (decide (p0.1 < 1) || (decide (8 < p0.1) || (decide (24 < (p0.2.1.length : Int)) || decide (8 < (p0.2.2.length : Int)))))); try rw [hb2]; try rw [hb0]; try rw [hb1]; all_goals simp only [Bool.not_true, Bool.not_false, Bool.true_and, Bool.false_and, Bool.true_or, Bool.false_or, Bool.and_true, Bool.or_false, cond_true, cond_false]), trivial⟩, W⟩
 rintro a w ⟨F, W⟩
 refine AA F Aa (fun hb => ?_) fun hb => ?_
 ·
  have H := Ba hb H
  rw [hb] at F
  clear hb
  refine Ah (Ab ?_)
  refine ls F W Aa (Ae F Aa).q fun a w F W => ?_
  refine Ad (Ac (AB (AO ?_)))
  have H := A1 H
  subst H
  refine Be (.inl Aa) F W Aa (Aw F Aa) ?_
  exact ⟨rfl, W.done⟩
 have H := A9 (by rw [hb]; decide) H
 rw [hb] at F
 clear hb
 refine As (Ac (Ah (Ab ?_)))
 refine F2 EX Dq F W Aa fun b2 a w F W => ?_
 have W : Stw ⟨Y, [], w0⟩ [(b1, [.int .i64 p0.1, v1, v2])] [mp b2 EX Dq ([] : List ((Int × Int) × Unit))] w := W
 refine ls F W Aa (Ae F Aa).q fun a w F W => ?_
 refine Ad (Ac ?_)
 obtain ⟨o1, G1, K1, L1⟩ := KM H
 refine AR (fun a w => ∃ x1 : List ((Int × Int) × Unit), some (Sum.inl x1) = some o1 ∧ Fr 71 [] [(1, .pointer (some ⟨b1, 0, none⟩)), (2, .bool false)] a ∧ Stw ⟨Y, [], w0⟩ [(b1, [.int .i64 p0.1, v1, v2])] [mp b2 EX Dq x1] w) ?_ ?_
 ·
  have H := G1
  clear G1 K1
  refine Ah (Ab ?_)
  refine ls F W Aa (Al (v := Value.agg #[.int .i64 p0.1, v1, v2]) 0 F Aa Aa JQ Aa).q fun a w F W => ?_
  obtain ⟨x2, h1, H⟩ := An H
  refine Cw (Ml := []) (Zl := []) (M := [(b1, [.int .i64 p0.1, v1, v2])]) (Z := [mp b2 EX Dq ([] : List ((Int × Int) × Unit))]) (β := Value) (rv := fun x => x) (MM := fun x => []) (ZZ := fun x => [row x 126 DH x2]) F W P3 Aa Aa (fun hL => ID _ w (v1) (v2) p0 _ h1 ((Ak h_v1) w W).nx ((Ak h_v2) w W).nx) fun x a w F W => ?_
  obtain ⟨v3, rfl⟩ : ∃ y, y = x := ⟨x, rfl⟩
  have W : Stw ⟨Y, [], w0⟩ [(b1, [.int .i64 p0.1, v1, v2])] [row v3 126 DH x2, mp b2 EX Dq ([] : List ((Int × Int) × Unit))] w := W
  refine ls F W Aa (Bl (r := DH) (l := x2) Nh Aa F Aa (AN 0 Aa)).q fun a w F W => ?_
  refine ls F W Aa (Ag F Aa).q fun a w F W => ?_
  refine Ad (Ac (Ax ?_))
  have W := W.frontZ (i := 1) Aa Aa
  have W := W.frontZ (i := 1) Aa Aa
  refine BZ H (fun s a w => Fr 71 [] [(1, .pointer (some ⟨b1, 0, none⟩)), (2, .bool false), (3, .map (some b2)), (30, v3), (31, .int .i64 (x2.length : Int)), (32, .int .i64 s.1)] a ∧ Stw ⟨Y, [], w0⟩ [(b1, [.int .i64 p0.1, v1, v2])] [row v3 126 DH x2, mp b2 EX Dq s.2] w) ⟨F.re ⟨rfl, Aa, Aa, Aa, Aa, Aa, trivial⟩, W⟩ fun s o a w H L2 hR => ?_
  obtain ⟨x3, x4⟩ := s
  obtain ⟨F, W⟩ := hR
  have F : Fr 71 [] [(1, .pointer (some ⟨b1, 0, none⟩)), (2, .bool false), (3, .map (some b2)), (30, v3), (31, .int .i64 (x2.length : Int)), (32, .int .i64 x3)] a := F
  have W : Stw ⟨Y, [], w0⟩ [(b1, [.int .i64 p0.1, v1, v2])] [row v3 126 DH x2, mp b2 EX Dq x4] w := W
  rw [BF] at H
  refine Ah (Ab ?_)
  refine ls F W Aa (B0 F Aa Aa).q fun a w F W => ?_
  refine Ad (Ac (Ah ?_))
  refine AA F Aa (fun hb => ?_) fun hb => ?_
  ·
   have H := Ba (BO hb) H
   rw [hb] at F
   clear hb
   refine As (Ac (Ah (Ax (Ah (Ab ?_)))))
   obtain ⟨x5, h2, H⟩ := An H
   refine ls F W Aa (AU (r := DH) L5 F Aa Aa (AN 0 Aa) h2).q fun a w F W => ?_
   refine ls F W Aa (AC (y := Value.agg #[.int .i64 x5.1, .int .i64 x5.2]) (j := 0) (i := x3) F Aa Aa (AN 0 Aa) h2 NR.to J5 Aa).q fun a w F W => ?_
   refine B3 (cs := [.int .i64 0, .int .i64 0]) F W Aa MN Aa fun b3 a w F W => ?_
   refine BQ (vs := [.int .i64 x5.1, .int .i64 x5.2]) (M' := [(b3, [.int .i64 x5.1, .int .i64 x5.2]), (b1, [.int .i64 p0.1, v1, v2])]) 0 F W Aa Aa Aa J5 Aa Aa Aa Aa Aa fun w W => ?_
   refine Ad (Ac (Ah ?_))
   refine AR (fun a w => Fr 71 [] [(1, .pointer (some ⟨b1, 0, none⟩)), (2, .bool false), (3, .map (some b2)), (5, .pointer (some ⟨b3, 0, none⟩)), (30, v3), (31, .int .i64 (x2.length : Int)), (32, .int .i64 x3), (55, .bool (decide (x5.1 < 0) || (decide (p0.1 ≤ x5.1) || (decide (x5.2 < 0) || decide (8 ≤ x5.2)))))] a ∧ Stw ⟨Y, [], w0⟩ [(b3, [.int .i64 x5.1, .int .i64 x5.2]), (b1, [.int .i64 p0.1, v1, v2])] [row v3 126 DH x2, mp b2 EX Dq x4] w) ?_ ?_
   ·
    refine Ab ?_
    refine ls F W Aa (Af Hi Aa Aa Aa T3 F Aa 0 Aa).q fun a w F W => ?_
    refine ls F W Aa (Al (v := Value.int .i64 x5.1) 0 F Aa Aa T3 Aa).q fun a w F W => ?_
    refine ls F W Aa (B0 F Aa Aa).q fun a w F W => ?_
    refine ls F W Aa (Ag F Aa).q fun a w F W => ?_
    rcases Bool.eq_false_or_eq_true (decide (x5.1 < 0)) with hb0 | hb0
    ·
     rw [hb0] at F
     iterate 5 refine DU F Aa Aa Aa Aa Aa Aa Aa fun a F => ?_
     refine ls F W Aa (Ay F Aa Aa Aa).q fun a w F W => ?_
     refine ls F W Aa (Ag F Aa).q fun a w F W => ?_
     iterate 3 refine DU F Aa Aa Aa Aa Aa Aa Aa fun a F => ?_
     refine ls F W Aa (Ay F Aa Aa Aa).q fun a w F W => ?_
     refine ls F W Aa (Ag F Aa).q fun a w F W => ?_
     iterate 3 refine DU F Aa Aa Aa Aa Aa Aa Aa fun a F => ?_
     refine ls F W Aa (Ay F Aa Aa Aa).q fun a w F W => ?_
     refine Ad (Ac ?_)
     exact ⟨F.re ⟨rfl, Aa, Aa, Aa, Aa, Aa, Aa, (by show some (Value.bool true) = some (Value.bool (decide (x5.1 < 0) || (decide (p0.1 ≤ x5.1) || (decide (x5.2 < 0) || decide (8 ≤ x5.2))))); try rw [hb0]; all_goals simp only [Bool.not_true, Bool.not_false, Bool.true_and, Bool.false_and, Bool.true_or, Bool.false_or, Bool.and_true, Bool.or_false, cond_true, cond_false]), trivial⟩, W⟩
    rw [hb0] at F
    refine AM F W (Ai F Aa Aa Aa Aa) Aa (Ao Aa) (Af Hi Aa Aa Aa T3 F Aa 0 Aa).q fun a w F W => ?_
    refine AM F W (Ai F Aa Aa Aa Aa) Aa (Ao Aa) (Al (v := Value.int .i64 x5.1) 0 F Aa Aa T3 Aa).q fun a w F W => ?_
    refine AM F W (Ai F Aa Aa Aa Aa) Aa (Ao Aa) (Af FM Aa Aa Aa T3 F Aa 0 Aa).q fun a w F W => ?_
    refine AM F W (Ai F Aa Aa Aa Aa) Aa (Ao Aa) (Al (v := Value.int .i64 p0.1) 1 F Aa Aa T3 Aa).q fun a w F W => ?_
    refine AM F W (Ai F Aa Aa Aa Aa) Aa (Ao Aa) (E0 F Aa Aa).q fun a w F W => ?_
    refine ls F W Aa (AL F Aa Aa Aa).q fun a w F W => ?_
    refine ls F W Aa (Ag F Aa).q fun a w F W => ?_
    rcases Bool.eq_false_or_eq_true (decide (p0.1 ≤ x5.1)) with hb1 | hb1
    ·
     rw [hb1] at F
     iterate 3 refine DU F Aa Aa Aa Aa Aa Aa Aa fun a F => ?_
     refine ls F W Aa (Ay F Aa Aa Aa).q fun a w F W => ?_
     refine ls F W Aa (Ag F Aa).q fun a w F W => ?_
     iterate 3 refine DU F Aa Aa Aa Aa Aa Aa Aa fun a F => ?_
     refine ls F W Aa (Ay F Aa Aa Aa).q fun a w F W => ?_
     refine Ad (Ac ?_)
     exact ⟨F.re ⟨rfl, Aa, Aa, Aa, Aa, Aa, Aa, (by show some (Value.bool true) = some (Value.bool (decide (x5.1 < 0) || (decide (p0.1 ≤ x5.1) || (decide (x5.2 < 0) || decide (8 ≤ x5.2))))); try rw [hb1]; try rw [hb0]; all_goals simp only [Bool.not_true, Bool.not_false, Bool.true_and, Bool.false_and, Bool.true_or, Bool.false_or, Bool.and_true, Bool.or_false, cond_true, cond_false]), trivial⟩, W⟩
    rw [hb1] at F
    refine AM F W (Ai F Aa Aa Aa Aa) Aa (Ao Aa) (Af Hi Aa Aa Aa T3 F Aa 1 Aa).q fun a w F W => ?_
    refine AM F W (Ai F Aa Aa Aa Aa) Aa (Ao Aa) (Al (v := Value.int .i64 x5.2) 0 F Aa Aa T3 Aa).q fun a w F W => ?_
    refine AM F W (Ai F Aa Aa Aa Aa) Aa (Ao Aa) (B0 F Aa Aa).q fun a w F W => ?_
    refine ls F W Aa (AL F Aa Aa Aa).q fun a w F W => ?_
    refine ls F W Aa (Ag F Aa).q fun a w F W => ?_
    rcases Bool.eq_false_or_eq_true (decide (x5.2 < 0)) with hb2 | hb2
    ·
     rw [hb2] at F
     iterate 3 refine DU F Aa Aa Aa Aa Aa Aa Aa fun a F => ?_
     refine ls F W Aa (Ay F Aa Aa Aa).q fun a w F W => ?_
     refine Ad (Ac ?_)
     exact ⟨F.re ⟨rfl, Aa, Aa, Aa, Aa, Aa, Aa, (by show some (Value.bool true) = some (Value.bool (decide (x5.1 < 0) || (decide (p0.1 ≤ x5.1) || (decide (x5.2 < 0) || decide (8 ≤ x5.2))))); try rw [hb1]; try rw [hb0]; try rw [hb2]; all_goals simp only [Bool.not_true, Bool.not_false, Bool.true_and, Bool.false_and, Bool.true_or, Bool.false_or, Bool.and_true, Bool.or_false, cond_true, cond_false]), trivial⟩, W⟩
    rw [hb2] at F
    refine AM F W (Ai F Aa Aa Aa Aa) Aa (Ao Aa) (Af Hi Aa Aa Aa T3 F Aa 1 Aa).q fun a w F W => ?_
    refine AM F W (Ai F Aa Aa Aa Aa) Aa (Ao Aa) (Al (v := Value.int .i64 x5.2) 0 F Aa Aa T3 Aa).q fun a w F W => ?_
    refine AM F W (Ai F Aa Aa Aa Aa) Aa (Ao Aa) (E0 F Aa Aa).q fun a w F W => ?_
    refine ls F W Aa (AL F Aa Aa Aa).q fun a w F W => ?_
    refine Ad (Ac ?_)
    exact ⟨F.re ⟨rfl, Aa, Aa, Aa, Aa, Aa, Aa, (by show some (Value.bool (decide (8 ≤ x5.2))) = some (Value.bool (decide (x5.1 < 0) || (decide (p0.1 ≤ x5.1) || (decide (x5.2 < 0) || decide (8 ≤ x5.2))))); try rw [hb1]; try rw [hb0]; try rw [hb2]; all_goals simp only [Bool.not_true, Bool.not_false, Bool.true_and, Bool.false_and, Bool.true_or, Bool.false_or, Bool.and_true, Bool.or_false, cond_true, cond_false]), trivial⟩, W⟩
   rintro a w ⟨F, W⟩
   refine AA F Aa (fun hb => ?_) fun hb => ?_
   ·
    have H := Ba hb H
    rw [hb] at F
    clear hb
    refine Ah (Ab ?_)
    refine ls F W Aa (Ae F Aa).q fun a w F W => ?_
    refine Ad (Ac (AB (AO (AV ?_))))
    iterate 2 refine AO ?_
    refine AV (AO ?_)
    have H := L2 _ H
    have H := L1 _ H
    have H := A1 H
    subst H
    refine Be (.inl Aa) F W Aa (Aw F Aa) ?_
    exact ⟨rfl, W.done⟩
   have H := A9 (by rw [hb]; decide) H
   rw [hb] at F
   clear hb
   refine As (Ac (Ah (Ah (Ab ?_))))
   refine ls F W Aa (Ag F Aa).q fun a w F W => ?_
   refine ls F W Aa (Al (v := Value.agg #[.int .i64 x5.1, .int .i64 x5.2]) 0 F Aa Aa J5 Aa).q fun a w F W => ?_
   refine ls F W Aa (GX (zv := (() : Unit)) (kx := (x5 : Int × Int)) (q := 1) (E := EX) (V := Dq) F Aa Aa Aa Nm Ng Ok).q fun a w F W => ?_
   refine ls F W Aa (Ag F Aa).q fun a w F W => ?_
   refine ls F W Aa (BV (v := Value.agg #[]) F Aa Aa).q fun a w F W => ?_
   refine ls F W Aa (BV (v := Value.bool ((Cy x4 x5).isSome)) F Aa Aa).q fun a w F W => ?_
   refine B3 (cs := []) F W Aa Ok Aa fun b4 a w F W => ?_
   refine BQ (vs := []) (M' := [(b4, []), (b3, [.int .i64 x5.1, .int .i64 x5.2]), (b1, [.int .i64 p0.1, v1, v2])]) 0 F W Aa Aa Aa OS Aa Aa Aa Aa Aa fun w W => ?_
   refine ls F W Aa (Ae F Aa).q fun a w F W => ?_
   refine Ad (Ac (Ah (Ab ?_)))
   refine ls F W Aa (Ag F Aa).q fun a w F W => ?_
   refine Ad (Ac ?_)
   refine AA F Aa (fun hb => ?_) fun hb => ?_
   ·
    have H := Ba hb H
    rw [hb] at F
    clear hb
    refine Ah (Ab ?_)
    refine ls F W Aa (Ae F Aa).q fun a w F W => ?_
    refine Ad (Ac (AB (AO (AV ?_))))
    iterate 2 refine AO ?_
    refine AV (AO ?_)
    have H := L2 _ H
    have H := L1 _ H
    have H := A1 H
    subst H
    refine Be (.inl Aa) F W Aa (Aw F Aa) ?_
    exact ⟨rfl, W.done⟩
   have H := A9 (by rw [hb]; decide) H
   rw [hb] at F
   clear hb
   refine As (Ac (Ab ?_))
   refine ls F W Aa (Ag F Aa).q fun a w F W => ?_
   refine ls F W Aa (Al (v := Value.agg #[.int .i64 x5.1, .int .i64 x5.2]) 1 F Aa Aa J5 Aa).q fun a w F W => ?_
   refine ls F W Aa (Bx (v := Value.agg #[]) Oi F Aa Aa Aa).q fun a w F W => ?_
   refine FZ (q := 1) (kx := (x5 : Int × Int)) (vx := (() : Unit)) (E := EX) (V := Dq) F W Aa Aa Aa Aa Aa Nm Ng fun w W => ?_
   have W : Stw ⟨Y, [], w0⟩ [(b4, []), (b3, [.int .i64 x5.1, .int .i64 x5.2]), (b1, [.int .i64 p0.1, v1, v2])] [mp b2 EX Dq (CP x4 x5 ()), row v3 126 DH x2] w := W
   refine Ad (AP (Ac (Ab ?_)))
   refine ls F W Aa (Dk F Aa Aa Aa).q fun a w F W => ?_
   refine ls F W Aa (Ag F Aa).q fun a w F W => ?_
   refine Ad (Ac ?_)
   have W := W.frontZ (i := 1) Aa Aa
   have W := W.frontM (i := 2) Aa Aa
   have W := W.sub (M' := [(b1, [.int .i64 p0.1, v1, v2])]) (Z' := [row v3 126 DH x2, mp b2 EX Dq (CP x4 x5 ())]) (List.Sublist.cons_cons _ (List.nil_sublist _)) (List.Sublist.refl _)
   exact ⟨_, H, F.re ⟨rfl, Aa, Aa, Aa, Aa, Aa, trivial⟩, W⟩
  have H := A9 (BS hb) H
  rw [hb] at F
  clear hb
  refine BH ?_
  iterate 2 refine Cj ?_
  refine BI (Ac ?_)
  have W := W.frontZ (i := 1) Aa Aa
  have W := W.sub (M' := [(b1, [.int .i64 p0.1, v1, v2])]) (Z' := [mp b2 EX Dq x4]) (List.Sublist.refl _) (List.Sublist.cons_cons _ (List.nil_sublist _))
  have H := L2 _ H
  exact ⟨_, H, F.re ⟨rfl, Aa, trivial⟩, W⟩
 rintro a w ⟨x1, hj, F, W⟩
 have H := K1 _ hj
 clear hj G1 K1 L1
 refine Ah (Ab ?_)
 refine ls F W Aa (Af FM Aa Aa Aa Mt F Aa 1 Aa).q fun a w F W => ?_
 refine ls F W Aa (Al (v := v1) 0 F Aa Aa Mt Aa).q fun a w F W => ?_
 obtain ⟨x6, h3, H⟩ := An H
 refine ls F W Aa (Ch (v := Value.bool x6) F P0 Aa (fun w W => C7 any w (v1) p0.2.1 _ h3 (((Ak h_v1) : DV _ _ _ _ _ _) w W).nx)) fun a w F W => ?_
 refine ls F W Aa (Ga F Aa).q fun a w F W => ?_
 refine ls F W Aa (Ae F Aa).q fun a w F W => ?_
 refine Ad (Ac (AB ?_))
 have H := A1 H
 subst H
 refine Be (.inl Aa) F W Aa (Aw F Aa) ?_
 exact ⟨rfl, W.done⟩
theorem PE : Has Try.prog 58 := ⟨fun args w => Aj Try.func58 rfl (by decide) args w⟩
abbrev Io (a : Value × List Int) : List Value := [a.1]
theorem L7 : EW (Rp.vsl (Rp.int .i64)) Io := EW.vsl
def BX (p0 : Int) : Bool := (decide (p0 < 0) || decide (8 ≤ p0))
theorem GJ (Y : Nat → Prop) (w0 : World)  (p0 : Int) (r : Bool) (H : BX p0 = r)  :
    Calls Try.prog 60 #[.int .i64 p0] w0 fun e w' => e = .returned (.bool r) ∧ Below w0.heap.size w0 w' := by
 refine enter Try.func60 Aa Try.ntmps60 Aa fun a F => ?_
 have W := Stw.start Y w0
 unfold BX at H
 refine Ah (Ab ?_)
 refine ls F W Aa (Ae F Aa).q fun a w F W => ?_
 refine Ad (Ac ?_)
 refine AR (fun a w => Fr 9 [] [(2, .bool (decide (p0 < 0) || decide (8 ≤ p0)))] a ∧ Stw ⟨Y, [], w0⟩ [] [] w) ?_ ?_
 ·
  refine Ab ?_
  refine ls F W Aa (Ag F Aa).q fun a w F W => ?_
  refine ls F W Aa (B0 F Aa Aa).q fun a w F W => ?_
  refine ls F W Aa (Ag F Aa).q fun a w F W => ?_
  rcases Bool.eq_false_or_eq_true (decide (p0 < 0)) with hb0 | hb0
  ·
   rw [hb0] at F
   iterate 2 refine DU F Aa Aa Aa Aa Aa Aa Aa fun a F => ?_
   refine ls F W Aa (Ay F Aa Aa Aa).q fun a w F W => ?_
   refine ls F W Aa (Ae F Aa).q fun a w F W => ?_
   refine Ad (Ac ?_)
   exact ⟨F.re ⟨(by show some (Value.bool true) = some (Value.bool (decide (p0 < 0) || decide (8 ≤ p0))); try rw [hb0]; all_goals simp only [Bool.not_true, Bool.not_false, Bool.true_and, Bool.false_and, Bool.true_or, Bool.false_or, Bool.and_true, Bool.or_false, cond_true, cond_false]), trivial⟩, W⟩
  rw [hb0] at F
  refine AM F W (Ai F Aa Aa Aa Aa) Aa (Ao Aa) (Ag F Aa).q fun a w F W => ?_
  refine AM F W (Ai F Aa Aa Aa Aa) Aa (Ao Aa) (E0 F Aa Aa).q fun a w F W => ?_
  refine ls F W Aa (AL F Aa Aa Aa).q fun a w F W => ?_
  refine ls F W Aa (Ae F Aa).q fun a w F W => ?_
  refine Ad (Ac ?_)
  exact ⟨F.re ⟨(by show some (Value.bool (decide (8 ≤ p0))) = some (Value.bool (decide (p0 < 0) || decide (8 ≤ p0))); try rw [hb0]; all_goals simp only [Bool.not_true, Bool.not_false, Bool.true_and, Bool.false_and, Bool.true_or, Bool.false_or, Bool.and_true, Bool.or_false, cond_true, cond_false]), trivial⟩, W⟩
 rintro a w ⟨F, W⟩
 refine AB ?_
 subst H
 refine Be (.inl Aa) F W Aa (Aw F Aa) ?_
 exact ⟨rfl, W.done⟩
end Go.Proofs.Ytflaelbmglmmcaa
