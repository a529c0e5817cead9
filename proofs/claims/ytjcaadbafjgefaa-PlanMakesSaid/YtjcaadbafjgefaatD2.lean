/- The functions of layer 24, Hp. Conditions: none. -/
import Derived.Test.YtjcaadbafjgefaatD1
namespace Go.Proofs.Ytjcaadbafjgefaa
open Go Go.RowKit
set_option linter.unusedVariables false
set_option linter.unusedSimpArgs false
set_option maxRecDepth 20000
theorem Tm : Has Try.prog 62 := ⟨fun args w => An Try.func62 rfl (by decide) args w⟩
noncomputable def DJ (p0 : Int × (List (Int × Int × Int × Int × Int × Int)) × (List (Int × Int))) (p1 : List (List Int)) (p2 : Int) (p3 : Int) : (List Int × Int) → Option ((List Int × Int) ⊕ (Unit ⊕ (List Int × Int)))
  | (x3, x4) => (if x4 < p0.1 then (FF p0 p1 p2 p3 x4).bind fun x5 => (if x5.1 = (-1) then some (.inr (.inr (([] : List Int), 13))) else (JN x3 ([x5.1] : List Int)).bind fun x6 => (if x5.2 = true then some (.inr (.inr (x6, 0))) else some (.inl (x6, AA (x4 + 1))))) else some (.inr (.inl ())))
noncomputable def H3 (p0 : Int × (List (Int × Int × Int × Int × Int × Int)) × (List (Int × Int))) (p1 : List (List Int)) (p2 : Int) (p3 : Int) : Option (List Int × Int) := ((HW p0 p1).bind fun x2 => (if (!x2) = true then some true else (if p2 < 0 then some true else (if (p1.length : Int) ≤ p2 then some true else (if p3 < 0 then some true else some (decide ((p0.2.2.length : Int) ≤ p3))))))).bind fun x1 => (if x1 = true then some (([] : List Int), 2) else E6 (AE (DJ p0 p1 p2 p3) ([], 0)) fun _ => (FF p0 p1 p2 p3 p0.1).bind fun x7 => (if x7.1 = (-1) then some (([] : List Int), 13) else some (([] : List Int), 12)))
theorem Mq (Y : Nat → Prop) (w0 : World) (v1 : Value) (v2 : Value) (v3 : Value) (p0 : Int × (List (Int × Int × Int × Int × Int × Int)) × (List (Int × Int))) (p1 : List (List Int)) (p2 : Int) (p3 : Int) (r : List Int × Int) (H : H3 p0 p1 p2 p3 = some r) (h_v1 : Sl w0 (NX []) FM v1 p0.2.1) (h_v2 : Sl w0 (NX []) FD v2 p0.2.2) (h_v3 : Sl w0 (NX []) (Rp.slice (Rp.int .i64)) v3 p1) :
    Calls Try.prog 44 #[.agg #[.int .i64 p0.1, v1, v2], v3, .int .i64 p2, .int .i64 p3] w0 fun e w' => ∃ x : Value, e = .returned (.tuple #[x, .int .i64 r.2]) ∧ Stw ⟨Y, [], w0⟩ [] [row (x) 3 (Rp.int .i64) r.1] w' := by
 refine enter Try.func44 Aa Try.ntmps44 Aa fun a F => ?_
 have W := Stw.start Y w0
 obtain ⟨v4, h1, h_v3⟩ := h_v3.ex Dg
 unfold H3 at H
 refine Ah (Ac ?_)
 refine Dr (cs := [.int .i64 p0.1, v1, v2]) F W Aa Aa Aa fun b1 a w F W => ?_
 iterate 2 refine ls F W Aa (Af F Aa).q fun a w F W => ?_
 refine Ae (Ab (Ah ?_))
 obtain ⟨o1, G1, K1⟩ := Al H
 refine AC (fun a w => ∃ x1 : Bool, some (x1) = some o1 ∧ Fr 76 [] [(1, v3), (2, .int .i64 p2), (3, .int .i64 p3), (4, .pointer (some ⟨b1, 0, none⟩)), (8, .slice none 0 0), (9, .int .i64 0), (40, .bool x1)] a ∧ Stw ⟨Y, [], w0⟩ [(b1, [.int .i64 p0.1, v1, v2])] [] w) ?_ ?_
 ·
  have H := G1
  clear G1 K1
  refine Ac ?_
  refine ls F W Aa (As (v := Value.agg #[.int .i64 p0.1, v1, v2]) 0 F Aa Aa Iv Aa).q fun a w F W => ?_
  refine ls F W Aa (Ad F Aa).q fun a w F W => ?_
  obtain ⟨x2, h2, H⟩ := Al H
  refine ls F W Aa (BH (v := Value.bool x2) F TB Aa (fun w W => Lc any w (v1) (v2) (v3) p0 p1 _ h2 (((Am h_v1) : DT _ _ _ _ _ _) w W).nx (((Am h_v2) : DT _ _ _ _ _ _) w W).nx (((BA Dg h1 (Am h_v3)) : DT _ _ _ _ _ _) w W).nx)) fun a w F W => ?_
  refine ls F W Aa (Dt F Aa).q fun a w F W => ?_
  refine ls F W Aa (Ad F Aa).q fun a w F W => ?_
  rcases Bool.eq_false_or_eq_true (!x2) with hb | hb
  ·
   have H := AL hb H
   rw [hb] at F
   clear hb
   iterate 2 refine Cj F Aa Aa Aa Aa Aa Aa Aa fun a F => ?_
   refine ls F W Aa (Aq F Aa Aa Aa).q fun a w F W => ?_
   refine ls F W Aa (Ad F Aa).q fun a w F W => ?_
   iterate 4 refine Cj F Aa Aa Aa Aa Aa Aa Aa fun a F => ?_
   refine ls F W Aa (Aq F Aa Aa Aa).q fun a w F W => ?_
   refine ls F W Aa (Ad F Aa).q fun a w F W => ?_
   iterate 2 refine Cj F Aa Aa Aa Aa Aa Aa Aa fun a F => ?_
   refine ls F W Aa (Aq F Aa Aa Aa).q fun a w F W => ?_
   refine ls F W Aa (Ad F Aa).q fun a w F W => ?_
   iterate 5 refine Cj F Aa Aa Aa Aa Aa Aa Aa fun a F => ?_
   refine ls F W Aa (Aq F Aa Aa Aa).q fun a w F W => ?_
   refine Ae (Ab ?_)
   exact ⟨_, H, F.re ⟨rfl, Aa, Aa, Aa, Aa, Aa, Aa, trivial⟩, W⟩
  have H := AK (by rw [hb]; decide) H
  rw [hb] at F
  clear hb
  refine AD F W (Ag F Aa Aa Aa Aa) Aa (Ak Aa) (Ad F Aa).q fun a w F W => ?_
  refine AD F W (Ag F Aa Aa Aa Aa) Aa (Ak Aa) (Bk F Aa Aa).q fun a w F W => ?_
  refine ls F W Aa (Au F Aa Aa Aa).q fun a w F W => ?_
  refine ls F W Aa (Ad F Aa).q fun a w F W => ?_
  rcases Bool.eq_false_or_eq_true (decide (p2 < 0)) with hb | hb
  ·
   have H := AL (A6 hb) H
   rw [hb] at F
   clear hb
   iterate 4 refine Cj F Aa Aa Aa Aa Aa Aa Aa fun a F => ?_
   refine ls F W Aa (Aq F Aa Aa Aa).q fun a w F W => ?_
   refine ls F W Aa (Ad F Aa).q fun a w F W => ?_
   iterate 2 refine Cj F Aa Aa Aa Aa Aa Aa Aa fun a F => ?_
   refine ls F W Aa (Aq F Aa Aa Aa).q fun a w F W => ?_
   refine ls F W Aa (Ad F Aa).q fun a w F W => ?_
   iterate 5 refine Cj F Aa Aa Aa Aa Aa Aa Aa fun a F => ?_
   refine ls F W Aa (Aq F Aa Aa Aa).q fun a w F W => ?_
   refine Ae (Ab ?_)
   exact ⟨_, H, F.re ⟨rfl, Aa, Aa, Aa, Aa, Aa, Aa, trivial⟩, W⟩
  have H := AK (A7 hb) H
  rw [hb] at F
  clear hb
  iterate 2 refine AD F W (Ag F Aa Aa Aa Aa) Aa (Ak Aa) (Ad F Aa).q fun a w F W => ?_
  refine AD F W (Ag F Aa Aa Aa Aa) Aa (Ak Aa) (BP (r := (Rp.slice (Rp.int .i64))) (l := p1) KD Aa F Aa (BA Dg h1 (Am h_v3))).q fun a w F W => ?_
  refine AD F W (Ag F Aa Aa Aa Aa) Aa (Ak Aa) (Dj F Aa Aa).q fun a w F W => ?_
  refine ls F W Aa (Au F Aa Aa Aa).q fun a w F W => ?_
  refine ls F W Aa (Ad F Aa).q fun a w F W => ?_
  rcases Bool.eq_false_or_eq_true (decide ((p1.length : Int) ≤ p2)) with hb | hb
  ·
   have H := AL (A6 hb) H
   rw [hb] at F
   clear hb
   iterate 2 refine Cj F Aa Aa Aa Aa Aa Aa Aa fun a F => ?_
   refine ls F W Aa (Aq F Aa Aa Aa).q fun a w F W => ?_
   refine ls F W Aa (Ad F Aa).q fun a w F W => ?_
   iterate 5 refine Cj F Aa Aa Aa Aa Aa Aa Aa fun a F => ?_
   refine ls F W Aa (Aq F Aa Aa Aa).q fun a w F W => ?_
   refine Ae (Ab ?_)
   exact ⟨_, H, F.re ⟨rfl, Aa, Aa, Aa, Aa, Aa, Aa, trivial⟩, W⟩
  have H := AK (A7 hb) H
  rw [hb] at F
  clear hb
  refine AD F W (Ag F Aa Aa Aa Aa) Aa (Ak Aa) (Ad F Aa).q fun a w F W => ?_
  refine AD F W (Ag F Aa Aa Aa Aa) Aa (Ak Aa) (Bk F Aa Aa).q fun a w F W => ?_
  refine ls F W Aa (Au F Aa Aa Aa).q fun a w F W => ?_
  refine ls F W Aa (Ad F Aa).q fun a w F W => ?_
  rcases Bool.eq_false_or_eq_true (decide (p3 < 0)) with hb | hb
  ·
   have H := AL (A6 hb) H
   rw [hb] at F
   clear hb
   iterate 5 refine Cj F Aa Aa Aa Aa Aa Aa Aa fun a F => ?_
   refine ls F W Aa (Aq F Aa Aa Aa).q fun a w F W => ?_
   refine Ae (Ab ?_)
   exact ⟨_, H, F.re ⟨rfl, Aa, Aa, Aa, Aa, Aa, Aa, trivial⟩, W⟩
  have H := AK (A7 hb) H
  rw [hb] at F
  clear hb
  refine AD F W (Ag F Aa Aa Aa Aa) Aa (Ak Aa) (Ad F Aa).q fun a w F W => ?_
  refine AD F W (Ag F Aa Aa Aa Aa) Aa (Ak Aa) (Ai DM Aa Aa Aa IH F Aa 2 Aa).q fun a w F W => ?_
  refine AD F W (Ag F Aa Aa Aa Aa) Aa (Ak Aa) (As (v := v2) 0 F Aa Aa IH Aa).q fun a w F W => ?_
  refine AD F W (Ag F Aa Aa Aa Aa) Aa (Ak Aa) (BP (r := FD) (l := p0.2.2) J1 Aa F Aa (Am h_v2)).q fun a w F W => ?_
  refine AD F W (Ag F Aa Aa Aa Aa) Aa (Ak Aa) (Dj F Aa Aa).q fun a w F W => ?_
  refine ls F W Aa (Au F Aa Aa Aa).q fun a w F W => ?_
  refine Ae (Ab ?_)
  exact ⟨_, H, F.re ⟨rfl, Aa, Aa, Aa, Aa, Aa, Aa, trivial⟩, W⟩
 rintro a w ⟨x1, hj, F, W⟩
 have hj := AM hj
 subst hj
 have H := K1
 clear G1 K1
 refine Aw F Aa (fun hb => ?_) fun hb => ?_
 ·
  have H := AL hb H
  rw [hb] at F
  clear hb
  refine Ah (Ac ?_)
  iterate 2 refine ls F W Aa (Af F Aa).q fun a w F W => ?_
  refine Ae (Ab (wp_ret (AG ?_)))
  have H := AM H
  subst H
  refine CY (.inl Aa) F W Aa (Av F Aa) (Av F Aa) ?_
  have W := W.nilRow 3 (Rp.int .i64)
  have W := W.sub (M' := []) (Z' := [row (Value.slice none 0 0) 3 (Rp.int .i64) ([])]) (List.nil_sublist _) (List.Sublist.refl _)
  exact ⟨(Value.slice none 0 0), Aa, W⟩
 have H := AK (by rw [hb]; decide) H
 rw [hb] at F
 clear hb
 refine wp_skip (Ab (Ah (Ac ?_)))
 refine ls F W Aa (Af F Aa).q fun a w F W => ?_
 refine Ae (Ab ?_)
 obtain ⟨o2, G2, K2, L2⟩ := Jb H
 refine AC (fun a w => some (Sum.inl ()) = some o2 ∧ Fr 76 [] [(1, v3), (2, .int .i64 p2), (3, .int .i64 p3), (4, .pointer (some ⟨b1, 0, none⟩)), (8, .slice none 0 0), (9, .int .i64 0)] a ∧ Stw ⟨Y, [], w0⟩ [(b1, [.int .i64 p0.1, v1, v2])] [] w) ?_ ?_
 ·
  have H := G2
  clear G2 K2
  refine Ah (Ac ?_)
  refine ls F W Aa (Af F Aa).q fun a w F W => ?_
  refine Ae (Ab (wp_block ?_))
  have W := W.nilRow 3 (Rp.int .i64)
  refine A1 H (fun s a w => ∃ v5 : Value, Fr 76 [] [(1, v3), (2, .int .i64 p2), (3, .int .i64 p3), (4, .pointer (some ⟨b1, 0, none⟩)), (8, .slice none 0 0), (9, .int .i64 0), (10, v5), (11, .int .i64 s.2)] a ∧ Stw ⟨Y, [], w0⟩ [(b1, [.int .i64 p0.1, v1, v2])] [row v5 3 (Rp.int .i64) s.1] w) ⟨(Value.slice none 0 0), F.re ⟨rfl, Aa, Aa, Aa, Aa, Aa, Aa, Aa, trivial⟩, W⟩ fun s o a w H L3 hR => ?_
  obtain ⟨x3, x4⟩ := s
  obtain ⟨v5, F, W⟩ := hR
  have F : Fr 76 [] [(1, v3), (2, .int .i64 p2), (3, .int .i64 p3), (4, .pointer (some ⟨b1, 0, none⟩)), (8, .slice none 0 0), (9, .int .i64 0), (10, v5), (11, .int .i64 x4)] a := F
  have W : Stw ⟨Y, [], w0⟩ [(b1, [.int .i64 p0.1, v1, v2])] [row v5 3 (Rp.int .i64) x3] w := W
  rw [DJ] at H
  refine Ah (Ah (Ac ?_))
  refine ls F W Aa (Ad F Aa).q fun a w F W => ?_
  refine ls F W Aa (Ai DM Aa Aa Aa T3 F Aa 0 Aa).q fun a w F W => ?_
  refine ls F W Aa (As (v := Value.int .i64 p0.1) 0 F Aa Aa T3 Aa).q fun a w F W => ?_
  refine ls F W Aa (Bk F Aa Aa).q fun a w F W => ?_
  refine Ae (Ab ?_)
  refine Aw F Aa (fun hb => ?_) fun hb => ?_
  ·
   have H := AL (A6 hb) H
   rw [hb] at F
   clear hb
   refine wp_skip (Ab (Ah (wp_block (Ah (Ac ?_)))))
   refine ls F W Aa (As (v := Value.agg #[.int .i64 p0.1, v1, v2]) 0 F Aa Aa Iv Aa).q fun a w F W => ?_
   iterate 4 refine ls F W Aa (Ad F Aa).q fun a w F W => ?_
   obtain ⟨x5, h3, H⟩ := Al H
   refine ls F W Aa (BH (v := Value.tuple #[.int .i64 x5.1, .bool x5.2]) F Tm Aa (fun w W => Lm any w (v1) (v2) (v3) p0 p1 p2 p3 x4 _ h3 (((Am h_v1) : DT _ _ _ _ _ _) w W).nx (((Am h_v2) : DT _ _ _ _ _ _) w W).nx (((BA Dg h1 (Am h_v3)) : DT _ _ _ _ _ _) w W).nx)) fun a w F W => ?_
   refine ls F W Aa (Ad F Aa).q fun a w F W => ?_
   refine ls F W Aa (A0 (v := Value.int .i64 x5.1) F Aa Aa).q fun a w F W => ?_
   refine ls F W Aa (A0 (v := Value.bool x5.2) F Aa Aa).q fun a w F W => ?_
   iterate 2 refine ls F W Aa (Af F Aa).q fun a w F W => ?_
   refine Ae (Ab (Ah (Ah (Ac ?_))))
   refine ls F W Aa (Ad F Aa).q fun a w F W => ?_
   refine ls F W Aa (Cy F Aa Aa).q fun a w F W => ?_
   refine Ae (Ab ?_)
   refine Aw F Aa (fun hb => ?_) fun hb => ?_
   ·
    have H := AL (A6 hb) H
    rw [hb] at F
    clear hb
    refine Ah (Ac ?_)
    iterate 2 refine ls F W Aa (Af F Aa).q fun a w F W => ?_
    refine Ae (Ab (wp_ret (AG (AO ?_))))
    iterate 2 refine AG ?_
    refine AO (AG ?_)
    have H := L3 _ H
    have H := L2 _ H
    have H := AM H
    subst H
    refine CY (.inl Aa) F W Aa (Av F Aa) (Av F Aa) ?_
    have W := W.nilRow 3 (Rp.int .i64)
    have W := W.sub (M' := []) (Z' := [row (Value.slice none 0 0) 3 (Rp.int .i64) ([])]) (List.nil_sublist _) (List.Sublist.cons_cons _ (List.nil_sublist _))
    exact ⟨(Value.slice none 0 0), Aa, W⟩
   have H := AK (A7 hb) H
   rw [hb] at F
   clear hb
   refine wp_skip (Ab (Ah (Ac ?_)))
   iterate 2 refine ls F W Aa (Ad F Aa).q fun a w F W => ?_
   refine EA (z := Value.int .i64 0) (cs := [.int .i64 x5.1]) (Rp.int .i64) ([x5.1] : List Int) F W Aa Eo Z3 Aa Aa Aa Aa Aa Aa (Fl.int.repL _ _ ([x5.1] : List Int)) fun v6 a w F W => ?_
   obtain ⟨x6, h4, H⟩ := Al H
   refine DY (r := (Rp.int .i64)) (i := 1) F W Aa Eo Aa Aa Aa Aa (EI W 0 Aa) h4 Aa fun v7 a w F W => ?_
   have W : Stw ⟨Y, [], w0⟩ [(b1, [.int .i64 p0.1, v1, v2])] [row v7 3 (Rp.int .i64) x6, row v6 3 (Rp.int .i64) ([x5.1] : List Int)] w := W
   refine ls F W Aa (Af F Aa).q fun a w F W => ?_
   refine Ae (Ab (Ah (Ac ?_)))
   refine ls F W Aa (Ad F Aa).q fun a w F W => ?_
   refine Ae (Ab ?_)
   refine Aw F Aa (fun hb => ?_) fun hb => ?_
   ·
    have H := AL hb H
    rw [hb] at F
    clear hb
    refine Ah (Ac ?_)
    refine ls F W Aa (Ad F Aa).q fun a w F W => ?_
    iterate 2 refine ls F W Aa (Af F Aa).q fun a w F W => ?_
    refine Ae (Ab (wp_ret (AO ?_)))
    iterate 2 refine AG ?_
    refine AO (AG ?_)
    have H := L3 _ H
    have H := L2 _ H
    have H := AM H
    subst H
    refine CY (.inl Aa) F W Aa (Av F Aa) (Av F Aa) ?_
    have W := W.sub (M' := []) (Z' := [row v7 3 (Rp.int .i64) x6]) (List.nil_sublist _) (List.Sublist.cons_cons _ (List.nil_sublist _))
    exact ⟨(v7), Aa, W⟩
   have H := AK (by rw [hb]; decide) H
   rw [hb] at F
   clear hb
   refine wp_skip (AH (Ab (Ac ?_)))
   refine ls F W Aa (Ad F Aa).q fun a w F W => ?_
   refine ls F W Aa (A3 F Aa Aa Aa).q fun a w F W => ?_
   refine ls F W Aa (Af F Aa).q fun a w F W => ?_
   refine Ae (Ab ?_)
   have W := W.sub (M' := [(b1, [.int .i64 p0.1, v1, v2])]) (Z' := [row v7 3 (Rp.int .i64) x6]) (List.Sublist.refl _) (List.Sublist.cons_cons _ (List.nil_sublist _))
   exact ⟨_, H, (v7), F.re ⟨rfl, Aa, Aa, Aa, Aa, Aa, Aa, Aa, trivial⟩, W⟩
  have H := AK (A7 hb) H
  rw [hb] at F
  clear hb
  refine wp_exit ?_
  iterate 2 refine A5 ?_
  refine AU (Ab ?_)
  have W := W.sub (M' := [(b1, [.int .i64 p0.1, v1, v2])]) (Z' := []) (List.Sublist.refl _) (List.nil_sublist _)
  have H := L3 _ H
  exact ⟨H, F.re ⟨rfl, Aa, Aa, Aa, Aa, Aa, trivial⟩, W⟩
 rintro a w ⟨hj, F, W⟩
 have H := K2 _ hj
 clear hj G2 K2 L2
 refine Ah (Ac ?_)
 refine ls F W Aa (As (v := Value.agg #[.int .i64 p0.1, v1, v2]) 0 F Aa Aa Iv Aa).q fun a w F W => ?_
 iterate 3 refine ls F W Aa (Ad F Aa).q fun a w F W => ?_
 refine ls F W Aa (Ai DM Aa Aa Aa T3 F Aa 0 Aa).q fun a w F W => ?_
 refine ls F W Aa (As (v := Value.int .i64 p0.1) 0 F Aa Aa T3 Aa).q fun a w F W => ?_
 obtain ⟨x7, h5, H⟩ := Al H
 refine ls F W Aa (BH (v := Value.tuple #[.int .i64 x7.1, .bool x7.2]) F Tm Aa (fun w W => Lm any w (v1) (v2) (v3) p0 p1 p2 p3 p0.1 _ h5 (((Am h_v1) : DT _ _ _ _ _ _) w W).nx (((Am h_v2) : DT _ _ _ _ _ _) w W).nx (((BA Dg h1 (Am h_v3)) : DT _ _ _ _ _ _) w W).nx)) fun a w F W => ?_
 refine ls F W Aa (Ad F Aa).q fun a w F W => ?_
 refine ls F W Aa (A0 (v := Value.int .i64 x7.1) F Aa Aa).q fun a w F W => ?_
 refine ls F W Aa (A0 (v := Value.bool x7.2) F Aa Aa).q fun a w F W => ?_
 iterate 2 refine ls F W Aa (Af F Aa).q fun a w F W => ?_
 refine Ae (Ab (Ah (Ah (Ac ?_))))
 refine ls F W Aa (Ad F Aa).q fun a w F W => ?_
 refine ls F W Aa (Cy F Aa Aa).q fun a w F W => ?_
 refine Ae (Ab ?_)
 refine Aw F Aa (fun hb => ?_) fun hb => ?_
 ·
  have H := AL (A6 hb) H
  rw [hb] at F
  clear hb
  refine Ah (Ac ?_)
  iterate 2 refine ls F W Aa (Af F Aa).q fun a w F W => ?_
  refine Ae (Ab (wp_ret (AG ?_)))
  have H := AM H
  subst H
  refine CY (.inl Aa) F W Aa (Av F Aa) (Av F Aa) ?_
  have W := W.nilRow 3 (Rp.int .i64)
  have W := W.sub (M' := []) (Z' := [row (Value.slice none 0 0) 3 (Rp.int .i64) ([])]) (List.nil_sublist _) (List.Sublist.refl _)
  exact ⟨(Value.slice none 0 0), Aa, W⟩
 have H := AK (A7 hb) H
 rw [hb] at F
 clear hb
 refine wp_skip (Ab (Ah (Ac ?_)))
 iterate 2 refine ls F W Aa (Af F Aa).q fun a w F W => ?_
 refine Ae (Ab (wp_ret ?_))
 have H := AM H
 subst H
 refine CY (.inl Aa) F W Aa (Av F Aa) (Av F Aa) ?_
 have W := W.nilRow 3 (Rp.int .i64)
 have W := W.sub (M' := []) (Z' := [row (Value.slice none 0 0) 3 (Rp.int .i64) ([])]) (List.nil_sublist _) (List.Sublist.refl _)
 exact ⟨(Value.slice none 0 0), Aa, W⟩
theorem Tv : Has Try.prog 44 := ⟨fun args w => An Try.func44 rfl (by decide) args w⟩
noncomputable def Gl (p0 : Int × (List (Int × Int × Int × Int × Int × Int)) × (List (Int × Int))) (p1 : List (List Int)) (x2 : Int) : Int → Option (Int ⊕ (Unit ⊕ (Int ⊕ (Unit ⊕ Bool))))
  | x3 => (if x3 < (p0.2.2.length : Int) then (H3 p0 p1 x2 x3).bind fun x4 => (if x4.2 ≠ 0 then some (.inr (.inr (.inr (.inr false)))) else some (.inl (AA (x3 + 1)))) else some (.inr (.inl ())))
noncomputable def Hi (p0 : Int × (List (Int × Int × Int × Int × Int × Int)) × (List (Int × Int))) (p1 : List (List Int)) : Int → Option (Int ⊕ (Unit ⊕ Bool))
  | x2 => (if x2 < (p1.length : Int) then E6 (AE (Gl p0 p1 x2) 0) fun _ => some (.inl (AA (x2 + 1))) else some (.inr (.inl ())))
noncomputable def IE (p0 : Int × (List (Int × Int × Int × Int × Int × Int)) × (List (Int × Int))) (p1 : List (List Int)) : Option Bool := (HW p0 p1).bind fun x1 => (if (!x1) = true then some false else E6 (AE (Hi p0 p1) 0) fun _ => some true)
theorem Mf (Y : Nat → Prop) (w0 : World) (v1 : Value) (v2 : Value) (v3 : Value) (p0 : Int × (List (Int × Int × Int × Int × Int × Int)) × (List (Int × Int))) (p1 : List (List Int)) (r : Bool) (H : IE p0 p1 = some r) (h_v1 : Sl w0 (NX []) FM v1 p0.2.1) (h_v2 : Sl w0 (NX []) FD v2 p0.2.2) (h_v3 : Sl w0 (NX []) (Rp.slice (Rp.int .i64)) v3 p1) :
    Calls Try.prog 43 #[.agg #[.int .i64 p0.1, v1, v2], v3] w0 fun e w' => e = .returned (.bool r) ∧ Below w0.heap.size w0 w' := by
 refine enter Try.func43 Aa Try.ntmps43 Aa fun a F => ?_
 have W := Stw.start Y w0
 obtain ⟨v4, h1, h_v3⟩ := h_v3.ex Dg
 unfold IE at H
 refine Ah (Ac ?_)
 refine Dr (cs := [.int .i64 p0.1, v1, v2]) F W Aa Aa Aa fun b1 a w F W => ?_
 refine ls F W Aa (Af F Aa).q fun a w F W => ?_
 refine Ae (Ab (Ah (Ah (Ac ?_))))
 refine ls F W Aa (As (v := Value.agg #[.int .i64 p0.1, v1, v2]) 0 F Aa Aa Iv Aa).q fun a w F W => ?_
 refine ls F W Aa (Ad F Aa).q fun a w F W => ?_
 obtain ⟨x1, h2, H⟩ := Al H
 refine ls F W Aa (BH (v := Value.bool x1) F TB Aa (fun w W => Lc any w (v1) (v2) (v3) p0 p1 _ h2 (((Am h_v1) : DT _ _ _ _ _ _) w W).nx (((Am h_v2) : DT _ _ _ _ _ _) w W).nx (((BA Dg h1 (Am h_v3)) : DT _ _ _ _ _ _) w W).nx)) fun a w F W => ?_
 refine ls F W Aa (Dt F Aa).q fun a w F W => ?_
 refine Ae (Ab ?_)
 refine Aw F Aa (fun hb => ?_) fun hb => ?_
 ·
  have H := AL hb H
  rw [hb] at F
  clear hb
  refine Ah (Ac ?_)
  refine ls F W Aa (Af F Aa).q fun a w F W => ?_
  refine Ae (Ab (wp_ret (AG ?_)))
  have H := AM H
  subst H
  refine Bl (.inl Aa) F W Aa (Av F Aa) ?_
  exact ⟨rfl, W.done⟩
 have H := AK (by rw [hb]; decide) H
 rw [hb] at F
 clear hb
 refine wp_skip (Ab ?_)
 obtain ⟨o1, G1, K1, L1⟩ := Jb H
 refine AC (fun a w => some (Sum.inl ()) = some o1 ∧ Fr 36 [] [(4, .bool false)] a ∧ Stw ⟨Y, [], w0⟩ [(b1, [.int .i64 p0.1, v1, v2])] [] w) ?_ ?_
 ·
  have H := G1
  clear G1 K1
  refine Ah (Ac ?_)
  refine ls F W Aa (Af F Aa).q fun a w F W => ?_
  refine Ae (Ab (wp_block ?_))
  refine A1 H (fun s a w => Fr 36 [] [(1, v3), (2, .pointer (some ⟨b1, 0, none⟩)), (4, .bool false), (5, .int .i64 s)] a ∧ Stw ⟨Y, [], w0⟩ [(b1, [.int .i64 p0.1, v1, v2])] [] w) ⟨F.re ⟨rfl, Aa, Aa, Aa, trivial⟩, W⟩ fun s o a w H L2 hR => ?_
  obtain ⟨x2, rfl⟩ : ∃ x, x = s := ⟨s, rfl⟩
  obtain ⟨F, W⟩ := hR
  have F : Fr 36 [] [(1, v3), (2, .pointer (some ⟨b1, 0, none⟩)), (4, .bool false), (5, .int .i64 x2)] a := F
  have W : Stw ⟨Y, [], w0⟩ [(b1, [.int .i64 p0.1, v1, v2])] [] w := W
  rw [Hi] at H
  refine Ah (Ah (Ac ?_))
  iterate 2 refine ls F W Aa (Ad F Aa).q fun a w F W => ?_
  refine ls F W Aa (BP (r := (Rp.slice (Rp.int .i64))) (l := p1) KD Aa F Aa (BA Dg h1 (Am h_v3))).q fun a w F W => ?_
  refine ls F W Aa (Bk F Aa Aa).q fun a w F W => ?_
  refine Ae (Ab ?_)
  refine Aw F Aa (fun hb => ?_) fun hb => ?_
  ·
   have H := AL (A6 hb) H
   rw [hb] at F
   clear hb
   refine wp_skip (Ab ?_)
   obtain ⟨o3, G3, K3, L3⟩ := Jb H
   refine AC (fun a w => some (Sum.inl ()) = some o3 ∧ Fr 36 [] [(1, v3), (2, .pointer (some ⟨b1, 0, none⟩)), (4, .bool false), (5, .int .i64 x2)] a ∧ Stw ⟨Y, [], w0⟩ [(b1, [.int .i64 p0.1, v1, v2])] [] w) ?_ ?_
   ·
    have H := G3
    clear G3 K3
    refine wp_block (Ah (Ac ?_))
    refine ls F W Aa (Af F Aa).q fun a w F W => ?_
    refine Ae (Ab (wp_block ?_))
    refine A1 H (fun s a w => Fr 36 [] [(1, v3), (2, .pointer (some ⟨b1, 0, none⟩)), (4, .bool false), (5, .int .i64 x2), (6, .int .i64 s)] a ∧ Stw ⟨Y, [], w0⟩ [(b1, [.int .i64 p0.1, v1, v2])] [] w) ⟨F.re ⟨rfl, Aa, Aa, Aa, Aa, trivial⟩, W⟩ fun s o a w H L4 hR => ?_
    obtain ⟨x3, rfl⟩ : ∃ x, x = s := ⟨s, rfl⟩
    obtain ⟨F, W⟩ := hR
    have F : Fr 36 [] [(1, v3), (2, .pointer (some ⟨b1, 0, none⟩)), (4, .bool false), (5, .int .i64 x2), (6, .int .i64 x3)] a := F
    have W : Stw ⟨Y, [], w0⟩ [(b1, [.int .i64 p0.1, v1, v2])] [] w := W
    rw [Gl] at H
    refine Ah (Ah (Ac ?_))
    refine ls F W Aa (Ad F Aa).q fun a w F W => ?_
    refine ls F W Aa (Ai DM Aa Aa Aa IH F Aa 2 Aa).q fun a w F W => ?_
    refine ls F W Aa (As (v := v2) 0 F Aa Aa IH Aa).q fun a w F W => ?_
    refine ls F W Aa (BP (r := FD) (l := p0.2.2) J1 Aa F Aa (Am h_v2)).q fun a w F W => ?_
    refine ls F W Aa (Bk F Aa Aa).q fun a w F W => ?_
    refine Ae (Ab ?_)
    refine Aw F Aa (fun hb => ?_) fun hb => ?_
    ·
     have H := AL (A6 hb) H
     rw [hb] at F
     clear hb
     refine wp_skip (Ab (Ah (wp_block (Ah (Ac ?_)))))
     refine ls F W Aa (As (v := Value.agg #[.int .i64 p0.1, v1, v2]) 0 F Aa Aa Iv Aa).q fun a w F W => ?_
     iterate 3 refine ls F W Aa (Ad F Aa).q fun a w F W => ?_
     obtain ⟨x4, h3, H⟩ := Al H
     refine Bp (Ml := []) (Zl := []) (M := [(b1, [.int .i64 p0.1, v1, v2])]) (Z := []) (β := Value) (rv := fun x => .tuple #[x, .int .i64 x4.2]) (MM := fun x => []) (ZZ := fun x => [row x 3 (Rp.int .i64) x4.1]) F W Tv Aa Aa (fun hL => Mq _ w (v1) (v2) (v3) p0 p1 x2 x3 _ h3 ((Am h_v1) w W).nx ((Am h_v2) w W).nx ((BA Dg h1 (Am h_v3)) w W).nx) fun x a w F W => ?_
     obtain ⟨v5, rfl⟩ : ∃ y, y = x := ⟨x, rfl⟩
     have W : Stw ⟨Y, [], w0⟩ [(b1, [.int .i64 p0.1, v1, v2])] [row v5 3 (Rp.int .i64) x4.1] w := W
     refine ls F W Aa (Ad F Aa).q fun a w F W => ?_
     refine ls F W Aa (A0 (v := v5) F Aa Aa).q fun a w F W => ?_
     refine ls F W Aa (A0 (v := Value.int .i64 x4.2) F Aa Aa).q fun a w F W => ?_
     iterate 2 refine ls F W Aa (Af F Aa).q fun a w F W => ?_
     refine Ae (Ab (Ah (Ac ?_)))
     refine ls F W Aa (Ad F Aa).q fun a w F W => ?_
     refine ls F W Aa (Fe F Aa Aa).q fun a w F W => ?_
     refine Ae (Ab ?_)
     refine Aw F Aa (fun hb => ?_) fun hb => ?_
     ·
      have H := AL (A6 hb) H
      rw [hb] at F
      clear hb
      refine Ah (Ac ?_)
      refine ls F W Aa (Af F Aa).q fun a w F W => ?_
      refine Ae (Ab (wp_ret (AO ?_)))
      iterate 2 refine AG ?_
      iterate 2 refine AO ?_
      iterate 2 refine AG ?_
      refine AO (AG ?_)
      have H := L4 _ H
      have H := L3 _ H
      have H := L2 _ H
      have H := L1 _ H
      have H := AM H
      subst H
      refine Bl (.inl Aa) F W Aa (Av F Aa) ?_
      exact ⟨rfl, W.done⟩
     have H := AK (A7 hb) H
     rw [hb] at F
     clear hb
     refine wp_skip (AH (Ab (Ac ?_)))
     refine ls F W Aa (Ad F Aa).q fun a w F W => ?_
     refine ls F W Aa (A3 F Aa Aa Aa).q fun a w F W => ?_
     refine ls F W Aa (Af F Aa).q fun a w F W => ?_
     refine Ae (Ab ?_)
     have W := W.sub (M' := [(b1, [.int .i64 p0.1, v1, v2])]) (Z' := []) (List.Sublist.refl _) (List.nil_sublist _)
     exact ⟨_, H, F.re ⟨rfl, Aa, Aa, Aa, Aa, trivial⟩, W⟩
    have H := AK (A7 hb) H
    rw [hb] at F
    clear hb
    refine wp_exit ?_
    iterate 2 refine A5 ?_
    refine AU (AH (Ab ?_))
    have H := L4 _ H
    exact ⟨H, F.re ⟨rfl, Aa, Aa, Aa, trivial⟩, W⟩
   rintro a w ⟨hj, F, W⟩
   have H := K3 _ hj
   clear hj G3 K3 L3
   refine Ac ?_
   refine ls F W Aa (Ad F Aa).q fun a w F W => ?_
   refine ls F W Aa (A3 F Aa Aa Aa).q fun a w F W => ?_
   refine ls F W Aa (Af F Aa).q fun a w F W => ?_
   refine Ae (Ab ?_)
   exact ⟨_, H, F.re ⟨rfl, Aa, Aa, Aa, trivial⟩, W⟩
  have H := AK (A7 hb) H
  rw [hb] at F
  clear hb
  refine wp_exit ?_
  iterate 2 refine A5 ?_
  refine AU (Ab ?_)
  have H := L2 _ H
  exact ⟨H, F.re ⟨rfl, trivial⟩, W⟩
 rintro a w ⟨hj, F, W⟩
 have H := K1 _ hj
 clear hj G1 K1 L1
 refine Ah (Ac ?_)
 refine ls F W Aa (Af F Aa).q fun a w F W => ?_
 refine Ae (Ab (wp_ret ?_))
 have H := AM H
 subst H
 refine Bl (.inl Aa) F W Aa (Av F Aa) ?_
 exact ⟨rfl, W.done⟩
theorem QG : type_of% Try.underlying37 := Try.underlying37
theorem Mh : type_of% Try.underlying104 := Try.underlying104
theorem TO : Has Try.prog 43 := ⟨fun args w => An Try.func43 rfl (by decide) args w⟩
theorem SY : Bt Try.prog 104 [.int .i64 0, .int .i64 0, .int .i64 0, .int .i64 0] [(0, 1), (1, 1), (2, 1), (3, 1)] := ⟨⟨.agg #[.int .i64 0, .int .i64 0, .int .i64 0, .int .i64 0], by kernel_rfl, rfl⟩, ⟨_, Mh, fun w => by kernel_rfl⟩⟩
theorem Tl : (Try.prog.info? 104).bind (·.zero) = some (.agg #[.int .i64 0, .int .i64 0, .int .i64 0, .int .i64 0]) := by kernel_rfl
abbrev Da : Rp (Int × Int × Int × Int) := (Rp.pair (Rp.int .i64) (Rp.pair (Rp.int .i64) (Rp.pair (Rp.int .i64) (Rp.int .i64))))
def SH (a : Int × Int × Int × Int) : List Value := [.int .i64 a.1, .int .i64 a.2.1, .int .i64 a.2.2.1, .int .i64 a.2.2.2]
theorem Ot : Fl Da SH := (Fl.pair Fl.int (Fl.pair Fl.int (Fl.pair Fl.int Fl.int)))
theorem Rm : Et Try.prog 37 104 4 32 := Et.of QG (by kernel_rfl) (by kernel_rfl) (by kernel_rfl) (by decide)
noncomputable def EV (p0 : Int × (List (Int × Int × Int × Int × Int × Int)) × (List (Int × Int))) (p1 : List (List Int)) (p2 : List (List Int)) (x6 : Int) (x9 : Int) : ((List (Int × Int × Int × Int)) × Int) → Option (((List (Int × Int × Int × Int)) × Int) ⊕ (List (Int × Int × Int × Int)))
  | (x11, x12) => (if x12 < (p0.2.2.length : Int) then ((H3 p0 p2 x9 x12).bind fun x14 => (if (x14.1.length : Int) = (AA (x6 + 1)) then (ix p1 x9).bind fun x16 => (ix x16 x12).bind fun x17 => (ix p2 x9).bind fun x18 => (ix x18 x12).bind fun x19 => some (decide (x17 ≠ x19)) else some false).bind fun x15 => (if x15 = true then (ix p2 x9).bind fun x20 => (ix x20 x12).bind fun x21 => (JN x11 ([(x9, x12, x21, x6)] : List (Int × Int × Int × Int))).bind fun x22 => some x22 else some x11)).bind fun x13 => some (.inl (x13, AA (x12 + 1))) else some (.inr x11))
noncomputable def FL (p0 : Int × (List (Int × Int × Int × Int × Int × Int)) × (List (Int × Int))) (p1 : List (List Int)) (p2 : List (List Int)) (x6 : Int) : ((List (Int × Int × Int × Int)) × Int) → Option (((List (Int × Int × Int × Int)) × Int) ⊕ (List (Int × Int × Int × Int)))
  | (x8, x9) => (if x9 < p0.1 then (AE (EV p0 p1 p2 x6 x9) (x8, 0)).bind fun x10 => some (.inl (x10, AA (x9 + 1))) else some (.inr x8))
noncomputable def FE (p0 : Int × (List (Int × Int × Int × Int × Int × Int)) × (List (Int × Int))) (p1 : List (List Int)) (p2 : List (List Int)) : ((List (Int × Int × Int × Int)) × Int) → Option (((List (Int × Int × Int × Int)) × Int) ⊕ (List (Int × Int × Int × Int)))
  | (x5, x6) => (if x6 < p0.1 then (AE (FL p0 p1 p2 x6) (x5, 0)).bind fun x7 => some (.inl (x7, AA (x6 + 1))) else some (.inr x5))
noncomputable def HT (p0 : Int × (List (Int × Int × Int × Int × Int × Int)) × (List (Int × Int))) (p1 : List (List Int)) (p2 : List (List Int)) : Option ((List (Int × Int × Int × Int)) × Int) := ((IE p0 p1).bind fun x2 => (if (!x2) = true then some true else (IE p0 p2).bind fun x3 => some (!x3))).bind fun x1 => (if x1 = true then some (([] : List (Int × Int × Int × Int)), 2) else (AE (FE p0 p1 p2) ([], 0)).bind fun x4 => some (x4, 0))
theorem Oa (Y : Nat → Prop) (w0 : World) (v1 : Value) (v2 : Value) (v3 : Value) (v4 : Value) (p0 : Int × (List (Int × Int × Int × Int × Int × Int)) × (List (Int × Int))) (p1 : List (List Int)) (p2 : List (List Int)) (r : (List (Int × Int × Int × Int)) × Int) (H : HT p0 p1 p2 = some r) (h_v1 : Sl w0 (NX []) FM v1 p0.2.1) (h_v2 : Sl w0 (NX []) FD v2 p0.2.2) (h_v3 : Sl w0 (NX []) (Rp.slice (Rp.int .i64)) v3 p1) (h_v4 : Sl w0 (NX []) (Rp.slice (Rp.int .i64)) v4 p2) :
    Calls Try.prog 23 #[.agg #[.int .i64 p0.1, v1, v2], v3, v4] w0 fun e w' => ∃ x : Value, e = .returned (.tuple #[x, .int .i64 r.2]) ∧ Stw ⟨Y, [], w0⟩ [] [row (x) 104 Da r.1] w' := by
 refine enter Try.func23 Aa Try.ntmps23 Aa fun a F => ?_
 have W := Stw.start Y w0
 obtain ⟨v5, h1, h_v3⟩ := h_v3.ex Dg
 obtain ⟨v6, h2, h_v4⟩ := h_v4.ex Dg
 unfold HT at H
 refine Ah (Ac ?_)
 refine Dr (cs := [.int .i64 p0.1, v1, v2]) F W Aa Aa Aa fun b1 a w F W => ?_
 iterate 2 refine ls F W Aa (Af F Aa).q fun a w F W => ?_
 refine Ae (Ab (Ah ?_))
 obtain ⟨o1, G1, K1⟩ := Al H
 refine AC (fun a w => ∃ x1 : Bool, some (x1) = some o1 ∧ Fr 88 [] [(1, v3), (2, v4), (3, .pointer (some ⟨b1, 0, none⟩)), (6, .slice none 0 0), (7, .int .i64 0), (23, .bool x1)] a ∧ Stw ⟨Y, [], w0⟩ [(b1, [.int .i64 p0.1, v1, v2])] [] w) ?_ ?_
 ·
  have H := G1
  clear G1 K1
  refine Ac ?_
  refine ls F W Aa (As (v := Value.agg #[.int .i64 p0.1, v1, v2]) 0 F Aa Aa Iv Aa).q fun a w F W => ?_
  refine ls F W Aa (Ad F Aa).q fun a w F W => ?_
  obtain ⟨x2, h3, H⟩ := Al H
  refine ls F W Aa (BH (v := Value.bool x2) F TO Aa (fun w W => Mf any w (v1) (v2) (v3) p0 p1 _ h3 (((Am h_v1) : DT _ _ _ _ _ _) w W).nx (((Am h_v2) : DT _ _ _ _ _ _) w W).nx (((BA Dg h1 (Am h_v3)) : DT _ _ _ _ _ _) w W).nx)) fun a w F W => ?_
  refine ls F W Aa (Dt F Aa).q fun a w F W => ?_
  refine ls F W Aa (Ad F Aa).q fun a w F W => ?_
  rcases Bool.eq_false_or_eq_true (!x2) with hb | hb
  ·
   have H := AL hb H
   rw [hb] at F
   clear hb
   iterate 4 refine Cj F Aa Aa Aa Aa Aa Aa Aa fun a F => ?_
   refine ls F W Aa (Aq F Aa Aa Aa).q fun a w F W => ?_
   refine Ae (Ab ?_)
   exact ⟨_, H, F.re ⟨rfl, Aa, Aa, Aa, Aa, Aa, trivial⟩, W⟩
  have H := AK (by rw [hb]; decide) H
  rw [hb] at F
  clear hb
  refine AD F W (Ag F Aa Aa Aa Aa) Aa (Ak Aa) (As (v := Value.agg #[.int .i64 p0.1, v1, v2]) 0 F Aa Aa Iv Aa).q fun a w F W => ?_
  refine AD F W (Ag F Aa Aa Aa Aa) Aa (Ak Aa) (Ad F Aa).q fun a w F W => ?_
  refine Mn (Ag F Aa Aa Aa Aa) ?_
  obtain ⟨x3, h4, H⟩ := Al H
  refine ls F W Aa (BH (v := Value.bool x3) F TO Aa (fun w W => Mf any w (v1) (v2) (v4) p0 p2 _ h4 (((Am h_v1) : DT _ _ _ _ _ _) w W).nx (((Am h_v2) : DT _ _ _ _ _ _) w W).nx (((BA Dg h2 (Am h_v4)) : DT _ _ _ _ _ _) w W).nx)) fun a w F W => ?_
  refine AD F W (Ag F Aa Aa Aa Aa) Aa (Ak Aa) (Dt F Aa).q fun a w F W => ?_
  refine ls F W Aa (Au F Aa Aa Aa).q fun a w F W => ?_
  refine Ae (Ab ?_)
  exact ⟨_, H, F.re ⟨rfl, Aa, Aa, Aa, Aa, Aa, trivial⟩, W⟩
 rintro a w ⟨x1, hj, F, W⟩
 have hj := AM hj
 subst hj
 have H := K1
 clear G1 K1
 refine Aw F Aa (fun hb => ?_) fun hb => ?_
 ·
  have H := AL hb H
  rw [hb] at F
  clear hb
  refine Ah (Ac ?_)
  iterate 2 refine ls F W Aa (Af F Aa).q fun a w F W => ?_
  refine Ae (Ab (wp_ret (AG ?_)))
  have H := AM H
  subst H
  refine CY (.inl Aa) F W Aa (Av F Aa) (Av F Aa) ?_
  have W := W.nilRow 104 Da
  have W := W.sub (M' := []) (Z' := [row (Value.slice none 0 0) 104 Da ([])]) (List.nil_sublist _) (List.Sublist.refl _)
  exact ⟨(Value.slice none 0 0), Aa, W⟩
 have H := AK (by rw [hb]; decide) H
 rw [hb] at F
 clear hb
 refine wp_skip (Ab (Ah (Ac ?_)))
 refine ls F W Aa (Af F Aa).q fun a w F W => ?_
 refine Ae (Ab ?_)
 obtain ⟨o2, G2, K2⟩ := Al H
 refine AC (fun a w => ∃ x4 : List (Int × Int × Int × Int), ∃ v7 : Value, some (x4) = some o2 ∧ Fr 88 [] [(6, .slice none 0 0), (7, .int .i64 0), (8, v7)] a ∧ Stw ⟨Y, [], w0⟩ [(b1, [.int .i64 p0.1, v1, v2])] [row v7 104 Da x4] w) ?_ ?_
 ·
  have H := G2
  clear G2 K2
  refine Ah (Ac ?_)
  refine ls F W Aa (Af F Aa).q fun a w F W => ?_
  refine Ae (Ab (wp_block ?_))
  have W := W.nilRow 104 Da
  refine A1 H (fun s a w => ∃ v8 : Value, Fr 88 [] [(1, v3), (2, v4), (3, .pointer (some ⟨b1, 0, none⟩)), (6, .slice none 0 0), (7, .int .i64 0), (8, v8), (9, .int .i64 s.2)] a ∧ Stw ⟨Y, [], w0⟩ [(b1, [.int .i64 p0.1, v1, v2])] [row v8 104 Da s.1] w) ⟨(Value.slice none 0 0), F.re ⟨rfl, Aa, Aa, Aa, Aa, Aa, Aa, trivial⟩, W⟩ fun s o a w H L3 hR => ?_
  obtain ⟨x5, x6⟩ := s
  obtain ⟨v8, F, W⟩ := hR
  have F : Fr 88 [] [(1, v3), (2, v4), (3, .pointer (some ⟨b1, 0, none⟩)), (6, .slice none 0 0), (7, .int .i64 0), (8, v8), (9, .int .i64 x6)] a := F
  have W : Stw ⟨Y, [], w0⟩ [(b1, [.int .i64 p0.1, v1, v2])] [row v8 104 Da x5] w := W
  rw [FE] at H
  refine Ah (Ah (Ac ?_))
  refine ls F W Aa (Ad F Aa).q fun a w F W => ?_
  refine ls F W Aa (Ai DM Aa Aa Aa T3 F Aa 0 Aa).q fun a w F W => ?_
  refine ls F W Aa (As (v := Value.int .i64 p0.1) 0 F Aa Aa T3 Aa).q fun a w F W => ?_
  refine ls F W Aa (Bk F Aa Aa).q fun a w F W => ?_
  refine Ae (Ab ?_)
  refine Aw F Aa (fun hb => ?_) fun hb => ?_
  ·
   have H := AL (A6 hb) H
   rw [hb] at F
   clear hb
   refine wp_skip (Ab ?_)
   obtain ⟨o4, G4, K4⟩ := Al H
   refine AC (fun a w => ∃ x7 : List (Int × Int × Int × Int), ∃ v9 : Value, some (x7) = some o4 ∧ Fr 88 [] [(1, v3), (2, v4), (3, .pointer (some ⟨b1, 0, none⟩)), (6, .slice none 0 0), (7, .int .i64 0), (8, v9), (9, .int .i64 x6)] a ∧ Stw ⟨Y, [], w0⟩ [(b1, [.int .i64 p0.1, v1, v2])] [row v9 104 Da x7] w) ?_ ?_
   ·
    have H := G4
    clear G4 K4
    refine wp_block (Ah (Ac ?_))
    refine ls F W Aa (Af F Aa).q fun a w F W => ?_
    refine Ae (Ab (wp_block ?_))
    refine A1 H (fun s a w => ∃ v10 : Value, Fr 88 [] [(1, v3), (2, v4), (3, .pointer (some ⟨b1, 0, none⟩)), (6, .slice none 0 0), (7, .int .i64 0), (8, v10), (9, .int .i64 x6), (10, .int .i64 s.2)] a ∧ Stw ⟨Y, [], w0⟩ [(b1, [.int .i64 p0.1, v1, v2])] [row v10 104 Da s.1] w) ⟨(v8), F.re ⟨rfl, Aa, Aa, Aa, Aa, Aa, Aa, Aa, trivial⟩, W⟩ fun s o a w H L5 hR => ?_
    obtain ⟨x8, x9⟩ := s
    obtain ⟨v10, F, W⟩ := hR
    have F : Fr 88 [] [(1, v3), (2, v4), (3, .pointer (some ⟨b1, 0, none⟩)), (6, .slice none 0 0), (7, .int .i64 0), (8, v10), (9, .int .i64 x6), (10, .int .i64 x9)] a := F
    have W : Stw ⟨Y, [], w0⟩ [(b1, [.int .i64 p0.1, v1, v2])] [row v10 104 Da x8] w := W
    rw [FL] at H
    refine Ah (Ah (Ac ?_))
    refine ls F W Aa (Ad F Aa).q fun a w F W => ?_
    refine ls F W Aa (Ai DM Aa Aa Aa T3 F Aa 0 Aa).q fun a w F W => ?_
    refine ls F W Aa (As (v := Value.int .i64 p0.1) 0 F Aa Aa T3 Aa).q fun a w F W => ?_
    refine ls F W Aa (Bk F Aa Aa).q fun a w F W => ?_
    refine Ae (Ab ?_)
    refine Aw F Aa (fun hb => ?_) fun hb => ?_
    ·
     have H := AL (A6 hb) H
     rw [hb] at F
     clear hb
     refine wp_skip (Ab ?_)
     obtain ⟨o6, G6, K6⟩ := Al H
     refine AC (fun a w => ∃ x10 : List (Int × Int × Int × Int), ∃ v11 : Value, some (x10) = some o6 ∧ Fr 88 [] [(1, v3), (2, v4), (3, .pointer (some ⟨b1, 0, none⟩)), (6, .slice none 0 0), (7, .int .i64 0), (8, v11), (9, .int .i64 x6), (10, .int .i64 x9)] a ∧ Stw ⟨Y, [], w0⟩ [(b1, [.int .i64 p0.1, v1, v2])] [row v11 104 Da x10] w) ?_ ?_
     ·
      have H := G6
      clear G6 K6
      refine wp_block (Ah (Ac ?_))
      refine ls F W Aa (Af F Aa).q fun a w F W => ?_
      refine Ae (Ab (wp_block ?_))
      refine A1 H (fun s a w => ∃ v12 : Value, Fr 88 [] [(1, v3), (2, v4), (3, .pointer (some ⟨b1, 0, none⟩)), (6, .slice none 0 0), (7, .int .i64 0), (8, v12), (9, .int .i64 x6), (10, .int .i64 x9), (11, .int .i64 s.2)] a ∧ Stw ⟨Y, [], w0⟩ [(b1, [.int .i64 p0.1, v1, v2])] [row v12 104 Da s.1] w) ⟨(v10), F.re ⟨rfl, Aa, Aa, Aa, Aa, Aa, Aa, Aa, Aa, trivial⟩, W⟩ fun s o a w H L7 hR => ?_
      obtain ⟨x11, x12⟩ := s
      obtain ⟨v12, F, W⟩ := hR
      have F : Fr 88 [] [(1, v3), (2, v4), (3, .pointer (some ⟨b1, 0, none⟩)), (6, .slice none 0 0), (7, .int .i64 0), (8, v12), (9, .int .i64 x6), (10, .int .i64 x9), (11, .int .i64 x12)] a := F
      have W : Stw ⟨Y, [], w0⟩ [(b1, [.int .i64 p0.1, v1, v2])] [row v12 104 Da x11] w := W
      rw [EV] at H
      refine Ah (Ah (Ac ?_))
      refine ls F W Aa (Ad F Aa).q fun a w F W => ?_
      refine ls F W Aa (Ai DM Aa Aa Aa IH F Aa 2 Aa).q fun a w F W => ?_
      refine ls F W Aa (As (v := v2) 0 F Aa Aa IH Aa).q fun a w F W => ?_
      refine ls F W Aa (BP (r := FD) (l := p0.2.2) J1 Aa F Aa (Am h_v2)).q fun a w F W => ?_
      refine ls F W Aa (Bk F Aa Aa).q fun a w F W => ?_
      refine Ae (Ab ?_)
      refine Aw F Aa (fun hb => ?_) fun hb => ?_
      ·
       have H := AL (A6 hb) H
       rw [hb] at F
       clear hb
       refine wp_skip (Ab ?_)
       obtain ⟨o8, G8, K8⟩ := Al H
       refine AC (fun a w => ∃ x13 : List (Int × Int × Int × Int), ∃ v13 : Value, some (x13) = some o8 ∧ Fr 88 [] [(1, v3), (2, v4), (3, .pointer (some ⟨b1, 0, none⟩)), (6, .slice none 0 0), (7, .int .i64 0), (8, v13), (9, .int .i64 x6), (10, .int .i64 x9), (11, .int .i64 x12)] a ∧ Stw ⟨Y, [], w0⟩ [(b1, [.int .i64 p0.1, v1, v2])] [row v13 104 Da x13] w) ?_ ?_
       ·
        have H := G8
        clear G8 K8
        refine wp_block (Ah (Ac ?_))
        refine ls F W Aa (As (v := Value.agg #[.int .i64 p0.1, v1, v2]) 0 F Aa Aa Iv Aa).q fun a w F W => ?_
        iterate 3 refine ls F W Aa (Ad F Aa).q fun a w F W => ?_
        obtain ⟨x14, h5, H⟩ := Al H
        refine Bp (Ml := []) (Zl := []) (M := [(b1, [.int .i64 p0.1, v1, v2])]) (Z := [row v12 104 Da x11]) (β := Value) (rv := fun x => .tuple #[x, .int .i64 x14.2]) (MM := fun x => []) (ZZ := fun x => [row x 3 (Rp.int .i64) x14.1]) F W Tv Aa Aa (fun hL => Mq _ w (v1) (v2) (v4) p0 p2 x9 x12 _ h5 ((Am h_v1) w W).nx ((Am h_v2) w W).nx ((BA Dg h2 (Am h_v4)) w W).nx) fun x a w F W => ?_
        obtain ⟨v14, rfl⟩ : ∃ y, y = x := ⟨x, rfl⟩
        have W : Stw ⟨Y, [], w0⟩ [(b1, [.int .i64 p0.1, v1, v2])] [row v14 3 (Rp.int .i64) x14.1, row v12 104 Da x11] w := W
        refine ls F W Aa (Ad F Aa).q fun a w F W => ?_
        refine ls F W Aa (A0 (v := v14) F Aa Aa).q fun a w F W => ?_
        refine ls F W Aa (A0 (v := Value.int .i64 x14.2) F Aa Aa).q fun a w F W => ?_
        iterate 2 refine ls F W Aa (Af F Aa).q fun a w F W => ?_
        refine Ae (Ab ?_)
        obtain ⟨o9, G9, K9⟩ := Al H
        refine AC (fun a w => ∃ x15 : Bool, some (x15) = some o9 ∧ Fr 88 [] [(1, v3), (2, v4), (3, .pointer (some ⟨b1, 0, none⟩)), (6, .slice none 0 0), (7, .int .i64 0), (8, v12), (9, .int .i64 x6), (10, .int .i64 x9), (11, .int .i64 x12), (72, .bool x15)] a ∧ Stw ⟨Y, [], w0⟩ [(b1, [.int .i64 p0.1, v1, v2])] [row v12 104 Da x11] w) ?_ ?_
        ·
         have H := G9
         clear G9 K9
         refine BB W MO (by kernel_rfl) ?_
         refine qs F Aa (Ad F Aa).q fun a F => ?_
         refine qs F Aa (BP (r := (Rp.int .i64)) (l := x14.1) Hm Aa F Aa (Ao 0 Aa)).q fun a F => ?_
         refine qs F Aa (Ad F Aa).q fun a F => ?_
         refine qs F Aa (A3 F Aa Aa Aa).q fun a F => ?_
         refine qs F Aa (Cy F Aa Aa).q fun a F => ?_
         refine qs F Aa (Ad F Aa).q fun a F => ?_
         rcases Bool.eq_false_or_eq_true (decide ((x14.1.length : Int) = (AA (x6 + 1)))) with hb | hb
         ·
          have H := AL (A6 hb) H
          rw [hb] at F
          clear hb
          iterate 2 refine Bf F (Ag F Aa Aa Aa Aa) Aa (Ak Aa) (Ad F Aa).q fun a F => ?_
          obtain ⟨x16, h6, H⟩ := Al H
          obtain ⟨v15, h7, h8⟩ := EJ h1 h6
          have h9 : E5 v15 = [(v15.1)] := congrArg (fun q : List Int => ([(v15.1)] : List Value)) h8
          refine Bf F (Ag F Aa Aa Aa Aa) Aa (Ak Aa) (Ay (r := (Rp.vsl (Rp.int .i64))) MU F Aa Aa (Am h_v3) h7).q fun a F => ?_
          refine Bf F (Ag F Aa Aa Aa Aa) Aa (Ak Aa) (Ap (y := (v15.1)) (j := 0) (i := x9) (enc := E5) F Aa Aa (Am h_v3) h7 Ja JB (by rw [h9]; rfl)).q fun a F => ?_
          refine Bf F (Ag F Aa Aa Aa Aa) Aa (Ak Aa) (Ad F Aa).q fun a F => ?_
          obtain ⟨x17, h10, H⟩ := Al H
          refine Bf F (Ag F Aa Aa Aa Aa) Aa (Ak Aa) (Ay (r := (Rp.int .i64)) Eo F Aa Aa (CS (Am h_v3) h7 Dc.here (congrArg (fun q : List Int => q) h8)) h10).q fun a F => ?_
          refine Bf F (Ag F Aa Aa Aa Aa) Aa (Ak Aa) (Ap (y := Value.int .i64 x17) (j := 0) (i := x12) F Aa Aa (CS (Am h_v3) h7 Dc.here (congrArg (fun q : List Int => q) h8)) h10 Fl.int.to T3 Aa).q fun a F => ?_
          iterate 2 refine Bf F (Ag F Aa Aa Aa Aa) Aa (Ak Aa) (Ad F Aa).q fun a F => ?_
          obtain ⟨x18, h11, H⟩ := Al H
          obtain ⟨v16, h12, h13⟩ := EJ h2 h11
          have h14 : E5 v16 = [(v16.1)] := congrArg (fun q : List Int => ([(v16.1)] : List Value)) h13
          refine Bf F (Ag F Aa Aa Aa Aa) Aa (Ak Aa) (Ay (r := (Rp.vsl (Rp.int .i64))) MU F Aa Aa (Am h_v4) h12).q fun a F => ?_
          refine Bf F (Ag F Aa Aa Aa Aa) Aa (Ak Aa) (Ap (y := (v16.1)) (j := 0) (i := x9) (enc := E5) F Aa Aa (Am h_v4) h12 Ja JB (by rw [h14]; rfl)).q fun a F => ?_
          refine Bf F (Ag F Aa Aa Aa Aa) Aa (Ak Aa) (Ad F Aa).q fun a F => ?_
          obtain ⟨x19, h15, H⟩ := Al H
          refine Bf F (Ag F Aa Aa Aa Aa) Aa (Ak Aa) (Ay (r := (Rp.int .i64)) Eo F Aa Aa (CS (Am h_v4) h12 Dc.here (congrArg (fun q : List Int => q) h13)) h15).q fun a F => ?_
          refine Bf F (Ag F Aa Aa Aa Aa) Aa (Ak Aa) (Ap (y := Value.int .i64 x19) (j := 0) (i := x12) F Aa Aa (CS (Am h_v4) h12 Dc.here (congrArg (fun q : List Int => q) h13)) h15 Fl.int.to T3 Aa).q fun a F => ?_
          refine Bf F (Ag F Aa Aa Aa Aa) Aa (Ak Aa) (Fe F Aa Aa).q fun a F => ?_
          refine qs F Aa (Aq F Aa Aa Aa).q fun a F => ?_
          refine AR fun w W => ?_
          refine Ab ?_
          have W := W.frontZ (i := 1) Aa Aa
          have W := W.sub (M' := [(b1, [.int .i64 p0.1, v1, v2])]) (Z' := [row v12 104 Da x11]) (List.Sublist.refl _) (List.Sublist.cons_cons _ (List.nil_sublist _))
          exact ⟨_, H, F.re ⟨rfl, Aa, Aa, Aa, Aa, Aa, Aa, Aa, Aa, Aa, trivial⟩, W⟩
         have H := AK (A7 hb) H
         rw [hb] at F
         clear hb
         iterate 15 refine El F (Dm F Aa Aa Aa Aa Aa) Aa Aa fun a F => ?_
         refine qs F Aa (Au F Aa Aa Aa).q fun a F => ?_
         refine AR fun w W => ?_
         refine Ab ?_
         have W := W.frontZ (i := 1) Aa Aa
         have W := W.sub (M' := [(b1, [.int .i64 p0.1, v1, v2])]) (Z' := [row v12 104 Da x11]) (List.Sublist.refl _) (List.Sublist.cons_cons _ (List.nil_sublist _))
         exact ⟨_, H, F.re ⟨rfl, Aa, Aa, Aa, Aa, Aa, Aa, Aa, Aa, Aa, trivial⟩, W⟩
        rintro a w ⟨x15, hj, F, W⟩
        have hj := AM hj
        subst hj
        have H := K9
        clear G9 K9
        refine Aw F Aa (fun hb => ?_) fun hb => ?_
        ·
         have H := AL hb H
         rw [hb] at F
         clear hb
         refine Ac ?_
         iterate 5 refine ls F W Aa (Ad F Aa).q fun a w F W => ?_
         obtain ⟨x20, h16, H⟩ := Al H
         obtain ⟨v17, h17, h18⟩ := EJ h2 h16
         have h19 : E5 v17 = [(v17.1)] := congrArg (fun q : List Int => ([(v17.1)] : List Value)) h18
         refine ls F W Aa (Ay (r := (Rp.vsl (Rp.int .i64))) MU F Aa Aa (Am h_v4) h17).q fun a w F W => ?_
         refine ls F W Aa (Ap (y := (v17.1)) (j := 0) (i := x9) (enc := E5) F Aa Aa (Am h_v4) h17 Ja JB (by rw [h19]; rfl)).q fun a w F W => ?_
         refine ls F W Aa (Ad F Aa).q fun a w F W => ?_
         obtain ⟨x21, h20, H⟩ := Al H
         refine ls F W Aa (Ay (r := (Rp.int .i64)) Eo F Aa Aa (CS (Am h_v4) h17 Dc.here (congrArg (fun q : List Int => q) h18)) h20).q fun a w F W => ?_
         refine ls F W Aa (Ap (y := Value.int .i64 x21) (j := 0) (i := x12) F Aa Aa (CS (Am h_v4) h17 Dc.here (congrArg (fun q : List Int => q) h18)) h20 Fl.int.to T3 Aa).q fun a w F W => ?_
         refine ls F W Aa (Ad F Aa).q fun a w F W => ?_
         refine ls F W Aa (Cg (v := Value.agg #[.int .i64 x9, .int .i64 x12, .int .i64 x21, .int .i64 x6]) SY F Aa Aa Aa).q fun a w F W => ?_
         refine EA (z := Value.agg #[.int .i64 0, .int .i64 0, .int .i64 0, .int .i64 0]) (cs := [.int .i64 x9, .int .i64 x12, .int .i64 x21, .int .i64 x6]) Da ([(x9, x12, x21, x6)] : List (Int × Int × Int × Int)) F W Aa Rm Tl Aa Aa Aa Aa Aa Aa (Ot.repL _ _ ([(x9, x12, x21, x6)] : List (Int × Int × Int × Int))) fun v18 a w F W => ?_
         obtain ⟨x22, h21, H⟩ := Al H
         refine DY (r := Da) (i := 1) F W Aa Rm Aa Aa Aa Aa (EI W 0 Aa) h21 Aa fun v19 a w F W => ?_
         have W : Stw ⟨Y, [], w0⟩ [(b1, [.int .i64 p0.1, v1, v2])] [row v19 104 Da x22, row v18 104 Da ([(x9, x12, x21, x6)] : List (Int × Int × Int × Int))] w := W
         refine ls F W Aa (Af F Aa).q fun a w F W => ?_
         refine Ae (AH (Ab ?_))
         have W := W.sub (M' := [(b1, [.int .i64 p0.1, v1, v2])]) (Z' := [row v19 104 Da x22]) (List.Sublist.refl _) (List.Sublist.cons_cons _ (List.nil_sublist _))
         exact ⟨_, (v19), H, F.re ⟨rfl, Aa, Aa, Aa, Aa, Aa, Aa, Aa, Aa, trivial⟩, W⟩
        have H := AK (by rw [hb]; decide) H
        rw [hb] at F
        clear hb
        refine wp_skip (AH (Ab ?_))
        exact ⟨_, (v12), H, F.re ⟨rfl, Aa, Aa, Aa, Aa, Aa, Aa, Aa, Aa, trivial⟩, W⟩
       rintro a w ⟨x13, v13, hj, F, W⟩
       have hj := AM hj
       subst hj
       have H := K8
       clear G8 K8
       refine Ac ?_
       refine ls F W Aa (Ad F Aa).q fun a w F W => ?_
       refine ls F W Aa (A3 F Aa Aa Aa).q fun a w F W => ?_
       refine ls F W Aa (Af F Aa).q fun a w F W => ?_
       refine Ae (Ab ?_)
       exact ⟨_, H, (v13), F.re ⟨rfl, Aa, Aa, Aa, Aa, Aa, Aa, Aa, Aa, trivial⟩, W⟩
      have H := AK (A7 hb) H
      rw [hb] at F
      clear hb
      refine wp_exit ?_
      iterate 2 refine A5 ?_
      refine AU (AH (Ab ?_))
      have H := L7 _ H
      exact ⟨_, (v12), H, F.re ⟨rfl, Aa, Aa, Aa, Aa, Aa, Aa, Aa, trivial⟩, W⟩
     rintro a w ⟨x10, v11, hj, F, W⟩
     have hj := AM hj
     subst hj
     have H := K6
     clear G6 K6
     refine Ac ?_
     refine ls F W Aa (Ad F Aa).q fun a w F W => ?_
     refine ls F W Aa (A3 F Aa Aa Aa).q fun a w F W => ?_
     refine ls F W Aa (Af F Aa).q fun a w F W => ?_
     refine Ae (Ab ?_)
     exact ⟨_, H, (v11), F.re ⟨rfl, Aa, Aa, Aa, Aa, Aa, Aa, Aa, trivial⟩, W⟩
    have H := AK (A7 hb) H
    rw [hb] at F
    clear hb
    refine wp_exit ?_
    iterate 2 refine A5 ?_
    refine AU (AH (Ab ?_))
    have H := L5 _ H
    exact ⟨_, (v10), H, F.re ⟨rfl, Aa, Aa, Aa, Aa, Aa, Aa, trivial⟩, W⟩
   rintro a w ⟨x7, v9, hj, F, W⟩
   have hj := AM hj
   subst hj
   have H := K4
   clear G4 K4
   refine Ac ?_
   refine ls F W Aa (Ad F Aa).q fun a w F W => ?_
   refine ls F W Aa (A3 F Aa Aa Aa).q fun a w F W => ?_
   refine ls F W Aa (Af F Aa).q fun a w F W => ?_
   refine Ae (Ab ?_)
   exact ⟨_, H, (v9), F.re ⟨rfl, Aa, Aa, Aa, Aa, Aa, Aa, trivial⟩, W⟩
  have H := AK (A7 hb) H
  rw [hb] at F
  clear hb
  refine wp_exit ?_
  iterate 2 refine A5 ?_
  refine AU (Ab ?_)
  have H := L3 _ H
  exact ⟨_, (v8), H, F.re ⟨rfl, Aa, Aa, trivial⟩, W⟩
 rintro a w ⟨x4, v7, hj, F, W⟩
 have hj := AM hj
 subst hj
 have H := K2
 clear G2 K2
 refine Ah (Ac ?_)
 refine ls F W Aa (Ad F Aa).q fun a w F W => ?_
 iterate 2 refine ls F W Aa (Af F Aa).q fun a w F W => ?_
 refine Ae (Ab (wp_ret ?_))
 have H := AM H
 subst H
 refine CY (.inl Aa) F W Aa (Av F Aa) (Av F Aa) ?_
 have W := W.sub (M' := []) (Z' := [row v7 104 Da x4]) (List.nil_sublist _) (List.Sublist.refl _)
 exact ⟨(v7), Aa, W⟩
theorem T8 : Has Try.prog 23 := ⟨fun args w => An Try.func23 rfl (by decide) args w⟩
noncomputable def Ee (p0 : Int × (List (Int × Int × Int × Int × Int × Int)) × (List (Int × Int))) : (Int × Int) → Option ((Int × Int) ⊕ Int)
  | (x2, x3) => (if x3 < (p0.2.1.length : Int) then ((ix p0.2.1 x3).bind fun x5 => (if x2 < x5.2.2.2.2.2 then (ix p0.2.1 x3).bind fun x6 => some x6.2.2.2.2.2 else some x2)).bind fun x4 => some (.inl (x4, AA (x3 + 1))) else some (.inr x2))
noncomputable def Hk (p0 : Int × (List (Int × Int × Int × Int × Int × Int)) × (List (Int × Int))) : Option Int := (AE (Ee p0) (0, 0)).bind fun x1 => some x1
theorem MJ (Y : Nat → Prop) (w0 : World) (v1 : Value) (v2 : Value) (p0 : Int × (List (Int × Int × Int × Int × Int × Int)) × (List (Int × Int))) (r : Int) (H : Hk p0 = some r) (h_v1 : Sl w0 (NX []) FM v1 p0.2.1) (h_v2 : Sl w0 (NX []) FD v2 p0.2.2) :
    Calls Try.prog 45 #[.agg #[.int .i64 p0.1, v1, v2]] w0 fun e w' => e = .returned (.int .i64 r) ∧ Below w0.heap.size w0 w' := by
 refine enter Try.func45 Aa Try.ntmps45 Aa fun a F => ?_
 have W := Stw.start Y w0
 unfold Hk at H
 refine Ah (Ac ?_)
 refine Dr (cs := [.int .i64 p0.1, v1, v2]) F W Aa Aa Aa fun b1 a w F W => ?_
 refine ls F W Aa (Af F Aa).q fun a w F W => ?_
 refine Ae (Ab (Ah (Ac ?_)))
 refine ls F W Aa (Af F Aa).q fun a w F W => ?_
 refine Ae (Ab ?_)
 obtain ⟨o1, G1, K1⟩ := Al H
 refine AC (fun a w => ∃ x1 : Int, some (x1) = some o1 ∧ Fr 27 [] [(2, .int .i64 0), (3, .int .i64 x1)] a ∧ Stw ⟨Y, [], w0⟩ [(b1, [.int .i64 p0.1, v1, v2])] [] w) ?_ ?_
 ·
  have H := G1
  clear G1 K1
  refine Ah (Ac ?_)
  refine ls F W Aa (Af F Aa).q fun a w F W => ?_
  refine Ae (Ab (wp_block ?_))
  refine A1 H (fun s a w => Fr 27 [] [(1, .pointer (some ⟨b1, 0, none⟩)), (2, .int .i64 0), (3, .int .i64 s.1), (4, .int .i64 s.2)] a ∧ Stw ⟨Y, [], w0⟩ [(b1, [.int .i64 p0.1, v1, v2])] [] w) ⟨F.re ⟨rfl, Aa, Aa, Aa, trivial⟩, W⟩ fun s o a w H L2 hR => ?_
  obtain ⟨x2, x3⟩ := s
  obtain ⟨F, W⟩ := hR
  have F : Fr 27 [] [(1, .pointer (some ⟨b1, 0, none⟩)), (2, .int .i64 0), (3, .int .i64 x2), (4, .int .i64 x3)] a := F
  have W : Stw ⟨Y, [], w0⟩ [(b1, [.int .i64 p0.1, v1, v2])] [] w := W
  rw [Ee] at H
  refine Ah (Ah (Ac ?_))
  refine ls F W Aa (Ad F Aa).q fun a w F W => ?_
  refine ls F W Aa (Ai DM Aa Aa Aa JM F Aa 1 Aa).q fun a w F W => ?_
  refine ls F W Aa (As (v := v1) 0 F Aa Aa JM Aa).q fun a w F W => ?_
  refine ls F W Aa (BP (r := FM) (l := p0.2.1) Lz Aa F Aa (Am h_v1)).q fun a w F W => ?_
  refine ls F W Aa (Bk F Aa Aa).q fun a w F W => ?_
  refine Ae (Ab ?_)
  refine Aw F Aa (fun hb => ?_) fun hb => ?_
  ·
   have H := AL (A6 hb) H
   rw [hb] at F
   clear hb
   refine wp_skip (Ab ?_)
   obtain ⟨o3, G3, K3⟩ := Al H
   refine AC (fun a w => ∃ x4 : Int, some (x4) = some o3 ∧ Fr 27 [] [(1, .pointer (some ⟨b1, 0, none⟩)), (2, .int .i64 0), (3, .int .i64 x4), (4, .int .i64 x3)] a ∧ Stw ⟨Y, [], w0⟩ [(b1, [.int .i64 p0.1, v1, v2])] [] w) ?_ ?_
   ·
    have H := G3
    clear G3 K3
    refine wp_block (Ah (Ac ?_))
    refine ls F W Aa (Ai DM Aa Aa Aa JM F Aa 1 Aa).q fun a w F W => ?_
    refine ls F W Aa (As (v := v1) 0 F Aa Aa JM Aa).q fun a w F W => ?_
    refine ls F W Aa (Ad F Aa).q fun a w F W => ?_
    obtain ⟨x5, h1, H⟩ := Al H
    refine ls F W Aa (Ay (r := FM) Qx F Aa Aa (Am h_v1) h1).q fun a w F W => ?_
    refine ls F W Aa (Ai Ey Aa Aa Aa T3 F Aa (Fj v1 + (x3).toNat * 6 + 5) Aa).q fun a w F W => ?_
    refine ls F W Aa (Ap (y := Value.int .i64 x5.2.2.2.2.2) (j := 5) (i := x3) F Aa Aa (Am h_v1) h1 Qy.to T3 Aa).q fun a w F W => ?_
    refine ls F W Aa (Ad F Aa).q fun a w F W => ?_
    refine ls F W Aa (DZ F Aa Aa).q fun a w F W => ?_
    refine Ae (Ab ?_)
    refine Aw F Aa (fun hb => ?_) fun hb => ?_
    ·
     have H := AL (A6 hb) H
     rw [hb] at F
     clear hb
     refine Ac ?_
     refine ls F W Aa (Ai DM Aa Aa Aa JM F Aa 1 Aa).q fun a w F W => ?_
     refine ls F W Aa (As (v := v1) 0 F Aa Aa JM Aa).q fun a w F W => ?_
     refine ls F W Aa (Ad F Aa).q fun a w F W => ?_
     obtain ⟨x6, h2, H⟩ := Al H
     refine ls F W Aa (Ay (r := FM) Qx F Aa Aa (Am h_v1) h2).q fun a w F W => ?_
     refine ls F W Aa (Ai Ey Aa Aa Aa T3 F Aa (Fj v1 + (x3).toNat * 6 + 5) Aa).q fun a w F W => ?_
     refine ls F W Aa (Ap (y := Value.int .i64 x6.2.2.2.2.2) (j := 5) (i := x3) F Aa Aa (Am h_v1) h2 Qy.to T3 Aa).q fun a w F W => ?_
     refine ls F W Aa (Af F Aa).q fun a w F W => ?_
     refine Ae (AH (Ab ?_))
     exact ⟨_, H, F.re ⟨rfl, Aa, Aa, Aa, trivial⟩, W⟩
    have H := AK (A7 hb) H
    rw [hb] at F
    clear hb
    refine wp_skip (AH (Ab ?_))
    exact ⟨_, H, F.re ⟨rfl, Aa, Aa, Aa, trivial⟩, W⟩
   rintro a w ⟨x4, hj, F, W⟩
   have hj := AM hj
   subst hj
   have H := K3
   clear G3 K3
   refine Ac ?_
   refine ls F W Aa (Ad F Aa).q fun a w F W => ?_
   refine ls F W Aa (A3 F Aa Aa Aa).q fun a w F W => ?_
   refine ls F W Aa (Af F Aa).q fun a w F W => ?_
   refine Ae (Ab ?_)
   exact ⟨_, H, F.re ⟨rfl, Aa, Aa, Aa, trivial⟩, W⟩
  have H := AK (A7 hb) H
  rw [hb] at F
  clear hb
  refine wp_exit ?_
  iterate 2 refine A5 ?_
  refine AU (Ab ?_)
  have H := L2 _ H
  exact ⟨_, H, F.re ⟨rfl, Aa, trivial⟩, W⟩
 rintro a w ⟨x1, hj, F, W⟩
 have hj := AM hj
 subst hj
 have H := K1
 clear G1 K1
 refine Ah (Ac ?_)
 refine ls F W Aa (Ad F Aa).q fun a w F W => ?_
 refine ls F W Aa (Af F Aa).q fun a w F W => ?_
 refine Ae (Ab (wp_ret ?_))
 have H := AM H
 subst H
 refine Bl (.inl Aa) F W Aa (Av F Aa) ?_
 exact ⟨rfl, W.done⟩
theorem UQ : Has Try.prog 45 := ⟨fun args w => An Try.func45 rfl (by decide) args w⟩
noncomputable def Jg (p0 : Int × (List (Int × Int × Int × Int × Int × Int)) × (List (Int × Int))) : Option Int := (Hk p0).bind fun x1 => some (AA (p0.1 * x1))
theorem OI (Y : Nat → Prop) (w0 : World) (v1 : Value) (v2 : Value) (p0 : Int × (List (Int × Int × Int × Int × Int × Int)) × (List (Int × Int))) (r : Int) (H : Jg p0 = some r) (h_v1 : Sl w0 (NX []) FM v1 p0.2.1) (h_v2 : Sl w0 (NX []) FD v2 p0.2.2) :
    Calls Try.prog 24 #[.agg #[.int .i64 p0.1, v1, v2]] w0 fun e w' => e = .returned (.int .i64 r) ∧ Below w0.heap.size w0 w' := by
 refine enter Try.func24 Aa Try.ntmps24 Aa fun a F => ?_
 have W := Stw.start Y w0
 unfold Jg at H
 refine Ah (Ac ?_)
 refine Dr (cs := [.int .i64 p0.1, v1, v2]) F W Aa Aa Aa fun b1 a w F W => ?_
 refine ls F W Aa (Af F Aa).q fun a w F W => ?_
 refine Ae (Ab (Ah ?_))
 refine BB W MO (by kernel_rfl) ?_
 refine qs F Aa (Ai DM Aa Aa Aa T3 F Aa 0 Aa).q fun a F => ?_
 refine qs F Aa (As (v := Value.int .i64 p0.1) 0 F Aa Aa T3 Aa).q fun a F => ?_
 refine qs F Aa (As (v := Value.agg #[.int .i64 p0.1, v1, v2]) 0 F Aa Aa Iv Aa).q fun a F => ?_
 obtain ⟨x1, h1, H⟩ := Al H
 refine qs F Aa (BH (v := Value.int .i64 x1) F UQ Aa (fun w W => MJ any w (v1) (v2) p0 _ h1 (((Am h_v1) : DT _ _ _ _ _ _) w W).nx (((Am h_v2) : DT _ _ _ _ _ _) w W).nx)) fun a F => ?_
 refine qs F Aa (I5 F Aa Aa Aa).q fun a F => ?_
 refine qs F Aa (Af F Aa).q fun a F => ?_
 refine AR fun w W => ?_
 refine Ab (wp_ret ?_)
 have H := AM H
 subst H
 refine Bl (.inl Aa) F W Aa (Av F Aa) ?_
 exact ⟨rfl, W.done⟩
theorem UB : Has Try.prog 24 := ⟨fun args w => An Try.func24 rfl (by decide) args w⟩
noncomputable def Ge (p1 : List (Int × Int × Int × Int)) (p2 : Int) (x3 : Int) : (Int × Int) → Option ((Int × Int) ⊕ Int)
  | (x6, x7) => (if x7 < (p1.length : Int) then (((ix p1 x7).bind fun x10 => (if x10.1 = x3 then (ix p1 x7).bind fun x11 => some (decide (x11.2.2.2 = p2)) else some false)).bind fun x9 => (if x9 = true then some (AA (x6 + 1)) else some x6)).bind fun x8 => some (.inl (x8, AA (x7 + 1))) else some (.inr x6))
noncomputable def F6 (p0 : Int × (List (Int × Int × Int × Int × Int × Int)) × (List (Int × Int))) (p1 : List (Int × Int × Int × Int)) (p2 : Int) : (List Int × Int) → Option ((List Int × Int) ⊕ (List Int))
  | (x2, x3) => (if x3 < p0.1 then ((AE (Ge p1 p2 x3) (0, 0)).bind fun x5 => (if 0 < x5 then (JN x2 ([x3] : List Int)).bind fun x12 => some x12 else some x2)).bind fun x4 => some (.inl (x4, AA (x3 + 1))) else some (.inr x2))
noncomputable def Kp (p0 : Int × (List (Int × Int × Int × Int × Int × Int)) × (List (Int × Int))) (p1 : List (Int × Int × Int × Int)) (p2 : Int) : Option (List Int) := (AE (F6 p0 p1 p2) ([], 0)).bind fun x1 => some x1
theorem Py (Y : Nat → Prop) (w0 : World) (v1 : Value) (v2 : Value) (v3 : Value) (p0 : Int × (List (Int × Int × Int × Int × Int × Int)) × (List (Int × Int))) (p1 : List (Int × Int × Int × Int)) (p2 : Int) (r : List Int) (H : Kp p0 p1 p2 = some r) (h_v1 : Sl w0 (NX []) FM v1 p0.2.1) (h_v2 : Sl w0 (NX []) FD v2 p0.2.2) (h_v3 : Sl w0 (NX []) Da v3 p1) :
    Calls Try.prog 25 #[.agg #[.int .i64 p0.1, v1, v2], v3, .int .i64 p2] w0 fun e w' => ∃ x : Value, e = .returned (x) ∧ Stw ⟨Y, [], w0⟩ [] [row (x) 3 (Rp.int .i64) r] w' := by
 refine enter Try.func25 Aa Try.ntmps25 Aa fun a F => ?_
 have W := Stw.start Y w0
 unfold Kp at H
 refine Ah (Ac ?_)
 refine Dr (cs := [.int .i64 p0.1, v1, v2]) F W Aa Aa Aa fun b1 a w F W => ?_
 refine ls F W Aa (Af F Aa).q fun a w F W => ?_
 refine Ae (Ab (Ah (Ac ?_)))
 refine ls F W Aa (Af F Aa).q fun a w F W => ?_
 refine Ae (Ab ?_)
 obtain ⟨o1, G1, K1⟩ := Al H
 refine AC (fun a w => ∃ x1 : List Int, ∃ v4 : Value, some (x1) = some o1 ∧ Fr 48 [] [(6, .slice none 0 0), (7, v4)] a ∧ Stw ⟨Y, [], w0⟩ [(b1, [.int .i64 p0.1, v1, v2])] [row v4 3 (Rp.int .i64) x1] w) ?_ ?_
 ·
  have H := G1
  clear G1 K1
  refine Ah (Ac ?_)
  refine ls F W Aa (Af F Aa).q fun a w F W => ?_
  refine Ae (Ab (wp_block ?_))
  have W := W.nilRow 3 (Rp.int .i64)
  refine A1 H (fun s a w => ∃ v5 : Value, Fr 48 [] [(1, v3), (2, .int .i64 p2), (3, .pointer (some ⟨b1, 0, none⟩)), (6, .slice none 0 0), (7, v5), (8, .int .i64 s.2)] a ∧ Stw ⟨Y, [], w0⟩ [(b1, [.int .i64 p0.1, v1, v2])] [row v5 3 (Rp.int .i64) s.1] w) ⟨(Value.slice none 0 0), F.re ⟨rfl, Aa, Aa, Aa, Aa, Aa, trivial⟩, W⟩ fun s o a w H L2 hR => ?_
  obtain ⟨x2, x3⟩ := s
  obtain ⟨v5, F, W⟩ := hR
  have F : Fr 48 [] [(1, v3), (2, .int .i64 p2), (3, .pointer (some ⟨b1, 0, none⟩)), (6, .slice none 0 0), (7, v5), (8, .int .i64 x3)] a := F
  have W : Stw ⟨Y, [], w0⟩ [(b1, [.int .i64 p0.1, v1, v2])] [row v5 3 (Rp.int .i64) x2] w := W
  rw [F6] at H
  refine Ah (Ah (Ac ?_))
  refine ls F W Aa (Ad F Aa).q fun a w F W => ?_
  refine ls F W Aa (Ai DM Aa Aa Aa T3 F Aa 0 Aa).q fun a w F W => ?_
  refine ls F W Aa (As (v := Value.int .i64 p0.1) 0 F Aa Aa T3 Aa).q fun a w F W => ?_
  refine ls F W Aa (Bk F Aa Aa).q fun a w F W => ?_
  refine Ae (Ab ?_)
  refine Aw F Aa (fun hb => ?_) fun hb => ?_
  ·
   have H := AL (A6 hb) H
   rw [hb] at F
   clear hb
   refine wp_skip (Ab ?_)
   obtain ⟨o3, G3, K3⟩ := Al H
   refine AC (fun a w => ∃ x4 : List Int, ∃ v6 : Value, some (x4) = some o3 ∧ Fr 48 [] [(1, v3), (2, .int .i64 p2), (3, .pointer (some ⟨b1, 0, none⟩)), (6, .slice none 0 0), (7, v6), (8, .int .i64 x3)] a ∧ Stw ⟨Y, [], w0⟩ [(b1, [.int .i64 p0.1, v1, v2])] [row v6 3 (Rp.int .i64) x4] w) ?_ ?_
   ·
    have H := G3
    clear G3 K3
    refine wp_block (Ah (Ac ?_))
    refine ls F W Aa (Af F Aa).q fun a w F W => ?_
    refine Ae (Ab ?_)
    obtain ⟨o4, G4, K4⟩ := Al H
    refine AC (fun a w => ∃ x5 : Int, some (x5) = some o4 ∧ Fr 48 [] [(1, v3), (2, .int .i64 p2), (3, .pointer (some ⟨b1, 0, none⟩)), (6, .slice none 0 0), (7, v5), (8, .int .i64 x3), (9, .int .i64 x5)] a ∧ Stw ⟨Y, [], w0⟩ [(b1, [.int .i64 p0.1, v1, v2])] [row v5 3 (Rp.int .i64) x2] w) ?_ ?_
    ·
     have H := G4
     clear G4 K4
     refine Ah (Ac ?_)
     refine ls F W Aa (Af F Aa).q fun a w F W => ?_
     refine Ae (Ab (wp_block ?_))
     refine A1 H (fun s a w => Fr 48 [] [(1, v3), (2, .int .i64 p2), (3, .pointer (some ⟨b1, 0, none⟩)), (6, .slice none 0 0), (7, v5), (8, .int .i64 x3), (9, .int .i64 s.1), (10, .int .i64 s.2)] a ∧ Stw ⟨Y, [], w0⟩ [(b1, [.int .i64 p0.1, v1, v2])] [row v5 3 (Rp.int .i64) x2] w) ⟨F.re ⟨rfl, Aa, Aa, Aa, Aa, Aa, Aa, Aa, trivial⟩, W⟩ fun s o a w H L5 hR => ?_
     obtain ⟨x6, x7⟩ := s
     obtain ⟨F, W⟩ := hR
     have F : Fr 48 [] [(1, v3), (2, .int .i64 p2), (3, .pointer (some ⟨b1, 0, none⟩)), (6, .slice none 0 0), (7, v5), (8, .int .i64 x3), (9, .int .i64 x6), (10, .int .i64 x7)] a := F
     have W : Stw ⟨Y, [], w0⟩ [(b1, [.int .i64 p0.1, v1, v2])] [row v5 3 (Rp.int .i64) x2] w := W
     rw [Ge] at H
     refine Ah (Ah (Ac ?_))
     iterate 2 refine ls F W Aa (Ad F Aa).q fun a w F W => ?_
     refine ls F W Aa (BP (r := Da) (l := p1) QG Aa F Aa (Am h_v3)).q fun a w F W => ?_
     refine ls F W Aa (Bk F Aa Aa).q fun a w F W => ?_
     refine Ae (Ab ?_)
     refine Aw F Aa (fun hb => ?_) fun hb => ?_
     ·
      have H := AL (A6 hb) H
      rw [hb] at F
      clear hb
      refine wp_skip (Ab ?_)
      obtain ⟨o6, G6, K6⟩ := Al H
      refine AC (fun a w => ∃ x8 : Int, some (x8) = some o6 ∧ Fr 48 [] [(1, v3), (2, .int .i64 p2), (3, .pointer (some ⟨b1, 0, none⟩)), (6, .slice none 0 0), (7, v5), (8, .int .i64 x3), (9, .int .i64 x8), (10, .int .i64 x7)] a ∧ Stw ⟨Y, [], w0⟩ [(b1, [.int .i64 p0.1, v1, v2])] [row v5 3 (Rp.int .i64) x2] w) ?_ ?_
      ·
       have H := G6
       clear G6 K6
       refine wp_block ?_
       obtain ⟨o7, G7, K7⟩ := Al H
       refine AC (fun a w => ∃ x9 : Bool, some (x9) = some o7 ∧ Fr 48 [] [(1, v3), (2, .int .i64 p2), (3, .pointer (some ⟨b1, 0, none⟩)), (6, .slice none 0 0), (7, v5), (8, .int .i64 x3), (9, .int .i64 x6), (10, .int .i64 x7), (38, .bool x9)] a ∧ Stw ⟨Y, [], w0⟩ [(b1, [.int .i64 p0.1, v1, v2])] [row v5 3 (Rp.int .i64) x2] w) ?_ ?_
       ·
        have H := G7
        clear G7 K7
        refine Ac ?_
        iterate 2 refine ls F W Aa (Ad F Aa).q fun a w F W => ?_
        obtain ⟨x10, h1, H⟩ := Al H
        refine ls F W Aa (Ay (r := Da) Rm F Aa Aa (Am h_v3) h1).q fun a w F W => ?_
        refine ls F W Aa (Ai Mh Aa Aa Aa T3 F Aa (Fj v3 + (x7).toNat * 4) Aa).q fun a w F W => ?_
        refine ls F W Aa (Ap (y := Value.int .i64 x10.1) (j := 0) (i := x7) F Aa Aa (Am h_v3) h1 Ot.to T3 Aa).q fun a w F W => ?_
        refine ls F W Aa (Ad F Aa).q fun a w F W => ?_
        refine ls F W Aa (Cy F Aa Aa).q fun a w F W => ?_
        refine ls F W Aa (Ad F Aa).q fun a w F W => ?_
        rcases Bool.eq_false_or_eq_true (decide (x10.1 = x3)) with hb | hb
        ·
         have H := AL (A6 hb) H
         rw [hb] at F
         clear hb
         iterate 2 refine AD F W (Ag F Aa Aa Aa Aa) Aa (Ak Aa) (Ad F Aa).q fun a w F W => ?_
         obtain ⟨x11, h2, H⟩ := Al H
         refine AD F W (Ag F Aa Aa Aa Aa) Aa (Ak Aa) (Ay (r := Da) Rm F Aa Aa (Am h_v3) h2).q fun a w F W => ?_
         refine AD F W (Ag F Aa Aa Aa Aa) Aa (Ak Aa) (Ai Mh Aa Aa Aa T3 F Aa (Fj v3 + (x7).toNat * 4 + 3) Aa).q fun a w F W => ?_
         refine AD F W (Ag F Aa Aa Aa Aa) Aa (Ak Aa) (Ap (y := Value.int .i64 x11.2.2.2) (j := 3) (i := x7) F Aa Aa (Am h_v3) h2 Ot.to T3 Aa).q fun a w F W => ?_
         refine AD F W (Ag F Aa Aa Aa Aa) Aa (Ak Aa) (Ad F Aa).q fun a w F W => ?_
         refine AD F W (Ag F Aa Aa Aa Aa) Aa (Ak Aa) (Cy F Aa Aa).q fun a w F W => ?_
         refine ls F W Aa (Aq F Aa Aa Aa).q fun a w F W => ?_
         refine Ae (Ab ?_)
         exact ⟨_, H, F.re ⟨rfl, Aa, Aa, Aa, Aa, Aa, Aa, Aa, Aa, trivial⟩, W⟩
        have H := AK (A7 hb) H
        rw [hb] at F
        clear hb
        iterate 7 refine Cj F Aa Aa Aa Aa Aa Aa Aa fun a F => ?_
        refine ls F W Aa (Au F Aa Aa Aa).q fun a w F W => ?_
        refine Ae (Ab ?_)
        exact ⟨_, H, F.re ⟨rfl, Aa, Aa, Aa, Aa, Aa, Aa, Aa, Aa, trivial⟩, W⟩
       rintro a w ⟨x9, hj, F, W⟩
       have hj := AM hj
       subst hj
       have H := K7
       clear G7 K7
       refine Aw F Aa (fun hb => ?_) fun hb => ?_
       ·
        have H := AL hb H
        rw [hb] at F
        clear hb
        refine Ac ?_
        refine ls F W Aa (Ad F Aa).q fun a w F W => ?_
        refine ls F W Aa (A3 F Aa Aa Aa).q fun a w F W => ?_
        refine ls F W Aa (Af F Aa).q fun a w F W => ?_
        refine Ae (AH (Ab ?_))
        exact ⟨_, H, F.re ⟨rfl, Aa, Aa, Aa, Aa, Aa, Aa, Aa, trivial⟩, W⟩
       have H := AK (by rw [hb]; decide) H
       rw [hb] at F
       clear hb
       refine wp_skip (AH (Ab ?_))
       exact ⟨_, H, F.re ⟨rfl, Aa, Aa, Aa, Aa, Aa, Aa, Aa, trivial⟩, W⟩
      rintro a w ⟨x8, hj, F, W⟩
      have hj := AM hj
      subst hj
      have H := K6
      clear G6 K6
      refine Ac ?_
      refine ls F W Aa (Ad F Aa).q fun a w F W => ?_
      refine ls F W Aa (A3 F Aa Aa Aa).q fun a w F W => ?_
      refine ls F W Aa (Af F Aa).q fun a w F W => ?_
      refine Ae (Ab ?_)
      exact ⟨_, H, F.re ⟨rfl, Aa, Aa, Aa, Aa, Aa, Aa, Aa, trivial⟩, W⟩
     have H := AK (A7 hb) H
     rw [hb] at F
     clear hb
     refine wp_exit ?_
     iterate 2 refine A5 ?_
     refine AU (Ab ?_)
     have H := L5 _ H
     exact ⟨_, H, F.re ⟨rfl, Aa, Aa, Aa, Aa, Aa, Aa, trivial⟩, W⟩
    rintro a w ⟨x5, hj, F, W⟩
    have hj := AM hj
    subst hj
    have H := K4
    clear G4 K4
    refine Ah (Ac ?_)
    refine ls F W Aa (Ad F Aa).q fun a w F W => ?_
    refine ls F W Aa (DZ F Aa Aa).q fun a w F W => ?_
    refine Ae (Ab ?_)
    refine Aw F Aa (fun hb => ?_) fun hb => ?_
    ·
     have H := AL (A6 hb) H
     rw [hb] at F
     clear hb
     refine Ac ?_
     iterate 2 refine ls F W Aa (Ad F Aa).q fun a w F W => ?_
     refine EA (z := Value.int .i64 0) (cs := [.int .i64 x3]) (Rp.int .i64) ([x3] : List Int) F W Aa Eo Z3 Aa Aa Aa Aa Aa Aa (Fl.int.repL _ _ ([x3] : List Int)) fun v7 a w F W => ?_
     obtain ⟨x12, h3, H⟩ := Al H
     refine DY (r := (Rp.int .i64)) (i := 1) F W Aa Eo Aa Aa Aa Aa (EI W 0 Aa) h3 Aa fun v8 a w F W => ?_
     have W : Stw ⟨Y, [], w0⟩ [(b1, [.int .i64 p0.1, v1, v2])] [row v8 3 (Rp.int .i64) x12, row v7 3 (Rp.int .i64) ([x3] : List Int)] w := W
     refine ls F W Aa (Af F Aa).q fun a w F W => ?_
     refine Ae (AH (Ab ?_))
     have W := W.sub (M' := [(b1, [.int .i64 p0.1, v1, v2])]) (Z' := [row v8 3 (Rp.int .i64) x12]) (List.Sublist.refl _) (List.Sublist.cons_cons _ (List.nil_sublist _))
     exact ⟨_, (v8), H, F.re ⟨rfl, Aa, Aa, Aa, Aa, Aa, trivial⟩, W⟩
    have H := AK (A7 hb) H
    rw [hb] at F
    clear hb
    refine wp_skip (AH (Ab ?_))
    exact ⟨_, (v5), H, F.re ⟨rfl, Aa, Aa, Aa, Aa, Aa, trivial⟩, W⟩
   rintro a w ⟨x4, v6, hj, F, W⟩
   have hj := AM hj
   subst hj
   have H := K3
   clear G3 K3
   refine Ac ?_
   refine ls F W Aa (Ad F Aa).q fun a w F W => ?_
   refine ls F W Aa (A3 F Aa Aa Aa).q fun a w F W => ?_
   refine ls F W Aa (Af F Aa).q fun a w F W => ?_
   refine Ae (Ab ?_)
   exact ⟨_, H, (v6), F.re ⟨rfl, Aa, Aa, Aa, Aa, Aa, trivial⟩, W⟩
  have H := AK (A7 hb) H
  rw [hb] at F
  clear hb
  refine wp_exit ?_
  iterate 2 refine A5 ?_
  refine AU (Ab ?_)
  have H := L2 _ H
  exact ⟨_, (v5), H, F.re ⟨rfl, Aa, trivial⟩, W⟩
 rintro a w ⟨x1, v4, hj, F, W⟩
 have hj := AM hj
 subst hj
 have H := K1
 clear G1 K1
 refine Ah (Ac ?_)
 refine ls F W Aa (Ad F Aa).q fun a w F W => ?_
 refine ls F W Aa (Af F Aa).q fun a w F W => ?_
 refine Ae (Ab (wp_ret ?_))
 have H := AM H
 subst H
 refine Bl (.inl Aa) F W Aa (Av F Aa) ?_
 have W := W.sub (M' := []) (Z' := [row v4 3 (Rp.int .i64) x1]) (List.nil_sublist _) (List.Sublist.refl _)
 exact ⟨(v4), Aa, W⟩
theorem Rz : type_of% Try.underlying38 := Try.underlying38
theorem Q7 : type_of% Try.underlying72 := Try.underlying72
theorem U0 : Has Try.prog 25 := ⟨fun args w => An Try.func25 rfl (by decide) args w⟩
theorem Pd : Ty Try.prog 38 false 1 := ⟨by kernel_rfl, by kernel_rfl⟩
theorem Uf : Bt Try.prog 72 [.int .i64 0, .int .i64 0, .slice none 0 0] [(0, 1), (1, 1), (2, 1)] := ⟨⟨.agg #[.int .i64 0, .int .i64 0, .slice none 0 0], by kernel_rfl, rfl⟩, ⟨_, Q7, fun w => by kernel_rfl⟩⟩
theorem Us : (Try.prog.info? 72).bind (·.zero) = some (.agg #[.int .i64 0, .int .i64 0, .slice none 0 0]) := by kernel_rfl
abbrev J5 : Rp (Int × Int × List Int) := (Rp.pair (Rp.int .i64) (Rp.pair (Rp.int .i64) (Rp.slice (Rp.int .i64))))
theorem Sx : Et Try.prog 38 72 3 40 := Et.of Rz (by kernel_rfl) (by kernel_rfl) (by kernel_rfl) (by decide)
noncomputable def ES (p0 : Int × (List (Int × Int × Int × Int × Int × Int)) × (List (Int × Int))) (p4 : Int) (x1 : (List (Int × Int × Int × Int)) × Int) (x2 : Int) : (Int × Int × (List (Int × Int × List Int)) × Int) → Option ((Int × Int × (List (Int × Int × List Int)) × Int) ⊕ ((List (Int × Int × List Int)) × Int))
  | (x5, x6, x7, x8) => (if x6 < p0.1 then ((Kp p0 x1.1 x6).bind fun x12 => (if (x12.length : Int) = 0 then some (x5, x7, x8) else (JN x7 ([(x6, x5, x12)] : List (Int × Int × List Int))).bind fun x13 => some (AA ((AA ((AA ((AA (x5 + p4)) + p4)) + x2)) + 1), x13, AA (x5 + p4)))).bind fun (x9, x10, x11) => some (.inl (x9, AA (x6 + 1), x10, x11)) else some (.inr (x7, x8)))
noncomputable def He (p0 : Int × (List (Int × Int × Int × Int × Int × Int)) × (List (Int × Int))) (p1 : List (List Int)) (p2 : List (List Int)) (p3 : Int) (p4 : Int) (p5 : Int) : Option (((List (Int × Int × Int × Int)) × (List (Int × Int × List Int)) × Int × Int × Int × Int) × Int) := (if (decide (p3 < 0) || (decide (1099511627776 < p3) || (decide (p4 < 0) || (decide (1048576 < p4) || (decide (p5 < 0) || decide (1048576 < p5)))))) = true then some ((([] : List (Int × Int × Int × Int)), ([] : List (Int × Int × List Int)), 0, 0, 0, 0), 2) else (HT p0 p1 p2).bind fun x1 => (if x1.2 ≠ 0 then some ((([] : List (Int × Int × Int × Int)), ([] : List (Int × Int × List Int)), 0, 0, 0, 0), x1.2) else (if (x1.1.length : Int) = 0 then some ((([] : List (Int × Int × Int × Int)), ([] : List (Int × Int × List Int)), 0, 0, 0, 0), 7) else (Jg p0).bind fun x2 => (AE (ES p0 p4 x1 x2) (AA ((AA ((AA ((AA (p3 + p5)) + p4)) + x2)) + 1), 0, [], 0)).bind fun (x3, x4) => (if 1099511627776 < x4 then some ((([] : List (Int × Int × Int × Int)), ([] : List (Int × Int × List Int)), 0, 0, 0, 0), 11) else some ((x1.1, x3, p4, x2, AA ((AA (p3 + p5)) + 1), x4), 0)))))
theorem OV (Y : Nat → Prop) (w0 : World) (v1 : Value) (v2 : Value) (v3 : Value) (v4 : Value) (p0 : Int × (List (Int × Int × Int × Int × Int × Int)) × (List (Int × Int))) (p1 : List (List Int)) (p2 : List (List Int)) (p3 : Int) (p4 : Int) (p5 : Int) (r : ((List (Int × Int × Int × Int)) × (List (Int × Int × List Int)) × Int × Int × Int × Int) × Int) (H : He p0 p1 p2 p3 p4 p5 = some r) (h_v1 : Sl w0 (NX []) FM v1 p0.2.1) (h_v2 : Sl w0 (NX []) FD v2 p0.2.2) (h_v3 : Sl w0 (NX []) (Rp.slice (Rp.int .i64)) v3 p1) (h_v4 : Sl w0 (NX []) (Rp.slice (Rp.int .i64)) v4 p2) :
    Calls Try.prog 10 #[.agg #[.int .i64 p0.1, v1, v2], v3, v4, .int .i64 p3, .int .i64 p4, .int .i64 p5] w0 fun e w' => ∃ x : Value × Value, e = .returned (.tuple #[.agg #[x.1, x.2, .int .i64 r.1.2.2.1, .int .i64 r.1.2.2.2.1, .int .i64 r.1.2.2.2.2.1, .int .i64 r.1.2.2.2.2.2], .int .i64 r.2]) ∧ Stw ⟨Y, [], w0⟩ [] [row (x.1) 104 Da r.1.1, row (x.2) 72 J5 r.1.2.1] w' := by
 refine enter Try.func10 Aa Try.ntmps10 Aa fun a F => ?_
 have W := Stw.start Y w0
 obtain ⟨v5, h1, h_v3⟩ := h_v3.ex Dg
 obtain ⟨v6, h2, h_v4⟩ := h_v4.ex Dg
 unfold He at H
 refine Ah (Ac ?_)
 refine Dr (cs := [.int .i64 p0.1, v1, v2]) F W Aa Aa Aa fun b1 a w F W => ?_
 refine Cn (cs := [.slice none 0 0, .slice none 0 0, .int .i64 0, .int .i64 0, .int .i64 0, .int .i64 0]) F W Aa Tk Aa fun b2 a w F W => ?_
 refine ls F W Aa (Af F Aa).q fun a w F W => ?_
 refine Ae (Ab (Ah ?_))
 refine AC (fun a w => Fr 117 [] [(1, v3), (2, v4), (3, .int .i64 p3), (4, .int .i64 p4), (5, .int .i64 p5), (6, .pointer (some ⟨b1, 0, none⟩)), (12, .pointer (some ⟨b2, 0, none⟩)), (13, .int .i64 0), (41, .bool (decide (p3 < 0) || (decide (1099511627776 < p3) || (decide (p4 < 0) || (decide (1048576 < p4) || (decide (p5 < 0) || decide (1048576 < p5)))))))] a ∧ Stw ⟨Y, [], w0⟩ [(b2, [.slice none 0 0, .slice none 0 0, .int .i64 0, .int .i64 0, .int .i64 0, .int .i64 0]), (b1, [.int .i64 p0.1, v1, v2])] [] w) ?_ ?_
 ·
  refine Ac ?_
  refine ls F W Aa (Ad F Aa).q fun a w F W => ?_
  refine ls F W Aa (Bk F Aa Aa).q fun a w F W => ?_
  refine ls F W Aa (Ad F Aa).q fun a w F W => ?_
  rcases Bool.eq_false_or_eq_true (decide (p3 < 0)) with hb0 | hb0
  ·
   rw [hb0] at F
   iterate 2 refine Cj F Aa Aa Aa Aa Aa Aa Aa fun a F => ?_
   refine ls F W Aa (Aq F Aa Aa Aa).q fun a w F W => ?_
   refine ls F W Aa (Ad F Aa).q fun a w F W => ?_
   iterate 2 refine Cj F Aa Aa Aa Aa Aa Aa Aa fun a F => ?_
   refine ls F W Aa (Aq F Aa Aa Aa).q fun a w F W => ?_
   refine ls F W Aa (Ad F Aa).q fun a w F W => ?_
   iterate 2 refine Cj F Aa Aa Aa Aa Aa Aa Aa fun a F => ?_
   refine ls F W Aa (Aq F Aa Aa Aa).q fun a w F W => ?_
   refine ls F W Aa (Ad F Aa).q fun a w F W => ?_
   iterate 2 refine Cj F Aa Aa Aa Aa Aa Aa Aa fun a F => ?_
   refine ls F W Aa (Aq F Aa Aa Aa).q fun a w F W => ?_
   refine ls F W Aa (Ad F Aa).q fun a w F W => ?_
   iterate 2 refine Cj F Aa Aa Aa Aa Aa Aa Aa fun a F => ?_
   refine ls F W Aa (Aq F Aa Aa Aa).q fun a w F W => ?_
   refine Ae (Ab ?_)
   exact ⟨F.re ⟨rfl, Aa, Aa, Aa, Aa, Aa, Aa, Aa, (by show some (Value.bool true) = some (Value.bool (decide (p3 < 0) || (decide (1099511627776 < p3) || (decide (p4 < 0) || (decide (1048576 < p4) || (decide (p5 < 0) || decide (1048576 < p5))))))); try rw [hb0]; all_goals simp only [Bool.not_true, Bool.not_false, Bool.true_and, Bool.false_and, Bool.true_or, Bool.false_or, Bool.and_true, Bool.or_false, cond_true, cond_false]), trivial⟩, W⟩
  rw [hb0] at F
  refine AD F W (Ag F Aa Aa Aa Aa) Aa (Ak Aa) (Ad F Aa).q fun a w F W => ?_
  refine AD F W (Ag F Aa Aa Aa Aa) Aa (Ak Aa) (DZ F Aa Aa).q fun a w F W => ?_
  refine ls F W Aa (Au F Aa Aa Aa).q fun a w F W => ?_
  refine ls F W Aa (Ad F Aa).q fun a w F W => ?_
  rcases Bool.eq_false_or_eq_true (decide (1099511627776 < p3)) with hb1 | hb1
  ·
   rw [hb1] at F
   iterate 2 refine Cj F Aa Aa Aa Aa Aa Aa Aa fun a F => ?_
   refine ls F W Aa (Aq F Aa Aa Aa).q fun a w F W => ?_
   refine ls F W Aa (Ad F Aa).q fun a w F W => ?_
   iterate 2 refine Cj F Aa Aa Aa Aa Aa Aa Aa fun a F => ?_
   refine ls F W Aa (Aq F Aa Aa Aa).q fun a w F W => ?_
   refine ls F W Aa (Ad F Aa).q fun a w F W => ?_
   iterate 2 refine Cj F Aa Aa Aa Aa Aa Aa Aa fun a F => ?_
   refine ls F W Aa (Aq F Aa Aa Aa).q fun a w F W => ?_
   refine ls F W Aa (Ad F Aa).q fun a w F W => ?_
   iterate 2 refine Cj F Aa Aa Aa Aa Aa Aa Aa fun a F => ?_
   refine ls F W Aa (Aq F Aa Aa Aa).q fun a w F W => ?_
   refine Ae (Ab ?_)
   exact ⟨F.re ⟨rfl, Aa, Aa, Aa, Aa, Aa, Aa, Aa, (by show some (Value.bool true) = some (Value.bool (decide (p3 < 0) || (decide (1099511627776 < p3) || (decide (p4 < 0) || (decide (1048576 < p4) || (decide (p5 < 0) || decide (1048576 < p5))))))); try rw [hb1]; try rw [hb0]; all_goals simp only [Bool.not_true, Bool.not_false, Bool.true_and, Bool.false_and, Bool.true_or, Bool.false_or, Bool.and_true, Bool.or_false, cond_true, cond_false]), trivial⟩, W⟩
  rw [hb1] at F
  refine AD F W (Ag F Aa Aa Aa Aa) Aa (Ak Aa) (Ad F Aa).q fun a w F W => ?_
  refine AD F W (Ag F Aa Aa Aa Aa) Aa (Ak Aa) (Bk F Aa Aa).q fun a w F W => ?_
  refine ls F W Aa (Au F Aa Aa Aa).q fun a w F W => ?_
  refine ls F W Aa (Ad F Aa).q fun a w F W => ?_
  rcases Bool.eq_false_or_eq_true (decide (p4 < 0)) with hb2 | hb2
  ·
   rw [hb2] at F
   iterate 2 refine Cj F Aa Aa Aa Aa Aa Aa Aa fun a F => ?_
   refine ls F W Aa (Aq F Aa Aa Aa).q fun a w F W => ?_
   refine ls F W Aa (Ad F Aa).q fun a w F W => ?_
   iterate 2 refine Cj F Aa Aa Aa Aa Aa Aa Aa fun a F => ?_
   refine ls F W Aa (Aq F Aa Aa Aa).q fun a w F W => ?_
   refine ls F W Aa (Ad F Aa).q fun a w F W => ?_
   iterate 2 refine Cj F Aa Aa Aa Aa Aa Aa Aa fun a F => ?_
   refine ls F W Aa (Aq F Aa Aa Aa).q fun a w F W => ?_
   refine Ae (Ab ?_)
   exact ⟨F.re ⟨rfl, Aa, Aa, Aa, Aa, Aa, Aa, Aa, (by show some (Value.bool true) = some (Value.bool (decide (p3 < 0) || (decide (1099511627776 < p3) || (decide (p4 < 0) || (decide (1048576 < p4) || (decide (p5 < 0) || decide (1048576 < p5))))))); try rw [hb1]; try rw [hb0]; try rw [hb2]; all_goals simp only [Bool.not_true, Bool.not_false, Bool.true_and, Bool.false_and, Bool.true_or, Bool.false_or, Bool.and_true, Bool.or_false, cond_true, cond_false]), trivial⟩, W⟩
  rw [hb2] at F
  refine AD F W (Ag F Aa Aa Aa Aa) Aa (Ak Aa) (Ad F Aa).q fun a w F W => ?_
  refine AD F W (Ag F Aa Aa Aa Aa) Aa (Ak Aa) (DZ F Aa Aa).q fun a w F W => ?_
  refine ls F W Aa (Au F Aa Aa Aa).q fun a w F W => ?_
  refine ls F W Aa (Ad F Aa).q fun a w F W => ?_
  rcases Bool.eq_false_or_eq_true (decide (1048576 < p4)) with hb3 | hb3
  ·
   rw [hb3] at F
   iterate 2 refine Cj F Aa Aa Aa Aa Aa Aa Aa fun a F => ?_
   refine ls F W Aa (Aq F Aa Aa Aa).q fun a w F W => ?_
   refine ls F W Aa (Ad F Aa).q fun a w F W => ?_
   iterate 2 refine Cj F Aa Aa Aa Aa Aa Aa Aa fun a F => ?_
   refine ls F W Aa (Aq F Aa Aa Aa).q fun a w F W => ?_
   refine Ae (Ab ?_)
   exact ⟨F.re ⟨rfl, Aa, Aa, Aa, Aa, Aa, Aa, Aa, (by show some (Value.bool true) = some (Value.bool (decide (p3 < 0) || (decide (1099511627776 < p3) || (decide (p4 < 0) || (decide (1048576 < p4) || (decide (p5 < 0) || decide (1048576 < p5))))))); try rw [hb1]; try rw [hb3]; try rw [hb0]; try rw [hb2]; all_goals simp only [Bool.not_true, Bool.not_false, Bool.true_and, Bool.false_and, Bool.true_or, Bool.false_or, Bool.and_true, Bool.or_false, cond_true, cond_false]), trivial⟩, W⟩
  rw [hb3] at F
  refine AD F W (Ag F Aa Aa Aa Aa) Aa (Ak Aa) (Ad F Aa).q fun a w F W => ?_
  refine AD F W (Ag F Aa Aa Aa Aa) Aa (Ak Aa) (Bk F Aa Aa).q fun a w F W => ?_
  refine ls F W Aa (Au F Aa Aa Aa).q fun a w F W => ?_
  refine ls F W Aa (Ad F Aa).q fun a w F W => ?_
  rcases Bool.eq_false_or_eq_true (decide (p5 < 0)) with hb4 | hb4
  ·
   rw [hb4] at F
   iterate 2 refine Cj F Aa Aa Aa Aa Aa Aa Aa fun a F => ?_
   refine ls F W Aa (Aq F Aa Aa Aa).q fun a w F W => ?_
   refine Ae (Ab ?_)
   exact ⟨F.re ⟨rfl, Aa, Aa, Aa, Aa, Aa, Aa, Aa, (by show some (Value.bool true) = some (Value.bool (decide (p3 < 0) || (decide (1099511627776 < p3) || (decide (p4 < 0) || (decide (1048576 < p4) || (decide (p5 < 0) || decide (1048576 < p5))))))); try rw [hb1]; try rw [hb3]; try rw [hb0]; try rw [hb2]; try rw [hb4]; all_goals simp only [Bool.not_true, Bool.not_false, Bool.true_and, Bool.false_and, Bool.true_or, Bool.false_or, Bool.and_true, Bool.or_false, cond_true, cond_false]), trivial⟩, W⟩
  rw [hb4] at F
  refine AD F W (Ag F Aa Aa Aa Aa) Aa (Ak Aa) (Ad F Aa).q fun a w F W => ?_
  refine AD F W (Ag F Aa Aa Aa Aa) Aa (Ak Aa) (DZ F Aa Aa).q fun a w F W => ?_
  refine ls F W Aa (Au F Aa Aa Aa).q fun a w F W => ?_
  refine Ae (Ab ?_)
  exact ⟨F.re ⟨rfl, Aa, Aa, Aa, Aa, Aa, Aa, Aa, (by show some (Value.bool (decide (1048576 < p5))) = some (Value.bool (decide (p3 < 0) || (decide (1099511627776 < p3) || (decide (p4 < 0) || (decide (1048576 < p4) || (decide (p5 < 0) || decide (1048576 < p5))))))); try rw [hb1]; try rw [hb3]; try rw [hb0]; try rw [hb2]; try rw [hb4]; all_goals simp only [Bool.not_true, Bool.not_false, Bool.true_and, Bool.false_and, Bool.true_or, Bool.false_or, Bool.and_true, Bool.or_false, cond_true, cond_false]), trivial⟩, W⟩
 rintro a w ⟨F, W⟩
 refine Aw F Aa (fun hb => ?_) fun hb => ?_
 ·
  have H := AL hb H
  rw [hb] at F
  clear hb
  refine Ah (Ac ?_)
  refine ls F W Aa (Cg (v := Value.agg #[.slice none 0 0, .slice none 0 0, .int .i64 0, .int .i64 0, .int .i64 0, .int .i64 0]) Sv F Aa Aa Aa).q fun a w F W => ?_
  refine Br (vs := [.slice none 0 0, .slice none 0 0, .int .i64 0, .int .i64 0, .int .i64 0, .int .i64 0]) (M' := [(b2, [.slice none 0 0, .slice none 0 0, .int .i64 0, .int .i64 0, .int .i64 0, .int .i64 0]), (b1, [.int .i64 p0.1, v1, v2])]) 0 F W Aa Aa Aa O1 Aa Aa Aa Aa Aa fun w W => ?_
  refine ls F W Aa (Af F Aa).q fun a w F W => ?_
  refine Ae (Ab (wp_ret (AG ?_)))
  have H := AM H
  subst H
  refine CY (.inl Aa) F W Aa (ET 0 F Aa Aa O1 Aa) (Av F Aa) ?_
  have W := W.nilRow 104 Da
  have W := W.nilRow 72 J5
  have W := W.frontZ (i := 1) Aa Aa
  have W := W.sub (M' := []) (Z' := [row (Value.slice none 0 0) 104 Da ([]), row (Value.slice none 0 0) 72 J5 ([])]) (List.nil_sublist _) (List.Sublist.refl _)
  exact ⟨((Value.slice none 0 0), (Value.slice none 0 0)), Aa, W⟩
 have H := AK (by rw [hb]; decide) H
 rw [hb] at F
 clear hb
 refine wp_skip (Ab (Ah (Ac ?_)))
 refine ls F W Aa (As (v := Value.agg #[.int .i64 p0.1, v1, v2]) 1 F Aa Aa Iv Aa).q fun a w F W => ?_
 iterate 2 refine ls F W Aa (Ad F Aa).q fun a w F W => ?_
 obtain ⟨x1, h3, H⟩ := Al H
 refine Bp (Ml := []) (Zl := []) (M := [(b2, [.slice none 0 0, .slice none 0 0, .int .i64 0, .int .i64 0, .int .i64 0, .int .i64 0]), (b1, [.int .i64 p0.1, v1, v2])]) (Z := []) (β := Value) (rv := fun x => .tuple #[x, .int .i64 x1.2]) (MM := fun x => []) (ZZ := fun x => [row x 104 Da x1.1]) F W T8 Aa Aa (fun hL => Oa _ w (v1) (v2) (v3) (v4) p0 p1 p2 _ h3 ((Am h_v1) w W).nx ((Am h_v2) w W).nx ((BA Dg h1 (Am h_v3)) w W).nx ((BA Dg h2 (Am h_v4)) w W).nx) fun x a w F W => ?_
 obtain ⟨v7, rfl⟩ : ∃ y, y = x := ⟨x, rfl⟩
 have W : Stw ⟨Y, [], w0⟩ [(b2, [.slice none 0 0, .slice none 0 0, .int .i64 0, .int .i64 0, .int .i64 0, .int .i64 0]), (b1, [.int .i64 p0.1, v1, v2])] [row v7 104 Da x1.1] w := W
 refine ls F W Aa (Ad F Aa).q fun a w F W => ?_
 refine ls F W Aa (A0 (v := v7) F Aa Aa).q fun a w F W => ?_
 refine ls F W Aa (A0 (v := Value.int .i64 x1.2) F Aa Aa).q fun a w F W => ?_
 iterate 2 refine ls F W Aa (Af F Aa).q fun a w F W => ?_
 refine Ae (Ab (Ah (Ah (Ac ?_))))
 refine ls F W Aa (Ad F Aa).q fun a w F W => ?_
 refine ls F W Aa (Fe F Aa Aa).q fun a w F W => ?_
 refine Ae (Ab ?_)
 refine Aw F Aa (fun hb => ?_) fun hb => ?_
 ·
  have H := AL (A6 hb) H
  rw [hb] at F
  clear hb
  refine Ah (Ac ?_)
  refine ls F W Aa (Cg (v := Value.agg #[.slice none 0 0, .slice none 0 0, .int .i64 0, .int .i64 0, .int .i64 0, .int .i64 0]) Sv F Aa Aa Aa).q fun a w F W => ?_
  refine ls F W Aa (Ad F Aa).q fun a w F W => ?_
  refine Br (vs := [.slice none 0 0, .slice none 0 0, .int .i64 0, .int .i64 0, .int .i64 0, .int .i64 0]) (M' := [(b2, [.slice none 0 0, .slice none 0 0, .int .i64 0, .int .i64 0, .int .i64 0, .int .i64 0]), (b1, [.int .i64 p0.1, v1, v2])]) 0 F W Aa Aa Aa O1 Aa Aa Aa Aa Aa fun w W => ?_
  refine ls F W Aa (Af F Aa).q fun a w F W => ?_
  refine Ae (Ab (wp_ret (AG ?_)))
  have H := AM H
  subst H
  refine CY (.inl Aa) F W Aa (ET 0 F Aa Aa O1 Aa) (Av F Aa) ?_
  have W := W.nilRow 104 Da
  have W := W.nilRow 72 J5
  have W := W.frontZ (i := 1) Aa Aa
  have W := W.sub (M' := []) (Z' := [row (Value.slice none 0 0) 104 Da ([]), row (Value.slice none 0 0) 72 J5 ([])]) (List.nil_sublist _) (List.Sublist.cons_cons _ (List.Sublist.cons_cons _ (List.nil_sublist _)))
  exact ⟨((Value.slice none 0 0), (Value.slice none 0 0)), Aa, W⟩
 have H := AK (A7 hb) H
 rw [hb] at F
 clear hb
 refine wp_skip (Ab (Ah (Ah (Ac ?_))))
 refine ls F W Aa (Ad F Aa).q fun a w F W => ?_
 refine ls F W Aa (BP (r := Da) (l := x1.1) QG Aa F Aa (Ao 0 Aa)).q fun a w F W => ?_
 refine ls F W Aa (Cy F Aa Aa).q fun a w F W => ?_
 refine Ae (Ab ?_)
 refine Aw F Aa (fun hb => ?_) fun hb => ?_
 ·
  have H := AL (A6 hb) H
  rw [hb] at F
  clear hb
  refine Ah (Ac ?_)
  refine ls F W Aa (Cg (v := Value.agg #[.slice none 0 0, .slice none 0 0, .int .i64 0, .int .i64 0, .int .i64 0, .int .i64 0]) Sv F Aa Aa Aa).q fun a w F W => ?_
  refine Br (vs := [.slice none 0 0, .slice none 0 0, .int .i64 0, .int .i64 0, .int .i64 0, .int .i64 0]) (M' := [(b2, [.slice none 0 0, .slice none 0 0, .int .i64 0, .int .i64 0, .int .i64 0, .int .i64 0]), (b1, [.int .i64 p0.1, v1, v2])]) 0 F W Aa Aa Aa O1 Aa Aa Aa Aa Aa fun w W => ?_
  refine ls F W Aa (Af F Aa).q fun a w F W => ?_
  refine Ae (Ab (wp_ret (AG ?_)))
  have H := AM H
  subst H
  refine CY (.inl Aa) F W Aa (ET 0 F Aa Aa O1 Aa) (Av F Aa) ?_
  have W := W.nilRow 104 Da
  have W := W.nilRow 72 J5
  have W := W.frontZ (i := 1) Aa Aa
  have W := W.sub (M' := []) (Z' := [row (Value.slice none 0 0) 104 Da ([]), row (Value.slice none 0 0) 72 J5 ([])]) (List.nil_sublist _) (List.Sublist.cons_cons _ (List.Sublist.cons_cons _ (List.nil_sublist _)))
  exact ⟨((Value.slice none 0 0), (Value.slice none 0 0)), Aa, W⟩
 have H := AK (A7 hb) H
 rw [hb] at F
 clear hb
 refine wp_skip (Ab (Ah (Ac ?_)))
 iterate 2 refine ls F W Aa (Ad F Aa).q fun a w F W => ?_
 refine ls F W Aa (As (v := Value.agg #[.int .i64 p0.1, v1, v2]) 1 F Aa Aa Iv Aa).q fun a w F W => ?_
 obtain ⟨x2, h4, H⟩ := Al H
 refine ls F W Aa (BH (v := Value.int .i64 x2) F UB Aa (fun w W => OI any w (v1) (v2) p0 _ h4 (((Am h_v1) : DT _ _ _ _ _ _) w W).nx (((Am h_v2) : DT _ _ _ _ _ _) w W).nx)) fun a w F W => ?_
 refine ls F W Aa (Cg (v := Value.agg #[v7, .slice none 0 0, .int .i64 p4, .int .i64 x2, .int .i64 0, .int .i64 0]) Sv F Aa (A9 Aa (Cm (W.one (k := 0) Aa)) Aa (A9 Aa Aa Aa (A9 Aa Aa Aa De))) Aa).q fun a w F W => ?_
 refine Cn (cs := [.slice none 0 0, .slice none 0 0, .int .i64 0, .int .i64 0, .int .i64 0, .int .i64 0]) F W Aa Tk Aa fun b3 a w F W => ?_
 refine Br (vs := [v7, .slice none 0 0, .int .i64 p4, .int .i64 x2, .int .i64 0, .int .i64 0]) (M' := [(b3, [v7, .slice none 0 0, .int .i64 p4, .int .i64 x2, .int .i64 0, .int .i64 0]), (b2, [.slice none 0 0, .slice none 0 0, .int .i64 0, .int .i64 0, .int .i64 0, .int .i64 0]), (b1, [.int .i64 p0.1, v1, v2])]) 0 F W Aa Aa Aa O1 Aa Aa Aa (AN (W.one (k := 0) Aa) (AN Aa (AN Aa (AN Aa (AN Aa (AN Aa Em)))))) Aa fun w W => ?_
 refine Ae (Ab (Ah (Ac ?_)))
 iterate 2 refine ls F W Aa (Ad F Aa).q fun a w F W => ?_
 refine ls F W Aa (A3 F Aa Aa Aa).q fun a w F W => ?_
 refine ls F W Aa (Ad F Aa).q fun a w F W => ?_
 refine ls F W Aa (A3 F Aa Aa Aa).q fun a w F W => ?_
 refine ls F W Aa (Ai I7 Aa Aa Aa T3 F Aa 3 Aa).q fun a w F W => ?_
 refine ls F W Aa (As (v := Value.int .i64 x2) 0 F Aa Aa T3 Aa).q fun a w F W => ?_
 iterate 2 refine ls F W Aa (A3 F Aa Aa Aa).q fun a w F W => ?_
 refine ls F W Aa (Af F Aa).q fun a w F W => ?_
 refine Ae (Ab (Ah (Ac ?_)))
 iterate 2 refine ls F W Aa (Ad F Aa).q fun a w F W => ?_
 iterate 2 refine ls F W Aa (A3 F Aa Aa Aa).q fun a w F W => ?_
 refine ls F W Aa (Ai I7 Aa Aa Aa T3 F Aa 4 Aa).q fun a w F W => ?_
 refine Br (vs := [.int .i64 (AA ((AA (p3 + p5)) + 1))]) (M' := [(b3, [v7, .slice none 0 0, .int .i64 p4, .int .i64 x2, .int .i64 (AA ((AA (p3 + p5)) + 1)), .int .i64 0]), (b2, [.slice none 0 0, .slice none 0 0, .int .i64 0, .int .i64 0, .int .i64 0, .int .i64 0]), (b1, [.int .i64 p0.1, v1, v2])]) 0 F W Aa Aa Aa T3 Aa Aa Aa Aa Aa fun w W => ?_
 refine Ae (Ab ?_)
 obtain ⟨o1, G1, K1⟩ := Al H
 refine AC (fun a w => ∃ x3 : List (Int × Int × List Int), ∃ x4 : Int, ∃ v8 : Value, some ((x3, x4)) = some o1 ∧ Fr 117 [] [(12, .pointer (some ⟨b2, 0, none⟩)), (13, .int .i64 0), (16, .pointer (some ⟨b3, 0, none⟩))] a ∧ Stw ⟨Y, [], w0⟩ [(b3, [v7, v8, .int .i64 p4, .int .i64 x2, .int .i64 (AA ((AA (p3 + p5)) + 1)), .int .i64 x4]), (b2, [.slice none 0 0, .slice none 0 0, .int .i64 0, .int .i64 0, .int .i64 0, .int .i64 0]), (b1, [.int .i64 p0.1, v1, v2])] [row v7 104 Da x1.1, row v8 72 J5 x3] w) ?_ ?_
 ·
  have H := G1
  clear G1 K1
  refine Ah (Ac ?_)
  refine ls F W Aa (Af F Aa).q fun a w F W => ?_
  refine Ae (Ab (wp_block ?_))
  have W := W.nilRow 72 J5
  have W := W.frontZ (i := 1) Aa Aa
  have W := W.frontM (i := 2) Aa Aa
  have W := W.frontM (i := 2) Aa Aa
  have W := W.frontM (i := 2) Aa Aa
  refine A1 H (fun s a w => ∃ v9 : Value, Fr 117 [] [(4, .int .i64 p4), (6, .pointer (some ⟨b1, 0, none⟩)), (12, .pointer (some ⟨b2, 0, none⟩)), (13, .int .i64 0), (14, v7), (16, .pointer (some ⟨b3, 0, none⟩)), (17, .int .i64 s.1), (18, .int .i64 s.2.1)] a ∧ Stw ⟨Y, [], w0⟩ [(b3, [v7, v9, .int .i64 p4, .int .i64 x2, .int .i64 (AA ((AA (p3 + p5)) + 1)), .int .i64 s.2.2.2]), (b2, [.slice none 0 0, .slice none 0 0, .int .i64 0, .int .i64 0, .int .i64 0, .int .i64 0]), (b1, [.int .i64 p0.1, v1, v2])] [row v7 104 Da x1.1, row v9 72 J5 s.2.2.1] w) ⟨(Value.slice none 0 0), F.re ⟨rfl, Aa, Aa, Aa, Aa, Aa, Aa, Aa, trivial⟩, W⟩ fun s o a w H L2 hR => ?_
  obtain ⟨x5, x6, x7, x8⟩ := s
  obtain ⟨v9, F, W⟩ := hR
  have F : Fr 117 [] [(4, .int .i64 p4), (6, .pointer (some ⟨b1, 0, none⟩)), (12, .pointer (some ⟨b2, 0, none⟩)), (13, .int .i64 0), (14, v7), (16, .pointer (some ⟨b3, 0, none⟩)), (17, .int .i64 x5), (18, .int .i64 x6)] a := F
  have W : Stw ⟨Y, [], w0⟩ [(b3, [v7, v9, .int .i64 p4, .int .i64 x2, .int .i64 (AA ((AA (p3 + p5)) + 1)), .int .i64 x8]), (b2, [.slice none 0 0, .slice none 0 0, .int .i64 0, .int .i64 0, .int .i64 0, .int .i64 0]), (b1, [.int .i64 p0.1, v1, v2])] [row v7 104 Da x1.1, row v9 72 J5 x7] w := W
  rw [ES] at H
  refine Ah (Ah (Ac ?_))
  refine ls F W Aa (Ad F Aa).q fun a w F W => ?_
  refine ls F W Aa (Ai DM Aa Aa Aa T3 F Aa 0 Aa).q fun a w F W => ?_
  refine ls F W Aa (As (v := Value.int .i64 p0.1) 2 F Aa Aa T3 Aa).q fun a w F W => ?_
  refine ls F W Aa (Bk F Aa Aa).q fun a w F W => ?_
  refine Ae (Ab ?_)
  refine Aw F Aa (fun hb => ?_) fun hb => ?_
  ·
   have H := AL (A6 hb) H
   rw [hb] at F
   clear hb
   refine wp_skip (Ab ?_)
   obtain ⟨o3, G3, K3⟩ := Al H
   refine AC (fun a w => ∃ x9 : Int, ∃ x10 : List (Int × Int × List Int), ∃ x11 : Int, ∃ v10 : Value, some ((x9, x10, x11)) = some o3 ∧ Fr 117 [] [(4, .int .i64 p4), (6, .pointer (some ⟨b1, 0, none⟩)), (12, .pointer (some ⟨b2, 0, none⟩)), (13, .int .i64 0), (14, v7), (16, .pointer (some ⟨b3, 0, none⟩)), (17, .int .i64 x9), (18, .int .i64 x6)] a ∧ Stw ⟨Y, [], w0⟩ [(b3, [v7, v10, .int .i64 p4, .int .i64 x2, .int .i64 (AA ((AA (p3 + p5)) + 1)), .int .i64 x11]), (b2, [.slice none 0 0, .slice none 0 0, .int .i64 0, .int .i64 0, .int .i64 0, .int .i64 0]), (b1, [.int .i64 p0.1, v1, v2])] [row v7 104 Da x1.1, row v10 72 J5 x10] w) ?_ ?_
   ·
    have H := G3
    clear G3 K3
    refine wp_block (Ah (Ac ?_))
    refine ls F W Aa (As (v := Value.agg #[.int .i64 p0.1, v1, v2]) 2 F Aa Aa Iv Aa).q fun a w F W => ?_
    iterate 2 refine ls F W Aa (Ad F Aa).q fun a w F W => ?_
    obtain ⟨x12, h5, H⟩ := Al H
    refine Bp (Ml := []) (Zl := []) (M := [(b3, [v7, v9, .int .i64 p4, .int .i64 x2, .int .i64 (AA ((AA (p3 + p5)) + 1)), .int .i64 x8]), (b2, [.slice none 0 0, .slice none 0 0, .int .i64 0, .int .i64 0, .int .i64 0, .int .i64 0]), (b1, [.int .i64 p0.1, v1, v2])]) (Z := [row v7 104 Da x1.1, row v9 72 J5 x7]) (β := Value) (rv := fun x => x) (MM := fun x => []) (ZZ := fun x => [row x 3 (Rp.int .i64) x12]) F W U0 Aa Aa (fun hL => Py _ w (v1) (v2) (v7) p0 x1.1 x6 _ h5 ((Am h_v1) w W).nx ((Am h_v2) w W).nx ((Ao 0 Aa) w W).nx) fun x a w F W => ?_
    obtain ⟨v11, rfl⟩ : ∃ y, y = x := ⟨x, rfl⟩
    have W : Stw ⟨Y, [], w0⟩ [(b3, [v7, v9, .int .i64 p4, .int .i64 x2, .int .i64 (AA ((AA (p3 + p5)) + 1)), .int .i64 x8]), (b2, [.slice none 0 0, .slice none 0 0, .int .i64 0, .int .i64 0, .int .i64 0, .int .i64 0]), (b1, [.int .i64 p0.1, v1, v2])] [row v11 3 (Rp.int .i64) x12, row v7 104 Da x1.1, row v9 72 J5 x7] w := W
    refine ls F W Aa (Af F Aa).q fun a w F W => ?_
    refine Ae (Ab (Ah (Ah (Ac ?_))))
    refine ls F W Aa (Ad F Aa).q fun a w F W => ?_
    refine ls F W Aa (BP (r := (Rp.int .i64)) (l := x12) Hm Aa F Aa (Ao 0 Aa)).q fun a w F W => ?_
    refine ls F W Aa (Cy F Aa Aa).q fun a w F W => ?_
    refine Ae (Ab ?_)
    refine Aw F Aa (fun hb => ?_) fun hb => ?_
    ·
     have H := AL (A6 hb) H
     rw [hb] at F
     clear hb
     refine wp_exit (A5 (AU (Ab ?_)))
     have W := W.frontZ (i := 2) Aa Aa
     have W := W.frontZ (i := 2) Aa Aa
     have W := W.frontM (i := 2) Aa Aa
     have W := W.frontM (i := 2) Aa Aa
     have W := W.frontM (i := 2) Aa Aa
     have W := W.sub (M' := [(b3, [v7, v9, .int .i64 p4, .int .i64 x2, .int .i64 (AA ((AA (p3 + p5)) + 1)), .int .i64 x8]), (b2, [.slice none 0 0, .slice none 0 0, .int .i64 0, .int .i64 0, .int .i64 0, .int .i64 0]), (b1, [.int .i64 p0.1, v1, v2])]) (Z' := [row v7 104 Da x1.1, row v9 72 J5 x7]) (List.Sublist.refl _) (List.Sublist.cons_cons _ (List.Sublist.cons_cons _ (List.nil_sublist _)))
     exact ⟨_, _, _, (v9), H, F.re ⟨rfl, Aa, Aa, Aa, Aa, Aa, Aa, Aa, trivial⟩, W⟩
    have H := AK (A7 hb) H
    rw [hb] at F
    clear hb
    refine wp_skip (Ab (Ah (Ac ?_)))
    refine ls F W Aa (Ai I7 Aa Aa Aa Pd F Aa 1 Aa).q fun a w F W => ?_
    refine ls F W Aa (As (v := v9) 0 F Aa Aa Pd Aa).q fun a w F W => ?_
    iterate 3 refine ls F W Aa (Ad F Aa).q fun a w F W => ?_
    refine ls F W Aa (Cg (v := Value.agg #[.int .i64 x6, .int .i64 x5, v11]) Uf F Aa (A9 Aa Aa Aa (A9 Aa Aa Aa (A9 Aa (Cm (W.one (k := 0) Aa)) Aa De))) Aa).q fun a w F W => ?_
    have W := W.freeze
    refine EA (z := Value.agg #[.int .i64 0, .int .i64 0, .slice none 0 0]) (cs := [.int .i64 x6, .int .i64 x5, v11]) J5 ([(x6, x5, x12)] : List (Int × Int × List Int)) F W Aa Sx Us Aa Aa Aa (A9 Aa Aa Aa De) Aa Aa ⟨[Value.int .i64 x6, Value.int .i64 x5, v11], _, Aa, ⟨[Value.int .i64 x6], [Value.int .i64 x5, v11], Aa, Aa, ⟨[Value.int .i64 x5], [v11], Aa, Aa, ⟨_, Aa, (W.item (i := 0) Aa)⟩⟩⟩, Aa⟩ fun v12 a w F W => ?_
    obtain ⟨x13, h6, H⟩ := Al H
    refine DY (r := J5) (i := 3) F W Aa Sx Aa Aa Aa Aa (EI W 0 Aa) h6 Aa fun v13 a w F W => ?_
    have W : Stw ⟨Y, [], w0⟩ [(b3, [v7, v9, .int .i64 p4, .int .i64 x2, .int .i64 (AA ((AA (p3 + p5)) + 1)), .int .i64 x8]), (b2, [.slice none 0 0, .slice none 0 0, .int .i64 0, .int .i64 0, .int .i64 0, .int .i64 0]), (b1, [.int .i64 p0.1, v1, v2])] [row v13 72 J5 x13, row v12 72 J5 ([(x6, x5, x12)] : List (Int × Int × List Int)), JE v11 (Rp.int .i64) x12, row v7 104 Da x1.1] w := W
    refine ls F W Aa (Ai I7 Aa Aa Aa Pd F Aa 1 Aa).q fun a w F W => ?_
    refine Oe (M' := [(b3, [v7, v13, .int .i64 p4, .int .i64 x2, .int .i64 (AA ((AA (p3 + p5)) + 1)), .int .i64 x8]), (b2, [.slice none 0 0, .slice none 0 0, .int .i64 0, .int .i64 0, .int .i64 0, .int .i64 0]), (b1, [.int .i64 p0.1, v1, v2])]) 0 F W Aa Aa Aa Pd (W.one (k := 0) Aa) Aa Aa fun w W => ?_
    refine Ae (Ab (Ah (Ac ?_)))
    iterate 2 refine ls F W Aa (Ad F Aa).q fun a w F W => ?_
    refine ls F W Aa (A3 F Aa Aa Aa).q fun a w F W => ?_
    refine ls F W Aa (Ai I7 Aa Aa Aa T3 F Aa 5 Aa).q fun a w F W => ?_
    refine Br (vs := [.int .i64 (AA (x5 + p4))]) (M' := [(b3, [v7, v13, .int .i64 p4, .int .i64 x2, .int .i64 (AA ((AA (p3 + p5)) + 1)), .int .i64 (AA (x5 + p4))]), (b2, [.slice none 0 0, .slice none 0 0, .int .i64 0, .int .i64 0, .int .i64 0, .int .i64 0]), (b1, [.int .i64 p0.1, v1, v2])]) 0 F W Aa Aa Aa T3 Aa Aa Aa Aa Aa fun w W => ?_
    refine Ae (Ab (Ac ?_))
    iterate 2 refine ls F W Aa (Ad F Aa).q fun a w F W => ?_
    refine ls F W Aa (A3 F Aa Aa Aa).q fun a w F W => ?_
    refine ls F W Aa (Ad F Aa).q fun a w F W => ?_
    refine ls F W Aa (A3 F Aa Aa Aa).q fun a w F W => ?_
    refine ls F W Aa (Ai I7 Aa Aa Aa T3 F Aa 3 Aa).q fun a w F W => ?_
    refine ls F W Aa (As (v := Value.int .i64 x2) 0 F Aa Aa T3 Aa).q fun a w F W => ?_
    iterate 2 refine ls F W Aa (A3 F Aa Aa Aa).q fun a w F W => ?_
    refine ls F W Aa (Af F Aa).q fun a w F W => ?_
    refine Ae (AH (Ab ?_))
    have W := W.frontZ (i := 3) Aa Aa
    have W := W.frontM (i := 2) Aa Aa
    have W := W.frontM (i := 2) Aa Aa
    have W := W.frontM (i := 2) Aa Aa
    have W := W.sub (M' := [(b3, [v7, v13, .int .i64 p4, .int .i64 x2, .int .i64 (AA ((AA (p3 + p5)) + 1)), .int .i64 (AA (x5 + p4))]), (b2, [.slice none 0 0, .slice none 0 0, .int .i64 0, .int .i64 0, .int .i64 0, .int .i64 0]), (b1, [.int .i64 p0.1, v1, v2])]) (Z' := [row v7 104 Da x1.1, row v13 72 J5 x13]) (List.Sublist.refl _) (List.Sublist.cons_cons _ (List.Sublist.cons_cons _ (List.nil_sublist _)))
    exact ⟨_, _, _, (v13), H, F.re ⟨rfl, Aa, Aa, Aa, Aa, Aa, Aa, Aa, trivial⟩, W⟩
   rintro a w ⟨x9, x10, x11, v10, hj, F, W⟩
   have hj := AM hj
   subst hj
   have H := K3
   clear G3 K3
   refine Ac ?_
   refine ls F W Aa (Ad F Aa).q fun a w F W => ?_
   refine ls F W Aa (A3 F Aa Aa Aa).q fun a w F W => ?_
   refine ls F W Aa (Af F Aa).q fun a w F W => ?_
   refine Ae (Ab ?_)
   have W := W.frontZ (i := 1) Aa Aa
   have W := W.frontZ (i := 1) Aa Aa
   have W := W.frontM (i := 2) Aa Aa
   have W := W.frontM (i := 2) Aa Aa
   have W := W.frontM (i := 2) Aa Aa
   exact ⟨_, H, (v10), F.re ⟨rfl, Aa, Aa, Aa, Aa, Aa, Aa, Aa, trivial⟩, W⟩
  have H := AK (A7 hb) H
  rw [hb] at F
  clear hb
  refine wp_exit ?_
  iterate 2 refine A5 ?_
  refine AU (Ab ?_)
  have W := W.frontZ (i := 1) Aa Aa
  have W := W.frontZ (i := 1) Aa Aa
  have W := W.frontM (i := 2) Aa Aa
  have W := W.frontM (i := 2) Aa Aa
  have W := W.frontM (i := 2) Aa Aa
  have H := L2 _ H
  exact ⟨_, _, (v9), H, F.re ⟨rfl, Aa, Aa, trivial⟩, W⟩
 rintro a w ⟨x3, x4, v8, hj, F, W⟩
 have hj := AM hj
 subst hj
 have H := K1
 clear G1 K1
 refine Ah (Ah (Ac ?_))
 refine ls F W Aa (Ai I7 Aa Aa Aa T3 F Aa 5 Aa).q fun a w F W => ?_
 refine ls F W Aa (As (v := Value.int .i64 x4) 0 F Aa Aa T3 Aa).q fun a w F W => ?_
 refine ls F W Aa (DZ F Aa Aa).q fun a w F W => ?_
 refine Ae (Ab ?_)
 refine Aw F Aa (fun hb => ?_) fun hb => ?_
 ·
  have H := AL (A6 hb) H
  rw [hb] at F
  clear hb
  refine Ah (Ac ?_)
  refine ls F W Aa (Cg (v := Value.agg #[.slice none 0 0, .slice none 0 0, .int .i64 0, .int .i64 0, .int .i64 0, .int .i64 0]) Sv F Aa Aa Aa).q fun a w F W => ?_
  refine Br (vs := [.slice none 0 0, .slice none 0 0, .int .i64 0, .int .i64 0, .int .i64 0, .int .i64 0]) (M' := [(b3, [v7, v8, .int .i64 p4, .int .i64 x2, .int .i64 (AA ((AA (p3 + p5)) + 1)), .int .i64 x4]), (b2, [.slice none 0 0, .slice none 0 0, .int .i64 0, .int .i64 0, .int .i64 0, .int .i64 0]), (b1, [.int .i64 p0.1, v1, v2])]) 1 F W Aa Aa Aa O1 Aa Aa Aa Aa Aa fun w W => ?_
  refine ls F W Aa (Af F Aa).q fun a w F W => ?_
  refine Ae (Ab (wp_ret (AG ?_)))
  have H := AM H
  subst H
  refine CY (.inl Aa) F W Aa (ET 1 F Aa Aa O1 Aa) (Av F Aa) ?_
  have W := W.nilRow 104 Da
  have W := W.nilRow 72 J5
  have W := W.frontZ (i := 1) Aa Aa
  have W := W.sub (M' := []) (Z' := [row (Value.slice none 0 0) 104 Da ([]), row (Value.slice none 0 0) 72 J5 ([])]) (List.nil_sublist _) (List.Sublist.cons_cons _ (List.Sublist.cons_cons _ (List.nil_sublist _)))
  exact ⟨((Value.slice none 0 0), (Value.slice none 0 0)), Aa, W⟩
 have H := AK (A7 hb) H
 rw [hb] at F
 clear hb
 refine wp_skip (Ab (Ah (Ac ?_)))
 refine ls F W Aa (As (v := Value.agg #[v7, v8, .int .i64 p4, .int .i64 x2, .int .i64 (AA ((AA (p3 + p5)) + 1)), .int .i64 x4]) 0 F Aa Aa O1 Aa).q fun a w F W => ?_
 refine Br (vs := [v7, v8, .int .i64 p4, .int .i64 x2, .int .i64 (AA ((AA (p3 + p5)) + 1)), .int .i64 x4]) (M' := [(b3, [v7, v8, .int .i64 p4, .int .i64 x2, .int .i64 (AA ((AA (p3 + p5)) + 1)), .int .i64 x4]), (b2, [v7, v8, .int .i64 p4, .int .i64 x2, .int .i64 (AA ((AA (p3 + p5)) + 1)), .int .i64 x4]), (b1, [.int .i64 p0.1, v1, v2])]) 1 F W Aa Aa Aa O1 Aa Aa Aa (AN (W.one (k := 0) Aa) (AN (W.one (k := 1) Aa) (AN Aa (AN Aa (AN Aa (AN Aa Em)))))) Aa fun w W => ?_
 refine ls F W Aa (Af F Aa).q fun a w F W => ?_
 refine Ae (Ab (wp_ret ?_))
 have H := AM H
 subst H
 refine CY (.inl Aa) F W Aa (ET 1 F Aa Aa O1 Aa) (Av F Aa) ?_
 have W := W.frontZ (i := 1) Aa Aa
 have W := W.frontZ (i := 1) Aa Aa
 have W := W.sub (M' := []) (Z' := [row v7 104 Da x1.1, row v8 72 J5 x3]) (List.nil_sublist _) (List.Sublist.refl _)
 exact ⟨((v7), (v8)), Aa, W⟩
end Go.Proofs.Ytjcaadbafjgefaa
