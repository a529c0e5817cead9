/- The functions of layer 42, FF. Conditions: none. -/
import Derived.Test.YtflaelbmglmmcaadA5
namespace Go.Proofs.Ytflaelbmglmmcaa
open Go Go.RowKit
set_option linter.unusedVariables false
set_option linter.unusedSimpArgs false
set_option maxRecDepth 20000
theorem QK : Has Try.prog 38 := ⟨fun args w => Al Try.func38 rfl (by decide) args w⟩
noncomputable def Ct (p0 : Int × (List (Int × Int × Int × Int × Int × Int)) × (List (Int × Int))) (p1 : List (List Int)) (p2 : Int) (p3 : Int) : (List Int × Int) → Option ((List Int × Int) ⊕ (Unit ⊕ (List Int × Int)))
  | (x3, x4) => (if x4 < p0.1 then (DT p0 p1 p2 p3 x4).bind fun x5 => (if x5.1 = (-1) then some (.inr (.inr (([] : List Int), 13))) else (FR x3 ([x5.1] : List Int)).bind fun x6 => (if x5.2 = true then some (.inr (.inr (x6, 0))) else some (.inl (x6, Dz (x4 + 1))))) else some (.inr (.inl ())))
noncomputable def Eo (p0 : Int × (List (Int × Int × Int × Int × Int × Int)) × (List (Int × Int))) (p1 : List (List Int)) (p2 : Int) (p3 : Int) : Option (List Int × Int) := ((Gg p0 p1).bind fun x2 => (if (!x2) = true then some true else (if p2 < 0 then some true else (if (p1.length : Int) ≤ p2 then some true else (if p3 < 0 then some true else some (decide ((p0.2.2.length : Int) ≤ p3))))))).bind fun x1 => (if x1 = true then some (([] : List Int), 2) else D6 (AM (Ct p0 p1 p2 p3) ([], 0)) fun _ => (DT p0 p1 p2 p3 p0.1).bind fun x7 => (if x7.1 = (-1) then some (([] : List Int), 13) else some (([] : List Int), 12)))
theorem L7 (Y : Nat → Prop) (w0 : World) (v1 : Value) (v2 : Value) (v3 : Value) (p0 : Int × (List (Int × Int × Int × Int × Int × Int)) × (List (Int × Int))) (p1 : List (List Int)) (p2 : Int) (p3 : Int) (r : List Int × Int) (H : Eo p0 p1 p2 p3 = some r) (h_v1 : Sl w0 (NX []) C8 v1 p0.2.1) (h_v2 : Sl w0 (NX []) EL v2 p0.2.2) (h_v3 : Sl w0 (NX []) (Rp.slice (Rp.int .i64)) v3 p1) :
    Calls Try.prog 22 #[.agg #[.int .i64 p0.1, v1, v2], v3, .int .i64 p2, .int .i64 p3] w0 fun e w' => ∃ x : Value, e = .returned (.tuple #[x, .int .i64 r.2]) ∧ Stw ⟨Y, [], w0⟩ [] [row (x) 3 (Rp.int .i64) r.1] w' := by
 refine enter Try.func22 Aa Try.ntmps22 Aa fun a F => ?_
 have W := Stw.start Y w0
 obtain ⟨v4, h1, h_v3⟩ := h_v3.ex Ep
 unfold Eo at H
 refine Ai (Ac ?_)
 refine B9 (cs := [.int .i64 p0.1, v1, v2]) F W Aa Aa Aa fun b1 a w F W => ?_
 iterate 2 refine ls F W Aa (Ah F Aa).q fun a w F W => ?_
 refine Ad (Ab (Ai ?_))
 obtain ⟨o1, G1, K1⟩ := An H
 refine AB (fun a w => ∃ x1 : Bool, some (x1) = some o1 ∧ Fr 76 [] [(1, v3), (2, .int .i64 p2), (3, .int .i64 p3), (4, .pointer (some ⟨b1, 0, none⟩)), (8, .slice none 0 0), (9, .int .i64 0), (40, .bool x1)] a ∧ Stw ⟨Y, [], w0⟩ [(b1, [.int .i64 p0.1, v1, v2])] [] w) ?_ ?_
 ·
  have H := G1
  clear G1 K1
  refine Ac ?_
  refine ls F W Aa (Am (v := Value.agg #[.int .i64 p0.1, v1, v2]) 0 F Aa Aa HW Aa).q fun a w F W => ?_
  refine ls F W Aa (Ag F Aa).q fun a w F W => ?_
  obtain ⟨x2, h2, H⟩ := An H
  refine ls F W Aa (Bl (v := Value.bool x2) F Rh Aa (fun w W => Ld any w (v1) (v2) (v3) p0 p1 _ h2 (((Aj h_v1) : CH _ _ _ _ _ _) w W).nx (((Aj h_v2) : CH _ _ _ _ _ _) w W).nx (((BA Ep h1 (Aj h_v3)) : CH _ _ _ _ _ _) w W).nx)) fun a w F W => ?_
  refine ls F W Aa (E5 F Aa).q fun a w F W => ?_
  refine ls F W Aa (Ag F Aa).q fun a w F W => ?_
  rcases Bool.eq_false_or_eq_true (!x2) with hb | hb
  ·
   have H := AK hb H
   rw [hb] at F
   clear hb
   iterate 2 refine B4 F Aa Aa Aa Aa Aa Aa Aa fun a F => ?_
   refine ls F W Aa (Ao F Aa Aa Aa).q fun a w F W => ?_
   refine ls F W Aa (Ag F Aa).q fun a w F W => ?_
   iterate 4 refine B4 F Aa Aa Aa Aa Aa Aa Aa fun a F => ?_
   refine ls F W Aa (Ao F Aa Aa Aa).q fun a w F W => ?_
   refine ls F W Aa (Ag F Aa).q fun a w F W => ?_
   iterate 2 refine B4 F Aa Aa Aa Aa Aa Aa Aa fun a F => ?_
   refine ls F W Aa (Ao F Aa Aa Aa).q fun a w F W => ?_
   refine ls F W Aa (Ag F Aa).q fun a w F W => ?_
   iterate 5 refine B4 F Aa Aa Aa Aa Aa Aa Aa fun a F => ?_
   refine ls F W Aa (Ao F Aa Aa Aa).q fun a w F W => ?_
   refine Ad (Ab ?_)
   exact ⟨_, H, F.re ⟨rfl, Aa, Aa, Aa, Aa, Aa, Aa, trivial⟩, W⟩
  have H := AL (by rw [hb]; decide) H
  rw [hb] at F
  clear hb
  refine Ay F W (Ae F Aa Aa Aa Aa) Aa (Ak Aa) (Ag F Aa).q fun a w F W => ?_
  refine Ay F W (Ae F Aa Aa Aa Aa) Aa (Ak Aa) (Bi F Aa Aa).q fun a w F W => ?_
  refine ls F W Aa (Av F Aa Aa Aa).q fun a w F W => ?_
  refine ls F W Aa (Ag F Aa).q fun a w F W => ?_
  rcases Bool.eq_false_or_eq_true (decide (p2 < 0)) with hb | hb
  ·
   have H := AK (Bd hb) H
   rw [hb] at F
   clear hb
   iterate 4 refine B4 F Aa Aa Aa Aa Aa Aa Aa fun a F => ?_
   refine ls F W Aa (Ao F Aa Aa Aa).q fun a w F W => ?_
   refine ls F W Aa (Ag F Aa).q fun a w F W => ?_
   iterate 2 refine B4 F Aa Aa Aa Aa Aa Aa Aa fun a F => ?_
   refine ls F W Aa (Ao F Aa Aa Aa).q fun a w F W => ?_
   refine ls F W Aa (Ag F Aa).q fun a w F W => ?_
   iterate 5 refine B4 F Aa Aa Aa Aa Aa Aa Aa fun a F => ?_
   refine ls F W Aa (Ao F Aa Aa Aa).q fun a w F W => ?_
   refine Ad (Ab ?_)
   exact ⟨_, H, F.re ⟨rfl, Aa, Aa, Aa, Aa, Aa, Aa, trivial⟩, W⟩
  have H := AL (Bc hb) H
  rw [hb] at F
  clear hb
  iterate 2 refine Ay F W (Ae F Aa Aa Aa Aa) Aa (Ak Aa) (Ag F Aa).q fun a w F W => ?_
  refine Ay F W (Ae F Aa Aa Aa Aa) Aa (Ak Aa) (A6 (r := (Rp.slice (Rp.int .i64))) (l := p1) JM Aa F Aa (BA Ep h1 (Aj h_v3))).q fun a w F W => ?_
  refine Ay F W (Ae F Aa Aa Aa Aa) Aa (Ak Aa) (DH F Aa Aa).q fun a w F W => ?_
  refine ls F W Aa (Av F Aa Aa Aa).q fun a w F W => ?_
  refine ls F W Aa (Ag F Aa).q fun a w F W => ?_
  rcases Bool.eq_false_or_eq_true (decide ((p1.length : Int) ≤ p2)) with hb | hb
  ·
   have H := AK (Bd hb) H
   rw [hb] at F
   clear hb
   iterate 2 refine B4 F Aa Aa Aa Aa Aa Aa Aa fun a F => ?_
   refine ls F W Aa (Ao F Aa Aa Aa).q fun a w F W => ?_
   refine ls F W Aa (Ag F Aa).q fun a w F W => ?_
   iterate 5 refine B4 F Aa Aa Aa Aa Aa Aa Aa fun a F => ?_
   refine ls F W Aa (Ao F Aa Aa Aa).q fun a w F W => ?_
   refine Ad (Ab ?_)
   exact ⟨_, H, F.re ⟨rfl, Aa, Aa, Aa, Aa, Aa, Aa, trivial⟩, W⟩
  have H := AL (Bc hb) H
  rw [hb] at F
  clear hb
  refine Ay F W (Ae F Aa Aa Aa Aa) Aa (Ak Aa) (Ag F Aa).q fun a w F W => ?_
  refine Ay F W (Ae F Aa Aa Aa Aa) Aa (Ak Aa) (Bi F Aa Aa).q fun a w F W => ?_
  refine ls F W Aa (Av F Aa Aa Aa).q fun a w F W => ?_
  refine ls F W Aa (Ag F Aa).q fun a w F W => ?_
  rcases Bool.eq_false_or_eq_true (decide (p3 < 0)) with hb | hb
  ·
   have H := AK (Bd hb) H
   rw [hb] at F
   clear hb
   iterate 5 refine B4 F Aa Aa Aa Aa Aa Aa Aa fun a F => ?_
   refine ls F W Aa (Ao F Aa Aa Aa).q fun a w F W => ?_
   refine Ad (Ab ?_)
   exact ⟨_, H, F.re ⟨rfl, Aa, Aa, Aa, Aa, Aa, Aa, trivial⟩, W⟩
  have H := AL (Bc hb) H
  rw [hb] at F
  clear hb
  refine Ay F W (Ae F Aa Aa Aa Aa) Aa (Ak Aa) (Ag F Aa).q fun a w F W => ?_
  refine Ay F W (Ae F Aa Aa Aa Aa) Aa (Ak Aa) (Af Dg Aa Aa Aa GW F Aa 2 Aa).q fun a w F W => ?_
  refine Ay F W (Ae F Aa Aa Aa Aa) Aa (Ak Aa) (Am (v := v2) 0 F Aa Aa GW Aa).q fun a w F W => ?_
  refine Ay F W (Ae F Aa Aa Aa Aa) Aa (Ak Aa) (A6 (r := EL) (l := p0.2.2) IK Aa F Aa (Aj h_v2)).q fun a w F W => ?_
  refine Ay F W (Ae F Aa Aa Aa Aa) Aa (Ak Aa) (DH F Aa Aa).q fun a w F W => ?_
  refine ls F W Aa (Av F Aa Aa Aa).q fun a w F W => ?_
  refine Ad (Ab ?_)
  exact ⟨_, H, F.re ⟨rfl, Aa, Aa, Aa, Aa, Aa, Aa, trivial⟩, W⟩
 rintro a w ⟨x1, hj, F, W⟩
 have hj := AN hj
 subst hj
 have H := K1
 clear G1 K1
 refine Ax F Aa (fun hb => ?_) fun hb => ?_
 ·
  have H := AK hb H
  rw [hb] at F
  clear hb
  refine Ai (Ac ?_)
  iterate 2 refine ls F W Aa (Ah F Aa).q fun a w F W => ?_
  refine Ad (Ab (AA (AD ?_)))
  have H := AN H
  subst H
  refine EJ (.inl Aa) F W Aa (As F Aa) (As F Aa) ?_
  have W := W.nilRow 3 (Rp.int .i64)
  have W := W.sub (M' := []) (Z' := [row (Value.slice none 0 0) 3 (Rp.int .i64) ([])]) (List.nil_sublist _) (List.Sublist.refl _)
  exact ⟨(Value.slice none 0 0), Aa, W⟩
 have H := AL (by rw [hb]; decide) H
 rw [hb] at F
 clear hb
 refine Ap (Ab (Ai (Ac ?_)))
 refine ls F W Aa (Ah F Aa).q fun a w F W => ?_
 refine Ad (Ab ?_)
 obtain ⟨o2, G2, K2, L2⟩ := H4 H
 refine AB (fun a w => some (Sum.inl ()) = some o2 ∧ Fr 76 [] [(1, v3), (2, .int .i64 p2), (3, .int .i64 p3), (4, .pointer (some ⟨b1, 0, none⟩)), (8, .slice none 0 0), (9, .int .i64 0)] a ∧ Stw ⟨Y, [], w0⟩ [(b1, [.int .i64 p0.1, v1, v2])] [] w) ?_ ?_
 ·
  have H := G2
  clear G2 K2
  refine Ai (Ac ?_)
  refine ls F W Aa (Ah F Aa).q fun a w F W => ?_
  refine Ad (Ab (Au ?_))
  have W := W.nilRow 3 (Rp.int .i64)
  refine Bf H (fun s a w => ∃ v5 : Value, Fr 76 [] [(1, v3), (2, .int .i64 p2), (3, .int .i64 p3), (4, .pointer (some ⟨b1, 0, none⟩)), (8, .slice none 0 0), (9, .int .i64 0), (10, v5), (11, .int .i64 s.2)] a ∧ Stw ⟨Y, [], w0⟩ [(b1, [.int .i64 p0.1, v1, v2])] [row v5 3 (Rp.int .i64) s.1] w) ⟨(Value.slice none 0 0), F.re ⟨rfl, Aa, Aa, Aa, Aa, Aa, Aa, Aa, trivial⟩, W⟩ fun s o a w H L3 hR => ?_
  obtain ⟨x3, x4⟩ := s
  obtain ⟨v5, F, W⟩ := hR
  have F : Fr 76 [] [(1, v3), (2, .int .i64 p2), (3, .int .i64 p3), (4, .pointer (some ⟨b1, 0, none⟩)), (8, .slice none 0 0), (9, .int .i64 0), (10, v5), (11, .int .i64 x4)] a := F
  have W : Stw ⟨Y, [], w0⟩ [(b1, [.int .i64 p0.1, v1, v2])] [row v5 3 (Rp.int .i64) x3] w := W
  rw [Ct] at H
  refine Ai (Ai (Ac ?_))
  refine ls F W Aa (Ag F Aa).q fun a w F W => ?_
  refine ls F W Aa (Af Dg Aa Aa Aa T3 F Aa 0 Aa).q fun a w F W => ?_
  refine ls F W Aa (Am (v := Value.int .i64 p0.1) 0 F Aa Aa T3 Aa).q fun a w F W => ?_
  refine ls F W Aa (Bi F Aa Aa).q fun a w F W => ?_
  refine Ad (Ab ?_)
  refine Ax F Aa (fun hb => ?_) fun hb => ?_
  ·
   have H := AK (Bd hb) H
   rw [hb] at F
   clear hb
   refine Ap (Ab (Ai (Au (Ai (Ac ?_)))))
   refine ls F W Aa (Am (v := Value.agg #[.int .i64 p0.1, v1, v2]) 0 F Aa Aa HW Aa).q fun a w F W => ?_
   iterate 4 refine ls F W Aa (Ag F Aa).q fun a w F W => ?_
   obtain ⟨x5, h3, H⟩ := An H
   refine ls F W Aa (Bl (v := Value.tuple #[.int .i64 x5.1, .bool x5.2]) F QK Aa (fun w W => Ij any w (v1) (v2) (v3) p0 p1 p2 p3 x4 _ h3 (((Aj h_v1) : CH _ _ _ _ _ _) w W).nx (((Aj h_v2) : CH _ _ _ _ _ _) w W).nx (((BA Ep h1 (Aj h_v3)) : CH _ _ _ _ _ _) w W).nx)) fun a w F W => ?_
   refine ls F W Aa (Ag F Aa).q fun a w F W => ?_
   refine ls F W Aa (Bj (v := Value.int .i64 x5.1) F Aa Aa).q fun a w F W => ?_
   refine ls F W Aa (Bj (v := Value.bool x5.2) F Aa Aa).q fun a w F W => ?_
   iterate 2 refine ls F W Aa (Ah F Aa).q fun a w F W => ?_
   refine Ad (Ab (Ai (Ai (Ac ?_))))
   refine ls F W Aa (Ag F Aa).q fun a w F W => ?_
   refine ls F W Aa (Bz F Aa Aa).q fun a w F W => ?_
   refine Ad (Ab ?_)
   refine Ax F Aa (fun hb => ?_) fun hb => ?_
   ·
    have H := AK (Bd hb) H
    rw [hb] at F
    clear hb
    refine Ai (Ac ?_)
    iterate 2 refine ls F W Aa (Ah F Aa).q fun a w F W => ?_
    refine Ad (Ab (AA (AD (AH ?_))))
    iterate 2 refine AD ?_
    refine AH (AD ?_)
    have H := L3 _ H
    have H := L2 _ H
    have H := AN H
    subst H
    refine EJ (.inl Aa) F W Aa (As F Aa) (As F Aa) ?_
    have W := W.nilRow 3 (Rp.int .i64)
    have W := W.sub (M' := []) (Z' := [row (Value.slice none 0 0) 3 (Rp.int .i64) ([])]) (List.nil_sublist _) (List.Sublist.cons_cons _ (List.nil_sublist _))
    exact ⟨(Value.slice none 0 0), Aa, W⟩
   have H := AL (Bc hb) H
   rw [hb] at F
   clear hb
   refine Ap (Ab (Ai (Ac ?_)))
   iterate 2 refine ls F W Aa (Ag F Aa).q fun a w F W => ?_
   refine Da (z := Value.int .i64 0) (cs := [.int .i64 x5.1]) (Rp.int .i64) ([x5.1] : List Int) F W Aa Hl Z3 Aa Aa Aa Aa Aa Aa (Fl.int.repL _ _ ([x5.1] : List Int)) fun v6 a w F W => ?_
   obtain ⟨x6, h4, H⟩ := An H
   refine Cg (r := (Rp.int .i64)) (i := 1) F W Aa Hl Aa Aa Aa Aa (CE W 0 Aa) h4 Aa fun v7 a w F W => ?_
   have W : Stw ⟨Y, [], w0⟩ [(b1, [.int .i64 p0.1, v1, v2])] [row v7 3 (Rp.int .i64) x6, row v6 3 (Rp.int .i64) ([x5.1] : List Int)] w := W
   refine ls F W Aa (Ah F Aa).q fun a w F W => ?_
   refine Ad (Ab (Ai (Ac ?_)))
   refine ls F W Aa (Ag F Aa).q fun a w F W => ?_
   refine Ad (Ab ?_)
   refine Ax F Aa (fun hb => ?_) fun hb => ?_
   ·
    have H := AK hb H
    rw [hb] at F
    clear hb
    refine Ai (Ac ?_)
    refine ls F W Aa (Ag F Aa).q fun a w F W => ?_
    iterate 2 refine ls F W Aa (Ah F Aa).q fun a w F W => ?_
    refine Ad (Ab (AA (AH ?_)))
    iterate 2 refine AD ?_
    refine AH (AD ?_)
    have H := L3 _ H
    have H := L2 _ H
    have H := AN H
    subst H
    refine EJ (.inl Aa) F W Aa (As F Aa) (As F Aa) ?_
    have W := W.sub (M' := []) (Z' := [row v7 3 (Rp.int .i64) x6]) (List.nil_sublist _) (List.Sublist.cons_cons _ (List.nil_sublist _))
    exact ⟨(v7), Aa, W⟩
   have H := AL (by rw [hb]; decide) H
   rw [hb] at F
   clear hb
   refine Ap (AF (Ab (Ac ?_)))
   refine ls F W Aa (Ag F Aa).q fun a w F W => ?_
   refine ls F W Aa (BS F Aa Aa Aa).q fun a w F W => ?_
   refine ls F W Aa (Ah F Aa).q fun a w F W => ?_
   refine Ad (Ab ?_)
   have W := W.sub (M' := [(b1, [.int .i64 p0.1, v1, v2])]) (Z' := [row v7 3 (Rp.int .i64) x6]) (List.Sublist.refl _) (List.Sublist.cons_cons _ (List.nil_sublist _))
   exact ⟨_, H, (v7), F.re ⟨rfl, Aa, Aa, Aa, Aa, Aa, Aa, Aa, trivial⟩, W⟩
  have H := AL (Bc hb) H
  rw [hb] at F
  clear hb
  refine A8 ?_
  iterate 2 refine Bk ?_
  refine A9 (Ab ?_)
  have W := W.sub (M' := [(b1, [.int .i64 p0.1, v1, v2])]) (Z' := []) (List.Sublist.refl _) (List.nil_sublist _)
  have H := L3 _ H
  exact ⟨H, F.re ⟨rfl, Aa, Aa, Aa, Aa, Aa, trivial⟩, W⟩
 rintro a w ⟨hj, F, W⟩
 have H := K2 _ hj
 clear hj G2 K2 L2
 refine Ai (Ac ?_)
 refine ls F W Aa (Am (v := Value.agg #[.int .i64 p0.1, v1, v2]) 0 F Aa Aa HW Aa).q fun a w F W => ?_
 iterate 3 refine ls F W Aa (Ag F Aa).q fun a w F W => ?_
 refine ls F W Aa (Af Dg Aa Aa Aa T3 F Aa 0 Aa).q fun a w F W => ?_
 refine ls F W Aa (Am (v := Value.int .i64 p0.1) 0 F Aa Aa T3 Aa).q fun a w F W => ?_
 obtain ⟨x7, h5, H⟩ := An H
 refine ls F W Aa (Bl (v := Value.tuple #[.int .i64 x7.1, .bool x7.2]) F QK Aa (fun w W => Ij any w (v1) (v2) (v3) p0 p1 p2 p3 p0.1 _ h5 (((Aj h_v1) : CH _ _ _ _ _ _) w W).nx (((Aj h_v2) : CH _ _ _ _ _ _) w W).nx (((BA Ep h1 (Aj h_v3)) : CH _ _ _ _ _ _) w W).nx)) fun a w F W => ?_
 refine ls F W Aa (Ag F Aa).q fun a w F W => ?_
 refine ls F W Aa (Bj (v := Value.int .i64 x7.1) F Aa Aa).q fun a w F W => ?_
 refine ls F W Aa (Bj (v := Value.bool x7.2) F Aa Aa).q fun a w F W => ?_
 iterate 2 refine ls F W Aa (Ah F Aa).q fun a w F W => ?_
 refine Ad (Ab (Ai (Ai (Ac ?_))))
 refine ls F W Aa (Ag F Aa).q fun a w F W => ?_
 refine ls F W Aa (Bz F Aa Aa).q fun a w F W => ?_
 refine Ad (Ab ?_)
 refine Ax F Aa (fun hb => ?_) fun hb => ?_
 ·
  have H := AK (Bd hb) H
  rw [hb] at F
  clear hb
  refine Ai (Ac ?_)
  iterate 2 refine ls F W Aa (Ah F Aa).q fun a w F W => ?_
  refine Ad (Ab (AA (AD ?_)))
  have H := AN H
  subst H
  refine EJ (.inl Aa) F W Aa (As F Aa) (As F Aa) ?_
  have W := W.nilRow 3 (Rp.int .i64)
  have W := W.sub (M' := []) (Z' := [row (Value.slice none 0 0) 3 (Rp.int .i64) ([])]) (List.nil_sublist _) (List.Sublist.refl _)
  exact ⟨(Value.slice none 0 0), Aa, W⟩
 have H := AL (Bc hb) H
 rw [hb] at F
 clear hb
 refine Ap (Ab (Ai (Ac ?_)))
 iterate 2 refine ls F W Aa (Ah F Aa).q fun a w F W => ?_
 refine Ad (Ab (AA ?_))
 have H := AN H
 subst H
 refine EJ (.inl Aa) F W Aa (As F Aa) (As F Aa) ?_
 have W := W.nilRow 3 (Rp.int .i64)
 have W := W.sub (M' := []) (Z' := [row (Value.slice none 0 0) 3 (Rp.int .i64) ([])]) (List.nil_sublist _) (List.Sublist.refl _)
 exact ⟨(Value.slice none 0 0), Aa, W⟩
theorem Q8 : Has Try.prog 22 := ⟨fun args w => Al Try.func22 rfl (by decide) args w⟩
noncomputable def C6 (p3 : Int × Int × Int × Int × List Int × Int × Int × Int) (x3 : List Int × Int) : Int → Option (Int ⊕ (Unit ⊕ Bool))
  | x4 => (if x4 < (p3.2.2.2.2.1.length : Int) then (ix x3.1 x4).bind fun x5 => (ix p3.2.2.2.2.1 x4).bind fun x6 => (if x5 ≠ x6 then some (.inr (.inr false)) else some (.inl (Dz (x4 + 1)))) else some (.inr (.inl ())))
noncomputable def DR (p0 : Int × (List (Int × Int × Int × Int × Int × Int)) × (List (Int × Int))) (p1 : List (List (List Int))) (p2 : Int) (p3 : Int × Int × Int × Int × List Int × Int × Int × Int) : Option Bool := (if (p3.2.2.2.2.1.length : Int) = 0 then some true else (if (decide (p2 < 0) || decide ((p1.length : Int) ≤ p2)) = true then some false else (ix p1 p2).bind fun x1 => (ix p3.2.2.2.2.1 0).bind fun x2 => (Eo p0 x1 x2 p3.2.2.1).bind fun x3 => (if (decide (x3.2 ≠ 0) || (decide ((x3.1.length : Int) < (p3.2.2.2.2.1.length : Int)) || (decide (p3.2.2.2.2.2.1 ≠ 0) && decide ((x3.1.length : Int) ≠ (p3.2.2.2.2.1.length : Int))))) = true then some false else D6 (AM (C6 p3 x3) 0) fun _ => some true)))
theorem Kw (Y : Nat → Prop) (w0 : World) (v1 : Value) (v2 : Value) (v3 : Value) (v4 : Value) (p0 : Int × (List (Int × Int × Int × Int × Int × Int)) × (List (Int × Int))) (p1 : List (List (List Int))) (p2 : Int) (p3 : Int × Int × Int × Int × List Int × Int × Int × Int) (r : Bool) (H : DR p0 p1 p2 p3 = some r) (h_v1 : Sl w0 (NX []) C8 v1 p0.2.1) (h_v2 : Sl w0 (NX []) EL v2 p0.2.2) (h_v3 : Sl w0 (NX []) (Rp.slice (Rp.slice (Rp.int .i64))) v3 p1) (h_v4 : Sl w0 (NX []) (Rp.int .i64) v4 p3.2.2.2.2.1) :
    Calls Try.prog 34 #[.agg #[.int .i64 p0.1, v1, v2], v3, .int .i64 p2, .agg #[.int .i64 p3.1, .int .i64 p3.2.1, .int .i64 p3.2.2.1, .int .i64 p3.2.2.2.1, v4, .int .i64 p3.2.2.2.2.2.1, .int .i64 p3.2.2.2.2.2.2.1, .int .i64 p3.2.2.2.2.2.2.2]] w0 fun e w' => e = .returned (.bool r) ∧ Below w0.heap.size w0 w' := by
 refine enter Try.func34 Aa Try.ntmps34 Aa fun a F => ?_
 have W := Stw.start Y w0
 obtain ⟨v5, h1, h_v3⟩ := h_v3.ex Hw
 unfold DR at H
 refine Ai (Ac ?_)
 refine B9 (cs := [.int .i64 p0.1, v1, v2]) F W Aa Aa Aa fun b1 a w F W => ?_
 refine B9 (cs := [.int .i64 p3.1, .int .i64 p3.2.1, .int .i64 p3.2.2.1, .int .i64 p3.2.2.2.1, v4, .int .i64 p3.2.2.2.2.2.1, .int .i64 p3.2.2.2.2.2.2.1, .int .i64 p3.2.2.2.2.2.2.2]) F W Aa Aa Aa fun b2 a w F W => ?_
 refine ls F W Aa (Ah F Aa).q fun a w F W => ?_
 refine Ad (Ab (Ai (Ai (Ac ?_))))
 refine ls F W Aa (Af ER Aa Aa Aa E1 F Aa 4 Aa).q fun a w F W => ?_
 refine ls F W Aa (Am (v := v4) 0 F Aa Aa E1 Aa).q fun a w F W => ?_
 refine ls F W Aa (A6 (r := (Rp.int .i64)) (l := p3.2.2.2.2.1) Fc Aa F Aa (Aj h_v4)).q fun a w F W => ?_
 refine ls F W Aa (Bz F Aa Aa).q fun a w F W => ?_
 refine Ad (Ab ?_)
 refine Ax F Aa (fun hb => ?_) fun hb => ?_
 ·
  have H := AK (Bd hb) H
  rw [hb] at F
  clear hb
  refine Ai (Ac ?_)
  refine ls F W Aa (Ah F Aa).q fun a w F W => ?_
  refine Ad (Ab (AA (AD ?_)))
  have H := AN H
  subst H
  refine AW (.inl Aa) F W Aa (As F Aa) ?_
  exact ⟨rfl, W.done⟩
 have H := AL (Bc hb) H
 rw [hb] at F
 clear hb
 refine Ap (Ab (Ai ?_))
 refine AB (fun a w => Fr 79 [] [(1, v3), (2, .int .i64 p2), (4, .pointer (some ⟨b1, 0, none⟩)), (7, .pointer (some ⟨b2, 0, none⟩)), (8, .bool false), (23, .bool (decide (p2 < 0) || decide ((p1.length : Int) ≤ p2)))] a ∧ Stw ⟨Y, [], w0⟩ [(b2, [.int .i64 p3.1, .int .i64 p3.2.1, .int .i64 p3.2.2.1, .int .i64 p3.2.2.2.1, v4, .int .i64 p3.2.2.2.2.2.1, .int .i64 p3.2.2.2.2.2.2.1, .int .i64 p3.2.2.2.2.2.2.2]), (b1, [.int .i64 p0.1, v1, v2])] [] w) ?_ ?_
 ·
  refine Ac ?_
  refine ls F W Aa (Ag F Aa).q fun a w F W => ?_
  refine ls F W Aa (Bi F Aa Aa).q fun a w F W => ?_
  refine ls F W Aa (Ag F Aa).q fun a w F W => ?_
  rcases Bool.eq_false_or_eq_true (decide (p2 < 0)) with hb0 | hb0
  ·
   rw [hb0] at F
   iterate 4 refine B4 F Aa Aa Aa Aa Aa Aa Aa fun a F => ?_
   refine ls F W Aa (Ao F Aa Aa Aa).q fun a w F W => ?_
   refine Ad (Ab ?_)
   exact ⟨F.re ⟨rfl, Aa, Aa, Aa, Aa, (by show some (Value.bool true) = some (Value.bool (decide (p2 < 0) || decide ((p1.length : Int) ≤ p2))); try rw [hb0]; all_goals simp only [Bool.not_true, Bool.not_false, Bool.true_and, Bool.false_and, Bool.true_or, Bool.false_or, Bool.and_true, Bool.or_false, cond_true, cond_false]), trivial⟩, W⟩
  rw [hb0] at F
  iterate 2 refine Ay F W (Ae F Aa Aa Aa Aa) Aa (Ak Aa) (Ag F Aa).q fun a w F W => ?_
  refine Ay F W (Ae F Aa Aa Aa Aa) Aa (Ak Aa) (A6 (r := (Rp.slice (Rp.slice (Rp.int .i64)))) (l := p1) Nk Aa F Aa (BA Hw h1 (Aj h_v3))).q fun a w F W => ?_
  refine Ay F W (Ae F Aa Aa Aa Aa) Aa (Ak Aa) (DH F Aa Aa).q fun a w F W => ?_
  refine ls F W Aa (Av F Aa Aa Aa).q fun a w F W => ?_
  refine Ad (Ab ?_)
  exact ⟨F.re ⟨rfl, Aa, Aa, Aa, Aa, (by show some (Value.bool (decide ((p1.length : Int) ≤ p2))) = some (Value.bool (decide (p2 < 0) || decide ((p1.length : Int) ≤ p2))); try rw [hb0]; all_goals simp only [Bool.not_true, Bool.not_false, Bool.true_and, Bool.false_and, Bool.true_or, Bool.false_or, Bool.and_true, Bool.or_false, cond_true, cond_false]), trivial⟩, W⟩
 rintro a w ⟨F, W⟩
 refine Ax F Aa (fun hb => ?_) fun hb => ?_
 ·
  have H := AK hb H
  rw [hb] at F
  clear hb
  refine Ai (Ac ?_)
  refine ls F W Aa (Ah F Aa).q fun a w F W => ?_
  refine Ad (Ab (AA (AD ?_)))
  have H := AN H
  subst H
  refine AW (.inl Aa) F W Aa (As F Aa) ?_
  exact ⟨rfl, W.done⟩
 have H := AL (by rw [hb]; decide) H
 rw [hb] at F
 clear hb
 refine Ap (Ab (Ai ?_))
 refine FL [(true, 0), (true, 1), (true, 2), (true, 3), (true, 4), (true, 5), (true, 6), (true, 7), (true, 8), (true, 9), (true, 10), (false, 11), (true, 12), (true, 13), (true, 14), (false, 15), (false, 16)] (CN ⟨Y, [], w0⟩ [(some 11, b1, [.int .i64 p0.1, v1, v2]), (some 11, b2, [.int .i64 p3.1, .int .i64 p3.2.1, .int .i64 p3.2.2.1, .int .i64 p3.2.2.2.1, v4, .int .i64 p3.2.2.2.2.2.1, .int .i64 p3.2.2.2.2.2.2.1, .int .i64 p3.2.2.2.2.2.2.2])] []) (fun ch a d v w h => by cases d <;> exact h) MO (by kernel_rfl) W (fun w W => ⟨_, _, W, (all_cons (fun _ => (.tail _ (.head _))) (all_cons (fun _ => (.head _)) AQ)), AQ⟩) fun w W => ?_
 refine BR (R := [11]) F Aa Aa (yC fun M Z hN hZ => Cl (cs := [.int .i64 p0.1, v1, v2]) (v := Value.agg #[.int .i64 p0.1, v1, v2]) F Aa (hN ((some 11), b1, [.int .i64 p0.1, v1, v2]) (.head _) Aa) HW Aa) (by kernel_rfl) Aa fun a F => ?_
 iterate 2 refine BR (R := []) F Aa Aa (yC fun M Z hN hZ => Ag F Aa) Aa Aa fun a F => ?_
 obtain ⟨x1, h2, H⟩ := An H
 obtain ⟨v6, h3, h4⟩ := Cx h1 h2
 have h5 : Me v6 = [(v6.1)] := congrArg (fun q : List (List Int) => ([(v6.1)] : List Value)) h4
 refine BR (R := []) F Aa Aa (yC fun M Z hN hZ => Az (r := (Rp.vsl (Rp.vsl (Rp.int .i64)))) P4 F Aa Aa (Aj h_v3) h3) Aa Aa fun a F => ?_
 refine BR (R := []) F Aa Aa (yC fun M Z hN hZ => Aq (y := (v6.1)) (j := 0) (i := p2) (enc := Me) F Aa Aa (Aj h_v3) h3 Pi P9 (by rw [h5]; rfl)) Aa Aa fun a F => ?_
 refine BR (R := []) F Aa Aa (yC fun M Z hN hZ => Af ER Aa Aa Aa E1 F Aa 4 Aa) Aa Aa fun a F => ?_
 refine BR (R := [11, 8, 7]) F Aa Aa (yC fun M Z hN hZ => Cl (cs := [.int .i64 p3.1, .int .i64 p3.2.1, .int .i64 p3.2.2.1, .int .i64 p3.2.2.2.1, v4, .int .i64 p3.2.2.2.2.2.1, .int .i64 p3.2.2.2.2.2.2.1, .int .i64 p3.2.2.2.2.2.2.2]) (v := v4) F Aa (hN ((some 11), b2, [.int .i64 p3.1, .int .i64 p3.2.1, .int .i64 p3.2.2.1, .int .i64 p3.2.2.2.1, v4, .int .i64 p3.2.2.2.2.2.1, .int .i64 p3.2.2.2.2.2.2.1, .int .i64 p3.2.2.2.2.2.2.2]) (.tail _ (.head _)) Aa) E1 Aa) (by kernel_rfl) Aa fun a F => ?_
 obtain ⟨x2, h6, H⟩ := An H
 refine BR (R := []) F Aa Aa (yC fun M Z hN hZ => Az (r := (Rp.int .i64)) Hl F Aa Aa (Aj h_v4) h6) Aa Aa fun a F => ?_
 refine BR (R := []) F Aa Aa (yC fun M Z hN hZ => Aq (y := Value.int .i64 x2) (j := 0) (i := 0) F Aa Aa (Aj h_v4) h6 Fl.int.to T3 Aa) Aa Aa fun a F => ?_
 refine BR (R := []) F Aa Aa (yC fun M Z hN hZ => Af ER Aa Aa Aa T3 F Aa 2 Aa) Aa Aa fun a F => ?_
 refine BR (R := [11]) F Aa Aa (yC fun M Z hN hZ => Cl (cs := [.int .i64 p3.1, .int .i64 p3.2.1, .int .i64 p3.2.2.1, .int .i64 p3.2.2.2.1, v4, .int .i64 p3.2.2.2.2.2.1, .int .i64 p3.2.2.2.2.2.2.1, .int .i64 p3.2.2.2.2.2.2.2]) (v := Value.int .i64 p3.2.2.1) F Aa (hN ((some 11), b2, [.int .i64 p3.1, .int .i64 p3.2.1, .int .i64 p3.2.2.1, .int .i64 p3.2.2.2.1, v4, .int .i64 p3.2.2.2.2.2.1, .int .i64 p3.2.2.2.2.2.2.1, .int .i64 p3.2.2.2.2.2.2.2]) (.tail _ (.head _)) Aa) T3 Aa) (by kernel_rfl) Aa fun a F => ?_
 refine FE Aa ?_
 obtain ⟨x3, h7, H⟩ := An H
 refine BW (Ml := []) (Zl := []) (M := [(b2, [.int .i64 p3.1, .int .i64 p3.2.1, .int .i64 p3.2.2.1, .int .i64 p3.2.2.2.1, v4, .int .i64 p3.2.2.2.2.2.1, .int .i64 p3.2.2.2.2.2.2.1, .int .i64 p3.2.2.2.2.2.2.2]), (b1, [.int .i64 p0.1, v1, v2])]) (Z := []) (β := Value) (rv := fun x => .tuple #[x, .int .i64 x3.2]) (MM := fun x => []) (ZZ := fun x => [row x 3 (Rp.int .i64) x3.1]) F W Q8 Aa Aa (fun hL => L7 _ w (v1) (v2) ((v6.1)) p0 x1 x2 p3.2.2.1 _ h7 ((Aj h_v1) w W).nx ((Aj h_v2) w W).nx ((BA Ep (congrArg (fun q : List (List Int) => q) h4) (CS (Aj h_v3) h3 CR.here Aa)) w W).nx) fun x a w F W => ?_
 obtain ⟨v7, rfl⟩ : ∃ y, y = x := ⟨x, rfl⟩
 have W : Stw ⟨Y, [], w0⟩ [(b2, [.int .i64 p3.1, .int .i64 p3.2.1, .int .i64 p3.2.2.1, .int .i64 p3.2.2.2.1, v4, .int .i64 p3.2.2.2.2.2.1, .int .i64 p3.2.2.2.2.2.2.1, .int .i64 p3.2.2.2.2.2.2.2]), (b1, [.int .i64 p0.1, v1, v2])] [row v7 3 (Rp.int .i64) x3.1] w := W
 refine Ce (N2 := []) (NZ2 := []) (N3 := [(some 11, b1, [.int .i64 p0.1, v1, v2]), (some 11, b2, [.int .i64 p3.1, .int .i64 p3.2.1, .int .i64 p3.2.2.1, .int .i64 p3.2.2.2.1, v4, .int .i64 p3.2.2.2.2.2.1, .int .i64 p3.2.2.2.2.2.2.1, .int .i64 p3.2.2.2.2.2.2.2])]) (NZ3 := []) W Aa Aa (all_cons (fun h => Ba (by kernel_rfl) h) (all_cons (fun h => Ba (by kernel_rfl) h) AQ)) AQ ?_
 refine BR (R := []) F Aa Aa (yC fun M Z hN hZ => Ag F Aa) Aa Aa fun a F => ?_
 refine BR (R := []) F Aa Aa (yC fun M Z hN hZ => Bj (v := v7) F Aa Aa) Aa Aa fun a F => ?_
 refine BR (R := []) F Aa Aa (yC fun M Z hN hZ => Bj (v := Value.int .i64 x3.2) F Aa Aa) Aa Aa fun a F => ?_
 refine FE Aa ?_
 refine ls F W Aa (Ah F Aa).q fun a w F W => ?_
 refine Ce (N2 := []) (NZ2 := []) (N3 := [(some 11, b1, [.int .i64 p0.1, v1, v2]), (some 11, b2, [.int .i64 p3.1, .int .i64 p3.2.1, .int .i64 p3.2.2.1, .int .i64 p3.2.2.2.1, v4, .int .i64 p3.2.2.2.2.2.1, .int .i64 p3.2.2.2.2.2.2.1, .int .i64 p3.2.2.2.2.2.2.2])]) (NZ3 := []) W Aa Aa (all_cons (fun h => Ba (by kernel_rfl) h) (all_cons (fun h => Ba (by kernel_rfl) h) AQ)) AQ ?_
 refine FE Aa ?_
 refine ls F W Aa (Ah F Aa).q fun a w F W => ?_
 refine Ce (N2 := []) (NZ2 := []) (N3 := [(some 11, b1, [.int .i64 p0.1, v1, v2]), (some 11, b2, [.int .i64 p3.1, .int .i64 p3.2.1, .int .i64 p3.2.2.1, .int .i64 p3.2.2.2.1, v4, .int .i64 p3.2.2.2.2.2.1, .int .i64 p3.2.2.2.2.2.2.1, .int .i64 p3.2.2.2.2.2.2.2])]) (NZ3 := []) W Aa Aa (all_cons (fun h => Ba (by kernel_rfl) h) (all_cons (fun h => Ba (by kernel_rfl) h) AQ)) AQ ?_
 refine Hs (Ab (Ai ?_))
 refine AB (fun a w => Fr 79 [] [(7, .pointer (some ⟨b2, 0, none⟩)), (8, .bool false), (9, v7), (61, .bool (decide (x3.2 ≠ 0) || (decide ((x3.1.length : Int) < (p3.2.2.2.2.1.length : Int)) || (decide (p3.2.2.2.2.2.1 ≠ 0) && decide ((x3.1.length : Int) ≠ (p3.2.2.2.2.1.length : Int))))))] a ∧ Stw ⟨Y, [], w0⟩ [(b2, [.int .i64 p3.1, .int .i64 p3.2.1, .int .i64 p3.2.2.1, .int .i64 p3.2.2.2.1, v4, .int .i64 p3.2.2.2.2.2.1, .int .i64 p3.2.2.2.2.2.2.1, .int .i64 p3.2.2.2.2.2.2.2]), (b1, [.int .i64 p0.1, v1, v2])] [row v7 3 (Rp.int .i64) x3.1] w) ?_ ?_
 ·
  refine Ac ?_
  refine ls F W Aa (Ag F Aa).q fun a w F W => ?_
  refine ls F W Aa (Dx F Aa Aa).q fun a w F W => ?_
  refine ls F W Aa (Ag F Aa).q fun a w F W => ?_
  rcases Bool.eq_false_or_eq_true (decide (x3.2 ≠ 0)) with hb0 | hb0
  ·
   rw [hb0] at F
   iterate 6 refine B4 F Aa Aa Aa Aa Aa Aa Aa fun a F => ?_
   refine ls F W Aa (Ao F Aa Aa Aa).q fun a w F W => ?_
   refine ls F W Aa (Ag F Aa).q fun a w F W => ?_
   iterate 4 refine B4 F Aa Aa Aa Aa Aa Aa Aa fun a F => ?_
   iterate 6 refine Qh F Aa Aa Aa Aa Aa Aa fun a F => ?_
   refine B4 F Aa Aa Aa Aa Aa Aa Aa fun a F => ?_
   refine ls F W Aa (Ao F Aa Aa Aa).q fun a w F W => ?_
   refine Ad (Ab ?_)
   exact ⟨F.re ⟨rfl, Aa, Aa, (by show some (Value.bool true) = some (Value.bool (decide (x3.2 ≠ 0) || (decide ((x3.1.length : Int) < (p3.2.2.2.2.1.length : Int)) || (decide (p3.2.2.2.2.2.1 ≠ 0) && decide ((x3.1.length : Int) ≠ (p3.2.2.2.2.1.length : Int)))))); try rw [hb0]; all_goals simp only [Bool.not_true, Bool.not_false, Bool.true_and, Bool.false_and, Bool.true_or, Bool.false_or, Bool.and_true, Bool.or_false, cond_true, cond_false]), trivial⟩, W⟩
  rw [hb0] at F
  refine Ay F W (Ae F Aa Aa Aa Aa) Aa (Ak Aa) (Ag F Aa).q fun a w F W => ?_
  refine Ay F W (Ae F Aa Aa Aa Aa) Aa (Ak Aa) (A6 (r := (Rp.int .i64)) (l := x3.1) Fc Aa F Aa (AE 0 Aa)).q fun a w F W => ?_
  refine Ay F W (Ae F Aa Aa Aa Aa) Aa (Ak Aa) (Af ER Aa Aa Aa E1 F Aa 4 Aa).q fun a w F W => ?_
  refine Ay F W (Ae F Aa Aa Aa Aa) Aa (Ak Aa) (Am (v := v4) 0 F Aa Aa E1 Aa).q fun a w F W => ?_
  refine Ay F W (Ae F Aa Aa Aa Aa) Aa (Ak Aa) (A6 (r := (Rp.int .i64)) (l := p3.2.2.2.2.1) Fc Aa F Aa (Aj h_v4)).q fun a w F W => ?_
  refine Ay F W (Ae F Aa Aa Aa Aa) Aa (Ak Aa) (Bi F Aa Aa).q fun a w F W => ?_
  refine ls F W Aa (Av F Aa Aa Aa).q fun a w F W => ?_
  refine ls F W Aa (Ag F Aa).q fun a w F W => ?_
  rcases Bool.eq_false_or_eq_true (decide ((x3.1.length : Int) < (p3.2.2.2.2.1.length : Int))) with hb1 | hb1
  ·
   rw [hb1] at F
   iterate 4 refine B4 F Aa Aa Aa Aa Aa Aa Aa fun a F => ?_
   iterate 6 refine Qh F Aa Aa Aa Aa Aa Aa fun a F => ?_
   refine B4 F Aa Aa Aa Aa Aa Aa Aa fun a F => ?_
   refine ls F W Aa (Ao F Aa Aa Aa).q fun a w F W => ?_
   refine Ad (Ab ?_)
   exact ⟨F.re ⟨rfl, Aa, Aa, (by show some (Value.bool true) = some (Value.bool (decide (x3.2 ≠ 0) || (decide ((x3.1.length : Int) < (p3.2.2.2.2.1.length : Int)) || (decide (p3.2.2.2.2.2.1 ≠ 0) && decide ((x3.1.length : Int) ≠ (p3.2.2.2.2.1.length : Int)))))); try rw [hb1]; try rw [hb0]; all_goals simp only [Bool.not_true, Bool.not_false, Bool.true_and, Bool.false_and, Bool.true_or, Bool.false_or, Bool.and_true, Bool.or_false, cond_true, cond_false]), trivial⟩, W⟩
  rw [hb1] at F
  refine Ay F W (Ae F Aa Aa Aa Aa) Aa (Ak Aa) (Af ER Aa Aa Aa T3 F Aa 5 Aa).q fun a w F W => ?_
  refine Ay F W (Ae F Aa Aa Aa Aa) Aa (Ak Aa) (Am (v := Value.int .i64 p3.2.2.2.2.2.1) 0 F Aa Aa T3 Aa).q fun a w F W => ?_
  refine Ay F W (Ae F Aa Aa Aa Aa) Aa (Ak Aa) (Dx F Aa Aa).q fun a w F W => ?_
  refine Ay F W (Ae F Aa Aa Aa Aa) Aa (Ak Aa) (Ag F Aa).q fun a w F W => ?_
  rcases Bool.eq_false_or_eq_true (decide (p3.2.2.2.2.2.1 ≠ 0)) with hb2 | hb2
  ·
   rw [hb2] at F
   refine Ay F W (Ae F Aa Aa Aa Aa) Aa (Ak Aa) (Ag F Aa).q fun a w F W => ?_
   refine Ay F W (Ae F Aa Aa Aa Aa) Aa (Ak Aa) (A6 (r := (Rp.int .i64)) (l := x3.1) Fc Aa F Aa (AE 0 Aa)).q fun a w F W => ?_
   refine Ay F W (Ae F Aa Aa Aa Aa) Aa (Ak Aa) (Af ER Aa Aa Aa E1 F Aa 4 Aa).q fun a w F W => ?_
   refine Ay F W (Ae F Aa Aa Aa Aa) Aa (Ak Aa) (Am (v := v4) 0 F Aa Aa E1 Aa).q fun a w F W => ?_
   refine Ay F W (Ae F Aa Aa Aa Aa) Aa (Ak Aa) (A6 (r := (Rp.int .i64)) (l := p3.2.2.2.2.1) Fc Aa F Aa (Aj h_v4)).q fun a w F W => ?_
   refine Ay F W (Ae F Aa Aa Aa Aa) Aa (Ak Aa) (Dx F Aa Aa).q fun a w F W => ?_
   refine Ay F W (Ae F Aa Aa Aa Aa) Aa (Ak Aa) (Ao F Aa Aa Aa).q fun a w F W => ?_
   refine ls F W Aa (Av F Aa Aa Aa).q fun a w F W => ?_
   refine Ad (Ab ?_)
   exact ⟨F.re ⟨rfl, Aa, Aa, (by show some (Value.bool (decide ((x3.1.length : Int) ≠ (p3.2.2.2.2.1.length : Int)))) = some (Value.bool (decide (x3.2 ≠ 0) || (decide ((x3.1.length : Int) < (p3.2.2.2.2.1.length : Int)) || (decide (p3.2.2.2.2.2.1 ≠ 0) && decide ((x3.1.length : Int) ≠ (p3.2.2.2.2.1.length : Int)))))); try rw [hb1]; try rw [hb2]; try rw [hb0]; all_goals simp only [Bool.not_true, Bool.not_false, Bool.true_and, Bool.false_and, Bool.true_or, Bool.false_or, Bool.and_true, Bool.or_false, cond_true, cond_false]), trivial⟩, W⟩
  rw [hb2] at F
  iterate 6 refine B4 F Aa Aa Aa Aa Aa Aa Aa fun a F => ?_
  refine Ay F W (Ae F Aa Aa Aa Aa) Aa (Ak Aa) (Av F Aa Aa Aa).q fun a w F W => ?_
  refine ls F W Aa (Av F Aa Aa Aa).q fun a w F W => ?_
  refine Ad (Ab ?_)
  exact ⟨F.re ⟨rfl, Aa, Aa, (by show some (Value.bool false) = some (Value.bool (decide (x3.2 ≠ 0) || (decide ((x3.1.length : Int) < (p3.2.2.2.2.1.length : Int)) || (decide (p3.2.2.2.2.2.1 ≠ 0) && decide ((x3.1.length : Int) ≠ (p3.2.2.2.2.1.length : Int)))))); try rw [hb1]; try rw [hb2]; try rw [hb0]; all_goals simp only [Bool.not_true, Bool.not_false, Bool.true_and, Bool.false_and, Bool.true_or, Bool.false_or, Bool.and_true, Bool.or_false, cond_true, cond_false]), trivial⟩, W⟩
 rintro a w ⟨F, W⟩
 refine Ax F Aa (fun hb => ?_) fun hb => ?_
 ·
  have H := AK hb H
  rw [hb] at F
  clear hb
  refine Ai (Ac ?_)
  refine ls F W Aa (Ah F Aa).q fun a w F W => ?_
  refine Ad (Ab (AA (AD ?_)))
  have H := AN H
  subst H
  refine AW (.inl Aa) F W Aa (As F Aa) ?_
  exact ⟨rfl, W.done⟩
 have H := AL (by rw [hb]; decide) H
 rw [hb] at F
 clear hb
 refine Ap (Ab ?_)
 obtain ⟨o1, G1, K1, L1⟩ := H4 H
 refine AB (fun a w => some (Sum.inl ()) = some o1 ∧ Fr 79 [] [(8, .bool false)] a ∧ Stw ⟨Y, [], w0⟩ [(b2, [.int .i64 p3.1, .int .i64 p3.2.1, .int .i64 p3.2.2.1, .int .i64 p3.2.2.2.1, v4, .int .i64 p3.2.2.2.2.2.1, .int .i64 p3.2.2.2.2.2.2.1, .int .i64 p3.2.2.2.2.2.2.2]), (b1, [.int .i64 p0.1, v1, v2])] [] w) ?_ ?_
 ·
  have H := G1
  clear G1 K1
  refine Ai (Ac ?_)
  refine ls F W Aa (Ah F Aa).q fun a w F W => ?_
  refine Ad (Ab (Au ?_))
  have W := W.frontM (i := 1) Aa Aa
  have W := W.frontM (i := 1) Aa Aa
  refine Bf H (fun s a w => Fr 79 [] [(7, .pointer (some ⟨b2, 0, none⟩)), (8, .bool false), (9, v7), (11, .int .i64 s)] a ∧ Stw ⟨Y, [], w0⟩ [(b2, [.int .i64 p3.1, .int .i64 p3.2.1, .int .i64 p3.2.2.1, .int .i64 p3.2.2.2.1, v4, .int .i64 p3.2.2.2.2.2.1, .int .i64 p3.2.2.2.2.2.2.1, .int .i64 p3.2.2.2.2.2.2.2]), (b1, [.int .i64 p0.1, v1, v2])] [row v7 3 (Rp.int .i64) x3.1] w) ⟨F.re ⟨rfl, Aa, Aa, Aa, trivial⟩, W⟩ fun s o a w H L2 hR => ?_
  obtain ⟨x4, rfl⟩ : ∃ x, x = s := ⟨s, rfl⟩
  obtain ⟨F, W⟩ := hR
  have F : Fr 79 [] [(7, .pointer (some ⟨b2, 0, none⟩)), (8, .bool false), (9, v7), (11, .int .i64 x4)] a := F
  have W : Stw ⟨Y, [], w0⟩ [(b2, [.int .i64 p3.1, .int .i64 p3.2.1, .int .i64 p3.2.2.1, .int .i64 p3.2.2.2.1, v4, .int .i64 p3.2.2.2.2.2.1, .int .i64 p3.2.2.2.2.2.2.1, .int .i64 p3.2.2.2.2.2.2.2]), (b1, [.int .i64 p0.1, v1, v2])] [row v7 3 (Rp.int .i64) x3.1] w := W
  rw [C6] at H
  refine Ai (Ai (Ac ?_))
  refine ls F W Aa (Ag F Aa).q fun a w F W => ?_
  refine ls F W Aa (Af ER Aa Aa Aa E1 F Aa 4 Aa).q fun a w F W => ?_
  refine ls F W Aa (Am (v := v4) 0 F Aa Aa E1 Aa).q fun a w F W => ?_
  refine ls F W Aa (A6 (r := (Rp.int .i64)) (l := p3.2.2.2.2.1) Fc Aa F Aa (Aj h_v4)).q fun a w F W => ?_
  refine ls F W Aa (Bi F Aa Aa).q fun a w F W => ?_
  refine Ad (Ab ?_)
  refine Ax F Aa (fun hb => ?_) fun hb => ?_
  ·
   have H := AK (Bd hb) H
   rw [hb] at F
   clear hb
   refine Ap (Ab (Ai (Au (Ai ?_))))
   refine BE W MO (by kernel_rfl) ?_
   iterate 2 refine qs F Aa (Ag F Aa).q fun a F => ?_
   obtain ⟨x5, h8, H⟩ := An H
   refine qs F Aa (Az (r := (Rp.int .i64)) Hl F Aa Aa (AE 0 Aa) h8).q fun a F => ?_
   refine qs F Aa (Aq (y := Value.int .i64 x5) (j := 0) (i := x4) F Aa Aa (AE 0 Aa) h8 Fl.int.to T3 Aa).q fun a F => ?_
   refine qs F Aa (Af ER Aa Aa Aa E1 F Aa 4 Aa).q fun a F => ?_
   refine qs F Aa (Am (v := v4) 0 F Aa Aa E1 Aa).q fun a F => ?_
   refine qs F Aa (Ag F Aa).q fun a F => ?_
   obtain ⟨x6, h9, H⟩ := An H
   refine qs F Aa (Az (r := (Rp.int .i64)) Hl F Aa Aa (Aj h_v4) h9).q fun a F => ?_
   refine qs F Aa (Aq (y := Value.int .i64 x6) (j := 0) (i := x4) F Aa Aa (Aj h_v4) h9 Fl.int.to T3 Aa).q fun a F => ?_
   refine qs F Aa (Dx F Aa Aa).q fun a F => ?_
   refine AX fun w W => ?_
   refine Ab ?_
   refine Ax F Aa (fun hb => ?_) fun hb => ?_
   ·
    have H := AK (Bd hb) H
    rw [hb] at F
    clear hb
    refine Ai (Ac ?_)
    refine ls F W Aa (Ah F Aa).q fun a w F W => ?_
    refine Ad (Ab (AA (AH ?_)))
    iterate 2 refine AD ?_
    refine AH (AD ?_)
    have H := L2 _ H
    have H := L1 _ H
    have H := AN H
    subst H
    refine AW (.inl Aa) F W Aa (As F Aa) ?_
    exact ⟨rfl, W.done⟩
   have H := AL (Bc hb) H
   rw [hb] at F
   clear hb
   refine Ap (AF (Ab (Ac ?_)))
   refine ls F W Aa (Ag F Aa).q fun a w F W => ?_
   refine ls F W Aa (BS F Aa Aa Aa).q fun a w F W => ?_
   refine ls F W Aa (Ah F Aa).q fun a w F W => ?_
   refine Ad (Ab ?_)
   have W := W.frontM (i := 1) Aa Aa
   have W := W.frontM (i := 1) Aa Aa
   exact ⟨_, H, F.re ⟨rfl, Aa, Aa, Aa, trivial⟩, W⟩
  have H := AL (Bc hb) H
  rw [hb] at F
  clear hb
  refine A8 ?_
  iterate 2 refine Bk ?_
  refine A9 (Ab ?_)
  have W := W.frontM (i := 1) Aa Aa
  have W := W.frontM (i := 1) Aa Aa
  have W := W.sub (M' := [(b2, [.int .i64 p3.1, .int .i64 p3.2.1, .int .i64 p3.2.2.1, .int .i64 p3.2.2.2.1, v4, .int .i64 p3.2.2.2.2.2.1, .int .i64 p3.2.2.2.2.2.2.1, .int .i64 p3.2.2.2.2.2.2.2]), (b1, [.int .i64 p0.1, v1, v2])]) (Z' := []) (List.Sublist.refl _) (List.nil_sublist _)
  have H := L2 _ H
  exact ⟨H, F.re ⟨rfl, trivial⟩, W⟩
 rintro a w ⟨hj, F, W⟩
 have H := K1 _ hj
 clear hj G1 K1 L1
 refine Ai (Ac ?_)
 refine ls F W Aa (Ah F Aa).q fun a w F W => ?_
 refine Ad (Ab (AA ?_))
 have H := AN H
 subst H
 refine AW (.inl Aa) F W Aa (As F Aa) ?_
 exact ⟨rfl, W.done⟩
theorem RZ : Has Try.prog 34 := ⟨fun args w => Al Try.func34 rfl (by decide) args w⟩
noncomputable def Dt (p0 : Int × (List (Int × Int × Int × Int × Int × Int)) × (List (Int × Int))) (p1 : List (List (List Int))) (p2 : List (Int × Int × Int × Int × Int × Int)) (x1 : (List (Int × Int × Int × Int × List Int × Int × Int × Int))) : ((List (Int × Int)) × Int) → Option (((List (Int × Int)) × Int) ⊕ (List (Int × Int)))
  | (x3, x4) => (if x4 < (x1.length : Int) then ((ix x1 x4).bind fun x6 => ((Fw x6.2.2.2.2.1).bind fun x8 => (if x8 = true then (FR x3 ([(1, x6.1)] : List (Int × Int))).bind fun x9 => some x9 else some x3)).bind fun x7 => (if x6.2.2.2.2.2.1 = 4 then (FR x7 ([(2, x6.1)] : List (Int × Int))).bind fun x11 => some x11 else some x7).bind fun x10 => (if (decide (x6.2.2.2.2.2.1 = 3) && decide (x6.2.2.2.2.2.2.1 ≠ x6.2.2.1)) = true then (FR x10 ([(3, x6.1)] : List (Int × Int))).bind fun x13 => some x13 else some x10).bind fun x12 => ((DJ p2 x6.2.2.2.1).bind fun x15 => (if (!x15) = true then (DO p2 x6.2.2.2.1).bind fun x16 => (DR p0 p1 x16 x6).bind fun x17 => some (!x17) else some false)).bind fun x14 => (if x14 = true then (FR x12 ([(4, x6.1)] : List (Int × Int))).bind fun x18 => some x18 else some x12)).bind fun x5 => some (.inl (x5, Dz (x4 + 1))) else some (.inr x3))
noncomputable def Gk (p0 : Int × (List (Int × Int × Int × Int × Int × Int)) × (List (Int × Int))) (p1 : List (List (List Int))) (p2 : List (Int × Int × Int × Int × Int × Int)) : Option (List (Int × Int)) := (JA p2).bind fun x1 => (AM (Dt p0 p1 p2 x1) ([], 0)).bind fun x2 => some x2
theorem KX (Y : Nat → Prop) (w0 : World) (v1 : Value) (v2 : Value) (v3 : Value) (v4 : Value) (p0 : Int × (List (Int × Int × Int × Int × Int × Int)) × (List (Int × Int))) (p1 : List (List (List Int))) (p2 : List (Int × Int × Int × Int × Int × Int)) (r : (List (Int × Int))) (H : Gk p0 p1 p2 = some r) (h_v1 : Sl w0 (NX []) C8 v1 p0.2.1) (h_v2 : Sl w0 (NX []) EL v2 p0.2.2) (h_v3 : Sl w0 (NX []) (Rp.slice (Rp.slice (Rp.int .i64))) v3 p1) (h_v4 : Sl w0 (NX []) Ej v4 p2) :
    Calls Try.prog 18 #[.agg #[.int .i64 p0.1, v1, v2], v3, v4] w0 fun e w' => ∃ x : Value, e = .returned (x) ∧ Stw ⟨Y, [], w0⟩ [] [row (x) 46 FS r] w' := by
 refine enter Try.func18 Aa Try.ntmps18 Aa fun a F => ?_
 have W := Stw.start Y w0
 obtain ⟨v5, h1, h_v3⟩ := h_v3.ex Hw
 unfold Gk at H
 refine Ai (Ac ?_)
 refine B9 (cs := [.int .i64 p0.1, v1, v2]) F W Aa Aa Aa fun b1 a w F W => ?_
 refine ls F W Aa (Ah F Aa).q fun a w F W => ?_
 refine Ad (Ab (Ai (Ac ?_)))
 refine ls F W Aa (Ah F Aa).q fun a w F W => ?_
 refine Ad (Ab (Ai (Ac ?_)))
 refine ls F W Aa (Ag F Aa).q fun a w F W => ?_
 obtain ⟨x1, h2, H⟩ := An H
 refine BW (Ml := []) (Zl := []) (M := [(b1, [.int .i64 p0.1, v1, v2])]) (Z := []) (β := Value) (rv := fun x => x) (MM := fun x => []) (ZZ := fun x => [row x 83 JI x1]) F W Sd Aa Aa (fun hL => NL _ w (v4) p2 _ h2 ((Aj h_v4) w W).nx) fun x a w F W => ?_
 obtain ⟨v6, rfl⟩ : ∃ y, y = x := ⟨x, rfl⟩
 have W : Stw ⟨Y, [], w0⟩ [(b1, [.int .i64 p0.1, v1, v2])] [row v6 83 JI x1] w := W
 refine ls F W Aa (Ah F Aa).q fun a w F W => ?_
 refine Ad (Ab ?_)
 obtain ⟨o1, G1, K1⟩ := An H
 refine AB (fun a w => ∃ x2 : List (Int × Int), ∃ v7 : Value, some (x2) = some o1 ∧ Fr 80 [] [(6, .slice none 0 0), (7, v7)] a ∧ Stw ⟨Y, [], w0⟩ [(b1, [.int .i64 p0.1, v1, v2])] [row v7 46 FS x2] w) ?_ ?_
 ·
  have H := G1
  clear G1 K1
  refine Ai (Ac ?_)
  refine ls F W Aa (Ah F Aa).q fun a w F W => ?_
  refine Ad (Ab (Au ?_))
  have W := W.nilRow 46 FS
  have W := W.frontZ (i := 1) Aa Aa
  have W := W.frontZ (i := 1) Aa Aa
  refine Bf H (fun s a w => ∃ v8 : Value, Fr 80 [] [(1, v3), (2, v4), (3, .pointer (some ⟨b1, 0, none⟩)), (6, .slice none 0 0), (7, v8), (8, v6), (9, .int .i64 s.2)] a ∧ Stw ⟨Y, [], w0⟩ [(b1, [.int .i64 p0.1, v1, v2])] [row v8 46 FS s.1, row v6 83 JI x1] w) ⟨(Value.slice none 0 0), F.re ⟨rfl, Aa, Aa, Aa, Aa, Aa, Aa, trivial⟩, W⟩ fun s o a w H L2 hR => ?_
  obtain ⟨x3, x4⟩ := s
  obtain ⟨v8, F, W⟩ := hR
  have F : Fr 80 [] [(1, v3), (2, v4), (3, .pointer (some ⟨b1, 0, none⟩)), (6, .slice none 0 0), (7, v8), (8, v6), (9, .int .i64 x4)] a := F
  have W : Stw ⟨Y, [], w0⟩ [(b1, [.int .i64 p0.1, v1, v2])] [row v8 46 FS x3, row v6 83 JI x1] w := W
  rw [Dt] at H
  refine Ai (Ai (Ac ?_))
  iterate 2 refine ls F W Aa (Ag F Aa).q fun a w F W => ?_
  refine ls F W Aa (A6 (r := JI) (l := x1) O9 Aa F Aa (AE 1 Aa)).q fun a w F W => ?_
  refine ls F W Aa (Bi F Aa Aa).q fun a w F W => ?_
  refine Ad (Ab ?_)
  refine Ax F Aa (fun hb => ?_) fun hb => ?_
  ·
   have H := AK (Bd hb) H
   rw [hb] at F
   clear hb
   refine Ap (Ab ?_)
   obtain ⟨o3, G3, K3⟩ := An H
   refine AB (fun a w => ∃ x5 : List (Int × Int), ∃ v9 : Value, some (x5) = some o3 ∧ Fr 80 [] [(1, v3), (2, v4), (3, .pointer (some ⟨b1, 0, none⟩)), (6, .slice none 0 0), (7, v9), (8, v6), (9, .int .i64 x4)] a ∧ Stw ⟨Y, [], w0⟩ [(b1, [.int .i64 p0.1, v1, v2])] [row v9 46 FS x5, row v6 83 JI x1] w) ?_ ?_
   ·
    have H := G3
    clear G3 K3
    refine Au (Ai ?_)
    have W := W.frontZ (i := 1) Aa Aa
    obtain ⟨v10, h3, W⟩ := W.exR Pd
    refine Ac ?_
    iterate 2 refine ls F W Aa (Ag F Aa).q fun a w F W => ?_
    obtain ⟨x6, h4, H⟩ := An H
    obtain ⟨v11, h5, h6⟩ := Cx h3 h4
    have h7 : Pe v11 = [.int .i64 x6.1, .int .i64 x6.2.1, .int .i64 x6.2.2.1, .int .i64 x6.2.2.2.1, (v11.2.2.2.2.1.1), .int .i64 x6.2.2.2.2.2.1, .int .i64 x6.2.2.2.2.2.2.1, .int .i64 x6.2.2.2.2.2.2.2] := congrArg (fun q : Int × Int × Int × Int × List Int × Int × Int × Int => ([.int .i64 q.1, .int .i64 q.2.1, .int .i64 q.2.2.1, .int .i64 q.2.2.2.1, (v11.2.2.2.2.1.1), .int .i64 q.2.2.2.2.2.1, .int .i64 q.2.2.2.2.2.2.1, .int .i64 q.2.2.2.2.2.2.2] : List Value)) h6
    refine ls F W Aa (Az (r := OH) N8 F Aa Aa (AE 0 Aa) h5).q fun a w F W => ?_
    refine ls F W Aa (Aq (y := Value.agg #[.int .i64 x6.1, .int .i64 x6.2.1, .int .i64 x6.2.2.1, .int .i64 x6.2.2.2.1, (v11.2.2.2.2.1.1), .int .i64 x6.2.2.2.2.2.1, .int .i64 x6.2.2.2.2.2.2.1, .int .i64 x6.2.2.2.2.2.2.2]) (j := 0) (i := x4) (enc := Pe) F Aa Aa (AE 0 Aa) h5 Qs Qt (by rw [h7]; rfl)).q fun a w F W => ?_
    have W := W.note (W.rowAt (k := 0) Aa h5 (CR.snd (CR.snd (CR.snd (CR.snd (CR.fst CR.here))))) (congrArg (fun q : Int × Int × Int × Int × List Int × Int × Int × Int => q.2.2.2.2.1) h6))
    refine BX (cs := [.int .i64 0, .int .i64 0, .int .i64 0, .int .i64 0, .slice none 0 0, .int .i64 0, .int .i64 0, .int .i64 0]) F W Aa QJ Aa fun b2 a w F W => ?_
    refine BJ (vs := [.int .i64 x6.1, .int .i64 x6.2.1, .int .i64 x6.2.2.1, .int .i64 x6.2.2.2.1, (v11.2.2.2.2.1.1), .int .i64 x6.2.2.2.2.2.1, .int .i64 x6.2.2.2.2.2.2.1, .int .i64 x6.2.2.2.2.2.2.2]) (M' := [(b2, [.int .i64 x6.1, .int .i64 x6.2.1, .int .i64 x6.2.2.1, .int .i64 x6.2.2.2.1, (v11.2.2.2.2.1.1), .int .i64 x6.2.2.2.2.2.1, .int .i64 x6.2.2.2.2.2.2.1, .int .i64 x6.2.2.2.2.2.2.2]), (b1, [.int .i64 p0.1, v1, v2])]) 0 F W Aa Aa Aa Qt Aa Aa Aa (A7 Aa (A7 Aa (A7 Aa (A7 Aa (A7 (W.oneF (k := 0) Aa) (A7 Aa (A7 Aa (A7 Aa FX)))))))) Aa fun w W => ?_
    refine Ad (Ab ?_)
    obtain ⟨o4, G4, K4⟩ := An H
    refine AB (fun a w => ∃ x7 : List (Int × Int), ∃ v12 : Value, some (x7) = some o4 ∧ Fr 80 [] [(1, v3), (2, v4), (3, .pointer (some ⟨b1, 0, none⟩)), (6, .slice none 0 0), (7, v12), (8, v6), (9, .int .i64 x4), (10, .pointer (some ⟨b2, 0, none⟩))] a ∧ Stw ⟨Y, [], w0⟩ [(b2, [.int .i64 x6.1, .int .i64 x6.2.1, .int .i64 x6.2.2.1, .int .i64 x6.2.2.2.1, (v11.2.2.2.2.1.1), .int .i64 x6.2.2.2.2.2.1, .int .i64 x6.2.2.2.2.2.2.1, .int .i64 x6.2.2.2.2.2.2.2]), (b1, [.int .i64 p0.1, v1, v2])] [row v12 46 FS x7, row v6 83 JI x1, Gu (v11.2.2.2.2.1.1) (Rp.int .i64) x6.2.2.2.2.1] w) ?_ ?_
    ·
     have H := G4
     clear G4 K4
     refine Ai (Ac ?_)
     refine ls F W Aa (Af ER Aa Aa Aa E1 F Aa 4 Aa).q fun a w F W => ?_
     refine ls F W Aa (Am (v := (v11.2.2.2.2.1.1)) 0 F Aa Aa E1 Aa).q fun a w F W => ?_
     obtain ⟨x8, h8, H⟩ := An H
     refine ls F W Aa (Bl (v := Value.bool x8) F Rj Aa (fun w W => KW any w ((v11.2.2.2.2.1.1)) x6.2.2.2.2.1 _ h8 (((HQ 0 Aa) : CH _ _ _ _ _ _) w W).nx)) fun a w F W => ?_
     refine Ad (Ab ?_)
     refine Ax F Aa (fun hb => ?_) fun hb => ?_
     ·
      have H := AK hb H
      rw [hb] at F
      clear hb
      refine Ac ?_
      refine ls F W Aa (Ag F Aa).q fun a w F W => ?_
      refine ls F W Aa (Af ER Aa Aa Aa T3 F Aa 0 Aa).q fun a w F W => ?_
      refine ls F W Aa (Am (v := Value.int .i64 x6.1) 0 F Aa Aa T3 Aa).q fun a w F W => ?_
      refine ls F W Aa (BH (v := Value.agg #[.int .i64 1, .int .i64 x6.1]) P0 F Aa Aa Aa).q fun a w F W => ?_
      refine Da (z := Value.agg #[.int .i64 0, .int .i64 0]) (cs := [.int .i64 1, .int .i64 x6.1]) FS ([(1, x6.1)] : List (Int × Int)) F W Aa N7 P2 Aa Aa Aa Aa Aa Aa (Pz.repL _ _ ([(1, x6.1)] : List (Int × Int))) fun v13 a w F W => ?_
      obtain ⟨x9, h9, H⟩ := An H
      refine Cg (r := FS) (i := 3) F W Aa N7 Aa Aa Aa Aa (CE W 0 Aa) h9 Aa fun v14 a w F W => ?_
      have W : Stw ⟨Y, [], w0⟩ [(b2, [.int .i64 x6.1, .int .i64 x6.2.1, .int .i64 x6.2.2.1, .int .i64 x6.2.2.2.1, (v11.2.2.2.2.1.1), .int .i64 x6.2.2.2.2.2.1, .int .i64 x6.2.2.2.2.2.2.1, .int .i64 x6.2.2.2.2.2.2.2]), (b1, [.int .i64 p0.1, v1, v2])] [row v14 46 FS x9, row v13 46 FS ([(1, x6.1)] : List (Int × Int)), Gu (v11.2.2.2.2.1.1) (Rp.int .i64) x6.2.2.2.2.1, row v6 83 OH v10] w := W
      refine ls F W Aa (Ah F Aa).q fun a w F W => ?_
      refine Ad (Ab ?_)
      have W := W.frontZ (i := 3) Aa Aa
      have W := W.hideR Pd h3
      have W := W.frontZ (i := 3) Aa Aa
      have W := W.frontZ (i := 1) Aa Aa
      have W := W.frontZ (i := 2) Aa Aa
      have W := W.frontM (i := 1) Aa Aa
      have W := W.frontM (i := 1) Aa Aa
      have W := W.sub (M' := [(b2, [.int .i64 x6.1, .int .i64 x6.2.1, .int .i64 x6.2.2.1, .int .i64 x6.2.2.2.1, (v11.2.2.2.2.1.1), .int .i64 x6.2.2.2.2.2.1, .int .i64 x6.2.2.2.2.2.2.1, .int .i64 x6.2.2.2.2.2.2.2]), (b1, [.int .i64 p0.1, v1, v2])]) (Z' := [row v14 46 FS x9, row v6 83 JI x1, Gu (v11.2.2.2.2.1.1) (Rp.int .i64) x6.2.2.2.2.1]) (List.Sublist.refl _) (List.Sublist.cons_cons _ (List.Sublist.cons_cons _ (List.Sublist.cons_cons _ (List.nil_sublist _))))
      exact ⟨_, (v14), H, F.re ⟨rfl, Aa, Aa, Aa, Aa, Aa, Aa, Aa, trivial⟩, W⟩
     have H := AL (by rw [hb]; decide) H
     rw [hb] at F
     clear hb
     refine Ap (Ab ?_)
     have W := W.frontZ (i := 1) Aa Aa
     have W := W.hideR Pd h3
     have W := W.frontZ (i := 1) Aa Aa
     have W := W.frontZ (i := 1) Aa Aa
     have W := W.frontZ (i := 2) Aa Aa
     have W := W.frontM (i := 1) Aa Aa
     have W := W.frontM (i := 1) Aa Aa
     exact ⟨_, (v8), H, F.re ⟨rfl, Aa, Aa, Aa, Aa, Aa, Aa, Aa, trivial⟩, W⟩
    rintro a w ⟨x7, v12, hj, F, W⟩
    have hj := AN hj
    subst hj
    have H := K4
    clear G4 K4
    obtain ⟨o5, G5, K5⟩ := An H
    refine AB (fun a w => ∃ x10 : List (Int × Int), ∃ v15 : Value, some (x10) = some o5 ∧ Fr 80 [] [(1, v3), (2, v4), (3, .pointer (some ⟨b1, 0, none⟩)), (6, .slice none 0 0), (7, v15), (8, v6), (9, .int .i64 x4), (10, .pointer (some ⟨b2, 0, none⟩))] a ∧ Stw ⟨Y, [], w0⟩ [(b2, [.int .i64 x6.1, .int .i64 x6.2.1, .int .i64 x6.2.2.1, .int .i64 x6.2.2.2.1, (v11.2.2.2.2.1.1), .int .i64 x6.2.2.2.2.2.1, .int .i64 x6.2.2.2.2.2.2.1, .int .i64 x6.2.2.2.2.2.2.2]), (b1, [.int .i64 p0.1, v1, v2])] [row v15 46 FS x10, row v6 83 JI x1, Gu (v11.2.2.2.2.1.1) (Rp.int .i64) x6.2.2.2.2.1] w) ?_ ?_
    ·
     have H := G5
     clear G5 K5
     refine Ai (Ac ?_)
     refine ls F W Aa (Af ER Aa Aa Aa T3 F Aa 5 Aa).q fun a w F W => ?_
     refine ls F W Aa (Am (v := Value.int .i64 x6.2.2.2.2.2.1) 0 F Aa Aa T3 Aa).q fun a w F W => ?_
     refine ls F W Aa (Bz F Aa Aa).q fun a w F W => ?_
     refine Ad (Ab ?_)
     refine Ax F Aa (fun hb => ?_) fun hb => ?_
     ·
      have H := AK (Bd hb) H
      rw [hb] at F
      clear hb
      refine Ac ?_
      refine ls F W Aa (Ag F Aa).q fun a w F W => ?_
      refine ls F W Aa (Af ER Aa Aa Aa T3 F Aa 0 Aa).q fun a w F W => ?_
      refine ls F W Aa (Am (v := Value.int .i64 x6.1) 0 F Aa Aa T3 Aa).q fun a w F W => ?_
      refine ls F W Aa (BH (v := Value.agg #[.int .i64 2, .int .i64 x6.1]) P0 F Aa Aa Aa).q fun a w F W => ?_
      refine Da (z := Value.agg #[.int .i64 0, .int .i64 0]) (cs := [.int .i64 2, .int .i64 x6.1]) FS ([(2, x6.1)] : List (Int × Int)) F W Aa N7 P2 Aa Aa Aa Aa Aa Aa (Pz.repL _ _ ([(2, x6.1)] : List (Int × Int))) fun v16 a w F W => ?_
      obtain ⟨x11, h10, H⟩ := An H
      refine Cg (r := FS) (i := 1) F W Aa N7 Aa Aa Aa Aa (CE W 0 Aa) h10 Aa fun v17 a w F W => ?_
      have W : Stw ⟨Y, [], w0⟩ [(b2, [.int .i64 x6.1, .int .i64 x6.2.1, .int .i64 x6.2.2.1, .int .i64 x6.2.2.2.1, (v11.2.2.2.2.1.1), .int .i64 x6.2.2.2.2.2.1, .int .i64 x6.2.2.2.2.2.2.1, .int .i64 x6.2.2.2.2.2.2.2]), (b1, [.int .i64 p0.1, v1, v2])] [row v17 46 FS x11, row v16 46 FS ([(2, x6.1)] : List (Int × Int)), row v6 83 JI x1, Gu (v11.2.2.2.2.1.1) (Rp.int .i64) x6.2.2.2.2.1] w := W
      refine ls F W Aa (Ah F Aa).q fun a w F W => ?_
      refine Ad (Ab ?_)
      have W := W.frontZ (i := 3) Aa Aa
      have W := W.frontZ (i := 3) Aa Aa
      have W := W.frontZ (i := 2) Aa Aa
      have W := W.frontM (i := 1) Aa Aa
      have W := W.frontM (i := 1) Aa Aa
      have W := W.sub (M' := [(b2, [.int .i64 x6.1, .int .i64 x6.2.1, .int .i64 x6.2.2.1, .int .i64 x6.2.2.2.1, (v11.2.2.2.2.1.1), .int .i64 x6.2.2.2.2.2.1, .int .i64 x6.2.2.2.2.2.2.1, .int .i64 x6.2.2.2.2.2.2.2]), (b1, [.int .i64 p0.1, v1, v2])]) (Z' := [row v17 46 FS x11, row v6 83 JI x1, Gu (v11.2.2.2.2.1.1) (Rp.int .i64) x6.2.2.2.2.1]) (List.Sublist.refl _) (List.Sublist.cons_cons _ (List.Sublist.cons_cons _ (List.Sublist.cons_cons _ (List.nil_sublist _))))
      exact ⟨_, (v17), H, F.re ⟨rfl, Aa, Aa, Aa, Aa, Aa, Aa, Aa, trivial⟩, W⟩
     have H := AL (Bc hb) H
     rw [hb] at F
     clear hb
     refine Ap (Ab ?_)
     have W := W.frontZ (i := 2) Aa Aa
     have W := W.frontZ (i := 2) Aa Aa
     have W := W.frontZ (i := 2) Aa Aa
     have W := W.frontM (i := 1) Aa Aa
     have W := W.frontM (i := 1) Aa Aa
     exact ⟨_, (v12), H, F.re ⟨rfl, Aa, Aa, Aa, Aa, Aa, Aa, Aa, trivial⟩, W⟩
    rintro a w ⟨x10, v15, hj, F, W⟩
    have hj := AN hj
    subst hj
    have H := K5
    clear G5 K5
    obtain ⟨o6, G6, K6⟩ := An H
    refine AB (fun a w => ∃ x12 : List (Int × Int), ∃ v18 : Value, some (x12) = some o6 ∧ Fr 80 [] [(1, v3), (2, v4), (3, .pointer (some ⟨b1, 0, none⟩)), (6, .slice none 0 0), (7, v18), (8, v6), (9, .int .i64 x4), (10, .pointer (some ⟨b2, 0, none⟩))] a ∧ Stw ⟨Y, [], w0⟩ [(b2, [.int .i64 x6.1, .int .i64 x6.2.1, .int .i64 x6.2.2.1, .int .i64 x6.2.2.2.1, (v11.2.2.2.2.1.1), .int .i64 x6.2.2.2.2.2.1, .int .i64 x6.2.2.2.2.2.2.1, .int .i64 x6.2.2.2.2.2.2.2]), (b1, [.int .i64 p0.1, v1, v2])] [row v18 46 FS x12, row v6 83 JI x1, Gu (v11.2.2.2.2.1.1) (Rp.int .i64) x6.2.2.2.2.1] w) ?_ ?_
    ·
     have H := G6
     clear G6 K6
     refine AB (fun a w => Fr 80 [] [(1, v3), (2, v4), (3, .pointer (some ⟨b1, 0, none⟩)), (6, .slice none 0 0), (7, v15), (8, v6), (9, .int .i64 x4), (10, .pointer (some ⟨b2, 0, none⟩)), (50, .bool (decide (x6.2.2.2.2.2.1 = 3) && decide (x6.2.2.2.2.2.2.1 ≠ x6.2.2.1)))] a ∧ Stw ⟨Y, [], w0⟩ [(b2, [.int .i64 x6.1, .int .i64 x6.2.1, .int .i64 x6.2.2.1, .int .i64 x6.2.2.2.1, (v11.2.2.2.2.1.1), .int .i64 x6.2.2.2.2.2.1, .int .i64 x6.2.2.2.2.2.2.1, .int .i64 x6.2.2.2.2.2.2.2]), (b1, [.int .i64 p0.1, v1, v2])] [row v15 46 FS x10, row v6 83 JI x1, Gu (v11.2.2.2.2.1.1) (Rp.int .i64) x6.2.2.2.2.1] w) ?_ ?_
     ·
      refine Ac ?_
      refine ls F W Aa (Af ER Aa Aa Aa T3 F Aa 5 Aa).q fun a w F W => ?_
      refine ls F W Aa (Am (v := Value.int .i64 x6.2.2.2.2.2.1) 0 F Aa Aa T3 Aa).q fun a w F W => ?_
      refine ls F W Aa (Bz F Aa Aa).q fun a w F W => ?_
      refine ls F W Aa (Ag F Aa).q fun a w F W => ?_
      rcases Bool.eq_false_or_eq_true (decide (x6.2.2.2.2.2.1 = 3)) with hb0 | hb0
      ·
       rw [hb0] at F
       refine Ay F W (Ae F Aa Aa Aa Aa) Aa (Ak Aa) (Af ER Aa Aa Aa T3 F Aa 6 Aa).q fun a w F W => ?_
       refine Ay F W (Ae F Aa Aa Aa Aa) Aa (Ak Aa) (Am (v := Value.int .i64 x6.2.2.2.2.2.2.1) 0 F Aa Aa T3 Aa).q fun a w F W => ?_
       refine Ay F W (Ae F Aa Aa Aa Aa) Aa (Ak Aa) (Af ER Aa Aa Aa T3 F Aa 2 Aa).q fun a w F W => ?_
       refine Ay F W (Ae F Aa Aa Aa Aa) Aa (Ak Aa) (Am (v := Value.int .i64 x6.2.2.1) 0 F Aa Aa T3 Aa).q fun a w F W => ?_
       refine Ay F W (Ae F Aa Aa Aa Aa) Aa (Ak Aa) (Dx F Aa Aa).q fun a w F W => ?_
       refine ls F W Aa (Ao F Aa Aa Aa).q fun a w F W => ?_
       refine Ad (Ab ?_)
       exact ⟨F.re ⟨rfl, Aa, Aa, Aa, Aa, Aa, Aa, Aa, (by show some (Value.bool (decide (x6.2.2.2.2.2.2.1 ≠ x6.2.2.1))) = some (Value.bool (decide (x6.2.2.2.2.2.1 = 3) && decide (x6.2.2.2.2.2.2.1 ≠ x6.2.2.1))); try rw [hb0]; all_goals simp only [Bool.not_true, Bool.not_false, Bool.true_and, Bool.false_and, Bool.true_or, Bool.false_or, Bool.and_true, Bool.or_false, cond_true, cond_false]), trivial⟩, W⟩
      rw [hb0] at F
      iterate 5 refine B4 F Aa Aa Aa Aa Aa Aa Aa fun a F => ?_
      refine ls F W Aa (Av F Aa Aa Aa).q fun a w F W => ?_
      refine Ad (Ab ?_)
      exact ⟨F.re ⟨rfl, Aa, Aa, Aa, Aa, Aa, Aa, Aa, (by show some (Value.bool false) = some (Value.bool (decide (x6.2.2.2.2.2.1 = 3) && decide (x6.2.2.2.2.2.2.1 ≠ x6.2.2.1))); try rw [hb0]; all_goals simp only [Bool.not_true, Bool.not_false, Bool.true_and, Bool.false_and, Bool.true_or, Bool.false_or, Bool.and_true, Bool.or_false, cond_true, cond_false]), trivial⟩, W⟩
     rintro a w ⟨F, W⟩
     refine Ax F Aa (fun hb => ?_) fun hb => ?_
     ·
      have H := AK hb H
      rw [hb] at F
      clear hb
      refine Ac ?_
      refine ls F W Aa (Ag F Aa).q fun a w F W => ?_
      refine ls F W Aa (Af ER Aa Aa Aa T3 F Aa 0 Aa).q fun a w F W => ?_
      refine ls F W Aa (Am (v := Value.int .i64 x6.1) 0 F Aa Aa T3 Aa).q fun a w F W => ?_
      refine ls F W Aa (BH (v := Value.agg #[.int .i64 3, .int .i64 x6.1]) P0 F Aa Aa Aa).q fun a w F W => ?_
      refine Da (z := Value.agg #[.int .i64 0, .int .i64 0]) (cs := [.int .i64 3, .int .i64 x6.1]) FS ([(3, x6.1)] : List (Int × Int)) F W Aa N7 P2 Aa Aa Aa Aa Aa Aa (Pz.repL _ _ ([(3, x6.1)] : List (Int × Int))) fun v19 a w F W => ?_
      obtain ⟨x13, h11, H⟩ := An H
      refine Cg (r := FS) (i := 1) F W Aa N7 Aa Aa Aa Aa (CE W 0 Aa) h11 Aa fun v20 a w F W => ?_
      have W : Stw ⟨Y, [], w0⟩ [(b2, [.int .i64 x6.1, .int .i64 x6.2.1, .int .i64 x6.2.2.1, .int .i64 x6.2.2.2.1, (v11.2.2.2.2.1.1), .int .i64 x6.2.2.2.2.2.1, .int .i64 x6.2.2.2.2.2.2.1, .int .i64 x6.2.2.2.2.2.2.2]), (b1, [.int .i64 p0.1, v1, v2])] [row v20 46 FS x13, row v19 46 FS ([(3, x6.1)] : List (Int × Int)), row v6 83 JI x1, Gu (v11.2.2.2.2.1.1) (Rp.int .i64) x6.2.2.2.2.1] w := W
      refine ls F W Aa (Ah F Aa).q fun a w F W => ?_
      refine Ad (Ab ?_)
      have W := W.frontZ (i := 3) Aa Aa
      have W := W.frontZ (i := 3) Aa Aa
      have W := W.frontZ (i := 2) Aa Aa
      have W := W.frontM (i := 1) Aa Aa
      have W := W.frontM (i := 1) Aa Aa
      have W := W.sub (M' := [(b2, [.int .i64 x6.1, .int .i64 x6.2.1, .int .i64 x6.2.2.1, .int .i64 x6.2.2.2.1, (v11.2.2.2.2.1.1), .int .i64 x6.2.2.2.2.2.1, .int .i64 x6.2.2.2.2.2.2.1, .int .i64 x6.2.2.2.2.2.2.2]), (b1, [.int .i64 p0.1, v1, v2])]) (Z' := [row v20 46 FS x13, row v6 83 JI x1, Gu (v11.2.2.2.2.1.1) (Rp.int .i64) x6.2.2.2.2.1]) (List.Sublist.refl _) (List.Sublist.cons_cons _ (List.Sublist.cons_cons _ (List.Sublist.cons_cons _ (List.nil_sublist _))))
      exact ⟨_, (v20), H, F.re ⟨rfl, Aa, Aa, Aa, Aa, Aa, Aa, Aa, trivial⟩, W⟩
     have H := AL (by rw [hb]; decide) H
     rw [hb] at F
     clear hb
     refine Ap (Ab ?_)
     have W := W.frontZ (i := 2) Aa Aa
     have W := W.frontZ (i := 2) Aa Aa
     have W := W.frontZ (i := 2) Aa Aa
     have W := W.frontM (i := 1) Aa Aa
     have W := W.frontM (i := 1) Aa Aa
     exact ⟨_, (v15), H, F.re ⟨rfl, Aa, Aa, Aa, Aa, Aa, Aa, Aa, trivial⟩, W⟩
    rintro a w ⟨x12, v18, hj, F, W⟩
    have hj := AN hj
    subst hj
    have H := K6
    clear G6 K6
    obtain ⟨o7, G7, K7⟩ := An H
    refine AB (fun a w => ∃ x14 : Bool, some (x14) = some o7 ∧ Fr 80 [] [(1, v3), (2, v4), (3, .pointer (some ⟨b1, 0, none⟩)), (6, .slice none 0 0), (7, v18), (8, v6), (9, .int .i64 x4), (10, .pointer (some ⟨b2, 0, none⟩)), (72, .bool x14)] a ∧ Stw ⟨Y, [], w0⟩ [(b2, [.int .i64 x6.1, .int .i64 x6.2.1, .int .i64 x6.2.2.1, .int .i64 x6.2.2.2.1, (v11.2.2.2.2.1.1), .int .i64 x6.2.2.2.2.2.1, .int .i64 x6.2.2.2.2.2.2.1, .int .i64 x6.2.2.2.2.2.2.2]), (b1, [.int .i64 p0.1, v1, v2])] [row v18 46 FS x12, row v6 83 JI x1, Gu (v11.2.2.2.2.1.1) (Rp.int .i64) x6.2.2.2.2.1] w) ?_ ?_
    ·
     have H := G7
     clear G7 K7
     refine BE W MO (by kernel_rfl) ?_
     refine qs F Aa (Ag F Aa).q fun a F => ?_
     refine qs F Aa (Af ER Aa Aa Aa T3 F Aa 3 Aa).q fun a F => ?_
     refine qs F Aa (Am (v := Value.int .i64 x6.2.2.2.1) 0 F Aa Aa T3 Aa).q fun a F => ?_
     obtain ⟨x15, h12, H⟩ := An H
     refine qs F Aa (Bl (v := Value.bool x15) F QG Aa (fun w W => Hk any w (v4) p2 x6.2.2.2.1 _ h12 (((Aj h_v4) : CH _ _ _ _ _ _) w W).nx)) fun a F => ?_
     refine qs F Aa (E5 F Aa).q fun a F => ?_
     refine qs F Aa (Ag F Aa).q fun a F => ?_
     rcases Bool.eq_false_or_eq_true (!x15) with hb | hb
     ·
      have H := AK hb H
      rw [hb] at F
      clear hb
      refine Bu F (Ae F Aa Aa Aa Aa) Aa (Ak Aa) (Am (v := Value.agg #[.int .i64 p0.1, v1, v2]) 1 F Aa Aa HW Aa).q fun a F => ?_
      iterate 2 refine Bu F (Ae F Aa Aa Aa Aa) Aa (Ak Aa) (Ag F Aa).q fun a F => ?_
      refine Bu F (Ae F Aa Aa Aa Aa) Aa (Ak Aa) (Af ER Aa Aa Aa T3 F Aa 3 Aa).q fun a F => ?_
      refine Bu F (Ae F Aa Aa Aa Aa) Aa (Ak Aa) (Am (v := Value.int .i64 x6.2.2.2.1) 0 F Aa Aa T3 Aa).q fun a F => ?_
      obtain ⟨x16, h13, H⟩ := An H
      refine Bu F (Ae F Aa Aa Aa Aa) Aa (Ak Aa) (Bl (v := Value.int .i64 x16) F QX Aa (fun w W => He any w (v4) p2 x6.2.2.2.1 _ h13 (((Aj h_v4) : CH _ _ _ _ _ _) w W).nx)) fun a F => ?_
      refine Bu F (Ae F Aa Aa Aa Aa) Aa (Ak Aa) (Am (v := Value.agg #[.int .i64 x6.1, .int .i64 x6.2.1, .int .i64 x6.2.2.1, .int .i64 x6.2.2.2.1, (v11.2.2.2.2.1.1), .int .i64 x6.2.2.2.2.2.1, .int .i64 x6.2.2.2.2.2.2.1, .int .i64 x6.2.2.2.2.2.2.2]) 0 F Aa Aa Qt Aa).q fun a F => ?_
      obtain ⟨x17, h14, H⟩ := An H
      refine Bu F (Ae F Aa Aa Aa Aa) Aa (Ak Aa) (Bl (v := Value.bool x17) F RZ Aa (fun w W => Kw any w (v1) (v2) (v3) ((v11.2.2.2.2.1.1)) p0 p1 x16 x6 _ h14 (((Aj h_v1) : CH _ _ _ _ _ _) w W).nx (((Aj h_v2) : CH _ _ _ _ _ _) w W).nx (((BA Hw h1 (Aj h_v3)) : CH _ _ _ _ _ _) w W).nx (((HQ 2 Aa) : CH _ _ _ _ _ _) w W).nx)) fun a F => ?_
      refine Bu F (Ae F Aa Aa Aa Aa) Aa (Ak Aa) (E5 F Aa).q fun a F => ?_
      refine qs F Aa (Ao F Aa Aa Aa).q fun a F => ?_
      refine AX fun w W => ?_
      refine Ab ?_
      have W := W.frontZ (i := 2) Aa Aa
      have W := W.frontZ (i := 2) Aa Aa
      have W := W.frontZ (i := 2) Aa Aa
      have W := W.frontM (i := 1) Aa Aa
      have W := W.frontM (i := 1) Aa Aa
      exact ⟨_, H, F.re ⟨rfl, Aa, Aa, Aa, Aa, Aa, Aa, Aa, Aa, trivial⟩, W⟩
     have H := AL (by rw [hb]; decide) H
     rw [hb] at F
     clear hb
     iterate 9 refine Dn F (CD F Aa Aa Aa Aa Aa) Aa Aa fun a F => ?_
     refine qs F Aa (Av F Aa Aa Aa).q fun a F => ?_
     refine AX fun w W => ?_
     refine Ab ?_
     have W := W.frontZ (i := 2) Aa Aa
     have W := W.frontZ (i := 2) Aa Aa
     have W := W.frontZ (i := 2) Aa Aa
     have W := W.frontM (i := 1) Aa Aa
     have W := W.frontM (i := 1) Aa Aa
     exact ⟨_, H, F.re ⟨rfl, Aa, Aa, Aa, Aa, Aa, Aa, Aa, Aa, trivial⟩, W⟩
    rintro a w ⟨x14, hj, F, W⟩
    have hj := AN hj
    subst hj
    have H := K7
    clear G7 K7
    refine Ax F Aa (fun hb => ?_) fun hb => ?_
    ·
     have H := AK hb H
     rw [hb] at F
     clear hb
     refine Ac ?_
     refine ls F W Aa (Ag F Aa).q fun a w F W => ?_
     refine ls F W Aa (Af ER Aa Aa Aa T3 F Aa 0 Aa).q fun a w F W => ?_
     refine ls F W Aa (Am (v := Value.int .i64 x6.1) 0 F Aa Aa T3 Aa).q fun a w F W => ?_
     refine ls F W Aa (BH (v := Value.agg #[.int .i64 4, .int .i64 x6.1]) P0 F Aa Aa Aa).q fun a w F W => ?_
     refine Da (z := Value.agg #[.int .i64 0, .int .i64 0]) (cs := [.int .i64 4, .int .i64 x6.1]) FS ([(4, x6.1)] : List (Int × Int)) F W Aa N7 P2 Aa Aa Aa Aa Aa Aa (Pz.repL _ _ ([(4, x6.1)] : List (Int × Int))) fun v21 a w F W => ?_
     obtain ⟨x18, h15, H⟩ := An H
     refine Cg (r := FS) (i := 1) F W Aa N7 Aa Aa Aa Aa (CE W 0 Aa) h15 Aa fun v22 a w F W => ?_
     have W : Stw ⟨Y, [], w0⟩ [(b2, [.int .i64 x6.1, .int .i64 x6.2.1, .int .i64 x6.2.2.1, .int .i64 x6.2.2.2.1, (v11.2.2.2.2.1.1), .int .i64 x6.2.2.2.2.2.1, .int .i64 x6.2.2.2.2.2.2.1, .int .i64 x6.2.2.2.2.2.2.2]), (b1, [.int .i64 p0.1, v1, v2])] [row v22 46 FS x18, row v21 46 FS ([(4, x6.1)] : List (Int × Int)), row v6 83 JI x1, Gu (v11.2.2.2.2.1.1) (Rp.int .i64) x6.2.2.2.2.1] w := W
     refine ls F W Aa (Ah F Aa).q fun a w F W => ?_
     refine Ad (AF (Ab ?_))
     have W := W.frontZ (i := 2) Aa Aa
     have W := W.frontZ (i := 1) Aa Aa
     have W := W.frontM (i := 1) Aa Aa
     have W := W.sub (M' := [(b1, [.int .i64 p0.1, v1, v2])]) (Z' := [row v22 46 FS x18, row v6 83 JI x1]) (List.Sublist.cons_cons _ (List.nil_sublist _)) (List.Sublist.cons_cons _ (List.Sublist.cons_cons _ (List.nil_sublist _)))
     exact ⟨_, (v22), H, F.re ⟨rfl, Aa, Aa, Aa, Aa, Aa, Aa, trivial⟩, W⟩
    have H := AL (by rw [hb]; decide) H
    rw [hb] at F
    clear hb
    refine Ap (AF (Ab ?_))
    have W := W.frontZ (i := 1) Aa Aa
    have W := W.frontZ (i := 1) Aa Aa
    have W := W.frontM (i := 1) Aa Aa
    have W := W.sub (M' := [(b1, [.int .i64 p0.1, v1, v2])]) (Z' := [row v18 46 FS x12, row v6 83 JI x1]) (List.Sublist.cons_cons _ (List.nil_sublist _)) (List.Sublist.cons_cons _ (List.Sublist.cons_cons _ (List.nil_sublist _)))
    exact ⟨_, (v18), H, F.re ⟨rfl, Aa, Aa, Aa, Aa, Aa, Aa, trivial⟩, W⟩
   rintro a w ⟨x5, v9, hj, F, W⟩
   have hj := AN hj
   subst hj
   have H := K3
   clear G3 K3
   refine Ac ?_
   refine ls F W Aa (Ag F Aa).q fun a w F W => ?_
   refine ls F W Aa (BS F Aa Aa Aa).q fun a w F W => ?_
   refine ls F W Aa (Ah F Aa).q fun a w F W => ?_
   refine Ad (Ab ?_)
   have W := W.frontZ (i := 1) Aa Aa
   have W := W.frontZ (i := 1) Aa Aa
   exact ⟨_, H, (v9), F.re ⟨rfl, Aa, Aa, Aa, Aa, Aa, Aa, trivial⟩, W⟩
  have H := AL (Bc hb) H
  rw [hb] at F
  clear hb
  refine A8 ?_
  iterate 2 refine Bk ?_
  refine A9 (Ab ?_)
  have W := W.sub (M' := [(b1, [.int .i64 p0.1, v1, v2])]) (Z' := [row v8 46 FS x3]) (List.Sublist.refl _) (List.Sublist.cons_cons _ (List.nil_sublist _))
  have H := L2 _ H
  exact ⟨_, (v8), H, F.re ⟨rfl, Aa, trivial⟩, W⟩
 rintro a w ⟨x2, v7, hj, F, W⟩
 have hj := AN hj
 subst hj
 have H := K1
 clear G1 K1
 refine Ai (Ac ?_)
 refine ls F W Aa (Ag F Aa).q fun a w F W => ?_
 refine ls F W Aa (Ah F Aa).q fun a w F W => ?_
 refine Ad (Ab (AA ?_))
 have H := AN H
 subst H
 refine AW (.inl Aa) F W Aa (As F Aa) ?_
 have W := W.sub (M' := []) (Z' := [row v7 46 FS x2]) (List.nil_sublist _) (List.Sublist.refl _)
 exact ⟨(v7), Aa, W⟩
theorem R7 : Has Try.prog 18 := ⟨fun args w => Al Try.func18 rfl (by decide) args w⟩
def CW (p0 : Int × Int × Int × Int × Int × Int) : Bool := (decide (p0.1 = 12) && decide (0 ≤ p0.2.2.2.1))
theorem HL (Y : Nat → Prop) (w0 : World)  (p0 : Int × Int × Int × Int × Int × Int) (r : Bool) (H : CW p0 = r)  :
    Calls Try.prog 36 #[.agg #[.int .i64 p0.1, .int .i64 p0.2.1, .int .i64 p0.2.2.1, .int .i64 p0.2.2.2.1, .int .i64 p0.2.2.2.2.1, .int .i64 p0.2.2.2.2.2]] w0 fun e w' => e = .returned (.bool r) ∧ Below w0.heap.size w0 w' := by
 refine enter Try.func36 Aa Try.ntmps36 Aa fun a F => ?_
 have W := Stw.start Y w0
 unfold CW at H
 refine Ai (Ac ?_)
 refine B9 (cs := [.int .i64 p0.1, .int .i64 p0.2.1, .int .i64 p0.2.2.1, .int .i64 p0.2.2.2.1, .int .i64 p0.2.2.2.2.1, .int .i64 p0.2.2.2.2.2]) F W Aa Aa Aa fun b1 a w F W => ?_
 refine ls F W Aa (Ah F Aa).q fun a w F W => ?_
 refine Ad (Ab ?_)
 refine AB (fun a w => Fr 11 [] [(2, .bool (decide (p0.1 = 12) && decide (0 ≤ p0.2.2.2.1)))] a ∧ Stw ⟨Y, [], w0⟩ [(b1, [.int .i64 p0.1, .int .i64 p0.2.1, .int .i64 p0.2.2.1, .int .i64 p0.2.2.2.1, .int .i64 p0.2.2.2.2.1, .int .i64 p0.2.2.2.2.2])] [] w) ?_ ?_
 ·
  refine Ac ?_
  refine ls F W Aa (Af Cf Aa Aa Aa T3 F Aa 0 Aa).q fun a w F W => ?_
  refine ls F W Aa (Am (v := Value.int .i64 p0.1) 0 F Aa Aa T3 Aa).q fun a w F W => ?_
  refine ls F W Aa (Bz F Aa Aa).q fun a w F W => ?_
  refine ls F W Aa (Ag F Aa).q fun a w F W => ?_
  rcases Bool.eq_false_or_eq_true (decide (p0.1 = 12)) with hb0 | hb0
  ·
   rw [hb0] at F
   refine Ay F W (Ae F Aa Aa Aa Aa) Aa (Ak Aa) (Af Cf Aa Aa Aa T3 F Aa 3 Aa).q fun a w F W => ?_
   refine Ay F W (Ae F Aa Aa Aa Aa) Aa (Ak Aa) (Am (v := Value.int .i64 p0.2.2.2.1) 0 F Aa Aa T3 Aa).q fun a w F W => ?_
   refine Ay F W (Ae F Aa Aa Aa Aa) Aa (Ak Aa) (DH F Aa Aa).q fun a w F W => ?_
   refine ls F W Aa (Ao F Aa Aa Aa).q fun a w F W => ?_
   refine ls F W Aa (Ah F Aa).q fun a w F W => ?_
   refine Ad (Ab ?_)
   exact ⟨F.re ⟨(by show some (Value.bool (decide (0 ≤ p0.2.2.2.1))) = some (Value.bool (decide (p0.1 = 12) && decide (0 ≤ p0.2.2.2.1))); try rw [hb0]; all_goals simp only [Bool.not_true, Bool.not_false, Bool.true_and, Bool.false_and, Bool.true_or, Bool.false_or, Bool.and_true, Bool.or_false, cond_true, cond_false]), trivial⟩, W⟩
  rw [hb0] at F
  iterate 3 refine B4 F Aa Aa Aa Aa Aa Aa Aa fun a F => ?_
  refine ls F W Aa (Av F Aa Aa Aa).q fun a w F W => ?_
  refine ls F W Aa (Ah F Aa).q fun a w F W => ?_
  refine Ad (Ab ?_)
  exact ⟨F.re ⟨(by show some (Value.bool false) = some (Value.bool (decide (p0.1 = 12) && decide (0 ≤ p0.2.2.2.1))); try rw [hb0]; all_goals simp only [Bool.not_true, Bool.not_false, Bool.true_and, Bool.false_and, Bool.true_or, Bool.false_or, Bool.and_true, Bool.or_false, cond_true, cond_false]), trivial⟩, W⟩
 rintro a w ⟨F, W⟩
 refine AA ?_
 subst H
 refine AW (.inl Aa) F W Aa (As F Aa) ?_
 exact ⟨rfl, W.done⟩
theorem Sb : Has Try.prog 36 := ⟨fun args w => Al Try.func36 rfl (by decide) args w⟩
noncomputable def AR (p0 : List (Int × Int × Int × Int × Int × Int)) : Int → Option (Int ⊕ (Unit ⊕ Int))
  | x1 => (if x1 < (p0.length : Int) then (ix p0 x1).bind fun x2 => (if (CW x2) = true then some (.inr (.inr x1)) else some (.inl (Dz (x1 + 1)))) else some (.inr (.inl ())))
noncomputable def BD (p0 : List (Int × Int × Int × Int × Int × Int)) : Option Int := D6 (AM (AR p0) 0) fun _ => some (-1)
theorem DK (Y : Nat → Prop) (w0 : World) (v1 : Value) (p0 : List (Int × Int × Int × Int × Int × Int)) (r : Int) (H : BD p0 = some r) (h_v1 : Sl w0 (NX []) Ej v1 p0) :
    Calls Try.prog 46 #[v1, .func (.func 36) #[] #[]] w0 fun e w' => e = .returned (.int .i64 r) ∧ Below w0.heap.size w0 w' := by
 refine enter Try.func46 Aa Try.ntmps46 Aa fun a F => ?_
 have W := Stw.start Y w0
 unfold BD at H
 refine Ai (Ac ?_)
 refine ls F W Aa (Ah F Aa).q fun a w F W => ?_
 refine Ad (Ab ?_)
 obtain ⟨o1, G1, K1, L1⟩ := H4 H
 refine AB (fun a w => some (Sum.inl ()) = some o1 ∧ Fr 19 [] [(4, .int .i64 0)] a ∧ Stw ⟨Y, [], w0⟩ [] [] w) ?_ ?_
 ·
  have H := G1
  clear G1 K1
  refine Ai (Ac ?_)
  refine ls F W Aa (Ag F Aa).q fun a w F W => ?_
  refine ls F W Aa (A6 (r := Ej) (l := p0) JE Aa F Aa (Aj h_v1)).q fun a w F W => ?_
  refine ls F W Aa (Ag F Aa).q fun a w F W => ?_
  refine Ad (Ab (Au ?_))
  refine Bf H (fun s a w => Fr 19 [] [(0, v1), (1, .func (.func 36) #[] #[]), (4, .int .i64 0), (7, .int .i64 (p0.length : Int)), (8, .int .i64 s)] a ∧ Stw ⟨Y, [], w0⟩ [] [] w) ⟨F.re ⟨rfl, Aa, Aa, Aa, Aa, trivial⟩, W⟩ fun s o a w H L2 hR => ?_
  obtain ⟨x1, rfl⟩ : ∃ x, x = s := ⟨s, rfl⟩
  obtain ⟨F, W⟩ := hR
  have F : Fr 19 [] [(0, v1), (1, .func (.func 36) #[] #[]), (4, .int .i64 0), (7, .int .i64 (p0.length : Int)), (8, .int .i64 x1)] a := F
  have W : Stw ⟨Y, [], w0⟩ [] [] w := W
  rw [AR] at H
  refine Ai (Ac ?_)
  refine ls F W Aa (Bi F Aa Aa).q fun a w F W => ?_
  refine Ad (Ab (Ai ?_))
  refine Ax F Aa (fun hb => ?_) fun hb => ?_
  ·
   have H := AK (Bd hb) H
   rw [hb] at F
   clear hb
   refine Ap (Ab (Ai (Au (Ai (Ac ?_)))))
   refine ls F W Aa (Ag F Aa).q fun a w F W => ?_
   refine ls F W Aa (Ah F Aa).q fun a w F W => ?_
   refine Ad (Ab (Ai (Ac ?_)))
   iterate 3 refine ls F W Aa (Ag F Aa).q fun a w F W => ?_
   obtain ⟨x2, h1, H⟩ := An H
   refine ls F W Aa (Az (r := Ej) JK F Aa Aa (Aj h_v1) h1).q fun a w F W => ?_
   refine ls F W Aa (Aq (y := Value.agg #[.int .i64 x2.1, .int .i64 x2.2.1, .int .i64 x2.2.2.1, .int .i64 x2.2.2.2.1, .int .i64 x2.2.2.2.2.1, .int .i64 x2.2.2.2.2.2]) (j := 0) (i := x1) F Aa Aa (Aj h_v1) h1 JJ.to Mu Aa).q fun a w F W => ?_
   refine ls F W Aa (IV (ws := [.agg #[.int .i64 x2.1, .int .i64 x2.2.1, .int .i64 x2.2.2.1, .int .i64 x2.2.2.2.1, .int .i64 x2.2.2.2.2.1, .int .i64 x2.2.2.2.2.2]]) (v := Value.bool (CW x2)) F Sb Aa (fun w W => HL any w x2 _ Aa)) fun a w F W => ?_
   refine Ad (Ab ?_)
   refine Ax F Aa (fun hb => ?_) fun hb => ?_
   ·
    have H := AK hb H
    rw [hb] at F
    clear hb
    refine Ai (Ac ?_)
    refine ls F W Aa (Ag F Aa).q fun a w F W => ?_
    refine ls F W Aa (Ah F Aa).q fun a w F W => ?_
    refine Ad (Ab (AA (AH ?_)))
    iterate 2 refine AD ?_
    refine AH (AD ?_)
    have H := L2 _ H
    have H := L1 _ H
    have H := AN H
    subst H
    refine AW (.inl Aa) F W Aa (As F Aa) ?_
    exact ⟨rfl, W.done⟩
   have H := AL (by rw [hb]; decide) H
   rw [hb] at F
   clear hb
   refine Ap (AF (Ab (Ac ?_)))
   refine ls F W Aa (BS F Aa Aa Aa).q fun a w F W => ?_
   refine ls F W Aa (Ag F Aa).q fun a w F W => ?_
   refine Ad (Ab ?_)
   exact ⟨_, H, F.re ⟨rfl, Aa, Aa, Aa, Aa, trivial⟩, W⟩
  have H := AL (Bc hb) H
  rw [hb] at F
  clear hb
  refine A8 ?_
  iterate 2 refine Bk ?_
  refine A9 (Ab ?_)
  have H := L2 _ H
  exact ⟨H, F.re ⟨rfl, trivial⟩, W⟩
 rintro a w ⟨hj, F, W⟩
 have H := K1 _ hj
 clear hj G1 K1 L1
 refine Ai (Ac ?_)
 refine ls F W Aa (Ah F Aa).q fun a w F W => ?_
 refine Ad (Ab (AA ?_))
 have H := AN H
 subst H
 refine AW (.inl Aa) F W Aa (As F Aa) ?_
 exact ⟨rfl, W.done⟩
theorem Rc : Has Try.prog 46 := ⟨fun args w => Al Try.func46 rfl (by decide) args w⟩
noncomputable def Bv (p0 : List (Int × Int × Int × Int × Int × Int)) : Option Bool := (BD p0).bind fun x1 => some (decide (0 ≤ x1))
theorem Dw (Y : Nat → Prop) (w0 : World) (v1 : Value) (p0 : List (Int × Int × Int × Int × Int × Int)) (r : Bool) (H : Bv p0 = some r) (h_v1 : Sl w0 (NX []) Ej v1 p0) :
    Calls Try.prog 35 #[v1, .func (.func 36) #[] #[]] w0 fun e w' => e = .returned (.bool r) ∧ Below w0.heap.size w0 w' := by
 refine enter Try.func35 Aa Try.ntmps35 Aa fun a F => ?_
 have W := Stw.start Y w0
 unfold Bv at H
 refine Ai (Ac ?_)
 refine ls F W Aa (Ah F Aa).q fun a w F W => ?_
 refine Ad (Ab (Ai (Ac ?_)))
 iterate 2 refine ls F W Aa (Ag F Aa).q fun a w F W => ?_
 obtain ⟨x1, h1, H⟩ := An H
 refine ls F W Aa (Bl (v := Value.int .i64 x1) F Rc Aa (fun w W => DK any w (v1) p0 _ h1 (((Aj h_v1) : CH _ _ _ _ _ _) w W).nx)) fun a w F W => ?_
 refine ls F W Aa (DH F Aa Aa).q fun a w F W => ?_
 refine ls F W Aa (Ah F Aa).q fun a w F W => ?_
 refine Ad (Ab (AA ?_))
 have H := AN H
 subst H
 refine AW (.inl Aa) F W Aa (As F Aa) ?_
 exact ⟨rfl, W.done⟩
theorem Sp : Has Try.prog 35 := ⟨fun args w => Al Try.func35 rfl (by decide) args w⟩
noncomputable def D1 (p0 : List (Int × Int × Int × Int × Int × Int)) : Option Bool := (Bv p0).bind fun x1 => some x1
theorem ID (Y : Nat → Prop) (w0 : World) (v1 : Value) (p0 : List (Int × Int × Int × Int × Int × Int)) (r : Bool) (H : D1 p0 = some r) (h_v1 : Sl w0 (NX []) Ej v1 p0) :
    Calls Try.prog 19 #[v1] w0 fun e w' => e = .returned (.bool r) ∧ Below w0.heap.size w0 w' := by
 refine enter Try.func19 Aa Try.ntmps19 Aa fun a F => ?_
 have W := Stw.start Y w0
 unfold D1 at H
 refine Ai (Ac ?_)
 refine ls F W Aa (Ah F Aa).q fun a w F W => ?_
 refine Ad (Ab (Ai (Ac ?_)))
 refine ls F W Aa (Ag F Aa).q fun a w F W => ?_
 obtain ⟨x1, h1, H⟩ := An H
 refine ls F W Aa (Bl (v := Value.bool x1) F Sp Aa (fun w W => Dw any w (v1) p0 _ h1 (((Aj h_v1) : CH _ _ _ _ _ _) w W).nx)) fun a w F W => ?_
 refine ls F W Aa (Ah F Aa).q fun a w F W => ?_
 refine Ad (Ab (AA ?_))
 have H := AN H
 subst H
 refine AW (.inl Aa) F W Aa (As F Aa) ?_
 exact ⟨rfl, W.done⟩
end Go.Proofs.Ytflaelbmglmmcaa
