/- The functions of layer 42, ET. Conditions: none. -/
import Derived.Test.YtflaelbmglmmcaaeA5
namespace Go.Proofs.Ytflaelbmglmmcaa
open Go Go.RowKit
set_option linter.unusedVariables false
set_option linter.unusedSimpArgs false
set_option maxRecDepth 20000
theorem Pk : Has Try.prog 38 := ⟨fun args w => Am Try.func38 rfl (by decide) args w⟩
noncomputable def Cj (p0 : Int × (List (Int × Int × Int × Int × Int × Int)) × (List (Int × Int))) (p1 : List (List Int)) (p2 : Int) (p3 : Int) : (List Int × Int) → Option ((List Int × Int) ⊕ (Unit ⊕ (List Int × Int)))
  | (x3, x4) => (if x4 < p0.1 then (Dq p0 p1 p2 p3 x4).bind fun x5 => (if x5.1 = (-1) then some (.inr (.inr (([] : List Int), 13))) else (FR x3 ([x5.1] : List Int)).bind fun x6 => (if x5.2 = true then some (.inr (.inr (x6, 0))) else some (.inl (x6, DH (x4 + 1))))) else some (.inr (.inl ())))
noncomputable def Dn (p0 : Int × (List (Int × Int × Int × Int × Int × Int)) × (List (Int × Int))) (p1 : List (List Int)) (p2 : Int) (p3 : Int) : Option (List Int × Int) := ((EP p0 p1).bind fun x2 => (if (!x2) = true then some true else (if p2 < 0 then some true else (if (p1.length : Int) ≤ p2 then some true else (if p3 < 0 then some true else some (decide ((p0.2.2.length : Int) ≤ p3))))))).bind fun x1 => (if x1 = true then some (([] : List Int), 2) else D7 (AQ (Cj p0 p1 p2 p3) ([], 0)) fun _ => (Dq p0 p1 p2 p3 p0.1).bind fun x7 => (if x7.1 = (-1) then some (([] : List Int), 13) else some (([] : List Int), 12)))
theorem Ip (Y : Nat → Prop) (w0 : World) (v1 : Value) (v2 : Value) (v3 : Value) (p0 : Int × (List (Int × Int × Int × Int × Int × Int)) × (List (Int × Int))) (p1 : List (List Int)) (p2 : Int) (p3 : Int) (r : List Int × Int) (H : Dn p0 p1 p2 p3 = some r) (h_v1 : Sl w0 (NX []) CS v1 p0.2.1) (h_v2 : Sl w0 (NX []) Ec v2 p0.2.2) (h_v3 : Sl w0 (NX []) (Rp.slice (Rp.int .i64)) v3 p1) :
    Calls Try.prog 22 #[.agg #[.int .i64 p0.1, v1, v2], v3, .int .i64 p2, .int .i64 p3] w0 fun e w' => ∃ x : Value, e = .returned (.tuple #[x, .int .i64 r.2]) ∧ Stw ⟨Y, [], w0⟩ [] [row (x) 3 (Rp.int .i64) r.1] w' := by
 refine enter Try.func22 Aa Try.ntmps22 Aa fun a F => ?_
 have W := Stw.start Y w0
 obtain ⟨v4, h1, h_v3⟩ := h_v3.ex Dc
 unfold Dn at H
 refine Ai (Ac ?_)
 refine B9 (cs := [.int .i64 p0.1, v1, v2]) F W Aa Aa Aa fun b1 a w F W => ?_
 iterate 2 refine ls F W Aa (Ah F Aa).q fun a w F W => ?_
 refine Ad (Ab (Ai ?_))
 obtain ⟨o1, G1, K1⟩ := Ao H
 refine AH (fun a w => ∃ x1 : Bool, some (x1) = some o1 ∧ Fr 76 [] [(1, v3), (2, .int .i64 p2), (3, .int .i64 p3), (4, .pointer (some ⟨b1, 0, none⟩)), (8, .slice none 0 0), (9, .int .i64 0), (40, .bool x1)] a ∧ Stw ⟨Y, [], w0⟩ [(b1, [.int .i64 p0.1, v1, v2])] [] w) ?_ ?_
 ·
  have H := G1
  clear G1 K1
  refine Ac ?_
  refine ls F W Aa (Al (v := Value.agg #[.int .i64 p0.1, v1, v2]) 0 F Aa Aa G0 Aa).q fun a w F W => ?_
  refine ls F W Aa (Ae F Aa).q fun a w F W => ?_
  obtain ⟨x2, h2, H⟩ := Ao H
  refine ls F W Aa (BI (v := Value.bool x2) F Pi Aa (fun w W => HD any w (v1) (v2) (v3) p0 p1 _ h2 (((Aj h_v1) : CZ _ _ _ _ _ _) w W).nx (((Aj h_v2) : CZ _ _ _ _ _ _) w W).nx (((Bx Dc h1 (Aj h_v3)) : CZ _ _ _ _ _ _) w W).nx)) fun a w F W => ?_
  refine ls F W Aa (EJ F Aa).q fun a w F W => ?_
  refine ls F W Aa (Ae F Aa).q fun a w F W => ?_
  rcases Bool.eq_false_or_eq_true (!x2) with hb | hb
  ·
   have H := AN hb H
   rw [hb] at F
   clear hb
   iterate 2 refine BW F Aa Aa Aa Aa Aa Aa Aa fun a F => ?_
   refine ls F W Aa (An F Aa Aa Aa).q fun a w F W => ?_
   refine ls F W Aa (Ae F Aa).q fun a w F W => ?_
   iterate 4 refine BW F Aa Aa Aa Aa Aa Aa Aa fun a F => ?_
   refine ls F W Aa (An F Aa Aa Aa).q fun a w F W => ?_
   refine ls F W Aa (Ae F Aa).q fun a w F W => ?_
   iterate 2 refine BW F Aa Aa Aa Aa Aa Aa Aa fun a F => ?_
   refine ls F W Aa (An F Aa Aa Aa).q fun a w F W => ?_
   refine ls F W Aa (Ae F Aa).q fun a w F W => ?_
   iterate 5 refine BW F Aa Aa Aa Aa Aa Aa Aa fun a F => ?_
   refine ls F W Aa (An F Aa Aa Aa).q fun a w F W => ?_
   refine Ad (Ab ?_)
   exact ⟨_, H, F.re ⟨rfl, Aa, Aa, Aa, Aa, Aa, Aa, trivial⟩, W⟩
  have H := AM (by rw [hb]; decide) H
  rw [hb] at F
  clear hb
  refine Au F W (Af F Aa Aa Aa Aa) Aa (Ak Aa) (Ae F Aa).q fun a w F W => ?_
  refine Au F W (Af F Aa Aa Aa Aa) Aa (Ak Aa) (Bq F Aa Aa).q fun a w F W => ?_
  refine ls F W Aa (As F Aa Aa Aa).q fun a w F W => ?_
  refine ls F W Aa (Ae F Aa).q fun a w F W => ?_
  rcases Bool.eq_false_or_eq_true (decide (p2 < 0)) with hb | hb
  ·
   have H := AN (Bf hb) H
   rw [hb] at F
   clear hb
   iterate 4 refine BW F Aa Aa Aa Aa Aa Aa Aa fun a F => ?_
   refine ls F W Aa (An F Aa Aa Aa).q fun a w F W => ?_
   refine ls F W Aa (Ae F Aa).q fun a w F W => ?_
   iterate 2 refine BW F Aa Aa Aa Aa Aa Aa Aa fun a F => ?_
   refine ls F W Aa (An F Aa Aa Aa).q fun a w F W => ?_
   refine ls F W Aa (Ae F Aa).q fun a w F W => ?_
   iterate 5 refine BW F Aa Aa Aa Aa Aa Aa Aa fun a F => ?_
   refine ls F W Aa (An F Aa Aa Aa).q fun a w F W => ?_
   refine Ad (Ab ?_)
   exact ⟨_, H, F.re ⟨rfl, Aa, Aa, Aa, Aa, Aa, Aa, trivial⟩, W⟩
  have H := AM (Bg hb) H
  rw [hb] at F
  clear hb
  iterate 2 refine Au F W (Af F Aa Aa Aa Aa) Aa (Ak Aa) (Ae F Aa).q fun a w F W => ?_
  refine Au F W (Af F Aa Aa Aa Aa) Aa (Ak Aa) (A7 (r := (Rp.slice (Rp.int .i64))) (l := p1) Ik Aa F Aa (Bx Dc h1 (Aj h_v3))).q fun a w F W => ?_
  refine Au F W (Af F Aa Aa Aa Aa) Aa (Ak Aa) (DC F Aa Aa).q fun a w F W => ?_
  refine ls F W Aa (As F Aa Aa Aa).q fun a w F W => ?_
  refine ls F W Aa (Ae F Aa).q fun a w F W => ?_
  rcases Bool.eq_false_or_eq_true (decide ((p1.length : Int) ≤ p2)) with hb | hb
  ·
   have H := AN (Bf hb) H
   rw [hb] at F
   clear hb
   iterate 2 refine BW F Aa Aa Aa Aa Aa Aa Aa fun a F => ?_
   refine ls F W Aa (An F Aa Aa Aa).q fun a w F W => ?_
   refine ls F W Aa (Ae F Aa).q fun a w F W => ?_
   iterate 5 refine BW F Aa Aa Aa Aa Aa Aa Aa fun a F => ?_
   refine ls F W Aa (An F Aa Aa Aa).q fun a w F W => ?_
   refine Ad (Ab ?_)
   exact ⟨_, H, F.re ⟨rfl, Aa, Aa, Aa, Aa, Aa, Aa, trivial⟩, W⟩
  have H := AM (Bg hb) H
  rw [hb] at F
  clear hb
  refine Au F W (Af F Aa Aa Aa Aa) Aa (Ak Aa) (Ae F Aa).q fun a w F W => ?_
  refine Au F W (Af F Aa Aa Aa Aa) Aa (Ak Aa) (Bq F Aa Aa).q fun a w F W => ?_
  refine ls F W Aa (As F Aa Aa Aa).q fun a w F W => ?_
  refine ls F W Aa (Ae F Aa).q fun a w F W => ?_
  rcases Bool.eq_false_or_eq_true (decide (p3 < 0)) with hb | hb
  ·
   have H := AN (Bf hb) H
   rw [hb] at F
   clear hb
   iterate 5 refine BW F Aa Aa Aa Aa Aa Aa Aa fun a F => ?_
   refine ls F W Aa (An F Aa Aa Aa).q fun a w F W => ?_
   refine Ad (Ab ?_)
   exact ⟨_, H, F.re ⟨rfl, Aa, Aa, Aa, Aa, Aa, Aa, trivial⟩, W⟩
  have H := AM (Bg hb) H
  rw [hb] at F
  clear hb
  refine Au F W (Af F Aa Aa Aa Aa) Aa (Ak Aa) (Ae F Aa).q fun a w F W => ?_
  refine Au F W (Af F Aa Aa Aa Aa) Aa (Ak Aa) (Ag CJ Aa Aa Aa FW F Aa 2 Aa).q fun a w F W => ?_
  refine Au F W (Af F Aa Aa Aa Aa) Aa (Ak Aa) (Al (v := v2) 0 F Aa Aa FW Aa).q fun a w F W => ?_
  refine Au F W (Af F Aa Aa Aa Aa) Aa (Ak Aa) (A7 (r := Ec) (l := p0.2.2) GW Aa F Aa (Aj h_v2)).q fun a w F W => ?_
  refine Au F W (Af F Aa Aa Aa Aa) Aa (Ak Aa) (DC F Aa Aa).q fun a w F W => ?_
  refine ls F W Aa (As F Aa Aa Aa).q fun a w F W => ?_
  refine Ad (Ab ?_)
  exact ⟨_, H, F.re ⟨rfl, Aa, Aa, Aa, Aa, Aa, Aa, trivial⟩, W⟩
 rintro a w ⟨x1, hj, F, W⟩
 have hj := AW hj
 subst hj
 have H := K1
 clear G1 K1
 refine Ay F Aa (fun hb => ?_) fun hb => ?_
 ·
  have H := AN hb H
  rw [hb] at F
  clear hb
  refine Ai (Ac ?_)
  iterate 2 refine ls F W Aa (Ah F Aa).q fun a w F W => ?_
  refine Ad (Ab (AA (AD ?_)))
  have H := AW H
  subst H
  refine Eb (.inl Aa) F W Aa (Ap F Aa) (Ap F Aa) ?_
  have W := W.nilRow 3 (Rp.int .i64)
  have W := W.sub (M' := []) (Z' := [row (Value.slice none 0 0) 3 (Rp.int .i64) ([])]) (List.nil_sublist _) (List.Sublist.refl _)
  exact ⟨(Value.slice none 0 0), Aa, W⟩
 have H := AM (by rw [hb]; decide) H
 rw [hb] at F
 clear hb
 refine Aq (Ab (Ai (Ac ?_)))
 refine ls F W Aa (Ah F Aa).q fun a w F W => ?_
 refine Ad (Ab ?_)
 obtain ⟨o2, G2, K2, L2⟩ := IY H
 refine AH (fun a w => some (Sum.inl ()) = some o2 ∧ Fr 76 [] [(1, v3), (2, .int .i64 p2), (3, .int .i64 p3), (4, .pointer (some ⟨b1, 0, none⟩)), (8, .slice none 0 0), (9, .int .i64 0)] a ∧ Stw ⟨Y, [], w0⟩ [(b1, [.int .i64 p0.1, v1, v2])] [] w) ?_ ?_
 ·
  have H := G2
  clear G2 K2
  refine Ai (Ac ?_)
  refine ls F W Aa (Ah F Aa).q fun a w F W => ?_
  refine Ad (Ab (Aw ?_))
  have W := W.nilRow 3 (Rp.int .i64)
  refine Bv H (fun s a w => ∃ v5 : Value, Fr 76 [] [(1, v3), (2, .int .i64 p2), (3, .int .i64 p3), (4, .pointer (some ⟨b1, 0, none⟩)), (8, .slice none 0 0), (9, .int .i64 0), (10, v5), (11, .int .i64 s.2)] a ∧ Stw ⟨Y, [], w0⟩ [(b1, [.int .i64 p0.1, v1, v2])] [row v5 3 (Rp.int .i64) s.1] w) ⟨(Value.slice none 0 0), F.re ⟨rfl, Aa, Aa, Aa, Aa, Aa, Aa, Aa, trivial⟩, W⟩ fun s o a w H L3 hR => ?_
  obtain ⟨x3, x4⟩ := s
  obtain ⟨v5, F, W⟩ := hR
  have F : Fr 76 [] [(1, v3), (2, .int .i64 p2), (3, .int .i64 p3), (4, .pointer (some ⟨b1, 0, none⟩)), (8, .slice none 0 0), (9, .int .i64 0), (10, v5), (11, .int .i64 x4)] a := F
  have W : Stw ⟨Y, [], w0⟩ [(b1, [.int .i64 p0.1, v1, v2])] [row v5 3 (Rp.int .i64) x3] w := W
  rw [Cj] at H
  refine Ai (Ai (Ac ?_))
  refine ls F W Aa (Ae F Aa).q fun a w F W => ?_
  refine ls F W Aa (Ag CJ Aa Aa Aa T3 F Aa 0 Aa).q fun a w F W => ?_
  refine ls F W Aa (Al (v := Value.int .i64 p0.1) 0 F Aa Aa T3 Aa).q fun a w F W => ?_
  refine ls F W Aa (Bq F Aa Aa).q fun a w F W => ?_
  refine Ad (Ab ?_)
  refine Ay F Aa (fun hb => ?_) fun hb => ?_
  ·
   have H := AN (Bf hb) H
   rw [hb] at F
   clear hb
   refine Aq (Ab (Ai (Aw (Ai (Ac ?_)))))
   refine ls F W Aa (Al (v := Value.agg #[.int .i64 p0.1, v1, v2]) 0 F Aa Aa G0 Aa).q fun a w F W => ?_
   iterate 4 refine ls F W Aa (Ae F Aa).q fun a w F W => ?_
   obtain ⟨x5, h3, H⟩ := Ao H
   refine ls F W Aa (BI (v := Value.tuple #[.int .i64 x5.1, .bool x5.2]) F Pk Aa (fun w W => HA any w (v1) (v2) (v3) p0 p1 p2 p3 x4 _ h3 (((Aj h_v1) : CZ _ _ _ _ _ _) w W).nx (((Aj h_v2) : CZ _ _ _ _ _ _) w W).nx (((Bx Dc h1 (Aj h_v3)) : CZ _ _ _ _ _ _) w W).nx)) fun a w F W => ?_
   refine ls F W Aa (Ae F Aa).q fun a w F W => ?_
   refine ls F W Aa (AZ (v := Value.int .i64 x5.1) F Aa Aa).q fun a w F W => ?_
   refine ls F W Aa (AZ (v := Value.bool x5.2) F Aa Aa).q fun a w F W => ?_
   iterate 2 refine ls F W Aa (Ah F Aa).q fun a w F W => ?_
   refine Ad (Ab (Ai (Ai (Ac ?_))))
   refine ls F W Aa (Ae F Aa).q fun a w F W => ?_
   refine ls F W Aa (BZ F Aa Aa).q fun a w F W => ?_
   refine Ad (Ab ?_)
   refine Ay F Aa (fun hb => ?_) fun hb => ?_
   ·
    have H := AN (Bf hb) H
    rw [hb] at F
    clear hb
    refine Ai (Ac ?_)
    iterate 2 refine ls F W Aa (Ah F Aa).q fun a w F W => ?_
    refine Ad (Ab (AA (AD (AF ?_))))
    iterate 2 refine AD ?_
    refine AF (AD ?_)
    have H := L3 _ H
    have H := L2 _ H
    have H := AW H
    subst H
    refine Eb (.inl Aa) F W Aa (Ap F Aa) (Ap F Aa) ?_
    have W := W.nilRow 3 (Rp.int .i64)
    have W := W.sub (M' := []) (Z' := [row (Value.slice none 0 0) 3 (Rp.int .i64) ([])]) (List.nil_sublist _) (List.Sublist.cons_cons _ (List.nil_sublist _))
    exact ⟨(Value.slice none 0 0), Aa, W⟩
   have H := AM (Bg hb) H
   rw [hb] at F
   clear hb
   refine Aq (Ab (Ai (Ac ?_)))
   iterate 2 refine ls F W Aa (Ae F Aa).q fun a w F W => ?_
   refine C1 (z := Value.int .i64 0) (cs := [.int .i64 x5.1]) (Rp.int .i64) ([x5.1] : List Int) F W Aa HV Z3 Aa Aa Aa Aa Aa Aa (Fl.int.repL _ _ ([x5.1] : List Int)) fun v6 a w F W => ?_
   obtain ⟨x6, h4, H⟩ := Ao H
   refine Cz (r := (Rp.int .i64)) (i := 1) F W Aa HV Aa Aa Aa Aa (C7 W 0 Aa) h4 Aa fun v7 a w F W => ?_
   have W : Stw ⟨Y, [], w0⟩ [(b1, [.int .i64 p0.1, v1, v2])] [row v7 3 (Rp.int .i64) x6, row v6 3 (Rp.int .i64) ([x5.1] : List Int)] w := W
   refine ls F W Aa (Ah F Aa).q fun a w F W => ?_
   refine Ad (Ab (Ai (Ac ?_)))
   refine ls F W Aa (Ae F Aa).q fun a w F W => ?_
   refine Ad (Ab ?_)
   refine Ay F Aa (fun hb => ?_) fun hb => ?_
   ·
    have H := AN hb H
    rw [hb] at F
    clear hb
    refine Ai (Ac ?_)
    refine ls F W Aa (Ae F Aa).q fun a w F W => ?_
    iterate 2 refine ls F W Aa (Ah F Aa).q fun a w F W => ?_
    refine Ad (Ab (AA (AF ?_)))
    iterate 2 refine AD ?_
    refine AF (AD ?_)
    have H := L3 _ H
    have H := L2 _ H
    have H := AW H
    subst H
    refine Eb (.inl Aa) F W Aa (Ap F Aa) (Ap F Aa) ?_
    have W := W.sub (M' := []) (Z' := [row v7 3 (Rp.int .i64) x6]) (List.nil_sublist _) (List.Sublist.cons_cons _ (List.nil_sublist _))
    exact ⟨(v7), Aa, W⟩
   have H := AM (by rw [hb]; decide) H
   rw [hb] at F
   clear hb
   refine Aq (AK (Ab (Ac ?_)))
   refine ls F W Aa (Ae F Aa).q fun a w F W => ?_
   refine ls F W Aa (Cq F Aa Aa Aa).q fun a w F W => ?_
   refine ls F W Aa (Ah F Aa).q fun a w F W => ?_
   refine Ad (Ab ?_)
   have W := W.sub (M' := [(b1, [.int .i64 p0.1, v1, v2])]) (Z' := [row v7 3 (Rp.int .i64) x6]) (List.Sublist.refl _) (List.Sublist.cons_cons _ (List.nil_sublist _))
   exact ⟨_, H, (v7), F.re ⟨rfl, Aa, Aa, Aa, Aa, Aa, Aa, Aa, trivial⟩, W⟩
  have H := AM (Bg hb) H
  rw [hb] at F
  clear hb
  refine Bk ?_
  iterate 2 refine BJ ?_
  refine Bl (Ab ?_)
  have W := W.sub (M' := [(b1, [.int .i64 p0.1, v1, v2])]) (Z' := []) (List.Sublist.refl _) (List.nil_sublist _)
  have H := L3 _ H
  exact ⟨H, F.re ⟨rfl, Aa, Aa, Aa, Aa, Aa, trivial⟩, W⟩
 rintro a w ⟨hj, F, W⟩
 have H := K2 _ hj
 clear hj G2 K2 L2
 refine Ai (Ac ?_)
 refine ls F W Aa (Al (v := Value.agg #[.int .i64 p0.1, v1, v2]) 0 F Aa Aa G0 Aa).q fun a w F W => ?_
 iterate 3 refine ls F W Aa (Ae F Aa).q fun a w F W => ?_
 refine ls F W Aa (Ag CJ Aa Aa Aa T3 F Aa 0 Aa).q fun a w F W => ?_
 refine ls F W Aa (Al (v := Value.int .i64 p0.1) 0 F Aa Aa T3 Aa).q fun a w F W => ?_
 obtain ⟨x7, h5, H⟩ := Ao H
 refine ls F W Aa (BI (v := Value.tuple #[.int .i64 x7.1, .bool x7.2]) F Pk Aa (fun w W => HA any w (v1) (v2) (v3) p0 p1 p2 p3 p0.1 _ h5 (((Aj h_v1) : CZ _ _ _ _ _ _) w W).nx (((Aj h_v2) : CZ _ _ _ _ _ _) w W).nx (((Bx Dc h1 (Aj h_v3)) : CZ _ _ _ _ _ _) w W).nx)) fun a w F W => ?_
 refine ls F W Aa (Ae F Aa).q fun a w F W => ?_
 refine ls F W Aa (AZ (v := Value.int .i64 x7.1) F Aa Aa).q fun a w F W => ?_
 refine ls F W Aa (AZ (v := Value.bool x7.2) F Aa Aa).q fun a w F W => ?_
 iterate 2 refine ls F W Aa (Ah F Aa).q fun a w F W => ?_
 refine Ad (Ab (Ai (Ai (Ac ?_))))
 refine ls F W Aa (Ae F Aa).q fun a w F W => ?_
 refine ls F W Aa (BZ F Aa Aa).q fun a w F W => ?_
 refine Ad (Ab ?_)
 refine Ay F Aa (fun hb => ?_) fun hb => ?_
 ·
  have H := AN (Bf hb) H
  rw [hb] at F
  clear hb
  refine Ai (Ac ?_)
  iterate 2 refine ls F W Aa (Ah F Aa).q fun a w F W => ?_
  refine Ad (Ab (AA (AD ?_)))
  have H := AW H
  subst H
  refine Eb (.inl Aa) F W Aa (Ap F Aa) (Ap F Aa) ?_
  have W := W.nilRow 3 (Rp.int .i64)
  have W := W.sub (M' := []) (Z' := [row (Value.slice none 0 0) 3 (Rp.int .i64) ([])]) (List.nil_sublist _) (List.Sublist.refl _)
  exact ⟨(Value.slice none 0 0), Aa, W⟩
 have H := AM (Bg hb) H
 rw [hb] at F
 clear hb
 refine Aq (Ab (Ai (Ac ?_)))
 iterate 2 refine ls F W Aa (Ah F Aa).q fun a w F W => ?_
 refine Ad (Ab (AA ?_))
 have H := AW H
 subst H
 refine Eb (.inl Aa) F W Aa (Ap F Aa) (Ap F Aa) ?_
 have W := W.nilRow 3 (Rp.int .i64)
 have W := W.sub (M' := []) (Z' := [row (Value.slice none 0 0) 3 (Rp.int .i64) ([])]) (List.nil_sublist _) (List.Sublist.refl _)
 exact ⟨(Value.slice none 0 0), Aa, W⟩
theorem Pf : Has Try.prog 22 := ⟨fun args w => Am Try.func22 rfl (by decide) args w⟩
noncomputable def Df (p3 : Int × Int × Int × Int × List Int × Int × Int × Int) (x3 : List Int × Int) : Int → Option (Int ⊕ (Unit ⊕ Bool))
  | x4 => (if x4 < (p3.2.2.2.2.1.length : Int) then (ix x3.1 x4).bind fun x5 => (ix p3.2.2.2.2.1 x4).bind fun x6 => (if x5 ≠ x6 then some (.inr (.inr false)) else some (.inl (DH (x4 + 1)))) else some (.inr (.inl ())))
noncomputable def Ie (p0 : Int × (List (Int × Int × Int × Int × Int × Int)) × (List (Int × Int))) (p1 : List (List (List Int))) (p2 : Int) (p3 : Int × Int × Int × Int × List Int × Int × Int × Int) : Option Bool := (if (p3.2.2.2.2.1.length : Int) = 0 then some true else (if (decide (p2 < 0) || decide ((p1.length : Int) ≤ p2)) = true then some false else (ix p1 p2).bind fun x1 => (ix p3.2.2.2.2.1 0).bind fun x2 => (Dn p0 x1 x2 p3.2.2.1).bind fun x3 => (if (decide (x3.2 ≠ 0) || (decide ((x3.1.length : Int) < (p3.2.2.2.2.1.length : Int)) || (decide (p3.2.2.2.2.2.1 ≠ 0) && decide ((x3.1.length : Int) ≠ (p3.2.2.2.2.1.length : Int))))) = true then some false else D7 (AQ (Df p3 x3) 0) fun _ => some true)))
end Go.Proofs.Ytflaelbmglmmcaa
