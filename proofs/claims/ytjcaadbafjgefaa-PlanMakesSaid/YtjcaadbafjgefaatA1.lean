/- The functions of layer 24, Hp. Conditions: none. -/
import Derived.Test.YtjcaadbafjgefaatA0
namespace Go.Proofs.Ytjcaadbafjgefaa
open Go Go.RowKit
set_option linter.unusedVariables false
set_option linter.unusedSimpArgs false
set_option maxRecDepth 20000
theorem Ux : Has Try.prog 71 := ⟨fun args w => An Try.func71 rfl (by decide) args w⟩
noncomputable def DG (p0 : Int × (List (Int × Int × Int × Int × Int × Int)) × (List (Int × Int))) (p1 : List (List Int)) (p3 : Int) : (Int × List Int) → Option ((Int × List Int) ⊕ ((List Int) ⊕ (List Int × Int)))
  | (x2, x3) => (ix p1 x2).bind fun x4 => (ix x4 p3).bind fun x5 => (EQ p0 x2 x5).bind fun x6 => (if x6 ≠ p3 then (F7 p0 p1 x2 p3).bind fun x7 => (if (!x7.2) = true then some (.inr (.inr (([] : List Int), 13))) else (Db x3 x7.1).bind fun x8 => (if x8 = true then some (.inr (.inr (([] : List Int), 12))) else (JN x3 ([x7.1] : List Int)).bind fun x9 => some (.inl (x7.1, x9)))) else some (.inr (.inl x3)))
noncomputable def Fk (p0 : Int × (List (Int × Int × Int × Int × Int × Int)) × (List (Int × Int))) (p1 : List (List Int)) (p2 : Int) (p3 : Int) : Option (List Int × Int) := E6 (AE (DG p0 p1 p3) (p2, ([p2] : List Int))) fun x1 => some (x1, 0)
theorem Kx (Y : Nat → Prop) (w0 : World) (v1 : Value) (v2 : Value) (v3 : Value) (p0 : Int × (List (Int × Int × Int × Int × Int × Int)) × (List (Int × Int))) (p1 : List (List Int)) (p2 : Int) (p3 : Int) (r : List Int × Int) (H : Fk p0 p1 p2 p3 = some r) (h_v1 : Sl w0 (NX []) FM v1 p0.2.1) (h_v2 : Sl w0 (NX []) FD v2 p0.2.2) (h_v3 : Sl w0 (NX []) (Rp.slice (Rp.int .i64)) v3 p1) :
    Calls Try.prog 52 #[.agg #[.int .i64 p0.1, v1, v2], v3, .int .i64 p2, .int .i64 p3] w0 fun e w' => ∃ x : Value, e = .returned (.tuple #[x, .int .i64 r.2]) ∧ Stw ⟨Y, [], w0⟩ [] [row (x) 3 (Rp.int .i64) r.1] w' := by
 refine enter Try.func52 Aa Try.ntmps52 Aa fun a F => ?_
 have W := Stw.start Y w0
 obtain ⟨v4, h1, h_v3⟩ := h_v3.ex Dg
 unfold Fk at H
 refine Ah (Ac ?_)
 refine Dr (cs := [.int .i64 p0.1, v1, v2]) F W Aa Aa Aa fun b1 a w F W => ?_
 iterate 2 refine ls F W Aa (Af F Aa).q fun a w F W => ?_
 refine Ae (Ab (Ah (Ac ?_)))
 refine ls F W Aa (Ad F Aa).q fun a w F W => ?_
 refine EA (z := Value.int .i64 0) (cs := [.int .i64 p2]) (Rp.int .i64) ([p2] : List Int) F W Aa Eo Z3 Aa Aa Aa Aa Aa Aa (Fl.int.repL _ _ ([p2] : List Int)) fun v5 a w F W => ?_
 refine ls F W Aa (Af F Aa).q fun a w F W => ?_
 refine Ae (Ab ?_)
 obtain ⟨o1, G1, K1, L1⟩ := Jb H
 refine AC (fun a w => ∃ x1 : List Int, ∃ v6 : Value, some (Sum.inl x1) = some o1 ∧ Fr 46 [] [(8, .slice none 0 0), (9, .int .i64 0), (10, v6)] a ∧ Stw ⟨Y, [], w0⟩ [(b1, [.int .i64 p0.1, v1, v2])] [row v6 3 (Rp.int .i64) x1] w) ?_ ?_
 ·
  have H := G1
  clear G1 K1
  refine wp_block ?_
  refine A1 H (fun s a w => ∃ v7 : Value, Fr 46 [] [(1, v3), (2, .int .i64 s.1), (3, .int .i64 p3), (4, .pointer (some ⟨b1, 0, none⟩)), (8, .slice none 0 0), (9, .int .i64 0), (10, v7)] a ∧ Stw ⟨Y, [], w0⟩ [(b1, [.int .i64 p0.1, v1, v2])] [row v7 3 (Rp.int .i64) s.2] w) ⟨(v5), F.re ⟨rfl, Aa, Aa, Aa, Aa, Aa, Aa, trivial⟩, W⟩ fun s o a w H L2 hR => ?_
  obtain ⟨x2, x3⟩ := s
  obtain ⟨v7, F, W⟩ := hR
  have F : Fr 46 [] [(1, v3), (2, .int .i64 x2), (3, .int .i64 p3), (4, .pointer (some ⟨b1, 0, none⟩)), (8, .slice none 0 0), (9, .int .i64 0), (10, v7)] a := F
  have W : Stw ⟨Y, [], w0⟩ [(b1, [.int .i64 p0.1, v1, v2])] [row v7 3 (Rp.int .i64) x3] w := W
  rw [DG] at H
  iterate 2 refine Ah ?_
  refine BB W MO (by kernel_rfl) ?_
  refine qs F Aa (As (v := Value.agg #[.int .i64 p0.1, v1, v2]) 0 F Aa Aa Iv Aa).q fun a F => ?_
  iterate 3 refine qs F Aa (Ad F Aa).q fun a F => ?_
  obtain ⟨x4, h2, H⟩ := Al H
  obtain ⟨v8, h3, h4⟩ := EJ h1 h2
  have h5 : E5 v8 = [(v8.1)] := congrArg (fun q : List Int => ([(v8.1)] : List Value)) h4
  refine qs F Aa (Ay (r := (Rp.vsl (Rp.int .i64))) MU F Aa Aa (Am h_v3) h3).q fun a F => ?_
  refine qs F Aa (Ap (y := (v8.1)) (j := 0) (i := x2) (enc := E5) F Aa Aa (Am h_v3) h3 Ja JB (by rw [h5]; rfl)).q fun a F => ?_
  refine qs F Aa (Ad F Aa).q fun a F => ?_
  obtain ⟨x5, h6, H⟩ := Al H
  refine qs F Aa (Ay (r := (Rp.int .i64)) Eo F Aa Aa (CS (Am h_v3) h3 Dc.here (congrArg (fun q : List Int => q) h4)) h6).q fun a F => ?_
  refine qs F Aa (Ap (y := Value.int .i64 x5) (j := 0) (i := p3) F Aa Aa (CS (Am h_v3) h3 Dc.here (congrArg (fun q : List Int => q) h4)) h6 Fl.int.to T3 Aa).q fun a F => ?_
  obtain ⟨x6, h7, H⟩ := Al H
  refine qs F Aa (BH (v := Value.int .i64 x6) F Ud Aa (fun w W => MI any w (v1) (v2) p0 x2 x5 _ h7 (((Am h_v1) : DT _ _ _ _ _ _) w W).nx (((Am h_v2) : DT _ _ _ _ _ _) w W).nx)) fun a F => ?_
  refine qs F Aa (Ad F Aa).q fun a F => ?_
  refine qs F Aa (Fe F Aa Aa).q fun a F => ?_
  refine AR fun w W => ?_
  refine Ab ?_
  refine Aw F Aa (fun hb => ?_) fun hb => ?_
  ·
   have H := AL (A6 hb) H
   rw [hb] at F
   clear hb
   refine wp_skip (Ab (wp_block (Ah (Ac ?_))))
   refine ls F W Aa (As (v := Value.agg #[.int .i64 p0.1, v1, v2]) 0 F Aa Aa Iv Aa).q fun a w F W => ?_
   iterate 3 refine ls F W Aa (Ad F Aa).q fun a w F W => ?_
   obtain ⟨x7, h8, H⟩ := Al H
   refine ls F W Aa (BH (v := Value.tuple #[.int .i64 x7.1, .bool x7.2]) F UJ Aa (fun w W => Nk any w (v1) (v2) (v3) p0 p1 x2 p3 _ h8 (((Am h_v1) : DT _ _ _ _ _ _) w W).nx (((Am h_v2) : DT _ _ _ _ _ _) w W).nx (((BA Dg h1 (Am h_v3)) : DT _ _ _ _ _ _) w W).nx)) fun a w F W => ?_
   refine ls F W Aa (Ad F Aa).q fun a w F W => ?_
   refine ls F W Aa (A0 (v := Value.int .i64 x7.1) F Aa Aa).q fun a w F W => ?_
   refine ls F W Aa (A0 (v := Value.bool x7.2) F Aa Aa).q fun a w F W => ?_
   iterate 2 refine ls F W Aa (Af F Aa).q fun a w F W => ?_
   refine Ae (Ab (Ah (Ah (Ac ?_))))
   refine ls F W Aa (Ad F Aa).q fun a w F W => ?_
   refine ls F W Aa (Dt F Aa).q fun a w F W => ?_
   refine Ae (Ab ?_)
   refine Aw F Aa (fun hb => ?_) fun hb => ?_
   ·
    have H := AL hb H
    rw [hb] at F
    clear hb
    refine Ah (Ac ?_)
    iterate 2 refine ls F W Aa (Af F Aa).q fun a w F W => ?_
    refine Ae (Ab (wp_ret (AG (AO (AG (AO (AG ?_)))))))
    have H := L2 _ H
    have H := L1 _ H
    have H := AM H
    subst H
    refine CY (.inl Aa) F W Aa (Av F Aa) (Av F Aa) ?_
    have W := W.nilRow 3 (Rp.int .i64)
    have W := W.sub (M' := []) (Z' := [row (Value.slice none 0 0) 3 (Rp.int .i64) ([])]) (List.nil_sublist _) (List.Sublist.cons_cons _ (List.nil_sublist _))
    exact ⟨(Value.slice none 0 0), Aa, W⟩
   have H := AK (by rw [hb]; decide) H
   rw [hb] at F
   clear hb
   refine wp_skip (Ab (Ah (Ah (Ac ?_))))
   iterate 2 refine ls F W Aa (Ad F Aa).q fun a w F W => ?_
   obtain ⟨x8, h9, H⟩ := Al H
   refine ls F W Aa (BH (v := Value.bool x8) F Ux Aa (fun w W => Jx any w (v7) x3 x7.1 _ h9 (((Ao 0 Aa) : DT _ _ _ _ _ _) w W).nx)) fun a w F W => ?_
   refine Ae (Ab ?_)
   refine Aw F Aa (fun hb => ?_) fun hb => ?_
   ·
    have H := AL hb H
    rw [hb] at F
    clear hb
    refine Ah (Ac ?_)
    iterate 2 refine ls F W Aa (Af F Aa).q fun a w F W => ?_
    refine Ae (Ab (wp_ret (AG (AO (AG (AO (AG ?_)))))))
    have H := L2 _ H
    have H := L1 _ H
    have H := AM H
    subst H
    refine CY (.inl Aa) F W Aa (Av F Aa) (Av F Aa) ?_
    have W := W.nilRow 3 (Rp.int .i64)
    have W := W.sub (M' := []) (Z' := [row (Value.slice none 0 0) 3 (Rp.int .i64) ([])]) (List.nil_sublist _) (List.Sublist.cons_cons _ (List.nil_sublist _))
    exact ⟨(Value.slice none 0 0), Aa, W⟩
   have H := AK (by rw [hb]; decide) H
   rw [hb] at F
   clear hb
   refine wp_skip (Ab (Ah (Ac ?_)))
   iterate 2 refine ls F W Aa (Ad F Aa).q fun a w F W => ?_
   refine EA (z := Value.int .i64 0) (cs := [.int .i64 x7.1]) (Rp.int .i64) ([x7.1] : List Int) F W Aa Eo Z3 Aa Aa Aa Aa Aa Aa (Fl.int.repL _ _ ([x7.1] : List Int)) fun v9 a w F W => ?_
   obtain ⟨x9, h10, H⟩ := Al H
   refine DY (r := (Rp.int .i64)) (i := 1) F W Aa Eo Aa Aa Aa Aa (EI W 0 Aa) h10 Aa fun v10 a w F W => ?_
   have W : Stw ⟨Y, [], w0⟩ [(b1, [.int .i64 p0.1, v1, v2])] [row v10 3 (Rp.int .i64) x9, row v9 3 (Rp.int .i64) ([x7.1] : List Int)] w := W
   refine ls F W Aa (Af F Aa).q fun a w F W => ?_
   refine Ae (Ab (Ac ?_))
   refine ls F W Aa (Ad F Aa).q fun a w F W => ?_
   refine ls F W Aa (Af F Aa).q fun a w F W => ?_
   refine Ae (AH (Ab ?_))
   have W := W.sub (M' := [(b1, [.int .i64 p0.1, v1, v2])]) (Z' := [row v10 3 (Rp.int .i64) x9]) (List.Sublist.refl _) (List.Sublist.cons_cons _ (List.nil_sublist _))
   exact ⟨_, H, (v10), F.re ⟨rfl, Aa, Aa, Aa, Aa, Aa, Aa, trivial⟩, W⟩
  have H := AK (A7 hb) H
  rw [hb] at F
  clear hb
  refine wp_exit ?_
  iterate 2 refine A5 ?_
  refine AU (Ab ?_)
  have H := L2 _ H
  exact ⟨_, (v7), H, F.re ⟨rfl, Aa, Aa, trivial⟩, W⟩
 rintro a w ⟨x1, v6, hj, F, W⟩
 have H := K1 _ hj
 clear hj G1 K1 L1
 refine Ah (Ac ?_)
 refine ls F W Aa (Ad F Aa).q fun a w F W => ?_
 iterate 2 refine ls F W Aa (Af F Aa).q fun a w F W => ?_
 refine Ae (Ab (wp_ret ?_))
 have H := AM H
 subst H
 refine CY (.inl Aa) F W Aa (Av F Aa) (Av F Aa) ?_
 have W := W.sub (M' := []) (Z' := [row v6 3 (Rp.int .i64) x1]) (List.nil_sublist _) (List.Sublist.refl _)
 exact ⟨(v6), Aa, W⟩
theorem Tq : Has Try.prog 52 := ⟨fun args w => An Try.func52 rfl (by decide) args w⟩
noncomputable def D6 (p0 : Int × (List (Int × Int × Int × Int × Int × Int)) × (List (Int × Int))) (p1 : List (List Int)) (x2 : Int) (x3 : List Int) : Int → Option (Int ⊕ (Unit ⊕ (Int ⊕ (Unit ⊕ Bool))))
  | x4 => (if x4 < (x3.length : Int) then (Fk p0 p1 x2 x4).bind fun x5 => (if x5.2 ≠ 0 then some (.inr (.inr (.inr (.inr false)))) else some (.inl (AA (x4 + 1)))) else some (.inr (.inl ())))
noncomputable def EC (p0 : Int × (List (Int × Int × Int × Int × Int × Int)) × (List (Int × Int))) (p1 : List (List Int)) : Int → Option (Int ⊕ (Unit ⊕ Bool))
  | x2 => (if x2 < (p1.length : Int) then E6 ((ix p1 x2).bind fun x3 => AE (D6 p0 p1 x2 x3) 0) fun _ => some (.inl (AA (x2 + 1))) else some (.inr (.inl ())))
noncomputable def Fp (p0 : Int × (List (Int × Int × Int × Int × Int × Int)) × (List (Int × Int))) (p1 : List (List Int)) : Option Bool := (ER p0 p1).bind fun x1 => (if (!x1) = true then some false else E6 (AE (EC p0 p1) 0) fun _ => some true)
theorem J7 (Y : Nat → Prop) (w0 : World) (v1 : Value) (v2 : Value) (v3 : Value) (p0 : Int × (List (Int × Int × Int × Int × Int × Int)) × (List (Int × Int))) (p1 : List (List Int)) (r : Bool) (H : Fp p0 p1 = some r) (h_v1 : Sl w0 (NX []) FM v1 p0.2.1) (h_v2 : Sl w0 (NX []) FD v2 p0.2.2) (h_v3 : Sl w0 (NX []) (Rp.slice (Rp.int .i64)) v3 p1) :
    Calls Try.prog 34 #[.agg #[.int .i64 p0.1, v1, v2], v3] w0 fun e w' => e = .returned (.bool r) ∧ Below w0.heap.size w0 w' := by
 refine enter Try.func34 Aa Try.ntmps34 Aa fun a F => ?_
 have W := Stw.start Y w0
 obtain ⟨v4, h1, h_v3⟩ := h_v3.ex Dg
 unfold Fp at H
 refine Ah (Ac ?_)
 refine Dr (cs := [.int .i64 p0.1, v1, v2]) F W Aa Aa Aa fun b1 a w F W => ?_
 refine ls F W Aa (Af F Aa).q fun a w F W => ?_
 refine Ae (Ab (Ah (Ah (Ac ?_))))
 refine ls F W Aa (As (v := Value.agg #[.int .i64 p0.1, v1, v2]) 0 F Aa Aa Iv Aa).q fun a w F W => ?_
 refine ls F W Aa (Ad F Aa).q fun a w F W => ?_
 obtain ⟨x1, h2, H⟩ := Al H
 refine ls F W Aa (BH (v := Value.bool x1) F TF Aa (fun w W => JO any w (v1) (v2) (v3) p0 p1 _ h2 (((Am h_v1) : DT _ _ _ _ _ _) w W).nx (((Am h_v2) : DT _ _ _ _ _ _) w W).nx (((BA Dg h1 (Am h_v3)) : DT _ _ _ _ _ _) w W).nx)) fun a w F W => ?_
 refine ls F W Aa (Dt F Aa).q fun a w F W => ?_
 refine Ae (Ab ?_)
 refine Aw F Aa (fun hb => ?_) fun hb => ?_
 ·
  have H := AL hb H
  rw [hb] at F
  clear hb
  refine Ah (Ac ?_)
  refine ls F W Aa (Af F Aa).q fun a w F W => ?_
  refine Ae (Ab (wp_ret (AG ?_)))
  have H := AM H
  subst H
  refine Bl (.inl Aa) F W Aa (Av F Aa) ?_
  exact ⟨rfl, W.done⟩
 have H := AK (by rw [hb]; decide) H
 rw [hb] at F
 clear hb
 refine wp_skip (Ab ?_)
 obtain ⟨o1, G1, K1, L1⟩ := Jb H
 refine AC (fun a w => some (Sum.inl ()) = some o1 ∧ Fr 38 [] [(4, .bool false)] a ∧ Stw ⟨Y, [], w0⟩ [(b1, [.int .i64 p0.1, v1, v2])] [] w) ?_ ?_
 ·
  have H := G1
  clear G1 K1
  refine Ah (Ac ?_)
  refine ls F W Aa (Ad F Aa).q fun a w F W => ?_
  refine ls F W Aa (BP (r := (Rp.slice (Rp.int .i64))) (l := p1) KD Aa F Aa (BA Dg h1 (Am h_v3))).q fun a w F W => ?_
  refine ls F W Aa (Ad F Aa).q fun a w F W => ?_
  refine Ae (Ab (wp_block ?_))
  refine A1 H (fun s a w => Fr 38 [] [(1, v3), (2, .pointer (some ⟨b1, 0, none⟩)), (4, .bool false), (14, v3), (15, .int .i64 (p1.length : Int)), (16, .int .i64 s)] a ∧ Stw ⟨Y, [], w0⟩ [(b1, [.int .i64 p0.1, v1, v2])] [] w) ⟨F.re ⟨rfl, Aa, Aa, Aa, Aa, Aa, trivial⟩, W⟩ fun s o a w H L2 hR => ?_
  obtain ⟨x2, rfl⟩ : ∃ x, x = s := ⟨s, rfl⟩
  obtain ⟨F, W⟩ := hR
  have F : Fr 38 [] [(1, v3), (2, .pointer (some ⟨b1, 0, none⟩)), (4, .bool false), (14, v3), (15, .int .i64 (p1.length : Int)), (16, .int .i64 x2)] a := F
  have W : Stw ⟨Y, [], w0⟩ [(b1, [.int .i64 p0.1, v1, v2])] [] w := W
  rw [EC] at H
  refine Ah (Ac ?_)
  refine ls F W Aa (Bk F Aa Aa).q fun a w F W => ?_
  refine Ae (Ab (Ah ?_))
  refine Aw F Aa (fun hb => ?_) fun hb => ?_
  ·
   have H := AL (A6 hb) H
   rw [hb] at F
   clear hb
   refine wp_skip (Ab ?_)
   obtain ⟨o3, G3, K3, L3⟩ := Jb H
   refine AC (fun a w => some (Sum.inl ()) = some o3 ∧ Fr 38 [] [(1, v3), (2, .pointer (some ⟨b1, 0, none⟩)), (4, .bool false), (14, v3), (15, .int .i64 (p1.length : Int)), (16, .int .i64 x2)] a ∧ Stw ⟨Y, [], w0⟩ [(b1, [.int .i64 p0.1, v1, v2])] [] w) ?_ ?_
   ·
    have H := G3
    clear G3 K3
    refine wp_block (Ah (Ac ?_))
    refine ls F W Aa (Ad F Aa).q fun a w F W => ?_
    obtain ⟨x3, h3, H⟩ := Al H
    obtain ⟨v5, h4, h5⟩ := EJ h1 h3
    have h6 : E5 v5 = [(v5.1)] := congrArg (fun q : List Int => ([(v5.1)] : List Value)) h5
    refine ls F W Aa (Ay (r := (Rp.vsl (Rp.int .i64))) MU F Aa Aa (Am h_v3) h4).q fun a w F W => ?_
    refine ls F W Aa (Ap (y := (v5.1)) (j := 0) (i := x2) (enc := E5) F Aa Aa (Am h_v3) h4 Ja JB (by rw [h6]; rfl)).q fun a w F W => ?_
    iterate 2 refine ls F W Aa (Af F Aa).q fun a w F W => ?_
    refine Ae (Ab (Ah (Ac ?_)))
    refine ls F W Aa (Ad F Aa).q fun a w F W => ?_
    refine ls F W Aa (BP (r := (Rp.int .i64)) (l := x3) Hm Aa F Aa (CS (Am h_v3) h4 Dc.here (congrArg (fun q : List Int => q) h5))).q fun a w F W => ?_
    refine ls F W Aa (Ad F Aa).q fun a w F W => ?_
    refine Ae (Ab (wp_block ?_))
    refine A1 H (fun s a w => Fr 38 [] [(1, v3), (2, .pointer (some ⟨b1, 0, none⟩)), (4, .bool false), (5, .int .i64 x2), (14, v3), (15, .int .i64 (p1.length : Int)), (16, .int .i64 x2), (22, .int .i64 (x3.length : Int)), (23, .int .i64 s)] a ∧ Stw ⟨Y, [], w0⟩ [(b1, [.int .i64 p0.1, v1, v2])] [] w) ⟨F.re ⟨rfl, Aa, Aa, Aa, Aa, Aa, Aa, Aa, Aa, trivial⟩, W⟩ fun s o a w H L4 hR => ?_
    obtain ⟨x4, rfl⟩ : ∃ x, x = s := ⟨s, rfl⟩
    obtain ⟨F, W⟩ := hR
    have F : Fr 38 [] [(1, v3), (2, .pointer (some ⟨b1, 0, none⟩)), (4, .bool false), (5, .int .i64 x2), (14, v3), (15, .int .i64 (p1.length : Int)), (16, .int .i64 x2), (22, .int .i64 (x3.length : Int)), (23, .int .i64 x4)] a := F
    have W : Stw ⟨Y, [], w0⟩ [(b1, [.int .i64 p0.1, v1, v2])] [] w := W
    rw [D6] at H
    refine Ah (Ac ?_)
    refine ls F W Aa (Bk F Aa Aa).q fun a w F W => ?_
    refine Ae (Ab (Ah ?_))
    refine Aw F Aa (fun hb => ?_) fun hb => ?_
    ·
     have H := AL (A6 hb) H
     rw [hb] at F
     clear hb
     refine wp_skip (Ab (Ah (wp_block (Ah (Ac ?_)))))
     refine ls F W Aa (Ad F Aa).q fun a w F W => ?_
     refine ls F W Aa (Af F Aa).q fun a w F W => ?_
     refine Ae (Ab (Ah (Ac ?_)))
     refine ls F W Aa (As (v := Value.agg #[.int .i64 p0.1, v1, v2]) 0 F Aa Aa Iv Aa).q fun a w F W => ?_
     iterate 3 refine ls F W Aa (Ad F Aa).q fun a w F W => ?_
     obtain ⟨x5, h7, H⟩ := Al H
     refine Bp (Ml := []) (Zl := []) (M := [(b1, [.int .i64 p0.1, v1, v2])]) (Z := []) (β := Value) (rv := fun x => .tuple #[x, .int .i64 x5.2]) (MM := fun x => []) (ZZ := fun x => [row x 3 (Rp.int .i64) x5.1]) F W Tq Aa Aa (fun hL => Kx _ w (v1) (v2) (v3) p0 p1 x2 x4 _ h7 ((Am h_v1) w W).nx ((Am h_v2) w W).nx ((BA Dg h1 (Am h_v3)) w W).nx) fun x a w F W => ?_
     obtain ⟨v6, rfl⟩ : ∃ y, y = x := ⟨x, rfl⟩
     have W : Stw ⟨Y, [], w0⟩ [(b1, [.int .i64 p0.1, v1, v2])] [row v6 3 (Rp.int .i64) x5.1] w := W
     refine ls F W Aa (Ad F Aa).q fun a w F W => ?_
     refine ls F W Aa (A0 (v := v6) F Aa Aa).q fun a w F W => ?_
     refine ls F W Aa (A0 (v := Value.int .i64 x5.2) F Aa Aa).q fun a w F W => ?_
     iterate 2 refine ls F W Aa (Af F Aa).q fun a w F W => ?_
     refine Ae (Ab (Ah (Ac ?_)))
     refine ls F W Aa (Ad F Aa).q fun a w F W => ?_
     refine ls F W Aa (Fe F Aa Aa).q fun a w F W => ?_
     refine Ae (Ab ?_)
     refine Aw F Aa (fun hb => ?_) fun hb => ?_
     ·
      have H := AL (A6 hb) H
      rw [hb] at F
      clear hb
      refine Ah (Ac ?_)
      refine ls F W Aa (Af F Aa).q fun a w F W => ?_
      refine Ae (Ab (wp_ret (AO ?_)))
      iterate 2 refine AG ?_
      iterate 2 refine AO ?_
      iterate 2 refine AG ?_
      refine AO (AG ?_)
      have H := L4 _ H
      have H := L3 _ H
      have H := L2 _ H
      have H := L1 _ H
      have H := AM H
      subst H
      refine Bl (.inl Aa) F W Aa (Av F Aa) ?_
      exact ⟨rfl, W.done⟩
     have H := AK (A7 hb) H
     rw [hb] at F
     clear hb
     refine wp_skip (AH (Ab (Ac ?_)))
     refine ls F W Aa (A3 F Aa Aa Aa).q fun a w F W => ?_
     refine ls F W Aa (Ad F Aa).q fun a w F W => ?_
     refine Ae (Ab ?_)
     have W := W.sub (M' := [(b1, [.int .i64 p0.1, v1, v2])]) (Z' := []) (List.Sublist.refl _) (List.nil_sublist _)
     exact ⟨_, H, F.re ⟨rfl, Aa, Aa, Aa, Aa, Aa, Aa, Aa, Aa, trivial⟩, W⟩
    have H := AK (A7 hb) H
    rw [hb] at F
    clear hb
    refine wp_exit ?_
    iterate 2 refine A5 ?_
    refine AU (AH (Ab ?_))
    have H := L4 _ H
    exact ⟨H, F.re ⟨rfl, Aa, Aa, Aa, Aa, Aa, trivial⟩, W⟩
   rintro a w ⟨hj, F, W⟩
   have H := K3 _ hj
   clear hj G3 K3 L3
   refine Ac ?_
   refine ls F W Aa (A3 F Aa Aa Aa).q fun a w F W => ?_
   refine ls F W Aa (Ad F Aa).q fun a w F W => ?_
   refine Ae (Ab ?_)
   exact ⟨_, H, F.re ⟨rfl, Aa, Aa, Aa, Aa, Aa, trivial⟩, W⟩
  have H := AK (A7 hb) H
  rw [hb] at F
  clear hb
  refine wp_exit ?_
  iterate 2 refine A5 ?_
  refine AU (Ab ?_)
  have H := L2 _ H
  exact ⟨H, F.re ⟨rfl, trivial⟩, W⟩
 rintro a w ⟨hj, F, W⟩
 have H := K1 _ hj
 clear hj G1 K1 L1
 refine Ah (Ac ?_)
 refine ls F W Aa (Af F Aa).q fun a w F W => ?_
 refine Ae (Ab (wp_ret ?_))
 have H := AM H
 subst H
 refine Bl (.inl Aa) F W Aa (Av F Aa) ?_
 exact ⟨rfl, W.done⟩
theorem Tx : Has Try.prog 34 := ⟨fun args w => An Try.func34 rfl (by decide) args w⟩
noncomputable def Eu (p0 : Int × (List (Int × Int × Int × Int × Int × Int)) × (List (Int × Int))) (p1 : List (List Int)) (p2 : Int) : (List Int × Int) → Option ((List Int × Int) ⊕ (List Int))
  | (x4, x5) => (if x5 < (p1.length : Int) then (Fk p0 p1 x5 p2).bind fun x6 => (JN x4 ([AA ((x6.1.length : Int) - 1)] : List Int)).bind fun x7 => some (.inl (x7, AA (x5 + 1))) else some (.inr x4))
noncomputable def GT (p0 : Int × (List (Int × Int × Int × Int × Int × Int)) × (List (Int × Int))) (p1 : List (List Int)) (p2 : Int) : Option (List Int) := ((ER p0 p1).bind fun x2 => (if (!x2) = true then some true else (if p2 < 0 then some true else some (decide ((p0.2.2.length : Int) ≤ p2))))).bind fun x1 => (if x1 = true then some ([] : List Int) else (AE (Eu p0 p1 p2) ([], 0)).bind fun x3 => some x3)
theorem N4 (Y : Nat → Prop) (w0 : World) (v1 : Value) (v2 : Value) (v3 : Value) (p0 : Int × (List (Int × Int × Int × Int × Int × Int)) × (List (Int × Int))) (p1 : List (List Int)) (p2 : Int) (r : List Int) (H : GT p0 p1 p2 = some r) (h_v1 : Sl w0 (NX []) FM v1 p0.2.1) (h_v2 : Sl w0 (NX []) FD v2 p0.2.2) (h_v3 : Sl w0 (NX []) (Rp.slice (Rp.int .i64)) v3 p1) :
    Calls Try.prog 35 #[.agg #[.int .i64 p0.1, v1, v2], v3, .int .i64 p2] w0 fun e w' => ∃ x : Value, e = .returned (x) ∧ Stw ⟨Y, [], w0⟩ [] [row (x) 3 (Rp.int .i64) r] w' := by
 refine enter Try.func35 Aa Try.ntmps35 Aa fun a F => ?_
 have W := Stw.start Y w0
 obtain ⟨v4, h1, h_v3⟩ := h_v3.ex Dg
 unfold GT at H
 refine Ah (Ac ?_)
 refine Dr (cs := [.int .i64 p0.1, v1, v2]) F W Aa Aa Aa fun b1 a w F W => ?_
 refine ls F W Aa (Af F Aa).q fun a w F W => ?_
 refine Ae (Ab (Ah ?_))
 obtain ⟨o1, G1, K1⟩ := Al H
 refine AC (fun a w => ∃ x1 : Bool, some (x1) = some o1 ∧ Fr 47 [] [(1, v3), (2, .int .i64 p2), (3, .pointer (some ⟨b1, 0, none⟩)), (6, .slice none 0 0), (25, .bool x1)] a ∧ Stw ⟨Y, [], w0⟩ [(b1, [.int .i64 p0.1, v1, v2])] [] w) ?_ ?_
 ·
  have H := G1
  clear G1 K1
  refine Ac ?_
  refine ls F W Aa (As (v := Value.agg #[.int .i64 p0.1, v1, v2]) 0 F Aa Aa Iv Aa).q fun a w F W => ?_
  refine ls F W Aa (Ad F Aa).q fun a w F W => ?_
  obtain ⟨x2, h2, H⟩ := Al H
  refine ls F W Aa (BH (v := Value.bool x2) F TF Aa (fun w W => JO any w (v1) (v2) (v3) p0 p1 _ h2 (((Am h_v1) : DT _ _ _ _ _ _) w W).nx (((Am h_v2) : DT _ _ _ _ _ _) w W).nx (((BA Dg h1 (Am h_v3)) : DT _ _ _ _ _ _) w W).nx)) fun a w F W => ?_
  refine ls F W Aa (Dt F Aa).q fun a w F W => ?_
  refine ls F W Aa (Ad F Aa).q fun a w F W => ?_
  rcases Bool.eq_false_or_eq_true (!x2) with hb | hb
  ·
   have H := AL hb H
   rw [hb] at F
   clear hb
   iterate 2 refine Cj F Aa Aa Aa Aa Aa Aa Aa fun a F => ?_
   refine ls F W Aa (Aq F Aa Aa Aa).q fun a w F W => ?_
   refine ls F W Aa (Ad F Aa).q fun a w F W => ?_
   iterate 5 refine Cj F Aa Aa Aa Aa Aa Aa Aa fun a F => ?_
   refine ls F W Aa (Aq F Aa Aa Aa).q fun a w F W => ?_
   refine Ae (Ab ?_)
   exact ⟨_, H, F.re ⟨rfl, Aa, Aa, Aa, Aa, trivial⟩, W⟩
  have H := AK (by rw [hb]; decide) H
  rw [hb] at F
  clear hb
  refine AD F W (Ag F Aa Aa Aa Aa) Aa (Ak Aa) (Ad F Aa).q fun a w F W => ?_
  refine AD F W (Ag F Aa Aa Aa Aa) Aa (Ak Aa) (Bk F Aa Aa).q fun a w F W => ?_
  refine ls F W Aa (Au F Aa Aa Aa).q fun a w F W => ?_
  refine ls F W Aa (Ad F Aa).q fun a w F W => ?_
  rcases Bool.eq_false_or_eq_true (decide (p2 < 0)) with hb | hb
  ·
   have H := AL (A6 hb) H
   rw [hb] at F
   clear hb
   iterate 5 refine Cj F Aa Aa Aa Aa Aa Aa Aa fun a F => ?_
   refine ls F W Aa (Aq F Aa Aa Aa).q fun a w F W => ?_
   refine Ae (Ab ?_)
   exact ⟨_, H, F.re ⟨rfl, Aa, Aa, Aa, Aa, trivial⟩, W⟩
  have H := AK (A7 hb) H
  rw [hb] at F
  clear hb
  refine AD F W (Ag F Aa Aa Aa Aa) Aa (Ak Aa) (Ad F Aa).q fun a w F W => ?_
  refine AD F W (Ag F Aa Aa Aa Aa) Aa (Ak Aa) (Ai DM Aa Aa Aa IH F Aa 2 Aa).q fun a w F W => ?_
  refine AD F W (Ag F Aa Aa Aa Aa) Aa (Ak Aa) (As (v := v2) 0 F Aa Aa IH Aa).q fun a w F W => ?_
  refine AD F W (Ag F Aa Aa Aa Aa) Aa (Ak Aa) (BP (r := FD) (l := p0.2.2) J1 Aa F Aa (Am h_v2)).q fun a w F W => ?_
  refine AD F W (Ag F Aa Aa Aa Aa) Aa (Ak Aa) (Dj F Aa Aa).q fun a w F W => ?_
  refine ls F W Aa (Au F Aa Aa Aa).q fun a w F W => ?_
  refine Ae (Ab ?_)
  exact ⟨_, H, F.re ⟨rfl, Aa, Aa, Aa, Aa, trivial⟩, W⟩
 rintro a w ⟨x1, hj, F, W⟩
 have hj := AM hj
 subst hj
 have H := K1
 clear G1 K1
 refine Aw F Aa (fun hb => ?_) fun hb => ?_
 ·
  have H := AL hb H
  rw [hb] at F
  clear hb
  refine Ah (Ac ?_)
  refine ls F W Aa (Af F Aa).q fun a w F W => ?_
  refine Ae (Ab (wp_ret (AG ?_)))
  have H := AM H
  subst H
  refine Bl (.inl Aa) F W Aa (Av F Aa) ?_
  have W := W.nilRow 3 (Rp.int .i64)
  have W := W.sub (M' := []) (Z' := [row (Value.slice none 0 0) 3 (Rp.int .i64) ([])]) (List.nil_sublist _) (List.Sublist.refl _)
  exact ⟨(Value.slice none 0 0), Aa, W⟩
 have H := AK (by rw [hb]; decide) H
 rw [hb] at F
 clear hb
 refine wp_skip (Ab (Ah (Ac ?_)))
 refine ls F W Aa (Af F Aa).q fun a w F W => ?_
 refine Ae (Ab ?_)
 obtain ⟨o2, G2, K2⟩ := Al H
 refine AC (fun a w => ∃ x3 : List Int, ∃ v5 : Value, some (x3) = some o2 ∧ Fr 47 [] [(6, .slice none 0 0), (7, v5)] a ∧ Stw ⟨Y, [], w0⟩ [(b1, [.int .i64 p0.1, v1, v2])] [row v5 3 (Rp.int .i64) x3] w) ?_ ?_
 ·
  have H := G2
  clear G2 K2
  refine Ah (Ac ?_)
  refine ls F W Aa (Ad F Aa).q fun a w F W => ?_
  refine ls F W Aa (BP (r := (Rp.slice (Rp.int .i64))) (l := p1) KD Aa F Aa (BA Dg h1 (Am h_v3))).q fun a w F W => ?_
  refine ls F W Aa (Ad F Aa).q fun a w F W => ?_
  refine Ae (Ab (wp_block ?_))
  have W := W.nilRow 3 (Rp.int .i64)
  refine A1 H (fun s a w => ∃ v6 : Value, Fr 47 [] [(1, v3), (2, .int .i64 p2), (3, .pointer (some ⟨b1, 0, none⟩)), (6, .slice none 0 0), (7, v6), (27, .int .i64 (p1.length : Int)), (28, .int .i64 s.2)] a ∧ Stw ⟨Y, [], w0⟩ [(b1, [.int .i64 p0.1, v1, v2])] [row v6 3 (Rp.int .i64) s.1] w) ⟨(Value.slice none 0 0), F.re ⟨rfl, Aa, Aa, Aa, Aa, Aa, Aa, trivial⟩, W⟩ fun s o a w H L3 hR => ?_
  obtain ⟨x4, x5⟩ := s
  obtain ⟨v6, F, W⟩ := hR
  have F : Fr 47 [] [(1, v3), (2, .int .i64 p2), (3, .pointer (some ⟨b1, 0, none⟩)), (6, .slice none 0 0), (7, v6), (27, .int .i64 (p1.length : Int)), (28, .int .i64 x5)] a := F
  have W : Stw ⟨Y, [], w0⟩ [(b1, [.int .i64 p0.1, v1, v2])] [row v6 3 (Rp.int .i64) x4] w := W
  rw [Eu] at H
  refine Ah (Ac ?_)
  refine ls F W Aa (Bk F Aa Aa).q fun a w F W => ?_
  refine Ae (Ab (Ah ?_))
  refine Aw F Aa (fun hb => ?_) fun hb => ?_
  ·
   have H := AL (A6 hb) H
   rw [hb] at F
   clear hb
   refine wp_skip (Ab (Ah (wp_block (Ah (Ac ?_)))))
   refine ls F W Aa (Ad F Aa).q fun a w F W => ?_
   refine ls F W Aa (Af F Aa).q fun a w F W => ?_
   refine Ae (Ab (Ah (Ac ?_)))
   refine ls F W Aa (As (v := Value.agg #[.int .i64 p0.1, v1, v2]) 0 F Aa Aa Iv Aa).q fun a w F W => ?_
   iterate 3 refine ls F W Aa (Ad F Aa).q fun a w F W => ?_
   obtain ⟨x6, h3, H⟩ := Al H
   refine Bp (Ml := []) (Zl := []) (M := [(b1, [.int .i64 p0.1, v1, v2])]) (Z := [row v6 3 (Rp.int .i64) x4]) (β := Value) (rv := fun x => .tuple #[x, .int .i64 x6.2]) (MM := fun x => []) (ZZ := fun x => [row x 3 (Rp.int .i64) x6.1]) F W Tq Aa Aa (fun hL => Kx _ w (v1) (v2) (v3) p0 p1 x5 p2 _ h3 ((Am h_v1) w W).nx ((Am h_v2) w W).nx ((BA Dg h1 (Am h_v3)) w W).nx) fun x a w F W => ?_
   obtain ⟨v7, rfl⟩ : ∃ y, y = x := ⟨x, rfl⟩
   have W : Stw ⟨Y, [], w0⟩ [(b1, [.int .i64 p0.1, v1, v2])] [row v7 3 (Rp.int .i64) x6.1, row v6 3 (Rp.int .i64) x4] w := W
   refine ls F W Aa (Ad F Aa).q fun a w F W => ?_
   refine ls F W Aa (A0 (v := v7) F Aa Aa).q fun a w F W => ?_
   refine ls F W Aa (A0 (v := Value.int .i64 x6.2) F Aa Aa).q fun a w F W => ?_
   iterate 2 refine ls F W Aa (Af F Aa).q fun a w F W => ?_
   refine Ae (Ab (Ac ?_))
   iterate 2 refine ls F W Aa (Ad F Aa).q fun a w F W => ?_
   refine ls F W Aa (BP (r := (Rp.int .i64)) (l := x6.1) Hm Aa F Aa (Ao 0 Aa)).q fun a w F W => ?_
   refine ls F W Aa (B5 F Aa Aa Aa).q fun a w F W => ?_
   refine EA (z := Value.int .i64 0) (cs := [.int .i64 (AA ((x6.1.length : Int) - 1))]) (Rp.int .i64) ([AA ((x6.1.length : Int) - 1)] : List Int) F W Aa Eo Z3 Aa Aa Aa Aa Aa Aa (Fl.int.repL _ _ ([AA ((x6.1.length : Int) - 1)] : List Int)) fun v8 a w F W => ?_
   obtain ⟨x7, h4, H⟩ := Al H
   refine DY (r := (Rp.int .i64)) (i := 2) F W Aa Eo Aa Aa Aa Aa (EI W 0 Aa) h4 Aa fun v9 a w F W => ?_
   have W : Stw ⟨Y, [], w0⟩ [(b1, [.int .i64 p0.1, v1, v2])] [row v9 3 (Rp.int .i64) x7, row v8 3 (Rp.int .i64) ([AA ((x6.1.length : Int) - 1)] : List Int), row v7 3 (Rp.int .i64) x6.1] w := W
   refine ls F W Aa (Af F Aa).q fun a w F W => ?_
   refine Ae (AH (Ab (Ac ?_)))
   refine ls F W Aa (A3 F Aa Aa Aa).q fun a w F W => ?_
   refine ls F W Aa (Ad F Aa).q fun a w F W => ?_
   refine Ae (Ab ?_)
   have W := W.sub (M' := [(b1, [.int .i64 p0.1, v1, v2])]) (Z' := [row v9 3 (Rp.int .i64) x7]) (List.Sublist.refl _) (List.Sublist.cons_cons _ (List.nil_sublist _))
   exact ⟨_, H, (v9), F.re ⟨rfl, Aa, Aa, Aa, Aa, Aa, Aa, trivial⟩, W⟩
  have H := AK (A7 hb) H
  rw [hb] at F
  clear hb
  refine wp_exit ?_
  iterate 2 refine A5 ?_
  refine AU (Ab ?_)
  have H := L3 _ H
  exact ⟨_, (v6), H, F.re ⟨rfl, Aa, trivial⟩, W⟩
 rintro a w ⟨x3, v5, hj, F, W⟩
 have hj := AM hj
 subst hj
 have H := K2
 clear G2 K2
 refine Ah (Ac ?_)
 refine ls F W Aa (Ad F Aa).q fun a w F W => ?_
 refine ls F W Aa (Af F Aa).q fun a w F W => ?_
 refine Ae (Ab (wp_ret ?_))
 have H := AM H
 subst H
 refine Bl (.inl Aa) F W Aa (Av F Aa) ?_
 have W := W.sub (M' := []) (Z' := [row v5 3 (Rp.int .i64) x3]) (List.nil_sublist _) (List.Sublist.refl _)
 exact ⟨(v5), Aa, W⟩
theorem TP : type_of% Try.underlying5 := Try.underlying5
theorem U4 : type_of% Try.underlying9 := Try.underlying9
theorem Nc : type_of% Try.underlying30 := Try.underlying30
theorem JS : type_of% Try.underlying85 := Try.underlying85
theorem Sh : type_of% Try.underlying142 := Try.underlying142
theorem Vh : Has Try.prog 35 := ⟨fun args w => An Try.func35 rfl (by decide) args w⟩
theorem Tt : Bt Try.prog 85 [.int .i64 0, .int .i64 0, .int .i64 0, .int .i64 0] [(0, 1), (1, 1), (2, 1), (3, 1)] := ⟨⟨.agg #[.int .i64 0, .int .i64 0, .int .i64 0, .int .i64 0], by kernel_rfl, rfl⟩, ⟨_, JS, fun w => by kernel_rfl⟩⟩
theorem R1 : (Try.prog.info? 85).bind (·.zero) = some (.agg #[.int .i64 0, .int .i64 0, .int .i64 0, .int .i64 0]) := by kernel_rfl
abbrev A8 : Rp (Int × Int × Int × Int) := (Rp.pair (Rp.int .i64) (Rp.pair (Rp.int .i64) (Rp.pair (Rp.int .i64) (Rp.int .i64))))
def TX (a : Int × Int × Int × Int) : List Value := [.int .i64 a.1, .int .i64 a.2.1, .int .i64 a.2.2.1, .int .i64 a.2.2.2]
theorem Ek : Fl A8 TX := (Fl.pair Fl.int (Fl.pair Fl.int (Fl.pair Fl.int Fl.int)))
theorem Eb : Et Try.prog 30 85 4 32 := Et.of Nc (by kernel_rfl) (by kernel_rfl) (by kernel_rfl) (by decide)
noncomputable def Es (p0 : Int) : Option Int := (if 4294967296 ≤ p0 then some (Gz .u64 p0 32, 32) else some (p0, 0)).bind fun (x1, x2) => (if 65536 ≤ x1 then some (Gz .u64 x1 16, AA (x2 + 16)) else some (x1, x2)).bind fun (x3, x4) => (if 256 ≤ x3 then some (Gz .u64 x3 8, AA (x4 + 8)) else some (x3, x4)).bind fun (x5, x6) => (ix ([0, 1, 2, 2, 3, 3, 3, 3, 4, 4, 4, 4, 4, 4, 4, 4, 5, 5, 5, 5, 5, 5, 5, 5, 5, 5, 5, 5, 5, 5, 5, 5, 6, 6, 6, 6, 6, 6, 6, 6, 6, 6, 6, 6, 6, 6, 6, 6, 6, 6, 6, 6, 6, 6, 6, 6, 6, 6, 6, 6, 6, 6, 6, 6, 7, 7, 7, 7, 7, 7, 7, 7, 7, 7, 7, 7, 7, 7, 7, 7, 7, 7, 7, 7, 7, 7, 7, 7, 7, 7, 7, 7, 7, 7, 7, 7, 7, 7, 7, 7, 7, 7, 7, 7, 7, 7, 7, 7, 7, 7, 7, 7, 7, 7, 7, 7, 7, 7, 7, 7, 7, 7, 7, 7, 7, 7, 7, 7, 8, 8, 8, 8, 8, 8, 8, 8, 8, 8, 8, 8, 8, 8, 8, 8, 8, 8, 8, 8, 8, 8, 8, 8, 8, 8, 8, 8, 8, 8, 8, 8, 8, 8, 8, 8, 8, 8, 8, 8, 8, 8, 8, 8, 8, 8, 8, 8, 8, 8, 8, 8, 8, 8, 8, 8, 8, 8, 8, 8, 8, 8, 8, 8, 8, 8, 8, 8, 8, 8, 8, 8, 8, 8, 8, 8, 8, 8, 8, 8, 8, 8, 8, 8, 8, 8, 8, 8, 8, 8, 8, 8, 8, 8, 8, 8, 8, 8, 8, 8, 8, 8, 8, 8, 8, 8, 8, 8, 8, 8, 8, 8, 8, 8, 8, 8, 8, 8, 8, 8, 8, 8, 8, 8, 8, 8, 8, 8] : List UInt8) (IntKind.u8.wrap x5)).bind fun x7 => some (AA (x6 + (AA (x7.toNat : Int))))
theorem Kw (Y : Nat → Prop) (w0 : World)  (p0 : Int) (r : Int) (H : Es p0 = some r)  :
    Calls Try.prog 81 #[.int .u64 p0] w0 fun e w' => e = .returned (.int .i64 r) ∧ Below w0.heap.size w0 w' := by
 refine enter Try.func81 Aa Try.ntmps81 Aa fun a F => ?_
 have W := Stw.start Y w0
 unfold Es at H
 refine Ah (Ac ?_)
 refine ls F W Aa (Af F Aa).q fun a w F W => ?_
 refine Ae (Ab ?_)
 obtain ⟨o1, G1, K1⟩ := Al H
 refine AC (fun a w => ∃ x1 : Int, ∃ x2 : Int, some ((x1, x2)) = some o1 ∧ Fr 25 [] [(0, .int .u64 x1), (2, .int .i64 x2)] a ∧ Stw ⟨Y, [], w0⟩ [] [] w) ?_ ?_
 ·
  have H := G1
  clear G1 K1
  refine Ah (Ac ?_)
  refine ls F W Aa (Ad F Aa).q fun a w F W => ?_
  refine ls F W Aa (Dj F Aa Aa).q fun a w F W => ?_
  refine Ae (Ab ?_)
  refine Aw F Aa (fun hb => ?_) fun hb => ?_
  ·
   have H := AL (A6 hb) H
   rw [hb] at F
   clear hb
   refine Ah (Ac ?_)
   refine ls F W Aa (Ad F Aa).q fun a w F W => ?_
   refine ls F W Aa (Pa F Aa Aa (by decide)).q fun a w F W => ?_
   refine ls F W Aa (Af F Aa).q fun a w F W => ?_
   refine Ae (Ab (Ac ?_))
   refine ls F W Aa (Af F Aa).q fun a w F W => ?_
   refine Ae (Ab ?_)
   exact ⟨_, _, H, F.re ⟨rfl, Aa, trivial⟩, W⟩
  have H := AK (A7 hb) H
  rw [hb] at F
  clear hb
  refine wp_skip (Ab ?_)
  exact ⟨_, _, H, F.re ⟨rfl, Aa, trivial⟩, W⟩
 rintro a w ⟨x1, x2, hj, F, W⟩
 have hj := AM hj
 subst hj
 have H := K1
 clear G1 K1
 obtain ⟨o2, G2, K2⟩ := Al H
 refine AC (fun a w => ∃ x3 : Int, ∃ x4 : Int, some ((x3, x4)) = some o2 ∧ Fr 25 [] [(0, .int .u64 x3), (2, .int .i64 x4)] a ∧ Stw ⟨Y, [], w0⟩ [] [] w) ?_ ?_
 ·
  have H := G2
  clear G2 K2
  refine Ah (Ac ?_)
  refine ls F W Aa (Ad F Aa).q fun a w F W => ?_
  refine ls F W Aa (Dj F Aa Aa).q fun a w F W => ?_
  refine Ae (Ab ?_)
  refine Aw F Aa (fun hb => ?_) fun hb => ?_
  ·
   have H := AL (A6 hb) H
   rw [hb] at F
   clear hb
   refine Ah (Ac ?_)
   refine ls F W Aa (Ad F Aa).q fun a w F W => ?_
   refine ls F W Aa (Pa F Aa Aa (by decide)).q fun a w F W => ?_
   refine ls F W Aa (Af F Aa).q fun a w F W => ?_
   refine Ae (Ab (Ac ?_))
   refine ls F W Aa (Ad F Aa).q fun a w F W => ?_
   refine ls F W Aa (A3 F Aa Aa Aa).q fun a w F W => ?_
   refine ls F W Aa (Af F Aa).q fun a w F W => ?_
   refine Ae (Ab ?_)
   exact ⟨_, _, H, F.re ⟨rfl, Aa, trivial⟩, W⟩
  have H := AK (A7 hb) H
  rw [hb] at F
  clear hb
  refine wp_skip (Ab ?_)
  exact ⟨_, _, H, F.re ⟨rfl, Aa, trivial⟩, W⟩
 rintro a w ⟨x3, x4, hj, F, W⟩
 have hj := AM hj
 subst hj
 have H := K2
 clear G2 K2
 obtain ⟨o3, G3, K3⟩ := Al H
 refine AC (fun a w => ∃ x5 : Int, ∃ x6 : Int, some ((x5, x6)) = some o3 ∧ Fr 25 [] [(0, .int .u64 x5), (2, .int .i64 x6)] a ∧ Stw ⟨Y, [], w0⟩ [] [] w) ?_ ?_
 ·
  have H := G3
  clear G3 K3
  refine Ah (Ac ?_)
  refine ls F W Aa (Ad F Aa).q fun a w F W => ?_
  refine ls F W Aa (Dj F Aa Aa).q fun a w F W => ?_
  refine Ae (Ab ?_)
  refine Aw F Aa (fun hb => ?_) fun hb => ?_
  ·
   have H := AL (A6 hb) H
   rw [hb] at F
   clear hb
   refine Ah (Ac ?_)
   refine ls F W Aa (Ad F Aa).q fun a w F W => ?_
   refine ls F W Aa (Pa F Aa Aa (by decide)).q fun a w F W => ?_
   refine ls F W Aa (Af F Aa).q fun a w F W => ?_
   refine Ae (Ab (Ac ?_))
   refine ls F W Aa (Ad F Aa).q fun a w F W => ?_
   refine ls F W Aa (A3 F Aa Aa Aa).q fun a w F W => ?_
   refine ls F W Aa (Af F Aa).q fun a w F W => ?_
   refine Ae (Ab ?_)
   exact ⟨_, _, H, F.re ⟨rfl, Aa, trivial⟩, W⟩
  have H := AK (A7 hb) H
  rw [hb] at F
  clear hb
  refine wp_skip (Ab ?_)
  exact ⟨_, _, H, F.re ⟨rfl, Aa, trivial⟩, W⟩
 rintro a w ⟨x5, x6, hj, F, W⟩
 have hj := AM hj
 subst hj
 have H := K3
 clear G3 K3
 refine Ah (Ac ?_)
 iterate 2 refine ls F W Aa (Ad F Aa).q fun a w F W => ?_
 refine ls F W Aa (IV Sh TP F Aa).q fun a w F W => ?_
 obtain ⟨x7, h1, H⟩ := Al H
 refine ls F W Aa (Qg (l := ([0, 1, 2, 2, 3, 3, 3, 3, 4, 4, 4, 4, 4, 4, 4, 4, 5, 5, 5, 5, 5, 5, 5, 5, 5, 5, 5, 5, 5, 5, 5, 5, 6, 6, 6, 6, 6, 6, 6, 6, 6, 6, 6, 6, 6, 6, 6, 6, 6, 6, 6, 6, 6, 6, 6, 6, 6, 6, 6, 6, 6, 6, 6, 6, 7, 7, 7, 7, 7, 7, 7, 7, 7, 7, 7, 7, 7, 7, 7, 7, 7, 7, 7, 7, 7, 7, 7, 7, 7, 7, 7, 7, 7, 7, 7, 7, 7, 7, 7, 7, 7, 7, 7, 7, 7, 7, 7, 7, 7, 7, 7, 7, 7, 7, 7, 7, 7, 7, 7, 7, 7, 7, 7, 7, 7, 7, 7, 7, 8, 8, 8, 8, 8, 8, 8, 8, 8, 8, 8, 8, 8, 8, 8, 8, 8, 8, 8, 8, 8, 8, 8, 8, 8, 8, 8, 8, 8, 8, 8, 8, 8, 8, 8, 8, 8, 8, 8, 8, 8, 8, 8, 8, 8, 8, 8, 8, 8, 8, 8, 8, 8, 8, 8, 8, 8, 8, 8, 8, 8, 8, 8, 8, 8, 8, 8, 8, 8, 8, 8, 8, 8, 8, 8, 8, 8, 8, 8, 8, 8, 8, 8, 8, 8, 8, 8, 8, 8, 8, 8, 8, 8, 8, 8, 8, 8, 8, 8, 8, 8, 8, 8, 8, 8, 8, 8, 8, 8, 8, 8, 8, 8, 8, 8, 8, 8, 8, 8, 8, 8, 8, 8, 8, 8, 8, 8, 8] : List UInt8)) U4 F Aa Aa h1).q fun a w F W => ?_
 refine ls F W Aa (IV TP Oj F Aa).q fun a w F W => ?_
 refine ls F W Aa (A3 F Aa Aa Aa).q fun a w F W => ?_
 refine ls F W Aa (Af F Aa).q fun a w F W => ?_
 refine Ae (Ab (wp_ret ?_))
 have H := AM H
 subst H
 refine Bl (.inl Aa) F W Aa (Av F Aa) ?_
 exact ⟨rfl, W.done⟩
theorem Ug : Has Try.prog 81 := ⟨fun args w => An Try.func81 rfl (by decide) args w⟩
noncomputable def DD (p0 : Int) : Option Int := (Es p0).bind fun x1 => some x1
theorem Hx (Y : Nat → Prop) (w0 : World)  (p0 : Int) (r : Int) (H : DD p0 = some r)  :
    Calls Try.prog 54 #[.int .u64 p0] w0 fun e w' => e = .returned (.int .i64 r) ∧ Below w0.heap.size w0 w' := by
 refine enter Try.func54 Aa Try.ntmps54 Aa fun a F => ?_
 have W := Stw.start Y w0
 unfold DD at H
 refine Ah (Ac ?_)
 refine ls F W Aa (Af F Aa).q fun a w F W => ?_
 refine Ae (Ab (Ah ?_))
 refine N8 F Aa ?_
 refine wp_skip (Ab (Ah (Ac ?_)))
 refine ls F W Aa (Ad F Aa).q fun a w F W => ?_
 obtain ⟨x1, h1, H⟩ := Al H
 refine ls F W Aa (BH (v := Value.int .i64 x1) F Ug Aa (fun w W => Kw any w p0 _ h1)) fun a w F W => ?_
 refine ls F W Aa (Af F Aa).q fun a w F W => ?_
 refine Ae (Ab (wp_ret ?_))
 have H := AM H
 subst H
 refine Bl (.inl Aa) F W Aa (Av F Aa) ?_
 exact ⟨rfl, W.done⟩
theorem SQ : Has Try.prog 54 := ⟨fun args w => An Try.func54 rfl (by decide) args w⟩
theorem Ec : Ty Try.prog 85 true 4 := ⟨by kernel_rfl, by kernel_rfl⟩
def BM (p0 : Int) : Bool := decide (p0 ≠ p0)
theorem F3 (Y : Nat → Prop) (w0 : World)  (p0 : Int) (r : Bool) (H : BM p0 = r)  :
    Calls Try.prog 55 #[.int .i64 p0] w0 fun e w' => e = .returned (.bool r) ∧ Below w0.heap.size w0 w' := by
 refine enter Try.func55 Aa Try.ntmps55 Aa fun a F => ?_
 have W := Stw.start Y w0
 unfold BM at H
 refine Ah (Ac ?_)
 refine ls F W Aa (Af F Aa).q fun a w F W => ?_
 refine Ae (Ab (Ah (Ac ?_)))
 iterate 2 refine ls F W Aa (Ad F Aa).q fun a w F W => ?_
 refine ls F W Aa (Fe F Aa Aa).q fun a w F W => ?_
 refine ls F W Aa (Af F Aa).q fun a w F W => ?_
 refine Ae (Ab (wp_ret ?_))
 subst H
 refine Bl (.inl Aa) F W Aa (Av F Aa) ?_
 exact ⟨rfl, W.done⟩
theorem SC : Has Try.prog 55 := ⟨fun args w => An Try.func55 rfl (by decide) args w⟩
def AZ (p0 : Int) (p1 : Int) : Int := (if (BM p0) = true then (if (BM p1) = true then 0 else (-1)) else (if (BM p1) = true then 1 else (if p0 < p1 then (-1) else (if p1 < p0 then 1 else 0))))
theorem GD (Y : Nat → Prop) (w0 : World)  (p0 : Int) (p1 : Int) (r : Int) (H : AZ p0 p1 = r)  :
    Calls Try.prog 39 #[.int .i64 p0, .int .i64 p1] w0 fun e w' => e = .returned (.int .i64 r) ∧ Below w0.heap.size w0 w' := by
 refine enter Try.func39 Aa Try.ntmps39 Aa fun a F => ?_
 have W := Stw.start Y w0
 unfold AZ at H
 refine Ah (Ac ?_)
 refine ls F W Aa (Af F Aa).q fun a w F W => ?_
 refine Ae (Ab (Ah (Ac ?_)))
 refine ls F W Aa (Ad F Aa).q fun a w F W => ?_
 refine ls F W Aa (BH (v := Value.bool (BM p0)) F SC Aa (fun w W => F3 any w p0 _ Aa)) fun a w F W => ?_
 refine ls F W Aa (Af F Aa).q fun a w F W => ?_
 refine Ae (Ab (Ah (Ac ?_)))
 refine ls F W Aa (Ad F Aa).q fun a w F W => ?_
 refine ls F W Aa (BH (v := Value.bool (BM p1)) F SC Aa (fun w W => F3 any w p1 _ Aa)) fun a w F W => ?_
 refine ls F W Aa (Af F Aa).q fun a w F W => ?_
 refine Ae (Ab (Ah (Ah (Ac ?_))))
 refine ls F W Aa (Ad F Aa).q fun a w F W => ?_
 refine Ae (Ab ?_)
 refine Aw F Aa (fun hb => ?_) fun hb => ?_
 ·
  have H := AL hb H
  rw [hb] at F
  clear hb
  refine Ah (Ah (Ac ?_))
  refine ls F W Aa (Ad F Aa).q fun a w F W => ?_
  refine Ae (Ab ?_)
  refine Aw F Aa (fun hb => ?_) fun hb => ?_
  ·
   have H := AL hb H
   rw [hb] at F
   clear hb
   refine Ah (Ac ?_)
   refine ls F W Aa (Af F Aa).q fun a w F W => ?_
   refine Ae (Ab (wp_ret ?_))
   iterate 2 refine AG ?_
   subst H
   refine Bl (.inl Aa) F W Aa (Av F Aa) ?_
   exact ⟨rfl, W.done⟩
  have H := AK (by rw [hb]; decide) H
  rw [hb] at F
  clear hb
  refine wp_skip (Ab (Ah (Ac ?_)))
  refine ls F W Aa (Af F Aa).q fun a w F W => ?_
  refine Ae (Ab (wp_ret (AG ?_)))
  subst H
  refine Bl (.inl Aa) F W Aa (Av F Aa) ?_
  exact ⟨rfl, W.done⟩
 have H := AK (by rw [hb]; decide) H
 rw [hb] at F
 clear hb
 refine wp_skip (Ab (Ah (Ah (Ac ?_))))
 refine ls F W Aa (Ad F Aa).q fun a w F W => ?_
 refine Ae (Ab ?_)
 refine Aw F Aa (fun hb => ?_) fun hb => ?_
 ·
  have H := AL hb H
  rw [hb] at F
  clear hb
  refine Ah (Ac ?_)
  refine ls F W Aa (Af F Aa).q fun a w F W => ?_
  refine Ae (Ab (wp_ret (AG ?_)))
  subst H
  refine Bl (.inl Aa) F W Aa (Av F Aa) ?_
  exact ⟨rfl, W.done⟩
 have H := AK (by rw [hb]; decide) H
 rw [hb] at F
 clear hb
 refine wp_skip (Ab (Ah (Ah (Ac ?_))))
 iterate 2 refine ls F W Aa (Ad F Aa).q fun a w F W => ?_
 refine ls F W Aa (Bk F Aa Aa).q fun a w F W => ?_
 refine Ae (Ab ?_)
 refine Aw F Aa (fun hb => ?_) fun hb => ?_
 ·
  have H := AL (A6 hb) H
  rw [hb] at F
  clear hb
  refine Ah (Ac ?_)
  refine ls F W Aa (Af F Aa).q fun a w F W => ?_
  refine Ae (Ab (wp_ret (AG ?_)))
  subst H
  refine Bl (.inl Aa) F W Aa (Av F Aa) ?_
  exact ⟨rfl, W.done⟩
 have H := AK (A7 hb) H
 rw [hb] at F
 clear hb
 refine wp_skip (Ab (Ah (Ah (Ac ?_))))
 iterate 2 refine ls F W Aa (Ad F Aa).q fun a w F W => ?_
 refine ls F W Aa (DZ F Aa Aa).q fun a w F W => ?_
 refine Ae (Ab ?_)
 refine Aw F Aa (fun hb => ?_) fun hb => ?_
 ·
  have H := AL (A6 hb) H
  rw [hb] at F
  clear hb
  refine Ah (Ac ?_)
  refine ls F W Aa (Af F Aa).q fun a w F W => ?_
  refine Ae (Ab (wp_ret (AG ?_)))
  subst H
  refine Bl (.inl Aa) F W Aa (Av F Aa) ?_
  exact ⟨rfl, W.done⟩
 have H := AK (A7 hb) H
 rw [hb] at F
 clear hb
 refine wp_skip (Ab (Ah (Ac ?_)))
 refine ls F W Aa (Af F Aa).q fun a w F W => ?_
 refine Ae (Ab (wp_ret ?_))
 subst H
 refine Bl (.inl Aa) F W Aa (Av F Aa) ?_
 exact ⟨rfl, W.done⟩
theorem Tb : Has Try.prog 39 := ⟨fun args w => An Try.func39 rfl (by decide) args w⟩
noncomputable def C5 (p0 : List Int) : Int → Option (Int ⊕ (Unit ⊕ Int))
  | x1 => (if x1 < (p0.length : Int) then (ix p0 x1).bind fun x2 => (if x2 ≠ 0 then some (.inr (.inr x2)) else some (.inl (AA (x1 + 1)))) else some (.inr (.inl ())))
noncomputable def Ga (p0 : List Int) : Option Int := E6 (AE (C5 p0) 0) fun _ => some 0
theorem Nb (Y : Nat → Prop) (w0 : World) (v1 : Value) (p0 : List Int) (r : Int) (H : Ga p0 = some r) (h_v1 : Sl w0 (NX []) (Rp.int .i64) v1 p0) :
    Calls Try.prog 38 #[v1] w0 fun e w' => e = .returned (.int .i64 r) ∧ Below w0.heap.size w0 w' := by
 refine enter Try.func38 Aa Try.ntmps38 Aa fun a F => ?_
 have W := Stw.start Y w0
 unfold Ga at H
 refine Ah (Ac ?_)
 refine ls F W Aa (Af F Aa).q fun a w F W => ?_
 refine Ae (Ab (Ah (Ac ?_)))
 refine ls F W Aa (Af F Aa).q fun a w F W => ?_
 refine Ae (Ab ?_)
 obtain ⟨o1, G1, K1, L1⟩ := Jb H
 refine AC (fun a w => some (Sum.inl ()) = some o1 ∧ Fr 18 [] [(2, .int .i64 0), (3, .int .i64 0)] a ∧ Stw ⟨Y, [], w0⟩ [] [] w) ?_ ?_
 ·
  have H := G1
  clear G1 K1
  refine Ah (Ac ?_)
  refine ls F W Aa (Ad F Aa).q fun a w F W => ?_
  refine ls F W Aa (BP (r := (Rp.int .i64)) (l := p0) Hm Aa F Aa (Am h_v1)).q fun a w F W => ?_
  refine ls F W Aa (Ad F Aa).q fun a w F W => ?_
  refine Ae (Ab (wp_block ?_))
  refine A1 H (fun s a w => Fr 18 [] [(2, .int .i64 0), (3, .int .i64 0), (6, v1), (7, .int .i64 (p0.length : Int)), (8, .int .i64 s)] a ∧ Stw ⟨Y, [], w0⟩ [] [] w) ⟨F.re ⟨rfl, Aa, Aa, Aa, Aa, trivial⟩, W⟩ fun s o a w H L2 hR => ?_
  obtain ⟨x1, rfl⟩ : ∃ x, x = s := ⟨s, rfl⟩
  obtain ⟨F, W⟩ := hR
  have F : Fr 18 [] [(2, .int .i64 0), (3, .int .i64 0), (6, v1), (7, .int .i64 (p0.length : Int)), (8, .int .i64 x1)] a := F
  have W : Stw ⟨Y, [], w0⟩ [] [] w := W
  rw [C5] at H
  refine Ah (Ac ?_)
  refine ls F W Aa (Bk F Aa Aa).q fun a w F W => ?_
  refine Ae (Ab (Ah ?_))
  refine Aw F Aa (fun hb => ?_) fun hb => ?_
  ·
   have H := AL (A6 hb) H
   rw [hb] at F
   clear hb
   refine wp_skip (Ab (Ah (wp_block (Ah (Ac ?_)))))
   obtain ⟨x2, h1, H⟩ := Al H
   refine ls F W Aa (Ay (r := (Rp.int .i64)) Eo F Aa Aa (Am h_v1) h1).q fun a w F W => ?_
   refine ls F W Aa (Ap (y := Value.int .i64 x2) (j := 0) (i := x1) F Aa Aa (Am h_v1) h1 Fl.int.to T3 Aa).q fun a w F W => ?_
   refine ls F W Aa (Af F Aa).q fun a w F W => ?_
   refine Ae (Ab (Ah (Ac ?_)))
   iterate 2 refine ls F W Aa (Ad F Aa).q fun a w F W => ?_
   refine ls F W Aa (Fe F Aa Aa).q fun a w F W => ?_
   refine Ae (Ab ?_)
   refine Aw F Aa (fun hb => ?_) fun hb => ?_
   ·
    have H := AL (A6 hb) H
    rw [hb] at F
    clear hb
    refine Ah (Ac ?_)
    refine ls F W Aa (Ad F Aa).q fun a w F W => ?_
    refine ls F W Aa (Af F Aa).q fun a w F W => ?_
    refine Ae (Ab (wp_ret (AO ?_)))
    iterate 2 refine AG ?_
    refine AO (AG ?_)
    have H := L2 _ H
    have H := L1 _ H
    have H := AM H
    subst H
    refine Bl (.inl Aa) F W Aa (Av F Aa) ?_
    exact ⟨rfl, W.done⟩
   have H := AK (A7 hb) H
   rw [hb] at F
   clear hb
   refine wp_skip (AH (Ab (Ac ?_)))
   refine ls F W Aa (A3 F Aa Aa Aa).q fun a w F W => ?_
   refine ls F W Aa (Ad F Aa).q fun a w F W => ?_
   refine Ae (Ab ?_)
   exact ⟨_, H, F.re ⟨rfl, Aa, Aa, Aa, Aa, trivial⟩, W⟩
  have H := AK (A7 hb) H
  rw [hb] at F
  clear hb
  refine wp_exit ?_
  iterate 2 refine A5 ?_
  refine AU (Ab ?_)
  have H := L2 _ H
  exact ⟨H, F.re ⟨rfl, Aa, trivial⟩, W⟩
 rintro a w ⟨hj, F, W⟩
 have H := K1 _ hj
 clear hj G1 K1 L1
 refine Ah (Ac ?_)
 refine ls F W Aa (Ad F Aa).q fun a w F W => ?_
 refine ls F W Aa (Af F Aa).q fun a w F W => ?_
 refine Ae (Ab (wp_ret ?_))
 have H := AM H
 subst H
 refine Bl (.inl Aa) F W Aa (Av F Aa) ?_
 exact ⟨rfl, W.done⟩
theorem UK : Has Try.prog 38 := ⟨fun args w => An Try.func38 rfl (by decide) args w⟩
noncomputable def B6 (p0 : Int × Int × Int × Int) (p1 : Int × Int × Int × Int) : Option Int := (Ga ([(AZ p0.2.2.2 p1.2.2.2), (AZ p0.1 p1.1), (AZ p0.2.1 p1.2.1)] : List Int)).bind fun x1 => some x1
theorem Cp (Y : Nat → Prop) (w0 : World)  (p0 : Int × Int × Int × Int) (p1 : Int × Int × Int × Int) (r : Int) (H : B6 p0 p1 = some r)  :
    Calls Try.prog 37 #[.agg #[.int .i64 p0.1, .int .i64 p0.2.1, .int .i64 p0.2.2.1, .int .i64 p0.2.2.2], .agg #[.int .i64 p1.1, .int .i64 p1.2.1, .int .i64 p1.2.2.1, .int .i64 p1.2.2.2]] w0 fun e w' => e = .returned (.int .i64 r) ∧ Below w0.heap.size w0 w' := by
 refine enter Try.func37 Aa Try.ntmps37 Aa fun a F => ?_
 have W := Stw.start Y w0
 unfold B6 at H
 refine Ah (Ac ?_)
 refine Dr (cs := [.int .i64 p0.1, .int .i64 p0.2.1, .int .i64 p0.2.2.1, .int .i64 p0.2.2.2]) F W Aa Aa Aa fun b1 a w F W => ?_
 refine Dr (cs := [.int .i64 p1.1, .int .i64 p1.2.1, .int .i64 p1.2.2.1, .int .i64 p1.2.2.2]) F W Aa Aa Aa fun b2 a w F W => ?_
 refine ls F W Aa (Af F Aa).q fun a w F W => ?_
 refine Ae (Ab (Ah ?_))
 refine Kv 15 W MO (by kernel_rfl) ?_
 refine qs F Aa (Ai JS Aa Aa Aa T3 F Aa 3 Aa).q fun a F => ?_
 refine qs F Aa (As (v := Value.int .i64 p0.2.2.2) 1 F Aa Aa T3 Aa).q fun a F => ?_
 refine qs F Aa (Ai JS Aa Aa Aa T3 F Aa 3 Aa).q fun a F => ?_
 refine qs F Aa (As (v := Value.int .i64 p1.2.2.2) 0 F Aa Aa T3 Aa).q fun a F => ?_
 refine qs F Aa (BH (v := Value.int .i64 (AZ p0.2.2.2 p1.2.2.2)) F Tb Aa (fun w W => GD any w p0.2.2.2 p1.2.2.2 _ Aa)) fun a F => ?_
 refine qs F Aa (Ai JS Aa Aa Aa T3 F Aa 0 Aa).q fun a F => ?_
 refine qs F Aa (As (v := Value.int .i64 p0.1) 1 F Aa Aa T3 Aa).q fun a F => ?_
 refine qs F Aa (Ai JS Aa Aa Aa T3 F Aa 0 Aa).q fun a F => ?_
 refine qs F Aa (As (v := Value.int .i64 p1.1) 0 F Aa Aa T3 Aa).q fun a F => ?_
 refine qs F Aa (BH (v := Value.int .i64 (AZ p0.1 p1.1)) F Tb Aa (fun w W => GD any w p0.1 p1.1 _ Aa)) fun a F => ?_
 refine qs F Aa (Ai JS Aa Aa Aa T3 F Aa 1 Aa).q fun a F => ?_
 refine qs F Aa (As (v := Value.int .i64 p0.2.1) 1 F Aa Aa T3 Aa).q fun a F => ?_
 refine qs F Aa (Ai JS Aa Aa Aa T3 F Aa 1 Aa).q fun a F => ?_
 refine qs F Aa (As (v := Value.int .i64 p1.2.1) 0 F Aa Aa T3 Aa).q fun a F => ?_
 refine qs F Aa (BH (v := Value.int .i64 (AZ p0.2.1 p1.2.1)) F Tb Aa (fun w W => GD any w p0.2.1 p1.2.1 _ Aa)) fun a F => ?_
 refine AR fun w W => ?_
 refine EA (z := Value.int .i64 0) (cs := [.int .i64 (AZ p0.2.2.2 p1.2.2.2), .int .i64 (AZ p0.1 p1.1), .int .i64 (AZ p0.2.1 p1.2.1)]) (Rp.int .i64) ([(AZ p0.2.2.2 p1.2.2.2), (AZ p0.1 p1.1), (AZ p0.2.1 p1.2.1)] : List Int) F W Aa Eo Z3 Aa Aa Aa Aa Aa Aa (Fl.int.repL _ _ ([(AZ p0.2.2.2 p1.2.2.2), (AZ p0.1 p1.1), (AZ p0.2.1 p1.2.1)] : List Int)) fun v1 a w F W => ?_
 obtain ⟨x1, h1, H⟩ := Al H
 refine ls F W Aa (BH (v := Value.int .i64 x1) F UK Aa (fun w W => Nb any w (v1) ([(AZ p0.2.2.2 p1.2.2.2), (AZ p0.1 p1.1), (AZ p0.2.1 p1.2.1)] : List Int) _ h1 (((Ao 0 Aa) : DT _ _ _ _ _ _) w W).nx)) fun a w F W => ?_
 refine ls F W Aa (Af F Aa).q fun a w F W => ?_
 refine Ae (Ab (wp_ret ?_))
 have H := AM H
 subst H
 refine Bl (.inl Aa) F W Aa (Av F Aa) ?_
 exact ⟨rfl, W.done⟩
theorem O7 : Has Try.prog 37 := ⟨fun args w => An Try.func37 rfl (by decide) args w⟩
noncomputable def AS (p1 : Int) : ((List (Int × Int × Int × Int)) × Int) → Option (((List (Int × Int × Int × Int)) × Int) ⊕ (List (Int × Int × Int × Int)))
  | (x4, x5) => (if p1 < x5 then (ix x4 x5).bind fun x7 => (ix x4 (AA (x5 - 1))).bind fun x8 => (B6 x7 x8).bind fun x9 => some (decide (x9 < 0)) else some false).bind fun x6 => (if x6 = true then (ix x4 (AA (x5 - 1))).bind fun x10 => (ix x4 x5).bind fun x11 => (ix x4 x5).bind fun x12 => (ix (AQ x4 x5 x10) (AA (x5 - 1))).bind fun x13 => some (.inl ((AQ (AQ x4 x5 x10) (AA (x5 - 1)) x11), AA (x5 - 1))) else some (.inr x4))
noncomputable def Bd (p1 : Int) (p2 : Int) : ((List (Int × Int × Int × Int)) × Int) → Option (((List (Int × Int × Int × Int)) × Int) ⊕ (List (Int × Int × Int × Int)))
  | (x1, x2) => (if x2 < p2 then (AE (AS p1) (x1, x2)).bind fun x3 => some (.inl (x3, AA (x2 + 1))) else some (.inr x1))
noncomputable def Bv (p0 : List (Int × Int × Int × Int)) (p1 : Int) (p2 : Int) : Option (List (Int × Int × Int × Int)) := AE (Bd p1 p2) (p0, AA (p1 + 1))
theorem E8 (Y : Nat → Prop) (X : List Nat) (w0 : World) (v1 : Value) (p0 : List (Int × Int × Int × Int)) (p1 : Int) (p2 : Int) (r : (List (Int × Int × Int × Int))) (H : Bv p0 p1 p2 = some r) (hL : Stw ⟨Y, X, w0⟩ [] [row v1 85 A8 p0] w0) :
    Calls Try.prog 72 #[v1, .int .i64 p1, .int .i64 p2, .func (.func 37) #[] #[]] w0 fun e w' => ∃ x : Unit, e = .returned (.tuple #[]) ∧ Stw ⟨Y, X, w0⟩ [] [row v1 85 A8 r] w' := by
 refine enter Try.func72 Aa Try.ntmps72 Aa fun a F => ?_
 have W := hL
 unfold Bv at H
 refine Ah (Ac ?_)
 refine ls F W Aa (Ad F Aa).q fun a w F W => ?_
 refine ls F W Aa (A3 F Aa Aa Aa).q fun a w F W => ?_
 refine ls F W Aa (Af F Aa).q fun a w F W => ?_
 refine Ae (Ab (wp_block ?_))
 refine A1 H (fun s a w => Fr 53 [] [(0, v1), (1, .int .i64 p1), (2, .int .i64 p2), (3, .func (.func 37) #[] #[]), (8, .int .i64 s.2)] a ∧ Stw ⟨Y, X, w0⟩ [] [row v1 85 A8 s.1] w) ⟨F.re ⟨rfl, Aa, Aa, Aa, Aa, trivial⟩, W⟩ fun s o a w H L1 hR => ?_
 obtain ⟨x1, x2⟩ := s
 obtain ⟨F, W⟩ := hR
 have F : Fr 53 [] [(0, v1), (1, .int .i64 p1), (2, .int .i64 p2), (3, .func (.func 37) #[] #[]), (8, .int .i64 x2)] a := F
 have W : Stw ⟨Y, X, w0⟩ [] [row v1 85 A8 x1] w := W
 rw [Bd] at H
 refine Ah (Ah (Ac ?_))
 iterate 2 refine ls F W Aa (Ad F Aa).q fun a w F W => ?_
 refine ls F W Aa (Bk F Aa Aa).q fun a w F W => ?_
 refine Ae (Ab ?_)
 refine Aw F Aa (fun hb => ?_) fun hb => ?_
 ·
  have H := AL (A6 hb) H
  rw [hb] at F
  clear hb
  refine wp_skip (Ab ?_)
  obtain ⟨o2, G2, K2⟩ := Al H
  refine AC (fun a w => ∃ x3 : List (Int × Int × Int × Int), some (x3) = some o2 ∧ Fr 53 [] [(0, v1), (1, .int .i64 p1), (2, .int .i64 p2), (3, .func (.func 37) #[] #[]), (8, .int .i64 x2)] a ∧ Stw ⟨Y, X, w0⟩ [] [row v1 85 A8 x3] w) ?_ ?_
  ·
   have H := G2
   clear G2 K2
   refine wp_block (Ah (Ac ?_))
   refine ls F W Aa (Ad F Aa).q fun a w F W => ?_
   refine ls F W Aa (Af F Aa).q fun a w F W => ?_
   refine Ae (Ab (wp_block ?_))
   refine A1 H (fun s a w => Fr 53 [] [(0, v1), (1, .int .i64 p1), (2, .int .i64 p2), (3, .func (.func 37) #[] #[]), (8, .int .i64 x2), (9, .int .i64 s.2)] a ∧ Stw ⟨Y, X, w0⟩ [] [row v1 85 A8 s.1] w) ⟨F.re ⟨rfl, Aa, Aa, Aa, Aa, Aa, trivial⟩, W⟩ fun s o a w H L3 hR => ?_
   obtain ⟨x4, x5⟩ := s
   obtain ⟨F, W⟩ := hR
   have F : Fr 53 [] [(0, v1), (1, .int .i64 p1), (2, .int .i64 p2), (3, .func (.func 37) #[] #[]), (8, .int .i64 x2), (9, .int .i64 x5)] a := F
   have W : Stw ⟨Y, X, w0⟩ [] [row v1 85 A8 x4] w := W
   rw [AS] at H
   refine Ah ?_
   obtain ⟨o4, G4, K4⟩ := Al H
   refine AC (fun a w => ∃ x6 : Bool, some (x6) = some o4 ∧ Fr 53 [] [(0, v1), (1, .int .i64 p1), (2, .int .i64 p2), (3, .func (.func 37) #[] #[]), (8, .int .i64 x2), (9, .int .i64 x5), (34, .bool x6)] a ∧ Stw ⟨Y, X, w0⟩ [] [row v1 85 A8 x4] w) ?_ ?_
   ·
    have H := G4
    clear G4 K4
    refine BB W MO (by kernel_rfl) ?_
    iterate 2 refine qs F Aa (Ad F Aa).q fun a F => ?_
    refine qs F Aa (DZ F Aa Aa).q fun a F => ?_
    refine qs F Aa (Ad F Aa).q fun a F => ?_
    rcases Bool.eq_false_or_eq_true (decide (p1 < x5)) with hb | hb
    ·
     have H := AL (A6 hb) H
     rw [hb] at F
     clear hb
     iterate 3 refine Bf F (Ag F Aa Aa Aa Aa) Aa (Ak Aa) (Ad F Aa).q fun a F => ?_
     obtain ⟨x7, h1, H⟩ := Al H
     refine Bf F (Ag F Aa Aa Aa Aa) Aa (Ak Aa) (Ay (r := A8) Eb F Aa Aa (Ao 0 Aa) h1).q fun a F => ?_
     refine Bf F (Ag F Aa Aa Aa Aa) Aa (Ak Aa) (Ap (y := Value.agg #[.int .i64 x7.1, .int .i64 x7.2.1, .int .i64 x7.2.2.1, .int .i64 x7.2.2.2]) (j := 0) (i := x5) F Aa Aa (Ao 0 Aa) h1 Ek.to Ec Aa).q fun a F => ?_
     iterate 2 refine Bf F (Ag F Aa Aa Aa Aa) Aa (Ak Aa) (Ad F Aa).q fun a F => ?_
     refine Bf F (Ag F Aa Aa Aa Aa) Aa (Ak Aa) (B5 F Aa Aa Aa).q fun a F => ?_
     obtain ⟨x8, h2, H⟩ := Al H
     refine Bf F (Ag F Aa Aa Aa Aa) Aa (Ak Aa) (Ay (r := A8) Eb F Aa Aa (Ao 0 Aa) h2).q fun a F => ?_
     refine Bf F (Ag F Aa Aa Aa Aa) Aa (Ak Aa) (Ap (y := Value.agg #[.int .i64 x8.1, .int .i64 x8.2.1, .int .i64 x8.2.2.1, .int .i64 x8.2.2.2]) (j := 0) (i := AA (x5 - 1)) F Aa Aa (Ao 0 Aa) h2 Ek.to Ec Aa).q fun a F => ?_
     obtain ⟨x9, h3, H⟩ := Al H
     refine Bf F (Ag F Aa Aa Aa Aa) Aa (Ak Aa) (EG (ws := [.agg #[.int .i64 x7.1, .int .i64 x7.2.1, .int .i64 x7.2.2.1, .int .i64 x7.2.2.2], .agg #[.int .i64 x8.1, .int .i64 x8.2.1, .int .i64 x8.2.2.1, .int .i64 x8.2.2.2]]) (v := Value.int .i64 x9) F O7 Aa (fun w W => Cp any w x7 x8 _ h3)) fun a F => ?_
     refine Bf F (Ag F Aa Aa Aa Aa) Aa (Ak Aa) (Bk F Aa Aa).q fun a F => ?_
     refine qs F Aa (Aq F Aa Aa Aa).q fun a F => ?_
     refine AR fun w W => ?_
     refine Ab ?_
     exact ⟨_, H, F.re ⟨rfl, Aa, Aa, Aa, Aa, Aa, Aa, trivial⟩, W⟩
    have H := AK (A7 hb) H
    rw [hb] at F
    clear hb
    iterate 12 refine El F (Dm F Aa Aa Aa Aa Aa) Aa Aa fun a F => ?_
    refine qs F Aa (Au F Aa Aa Aa).q fun a F => ?_
    refine AR fun w W => ?_
    refine Ab ?_
    exact ⟨_, H, F.re ⟨rfl, Aa, Aa, Aa, Aa, Aa, Aa, trivial⟩, W⟩
   rintro a w ⟨x6, hj, F, W⟩
   have hj := AM hj
   subst hj
   have H := K4
   clear G4 K4
   refine Aw F Aa (fun hb => ?_) fun hb => ?_
   ·
    have H := AL hb H
    rw [hb] at F
    clear hb
    refine wp_skip (Ab (Ah (wp_block ?_)))
    refine Ev [(true, 0), (true, 1), (true, 2), (true, 3), (true, 4), (true, 5), (true, 6), (true, 7), (true, 8), (true, 9), (true, 10), (true, 11), (true, 12), (true, 13), (true, 14), (false, 15), (true, 16), (false, 17)] (CN ⟨Y, X, w0⟩ [] [(some 15, row v1 85 A8 x4)]) (fun ch a d v w h => by cases d <;> exact h) MO (by kernel_rfl) W (fun w W => ⟨_, _, W, AB, (Bi (fun _ => (.head _)) AB)⟩) fun w W => ?_
    iterate 4 refine Bo (R := []) F Aa Aa (yC fun M Z hN hZ => Ad F Aa) Aa Aa fun a F => ?_
    refine Bo (R := []) F Aa Aa (yC fun M Z hN hZ => B5 F Aa Aa Aa) Aa Aa fun a F => ?_
    iterate 2 refine Bo (R := []) F Aa Aa (yC fun M Z hN hZ => Ad F Aa) Aa Aa fun a F => ?_
    refine Bo (R := []) F Aa Aa (yC fun M Z hN hZ => B5 F Aa Aa Aa) Aa Aa fun a F => ?_
    obtain ⟨x10, h4, H⟩ := Al H
    refine Bo (R := []) F Aa Aa (yC fun M Z hN hZ => Bu (r := A8) Eb F Aa Aa (CT W (Ao 0 Aa)) h4) Aa Aa fun a F => ?_
    refine Bo (R := [15]) F Aa Aa (yC fun M Z hN hZ => Ap (y := Value.agg #[.int .i64 x10.1, .int .i64 x10.2.1, .int .i64 x10.2.2.1, .int .i64 x10.2.2.2]) (j := 0) (i := AA (x5 - 1)) F Aa Aa (CO (hZ ((some 15), row v1 85 A8 x4) (.head _) Aa)) h4 Ek.to Ec Aa) (by kernel_rfl) Aa fun a F => ?_
    iterate 2 refine Bo (R := []) F Aa Aa (yC fun M Z hN hZ => Ad F Aa) Aa Aa fun a F => ?_
    obtain ⟨x11, h5, H⟩ := Al H
    refine Bo (R := []) F Aa Aa (yC fun M Z hN hZ => Bu (r := A8) Eb F Aa Aa (CT W (Ao 0 Aa)) h5) Aa Aa fun a F => ?_
    refine Bo (R := [15]) F Aa Aa (yC fun M Z hN hZ => Ap (y := Value.agg #[.int .i64 x11.1, .int .i64 x11.2.1, .int .i64 x11.2.2.1, .int .i64 x11.2.2.2]) (j := 0) (i := x5) F Aa Aa (CO (hZ ((some 15), row v1 85 A8 x4) (.head _) Aa)) h5 Ek.to Ec Aa) (by kernel_rfl) Aa fun a F => ?_
    obtain ⟨x12, h6, H⟩ := Al H
    refine Bo (R := []) F Aa Aa (yC fun M Z hN hZ => Bu (r := A8) Eb F Aa Aa (CT W (Ao 0 Aa)) h6) Aa Aa fun a F => ?_
    refine Gc Aa ?_
    refine Bh (i := x5) (j := 0) (vs := [.int .i64 x10.1, .int .i64 x10.2.1, .int .i64 x10.2.2.1, .int .i64 x10.2.2.2]) (x' := x10) F W Aa Aa Aa (k := 0) Aa Aa h6 Ec Aa Aa Aa Aa (fun A cs _ => Ek.sto (by rfl) _ _ _) fun w W => ?_
    refine CE (N2 := []) (NZ2 := []) (N3 := []) (NZ3 := [(some 15, row v1 85 A8 x4)]) W Aa Aa AB (Bi (fun h => Ch (by kernel_rfl) h) AB) ?_
    obtain ⟨x13, h7, H⟩ := Al H
    refine Bo (R := []) F Aa Aa (yC fun M Z hN hZ => Bu (r := A8) Eb F Aa Aa (CT W (Ao 0 Aa)) h7) Aa Aa fun a F => ?_
    refine Gc Aa ?_
    refine Bh (i := AA (x5 - 1)) (j := 0) (vs := [.int .i64 x11.1, .int .i64 x11.2.1, .int .i64 x11.2.2.1, .int .i64 x11.2.2.2]) (x' := x11) F W Aa Aa Aa (k := 0) Aa Aa h7 Ec Aa Aa Aa Aa (fun A cs _ => Ek.sto (by rfl) _ _ _) fun w W => ?_
    refine CE (N2 := []) (NZ2 := []) (N3 := []) (NZ3 := [(some 15, row v1 85 A8 x4)]) W Aa Aa AB (Bi (fun h => Ch (by kernel_rfl) h) AB) ?_
    refine Gs (AH (Ab (Ac ?_)))
    refine ls F W Aa (Ad F Aa).q fun a w F W => ?_
    refine ls F W Aa (B5 F Aa Aa Aa).q fun a w F W => ?_
    refine ls F W Aa (Af F Aa).q fun a w F W => ?_
    refine Ae (Ab ?_)
    exact ⟨_, H, F.re ⟨rfl, Aa, Aa, Aa, Aa, Aa, trivial⟩, W⟩
   have H := AK (by rw [hb]; decide) H
   rw [hb] at F
   clear hb
   refine wp_exit ?_
   iterate 2 refine A5 ?_
   refine AU (AH (Ab ?_))
   have H := L3 _ H
   exact ⟨_, H, F.re ⟨rfl, Aa, Aa, Aa, Aa, trivial⟩, W⟩
  rintro a w ⟨x3, hj, F, W⟩
  have hj := AM hj
  subst hj
  have H := K2
  clear G2 K2
  refine Ac ?_
  refine ls F W Aa (Ad F Aa).q fun a w F W => ?_
  refine ls F W Aa (A3 F Aa Aa Aa).q fun a w F W => ?_
  refine ls F W Aa (Af F Aa).q fun a w F W => ?_
  refine Ae (Ab ?_)
  exact ⟨_, H, F.re ⟨rfl, Aa, Aa, Aa, Aa, trivial⟩, W⟩
 have H := AK (A7 hb) H
 rw [hb] at F
 clear hb
 refine wp_exit ?_
 iterate 2 refine A5 ?_
 refine AU ?_
 have H := L1 _ H
 have H := AM H
 subst H
 refine Ic (.inr Aa) F Aa ?_
 exact ⟨(), Aa, W⟩
theorem Uv : Has Try.prog 72 := ⟨fun args w => An Try.func72 rfl (by decide) args w⟩
noncomputable def AY (p2 : Int) (p3 : Int) : ((List (Int × Int × Int × Int)) × Int) → Option (((List (Int × Int × Int × Int)) × Int) ⊕ (List (Int × Int × Int × Int)))
  | (x1, x2) => (if p2 ≤ (AA ((AA (2 * x2)) + 1)) then some (.inr x1) else ((if (AA ((AA ((AA (2 * x2)) + 1)) + 1)) < p2 then (ix x1 (AA (p3 + (AA ((AA (2 * x2)) + 1))))).bind fun x5 => (ix x1 (AA ((AA (p3 + (AA ((AA (2 * x2)) + 1)))) + 1))).bind fun x6 => (B6 x5 x6).bind fun x7 => some (decide (x7 < 0)) else some false).bind fun x4 => (if x4 = true then some (AA ((AA ((AA (2 * x2)) + 1)) + 1)) else some (AA ((AA (2 * x2)) + 1)))).bind fun x3 => (ix x1 (AA (p3 + x2))).bind fun x8 => (ix x1 (AA (p3 + x3))).bind fun x9 => (B6 x8 x9).bind fun x10 => (if (!(decide (x10 < 0))) = true then some (.inr x1) else (ix x1 (AA (p3 + x3))).bind fun x11 => (ix x1 (AA (p3 + x2))).bind fun x12 => (ix x1 (AA (p3 + x2))).bind fun x13 => (ix (AQ x1 (AA (p3 + x2)) x11) (AA (p3 + x3))).bind fun x14 => some (.inl ((AQ (AQ x1 (AA (p3 + x2)) x11) (AA (p3 + x3)) x12), x3))))
noncomputable def Ca (p0 : List (Int × Int × Int × Int)) (p1 : Int) (p2 : Int) (p3 : Int) : Option (List (Int × Int × Int × Int)) := AE (AY p2 p3) (p0, p1)
theorem Ea (Y : Nat → Prop) (X : List Nat) (w0 : World) (v1 : Value) (p0 : List (Int × Int × Int × Int)) (p1 : Int) (p2 : Int) (p3 : Int) (r : (List (Int × Int × Int × Int))) (H : Ca p0 p1 p2 p3 = some r) (hL : Stw ⟨Y, X, w0⟩ [] [row v1 85 A8 p0] w0) :
    Calls Try.prog 92 #[v1, .int .i64 p1, .int .i64 p2, .int .i64 p3, .func (.func 37) #[] #[]] w0 fun e w' => ∃ x : Unit, e = .returned (.tuple #[]) ∧ Stw ⟨Y, X, w0⟩ [] [row v1 85 A8 r] w' := by
 refine enter Try.func92 Aa Try.ntmps92 Aa fun a F => ?_
 have W := hL
 unfold Ca at H
 refine Ah (Ac ?_)
 refine ls F W Aa (Ad F Aa).q fun a w F W => ?_
 refine ls F W Aa (Af F Aa).q fun a w F W => ?_
 refine Ae (Ab (wp_block ?_))
 refine A1 H (fun s a w => Fr 82 [] [(0, v1), (2, .int .i64 p2), (3, .int .i64 p3), (4, .func (.func 37) #[] #[]), (10, .int .i64 s.2)] a ∧ Stw ⟨Y, X, w0⟩ [] [row v1 85 A8 s.1] w) ⟨F.re ⟨rfl, Aa, Aa, Aa, Aa, trivial⟩, W⟩ fun s o a w H L1 hR => ?_
 obtain ⟨x1, x2⟩ := s
 obtain ⟨F, W⟩ := hR
 have F : Fr 82 [] [(0, v1), (2, .int .i64 p2), (3, .int .i64 p3), (4, .func (.func 37) #[] #[]), (10, .int .i64 x2)] a := F
 have W : Stw ⟨Y, X, w0⟩ [] [row v1 85 A8 x1] w := W
 rw [AY] at H
 refine wp_block (Ah (Ac ?_))
 refine ls F W Aa (Ad F Aa).q fun a w F W => ?_
 refine ls F W Aa (I5 F Aa Aa Aa).q fun a w F W => ?_
 refine ls F W Aa (A3 F Aa Aa Aa).q fun a w F W => ?_
 refine ls F W Aa (Af F Aa).q fun a w F W => ?_
 refine Ae (Ab (Ah (Ah (Ac ?_))))
 iterate 2 refine ls F W Aa (Ad F Aa).q fun a w F W => ?_
 refine ls F W Aa (Dj F Aa Aa).q fun a w F W => ?_
 refine Ae (Ab ?_)
 refine Aw F Aa (fun hb => ?_) fun hb => ?_
 ·
  have H := AL (A6 hb) H
  rw [hb] at F
  clear hb
  refine wp_exit (A5 ?_)
  refine H1 Aa ?_
  refine A5 (AU ?_)
  have H := L1 _ H
  have H := AM H
  subst H
  refine Ic (.inr Aa) F Aa ?_
  exact ⟨(), Aa, W⟩
 have H := AK (A7 hb) H
 rw [hb] at F
 clear hb
 refine wp_skip (Ab ?_)
 obtain ⟨o2, G2, K2⟩ := Al H
 refine AC (fun a w => ∃ x3 : Int, some (x3) = some o2 ∧ Fr 82 [] [(0, v1), (2, .int .i64 p2), (3, .int .i64 p3), (4, .func (.func 37) #[] #[]), (10, .int .i64 x2), (11, .int .i64 x3)] a ∧ Stw ⟨Y, X, w0⟩ [] [row v1 85 A8 x1] w) ?_ ?_
 ·
  have H := G2
  clear G2 K2
  obtain ⟨o3, G3, K3⟩ := Al H
  refine AC (fun a w => ∃ x4 : Bool, some (x4) = some o3 ∧ Fr 82 [] [(0, v1), (2, .int .i64 p2), (3, .int .i64 p3), (4, .func (.func 37) #[] #[]), (10, .int .i64 x2), (11, .int .i64 (AA ((AA (2 * x2)) + 1))), (40, .bool x4)] a ∧ Stw ⟨Y, X, w0⟩ [] [row v1 85 A8 x1] w) ?_ ?_
  ·
   have H := G3
   clear G3 K3
   refine BB W MO (by kernel_rfl) ?_
   refine qs F Aa (Ad F Aa).q fun a F => ?_
   refine qs F Aa (A3 F Aa Aa Aa).q fun a F => ?_
   refine qs F Aa (Ad F Aa).q fun a F => ?_
   refine qs F Aa (Bk F Aa Aa).q fun a F => ?_
   refine qs F Aa (Ad F Aa).q fun a F => ?_
   rcases Bool.eq_false_or_eq_true (decide ((AA ((AA ((AA (2 * x2)) + 1)) + 1)) < p2)) with hb | hb
   ·
    have H := AL (A6 hb) H
    rw [hb] at F
    clear hb
    iterate 4 refine Bf F (Ag F Aa Aa Aa Aa) Aa (Ak Aa) (Ad F Aa).q fun a F => ?_
    refine Bf F (Ag F Aa Aa Aa Aa) Aa (Ak Aa) (A3 F Aa Aa Aa).q fun a F => ?_
    obtain ⟨x5, h1, H⟩ := Al H
    refine Bf F (Ag F Aa Aa Aa Aa) Aa (Ak Aa) (Ay (r := A8) Eb F Aa Aa (Ao 0 Aa) h1).q fun a F => ?_
    refine Bf F (Ag F Aa Aa Aa Aa) Aa (Ak Aa) (Ap (y := Value.agg #[.int .i64 x5.1, .int .i64 x5.2.1, .int .i64 x5.2.2.1, .int .i64 x5.2.2.2]) (j := 0) (i := AA (p3 + (AA ((AA (2 * x2)) + 1)))) F Aa Aa (Ao 0 Aa) h1 Ek.to Ec Aa).q fun a F => ?_
    iterate 3 refine Bf F (Ag F Aa Aa Aa Aa) Aa (Ak Aa) (Ad F Aa).q fun a F => ?_
    iterate 2 refine Bf F (Ag F Aa Aa Aa Aa) Aa (Ak Aa) (A3 F Aa Aa Aa).q fun a F => ?_
    obtain ⟨x6, h2, H⟩ := Al H
    refine Bf F (Ag F Aa Aa Aa Aa) Aa (Ak Aa) (Ay (r := A8) Eb F Aa Aa (Ao 0 Aa) h2).q fun a F => ?_
    refine Bf F (Ag F Aa Aa Aa Aa) Aa (Ak Aa) (Ap (y := Value.agg #[.int .i64 x6.1, .int .i64 x6.2.1, .int .i64 x6.2.2.1, .int .i64 x6.2.2.2]) (j := 0) (i := AA ((AA (p3 + (AA ((AA (2 * x2)) + 1)))) + 1)) F Aa Aa (Ao 0 Aa) h2 Ek.to Ec Aa).q fun a F => ?_
    obtain ⟨x7, h3, H⟩ := Al H
    refine Bf F (Ag F Aa Aa Aa Aa) Aa (Ak Aa) (EG (ws := [.agg #[.int .i64 x5.1, .int .i64 x5.2.1, .int .i64 x5.2.2.1, .int .i64 x5.2.2.2], .agg #[.int .i64 x6.1, .int .i64 x6.2.1, .int .i64 x6.2.2.1, .int .i64 x6.2.2.2]]) (v := Value.int .i64 x7) F O7 Aa (fun w W => Cp any w x5 x6 _ h3)) fun a F => ?_
    refine Bf F (Ag F Aa Aa Aa Aa) Aa (Ak Aa) (Bk F Aa Aa).q fun a F => ?_
    refine qs F Aa (Aq F Aa Aa Aa).q fun a F => ?_
    refine AR fun w W => ?_
    refine Ab ?_
    exact ⟨_, H, F.re ⟨rfl, Aa, Aa, Aa, Aa, Aa, Aa, trivial⟩, W⟩
   have H := AK (A7 hb) H
   rw [hb] at F
   clear hb
   iterate 16 refine El F (Dm F Aa Aa Aa Aa Aa) Aa Aa fun a F => ?_
   refine qs F Aa (Au F Aa Aa Aa).q fun a F => ?_
   refine AR fun w W => ?_
   refine Ab ?_
   exact ⟨_, H, F.re ⟨rfl, Aa, Aa, Aa, Aa, Aa, Aa, trivial⟩, W⟩
  rintro a w ⟨x4, hj, F, W⟩
  have hj := AM hj
  subst hj
  have H := K3
  clear G3 K3
  refine Aw F Aa (fun hb => ?_) fun hb => ?_
  ·
   have H := AL hb H
   rw [hb] at F
   clear hb
   refine Ac ?_
   refine ls F W Aa (Ad F Aa).q fun a w F W => ?_
   refine ls F W Aa (A3 F Aa Aa Aa).q fun a w F W => ?_
   refine ls F W Aa (Af F Aa).q fun a w F W => ?_
   refine Ae (Ab ?_)
   exact ⟨_, H, F.re ⟨rfl, Aa, Aa, Aa, Aa, Aa, trivial⟩, W⟩
  have H := AK (by rw [hb]; decide) H
  rw [hb] at F
  clear hb
  refine wp_skip (Ab ?_)
  exact ⟨_, H, F.re ⟨rfl, Aa, Aa, Aa, Aa, Aa, trivial⟩, W⟩
 rintro a w ⟨x3, hj, F, W⟩
 have hj := AM hj
 subst hj
 have H := K2
 clear G2 K2
 iterate 2 refine Ah ?_
 refine BB W MO (by kernel_rfl) ?_
 iterate 4 refine qs F Aa (Ad F Aa).q fun a F => ?_
 refine qs F Aa (A3 F Aa Aa Aa).q fun a F => ?_
 obtain ⟨x8, h4, H⟩ := Al H
 refine qs F Aa (Ay (r := A8) Eb F Aa Aa (Ao 0 Aa) h4).q fun a F => ?_
 refine qs F Aa (Ap (y := Value.agg #[.int .i64 x8.1, .int .i64 x8.2.1, .int .i64 x8.2.2.1, .int .i64 x8.2.2.2]) (j := 0) (i := AA (p3 + x2)) F Aa Aa (Ao 0 Aa) h4 Ek.to Ec Aa).q fun a F => ?_
 iterate 3 refine qs F Aa (Ad F Aa).q fun a F => ?_
 refine qs F Aa (A3 F Aa Aa Aa).q fun a F => ?_
 obtain ⟨x9, h5, H⟩ := Al H
 refine qs F Aa (Ay (r := A8) Eb F Aa Aa (Ao 0 Aa) h5).q fun a F => ?_
 refine qs F Aa (Ap (y := Value.agg #[.int .i64 x9.1, .int .i64 x9.2.1, .int .i64 x9.2.2.1, .int .i64 x9.2.2.2]) (j := 0) (i := AA (p3 + x3)) F Aa Aa (Ao 0 Aa) h5 Ek.to Ec Aa).q fun a F => ?_
 obtain ⟨x10, h6, H⟩ := Al H
 refine qs F Aa (EG (ws := [.agg #[.int .i64 x8.1, .int .i64 x8.2.1, .int .i64 x8.2.2.1, .int .i64 x8.2.2.2], .agg #[.int .i64 x9.1, .int .i64 x9.2.1, .int .i64 x9.2.2.1, .int .i64 x9.2.2.2]]) (v := Value.int .i64 x10) F O7 Aa (fun w W => Cp any w x8 x9 _ h6)) fun a F => ?_
 refine qs F Aa (Bk F Aa Aa).q fun a F => ?_
 refine qs F Aa (Dt F Aa).q fun a F => ?_
 refine AR fun w W => ?_
 refine Ab ?_
 refine Aw F Aa (fun hb => ?_) fun hb => ?_
 ·
  have H := AL hb H
  rw [hb] at F
  clear hb
  refine wp_ret (AG (AO (AG (AO ?_))))
  have H := L1 _ H
  have H := AM H
  subst H
  refine Ic (.inl Aa) F Aa ?_
  exact ⟨(), Aa, W⟩
 have H := AK (by rw [hb]; decide) H
 rw [hb] at F
 clear hb
 refine wp_skip (Ab (Ah ?_))
 refine Ev [(true, 0), (true, 1), (true, 2), (true, 3), (true, 4), (true, 5), (true, 6), (true, 7), (true, 8), (true, 9), (true, 10), (true, 11), (true, 12), (true, 13), (true, 14), (true, 15), (true, 16), (true, 17), (true, 18), (true, 19), (true, 20), (false, 21), (true, 22), (false, 23)] (CN ⟨Y, X, w0⟩ [] [(some 21, row v1 85 A8 x1)]) (fun ch a d v w h => by cases d <;> exact h) MO (by kernel_rfl) W (fun w W => ⟨_, _, W, AB, (Bi (fun _ => (.head _)) AB)⟩) fun w W => ?_
 iterate 3 refine Bo (R := []) F Aa Aa (yC fun M Z hN hZ => Ad F Aa) Aa Aa fun a F => ?_
 refine Bo (R := []) F Aa Aa (yC fun M Z hN hZ => A3 F Aa Aa Aa) Aa Aa fun a F => ?_
 iterate 3 refine Bo (R := []) F Aa Aa (yC fun M Z hN hZ => Ad F Aa) Aa Aa fun a F => ?_
 refine Bo (R := []) F Aa Aa (yC fun M Z hN hZ => A3 F Aa Aa Aa) Aa Aa fun a F => ?_
 iterate 3 refine Bo (R := []) F Aa Aa (yC fun M Z hN hZ => Ad F Aa) Aa Aa fun a F => ?_
 refine Bo (R := []) F Aa Aa (yC fun M Z hN hZ => A3 F Aa Aa Aa) Aa Aa fun a F => ?_
 obtain ⟨x11, h7, H⟩ := Al H
 refine Bo (R := []) F Aa Aa (yC fun M Z hN hZ => Bu (r := A8) Eb F Aa Aa (CT W (Ao 0 Aa)) h7) Aa Aa fun a F => ?_
 refine Bo (R := [21]) F Aa Aa (yC fun M Z hN hZ => Ap (y := Value.agg #[.int .i64 x11.1, .int .i64 x11.2.1, .int .i64 x11.2.2.1, .int .i64 x11.2.2.2]) (j := 0) (i := AA (p3 + x3)) F Aa Aa (CO (hZ ((some 21), row v1 85 A8 x1) (.head _) Aa)) h7 Ek.to Ec Aa) (by kernel_rfl) Aa fun a F => ?_
 iterate 3 refine Bo (R := []) F Aa Aa (yC fun M Z hN hZ => Ad F Aa) Aa Aa fun a F => ?_
 refine Bo (R := []) F Aa Aa (yC fun M Z hN hZ => A3 F Aa Aa Aa) Aa Aa fun a F => ?_
 obtain ⟨x12, h8, H⟩ := Al H
 refine Bo (R := []) F Aa Aa (yC fun M Z hN hZ => Bu (r := A8) Eb F Aa Aa (CT W (Ao 0 Aa)) h8) Aa Aa fun a F => ?_
 refine Bo (R := [21]) F Aa Aa (yC fun M Z hN hZ => Ap (y := Value.agg #[.int .i64 x12.1, .int .i64 x12.2.1, .int .i64 x12.2.2.1, .int .i64 x12.2.2.2]) (j := 0) (i := AA (p3 + x2)) F Aa Aa (CO (hZ ((some 21), row v1 85 A8 x1) (.head _) Aa)) h8 Ek.to Ec Aa) (by kernel_rfl) Aa fun a F => ?_
 obtain ⟨x13, h9, H⟩ := Al H
 refine Bo (R := []) F Aa Aa (yC fun M Z hN hZ => Bu (r := A8) Eb F Aa Aa (CT W (Ao 0 Aa)) h9) Aa Aa fun a F => ?_
 refine Gc Aa ?_
 refine Bh (i := AA (p3 + x2)) (j := 0) (vs := [.int .i64 x11.1, .int .i64 x11.2.1, .int .i64 x11.2.2.1, .int .i64 x11.2.2.2]) (x' := x11) F W Aa Aa Aa (k := 0) Aa Aa h9 Ec Aa Aa Aa Aa (fun A cs _ => Ek.sto (by rfl) _ _ _) fun w W => ?_
 refine CE (N2 := []) (NZ2 := []) (N3 := []) (NZ3 := [(some 21, row v1 85 A8 x1)]) W Aa Aa AB (Bi (fun h => Ch (by kernel_rfl) h) AB) ?_
 obtain ⟨x14, h10, H⟩ := Al H
 refine Bo (R := []) F Aa Aa (yC fun M Z hN hZ => Bu (r := A8) Eb F Aa Aa (CT W (Ao 0 Aa)) h10) Aa Aa fun a F => ?_
 refine Gc Aa ?_
 refine Bh (i := AA (p3 + x3)) (j := 0) (vs := [.int .i64 x12.1, .int .i64 x12.2.1, .int .i64 x12.2.2.1, .int .i64 x12.2.2.2]) (x' := x12) F W Aa Aa Aa (k := 0) Aa Aa h10 Ec Aa Aa Aa Aa (fun A cs _ => Ek.sto (by rfl) _ _ _) fun w W => ?_
 refine CE (N2 := []) (NZ2 := []) (N3 := []) (NZ3 := [(some 21, row v1 85 A8 x1)]) W Aa Aa AB (Bi (fun h => Ch (by kernel_rfl) h) AB) ?_
 refine Gs (Ab (Ac ?_))
 refine ls F W Aa (Ad F Aa).q fun a w F W => ?_
 refine ls F W Aa (Af F Aa).q fun a w F W => ?_
 refine Ae (AH (Ab ?_))
 exact ⟨_, H, F.re ⟨rfl, Aa, Aa, Aa, Aa, trivial⟩, W⟩
theorem TQ : Has Try.prog 92 := ⟨fun args w => An Try.func92 rfl (by decide) args w⟩
noncomputable def BX (p1 : Int) (p2 : Int) : ((List (Int × Int × Int × Int)) × Int) → Option (((List (Int × Int × Int × Int)) × Int) ⊕ (List (Int × Int × Int × Int)))
  | (x2, x3) => (if 0 ≤ x3 then (Ca x2 x3 (AA (p2 - p1)) p1).bind fun x4 => some (.inl (x4, AA (x3 - 1))) else some (.inr x2))
noncomputable def BV (p1 : Int) : ((List (Int × Int × Int × Int)) × Int) → Option (((List (Int × Int × Int × Int)) × Int) ⊕ (List (Int × Int × Int × Int)))
  | (x5, x6) => (if 0 ≤ x6 then (ix x5 (AA (p1 + x6))).bind fun x7 => (ix x5 p1).bind fun x8 => (ix x5 p1).bind fun x9 => (ix (AQ x5 p1 x7) (AA (p1 + x6))).bind fun x10 => (Ca (AQ (AQ x5 p1 x7) (AA (p1 + x6)) x8) 0 x6 p1).bind fun x11 => some (.inl (x11, AA (x6 - 1))) else some (.inr x5))
noncomputable def Cb (p0 : List (Int × Int × Int × Int)) (p1 : Int) (p2 : Int) : Option (List (Int × Int × Int × Int)) := (AE (BX p1 p2) (p0, AA (Int.tdiv (AA ((AA (p2 - p1)) - 1)) 2))).bind fun x1 => AE (BV p1) (x1, AA ((AA (p2 - p1)) - 1))
theorem F1 (Y : Nat → Prop) (X : List Nat) (w0 : World) (v1 : Value) (p0 : List (Int × Int × Int × Int)) (p1 : Int) (p2 : Int) (r : (List (Int × Int × Int × Int))) (H : Cb p0 p1 p2 = some r) (hL : Stw ⟨Y, X, w0⟩ [] [row v1 85 A8 p0] w0) :
    Calls Try.prog 73 #[v1, .int .i64 p1, .int .i64 p2, .func (.func 37) #[] #[]] w0 fun e w' => ∃ x : Unit, e = .returned (.tuple #[]) ∧ Stw ⟨Y, X, w0⟩ [] [row v1 85 A8 r] w' := by
 refine enter Try.func73 Aa Try.ntmps73 Aa fun a F => ?_
 have W := hL
 unfold Cb at H
 refine Ah (Ac ?_)
 refine ls F W Aa (Ad F Aa).q fun a w F W => ?_
 refine ls F W Aa (Af F Aa).q fun a w F W => ?_
 refine Ae (Ab (Ah (Ac ?_)))
 refine ls F W Aa (Af F Aa).q fun a w F W => ?_
 refine Ae (Ab (Ah (Ac ?_)))
 iterate 2 refine ls F W Aa (Ad F Aa).q fun a w F W => ?_
 refine ls F W Aa (B5 F Aa Aa Aa).q fun a w F W => ?_
 refine ls F W Aa (Af F Aa).q fun a w F W => ?_
 refine Ae (Ab ?_)
 obtain ⟨o1, G1, K1⟩ := Al H
 refine AC (fun a w => ∃ x1 : List (Int × Int × Int × Int), some (x1) = some o1 ∧ Fr 60 [] [(0, v1), (3, .func (.func 37) #[] #[]), (8, .int .i64 p1), (9, .int .i64 0), (10, .int .i64 (AA (p2 - p1)))] a ∧ Stw ⟨Y, X, w0⟩ [] [row v1 85 A8 x1] w) ?_ ?_
 ·
  have H := G1
  clear G1 K1
  refine Ah (Ac ?_)
  refine ls F W Aa (Ad F Aa).q fun a w F W => ?_
  refine ls F W Aa (B5 F Aa Aa Aa).q fun a w F W => ?_
  refine ls F W Aa (JH F Aa Aa (by decide) Aa).q fun a w F W => ?_
  refine ls F W Aa (Af F Aa).q fun a w F W => ?_
  refine Ae (Ab (wp_block ?_))
  refine A1 H (fun s a w => Fr 60 [] [(0, v1), (3, .func (.func 37) #[] #[]), (8, .int .i64 p1), (9, .int .i64 0), (10, .int .i64 (AA (p2 - p1))), (11, .int .i64 s.2)] a ∧ Stw ⟨Y, X, w0⟩ [] [row v1 85 A8 s.1] w) ⟨F.re ⟨rfl, Aa, Aa, Aa, Aa, Aa, trivial⟩, W⟩ fun s o a w H L2 hR => ?_
  obtain ⟨x2, x3⟩ := s
  obtain ⟨F, W⟩ := hR
  have F : Fr 60 [] [(0, v1), (3, .func (.func 37) #[] #[]), (8, .int .i64 p1), (9, .int .i64 0), (10, .int .i64 (AA (p2 - p1))), (11, .int .i64 x3)] a := F
  have W : Stw ⟨Y, X, w0⟩ [] [row v1 85 A8 x2] w := W
  rw [BX] at H
  refine Ah (Ah (Ac ?_))
  refine ls F W Aa (Ad F Aa).q fun a w F W => ?_
  refine ls F W Aa (Dj F Aa Aa).q fun a w F W => ?_
  refine Ae (Ab ?_)
  refine Aw F Aa (fun hb => ?_) fun hb => ?_
  ·
   have H := AL (A6 hb) H
   rw [hb] at F
   clear hb
   refine wp_skip (Ab (Ah (wp_block (Ac ?_))))
   iterate 5 refine ls F W Aa (Ad F Aa).q fun a w F W => ?_
   obtain ⟨x4, h1, H⟩ := Al H
   refine Bp (Ml := []) (Zl := [row v1 85 A8 x2]) (M := []) (Z := []) (β := Unit) (rv := fun x => .tuple #[]) (MM := fun x => []) (ZZ := fun x => [row v1 85 A8 x4]) F W TQ Aa Aa (fun hL => Ea _ _ w (v1) x2 x3 (AA (p2 - p1)) p1 _ h1 hL) fun x a w F W => ?_
   have W : Stw ⟨Y, X, w0⟩ [] [row v1 85 A8 x4] w := W
   refine Ae (AH (Ab (Ac ?_)))
   refine ls F W Aa (Ad F Aa).q fun a w F W => ?_
   refine ls F W Aa (B5 F Aa Aa Aa).q fun a w F W => ?_
   refine ls F W Aa (Af F Aa).q fun a w F W => ?_
   refine Ae (Ab ?_)
   exact ⟨_, H, F.re ⟨rfl, Aa, Aa, Aa, Aa, Aa, trivial⟩, W⟩
  have H := AK (A7 hb) H
  rw [hb] at F
  clear hb
  refine wp_exit ?_
  iterate 2 refine A5 ?_
  refine AU (Ab ?_)
  have H := L2 _ H
  exact ⟨_, H, F.re ⟨rfl, Aa, Aa, Aa, Aa, trivial⟩, W⟩
 rintro a w ⟨x1, hj, F, W⟩
 have hj := AM hj
 subst hj
 have H := K1
 clear G1 K1
 refine Ah (Ac ?_)
 refine ls F W Aa (Ad F Aa).q fun a w F W => ?_
 refine ls F W Aa (B5 F Aa Aa Aa).q fun a w F W => ?_
 refine ls F W Aa (Af F Aa).q fun a w F W => ?_
 refine Ae (Ab (wp_block ?_))
 refine A1 H (fun s a w => Fr 60 [] [(0, v1), (3, .func (.func 37) #[] #[]), (8, .int .i64 p1), (9, .int .i64 0), (12, .int .i64 s.2)] a ∧ Stw ⟨Y, X, w0⟩ [] [row v1 85 A8 s.1] w) ⟨F.re ⟨rfl, Aa, Aa, Aa, Aa, trivial⟩, W⟩ fun s o a w H L3 hR => ?_
 obtain ⟨x5, x6⟩ := s
 obtain ⟨F, W⟩ := hR
 have F : Fr 60 [] [(0, v1), (3, .func (.func 37) #[] #[]), (8, .int .i64 p1), (9, .int .i64 0), (12, .int .i64 x6)] a := F
 have W : Stw ⟨Y, X, w0⟩ [] [row v1 85 A8 x5] w := W
 rw [BV] at H
 refine Ah (Ah (Ac ?_))
 refine ls F W Aa (Ad F Aa).q fun a w F W => ?_
 refine ls F W Aa (Dj F Aa Aa).q fun a w F W => ?_
 refine Ae (Ab ?_)
 refine Aw F Aa (fun hb => ?_) fun hb => ?_
 ·
  have H := AL (A6 hb) H
  rw [hb] at F
  clear hb
  refine wp_skip (Ab (Ah (wp_block (Ah ?_))))
  refine Ev [(true, 0), (true, 1), (true, 2), (true, 3), (true, 4), (true, 5), (true, 6), (true, 7), (true, 8), (true, 9), (true, 10), (true, 11), (true, 12), (true, 13), (true, 14), (true, 15), (true, 16), (false, 17), (true, 18), (false, 19)] (CN ⟨Y, X, w0⟩ [] [(some 17, row v1 85 A8 x5)]) (fun ch a d v w h => by cases d <;> exact h) MO (by kernel_rfl) W (fun w W => ⟨_, _, W, AB, (Bi (fun _ => (.head _)) AB)⟩) fun w W => ?_
  iterate 5 refine Bo (R := []) F Aa Aa (yC fun M Z hN hZ => Ad F Aa) Aa Aa fun a F => ?_
  refine Bo (R := []) F Aa Aa (yC fun M Z hN hZ => A3 F Aa Aa Aa) Aa Aa fun a F => ?_
  iterate 3 refine Bo (R := []) F Aa Aa (yC fun M Z hN hZ => Ad F Aa) Aa Aa fun a F => ?_
  refine Bo (R := []) F Aa Aa (yC fun M Z hN hZ => A3 F Aa Aa Aa) Aa Aa fun a F => ?_
  obtain ⟨x7, h2, H⟩ := Al H
  refine Bo (R := []) F Aa Aa (yC fun M Z hN hZ => Bu (r := A8) Eb F Aa Aa (CT W (Ao 0 Aa)) h2) Aa Aa fun a F => ?_
  refine Bo (R := [17]) F Aa Aa (yC fun M Z hN hZ => Ap (y := Value.agg #[.int .i64 x7.1, .int .i64 x7.2.1, .int .i64 x7.2.2.1, .int .i64 x7.2.2.2]) (j := 0) (i := AA (p1 + x6)) F Aa Aa (CO (hZ ((some 17), row v1 85 A8 x5) (.head _) Aa)) h2 Ek.to Ec Aa) (by kernel_rfl) Aa fun a F => ?_
  iterate 2 refine Bo (R := []) F Aa Aa (yC fun M Z hN hZ => Ad F Aa) Aa Aa fun a F => ?_
  obtain ⟨x8, h3, H⟩ := Al H
  refine Bo (R := []) F Aa Aa (yC fun M Z hN hZ => Bu (r := A8) Eb F Aa Aa (CT W (Ao 0 Aa)) h3) Aa Aa fun a F => ?_
  refine Bo (R := [17]) F Aa Aa (yC fun M Z hN hZ => Ap (y := Value.agg #[.int .i64 x8.1, .int .i64 x8.2.1, .int .i64 x8.2.2.1, .int .i64 x8.2.2.2]) (j := 0) (i := p1) F Aa Aa (CO (hZ ((some 17), row v1 85 A8 x5) (.head _) Aa)) h3 Ek.to Ec Aa) (by kernel_rfl) Aa fun a F => ?_
  obtain ⟨x9, h4, H⟩ := Al H
  refine Bo (R := []) F Aa Aa (yC fun M Z hN hZ => Bu (r := A8) Eb F Aa Aa (CT W (Ao 0 Aa)) h4) Aa Aa fun a F => ?_
  refine Gc Aa ?_
  refine Bh (i := p1) (j := 0) (vs := [.int .i64 x7.1, .int .i64 x7.2.1, .int .i64 x7.2.2.1, .int .i64 x7.2.2.2]) (x' := x7) F W Aa Aa Aa (k := 0) Aa Aa h4 Ec Aa Aa Aa Aa (fun A cs _ => Ek.sto (by rfl) _ _ _) fun w W => ?_
  refine CE (N2 := []) (NZ2 := []) (N3 := []) (NZ3 := [(some 17, row v1 85 A8 x5)]) W Aa Aa AB (Bi (fun h => Ch (by kernel_rfl) h) AB) ?_
  obtain ⟨x10, h5, H⟩ := Al H
  refine Bo (R := []) F Aa Aa (yC fun M Z hN hZ => Bu (r := A8) Eb F Aa Aa (CT W (Ao 0 Aa)) h5) Aa Aa fun a F => ?_
  refine Gc Aa ?_
  refine Bh (i := AA (p1 + x6)) (j := 0) (vs := [.int .i64 x8.1, .int .i64 x8.2.1, .int .i64 x8.2.2.1, .int .i64 x8.2.2.2]) (x' := x8) F W Aa Aa Aa (k := 0) Aa Aa h5 Ec Aa Aa Aa Aa (fun A cs _ => Ek.sto (by rfl) _ _ _) fun w W => ?_
  refine CE (N2 := []) (NZ2 := []) (N3 := []) (NZ3 := [(some 17, row v1 85 A8 x5)]) W Aa Aa AB (Bi (fun h => Ch (by kernel_rfl) h) AB) ?_
  refine Gs (Ab (Ac ?_))
  iterate 5 refine ls F W Aa (Ad F Aa).q fun a w F W => ?_
  obtain ⟨x11, h6, H⟩ := Al H
  refine Bp (Ml := []) (Zl := [row v1 85 A8 (AQ (AQ x5 p1 x7) (AA (p1 + x6)) x8)]) (M := []) (Z := []) (β := Unit) (rv := fun x => .tuple #[]) (MM := fun x => []) (ZZ := fun x => [row v1 85 A8 x11]) F W TQ Aa Aa (fun hL => Ea _ _ w (v1) (AQ (AQ x5 p1 x7) (AA (p1 + x6)) x8) 0 x6 p1 _ h6 hL) fun x a w F W => ?_
  have W : Stw ⟨Y, X, w0⟩ [] [row v1 85 A8 x11] w := W
  refine Ae (AH (Ab (Ac ?_)))
  refine ls F W Aa (Ad F Aa).q fun a w F W => ?_
  refine ls F W Aa (B5 F Aa Aa Aa).q fun a w F W => ?_
  refine ls F W Aa (Af F Aa).q fun a w F W => ?_
  refine Ae (Ab ?_)
  exact ⟨_, H, F.re ⟨rfl, Aa, Aa, Aa, Aa, trivial⟩, W⟩
 have H := AK (A7 hb) H
 rw [hb] at F
 clear hb
 refine wp_exit ?_
 iterate 2 refine A5 ?_
 refine AU ?_
 have H := L3 _ H
 have H := AM H
 subst H
 refine Ic (.inr Aa) F Aa ?_
 exact ⟨(), Aa, W⟩
theorem Vj : Has Try.prog 73 := ⟨fun args w => An Try.func73 rfl (by decide) args w⟩
noncomputable def B4 (p0 : List (Int × Int × Int × Int)) (p1 : Int) (p2 : Int) (p3 : Int) : Option (Int × Int × Int) := (ix p0 p2).bind fun x1 => (ix p0 p1).bind fun x2 => (B6 x1 x2).bind fun x3 => (if x3 < 0 then some (p2, p1, AA (p3 + 1)) else some (p1, p2, p3))
theorem Dh (Y : Nat → Prop) (X : List Nat) (w0 : World) (v1 : Value) (q_p3 : Nat) (p0 : List (Int × Int × Int × Int)) (p1 : Int) (p2 : Int) (p3 : Int) (r : Int × Int × Int) (H : B4 p0 p1 p2 p3 = some r) (h_v1 : Sl w0 (NX X) A8 v1 p0) (hL : Stw ⟨Y, X, w0⟩ [(q_p3, [.int .i64 p3])] [] w0) :
    Calls Try.prog 109 #[v1, .int .i64 p1, .int .i64 p2, .pointer (some ⟨q_p3, 0, none⟩), .func (.func 37) #[] #[]] w0 fun e w' => ∃ x : Unit, e = .returned (.tuple #[.int .i64 r.1, .int .i64 r.2.1]) ∧ Stw ⟨Y, X, w0⟩ [(q_p3, [.int .i64 r.2.2])] [] w' := by
 refine enter Try.func109 Aa Try.ntmps109 Aa fun a F => ?_
 have W := hL
 unfold B4 at H
 refine Ah (Ac ?_)
 iterate 2 refine ls F W Aa (Af F Aa).q fun a w F W => ?_
 refine Ae (Ab ?_)
 iterate 2 refine Ah ?_
 refine BB W MO (by kernel_rfl) ?_
 iterate 3 refine qs F Aa (Ad F Aa).q fun a F => ?_
 obtain ⟨x1, h1, H⟩ := Al H
 refine qs F Aa (Ay (r := A8) Eb F Aa Aa (Am h_v1) h1).q fun a F => ?_
 refine qs F Aa (Ap (y := Value.agg #[.int .i64 x1.1, .int .i64 x1.2.1, .int .i64 x1.2.2.1, .int .i64 x1.2.2.2]) (j := 0) (i := p2) F Aa Aa (Am h_v1) h1 Ek.to Ec Aa).q fun a F => ?_
 iterate 2 refine qs F Aa (Ad F Aa).q fun a F => ?_
 obtain ⟨x2, h2, H⟩ := Al H
 refine qs F Aa (Ay (r := A8) Eb F Aa Aa (Am h_v1) h2).q fun a F => ?_
 refine qs F Aa (Ap (y := Value.agg #[.int .i64 x2.1, .int .i64 x2.2.1, .int .i64 x2.2.2.1, .int .i64 x2.2.2.2]) (j := 0) (i := p1) F Aa Aa (Am h_v1) h2 Ek.to Ec Aa).q fun a F => ?_
 obtain ⟨x3, h3, H⟩ := Al H
 refine qs F Aa (EG (ws := [.agg #[.int .i64 x1.1, .int .i64 x1.2.1, .int .i64 x1.2.2.1, .int .i64 x1.2.2.2], .agg #[.int .i64 x2.1, .int .i64 x2.2.1, .int .i64 x2.2.2.1, .int .i64 x2.2.2.2]]) (v := Value.int .i64 x3) F O7 Aa (fun w W => Cp any w x1 x2 _ h3)) fun a F => ?_
 refine qs F Aa (Bk F Aa Aa).q fun a F => ?_
 refine AR fun w W => ?_
 refine Ab ?_
 refine Aw F Aa (fun hb => ?_) fun hb => ?_
 ·
  have H := AL (A6 hb) H
  rw [hb] at F
  clear hb
  refine Ah (Ac ?_)
  refine ls F W Aa (Ad F Aa).q fun a w F W => ?_
  refine ls F W Aa (Dl F Aa).q fun a w F W => ?_
  refine ls F W Aa (As (v := Value.int .i64 p3) 0 F Aa Aa T3 Aa).q fun a w F W => ?_
  refine ls F W Aa (A3 F Aa Aa Aa).q fun a w F W => ?_
  refine ls F W Aa (Dl F Aa).q fun a w F W => ?_
  refine Br (vs := [.int .i64 (AA (p3 + 1))]) (M' := [(q_p3, [.int .i64 (AA (p3 + 1))])]) 0 F W Aa Aa Aa T3 Aa Aa Aa Aa Aa fun w W => ?_
  refine Ae (Ab (Ah (Ac ?_)))
  iterate 2 refine ls F W Aa (Ad F Aa).q fun a w F W => ?_
  iterate 2 refine ls F W Aa (Af F Aa).q fun a w F W => ?_
  refine Ae (Ab (wp_ret (AG ?_)))
  have H := AM H
  subst H
  refine CY (.inl Aa) F W Aa (Av F Aa) (Av F Aa) ?_
  exact ⟨(), Aa, W⟩
 have H := AK (A7 hb) H
 rw [hb] at F
 clear hb
 refine wp_skip (Ab (Ah (Ac ?_)))
 iterate 2 refine ls F W Aa (Ad F Aa).q fun a w F W => ?_
 iterate 2 refine ls F W Aa (Af F Aa).q fun a w F W => ?_
 refine Ae (Ab (wp_ret ?_))
 have H := AM H
 subst H
 refine CY (.inl Aa) F W Aa (Av F Aa) (Av F Aa) ?_
 exact ⟨(), Aa, W⟩
theorem RH : Has Try.prog 109 := ⟨fun args w => An Try.func109 rfl (by decide) args w⟩
noncomputable def B1 (p0 : List (Int × Int × Int × Int)) (p1 : Int) (p2 : Int) (p3 : Int) (p4 : Int) : Option (Int × Int) := (B4 p0 p1 p2 p4).bind fun x1 => (B4 p0 x1.2.1 p3 x1.2.2).bind fun x2 => (B4 p0 x1.1 x2.1 x2.2.2).bind fun x3 => some (x3.2.1, x3.2.2)
theorem Ep (Y : Nat → Prop) (X : List Nat) (w0 : World) (v1 : Value) (q_p4 : Nat) (p0 : List (Int × Int × Int × Int)) (p1 : Int) (p2 : Int) (p3 : Int) (p4 : Int) (r : Int × Int) (H : B1 p0 p1 p2 p3 p4 = some r) (h_v1 : Sl w0 (NX X) A8 v1 p0) (hL : Stw ⟨Y, X, w0⟩ [(q_p4, [.int .i64 p4])] [] w0) :
    Calls Try.prog 96 #[v1, .int .i64 p1, .int .i64 p2, .int .i64 p3, .pointer (some ⟨q_p4, 0, none⟩), .func (.func 37) #[] #[]] w0 fun e w' => ∃ x : Unit, e = .returned (.int .i64 r.1) ∧ Stw ⟨Y, X, w0⟩ [(q_p4, [.int .i64 r.2])] [] w' := by
 refine enter Try.func96 Aa Try.ntmps96 Aa fun a F => ?_
 have W := hL
 unfold B1 at H
 refine Ah (Ac ?_)
 refine ls F W Aa (Af F Aa).q fun a w F W => ?_
 refine Ae (Ab (Ah (Ac ?_)))
 iterate 5 refine ls F W Aa (Ad F Aa).q fun a w F W => ?_
 obtain ⟨x1, h1, H⟩ := Al H
 refine Bp (Ml := [(q_p4, [.int .i64 p4])]) (Zl := []) (M := []) (Z := []) (β := Unit) (rv := fun x => .tuple #[.int .i64 x1.1, .int .i64 x1.2.1]) (MM := fun x => [(q_p4, [.int .i64 x1.2.2])]) (ZZ := fun x => []) F W RH Aa Aa (fun hL => Dh _ _ w (v1) q_p4 p0 p1 p2 p4 _ h1 (W.roX h_v1 (fun g hg => EH hg)) hL) fun x a w F W => ?_
 have W : Stw ⟨Y, X, w0⟩ [(q_p4, [.int .i64 x1.2.2])] [] w := W
 refine ls F W Aa (Ad F Aa).q fun a w F W => ?_
 refine ls F W Aa (A0 (v := Value.int .i64 x1.1) F Aa Aa).q fun a w F W => ?_
 refine ls F W Aa (A0 (v := Value.int .i64 x1.2.1) F Aa Aa).q fun a w F W => ?_
 iterate 2 refine ls F W Aa (Af F Aa).q fun a w F W => ?_
 refine Ae (Ab (Ah (Ac ?_)))
 iterate 5 refine ls F W Aa (Ad F Aa).q fun a w F W => ?_
 obtain ⟨x2, h2, H⟩ := Al H
 refine Bp (Ml := [(q_p4, [.int .i64 x1.2.2])]) (Zl := []) (M := []) (Z := []) (β := Unit) (rv := fun x => .tuple #[.int .i64 x2.1, .int .i64 x2.2.1]) (MM := fun x => [(q_p4, [.int .i64 x2.2.2])]) (ZZ := fun x => []) F W RH Aa Aa (fun hL => Dh _ _ w (v1) q_p4 p0 x1.2.1 p3 x1.2.2 _ h2 (W.roX h_v1 (fun g hg => EH hg)) hL) fun x a w F W => ?_
 have W : Stw ⟨Y, X, w0⟩ [(q_p4, [.int .i64 x2.2.2])] [] w := W
 refine ls F W Aa (Ad F Aa).q fun a w F W => ?_
 refine ls F W Aa (A0 (v := Value.int .i64 x2.1) F Aa Aa).q fun a w F W => ?_
 refine ls F W Aa (A0 (v := Value.int .i64 x2.2.1) F Aa Aa).q fun a w F W => ?_
 iterate 2 refine ls F W Aa (Af F Aa).q fun a w F W => ?_
 refine Ae (Ab (Ah (Ac ?_)))
 iterate 5 refine ls F W Aa (Ad F Aa).q fun a w F W => ?_
 obtain ⟨x3, h3, H⟩ := Al H
 refine Bp (Ml := [(q_p4, [.int .i64 x2.2.2])]) (Zl := []) (M := []) (Z := []) (β := Unit) (rv := fun x => .tuple #[.int .i64 x3.1, .int .i64 x3.2.1]) (MM := fun x => [(q_p4, [.int .i64 x3.2.2])]) (ZZ := fun x => []) F W RH Aa Aa (fun hL => Dh _ _ w (v1) q_p4 p0 x1.1 x2.1 x2.2.2 _ h3 (W.roX h_v1 (fun g hg => EH hg)) hL) fun x a w F W => ?_
 have W : Stw ⟨Y, X, w0⟩ [(q_p4, [.int .i64 x3.2.2])] [] w := W
 refine ls F W Aa (Ad F Aa).q fun a w F W => ?_
 refine ls F W Aa (A0 (v := Value.int .i64 x3.1) F Aa Aa).q fun a w F W => ?_
 refine ls F W Aa (A0 (v := Value.int .i64 x3.2.1) F Aa Aa).q fun a w F W => ?_
 iterate 2 refine ls F W Aa (Af F Aa).q fun a w F W => ?_
 refine Ae (Ab (Ah (Ac ?_)))
 refine ls F W Aa (Ad F Aa).q fun a w F W => ?_
 refine ls F W Aa (Af F Aa).q fun a w F W => ?_
 refine Ae (Ab (wp_ret ?_))
 have H := AM H
 subst H
 refine Bl (.inl Aa) F W Aa (Av F Aa) ?_
 exact ⟨(), Aa, W⟩
theorem TH : Has Try.prog 96 := ⟨fun args w => An Try.func96 rfl (by decide) args w⟩
noncomputable def Bj (p0 : List (Int × Int × Int × Int)) (p1 : Int) (p2 : Int) : Option (Int × Int) := (B1 p0 (AA (p1 - 1)) p1 (AA (p1 + 1)) p2).bind fun x1 => some (x1.1, x1.2)
theorem CI (Y : Nat → Prop) (X : List Nat) (w0 : World) (v1 : Value) (q_p2 : Nat) (p0 : List (Int × Int × Int × Int)) (p1 : Int) (p2 : Int) (r : Int × Int) (H : Bj p0 p1 p2 = some r) (h_v1 : Sl w0 (NX X) A8 v1 p0) (hL : Stw ⟨Y, X, w0⟩ [(q_p2, [.int .i64 p2])] [] w0) :
    Calls Try.prog 95 #[v1, .int .i64 p1, .pointer (some ⟨q_p2, 0, none⟩), .func (.func 37) #[] #[]] w0 fun e w' => ∃ x : Unit, e = .returned (.int .i64 r.1) ∧ Stw ⟨Y, X, w0⟩ [(q_p2, [.int .i64 r.2])] [] w' := by
 refine enter Try.func95 Aa Try.ntmps95 Aa fun a F => ?_
 have W := hL
 unfold Bj at H
 refine Ah (Ac ?_)
 refine ls F W Aa (Af F Aa).q fun a w F W => ?_
 refine Ae (Ab (Ah (Ac ?_)))
 iterate 2 refine ls F W Aa (Ad F Aa).q fun a w F W => ?_
 refine ls F W Aa (B5 F Aa Aa Aa).q fun a w F W => ?_
 iterate 2 refine ls F W Aa (Ad F Aa).q fun a w F W => ?_
 refine ls F W Aa (A3 F Aa Aa Aa).q fun a w F W => ?_
 iterate 2 refine ls F W Aa (Ad F Aa).q fun a w F W => ?_
 obtain ⟨x1, h1, H⟩ := Al H
 refine Bp (Ml := [(q_p2, [.int .i64 p2])]) (Zl := []) (M := []) (Z := []) (β := Unit) (rv := fun x => .int .i64 x1.1) (MM := fun x => [(q_p2, [.int .i64 x1.2])]) (ZZ := fun x => []) F W TH Aa Aa (fun hL => Ep _ _ w (v1) q_p2 p0 (AA (p1 - 1)) p1 (AA (p1 + 1)) p2 _ h1 (W.roX h_v1 (fun g hg => EH hg)) hL) fun x a w F W => ?_
 have W : Stw ⟨Y, X, w0⟩ [(q_p2, [.int .i64 x1.2])] [] w := W
 refine ls F W Aa (Af F Aa).q fun a w F W => ?_
 refine Ae (Ab (wp_ret ?_))
 have H := AM H
 subst H
 refine Bl (.inl Aa) F W Aa (Av F Aa) ?_
 exact ⟨(), Aa, W⟩
theorem S1 : Has Try.prog 95 := ⟨fun args w => An Try.func95 rfl (by decide) args w⟩
noncomputable def BW (p0 : List (Int × Int × Int × Int)) (p1 : Int) (p2 : Int) : Option (Int × Int) := (if 8 ≤ (AA (p2 - p1)) then (if 50 ≤ (AA (p2 - p1)) then (Bj p0 (AA (p1 + (AA ((AA (Int.tdiv (AA (p2 - p1)) 4)) * 1)))) 0).bind fun x7 => (Bj p0 (AA (p1 + (AA ((AA (Int.tdiv (AA (p2 - p1)) 4)) * 2)))) x7.2).bind fun x8 => (Bj p0 (AA (p1 + (AA ((AA (Int.tdiv (AA (p2 - p1)) 4)) * 3)))) x8.2).bind fun x9 => some (x7.1, x8.1, x9.1, x9.2) else some (AA (p1 + (AA ((AA (Int.tdiv (AA (p2 - p1)) 4)) * 1))), AA (p1 + (AA ((AA (Int.tdiv (AA (p2 - p1)) 4)) * 2))), AA (p1 + (AA ((AA (Int.tdiv (AA (p2 - p1)) 4)) * 3))), 0)).bind fun (x3, x4, x5, x6) => (B1 p0 x3 x4 x5 x6).bind fun x10 => some (x10.1, x10.2) else some (AA (p1 + (AA ((AA (Int.tdiv (AA (p2 - p1)) 4)) * 2))), 0)).bind fun (x1, x2) => (if x2 = 0 then some (x1, 1) else (if x2 = 12 then some (x1, 2) else some (x1, 0)))
theorem Fu (Y : Nat → Prop) (w0 : World) (v1 : Value) (p0 : List (Int × Int × Int × Int)) (p1 : Int) (p2 : Int) (r : Int × Int) (H : BW p0 p1 p2 = some r) (h_v1 : Sl w0 (NX []) A8 v1 p0) :
    Calls Try.prog 75 #[v1, .int .i64 p1, .int .i64 p2, .func (.func 37) #[] #[]] w0 fun e w' => e = .returned (.tuple #[.int .i64 r.1, .int .i64 r.2]) ∧ Below w0.heap.size w0 w' := by
 refine enter Try.func75 Aa Try.ntmps75 Aa fun a F => ?_
 have W := Stw.start Y w0
 unfold BW at H
 refine Ah (Ac ?_)
 iterate 2 refine ls F W Aa (Af F Aa).q fun a w F W => ?_
 refine Ae (Ab (Ah (Ac ?_)))
 iterate 2 refine ls F W Aa (Ad F Aa).q fun a w F W => ?_
 refine ls F W Aa (B5 F Aa Aa Aa).q fun a w F W => ?_
 refine ls F W Aa (Af F Aa).q fun a w F W => ?_
 refine Ae (Ab (Ah (Ac ?_)))
 refine Cn (cs := [.int .i64 0]) F W Aa Z3 Aa fun b1 a w F W => ?_
 refine Ae (Ab (Ah (Ac ?_)))
 iterate 2 refine ls F W Aa (Ad F Aa).q fun a w F W => ?_
 refine ls F W Aa (JH F Aa Aa (by decide) Aa).q fun a w F W => ?_
 refine ls F W Aa (I5 F Aa Aa Aa).q fun a w F W => ?_
 refine ls F W Aa (A3 F Aa Aa Aa).q fun a w F W => ?_
 refine ls F W Aa (Af F Aa).q fun a w F W => ?_
 refine Ae (Ab (Ah (Ac ?_)))
 iterate 2 refine ls F W Aa (Ad F Aa).q fun a w F W => ?_
 refine ls F W Aa (JH F Aa Aa (by decide) Aa).q fun a w F W => ?_
 refine ls F W Aa (I5 F Aa Aa Aa).q fun a w F W => ?_
 refine ls F W Aa (A3 F Aa Aa Aa).q fun a w F W => ?_
 refine ls F W Aa (Af F Aa).q fun a w F W => ?_
 refine Ae (Ab (Ah (Ac ?_)))
 iterate 2 refine ls F W Aa (Ad F Aa).q fun a w F W => ?_
 refine ls F W Aa (JH F Aa Aa (by decide) Aa).q fun a w F W => ?_
 refine ls F W Aa (I5 F Aa Aa Aa).q fun a w F W => ?_
 refine ls F W Aa (A3 F Aa Aa Aa).q fun a w F W => ?_
 refine ls F W Aa (Af F Aa).q fun a w F W => ?_
 refine Ae (Ab ?_)
 obtain ⟨o1, G1, K1⟩ := Al H
 refine AC (fun a w => ∃ x1 : Int, ∃ x2 : Int, some ((x1, x2)) = some o1 ∧ Fr 63 [] [(8, .int .i64 0), (9, .int .i64 0), (11, .pointer (some ⟨b1, 0, none⟩)), (13, .int .i64 x1)] a ∧ Stw ⟨Y, [], w0⟩ [(b1, [.int .i64 x2])] [] w) ?_ ?_
 ·
  have H := G1
  clear G1 K1
  refine Ah (Ac ?_)
  refine ls F W Aa (Ad F Aa).q fun a w F W => ?_
  refine ls F W Aa (Dj F Aa Aa).q fun a w F W => ?_
  refine Ae (Ab ?_)
  refine Aw F Aa (fun hb => ?_) fun hb => ?_
  ·
   have H := AL (A6 hb) H
   rw [hb] at F
   clear hb
   obtain ⟨o2, G2, K2⟩ := Al H
   refine AC (fun a w => ∃ x3 : Int, ∃ x4 : Int, ∃ x5 : Int, ∃ x6 : Int, some ((x3, x4, x5, x6)) = some o2 ∧ Fr 63 [] [(0, v1), (3, .func (.func 37) #[] #[]), (8, .int .i64 0), (9, .int .i64 0), (11, .pointer (some ⟨b1, 0, none⟩)), (12, .int .i64 x3), (13, .int .i64 x4), (14, .int .i64 x5)] a ∧ Stw ⟨Y, [], w0⟩ [(b1, [.int .i64 x6])] [] w) ?_ ?_
   ·
    have H := G2
    clear G2 K2
    refine Ah (Ac ?_)
    refine ls F W Aa (Ad F Aa).q fun a w F W => ?_
    refine ls F W Aa (Dj F Aa Aa).q fun a w F W => ?_
    refine Ae (Ab ?_)
    refine Aw F Aa (fun hb => ?_) fun hb => ?_
    ·
     have H := AL (A6 hb) H
     rw [hb] at F
     clear hb
     refine Ah (Ac ?_)
     iterate 3 refine ls F W Aa (Ad F Aa).q fun a w F W => ?_
     obtain ⟨x7, h1, H⟩ := Al H
     refine Bp (Ml := [(b1, [.int .i64 0])]) (Zl := []) (M := []) (Z := []) (β := Unit) (rv := fun x => .int .i64 x7.1) (MM := fun x => [(b1, [.int .i64 x7.2])]) (ZZ := fun x => []) F W S1 Aa Aa (fun hL => CI _ _ w (v1) b1 p0 (AA (p1 + (AA ((AA (Int.tdiv (AA (p2 - p1)) 4)) * 1)))) 0 _ h1 (W.roX h_v1 (fun g hg => EH hg)) hL) fun x a w F W => ?_
     have W : Stw ⟨Y, [], w0⟩ [(b1, [.int .i64 x7.2])] [] w := W
     refine ls F W Aa (Af F Aa).q fun a w F W => ?_
     refine Ae (Ab (Ah (Ac ?_)))
     iterate 3 refine ls F W Aa (Ad F Aa).q fun a w F W => ?_
     obtain ⟨x8, h2, H⟩ := Al H
     refine Bp (Ml := [(b1, [.int .i64 x7.2])]) (Zl := []) (M := []) (Z := []) (β := Unit) (rv := fun x => .int .i64 x8.1) (MM := fun x => [(b1, [.int .i64 x8.2])]) (ZZ := fun x => []) F W S1 Aa Aa (fun hL => CI _ _ w (v1) b1 p0 (AA (p1 + (AA ((AA (Int.tdiv (AA (p2 - p1)) 4)) * 2)))) x7.2 _ h2 (W.roX h_v1 (fun g hg => EH hg)) hL) fun x a w F W => ?_
     have W : Stw ⟨Y, [], w0⟩ [(b1, [.int .i64 x8.2])] [] w := W
     refine ls F W Aa (Af F Aa).q fun a w F W => ?_
     refine Ae (Ab (Ac ?_))
     iterate 3 refine ls F W Aa (Ad F Aa).q fun a w F W => ?_
     obtain ⟨x9, h3, H⟩ := Al H
     refine Bp (Ml := [(b1, [.int .i64 x8.2])]) (Zl := []) (M := []) (Z := []) (β := Unit) (rv := fun x => .int .i64 x9.1) (MM := fun x => [(b1, [.int .i64 x9.2])]) (ZZ := fun x => []) F W S1 Aa Aa (fun hL => CI _ _ w (v1) b1 p0 (AA (p1 + (AA ((AA (Int.tdiv (AA (p2 - p1)) 4)) * 3)))) x8.2 _ h3 (W.roX h_v1 (fun g hg => EH hg)) hL) fun x a w F W => ?_
     have W : Stw ⟨Y, [], w0⟩ [(b1, [.int .i64 x9.2])] [] w := W
     refine ls F W Aa (Af F Aa).q fun a w F W => ?_
     refine Ae (Ab ?_)
     exact ⟨_, _, _, _, H, F.re ⟨rfl, Aa, Aa, Aa, Aa, Aa, Aa, Aa, trivial⟩, W⟩
    have H := AK (A7 hb) H
    rw [hb] at F
    clear hb
    refine wp_skip (Ab ?_)
    exact ⟨_, _, _, _, H, F.re ⟨rfl, Aa, Aa, Aa, Aa, Aa, Aa, Aa, trivial⟩, W⟩
   rintro a w ⟨x3, x4, x5, x6, hj, F, W⟩
   have hj := AM hj
   subst hj
   have H := K2
   clear G2 K2
   refine Ac ?_
   iterate 5 refine ls F W Aa (Ad F Aa).q fun a w F W => ?_
   obtain ⟨x10, h4, H⟩ := Al H
   refine Bp (Ml := [(b1, [.int .i64 x6])]) (Zl := []) (M := []) (Z := []) (β := Unit) (rv := fun x => .int .i64 x10.1) (MM := fun x => [(b1, [.int .i64 x10.2])]) (ZZ := fun x => []) F W TH Aa Aa (fun hL => Ep _ _ w (v1) b1 p0 x3 x4 x5 x6 _ h4 (W.roX h_v1 (fun g hg => EH hg)) hL) fun x a w F W => ?_
   have W : Stw ⟨Y, [], w0⟩ [(b1, [.int .i64 x10.2])] [] w := W
   refine ls F W Aa (Af F Aa).q fun a w F W => ?_
   refine Ae (Ab ?_)
   exact ⟨_, _, H, F.re ⟨rfl, Aa, Aa, Aa, trivial⟩, W⟩
  have H := AK (A7 hb) H
  rw [hb] at F
  clear hb
  refine wp_skip (Ab ?_)
  exact ⟨_, _, H, F.re ⟨rfl, Aa, Aa, Aa, trivial⟩, W⟩
 rintro a w ⟨x1, x2, hj, F, W⟩
 have hj := AM hj
 subst hj
 have H := K1
 clear G1 K1
 refine Ah (Ac ?_)
 refine ls F W Aa (As (v := Value.int .i64 x2) 0 F Aa Aa T3 Aa).q fun a w F W => ?_
 refine Ae (Ab (wp_block (Ah (Ac ?_))))
 refine ls F W Aa (Cy F Aa Aa).q fun a w F W => ?_
 refine ls F W Aa (Af F Aa).q fun a w F W => ?_
 refine Ae (Ab ?_)
 refine Aw F Aa (fun hb => ?_) fun hb => ?_
 ·
  have H := AL (A6 hb) H
  rw [hb] at F
  clear hb
  refine Ah (Ac ?_)
  refine ls F W Aa (Ad F Aa).q fun a w F W => ?_
  iterate 2 refine ls F W Aa (Af F Aa).q fun a w F W => ?_
  refine Ae (Ab (wp_ret (AO ?_)))
  have H := AM H
  subst H
  refine CY (.inl Aa) F W Aa (Av F Aa) (Av F Aa) ?_
  exact ⟨rfl, W.done⟩
 have H := AK (A7 hb) H
 rw [hb] at F
 clear hb
 refine Ah (Ac ?_)
 refine ls F W Aa (Cy F Aa Aa).q fun a w F W => ?_
 refine ls F W Aa (Af F Aa).q fun a w F W => ?_
 refine Ae (Ab ?_)
 refine Aw F Aa (fun hb => ?_) fun hb => ?_
 ·
  have H := AL (A6 hb) H
  rw [hb] at F
  clear hb
  refine Ah (Ac ?_)
  refine ls F W Aa (Ad F Aa).q fun a w F W => ?_
  iterate 2 refine ls F W Aa (Af F Aa).q fun a w F W => ?_
  refine Ae (Ab (wp_ret (AO ?_)))
  have H := AM H
  subst H
  refine CY (.inl Aa) F W Aa (Av F Aa) (Av F Aa) ?_
  exact ⟨rfl, W.done⟩
 have H := AK (A7 hb) H
 rw [hb] at F
 clear hb
 refine Ah (Ac ?_)
 refine ls F W Aa (Ad F Aa).q fun a w F W => ?_
 iterate 2 refine ls F W Aa (Af F Aa).q fun a w F W => ?_
 refine Ae (Ab (wp_ret (AO ?_)))
 have H := AM H
 subst H
 refine CY (.inl Aa) F W Aa (Av F Aa) (Av F Aa) ?_
 exact ⟨rfl, W.done⟩
end Go.Proofs.Ytjcaadbafjgefaa
