/- The functions of layer 23, HZ. Conditions: none. -/
import Derived.Test.YthiejmoddfenlaahA0
namespace Go.Proofs.Ythiejmoddfenlaa
open Go Go.RowKit
set_option linter.unusedVariables false
set_option linter.unusedSimpArgs false
set_option maxRecDepth 20000
theorem TO : Has Try.prog 50 := ⟨fun args w => Al Try.func50 rfl (by decide) args w⟩
noncomputable def DL (p0 : Int × (List (Int × Int × Int × Int × Int × Int)) × (List (Int × Int))) (p1 : List (List Int)) (p3 : Int) : (Int × List Int) → Option ((Int × List Int) ⊕ ((List Int) ⊕ (List Int × Int)))
  | (x2, x3) => (ix p1 x2).bind fun x4 => (ix x4 p3).bind fun x5 => (E7 p0 x2 x5).bind fun x6 => (if x6 ≠ p3 then (Gk p0 p1 x2 p3).bind fun x7 => (if (!x7.2) = true then some (.inr (.inr (([] : List Int), 13))) else (Dm x3 x7.1).bind fun x8 => (if x8 = true then some (.inr (.inr (([] : List Int), 12))) else (Ld x3 ([x7.1] : List Int)).bind fun x9 => some (.inl (x7.1, x9)))) else some (.inr (.inl x3)))
noncomputable def FL (p0 : Int × (List (Int × Int × Int × Int × Int × Int)) × (List (Int × Int))) (p1 : List (List Int)) (p2 : Int) (p3 : Int) : Option (List Int × Int) := FB (AG (DL p0 p1 p3) (p2, ([p2] : List Int))) fun x1 => some (x1, 0)
theorem J3 (Y : Nat → Prop) (w0 : World) (v1 : Value) (v2 : Value) (v3 : Value) (p0 : Int × (List (Int × Int × Int × Int × Int × Int)) × (List (Int × Int))) (p1 : List (List Int)) (p2 : Int) (p3 : Int) (r : List Int × Int) (H : FL p0 p1 p2 p3 = some r) (h_v1 : Sl w0 (NX []) Hu v1 p0.2.1) (h_v2 : Sl w0 (NX []) Gz v2 p0.2.2) (h_v3 : Sl w0 (NX []) (Rp.slice (Rp.int .i64)) v3 p1) :
    Calls Try.prog 30 #[.agg #[.int .i64 p0.1, v1, v2], v3, .int .i64 p2, .int .i64 p3] w0 fun e w' => ∃ x : Value, e = .returned (.tuple #[x, .int .i64 r.2]) ∧ Stw ⟨Y, [], w0⟩ [] [row (x) 3 (Rp.int .i64) r.1] w' := by
 refine enter Try.func30 Aa Try.ntmps30 Aa fun a F => ?_
 have W := Stw.start Y w0
 obtain ⟨v4, h1, h_v3⟩ := h_v3.ex Do
 unfold FL at H
 refine Ah (Ac ?_)
 refine E5 (cs := [.int .i64 p0.1, v1, v2]) F W Aa Aa Aa fun b1 a w F W => ?_
 iterate 2 refine ls F W Aa (Ag F Aa).q fun a w F W => ?_
 refine Ae (Ab (Ah (Ac ?_)))
 refine ls F W Aa (Ad F Aa).q fun a w F W => ?_
 refine Fm (z := Value.int .i64 0) (cs := [.int .i64 p2]) (Rp.int .i64) ([p2] : List Int) F W Aa GD Z3 Aa Aa Aa Aa Aa Aa (Fl.int.repL _ _ ([p2] : List Int)) fun v5 a w F W => ?_
 refine ls F W Aa (Ag F Aa).q fun a w F W => ?_
 refine Ae (Ab ?_)
 obtain ⟨o1, G1, K1, L1⟩ := Jx H
 refine AM (fun a w => ∃ x1 : List Int, ∃ v6 : Value, some (Sum.inl x1) = some o1 ∧ Fr 46 [] [(8, .slice none 0 0), (9, .int .i64 0), (10, v6)] a ∧ Stw ⟨Y, [], w0⟩ [(b1, [.int .i64 p0.1, v1, v2])] [row v6 3 (Rp.int .i64) x1] w) ?_ ?_
 ·
  have H := G1
  clear G1 K1
  refine As ?_
  refine Bb H (fun s a w => ∃ v7 : Value, Fr 46 [] [(1, v3), (2, .int .i64 s.1), (3, .int .i64 p3), (4, .pointer (some ⟨b1, 0, none⟩)), (8, .slice none 0 0), (9, .int .i64 0), (10, v7)] a ∧ Stw ⟨Y, [], w0⟩ [(b1, [.int .i64 p0.1, v1, v2])] [row v7 3 (Rp.int .i64) s.2] w) ⟨(v5), F.re ⟨rfl, Aa, Aa, Aa, Aa, Aa, Aa, trivial⟩, W⟩ fun s o a w H L2 hR => ?_
  obtain ⟨x2, x3⟩ := s
  obtain ⟨v7, F, W⟩ := hR
  have F : Fr 46 [] [(1, v3), (2, .int .i64 x2), (3, .int .i64 p3), (4, .pointer (some ⟨b1, 0, none⟩)), (8, .slice none 0 0), (9, .int .i64 0), (10, v7)] a := F
  have W : Stw ⟨Y, [], w0⟩ [(b1, [.int .i64 p0.1, v1, v2])] [row v7 3 (Rp.int .i64) x3] w := W
  rw [DL] at H
  iterate 2 refine Ah ?_
  refine BV W MO (by kernel_rfl) ?_
  refine qs F Aa (Aw (v := Value.agg #[.int .i64 p0.1, v1, v2]) 0 F Aa Aa JE Aa).q fun a F => ?_
  iterate 3 refine qs F Aa (Ad F Aa).q fun a F => ?_
  obtain ⟨x4, h2, H⟩ := Ak H
  obtain ⟨v8, h3, h4⟩ := DQ h1 h2
  have h5 : EN v8 = [(v8.1)] := congrArg (fun q : List Int => ([(v8.1)] : List Value)) h4
  refine qs F Aa (Ax (r := (Rp.vsl (Rp.int .i64))) Lm F Aa Aa (Am h_v3) h3).q fun a F => ?_
  refine qs F Aa (Ao (y := (v8.1)) (j := 0) (i := x2) (enc := EN) F Aa Aa (Am h_v3) h3 Im JO (by rw [h5]; rfl)).q fun a F => ?_
  refine qs F Aa (Ad F Aa).q fun a F => ?_
  obtain ⟨x5, h6, H⟩ := Ak H
  refine qs F Aa (Ax (r := (Rp.int .i64)) GD F Aa Aa (Du (Am h_v3) h3 EK.here (congrArg (fun q : List Int => q) h4)) h6).q fun a F => ?_
  refine qs F Aa (Ao (y := Value.int .i64 x5) (j := 0) (i := p3) F Aa Aa (Du (Am h_v3) h3 EK.here (congrArg (fun q : List Int => q) h4)) h6 Fl.int.to T3 Aa).q fun a F => ?_
  obtain ⟨x6, h7, H⟩ := Ak H
  refine qs F Aa (BX (v := Value.int .i64 x6) F Ut Aa (fun w W => Mm any w (v1) (v2) p0 x2 x5 _ h7 (((Am h_v1) : D4 _ _ _ _ _ _) w W).nx (((Am h_v2) : D4 _ _ _ _ _ _) w W).nx)) fun a F => ?_
  refine qs F Aa (Ad F Aa).q fun a F => ?_
  refine qs F Aa (HL F Aa Aa).q fun a F => ?_
  refine AY fun w W => ?_
  refine Ab ?_
  refine AA F Aa (fun hb => ?_) fun hb => ?_
  ·
   have H := AS (BD hb) H
   rw [hb] at F
   clear hb
   refine Av (Ab (As (Ah (Ac ?_))))
   refine ls F W Aa (Aw (v := Value.agg #[.int .i64 p0.1, v1, v2]) 0 F Aa Aa JE Aa).q fun a w F W => ?_
   iterate 3 refine ls F W Aa (Ad F Aa).q fun a w F W => ?_
   obtain ⟨x7, h8, H⟩ := Ak H
   refine ls F W Aa (BX (v := Value.tuple #[.int .i64 x7.1, .bool x7.2]) F TV Aa (fun w W => Nc any w (v1) (v2) (v3) p0 p1 x2 p3 _ h8 (((Am h_v1) : D4 _ _ _ _ _ _) w W).nx (((Am h_v2) : D4 _ _ _ _ _ _) w W).nx (((B8 Do h1 (Am h_v3)) : D4 _ _ _ _ _ _) w W).nx)) fun a w F W => ?_
   refine ls F W Aa (Ad F Aa).q fun a w F W => ?_
   refine ls F W Aa (Bi (v := Value.int .i64 x7.1) F Aa Aa).q fun a w F W => ?_
   refine ls F W Aa (Bi (v := Value.bool x7.2) F Aa Aa).q fun a w F W => ?_
   iterate 2 refine ls F W Aa (Ag F Aa).q fun a w F W => ?_
   refine Ae (Ab (Ah (Ah (Ac ?_))))
   refine ls F W Aa (Ad F Aa).q fun a w F W => ?_
   refine ls F W Aa (Eb F Aa).q fun a w F W => ?_
   refine Ae (Ab ?_)
   refine AA F Aa (fun hb => ?_) fun hb => ?_
   ·
    have H := AS hb H
    rw [hb] at F
    clear hb
    refine Ah (Ac ?_)
    iterate 2 refine ls F W Aa (Ag F Aa).q fun a w F W => ?_
    refine Ae (Ab (AF (AH (AQ (AH (AQ (AH ?_)))))))
    have H := L2 _ H
    have H := L1 _ H
    have H := AV H
    subst H
    refine EO (.inl Aa) F W Aa (Ay F Aa) (Ay F Aa) ?_
    have W := W.nilRow 3 (Rp.int .i64)
    have W := W.sub (M' := []) (Z' := [row (Value.slice none 0 0) 3 (Rp.int .i64) ([])]) (List.nil_sublist _) (List.Sublist.cons_cons _ (List.nil_sublist _))
    exact ⟨(Value.slice none 0 0), Aa, W⟩
   have H := AR (by rw [hb]; decide) H
   rw [hb] at F
   clear hb
   refine Av (Ab (Ah (Ah (Ac ?_))))
   iterate 2 refine ls F W Aa (Ad F Aa).q fun a w F W => ?_
   obtain ⟨x8, h9, H⟩ := Ak H
   refine ls F W Aa (BX (v := Value.bool x8) F TO Aa (fun w W => Jn any w (v7) x3 x7.1 _ h9 (((An 0 Aa) : D4 _ _ _ _ _ _) w W).nx)) fun a w F W => ?_
   refine Ae (Ab ?_)
   refine AA F Aa (fun hb => ?_) fun hb => ?_
   ·
    have H := AS hb H
    rw [hb] at F
    clear hb
    refine Ah (Ac ?_)
    iterate 2 refine ls F W Aa (Ag F Aa).q fun a w F W => ?_
    refine Ae (Ab (AF (AH (AQ (AH (AQ (AH ?_)))))))
    have H := L2 _ H
    have H := L1 _ H
    have H := AV H
    subst H
    refine EO (.inl Aa) F W Aa (Ay F Aa) (Ay F Aa) ?_
    have W := W.nilRow 3 (Rp.int .i64)
    have W := W.sub (M' := []) (Z' := [row (Value.slice none 0 0) 3 (Rp.int .i64) ([])]) (List.nil_sublist _) (List.Sublist.cons_cons _ (List.nil_sublist _))
    exact ⟨(Value.slice none 0 0), Aa, W⟩
   have H := AR (by rw [hb]; decide) H
   rw [hb] at F
   clear hb
   refine Av (Ab (Ah (Ac ?_)))
   iterate 2 refine ls F W Aa (Ad F Aa).q fun a w F W => ?_
   refine Fm (z := Value.int .i64 0) (cs := [.int .i64 x7.1]) (Rp.int .i64) ([x7.1] : List Int) F W Aa GD Z3 Aa Aa Aa Aa Aa Aa (Fl.int.repL _ _ ([x7.1] : List Int)) fun v9 a w F W => ?_
   obtain ⟨x9, h10, H⟩ := Ak H
   refine Fj (r := (Rp.int .i64)) (i := 1) F W Aa GD Aa Aa Aa Aa (GP W 0 Aa) h10 Aa fun v10 a w F W => ?_
   have W : Stw ⟨Y, [], w0⟩ [(b1, [.int .i64 p0.1, v1, v2])] [row v10 3 (Rp.int .i64) x9, row v9 3 (Rp.int .i64) ([x7.1] : List Int)] w := W
   refine ls F W Aa (Ag F Aa).q fun a w F W => ?_
   refine Ae (Ab (Ac ?_))
   refine ls F W Aa (Ad F Aa).q fun a w F W => ?_
   refine ls F W Aa (Ag F Aa).q fun a w F W => ?_
   refine Ae (AP (Ab ?_))
   have W := W.sub (M' := [(b1, [.int .i64 p0.1, v1, v2])]) (Z' := [row v10 3 (Rp.int .i64) x9]) (List.Sublist.refl _) (List.Sublist.cons_cons _ (List.nil_sublist _))
   exact ⟨_, H, (v10), F.re ⟨rfl, Aa, Aa, Aa, Aa, Aa, Aa, trivial⟩, W⟩
  have H := AR (BB hb) H
  rw [hb] at F
  clear hb
  refine A8 ?_
  iterate 2 refine Bq ?_
  refine A9 (Ab ?_)
  have H := L2 _ H
  exact ⟨_, (v7), H, F.re ⟨rfl, Aa, Aa, trivial⟩, W⟩
 rintro a w ⟨x1, v6, hj, F, W⟩
 have H := K1 _ hj
 clear hj G1 K1 L1
 refine Ah (Ac ?_)
 refine ls F W Aa (Ad F Aa).q fun a w F W => ?_
 iterate 2 refine ls F W Aa (Ag F Aa).q fun a w F W => ?_
 refine Ae (Ab (AF ?_))
 have H := AV H
 subst H
 refine EO (.inl Aa) F W Aa (Ay F Aa) (Ay F Aa) ?_
 have W := W.sub (M' := []) (Z' := [row v6 3 (Rp.int .i64) x1]) (List.nil_sublist _) (List.Sublist.refl _)
 exact ⟨(v6), Aa, W⟩
theorem Th : Has Try.prog 30 := ⟨fun args w => Al Try.func30 rfl (by decide) args w⟩
noncomputable def Ea (p0 : Int × (List (Int × Int × Int × Int × Int × Int)) × (List (Int × Int))) (p1 : List (List Int)) (x2 : Int) (x3 : List Int) : Int → Option (Int ⊕ (Unit ⊕ (Int ⊕ (Unit ⊕ Bool))))
  | x4 => (if x4 < (x3.length : Int) then (FL p0 p1 x2 x4).bind fun x5 => (if x5.2 ≠ 0 then some (.inr (.inr (.inr (.inr false)))) else some (.inl (AB (x4 + 1)))) else some (.inr (.inl ())))
noncomputable def EL (p0 : Int × (List (Int × Int × Int × Int × Int × Int)) × (List (Int × Int))) (p1 : List (List Int)) : Int → Option (Int ⊕ (Unit ⊕ Bool))
  | x2 => (if x2 < (p1.length : Int) then FB ((ix p1 x2).bind fun x3 => AG (Ea p0 p1 x2 x3) 0) fun _ => some (.inl (AB (x2 + 1))) else some (.inr (.inl ())))
noncomputable def FJ (p0 : Int × (List (Int × Int × Int × Int × Int × Int)) × (List (Int × Int))) (p1 : List (List Int)) : Option Bool := (EH p0 p1).bind fun x1 => (if (!x1) = true then some false else FB (AG (EL p0 p1) 0) fun _ => some true)
theorem Ke (Y : Nat → Prop) (w0 : World) (v1 : Value) (v2 : Value) (v3 : Value) (p0 : Int × (List (Int × Int × Int × Int × Int × Int)) × (List (Int × Int))) (p1 : List (List Int)) (r : Bool) (H : FJ p0 p1 = some r) (h_v1 : Sl w0 (NX []) Hu v1 p0.2.1) (h_v2 : Sl w0 (NX []) Gz v2 p0.2.2) (h_v3 : Sl w0 (NX []) (Rp.slice (Rp.int .i64)) v3 p1) :
    Calls Try.prog 11 #[.agg #[.int .i64 p0.1, v1, v2], v3] w0 fun e w' => e = .returned (.bool r) ∧ Below w0.heap.size w0 w' := by
 refine enter Try.func11 Aa Try.ntmps11 Aa fun a F => ?_
 have W := Stw.start Y w0
 obtain ⟨v4, h1, h_v3⟩ := h_v3.ex Do
 unfold FJ at H
 refine Ah (Ac ?_)
 refine E5 (cs := [.int .i64 p0.1, v1, v2]) F W Aa Aa Aa fun b1 a w F W => ?_
 refine ls F W Aa (Ag F Aa).q fun a w F W => ?_
 refine Ae (Ab (Ah (Ah (Ac ?_))))
 refine ls F W Aa (Aw (v := Value.agg #[.int .i64 p0.1, v1, v2]) 0 F Aa Aa JE Aa).q fun a w F W => ?_
 refine ls F W Aa (Ad F Aa).q fun a w F W => ?_
 obtain ⟨x1, h2, H⟩ := Ak H
 refine ls F W Aa (BX (v := Value.bool x1) F SG Aa (fun w W => Iu any w (v1) (v2) (v3) p0 p1 _ h2 (((Am h_v1) : D4 _ _ _ _ _ _) w W).nx (((Am h_v2) : D4 _ _ _ _ _ _) w W).nx (((B8 Do h1 (Am h_v3)) : D4 _ _ _ _ _ _) w W).nx)) fun a w F W => ?_
 refine ls F W Aa (Eb F Aa).q fun a w F W => ?_
 refine Ae (Ab ?_)
 refine AA F Aa (fun hb => ?_) fun hb => ?_
 ·
  have H := AS hb H
  rw [hb] at F
  clear hb
  refine Ah (Ac ?_)
  refine ls F W Aa (Ag F Aa).q fun a w F W => ?_
  refine Ae (Ab (AF (AH ?_)))
  have H := AV H
  subst H
  refine BK (.inl Aa) F W Aa (Ay F Aa) ?_
  exact ⟨rfl, W.done⟩
 have H := AR (by rw [hb]; decide) H
 rw [hb] at F
 clear hb
 refine Av (Ab ?_)
 obtain ⟨o1, G1, K1, L1⟩ := Jx H
 refine AM (fun a w => some (Sum.inl ()) = some o1 ∧ Fr 38 [] [(4, .bool false)] a ∧ Stw ⟨Y, [], w0⟩ [(b1, [.int .i64 p0.1, v1, v2])] [] w) ?_ ?_
 ·
  have H := G1
  clear G1 K1
  refine Ah (Ac ?_)
  refine ls F W Aa (Ad F Aa).q fun a w F W => ?_
  refine ls F W Aa (B0 (r := (Rp.slice (Rp.int .i64))) (l := p1) Ju Aa F Aa (B8 Do h1 (Am h_v3))).q fun a w F W => ?_
  refine ls F W Aa (Ad F Aa).q fun a w F W => ?_
  refine Ae (Ab (As ?_))
  refine Bb H (fun s a w => Fr 38 [] [(1, v3), (2, .pointer (some ⟨b1, 0, none⟩)), (4, .bool false), (14, v3), (15, .int .i64 (p1.length : Int)), (16, .int .i64 s)] a ∧ Stw ⟨Y, [], w0⟩ [(b1, [.int .i64 p0.1, v1, v2])] [] w) ⟨F.re ⟨rfl, Aa, Aa, Aa, Aa, Aa, trivial⟩, W⟩ fun s o a w H L2 hR => ?_
  obtain ⟨x2, rfl⟩ : ∃ x, x = s := ⟨s, rfl⟩
  obtain ⟨F, W⟩ := hR
  have F : Fr 38 [] [(1, v3), (2, .pointer (some ⟨b1, 0, none⟩)), (4, .bool false), (14, v3), (15, .int .i64 (p1.length : Int)), (16, .int .i64 x2)] a := F
  have W : Stw ⟨Y, [], w0⟩ [(b1, [.int .i64 p0.1, v1, v2])] [] w := W
  rw [EL] at H
  refine Ah (Ac ?_)
  refine ls F W Aa (Bu F Aa Aa).q fun a w F W => ?_
  refine Ae (Ab (Ah ?_))
  refine AA F Aa (fun hb => ?_) fun hb => ?_
  ·
   have H := AS (BD hb) H
   rw [hb] at F
   clear hb
   refine Av (Ab ?_)
   obtain ⟨o3, G3, K3, L3⟩ := Jx H
   refine AM (fun a w => some (Sum.inl ()) = some o3 ∧ Fr 38 [] [(1, v3), (2, .pointer (some ⟨b1, 0, none⟩)), (4, .bool false), (14, v3), (15, .int .i64 (p1.length : Int)), (16, .int .i64 x2)] a ∧ Stw ⟨Y, [], w0⟩ [(b1, [.int .i64 p0.1, v1, v2])] [] w) ?_ ?_
   ·
    have H := G3
    clear G3 K3
    refine As (Ah (Ac ?_))
    refine ls F W Aa (Ad F Aa).q fun a w F W => ?_
    obtain ⟨x3, h3, H⟩ := Ak H
    obtain ⟨v5, h4, h5⟩ := DQ h1 h3
    have h6 : EN v5 = [(v5.1)] := congrArg (fun q : List Int => ([(v5.1)] : List Value)) h5
    refine ls F W Aa (Ax (r := (Rp.vsl (Rp.int .i64))) Lm F Aa Aa (Am h_v3) h4).q fun a w F W => ?_
    refine ls F W Aa (Ao (y := (v5.1)) (j := 0) (i := x2) (enc := EN) F Aa Aa (Am h_v3) h4 Im JO (by rw [h6]; rfl)).q fun a w F W => ?_
    iterate 2 refine ls F W Aa (Ag F Aa).q fun a w F W => ?_
    refine Ae (Ab (Ah (Ac ?_)))
    refine ls F W Aa (Ad F Aa).q fun a w F W => ?_
    refine ls F W Aa (B0 (r := (Rp.int .i64)) (l := x3) Hr Aa F Aa (Du (Am h_v3) h4 EK.here (congrArg (fun q : List Int => q) h5))).q fun a w F W => ?_
    refine ls F W Aa (Ad F Aa).q fun a w F W => ?_
    refine Ae (Ab (As ?_))
    refine Bb H (fun s a w => Fr 38 [] [(1, v3), (2, .pointer (some ⟨b1, 0, none⟩)), (4, .bool false), (5, .int .i64 x2), (14, v3), (15, .int .i64 (p1.length : Int)), (16, .int .i64 x2), (22, .int .i64 (x3.length : Int)), (23, .int .i64 s)] a ∧ Stw ⟨Y, [], w0⟩ [(b1, [.int .i64 p0.1, v1, v2])] [] w) ⟨F.re ⟨rfl, Aa, Aa, Aa, Aa, Aa, Aa, Aa, Aa, trivial⟩, W⟩ fun s o a w H L4 hR => ?_
    obtain ⟨x4, rfl⟩ : ∃ x, x = s := ⟨s, rfl⟩
    obtain ⟨F, W⟩ := hR
    have F : Fr 38 [] [(1, v3), (2, .pointer (some ⟨b1, 0, none⟩)), (4, .bool false), (5, .int .i64 x2), (14, v3), (15, .int .i64 (p1.length : Int)), (16, .int .i64 x2), (22, .int .i64 (x3.length : Int)), (23, .int .i64 x4)] a := F
    have W : Stw ⟨Y, [], w0⟩ [(b1, [.int .i64 p0.1, v1, v2])] [] w := W
    rw [Ea] at H
    refine Ah (Ac ?_)
    refine ls F W Aa (Bu F Aa Aa).q fun a w F W => ?_
    refine Ae (Ab (Ah ?_))
    refine AA F Aa (fun hb => ?_) fun hb => ?_
    ·
     have H := AS (BD hb) H
     rw [hb] at F
     clear hb
     refine Av (Ab (Ah (As (Ah (Ac ?_)))))
     refine ls F W Aa (Ad F Aa).q fun a w F W => ?_
     refine ls F W Aa (Ag F Aa).q fun a w F W => ?_
     refine Ae (Ab (Ah (Ac ?_)))
     refine ls F W Aa (Aw (v := Value.agg #[.int .i64 p0.1, v1, v2]) 0 F Aa Aa JE Aa).q fun a w F W => ?_
     iterate 3 refine ls F W Aa (Ad F Aa).q fun a w F W => ?_
     obtain ⟨x5, h7, H⟩ := Ak H
     refine B7 (Ml := []) (Zl := []) (M := [(b1, [.int .i64 p0.1, v1, v2])]) (Z := []) (β := Value) (rv := fun x => .tuple #[x, .int .i64 x5.2]) (MM := fun x => []) (ZZ := fun x => [row x 3 (Rp.int .i64) x5.1]) F W Th Aa Aa (fun hL => J3 _ w (v1) (v2) (v3) p0 p1 x2 x4 _ h7 ((Am h_v1) w W).nx ((Am h_v2) w W).nx ((B8 Do h1 (Am h_v3)) w W).nx) fun x a w F W => ?_
     obtain ⟨v6, rfl⟩ : ∃ y, y = x := ⟨x, rfl⟩
     have W : Stw ⟨Y, [], w0⟩ [(b1, [.int .i64 p0.1, v1, v2])] [row v6 3 (Rp.int .i64) x5.1] w := W
     refine ls F W Aa (Ad F Aa).q fun a w F W => ?_
     refine ls F W Aa (Bi (v := v6) F Aa Aa).q fun a w F W => ?_
     refine ls F W Aa (Bi (v := Value.int .i64 x5.2) F Aa Aa).q fun a w F W => ?_
     iterate 2 refine ls F W Aa (Ag F Aa).q fun a w F W => ?_
     refine Ae (Ab (Ah (Ac ?_)))
     refine ls F W Aa (Ad F Aa).q fun a w F W => ?_
     refine ls F W Aa (HL F Aa Aa).q fun a w F W => ?_
     refine Ae (Ab ?_)
     refine AA F Aa (fun hb => ?_) fun hb => ?_
     ·
      have H := AS (BD hb) H
      rw [hb] at F
      clear hb
      refine Ah (Ac ?_)
      refine ls F W Aa (Ag F Aa).q fun a w F W => ?_
      refine Ae (Ab (AF (AQ ?_)))
      iterate 2 refine AH ?_
      iterate 2 refine AQ ?_
      iterate 2 refine AH ?_
      refine AQ (AH ?_)
      have H := L4 _ H
      have H := L3 _ H
      have H := L2 _ H
      have H := L1 _ H
      have H := AV H
      subst H
      refine BK (.inl Aa) F W Aa (Ay F Aa) ?_
      exact ⟨rfl, W.done⟩
     have H := AR (BB hb) H
     rw [hb] at F
     clear hb
     refine Av (AP (Ab (Ac ?_)))
     refine ls F W Aa (BC F Aa Aa Aa).q fun a w F W => ?_
     refine ls F W Aa (Ad F Aa).q fun a w F W => ?_
     refine Ae (Ab ?_)
     have W := W.sub (M' := [(b1, [.int .i64 p0.1, v1, v2])]) (Z' := []) (List.Sublist.refl _) (List.nil_sublist _)
     exact ⟨_, H, F.re ⟨rfl, Aa, Aa, Aa, Aa, Aa, Aa, Aa, Aa, trivial⟩, W⟩
    have H := AR (BB hb) H
    rw [hb] at F
    clear hb
    refine A8 ?_
    iterate 2 refine Bq ?_
    refine A9 (AP (Ab ?_))
    have H := L4 _ H
    exact ⟨H, F.re ⟨rfl, Aa, Aa, Aa, Aa, Aa, trivial⟩, W⟩
   rintro a w ⟨hj, F, W⟩
   have H := K3 _ hj
   clear hj G3 K3 L3
   refine Ac ?_
   refine ls F W Aa (BC F Aa Aa Aa).q fun a w F W => ?_
   refine ls F W Aa (Ad F Aa).q fun a w F W => ?_
   refine Ae (Ab ?_)
   exact ⟨_, H, F.re ⟨rfl, Aa, Aa, Aa, Aa, Aa, trivial⟩, W⟩
  have H := AR (BB hb) H
  rw [hb] at F
  clear hb
  refine A8 ?_
  iterate 2 refine Bq ?_
  refine A9 (Ab ?_)
  have H := L2 _ H
  exact ⟨H, F.re ⟨rfl, trivial⟩, W⟩
 rintro a w ⟨hj, F, W⟩
 have H := K1 _ hj
 clear hj G1 K1 L1
 refine Ah (Ac ?_)
 refine ls F W Aa (Ag F Aa).q fun a w F W => ?_
 refine Ae (Ab (AF ?_))
 have H := AV H
 subst H
 refine BK (.inl Aa) F W Aa (Ay F Aa) ?_
 exact ⟨rfl, W.done⟩
theorem S7 : Has Try.prog 11 := ⟨fun args w => Al Try.func11 rfl (by decide) args w⟩
noncomputable def EI (p0 : Int × (List (Int × Int × Int × Int × Int × Int)) × (List (Int × Int))) (p1 : List (List Int)) (p2 : Int) : (List Int × Int) → Option ((List Int × Int) ⊕ (List Int))
  | (x4, x5) => (if x5 < (p1.length : Int) then (FL p0 p1 x5 p2).bind fun x6 => (Ld x4 ([AB ((x6.1.length : Int) - 1)] : List Int)).bind fun x7 => some (.inl (x7, AB (x5 + 1))) else some (.inr x4))
noncomputable def GW (p0 : Int × (List (Int × Int × Int × Int × Int × Int)) × (List (Int × Int))) (p1 : List (List Int)) (p2 : Int) : Option (List Int) := ((EH p0 p1).bind fun x2 => (if (!x2) = true then some true else (if p2 < 0 then some true else some (decide ((p0.2.2.length : Int) ≤ p2))))).bind fun x1 => (if x1 = true then some ([] : List Int) else (AG (EI p0 p1 p2) ([], 0)).bind fun x3 => some x3)
theorem Nv (Y : Nat → Prop) (w0 : World) (v1 : Value) (v2 : Value) (v3 : Value) (p0 : Int × (List (Int × Int × Int × Int × Int × Int)) × (List (Int × Int))) (p1 : List (List Int)) (p2 : Int) (r : List Int) (H : GW p0 p1 p2 = some r) (h_v1 : Sl w0 (NX []) Hu v1 p0.2.1) (h_v2 : Sl w0 (NX []) Gz v2 p0.2.2) (h_v3 : Sl w0 (NX []) (Rp.slice (Rp.int .i64)) v3 p1) :
    Calls Try.prog 24 #[.agg #[.int .i64 p0.1, v1, v2], v3, .int .i64 p2] w0 fun e w' => ∃ x : Value, e = .returned (x) ∧ Stw ⟨Y, [], w0⟩ [] [row (x) 3 (Rp.int .i64) r] w' := by
 refine enter Try.func24 Aa Try.ntmps24 Aa fun a F => ?_
 have W := Stw.start Y w0
 obtain ⟨v4, h1, h_v3⟩ := h_v3.ex Do
 unfold GW at H
 refine Ah (Ac ?_)
 refine E5 (cs := [.int .i64 p0.1, v1, v2]) F W Aa Aa Aa fun b1 a w F W => ?_
 refine ls F W Aa (Ag F Aa).q fun a w F W => ?_
 refine Ae (Ab (Ah ?_))
 obtain ⟨o1, G1, K1⟩ := Ak H
 refine AM (fun a w => ∃ x1 : Bool, some (x1) = some o1 ∧ Fr 47 [] [(1, v3), (2, .int .i64 p2), (3, .pointer (some ⟨b1, 0, none⟩)), (6, .slice none 0 0), (25, .bool x1)] a ∧ Stw ⟨Y, [], w0⟩ [(b1, [.int .i64 p0.1, v1, v2])] [] w) ?_ ?_
 ·
  have H := G1
  clear G1 K1
  refine Ac ?_
  refine ls F W Aa (Aw (v := Value.agg #[.int .i64 p0.1, v1, v2]) 0 F Aa Aa JE Aa).q fun a w F W => ?_
  refine ls F W Aa (Ad F Aa).q fun a w F W => ?_
  obtain ⟨x2, h2, H⟩ := Ak H
  refine ls F W Aa (BX (v := Value.bool x2) F SG Aa (fun w W => Iu any w (v1) (v2) (v3) p0 p1 _ h2 (((Am h_v1) : D4 _ _ _ _ _ _) w W).nx (((Am h_v2) : D4 _ _ _ _ _ _) w W).nx (((B8 Do h1 (Am h_v3)) : D4 _ _ _ _ _ _) w W).nx)) fun a w F W => ?_
  refine ls F W Aa (Eb F Aa).q fun a w F W => ?_
  refine ls F W Aa (Ad F Aa).q fun a w F W => ?_
  rcases Bool.eq_false_or_eq_true (!x2) with hb | hb
  ·
   have H := AS hb H
   rw [hb] at F
   clear hb
   iterate 2 refine Dd F Aa Aa Aa Aa Aa Aa Aa fun a F => ?_
   refine ls F W Aa (Aq F Aa Aa Aa).q fun a w F W => ?_
   refine ls F W Aa (Ad F Aa).q fun a w F W => ?_
   iterate 5 refine Dd F Aa Aa Aa Aa Aa Aa Aa fun a F => ?_
   refine ls F W Aa (Aq F Aa Aa Aa).q fun a w F W => ?_
   refine Ae (Ab ?_)
   exact ⟨_, H, F.re ⟨rfl, Aa, Aa, Aa, Aa, trivial⟩, W⟩
  have H := AR (by rw [hb]; decide) H
  rw [hb] at F
  clear hb
  refine AJ F W (Af F Aa Aa Aa Aa) Aa (Ai Aa) (Ad F Aa).q fun a w F W => ?_
  refine AJ F W (Af F Aa Aa Aa Aa) Aa (Ai Aa) (Bu F Aa Aa).q fun a w F W => ?_
  refine ls F W Aa (Az F Aa Aa Aa).q fun a w F W => ?_
  refine ls F W Aa (Ad F Aa).q fun a w F W => ?_
  rcases Bool.eq_false_or_eq_true (decide (p2 < 0)) with hb | hb
  ·
   have H := AS (BD hb) H
   rw [hb] at F
   clear hb
   iterate 5 refine Dd F Aa Aa Aa Aa Aa Aa Aa fun a F => ?_
   refine ls F W Aa (Aq F Aa Aa Aa).q fun a w F W => ?_
   refine Ae (Ab ?_)
   exact ⟨_, H, F.re ⟨rfl, Aa, Aa, Aa, Aa, trivial⟩, W⟩
  have H := AR (BB hb) H
  rw [hb] at F
  clear hb
  refine AJ F W (Af F Aa Aa Aa Aa) Aa (Ai Aa) (Ad F Aa).q fun a w F W => ?_
  refine AJ F W (Af F Aa Aa Aa Aa) Aa (Ai Aa) (Aj D1 Aa Aa Aa H4 F Aa 2 Aa).q fun a w F W => ?_
  refine AJ F W (Af F Aa Aa Aa Aa) Aa (Ai Aa) (Aw (v := v2) 0 F Aa Aa H4 Aa).q fun a w F W => ?_
  refine AJ F W (Af F Aa Aa Aa Aa) Aa (Ai Aa) (B0 (r := Gz) (l := p0.2.2) JG Aa F Aa (Am h_v2)).q fun a w F W => ?_
  refine AJ F W (Af F Aa Aa Aa Aa) Aa (Ai Aa) (DH F Aa Aa).q fun a w F W => ?_
  refine ls F W Aa (Az F Aa Aa Aa).q fun a w F W => ?_
  refine Ae (Ab ?_)
  exact ⟨_, H, F.re ⟨rfl, Aa, Aa, Aa, Aa, trivial⟩, W⟩
 rintro a w ⟨x1, hj, F, W⟩
 have hj := AV hj
 subst hj
 have H := K1
 clear G1 K1
 refine AA F Aa (fun hb => ?_) fun hb => ?_
 ·
  have H := AS hb H
  rw [hb] at F
  clear hb
  refine Ah (Ac ?_)
  refine ls F W Aa (Ag F Aa).q fun a w F W => ?_
  refine Ae (Ab (AF (AH ?_)))
  have H := AV H
  subst H
  refine BK (.inl Aa) F W Aa (Ay F Aa) ?_
  have W := W.nilRow 3 (Rp.int .i64)
  have W := W.sub (M' := []) (Z' := [row (Value.slice none 0 0) 3 (Rp.int .i64) ([])]) (List.nil_sublist _) (List.Sublist.refl _)
  exact ⟨(Value.slice none 0 0), Aa, W⟩
 have H := AR (by rw [hb]; decide) H
 rw [hb] at F
 clear hb
 refine Av (Ab (Ah (Ac ?_)))
 refine ls F W Aa (Ag F Aa).q fun a w F W => ?_
 refine Ae (Ab ?_)
 obtain ⟨o2, G2, K2⟩ := Ak H
 refine AM (fun a w => ∃ x3 : List Int, ∃ v5 : Value, some (x3) = some o2 ∧ Fr 47 [] [(6, .slice none 0 0), (7, v5)] a ∧ Stw ⟨Y, [], w0⟩ [(b1, [.int .i64 p0.1, v1, v2])] [row v5 3 (Rp.int .i64) x3] w) ?_ ?_
 ·
  have H := G2
  clear G2 K2
  refine Ah (Ac ?_)
  refine ls F W Aa (Ad F Aa).q fun a w F W => ?_
  refine ls F W Aa (B0 (r := (Rp.slice (Rp.int .i64))) (l := p1) Ju Aa F Aa (B8 Do h1 (Am h_v3))).q fun a w F W => ?_
  refine ls F W Aa (Ad F Aa).q fun a w F W => ?_
  refine Ae (Ab (As ?_))
  have W := W.nilRow 3 (Rp.int .i64)
  refine Bb H (fun s a w => ∃ v6 : Value, Fr 47 [] [(1, v3), (2, .int .i64 p2), (3, .pointer (some ⟨b1, 0, none⟩)), (6, .slice none 0 0), (7, v6), (27, .int .i64 (p1.length : Int)), (28, .int .i64 s.2)] a ∧ Stw ⟨Y, [], w0⟩ [(b1, [.int .i64 p0.1, v1, v2])] [row v6 3 (Rp.int .i64) s.1] w) ⟨(Value.slice none 0 0), F.re ⟨rfl, Aa, Aa, Aa, Aa, Aa, Aa, trivial⟩, W⟩ fun s o a w H L3 hR => ?_
  obtain ⟨x4, x5⟩ := s
  obtain ⟨v6, F, W⟩ := hR
  have F : Fr 47 [] [(1, v3), (2, .int .i64 p2), (3, .pointer (some ⟨b1, 0, none⟩)), (6, .slice none 0 0), (7, v6), (27, .int .i64 (p1.length : Int)), (28, .int .i64 x5)] a := F
  have W : Stw ⟨Y, [], w0⟩ [(b1, [.int .i64 p0.1, v1, v2])] [row v6 3 (Rp.int .i64) x4] w := W
  rw [EI] at H
  refine Ah (Ac ?_)
  refine ls F W Aa (Bu F Aa Aa).q fun a w F W => ?_
  refine Ae (Ab (Ah ?_))
  refine AA F Aa (fun hb => ?_) fun hb => ?_
  ·
   have H := AS (BD hb) H
   rw [hb] at F
   clear hb
   refine Av (Ab (Ah (As (Ah (Ac ?_)))))
   refine ls F W Aa (Ad F Aa).q fun a w F W => ?_
   refine ls F W Aa (Ag F Aa).q fun a w F W => ?_
   refine Ae (Ab (Ah (Ac ?_)))
   refine ls F W Aa (Aw (v := Value.agg #[.int .i64 p0.1, v1, v2]) 0 F Aa Aa JE Aa).q fun a w F W => ?_
   iterate 3 refine ls F W Aa (Ad F Aa).q fun a w F W => ?_
   obtain ⟨x6, h3, H⟩ := Ak H
   refine B7 (Ml := []) (Zl := []) (M := [(b1, [.int .i64 p0.1, v1, v2])]) (Z := [row v6 3 (Rp.int .i64) x4]) (β := Value) (rv := fun x => .tuple #[x, .int .i64 x6.2]) (MM := fun x => []) (ZZ := fun x => [row x 3 (Rp.int .i64) x6.1]) F W Th Aa Aa (fun hL => J3 _ w (v1) (v2) (v3) p0 p1 x5 p2 _ h3 ((Am h_v1) w W).nx ((Am h_v2) w W).nx ((B8 Do h1 (Am h_v3)) w W).nx) fun x a w F W => ?_
   obtain ⟨v7, rfl⟩ : ∃ y, y = x := ⟨x, rfl⟩
   have W : Stw ⟨Y, [], w0⟩ [(b1, [.int .i64 p0.1, v1, v2])] [row v7 3 (Rp.int .i64) x6.1, row v6 3 (Rp.int .i64) x4] w := W
   refine ls F W Aa (Ad F Aa).q fun a w F W => ?_
   refine ls F W Aa (Bi (v := v7) F Aa Aa).q fun a w F W => ?_
   refine ls F W Aa (Bi (v := Value.int .i64 x6.2) F Aa Aa).q fun a w F W => ?_
   iterate 2 refine ls F W Aa (Ag F Aa).q fun a w F W => ?_
   refine Ae (Ab (Ac ?_))
   iterate 2 refine ls F W Aa (Ad F Aa).q fun a w F W => ?_
   refine ls F W Aa (B0 (r := (Rp.int .i64)) (l := x6.1) Hr Aa F Aa (An 0 Aa)).q fun a w F W => ?_
   refine ls F W Aa (Cx F Aa Aa Aa).q fun a w F W => ?_
   refine Fm (z := Value.int .i64 0) (cs := [.int .i64 (AB ((x6.1.length : Int) - 1))]) (Rp.int .i64) ([AB ((x6.1.length : Int) - 1)] : List Int) F W Aa GD Z3 Aa Aa Aa Aa Aa Aa (Fl.int.repL _ _ ([AB ((x6.1.length : Int) - 1)] : List Int)) fun v8 a w F W => ?_
   obtain ⟨x7, h4, H⟩ := Ak H
   refine Fj (r := (Rp.int .i64)) (i := 2) F W Aa GD Aa Aa Aa Aa (GP W 0 Aa) h4 Aa fun v9 a w F W => ?_
   have W : Stw ⟨Y, [], w0⟩ [(b1, [.int .i64 p0.1, v1, v2])] [row v9 3 (Rp.int .i64) x7, row v8 3 (Rp.int .i64) ([AB ((x6.1.length : Int) - 1)] : List Int), row v7 3 (Rp.int .i64) x6.1] w := W
   refine ls F W Aa (Ag F Aa).q fun a w F W => ?_
   refine Ae (AP (Ab (Ac ?_)))
   refine ls F W Aa (BC F Aa Aa Aa).q fun a w F W => ?_
   refine ls F W Aa (Ad F Aa).q fun a w F W => ?_
   refine Ae (Ab ?_)
   have W := W.sub (M' := [(b1, [.int .i64 p0.1, v1, v2])]) (Z' := [row v9 3 (Rp.int .i64) x7]) (List.Sublist.refl _) (List.Sublist.cons_cons _ (List.nil_sublist _))
   exact ⟨_, H, (v9), F.re ⟨rfl, Aa, Aa, Aa, Aa, Aa, Aa, trivial⟩, W⟩
  have H := AR (BB hb) H
  rw [hb] at F
  clear hb
  refine A8 ?_
  iterate 2 refine Bq ?_
  refine A9 (Ab ?_)
  have H := L3 _ H
  exact ⟨_, (v6), H, F.re ⟨rfl, Aa, trivial⟩, W⟩
 rintro a w ⟨x3, v5, hj, F, W⟩
 have hj := AV hj
 subst hj
 have H := K2
 clear G2 K2
 refine Ah (Ac ?_)
 refine ls F W Aa (Ad F Aa).q fun a w F W => ?_
 refine ls F W Aa (Ag F Aa).q fun a w F W => ?_
 refine Ae (Ab (AF ?_))
 have H := AV H
 subst H
 refine BK (.inl Aa) F W Aa (Ay F Aa) ?_
 have W := W.sub (M' := []) (Z' := [row v5 3 (Rp.int .i64) x3]) (List.nil_sublist _) (List.Sublist.refl _)
 exact ⟨(v5), Aa, W⟩
theorem Tg : type_of% Try.underlying5 := Try.underlying5
theorem T4 : type_of% Try.underlying9 := Try.underlying9
theorem Pa : type_of% Try.underlying31 := Try.underlying31
theorem G0 : type_of% Try.underlying62 := Try.underlying62
theorem Sn : type_of% Try.underlying113 := Try.underlying113
theorem TK : Has Try.prog 24 := ⟨fun args w => Al Try.func24 rfl (by decide) args w⟩
theorem S8 : Bt Try.prog 62 [.int .i64 0, .int .i64 0, .int .i64 0, .int .i64 0] [(0, 1), (1, 1), (2, 1), (3, 1)] := ⟨⟨.agg #[.int .i64 0, .int .i64 0, .int .i64 0, .int .i64 0], by kernel_rfl, rfl⟩, ⟨_, G0, fun w => by kernel_rfl⟩⟩
theorem Sv : (Try.prog.info? 62).bind (·.zero) = some (.agg #[.int .i64 0, .int .i64 0, .int .i64 0, .int .i64 0]) := by kernel_rfl
abbrev Bj : Rp (Int × Int × Int × Int) := (Rp.pair (Rp.int .i64) (Rp.pair (Rp.int .i64) (Rp.pair (Rp.int .i64) (Rp.int .i64))))
def TY (a : Int × Int × Int × Int) : List Value := [.int .i64 a.1, .int .i64 a.2.1, .int .i64 a.2.2.1, .int .i64 a.2.2.2]
theorem Ez : Fl Bj TY := (Fl.pair Fl.int (Fl.pair Fl.int (Fl.pair Fl.int Fl.int)))
theorem Ew : Et Try.prog 31 62 4 32 := Et.of Pa (by kernel_rfl) (by kernel_rfl) (by kernel_rfl) (by decide)
noncomputable def ED (p0 : Int) : Option Int := (if 4294967296 ≤ p0 then some (Ge .u64 p0 32, 32) else some (p0, 0)).bind fun (x1, x2) => (if 65536 ≤ x1 then some (Ge .u64 x1 16, AB (x2 + 16)) else some (x1, x2)).bind fun (x3, x4) => (if 256 ≤ x3 then some (Ge .u64 x3 8, AB (x4 + 8)) else some (x3, x4)).bind fun (x5, x6) => (ix ([0, 1, 2, 2, 3, 3, 3, 3, 4, 4, 4, 4, 4, 4, 4, 4, 5, 5, 5, 5, 5, 5, 5, 5, 5, 5, 5, 5, 5, 5, 5, 5, 6, 6, 6, 6, 6, 6, 6, 6, 6, 6, 6, 6, 6, 6, 6, 6, 6, 6, 6, 6, 6, 6, 6, 6, 6, 6, 6, 6, 6, 6, 6, 6, 7, 7, 7, 7, 7, 7, 7, 7, 7, 7, 7, 7, 7, 7, 7, 7, 7, 7, 7, 7, 7, 7, 7, 7, 7, 7, 7, 7, 7, 7, 7, 7, 7, 7, 7, 7, 7, 7, 7, 7, 7, 7, 7, 7, 7, 7, 7, 7, 7, 7, 7, 7, 7, 7, 7, 7, 7, 7, 7, 7, 7, 7, 7, 7, 8, 8, 8, 8, 8, 8, 8, 8, 8, 8, 8, 8, 8, 8, 8, 8, 8, 8, 8, 8, 8, 8, 8, 8, 8, 8, 8, 8, 8, 8, 8, 8, 8, 8, 8, 8, 8, 8, 8, 8, 8, 8, 8, 8, 8, 8, 8, 8, 8, 8, 8, 8, 8, 8, 8, 8, 8, 8, 8, 8, 8, 8, 8, 8, 8, 8, 8, 8, 8, 8, 8, 8, 8, 8, 8, 8, 8, 8, 8, 8, 8, 8, 8, 8, 8, 8, 8, 8, 8, 8, 8, 8, 8, 8, 8, 8, 8, 8, 8, 8, 8, 8, 8, 8, 8, 8, 8, 8, 8, 8, 8, 8, 8, 8, 8, 8, 8, 8, 8, 8, 8, 8, 8, 8, 8, 8, 8, 8] : List UInt8) (IntKind.u8.wrap x5)).bind fun x7 => some (AB (x6 + (AB (x7.toNat : Int))))
theorem Kb (Y : Nat → Prop) (w0 : World)  (p0 : Int) (r : Int) (H : ED p0 = some r)  :
    Calls Try.prog 68 #[.int .u64 p0] w0 fun e w' => e = .returned (.int .i64 r) ∧ Below w0.heap.size w0 w' := by
 refine enter Try.func68 Aa Try.ntmps68 Aa fun a F => ?_
 have W := Stw.start Y w0
 unfold ED at H
 refine Ah (Ac ?_)
 refine ls F W Aa (Ag F Aa).q fun a w F W => ?_
 refine Ae (Ab ?_)
 obtain ⟨o1, G1, K1⟩ := Ak H
 refine AM (fun a w => ∃ x1 : Int, ∃ x2 : Int, some ((x1, x2)) = some o1 ∧ Fr 25 [] [(0, .int .u64 x1), (2, .int .i64 x2)] a ∧ Stw ⟨Y, [], w0⟩ [] [] w) ?_ ?_
 ·
  have H := G1
  clear G1 K1
  refine Ah (Ac ?_)
  refine ls F W Aa (Ad F Aa).q fun a w F W => ?_
  refine ls F W Aa (DH F Aa Aa).q fun a w F W => ?_
  refine Ae (Ab ?_)
  refine AA F Aa (fun hb => ?_) fun hb => ?_
  ·
   have H := AS (BD hb) H
   rw [hb] at F
   clear hb
   refine Ah (Ac ?_)
   refine ls F W Aa (Ad F Aa).q fun a w F W => ?_
   refine ls F W Aa (Nn F Aa Aa (by decide)).q fun a w F W => ?_
   refine ls F W Aa (Ag F Aa).q fun a w F W => ?_
   refine Ae (Ab (Ac ?_))
   refine ls F W Aa (Ag F Aa).q fun a w F W => ?_
   refine Ae (Ab ?_)
   exact ⟨_, _, H, F.re ⟨rfl, Aa, trivial⟩, W⟩
  have H := AR (BB hb) H
  rw [hb] at F
  clear hb
  refine Av (Ab ?_)
  exact ⟨_, _, H, F.re ⟨rfl, Aa, trivial⟩, W⟩
 rintro a w ⟨x1, x2, hj, F, W⟩
 have hj := AV hj
 subst hj
 have H := K1
 clear G1 K1
 obtain ⟨o2, G2, K2⟩ := Ak H
 refine AM (fun a w => ∃ x3 : Int, ∃ x4 : Int, some ((x3, x4)) = some o2 ∧ Fr 25 [] [(0, .int .u64 x3), (2, .int .i64 x4)] a ∧ Stw ⟨Y, [], w0⟩ [] [] w) ?_ ?_
 ·
  have H := G2
  clear G2 K2
  refine Ah (Ac ?_)
  refine ls F W Aa (Ad F Aa).q fun a w F W => ?_
  refine ls F W Aa (DH F Aa Aa).q fun a w F W => ?_
  refine Ae (Ab ?_)
  refine AA F Aa (fun hb => ?_) fun hb => ?_
  ·
   have H := AS (BD hb) H
   rw [hb] at F
   clear hb
   refine Ah (Ac ?_)
   refine ls F W Aa (Ad F Aa).q fun a w F W => ?_
   refine ls F W Aa (Nn F Aa Aa (by decide)).q fun a w F W => ?_
   refine ls F W Aa (Ag F Aa).q fun a w F W => ?_
   refine Ae (Ab (Ac ?_))
   refine ls F W Aa (Ad F Aa).q fun a w F W => ?_
   refine ls F W Aa (BC F Aa Aa Aa).q fun a w F W => ?_
   refine ls F W Aa (Ag F Aa).q fun a w F W => ?_
   refine Ae (Ab ?_)
   exact ⟨_, _, H, F.re ⟨rfl, Aa, trivial⟩, W⟩
  have H := AR (BB hb) H
  rw [hb] at F
  clear hb
  refine Av (Ab ?_)
  exact ⟨_, _, H, F.re ⟨rfl, Aa, trivial⟩, W⟩
 rintro a w ⟨x3, x4, hj, F, W⟩
 have hj := AV hj
 subst hj
 have H := K2
 clear G2 K2
 obtain ⟨o3, G3, K3⟩ := Ak H
 refine AM (fun a w => ∃ x5 : Int, ∃ x6 : Int, some ((x5, x6)) = some o3 ∧ Fr 25 [] [(0, .int .u64 x5), (2, .int .i64 x6)] a ∧ Stw ⟨Y, [], w0⟩ [] [] w) ?_ ?_
 ·
  have H := G3
  clear G3 K3
  refine Ah (Ac ?_)
  refine ls F W Aa (Ad F Aa).q fun a w F W => ?_
  refine ls F W Aa (DH F Aa Aa).q fun a w F W => ?_
  refine Ae (Ab ?_)
  refine AA F Aa (fun hb => ?_) fun hb => ?_
  ·
   have H := AS (BD hb) H
   rw [hb] at F
   clear hb
   refine Ah (Ac ?_)
   refine ls F W Aa (Ad F Aa).q fun a w F W => ?_
   refine ls F W Aa (Nn F Aa Aa (by decide)).q fun a w F W => ?_
   refine ls F W Aa (Ag F Aa).q fun a w F W => ?_
   refine Ae (Ab (Ac ?_))
   refine ls F W Aa (Ad F Aa).q fun a w F W => ?_
   refine ls F W Aa (BC F Aa Aa Aa).q fun a w F W => ?_
   refine ls F W Aa (Ag F Aa).q fun a w F W => ?_
   refine Ae (Ab ?_)
   exact ⟨_, _, H, F.re ⟨rfl, Aa, trivial⟩, W⟩
  have H := AR (BB hb) H
  rw [hb] at F
  clear hb
  refine Av (Ab ?_)
  exact ⟨_, _, H, F.re ⟨rfl, Aa, trivial⟩, W⟩
 rintro a w ⟨x5, x6, hj, F, W⟩
 have hj := AV hj
 subst hj
 have H := K3
 clear G3 K3
 refine Ah (Ac ?_)
 iterate 2 refine ls F W Aa (Ad F Aa).q fun a w F W => ?_
 refine ls F W Aa (IU Sn Tg F Aa).q fun a w F W => ?_
 obtain ⟨x7, h1, H⟩ := Ak H
 refine ls F W Aa (P8 (l := ([0, 1, 2, 2, 3, 3, 3, 3, 4, 4, 4, 4, 4, 4, 4, 4, 5, 5, 5, 5, 5, 5, 5, 5, 5, 5, 5, 5, 5, 5, 5, 5, 6, 6, 6, 6, 6, 6, 6, 6, 6, 6, 6, 6, 6, 6, 6, 6, 6, 6, 6, 6, 6, 6, 6, 6, 6, 6, 6, 6, 6, 6, 6, 6, 7, 7, 7, 7, 7, 7, 7, 7, 7, 7, 7, 7, 7, 7, 7, 7, 7, 7, 7, 7, 7, 7, 7, 7, 7, 7, 7, 7, 7, 7, 7, 7, 7, 7, 7, 7, 7, 7, 7, 7, 7, 7, 7, 7, 7, 7, 7, 7, 7, 7, 7, 7, 7, 7, 7, 7, 7, 7, 7, 7, 7, 7, 7, 7, 8, 8, 8, 8, 8, 8, 8, 8, 8, 8, 8, 8, 8, 8, 8, 8, 8, 8, 8, 8, 8, 8, 8, 8, 8, 8, 8, 8, 8, 8, 8, 8, 8, 8, 8, 8, 8, 8, 8, 8, 8, 8, 8, 8, 8, 8, 8, 8, 8, 8, 8, 8, 8, 8, 8, 8, 8, 8, 8, 8, 8, 8, 8, 8, 8, 8, 8, 8, 8, 8, 8, 8, 8, 8, 8, 8, 8, 8, 8, 8, 8, 8, 8, 8, 8, 8, 8, 8, 8, 8, 8, 8, 8, 8, 8, 8, 8, 8, 8, 8, 8, 8, 8, 8, 8, 8, 8, 8, 8, 8, 8, 8, 8, 8, 8, 8, 8, 8, 8, 8, 8, 8, 8, 8, 8, 8, 8, 8] : List UInt8)) T4 F Aa Aa h1).q fun a w F W => ?_
 refine ls F W Aa (IU Tg NV F Aa).q fun a w F W => ?_
 refine ls F W Aa (BC F Aa Aa Aa).q fun a w F W => ?_
 refine ls F W Aa (Ag F Aa).q fun a w F W => ?_
 refine Ae (Ab (AF ?_))
 have H := AV H
 subst H
 refine BK (.inl Aa) F W Aa (Ay F Aa) ?_
 exact ⟨rfl, W.done⟩
theorem TA : Has Try.prog 68 := ⟨fun args w => Al Try.func68 rfl (by decide) args w⟩
noncomputable def Dx (p0 : Int) : Option Int := (ED p0).bind fun x1 => some x1
theorem HH (Y : Nat → Prop) (w0 : World)  (p0 : Int) (r : Int) (H : Dx p0 = some r)  :
    Calls Try.prog 43 #[.int .u64 p0] w0 fun e w' => e = .returned (.int .i64 r) ∧ Below w0.heap.size w0 w' := by
 refine enter Try.func43 Aa Try.ntmps43 Aa fun a F => ?_
 have W := Stw.start Y w0
 unfold Dx at H
 refine Ah (Ac ?_)
 refine ls F W Aa (Ag F Aa).q fun a w F W => ?_
 refine Ae (Ab (Ah ?_))
 refine Nw F Aa ?_
 refine Av (Ab (Ah (Ac ?_)))
 refine ls F W Aa (Ad F Aa).q fun a w F W => ?_
 obtain ⟨x1, h1, H⟩ := Ak H
 refine ls F W Aa (BX (v := Value.int .i64 x1) F TA Aa (fun w W => Kb any w p0 _ h1)) fun a w F W => ?_
 refine ls F W Aa (Ag F Aa).q fun a w F W => ?_
 refine Ae (Ab (AF ?_))
 have H := AV H
 subst H
 refine BK (.inl Aa) F W Aa (Ay F Aa) ?_
 exact ⟨rfl, W.done⟩
theorem SZ : Has Try.prog 43 := ⟨fun args w => Al Try.func43 rfl (by decide) args w⟩
theorem Eh : Ty Try.prog 62 true 4 := ⟨by kernel_rfl, by kernel_rfl⟩
def BO (p0 : Int) : Bool := decide (p0 ≠ p0)
theorem Gj (Y : Nat → Prop) (w0 : World)  (p0 : Int) (r : Bool) (H : BO p0 = r)  :
    Calls Try.prog 44 #[.int .i64 p0] w0 fun e w' => e = .returned (.bool r) ∧ Below w0.heap.size w0 w' := by
 refine enter Try.func44 Aa Try.ntmps44 Aa fun a F => ?_
 have W := Stw.start Y w0
 unfold BO at H
 refine Ah (Ac ?_)
 refine ls F W Aa (Ag F Aa).q fun a w F W => ?_
 refine Ae (Ab (Ah (Ac ?_)))
 iterate 2 refine ls F W Aa (Ad F Aa).q fun a w F W => ?_
 refine ls F W Aa (HL F Aa Aa).q fun a w F W => ?_
 refine ls F W Aa (Ag F Aa).q fun a w F W => ?_
 refine Ae (Ab (AF ?_))
 subst H
 refine BK (.inl Aa) F W Aa (Ay F Aa) ?_
 exact ⟨rfl, W.done⟩
theorem Sw : Has Try.prog 44 := ⟨fun args w => Al Try.func44 rfl (by decide) args w⟩
def AX (p0 : Int) (p1 : Int) : Int := (if (BO p0) = true then (if (BO p1) = true then 0 else (-1)) else (if (BO p1) = true then 1 else (if p0 < p1 then (-1) else (if p1 < p0 then 1 else 0))))
theorem GK (Y : Nat → Prop) (w0 : World)  (p0 : Int) (p1 : Int) (r : Int) (H : AX p0 p1 = r)  :
    Calls Try.prog 28 #[.int .i64 p0, .int .i64 p1] w0 fun e w' => e = .returned (.int .i64 r) ∧ Below w0.heap.size w0 w' := by
 refine enter Try.func28 Aa Try.ntmps28 Aa fun a F => ?_
 have W := Stw.start Y w0
 unfold AX at H
 refine Ah (Ac ?_)
 refine ls F W Aa (Ag F Aa).q fun a w F W => ?_
 refine Ae (Ab (Ah (Ac ?_)))
 refine ls F W Aa (Ad F Aa).q fun a w F W => ?_
 refine ls F W Aa (BX (v := Value.bool (BO p0)) F Sw Aa (fun w W => Gj any w p0 _ Aa)) fun a w F W => ?_
 refine ls F W Aa (Ag F Aa).q fun a w F W => ?_
 refine Ae (Ab (Ah (Ac ?_)))
 refine ls F W Aa (Ad F Aa).q fun a w F W => ?_
 refine ls F W Aa (BX (v := Value.bool (BO p1)) F Sw Aa (fun w W => Gj any w p1 _ Aa)) fun a w F W => ?_
 refine ls F W Aa (Ag F Aa).q fun a w F W => ?_
 refine Ae (Ab (Ah (Ah (Ac ?_))))
 refine ls F W Aa (Ad F Aa).q fun a w F W => ?_
 refine Ae (Ab ?_)
 refine AA F Aa (fun hb => ?_) fun hb => ?_
 ·
  have H := AS hb H
  rw [hb] at F
  clear hb
  refine Ah (Ah (Ac ?_))
  refine ls F W Aa (Ad F Aa).q fun a w F W => ?_
  refine Ae (Ab ?_)
  refine AA F Aa (fun hb => ?_) fun hb => ?_
  ·
   have H := AS hb H
   rw [hb] at F
   clear hb
   refine Ah (Ac ?_)
   refine ls F W Aa (Ag F Aa).q fun a w F W => ?_
   refine Ae (Ab (AF ?_))
   iterate 2 refine AH ?_
   subst H
   refine BK (.inl Aa) F W Aa (Ay F Aa) ?_
   exact ⟨rfl, W.done⟩
  have H := AR (by rw [hb]; decide) H
  rw [hb] at F
  clear hb
  refine Av (Ab (Ah (Ac ?_)))
  refine ls F W Aa (Ag F Aa).q fun a w F W => ?_
  refine Ae (Ab (AF (AH ?_)))
  subst H
  refine BK (.inl Aa) F W Aa (Ay F Aa) ?_
  exact ⟨rfl, W.done⟩
 have H := AR (by rw [hb]; decide) H
 rw [hb] at F
 clear hb
 refine Av (Ab (Ah (Ah (Ac ?_))))
 refine ls F W Aa (Ad F Aa).q fun a w F W => ?_
 refine Ae (Ab ?_)
 refine AA F Aa (fun hb => ?_) fun hb => ?_
 ·
  have H := AS hb H
  rw [hb] at F
  clear hb
  refine Ah (Ac ?_)
  refine ls F W Aa (Ag F Aa).q fun a w F W => ?_
  refine Ae (Ab (AF (AH ?_)))
  subst H
  refine BK (.inl Aa) F W Aa (Ay F Aa) ?_
  exact ⟨rfl, W.done⟩
 have H := AR (by rw [hb]; decide) H
 rw [hb] at F
 clear hb
 refine Av (Ab (Ah (Ah (Ac ?_))))
 iterate 2 refine ls F W Aa (Ad F Aa).q fun a w F W => ?_
 refine ls F W Aa (Bu F Aa Aa).q fun a w F W => ?_
 refine Ae (Ab ?_)
 refine AA F Aa (fun hb => ?_) fun hb => ?_
 ·
  have H := AS (BD hb) H
  rw [hb] at F
  clear hb
  refine Ah (Ac ?_)
  refine ls F W Aa (Ag F Aa).q fun a w F W => ?_
  refine Ae (Ab (AF (AH ?_)))
  subst H
  refine BK (.inl Aa) F W Aa (Ay F Aa) ?_
  exact ⟨rfl, W.done⟩
 have H := AR (BB hb) H
 rw [hb] at F
 clear hb
 refine Av (Ab (Ah (Ah (Ac ?_))))
 iterate 2 refine ls F W Aa (Ad F Aa).q fun a w F W => ?_
 refine ls F W Aa (Ga F Aa Aa).q fun a w F W => ?_
 refine Ae (Ab ?_)
 refine AA F Aa (fun hb => ?_) fun hb => ?_
 ·
  have H := AS (BD hb) H
  rw [hb] at F
  clear hb
  refine Ah (Ac ?_)
  refine ls F W Aa (Ag F Aa).q fun a w F W => ?_
  refine Ae (Ab (AF (AH ?_)))
  subst H
  refine BK (.inl Aa) F W Aa (Ay F Aa) ?_
  exact ⟨rfl, W.done⟩
 have H := AR (BB hb) H
 rw [hb] at F
 clear hb
 refine Av (Ab (Ah (Ac ?_)))
 refine ls F W Aa (Ag F Aa).q fun a w F W => ?_
 refine Ae (Ab (AF ?_))
 subst H
 refine BK (.inl Aa) F W Aa (Ay F Aa) ?_
 exact ⟨rfl, W.done⟩
theorem S1 : Has Try.prog 28 := ⟨fun args w => Al Try.func28 rfl (by decide) args w⟩
noncomputable def Dg (p0 : List Int) : Int → Option (Int ⊕ (Unit ⊕ Int))
  | x1 => (if x1 < (p0.length : Int) then (ix p0 x1).bind fun x2 => (if x2 ≠ 0 then some (.inr (.inr x2)) else some (.inl (AB (x1 + 1)))) else some (.inr (.inl ())))
noncomputable def Gr (p0 : List Int) : Option Int := FB (AG (Dg p0) 0) fun _ => some 0
theorem MK (Y : Nat → Prop) (w0 : World) (v1 : Value) (p0 : List Int) (r : Int) (H : Gr p0 = some r) (h_v1 : Sl w0 (NX []) (Rp.int .i64) v1 p0) :
    Calls Try.prog 27 #[v1] w0 fun e w' => e = .returned (.int .i64 r) ∧ Below w0.heap.size w0 w' := by
 refine enter Try.func27 Aa Try.ntmps27 Aa fun a F => ?_
 have W := Stw.start Y w0
 unfold Gr at H
 refine Ah (Ac ?_)
 refine ls F W Aa (Ag F Aa).q fun a w F W => ?_
 refine Ae (Ab (Ah (Ac ?_)))
 refine ls F W Aa (Ag F Aa).q fun a w F W => ?_
 refine Ae (Ab ?_)
 obtain ⟨o1, G1, K1, L1⟩ := Jx H
 refine AM (fun a w => some (Sum.inl ()) = some o1 ∧ Fr 18 [] [(2, .int .i64 0), (3, .int .i64 0)] a ∧ Stw ⟨Y, [], w0⟩ [] [] w) ?_ ?_
 ·
  have H := G1
  clear G1 K1
  refine Ah (Ac ?_)
  refine ls F W Aa (Ad F Aa).q fun a w F W => ?_
  refine ls F W Aa (B0 (r := (Rp.int .i64)) (l := p0) Hr Aa F Aa (Am h_v1)).q fun a w F W => ?_
  refine ls F W Aa (Ad F Aa).q fun a w F W => ?_
  refine Ae (Ab (As ?_))
  refine Bb H (fun s a w => Fr 18 [] [(2, .int .i64 0), (3, .int .i64 0), (6, v1), (7, .int .i64 (p0.length : Int)), (8, .int .i64 s)] a ∧ Stw ⟨Y, [], w0⟩ [] [] w) ⟨F.re ⟨rfl, Aa, Aa, Aa, Aa, trivial⟩, W⟩ fun s o a w H L2 hR => ?_
  obtain ⟨x1, rfl⟩ : ∃ x, x = s := ⟨s, rfl⟩
  obtain ⟨F, W⟩ := hR
  have F : Fr 18 [] [(2, .int .i64 0), (3, .int .i64 0), (6, v1), (7, .int .i64 (p0.length : Int)), (8, .int .i64 x1)] a := F
  have W : Stw ⟨Y, [], w0⟩ [] [] w := W
  rw [Dg] at H
  refine Ah (Ac ?_)
  refine ls F W Aa (Bu F Aa Aa).q fun a w F W => ?_
  refine Ae (Ab (Ah ?_))
  refine AA F Aa (fun hb => ?_) fun hb => ?_
  ·
   have H := AS (BD hb) H
   rw [hb] at F
   clear hb
   refine Av (Ab (Ah (As (Ah (Ac ?_)))))
   obtain ⟨x2, h1, H⟩ := Ak H
   refine ls F W Aa (Ax (r := (Rp.int .i64)) GD F Aa Aa (Am h_v1) h1).q fun a w F W => ?_
   refine ls F W Aa (Ao (y := Value.int .i64 x2) (j := 0) (i := x1) F Aa Aa (Am h_v1) h1 Fl.int.to T3 Aa).q fun a w F W => ?_
   refine ls F W Aa (Ag F Aa).q fun a w F W => ?_
   refine Ae (Ab (Ah (Ac ?_)))
   iterate 2 refine ls F W Aa (Ad F Aa).q fun a w F W => ?_
   refine ls F W Aa (HL F Aa Aa).q fun a w F W => ?_
   refine Ae (Ab ?_)
   refine AA F Aa (fun hb => ?_) fun hb => ?_
   ·
    have H := AS (BD hb) H
    rw [hb] at F
    clear hb
    refine Ah (Ac ?_)
    refine ls F W Aa (Ad F Aa).q fun a w F W => ?_
    refine ls F W Aa (Ag F Aa).q fun a w F W => ?_
    refine Ae (Ab (AF (AQ ?_)))
    iterate 2 refine AH ?_
    refine AQ (AH ?_)
    have H := L2 _ H
    have H := L1 _ H
    have H := AV H
    subst H
    refine BK (.inl Aa) F W Aa (Ay F Aa) ?_
    exact ⟨rfl, W.done⟩
   have H := AR (BB hb) H
   rw [hb] at F
   clear hb
   refine Av (AP (Ab (Ac ?_)))
   refine ls F W Aa (BC F Aa Aa Aa).q fun a w F W => ?_
   refine ls F W Aa (Ad F Aa).q fun a w F W => ?_
   refine Ae (Ab ?_)
   exact ⟨_, H, F.re ⟨rfl, Aa, Aa, Aa, Aa, trivial⟩, W⟩
  have H := AR (BB hb) H
  rw [hb] at F
  clear hb
  refine A8 ?_
  iterate 2 refine Bq ?_
  refine A9 (Ab ?_)
  have H := L2 _ H
  exact ⟨H, F.re ⟨rfl, Aa, trivial⟩, W⟩
 rintro a w ⟨hj, F, W⟩
 have H := K1 _ hj
 clear hj G1 K1 L1
 refine Ah (Ac ?_)
 refine ls F W Aa (Ad F Aa).q fun a w F W => ?_
 refine ls F W Aa (Ag F Aa).q fun a w F W => ?_
 refine Ae (Ab (AF ?_))
 have H := AV H
 subst H
 refine BK (.inl Aa) F W Aa (Ay F Aa) ?_
 exact ⟨rfl, W.done⟩
theorem TF : Has Try.prog 27 := ⟨fun args w => Al Try.func27 rfl (by decide) args w⟩
noncomputable def BU (p0 : Int × Int × Int × Int) (p1 : Int × Int × Int × Int) : Option Int := (Gr ([(AX p0.2.2.2 p1.2.2.2), (AX p0.1 p1.1), (AX p0.2.1 p1.2.1)] : List Int)).bind fun x1 => some x1
theorem Cg (Y : Nat → Prop) (w0 : World)  (p0 : Int × Int × Int × Int) (p1 : Int × Int × Int × Int) (r : Int) (H : BU p0 p1 = some r)  :
    Calls Try.prog 26 #[.agg #[.int .i64 p0.1, .int .i64 p0.2.1, .int .i64 p0.2.2.1, .int .i64 p0.2.2.2], .agg #[.int .i64 p1.1, .int .i64 p1.2.1, .int .i64 p1.2.2.1, .int .i64 p1.2.2.2]] w0 fun e w' => e = .returned (.int .i64 r) ∧ Below w0.heap.size w0 w' := by
 refine enter Try.func26 Aa Try.ntmps26 Aa fun a F => ?_
 have W := Stw.start Y w0
 unfold BU at H
 refine Ah (Ac ?_)
 refine E5 (cs := [.int .i64 p0.1, .int .i64 p0.2.1, .int .i64 p0.2.2.1, .int .i64 p0.2.2.2]) F W Aa Aa Aa fun b1 a w F W => ?_
 refine E5 (cs := [.int .i64 p1.1, .int .i64 p1.2.1, .int .i64 p1.2.2.1, .int .i64 p1.2.2.2]) F W Aa Aa Aa fun b2 a w F W => ?_
 refine ls F W Aa (Ag F Aa).q fun a w F W => ?_
 refine Ae (Ab (Ah ?_))
 refine ID 15 W MO (by kernel_rfl) ?_
 refine qs F Aa (Aj G0 Aa Aa Aa T3 F Aa 3 Aa).q fun a F => ?_
 refine qs F Aa (Aw (v := Value.int .i64 p0.2.2.2) 1 F Aa Aa T3 Aa).q fun a F => ?_
 refine qs F Aa (Aj G0 Aa Aa Aa T3 F Aa 3 Aa).q fun a F => ?_
 refine qs F Aa (Aw (v := Value.int .i64 p1.2.2.2) 0 F Aa Aa T3 Aa).q fun a F => ?_
 refine qs F Aa (BX (v := Value.int .i64 (AX p0.2.2.2 p1.2.2.2)) F S1 Aa (fun w W => GK any w p0.2.2.2 p1.2.2.2 _ Aa)) fun a F => ?_
 refine qs F Aa (Aj G0 Aa Aa Aa T3 F Aa 0 Aa).q fun a F => ?_
 refine qs F Aa (Aw (v := Value.int .i64 p0.1) 1 F Aa Aa T3 Aa).q fun a F => ?_
 refine qs F Aa (Aj G0 Aa Aa Aa T3 F Aa 0 Aa).q fun a F => ?_
 refine qs F Aa (Aw (v := Value.int .i64 p1.1) 0 F Aa Aa T3 Aa).q fun a F => ?_
 refine qs F Aa (BX (v := Value.int .i64 (AX p0.1 p1.1)) F S1 Aa (fun w W => GK any w p0.1 p1.1 _ Aa)) fun a F => ?_
 refine qs F Aa (Aj G0 Aa Aa Aa T3 F Aa 1 Aa).q fun a F => ?_
 refine qs F Aa (Aw (v := Value.int .i64 p0.2.1) 1 F Aa Aa T3 Aa).q fun a F => ?_
 refine qs F Aa (Aj G0 Aa Aa Aa T3 F Aa 1 Aa).q fun a F => ?_
 refine qs F Aa (Aw (v := Value.int .i64 p1.2.1) 0 F Aa Aa T3 Aa).q fun a F => ?_
 refine qs F Aa (BX (v := Value.int .i64 (AX p0.2.1 p1.2.1)) F S1 Aa (fun w W => GK any w p0.2.1 p1.2.1 _ Aa)) fun a F => ?_
 refine AY fun w W => ?_
 refine Fm (z := Value.int .i64 0) (cs := [.int .i64 (AX p0.2.2.2 p1.2.2.2), .int .i64 (AX p0.1 p1.1), .int .i64 (AX p0.2.1 p1.2.1)]) (Rp.int .i64) ([(AX p0.2.2.2 p1.2.2.2), (AX p0.1 p1.1), (AX p0.2.1 p1.2.1)] : List Int) F W Aa GD Z3 Aa Aa Aa Aa Aa Aa (Fl.int.repL _ _ ([(AX p0.2.2.2 p1.2.2.2), (AX p0.1 p1.1), (AX p0.2.1 p1.2.1)] : List Int)) fun v1 a w F W => ?_
 obtain ⟨x1, h1, H⟩ := Ak H
 refine ls F W Aa (BX (v := Value.int .i64 x1) F TF Aa (fun w W => MK any w (v1) ([(AX p0.2.2.2 p1.2.2.2), (AX p0.1 p1.1), (AX p0.2.1 p1.2.1)] : List Int) _ h1 (((An 0 Aa) : D4 _ _ _ _ _ _) w W).nx)) fun a w F W => ?_
 refine ls F W Aa (Ag F Aa).q fun a w F W => ?_
 refine Ae (Ab (AF ?_))
 have H := AV H
 subst H
 refine BK (.inl Aa) F W Aa (Ay F Aa) ?_
 exact ⟨rfl, W.done⟩
theorem OC : Has Try.prog 26 := ⟨fun args w => Al Try.func26 rfl (by decide) args w⟩
noncomputable def AU (p1 : Int) : ((List (Int × Int × Int × Int)) × Int) → Option (((List (Int × Int × Int × Int)) × Int) ⊕ (List (Int × Int × Int × Int)))
  | (x4, x5) => (if p1 < x5 then (ix x4 x5).bind fun x7 => (ix x4 (AB (x5 - 1))).bind fun x8 => (BU x7 x8).bind fun x9 => some (decide (x9 < 0)) else some false).bind fun x6 => (if x6 = true then (ix x4 (AB (x5 - 1))).bind fun x10 => (ix x4 x5).bind fun x11 => (ix x4 x5).bind fun x12 => (ix (Ap x4 x5 x10) (AB (x5 - 1))).bind fun x13 => some (.inl ((Ap (Ap x4 x5 x10) (AB (x5 - 1)) x11), AB (x5 - 1))) else some (.inr x4))
noncomputable def A6 (p1 : Int) (p2 : Int) : ((List (Int × Int × Int × Int)) × Int) → Option (((List (Int × Int × Int × Int)) × Int) ⊕ (List (Int × Int × Int × Int)))
  | (x1, x2) => (if x2 < p2 then (AG (AU p1) (x1, x2)).bind fun x3 => some (.inl (x3, AB (x2 + 1))) else some (.inr x1))
noncomputable def Bx (p0 : List (Int × Int × Int × Int)) (p1 : Int) (p2 : Int) : Option (List (Int × Int × Int × Int)) := AG (A6 p1 p2) (p0, AB (p1 + 1))
theorem Fw (Y : Nat → Prop) (X : List Nat) (w0 : World) (v1 : Value) (p0 : List (Int × Int × Int × Int)) (p1 : Int) (p2 : Int) (r : (List (Int × Int × Int × Int))) (H : Bx p0 p1 p2 = some r) (hL : Stw ⟨Y, X, w0⟩ [] [row v1 62 Bj p0] w0) :
    Calls Try.prog 59 #[v1, .int .i64 p1, .int .i64 p2, .func (.func 26) #[] #[]] w0 fun e w' => ∃ x : Unit, e = .returned (.tuple #[]) ∧ Stw ⟨Y, X, w0⟩ [] [row v1 62 Bj r] w' := by
 refine enter Try.func59 Aa Try.ntmps59 Aa fun a F => ?_
 have W := hL
 unfold Bx at H
 refine Ah (Ac ?_)
 refine ls F W Aa (Ad F Aa).q fun a w F W => ?_
 refine ls F W Aa (BC F Aa Aa Aa).q fun a w F W => ?_
 refine ls F W Aa (Ag F Aa).q fun a w F W => ?_
 refine Ae (Ab (As ?_))
 refine Bb H (fun s a w => Fr 53 [] [(0, v1), (1, .int .i64 p1), (2, .int .i64 p2), (3, .func (.func 26) #[] #[]), (8, .int .i64 s.2)] a ∧ Stw ⟨Y, X, w0⟩ [] [row v1 62 Bj s.1] w) ⟨F.re ⟨rfl, Aa, Aa, Aa, Aa, trivial⟩, W⟩ fun s o a w H L1 hR => ?_
 obtain ⟨x1, x2⟩ := s
 obtain ⟨F, W⟩ := hR
 have F : Fr 53 [] [(0, v1), (1, .int .i64 p1), (2, .int .i64 p2), (3, .func (.func 26) #[] #[]), (8, .int .i64 x2)] a := F
 have W : Stw ⟨Y, X, w0⟩ [] [row v1 62 Bj x1] w := W
 rw [A6] at H
 refine Ah (Ah (Ac ?_))
 iterate 2 refine ls F W Aa (Ad F Aa).q fun a w F W => ?_
 refine ls F W Aa (Bu F Aa Aa).q fun a w F W => ?_
 refine Ae (Ab ?_)
 refine AA F Aa (fun hb => ?_) fun hb => ?_
 ·
  have H := AS (BD hb) H
  rw [hb] at F
  clear hb
  refine Av (Ab ?_)
  obtain ⟨o2, G2, K2⟩ := Ak H
  refine AM (fun a w => ∃ x3 : List (Int × Int × Int × Int), some (x3) = some o2 ∧ Fr 53 [] [(0, v1), (1, .int .i64 p1), (2, .int .i64 p2), (3, .func (.func 26) #[] #[]), (8, .int .i64 x2)] a ∧ Stw ⟨Y, X, w0⟩ [] [row v1 62 Bj x3] w) ?_ ?_
  ·
   have H := G2
   clear G2 K2
   refine As (Ah (Ac ?_))
   refine ls F W Aa (Ad F Aa).q fun a w F W => ?_
   refine ls F W Aa (Ag F Aa).q fun a w F W => ?_
   refine Ae (Ab (As ?_))
   refine Bb H (fun s a w => Fr 53 [] [(0, v1), (1, .int .i64 p1), (2, .int .i64 p2), (3, .func (.func 26) #[] #[]), (8, .int .i64 x2), (9, .int .i64 s.2)] a ∧ Stw ⟨Y, X, w0⟩ [] [row v1 62 Bj s.1] w) ⟨F.re ⟨rfl, Aa, Aa, Aa, Aa, Aa, trivial⟩, W⟩ fun s o a w H L3 hR => ?_
   obtain ⟨x4, x5⟩ := s
   obtain ⟨F, W⟩ := hR
   have F : Fr 53 [] [(0, v1), (1, .int .i64 p1), (2, .int .i64 p2), (3, .func (.func 26) #[] #[]), (8, .int .i64 x2), (9, .int .i64 x5)] a := F
   have W : Stw ⟨Y, X, w0⟩ [] [row v1 62 Bj x4] w := W
   rw [AU] at H
   refine Ah ?_
   obtain ⟨o4, G4, K4⟩ := Ak H
   refine AM (fun a w => ∃ x6 : Bool, some (x6) = some o4 ∧ Fr 53 [] [(0, v1), (1, .int .i64 p1), (2, .int .i64 p2), (3, .func (.func 26) #[] #[]), (8, .int .i64 x2), (9, .int .i64 x5), (34, .bool x6)] a ∧ Stw ⟨Y, X, w0⟩ [] [row v1 62 Bj x4] w) ?_ ?_
   ·
    have H := G4
    clear G4 K4
    refine BV W MO (by kernel_rfl) ?_
    iterate 2 refine qs F Aa (Ad F Aa).q fun a F => ?_
    refine qs F Aa (Ga F Aa Aa).q fun a F => ?_
    refine qs F Aa (Ad F Aa).q fun a F => ?_
    rcases Bool.eq_false_or_eq_true (decide (p1 < x5)) with hb | hb
    ·
     have H := AS (BD hb) H
     rw [hb] at F
     clear hb
     iterate 3 refine Bc F (Af F Aa Aa Aa Aa) Aa (Ai Aa) (Ad F Aa).q fun a F => ?_
     obtain ⟨x7, h1, H⟩ := Ak H
     refine Bc F (Af F Aa Aa Aa Aa) Aa (Ai Aa) (Ax (r := Bj) Ew F Aa Aa (An 0 Aa) h1).q fun a F => ?_
     refine Bc F (Af F Aa Aa Aa Aa) Aa (Ai Aa) (Ao (y := Value.agg #[.int .i64 x7.1, .int .i64 x7.2.1, .int .i64 x7.2.2.1, .int .i64 x7.2.2.2]) (j := 0) (i := x5) F Aa Aa (An 0 Aa) h1 Ez.to Eh Aa).q fun a F => ?_
     iterate 2 refine Bc F (Af F Aa Aa Aa Aa) Aa (Ai Aa) (Ad F Aa).q fun a F => ?_
     refine Bc F (Af F Aa Aa Aa Aa) Aa (Ai Aa) (Cx F Aa Aa Aa).q fun a F => ?_
     obtain ⟨x8, h2, H⟩ := Ak H
     refine Bc F (Af F Aa Aa Aa Aa) Aa (Ai Aa) (Ax (r := Bj) Ew F Aa Aa (An 0 Aa) h2).q fun a F => ?_
     refine Bc F (Af F Aa Aa Aa Aa) Aa (Ai Aa) (Ao (y := Value.agg #[.int .i64 x8.1, .int .i64 x8.2.1, .int .i64 x8.2.2.1, .int .i64 x8.2.2.2]) (j := 0) (i := AB (x5 - 1)) F Aa Aa (An 0 Aa) h2 Ez.to Eh Aa).q fun a F => ?_
     obtain ⟨x9, h3, H⟩ := Ak H
     refine Bc F (Af F Aa Aa Aa Aa) Aa (Ai Aa) (EU (ws := [.agg #[.int .i64 x7.1, .int .i64 x7.2.1, .int .i64 x7.2.2.1, .int .i64 x7.2.2.2], .agg #[.int .i64 x8.1, .int .i64 x8.2.1, .int .i64 x8.2.2.1, .int .i64 x8.2.2.2]]) (v := Value.int .i64 x9) F OC Aa (fun w W => Cg any w x7 x8 _ h3)) fun a F => ?_
     refine Bc F (Af F Aa Aa Aa Aa) Aa (Ai Aa) (Bu F Aa Aa).q fun a F => ?_
     refine qs F Aa (Aq F Aa Aa Aa).q fun a F => ?_
     refine AY fun w W => ?_
     refine Ab ?_
     exact ⟨_, H, F.re ⟨rfl, Aa, Aa, Aa, Aa, Aa, Aa, trivial⟩, W⟩
    have H := AR (BB hb) H
    rw [hb] at F
    clear hb
    iterate 12 refine Ds F (CM F Aa Aa Aa Aa Aa) Aa Aa fun a F => ?_
    refine qs F Aa (Az F Aa Aa Aa).q fun a F => ?_
    refine AY fun w W => ?_
    refine Ab ?_
    exact ⟨_, H, F.re ⟨rfl, Aa, Aa, Aa, Aa, Aa, Aa, trivial⟩, W⟩
   rintro a w ⟨x6, hj, F, W⟩
   have hj := AV hj
   subst hj
   have H := K4
   clear G4 K4
   refine AA F Aa (fun hb => ?_) fun hb => ?_
   ·
    have H := AS hb H
    rw [hb] at F
    clear hb
    refine Av (Ab (Ah (As ?_)))
    refine Gg [(true, 0), (true, 1), (true, 2), (true, 3), (true, 4), (true, 5), (true, 6), (true, 7), (true, 8), (true, 9), (true, 10), (true, 11), (true, 12), (true, 13), (true, 14), (false, 15), (true, 16), (false, 17)] (CN ⟨Y, X, w0⟩ [] [(some 15, row v1 62 Bj x4)]) (fun ch a d v w h => by cases d <;> exact h) MO (by kernel_rfl) W (fun w W => ⟨_, _, W, Bd, (all_cons (fun _ => (.head _)) Bd)⟩) fun w W => ?_
    iterate 4 refine B6 (R := []) F Aa Aa (yC fun M Z hN hZ => Ad F Aa) Aa Aa fun a F => ?_
    refine B6 (R := []) F Aa Aa (yC fun M Z hN hZ => Cx F Aa Aa Aa) Aa Aa fun a F => ?_
    iterate 2 refine B6 (R := []) F Aa Aa (yC fun M Z hN hZ => Ad F Aa) Aa Aa fun a F => ?_
    refine B6 (R := []) F Aa Aa (yC fun M Z hN hZ => Cx F Aa Aa Aa) Aa Aa fun a F => ?_
    obtain ⟨x10, h4, H⟩ := Ak H
    refine B6 (R := []) F Aa Aa (yC fun M Z hN hZ => B1 (r := Bj) Ew F Aa Aa (DK W (An 0 Aa)) h4) Aa Aa fun a F => ?_
    refine B6 (R := [15]) F Aa Aa (yC fun M Z hN hZ => Ao (y := Value.agg #[.int .i64 x10.1, .int .i64 x10.2.1, .int .i64 x10.2.2.1, .int .i64 x10.2.2.2]) (j := 0) (i := AB (x5 - 1)) F Aa Aa (D3 (hZ ((some 15), row v1 62 Bj x4) (.head _) Aa)) h4 Ez.to Eh Aa) (by kernel_rfl) Aa fun a F => ?_
    iterate 2 refine B6 (R := []) F Aa Aa (yC fun M Z hN hZ => Ad F Aa) Aa Aa fun a F => ?_
    obtain ⟨x11, h5, H⟩ := Ak H
    refine B6 (R := []) F Aa Aa (yC fun M Z hN hZ => B1 (r := Bj) Ew F Aa Aa (DK W (An 0 Aa)) h5) Aa Aa fun a F => ?_
    refine B6 (R := [15]) F Aa Aa (yC fun M Z hN hZ => Ao (y := Value.agg #[.int .i64 x11.1, .int .i64 x11.2.1, .int .i64 x11.2.2.1, .int .i64 x11.2.2.2]) (j := 0) (i := x5) F Aa Aa (D3 (hZ ((some 15), row v1 62 Bj x4) (.head _) Aa)) h5 Ez.to Eh Aa) (by kernel_rfl) Aa fun a F => ?_
    obtain ⟨x12, h6, H⟩ := Ak H
    refine B6 (R := []) F Aa Aa (yC fun M Z hN hZ => B1 (r := Bj) Ew F Aa Aa (DK W (An 0 Aa)) h6) Aa Aa fun a F => ?_
    refine Ia Aa ?_
    refine Bz (i := x5) (j := 0) (vs := [.int .i64 x10.1, .int .i64 x10.2.1, .int .i64 x10.2.2.1, .int .i64 x10.2.2.2]) (x' := x10) F W Aa Aa Aa (k := 0) Aa Aa h6 Eh Aa Aa Aa Aa (fun A cs _ => Ez.sto (by rfl) _ _ _) fun w W => ?_
    refine DF (N2 := []) (NZ2 := []) (N3 := []) (NZ3 := [(some 15, row v1 62 Bj x4)]) W Aa Aa Bd (all_cons (fun h => Cq (by kernel_rfl) h) Bd) ?_
    obtain ⟨x13, h7, H⟩ := Ak H
    refine B6 (R := []) F Aa Aa (yC fun M Z hN hZ => B1 (r := Bj) Ew F Aa Aa (DK W (An 0 Aa)) h7) Aa Aa fun a F => ?_
    refine Ia Aa ?_
    refine Bz (i := AB (x5 - 1)) (j := 0) (vs := [.int .i64 x11.1, .int .i64 x11.2.1, .int .i64 x11.2.2.1, .int .i64 x11.2.2.2]) (x' := x11) F W Aa Aa Aa (k := 0) Aa Aa h7 Eh Aa Aa Aa Aa (fun A cs _ => Ez.sto (by rfl) _ _ _) fun w W => ?_
    refine DF (N2 := []) (NZ2 := []) (N3 := []) (NZ3 := [(some 15, row v1 62 Bj x4)]) W Aa Aa Bd (all_cons (fun h => Cq (by kernel_rfl) h) Bd) ?_
    refine Is (AP (Ab (Ac ?_)))
    refine ls F W Aa (Ad F Aa).q fun a w F W => ?_
    refine ls F W Aa (Cx F Aa Aa Aa).q fun a w F W => ?_
    refine ls F W Aa (Ag F Aa).q fun a w F W => ?_
    refine Ae (Ab ?_)
    exact ⟨_, H, F.re ⟨rfl, Aa, Aa, Aa, Aa, Aa, trivial⟩, W⟩
   have H := AR (by rw [hb]; decide) H
   rw [hb] at F
   clear hb
   refine A8 ?_
   iterate 2 refine Bq ?_
   refine A9 (AP (Ab ?_))
   have H := L3 _ H
   exact ⟨_, H, F.re ⟨rfl, Aa, Aa, Aa, Aa, trivial⟩, W⟩
  rintro a w ⟨x3, hj, F, W⟩
  have hj := AV hj
  subst hj
  have H := K2
  clear G2 K2
  refine Ac ?_
  refine ls F W Aa (Ad F Aa).q fun a w F W => ?_
  refine ls F W Aa (BC F Aa Aa Aa).q fun a w F W => ?_
  refine ls F W Aa (Ag F Aa).q fun a w F W => ?_
  refine Ae (Ab ?_)
  exact ⟨_, H, F.re ⟨rfl, Aa, Aa, Aa, Aa, trivial⟩, W⟩
 have H := AR (BB hb) H
 rw [hb] at F
 clear hb
 refine A8 ?_
 iterate 2 refine Bq ?_
 refine A9 ?_
 have H := L1 _ H
 have H := AV H
 subst H
 refine HI (.inr Aa) F Aa ?_
 exact ⟨(), Aa, W⟩
theorem TG : Has Try.prog 59 := ⟨fun args w => Al Try.func59 rfl (by decide) args w⟩
noncomputable def AO (p2 : Int) (p3 : Int) : ((List (Int × Int × Int × Int)) × Int) → Option (((List (Int × Int × Int × Int)) × Int) ⊕ (List (Int × Int × Int × Int)))
  | (x1, x2) => (if p2 ≤ (AB ((AB (2 * x2)) + 1)) then some (.inr x1) else ((if (AB ((AB ((AB (2 * x2)) + 1)) + 1)) < p2 then (ix x1 (AB (p3 + (AB ((AB (2 * x2)) + 1))))).bind fun x5 => (ix x1 (AB ((AB (p3 + (AB ((AB (2 * x2)) + 1)))) + 1))).bind fun x6 => (BU x5 x6).bind fun x7 => some (decide (x7 < 0)) else some false).bind fun x4 => (if x4 = true then some (AB ((AB ((AB (2 * x2)) + 1)) + 1)) else some (AB ((AB (2 * x2)) + 1)))).bind fun x3 => (ix x1 (AB (p3 + x2))).bind fun x8 => (ix x1 (AB (p3 + x3))).bind fun x9 => (BU x8 x9).bind fun x10 => (if (!(decide (x10 < 0))) = true then some (.inr x1) else (ix x1 (AB (p3 + x3))).bind fun x11 => (ix x1 (AB (p3 + x2))).bind fun x12 => (ix x1 (AB (p3 + x2))).bind fun x13 => (ix (Ap x1 (AB (p3 + x2)) x11) (AB (p3 + x3))).bind fun x14 => some (.inl ((Ap (Ap x1 (AB (p3 + x2)) x11) (AB (p3 + x3)) x12), x3))))
noncomputable def BJ (p0 : List (Int × Int × Int × Int)) (p1 : Int) (p2 : Int) (p3 : Int) : Option (List (Int × Int × Int × Int)) := AG (AO p2 p3) (p0, p1)
theorem Ec (Y : Nat → Prop) (X : List Nat) (w0 : World) (v1 : Value) (p0 : List (Int × Int × Int × Int)) (p1 : Int) (p2 : Int) (p3 : Int) (r : (List (Int × Int × Int × Int))) (H : BJ p0 p1 p2 p3 = some r) (hL : Stw ⟨Y, X, w0⟩ [] [row v1 62 Bj p0] w0) :
    Calls Try.prog 78 #[v1, .int .i64 p1, .int .i64 p2, .int .i64 p3, .func (.func 26) #[] #[]] w0 fun e w' => ∃ x : Unit, e = .returned (.tuple #[]) ∧ Stw ⟨Y, X, w0⟩ [] [row v1 62 Bj r] w' := by
 refine enter Try.func78 Aa Try.ntmps78 Aa fun a F => ?_
 have W := hL
 unfold BJ at H
 refine Ah (Ac ?_)
 refine ls F W Aa (Ad F Aa).q fun a w F W => ?_
 refine ls F W Aa (Ag F Aa).q fun a w F W => ?_
 refine Ae (Ab (As ?_))
 refine Bb H (fun s a w => Fr 82 [] [(0, v1), (2, .int .i64 p2), (3, .int .i64 p3), (4, .func (.func 26) #[] #[]), (10, .int .i64 s.2)] a ∧ Stw ⟨Y, X, w0⟩ [] [row v1 62 Bj s.1] w) ⟨F.re ⟨rfl, Aa, Aa, Aa, Aa, trivial⟩, W⟩ fun s o a w H L1 hR => ?_
 obtain ⟨x1, x2⟩ := s
 obtain ⟨F, W⟩ := hR
 have F : Fr 82 [] [(0, v1), (2, .int .i64 p2), (3, .int .i64 p3), (4, .func (.func 26) #[] #[]), (10, .int .i64 x2)] a := F
 have W : Stw ⟨Y, X, w0⟩ [] [row v1 62 Bj x1] w := W
 rw [AO] at H
 refine As (Ah (Ac ?_))
 refine ls F W Aa (Ad F Aa).q fun a w F W => ?_
 refine ls F W Aa (MF F Aa Aa Aa).q fun a w F W => ?_
 refine ls F W Aa (BC F Aa Aa Aa).q fun a w F W => ?_
 refine ls F W Aa (Ag F Aa).q fun a w F W => ?_
 refine Ae (Ab (Ah (Ah (Ac ?_))))
 iterate 2 refine ls F W Aa (Ad F Aa).q fun a w F W => ?_
 refine ls F W Aa (DH F Aa Aa).q fun a w F W => ?_
 refine Ae (Ab ?_)
 refine AA F Aa (fun hb => ?_) fun hb => ?_
 ·
  have H := AS (BD hb) H
  rw [hb] at F
  clear hb
  refine A8 (Bq ?_)
  refine LB Aa ?_
  refine Bq (A9 ?_)
  have H := L1 _ H
  have H := AV H
  subst H
  refine HI (.inr Aa) F Aa ?_
  exact ⟨(), Aa, W⟩
 have H := AR (BB hb) H
 rw [hb] at F
 clear hb
 refine Av (Ab ?_)
 obtain ⟨o2, G2, K2⟩ := Ak H
 refine AM (fun a w => ∃ x3 : Int, some (x3) = some o2 ∧ Fr 82 [] [(0, v1), (2, .int .i64 p2), (3, .int .i64 p3), (4, .func (.func 26) #[] #[]), (10, .int .i64 x2), (11, .int .i64 x3)] a ∧ Stw ⟨Y, X, w0⟩ [] [row v1 62 Bj x1] w) ?_ ?_
 ·
  have H := G2
  clear G2 K2
  obtain ⟨o3, G3, K3⟩ := Ak H
  refine AM (fun a w => ∃ x4 : Bool, some (x4) = some o3 ∧ Fr 82 [] [(0, v1), (2, .int .i64 p2), (3, .int .i64 p3), (4, .func (.func 26) #[] #[]), (10, .int .i64 x2), (11, .int .i64 (AB ((AB (2 * x2)) + 1))), (40, .bool x4)] a ∧ Stw ⟨Y, X, w0⟩ [] [row v1 62 Bj x1] w) ?_ ?_
  ·
   have H := G3
   clear G3 K3
   refine BV W MO (by kernel_rfl) ?_
   refine qs F Aa (Ad F Aa).q fun a F => ?_
   refine qs F Aa (BC F Aa Aa Aa).q fun a F => ?_
   refine qs F Aa (Ad F Aa).q fun a F => ?_
   refine qs F Aa (Bu F Aa Aa).q fun a F => ?_
   refine qs F Aa (Ad F Aa).q fun a F => ?_
   rcases Bool.eq_false_or_eq_true (decide ((AB ((AB ((AB (2 * x2)) + 1)) + 1)) < p2)) with hb | hb
   ·
    have H := AS (BD hb) H
    rw [hb] at F
    clear hb
    iterate 4 refine Bc F (Af F Aa Aa Aa Aa) Aa (Ai Aa) (Ad F Aa).q fun a F => ?_
    refine Bc F (Af F Aa Aa Aa Aa) Aa (Ai Aa) (BC F Aa Aa Aa).q fun a F => ?_
    obtain ⟨x5, h1, H⟩ := Ak H
    refine Bc F (Af F Aa Aa Aa Aa) Aa (Ai Aa) (Ax (r := Bj) Ew F Aa Aa (An 0 Aa) h1).q fun a F => ?_
    refine Bc F (Af F Aa Aa Aa Aa) Aa (Ai Aa) (Ao (y := Value.agg #[.int .i64 x5.1, .int .i64 x5.2.1, .int .i64 x5.2.2.1, .int .i64 x5.2.2.2]) (j := 0) (i := AB (p3 + (AB ((AB (2 * x2)) + 1)))) F Aa Aa (An 0 Aa) h1 Ez.to Eh Aa).q fun a F => ?_
    iterate 3 refine Bc F (Af F Aa Aa Aa Aa) Aa (Ai Aa) (Ad F Aa).q fun a F => ?_
    iterate 2 refine Bc F (Af F Aa Aa Aa Aa) Aa (Ai Aa) (BC F Aa Aa Aa).q fun a F => ?_
    obtain ⟨x6, h2, H⟩ := Ak H
    refine Bc F (Af F Aa Aa Aa Aa) Aa (Ai Aa) (Ax (r := Bj) Ew F Aa Aa (An 0 Aa) h2).q fun a F => ?_
    refine Bc F (Af F Aa Aa Aa Aa) Aa (Ai Aa) (Ao (y := Value.agg #[.int .i64 x6.1, .int .i64 x6.2.1, .int .i64 x6.2.2.1, .int .i64 x6.2.2.2]) (j := 0) (i := AB ((AB (p3 + (AB ((AB (2 * x2)) + 1)))) + 1)) F Aa Aa (An 0 Aa) h2 Ez.to Eh Aa).q fun a F => ?_
    obtain ⟨x7, h3, H⟩ := Ak H
    refine Bc F (Af F Aa Aa Aa Aa) Aa (Ai Aa) (EU (ws := [.agg #[.int .i64 x5.1, .int .i64 x5.2.1, .int .i64 x5.2.2.1, .int .i64 x5.2.2.2], .agg #[.int .i64 x6.1, .int .i64 x6.2.1, .int .i64 x6.2.2.1, .int .i64 x6.2.2.2]]) (v := Value.int .i64 x7) F OC Aa (fun w W => Cg any w x5 x6 _ h3)) fun a F => ?_
    refine Bc F (Af F Aa Aa Aa Aa) Aa (Ai Aa) (Bu F Aa Aa).q fun a F => ?_
    refine qs F Aa (Aq F Aa Aa Aa).q fun a F => ?_
    refine AY fun w W => ?_
    refine Ab ?_
    exact ⟨_, H, F.re ⟨rfl, Aa, Aa, Aa, Aa, Aa, Aa, trivial⟩, W⟩
   have H := AR (BB hb) H
   rw [hb] at F
   clear hb
   iterate 16 refine Ds F (CM F Aa Aa Aa Aa Aa) Aa Aa fun a F => ?_
   refine qs F Aa (Az F Aa Aa Aa).q fun a F => ?_
   refine AY fun w W => ?_
   refine Ab ?_
   exact ⟨_, H, F.re ⟨rfl, Aa, Aa, Aa, Aa, Aa, Aa, trivial⟩, W⟩
  rintro a w ⟨x4, hj, F, W⟩
  have hj := AV hj
  subst hj
  have H := K3
  clear G3 K3
  refine AA F Aa (fun hb => ?_) fun hb => ?_
  ·
   have H := AS hb H
   rw [hb] at F
   clear hb
   refine Ac ?_
   refine ls F W Aa (Ad F Aa).q fun a w F W => ?_
   refine ls F W Aa (BC F Aa Aa Aa).q fun a w F W => ?_
   refine ls F W Aa (Ag F Aa).q fun a w F W => ?_
   refine Ae (Ab ?_)
   exact ⟨_, H, F.re ⟨rfl, Aa, Aa, Aa, Aa, Aa, trivial⟩, W⟩
  have H := AR (by rw [hb]; decide) H
  rw [hb] at F
  clear hb
  refine Av (Ab ?_)
  exact ⟨_, H, F.re ⟨rfl, Aa, Aa, Aa, Aa, Aa, trivial⟩, W⟩
 rintro a w ⟨x3, hj, F, W⟩
 have hj := AV hj
 subst hj
 have H := K2
 clear G2 K2
 iterate 2 refine Ah ?_
 refine BV W MO (by kernel_rfl) ?_
 iterate 4 refine qs F Aa (Ad F Aa).q fun a F => ?_
 refine qs F Aa (BC F Aa Aa Aa).q fun a F => ?_
 obtain ⟨x8, h4, H⟩ := Ak H
 refine qs F Aa (Ax (r := Bj) Ew F Aa Aa (An 0 Aa) h4).q fun a F => ?_
 refine qs F Aa (Ao (y := Value.agg #[.int .i64 x8.1, .int .i64 x8.2.1, .int .i64 x8.2.2.1, .int .i64 x8.2.2.2]) (j := 0) (i := AB (p3 + x2)) F Aa Aa (An 0 Aa) h4 Ez.to Eh Aa).q fun a F => ?_
 iterate 3 refine qs F Aa (Ad F Aa).q fun a F => ?_
 refine qs F Aa (BC F Aa Aa Aa).q fun a F => ?_
 obtain ⟨x9, h5, H⟩ := Ak H
 refine qs F Aa (Ax (r := Bj) Ew F Aa Aa (An 0 Aa) h5).q fun a F => ?_
 refine qs F Aa (Ao (y := Value.agg #[.int .i64 x9.1, .int .i64 x9.2.1, .int .i64 x9.2.2.1, .int .i64 x9.2.2.2]) (j := 0) (i := AB (p3 + x3)) F Aa Aa (An 0 Aa) h5 Ez.to Eh Aa).q fun a F => ?_
 obtain ⟨x10, h6, H⟩ := Ak H
 refine qs F Aa (EU (ws := [.agg #[.int .i64 x8.1, .int .i64 x8.2.1, .int .i64 x8.2.2.1, .int .i64 x8.2.2.2], .agg #[.int .i64 x9.1, .int .i64 x9.2.1, .int .i64 x9.2.2.1, .int .i64 x9.2.2.2]]) (v := Value.int .i64 x10) F OC Aa (fun w W => Cg any w x8 x9 _ h6)) fun a F => ?_
 refine qs F Aa (Bu F Aa Aa).q fun a F => ?_
 refine qs F Aa (Eb F Aa).q fun a F => ?_
 refine AY fun w W => ?_
 refine Ab ?_
 refine AA F Aa (fun hb => ?_) fun hb => ?_
 ·
  have H := AS hb H
  rw [hb] at F
  clear hb
  refine AF (AH (AQ (AH (AQ ?_))))
  have H := L1 _ H
  have H := AV H
  subst H
  refine HI (.inl Aa) F Aa ?_
  exact ⟨(), Aa, W⟩
 have H := AR (by rw [hb]; decide) H
 rw [hb] at F
 clear hb
 refine Av (Ab (Ah ?_))
 refine Gg [(true, 0), (true, 1), (true, 2), (true, 3), (true, 4), (true, 5), (true, 6), (true, 7), (true, 8), (true, 9), (true, 10), (true, 11), (true, 12), (true, 13), (true, 14), (true, 15), (true, 16), (true, 17), (true, 18), (true, 19), (true, 20), (false, 21), (true, 22), (false, 23)] (CN ⟨Y, X, w0⟩ [] [(some 21, row v1 62 Bj x1)]) (fun ch a d v w h => by cases d <;> exact h) MO (by kernel_rfl) W (fun w W => ⟨_, _, W, Bd, (all_cons (fun _ => (.head _)) Bd)⟩) fun w W => ?_
 iterate 3 refine B6 (R := []) F Aa Aa (yC fun M Z hN hZ => Ad F Aa) Aa Aa fun a F => ?_
 refine B6 (R := []) F Aa Aa (yC fun M Z hN hZ => BC F Aa Aa Aa) Aa Aa fun a F => ?_
 iterate 3 refine B6 (R := []) F Aa Aa (yC fun M Z hN hZ => Ad F Aa) Aa Aa fun a F => ?_
 refine B6 (R := []) F Aa Aa (yC fun M Z hN hZ => BC F Aa Aa Aa) Aa Aa fun a F => ?_
 iterate 3 refine B6 (R := []) F Aa Aa (yC fun M Z hN hZ => Ad F Aa) Aa Aa fun a F => ?_
 refine B6 (R := []) F Aa Aa (yC fun M Z hN hZ => BC F Aa Aa Aa) Aa Aa fun a F => ?_
 obtain ⟨x11, h7, H⟩ := Ak H
 refine B6 (R := []) F Aa Aa (yC fun M Z hN hZ => B1 (r := Bj) Ew F Aa Aa (DK W (An 0 Aa)) h7) Aa Aa fun a F => ?_
 refine B6 (R := [21]) F Aa Aa (yC fun M Z hN hZ => Ao (y := Value.agg #[.int .i64 x11.1, .int .i64 x11.2.1, .int .i64 x11.2.2.1, .int .i64 x11.2.2.2]) (j := 0) (i := AB (p3 + x3)) F Aa Aa (D3 (hZ ((some 21), row v1 62 Bj x1) (.head _) Aa)) h7 Ez.to Eh Aa) (by kernel_rfl) Aa fun a F => ?_
 iterate 3 refine B6 (R := []) F Aa Aa (yC fun M Z hN hZ => Ad F Aa) Aa Aa fun a F => ?_
 refine B6 (R := []) F Aa Aa (yC fun M Z hN hZ => BC F Aa Aa Aa) Aa Aa fun a F => ?_
 obtain ⟨x12, h8, H⟩ := Ak H
 refine B6 (R := []) F Aa Aa (yC fun M Z hN hZ => B1 (r := Bj) Ew F Aa Aa (DK W (An 0 Aa)) h8) Aa Aa fun a F => ?_
 refine B6 (R := [21]) F Aa Aa (yC fun M Z hN hZ => Ao (y := Value.agg #[.int .i64 x12.1, .int .i64 x12.2.1, .int .i64 x12.2.2.1, .int .i64 x12.2.2.2]) (j := 0) (i := AB (p3 + x2)) F Aa Aa (D3 (hZ ((some 21), row v1 62 Bj x1) (.head _) Aa)) h8 Ez.to Eh Aa) (by kernel_rfl) Aa fun a F => ?_
 obtain ⟨x13, h9, H⟩ := Ak H
 refine B6 (R := []) F Aa Aa (yC fun M Z hN hZ => B1 (r := Bj) Ew F Aa Aa (DK W (An 0 Aa)) h9) Aa Aa fun a F => ?_
 refine Ia Aa ?_
 refine Bz (i := AB (p3 + x2)) (j := 0) (vs := [.int .i64 x11.1, .int .i64 x11.2.1, .int .i64 x11.2.2.1, .int .i64 x11.2.2.2]) (x' := x11) F W Aa Aa Aa (k := 0) Aa Aa h9 Eh Aa Aa Aa Aa (fun A cs _ => Ez.sto (by rfl) _ _ _) fun w W => ?_
 refine DF (N2 := []) (NZ2 := []) (N3 := []) (NZ3 := [(some 21, row v1 62 Bj x1)]) W Aa Aa Bd (all_cons (fun h => Cq (by kernel_rfl) h) Bd) ?_
 obtain ⟨x14, h10, H⟩ := Ak H
 refine B6 (R := []) F Aa Aa (yC fun M Z hN hZ => B1 (r := Bj) Ew F Aa Aa (DK W (An 0 Aa)) h10) Aa Aa fun a F => ?_
 refine Ia Aa ?_
 refine Bz (i := AB (p3 + x3)) (j := 0) (vs := [.int .i64 x12.1, .int .i64 x12.2.1, .int .i64 x12.2.2.1, .int .i64 x12.2.2.2]) (x' := x12) F W Aa Aa Aa (k := 0) Aa Aa h10 Eh Aa Aa Aa Aa (fun A cs _ => Ez.sto (by rfl) _ _ _) fun w W => ?_
 refine DF (N2 := []) (NZ2 := []) (N3 := []) (NZ3 := [(some 21, row v1 62 Bj x1)]) W Aa Aa Bd (all_cons (fun h => Cq (by kernel_rfl) h) Bd) ?_
 refine Is (Ab (Ac ?_))
 refine ls F W Aa (Ad F Aa).q fun a w F W => ?_
 refine ls F W Aa (Ag F Aa).q fun a w F W => ?_
 refine Ae (AP (Ab ?_))
 exact ⟨_, H, F.re ⟨rfl, Aa, Aa, Aa, Aa, trivial⟩, W⟩
theorem S4 : Has Try.prog 78 := ⟨fun args w => Al Try.func78 rfl (by decide) args w⟩
noncomputable def Bn (p1 : Int) (p2 : Int) : ((List (Int × Int × Int × Int)) × Int) → Option (((List (Int × Int × Int × Int)) × Int) ⊕ (List (Int × Int × Int × Int)))
  | (x2, x3) => (if 0 ≤ x3 then (BJ x2 x3 (AB (p2 - p1)) p1).bind fun x4 => some (.inl (x4, AB (x3 - 1))) else some (.inr x2))
noncomputable def Bo (p1 : Int) : ((List (Int × Int × Int × Int)) × Int) → Option (((List (Int × Int × Int × Int)) × Int) ⊕ (List (Int × Int × Int × Int)))
  | (x5, x6) => (if 0 ≤ x6 then (ix x5 (AB (p1 + x6))).bind fun x7 => (ix x5 p1).bind fun x8 => (ix x5 p1).bind fun x9 => (ix (Ap x5 p1 x7) (AB (p1 + x6))).bind fun x10 => (BJ (Ap (Ap x5 p1 x7) (AB (p1 + x6)) x8) 0 x6 p1).bind fun x11 => some (.inl (x11, AB (x6 - 1))) else some (.inr x5))
noncomputable def BS (p0 : List (Int × Int × Int × Int)) (p1 : Int) (p2 : Int) : Option (List (Int × Int × Int × Int)) := (AG (Bn p1 p2) (p0, AB (Int.tdiv (AB ((AB (p2 - p1)) - 1)) 2))).bind fun x1 => AG (Bo p1) (x1, AB ((AB (p2 - p1)) - 1))
theorem Gd (Y : Nat → Prop) (X : List Nat) (w0 : World) (v1 : Value) (p0 : List (Int × Int × Int × Int)) (p1 : Int) (p2 : Int) (r : (List (Int × Int × Int × Int))) (H : BS p0 p1 p2 = some r) (hL : Stw ⟨Y, X, w0⟩ [] [row v1 62 Bj p0] w0) :
    Calls Try.prog 60 #[v1, .int .i64 p1, .int .i64 p2, .func (.func 26) #[] #[]] w0 fun e w' => ∃ x : Unit, e = .returned (.tuple #[]) ∧ Stw ⟨Y, X, w0⟩ [] [row v1 62 Bj r] w' := by
 refine enter Try.func60 Aa Try.ntmps60 Aa fun a F => ?_
 have W := hL
 unfold BS at H
 refine Ah (Ac ?_)
 refine ls F W Aa (Ad F Aa).q fun a w F W => ?_
 refine ls F W Aa (Ag F Aa).q fun a w F W => ?_
 refine Ae (Ab (Ah (Ac ?_)))
 refine ls F W Aa (Ag F Aa).q fun a w F W => ?_
 refine Ae (Ab (Ah (Ac ?_)))
 iterate 2 refine ls F W Aa (Ad F Aa).q fun a w F W => ?_
 refine ls F W Aa (Cx F Aa Aa Aa).q fun a w F W => ?_
 refine ls F W Aa (Ag F Aa).q fun a w F W => ?_
 refine Ae (Ab ?_)
 obtain ⟨o1, G1, K1⟩ := Ak H
 refine AM (fun a w => ∃ x1 : List (Int × Int × Int × Int), some (x1) = some o1 ∧ Fr 60 [] [(0, v1), (3, .func (.func 26) #[] #[]), (8, .int .i64 p1), (9, .int .i64 0), (10, .int .i64 (AB (p2 - p1)))] a ∧ Stw ⟨Y, X, w0⟩ [] [row v1 62 Bj x1] w) ?_ ?_
 ·
  have H := G1
  clear G1 K1
  refine Ah (Ac ?_)
  refine ls F W Aa (Ad F Aa).q fun a w F W => ?_
  refine ls F W Aa (Cx F Aa Aa Aa).q fun a w F W => ?_
  refine ls F W Aa (Ls F Aa Aa (by decide) Aa).q fun a w F W => ?_
  refine ls F W Aa (Ag F Aa).q fun a w F W => ?_
  refine Ae (Ab (As ?_))
  refine Bb H (fun s a w => Fr 60 [] [(0, v1), (3, .func (.func 26) #[] #[]), (8, .int .i64 p1), (9, .int .i64 0), (10, .int .i64 (AB (p2 - p1))), (11, .int .i64 s.2)] a ∧ Stw ⟨Y, X, w0⟩ [] [row v1 62 Bj s.1] w) ⟨F.re ⟨rfl, Aa, Aa, Aa, Aa, Aa, trivial⟩, W⟩ fun s o a w H L2 hR => ?_
  obtain ⟨x2, x3⟩ := s
  obtain ⟨F, W⟩ := hR
  have F : Fr 60 [] [(0, v1), (3, .func (.func 26) #[] #[]), (8, .int .i64 p1), (9, .int .i64 0), (10, .int .i64 (AB (p2 - p1))), (11, .int .i64 x3)] a := F
  have W : Stw ⟨Y, X, w0⟩ [] [row v1 62 Bj x2] w := W
  rw [Bn] at H
  refine Ah (Ah (Ac ?_))
  refine ls F W Aa (Ad F Aa).q fun a w F W => ?_
  refine ls F W Aa (DH F Aa Aa).q fun a w F W => ?_
  refine Ae (Ab ?_)
  refine AA F Aa (fun hb => ?_) fun hb => ?_
  ·
   have H := AS (BD hb) H
   rw [hb] at F
   clear hb
   refine Av (Ab (Ah (As (Ac ?_))))
   iterate 5 refine ls F W Aa (Ad F Aa).q fun a w F W => ?_
   obtain ⟨x4, h1, H⟩ := Ak H
   refine B7 (Ml := []) (Zl := [row v1 62 Bj x2]) (M := []) (Z := []) (β := Unit) (rv := fun x => .tuple #[]) (MM := fun x => []) (ZZ := fun x => [row v1 62 Bj x4]) F W S4 Aa Aa (fun hL => Ec _ _ w (v1) x2 x3 (AB (p2 - p1)) p1 _ h1 hL) fun x a w F W => ?_
   have W : Stw ⟨Y, X, w0⟩ [] [row v1 62 Bj x4] w := W
   refine Ae (AP (Ab (Ac ?_)))
   refine ls F W Aa (Ad F Aa).q fun a w F W => ?_
   refine ls F W Aa (Cx F Aa Aa Aa).q fun a w F W => ?_
   refine ls F W Aa (Ag F Aa).q fun a w F W => ?_
   refine Ae (Ab ?_)
   exact ⟨_, H, F.re ⟨rfl, Aa, Aa, Aa, Aa, Aa, trivial⟩, W⟩
  have H := AR (BB hb) H
  rw [hb] at F
  clear hb
  refine A8 ?_
  iterate 2 refine Bq ?_
  refine A9 (Ab ?_)
  have H := L2 _ H
  exact ⟨_, H, F.re ⟨rfl, Aa, Aa, Aa, Aa, trivial⟩, W⟩
 rintro a w ⟨x1, hj, F, W⟩
 have hj := AV hj
 subst hj
 have H := K1
 clear G1 K1
 refine Ah (Ac ?_)
 refine ls F W Aa (Ad F Aa).q fun a w F W => ?_
 refine ls F W Aa (Cx F Aa Aa Aa).q fun a w F W => ?_
 refine ls F W Aa (Ag F Aa).q fun a w F W => ?_
 refine Ae (Ab (As ?_))
 refine Bb H (fun s a w => Fr 60 [] [(0, v1), (3, .func (.func 26) #[] #[]), (8, .int .i64 p1), (9, .int .i64 0), (12, .int .i64 s.2)] a ∧ Stw ⟨Y, X, w0⟩ [] [row v1 62 Bj s.1] w) ⟨F.re ⟨rfl, Aa, Aa, Aa, Aa, trivial⟩, W⟩ fun s o a w H L3 hR => ?_
 obtain ⟨x5, x6⟩ := s
 obtain ⟨F, W⟩ := hR
 have F : Fr 60 [] [(0, v1), (3, .func (.func 26) #[] #[]), (8, .int .i64 p1), (9, .int .i64 0), (12, .int .i64 x6)] a := F
 have W : Stw ⟨Y, X, w0⟩ [] [row v1 62 Bj x5] w := W
 rw [Bo] at H
 refine Ah (Ah (Ac ?_))
 refine ls F W Aa (Ad F Aa).q fun a w F W => ?_
 refine ls F W Aa (DH F Aa Aa).q fun a w F W => ?_
 refine Ae (Ab ?_)
 refine AA F Aa (fun hb => ?_) fun hb => ?_
 ·
  have H := AS (BD hb) H
  rw [hb] at F
  clear hb
  refine Av (Ab (Ah (As (Ah ?_))))
  refine Gg [(true, 0), (true, 1), (true, 2), (true, 3), (true, 4), (true, 5), (true, 6), (true, 7), (true, 8), (true, 9), (true, 10), (true, 11), (true, 12), (true, 13), (true, 14), (true, 15), (true, 16), (false, 17), (true, 18), (false, 19)] (CN ⟨Y, X, w0⟩ [] [(some 17, row v1 62 Bj x5)]) (fun ch a d v w h => by cases d <;> exact h) MO (by kernel_rfl) W (fun w W => ⟨_, _, W, Bd, (all_cons (fun _ => (.head _)) Bd)⟩) fun w W => ?_
  iterate 5 refine B6 (R := []) F Aa Aa (yC fun M Z hN hZ => Ad F Aa) Aa Aa fun a F => ?_
  refine B6 (R := []) F Aa Aa (yC fun M Z hN hZ => BC F Aa Aa Aa) Aa Aa fun a F => ?_
  iterate 3 refine B6 (R := []) F Aa Aa (yC fun M Z hN hZ => Ad F Aa) Aa Aa fun a F => ?_
  refine B6 (R := []) F Aa Aa (yC fun M Z hN hZ => BC F Aa Aa Aa) Aa Aa fun a F => ?_
  obtain ⟨x7, h2, H⟩ := Ak H
  refine B6 (R := []) F Aa Aa (yC fun M Z hN hZ => B1 (r := Bj) Ew F Aa Aa (DK W (An 0 Aa)) h2) Aa Aa fun a F => ?_
  refine B6 (R := [17]) F Aa Aa (yC fun M Z hN hZ => Ao (y := Value.agg #[.int .i64 x7.1, .int .i64 x7.2.1, .int .i64 x7.2.2.1, .int .i64 x7.2.2.2]) (j := 0) (i := AB (p1 + x6)) F Aa Aa (D3 (hZ ((some 17), row v1 62 Bj x5) (.head _) Aa)) h2 Ez.to Eh Aa) (by kernel_rfl) Aa fun a F => ?_
  iterate 2 refine B6 (R := []) F Aa Aa (yC fun M Z hN hZ => Ad F Aa) Aa Aa fun a F => ?_
  obtain ⟨x8, h3, H⟩ := Ak H
  refine B6 (R := []) F Aa Aa (yC fun M Z hN hZ => B1 (r := Bj) Ew F Aa Aa (DK W (An 0 Aa)) h3) Aa Aa fun a F => ?_
  refine B6 (R := [17]) F Aa Aa (yC fun M Z hN hZ => Ao (y := Value.agg #[.int .i64 x8.1, .int .i64 x8.2.1, .int .i64 x8.2.2.1, .int .i64 x8.2.2.2]) (j := 0) (i := p1) F Aa Aa (D3 (hZ ((some 17), row v1 62 Bj x5) (.head _) Aa)) h3 Ez.to Eh Aa) (by kernel_rfl) Aa fun a F => ?_
  obtain ⟨x9, h4, H⟩ := Ak H
  refine B6 (R := []) F Aa Aa (yC fun M Z hN hZ => B1 (r := Bj) Ew F Aa Aa (DK W (An 0 Aa)) h4) Aa Aa fun a F => ?_
  refine Ia Aa ?_
  refine Bz (i := p1) (j := 0) (vs := [.int .i64 x7.1, .int .i64 x7.2.1, .int .i64 x7.2.2.1, .int .i64 x7.2.2.2]) (x' := x7) F W Aa Aa Aa (k := 0) Aa Aa h4 Eh Aa Aa Aa Aa (fun A cs _ => Ez.sto (by rfl) _ _ _) fun w W => ?_
  refine DF (N2 := []) (NZ2 := []) (N3 := []) (NZ3 := [(some 17, row v1 62 Bj x5)]) W Aa Aa Bd (all_cons (fun h => Cq (by kernel_rfl) h) Bd) ?_
  obtain ⟨x10, h5, H⟩ := Ak H
  refine B6 (R := []) F Aa Aa (yC fun M Z hN hZ => B1 (r := Bj) Ew F Aa Aa (DK W (An 0 Aa)) h5) Aa Aa fun a F => ?_
  refine Ia Aa ?_
  refine Bz (i := AB (p1 + x6)) (j := 0) (vs := [.int .i64 x8.1, .int .i64 x8.2.1, .int .i64 x8.2.2.1, .int .i64 x8.2.2.2]) (x' := x8) F W Aa Aa Aa (k := 0) Aa Aa h5 Eh Aa Aa Aa Aa (fun A cs _ => Ez.sto (by rfl) _ _ _) fun w W => ?_
  refine DF (N2 := []) (NZ2 := []) (N3 := []) (NZ3 := [(some 17, row v1 62 Bj x5)]) W Aa Aa Bd (all_cons (fun h => Cq (by kernel_rfl) h) Bd) ?_
  refine Is (Ab (Ac ?_))
  iterate 5 refine ls F W Aa (Ad F Aa).q fun a w F W => ?_
  obtain ⟨x11, h6, H⟩ := Ak H
  refine B7 (Ml := []) (Zl := [row v1 62 Bj (Ap (Ap x5 p1 x7) (AB (p1 + x6)) x8)]) (M := []) (Z := []) (β := Unit) (rv := fun x => .tuple #[]) (MM := fun x => []) (ZZ := fun x => [row v1 62 Bj x11]) F W S4 Aa Aa (fun hL => Ec _ _ w (v1) (Ap (Ap x5 p1 x7) (AB (p1 + x6)) x8) 0 x6 p1 _ h6 hL) fun x a w F W => ?_
  have W : Stw ⟨Y, X, w0⟩ [] [row v1 62 Bj x11] w := W
  refine Ae (AP (Ab (Ac ?_)))
  refine ls F W Aa (Ad F Aa).q fun a w F W => ?_
  refine ls F W Aa (Cx F Aa Aa Aa).q fun a w F W => ?_
  refine ls F W Aa (Ag F Aa).q fun a w F W => ?_
  refine Ae (Ab ?_)
  exact ⟨_, H, F.re ⟨rfl, Aa, Aa, Aa, Aa, trivial⟩, W⟩
 have H := AR (BB hb) H
 rw [hb] at F
 clear hb
 refine A8 ?_
 iterate 2 refine Bq ?_
 refine A9 ?_
 have H := L3 _ H
 have H := AV H
 subst H
 refine HI (.inr Aa) F Aa ?_
 exact ⟨(), Aa, W⟩
theorem Uo : Has Try.prog 60 := ⟨fun args w => Al Try.func60 rfl (by decide) args w⟩
noncomputable def Bw (p0 : List (Int × Int × Int × Int)) (p1 : Int) (p2 : Int) (p3 : Int) : Option (Int × Int × Int) := (ix p0 p2).bind fun x1 => (ix p0 p1).bind fun x2 => (BU x1 x2).bind fun x3 => (if x3 < 0 then some (p2, p1, AB (p3 + 1)) else some (p1, p2, p3))
theorem Dv (Y : Nat → Prop) (X : List Nat) (w0 : World) (v1 : Value) (q_p3 : Nat) (p0 : List (Int × Int × Int × Int)) (p1 : Int) (p2 : Int) (p3 : Int) (r : Int × Int × Int) (H : Bw p0 p1 p2 p3 = some r) (h_v1 : Sl w0 (NX X) Bj v1 p0) (hL : Stw ⟨Y, X, w0⟩ [(q_p3, [.int .i64 p3])] [] w0) :
    Calls Try.prog 94 #[v1, .int .i64 p1, .int .i64 p2, .pointer (some ⟨q_p3, 0, none⟩), .func (.func 26) #[] #[]] w0 fun e w' => ∃ x : Unit, e = .returned (.tuple #[.int .i64 r.1, .int .i64 r.2.1]) ∧ Stw ⟨Y, X, w0⟩ [(q_p3, [.int .i64 r.2.2])] [] w' := by
 refine enter Try.func94 Aa Try.ntmps94 Aa fun a F => ?_
 have W := hL
 unfold Bw at H
 refine Ah (Ac ?_)
 iterate 2 refine ls F W Aa (Ag F Aa).q fun a w F W => ?_
 refine Ae (Ab ?_)
 iterate 2 refine Ah ?_
 refine BV W MO (by kernel_rfl) ?_
 iterate 3 refine qs F Aa (Ad F Aa).q fun a F => ?_
 obtain ⟨x1, h1, H⟩ := Ak H
 refine qs F Aa (Ax (r := Bj) Ew F Aa Aa (Am h_v1) h1).q fun a F => ?_
 refine qs F Aa (Ao (y := Value.agg #[.int .i64 x1.1, .int .i64 x1.2.1, .int .i64 x1.2.2.1, .int .i64 x1.2.2.2]) (j := 0) (i := p2) F Aa Aa (Am h_v1) h1 Ez.to Eh Aa).q fun a F => ?_
 iterate 2 refine qs F Aa (Ad F Aa).q fun a F => ?_
 obtain ⟨x2, h2, H⟩ := Ak H
 refine qs F Aa (Ax (r := Bj) Ew F Aa Aa (Am h_v1) h2).q fun a F => ?_
 refine qs F Aa (Ao (y := Value.agg #[.int .i64 x2.1, .int .i64 x2.2.1, .int .i64 x2.2.2.1, .int .i64 x2.2.2.2]) (j := 0) (i := p1) F Aa Aa (Am h_v1) h2 Ez.to Eh Aa).q fun a F => ?_
 obtain ⟨x3, h3, H⟩ := Ak H
 refine qs F Aa (EU (ws := [.agg #[.int .i64 x1.1, .int .i64 x1.2.1, .int .i64 x1.2.2.1, .int .i64 x1.2.2.2], .agg #[.int .i64 x2.1, .int .i64 x2.2.1, .int .i64 x2.2.2.1, .int .i64 x2.2.2.2]]) (v := Value.int .i64 x3) F OC Aa (fun w W => Cg any w x1 x2 _ h3)) fun a F => ?_
 refine qs F Aa (Bu F Aa Aa).q fun a F => ?_
 refine AY fun w W => ?_
 refine Ab ?_
 refine AA F Aa (fun hb => ?_) fun hb => ?_
 ·
  have H := AS (BD hb) H
  rw [hb] at F
  clear hb
  refine Ah (Ac ?_)
  refine ls F W Aa (Ad F Aa).q fun a w F W => ?_
  refine ls F W Aa (DZ F Aa).q fun a w F W => ?_
  refine ls F W Aa (Aw (v := Value.int .i64 p3) 0 F Aa Aa T3 Aa).q fun a w F W => ?_
  refine ls F W Aa (BC F Aa Aa Aa).q fun a w F W => ?_
  refine ls F W Aa (DZ F Aa).q fun a w F W => ?_
  refine DC (vs := [.int .i64 (AB (p3 + 1))]) (M' := [(q_p3, [.int .i64 (AB (p3 + 1))])]) 0 F W Aa Aa Aa T3 Aa Aa Aa Aa Aa fun w W => ?_
  refine Ae (Ab (Ah (Ac ?_)))
  iterate 2 refine ls F W Aa (Ad F Aa).q fun a w F W => ?_
  iterate 2 refine ls F W Aa (Ag F Aa).q fun a w F W => ?_
  refine Ae (Ab (AF (AH ?_)))
  have H := AV H
  subst H
  refine EO (.inl Aa) F W Aa (Ay F Aa) (Ay F Aa) ?_
  exact ⟨(), Aa, W⟩
 have H := AR (BB hb) H
 rw [hb] at F
 clear hb
 refine Av (Ab (Ah (Ac ?_)))
 iterate 2 refine ls F W Aa (Ad F Aa).q fun a w F W => ?_
 iterate 2 refine ls F W Aa (Ag F Aa).q fun a w F W => ?_
 refine Ae (Ab (AF ?_))
 have H := AV H
 subst H
 refine EO (.inl Aa) F W Aa (Ay F Aa) (Ay F Aa) ?_
 exact ⟨(), Aa, W⟩
theorem SB : Has Try.prog 94 := ⟨fun args w => Al Try.func94 rfl (by decide) args w⟩
noncomputable def Bv (p0 : List (Int × Int × Int × Int)) (p1 : Int) (p2 : Int) (p3 : Int) (p4 : Int) : Option (Int × Int) := (Bw p0 p1 p2 p4).bind fun x1 => (Bw p0 x1.2.1 p3 x1.2.2).bind fun x2 => (Bw p0 x1.1 x2.1 x2.2.2).bind fun x3 => some (x3.2.1, x3.2.2)
theorem EA (Y : Nat → Prop) (X : List Nat) (w0 : World) (v1 : Value) (q_p4 : Nat) (p0 : List (Int × Int × Int × Int)) (p1 : Int) (p2 : Int) (p3 : Int) (p4 : Int) (r : Int × Int) (H : Bv p0 p1 p2 p3 p4 = some r) (h_v1 : Sl w0 (NX X) Bj v1 p0) (hL : Stw ⟨Y, X, w0⟩ [(q_p4, [.int .i64 p4])] [] w0) :
    Calls Try.prog 82 #[v1, .int .i64 p1, .int .i64 p2, .int .i64 p3, .pointer (some ⟨q_p4, 0, none⟩), .func (.func 26) #[] #[]] w0 fun e w' => ∃ x : Unit, e = .returned (.int .i64 r.1) ∧ Stw ⟨Y, X, w0⟩ [(q_p4, [.int .i64 r.2])] [] w' := by
 refine enter Try.func82 Aa Try.ntmps82 Aa fun a F => ?_
 have W := hL
 unfold Bv at H
 refine Ah (Ac ?_)
 refine ls F W Aa (Ag F Aa).q fun a w F W => ?_
 refine Ae (Ab (Ah (Ac ?_)))
 iterate 5 refine ls F W Aa (Ad F Aa).q fun a w F W => ?_
 obtain ⟨x1, h1, H⟩ := Ak H
 refine B7 (Ml := [(q_p4, [.int .i64 p4])]) (Zl := []) (M := []) (Z := []) (β := Unit) (rv := fun x => .tuple #[.int .i64 x1.1, .int .i64 x1.2.1]) (MM := fun x => [(q_p4, [.int .i64 x1.2.2])]) (ZZ := fun x => []) F W SB Aa Aa (fun hL => Dv _ _ w (v1) q_p4 p0 p1 p2 p4 _ h1 (W.roX h_v1 (fun g hg => Ik hg)) hL) fun x a w F W => ?_
 have W : Stw ⟨Y, X, w0⟩ [(q_p4, [.int .i64 x1.2.2])] [] w := W
 refine ls F W Aa (Ad F Aa).q fun a w F W => ?_
 refine ls F W Aa (Bi (v := Value.int .i64 x1.1) F Aa Aa).q fun a w F W => ?_
 refine ls F W Aa (Bi (v := Value.int .i64 x1.2.1) F Aa Aa).q fun a w F W => ?_
 iterate 2 refine ls F W Aa (Ag F Aa).q fun a w F W => ?_
 refine Ae (Ab (Ah (Ac ?_)))
 iterate 5 refine ls F W Aa (Ad F Aa).q fun a w F W => ?_
 obtain ⟨x2, h2, H⟩ := Ak H
 refine B7 (Ml := [(q_p4, [.int .i64 x1.2.2])]) (Zl := []) (M := []) (Z := []) (β := Unit) (rv := fun x => .tuple #[.int .i64 x2.1, .int .i64 x2.2.1]) (MM := fun x => [(q_p4, [.int .i64 x2.2.2])]) (ZZ := fun x => []) F W SB Aa Aa (fun hL => Dv _ _ w (v1) q_p4 p0 x1.2.1 p3 x1.2.2 _ h2 (W.roX h_v1 (fun g hg => Ik hg)) hL) fun x a w F W => ?_
 have W : Stw ⟨Y, X, w0⟩ [(q_p4, [.int .i64 x2.2.2])] [] w := W
 refine ls F W Aa (Ad F Aa).q fun a w F W => ?_
 refine ls F W Aa (Bi (v := Value.int .i64 x2.1) F Aa Aa).q fun a w F W => ?_
 refine ls F W Aa (Bi (v := Value.int .i64 x2.2.1) F Aa Aa).q fun a w F W => ?_
 iterate 2 refine ls F W Aa (Ag F Aa).q fun a w F W => ?_
 refine Ae (Ab (Ah (Ac ?_)))
 iterate 5 refine ls F W Aa (Ad F Aa).q fun a w F W => ?_
 obtain ⟨x3, h3, H⟩ := Ak H
 refine B7 (Ml := [(q_p4, [.int .i64 x2.2.2])]) (Zl := []) (M := []) (Z := []) (β := Unit) (rv := fun x => .tuple #[.int .i64 x3.1, .int .i64 x3.2.1]) (MM := fun x => [(q_p4, [.int .i64 x3.2.2])]) (ZZ := fun x => []) F W SB Aa Aa (fun hL => Dv _ _ w (v1) q_p4 p0 x1.1 x2.1 x2.2.2 _ h3 (W.roX h_v1 (fun g hg => Ik hg)) hL) fun x a w F W => ?_
 have W : Stw ⟨Y, X, w0⟩ [(q_p4, [.int .i64 x3.2.2])] [] w := W
 refine ls F W Aa (Ad F Aa).q fun a w F W => ?_
 refine ls F W Aa (Bi (v := Value.int .i64 x3.1) F Aa Aa).q fun a w F W => ?_
 refine ls F W Aa (Bi (v := Value.int .i64 x3.2.1) F Aa Aa).q fun a w F W => ?_
 iterate 2 refine ls F W Aa (Ag F Aa).q fun a w F W => ?_
 refine Ae (Ab (Ah (Ac ?_)))
 refine ls F W Aa (Ad F Aa).q fun a w F W => ?_
 refine ls F W Aa (Ag F Aa).q fun a w F W => ?_
 refine Ae (Ab (AF ?_))
 have H := AV H
 subst H
 refine BK (.inl Aa) F W Aa (Ay F Aa) ?_
 exact ⟨(), Aa, W⟩
theorem Tc : Has Try.prog 82 := ⟨fun args w => Al Try.func82 rfl (by decide) args w⟩
noncomputable def AW (p0 : List (Int × Int × Int × Int)) (p1 : Int) (p2 : Int) : Option (Int × Int) := (Bv p0 (AB (p1 - 1)) p1 (AB (p1 + 1)) p2).bind fun x1 => some (x1.1, x1.2)
theorem CD (Y : Nat → Prop) (X : List Nat) (w0 : World) (v1 : Value) (q_p2 : Nat) (p0 : List (Int × Int × Int × Int)) (p1 : Int) (p2 : Int) (r : Int × Int) (H : AW p0 p1 p2 = some r) (h_v1 : Sl w0 (NX X) Bj v1 p0) (hL : Stw ⟨Y, X, w0⟩ [(q_p2, [.int .i64 p2])] [] w0) :
    Calls Try.prog 81 #[v1, .int .i64 p1, .pointer (some ⟨q_p2, 0, none⟩), .func (.func 26) #[] #[]] w0 fun e w' => ∃ x : Unit, e = .returned (.int .i64 r.1) ∧ Stw ⟨Y, X, w0⟩ [(q_p2, [.int .i64 r.2])] [] w' := by
 refine enter Try.func81 Aa Try.ntmps81 Aa fun a F => ?_
 have W := hL
 unfold AW at H
 refine Ah (Ac ?_)
 refine ls F W Aa (Ag F Aa).q fun a w F W => ?_
 refine Ae (Ab (Ah (Ac ?_)))
 iterate 2 refine ls F W Aa (Ad F Aa).q fun a w F W => ?_
 refine ls F W Aa (Cx F Aa Aa Aa).q fun a w F W => ?_
 iterate 2 refine ls F W Aa (Ad F Aa).q fun a w F W => ?_
 refine ls F W Aa (BC F Aa Aa Aa).q fun a w F W => ?_
 iterate 2 refine ls F W Aa (Ad F Aa).q fun a w F W => ?_
 obtain ⟨x1, h1, H⟩ := Ak H
 refine B7 (Ml := [(q_p2, [.int .i64 p2])]) (Zl := []) (M := []) (Z := []) (β := Unit) (rv := fun x => .int .i64 x1.1) (MM := fun x => [(q_p2, [.int .i64 x1.2])]) (ZZ := fun x => []) F W Tc Aa Aa (fun hL => EA _ _ w (v1) q_p2 p0 (AB (p1 - 1)) p1 (AB (p1 + 1)) p2 _ h1 (W.roX h_v1 (fun g hg => Ik hg)) hL) fun x a w F W => ?_
 have W : Stw ⟨Y, X, w0⟩ [(q_p2, [.int .i64 x1.2])] [] w := W
 refine ls F W Aa (Ag F Aa).q fun a w F W => ?_
 refine Ae (Ab (AF ?_))
 have H := AV H
 subst H
 refine BK (.inl Aa) F W Aa (Ay F Aa) ?_
 exact ⟨(), Aa, W⟩
theorem SP : Has Try.prog 81 := ⟨fun args w => Al Try.func81 rfl (by decide) args w⟩
noncomputable def BN (p0 : List (Int × Int × Int × Int)) (p1 : Int) (p2 : Int) : Option (Int × Int) := (if 8 ≤ (AB (p2 - p1)) then (if 50 ≤ (AB (p2 - p1)) then (AW p0 (AB (p1 + (AB ((AB (Int.tdiv (AB (p2 - p1)) 4)) * 1)))) 0).bind fun x7 => (AW p0 (AB (p1 + (AB ((AB (Int.tdiv (AB (p2 - p1)) 4)) * 2)))) x7.2).bind fun x8 => (AW p0 (AB (p1 + (AB ((AB (Int.tdiv (AB (p2 - p1)) 4)) * 3)))) x8.2).bind fun x9 => some (x7.1, x8.1, x9.1, x9.2) else some (AB (p1 + (AB ((AB (Int.tdiv (AB (p2 - p1)) 4)) * 1))), AB (p1 + (AB ((AB (Int.tdiv (AB (p2 - p1)) 4)) * 2))), AB (p1 + (AB ((AB (Int.tdiv (AB (p2 - p1)) 4)) * 3))), 0)).bind fun (x3, x4, x5, x6) => (Bv p0 x3 x4 x5 x6).bind fun x10 => some (x10.1, x10.2) else some (AB (p1 + (AB ((AB (Int.tdiv (AB (p2 - p1)) 4)) * 2))), 0)).bind fun (x1, x2) => (if x2 = 0 then some (x1, 1) else (if x2 = 12 then some (x1, 2) else some (x1, 0)))
theorem FQ (Y : Nat → Prop) (w0 : World) (v1 : Value) (p0 : List (Int × Int × Int × Int)) (p1 : Int) (p2 : Int) (r : Int × Int) (H : BN p0 p1 p2 = some r) (h_v1 : Sl w0 (NX []) Bj v1 p0) :
    Calls Try.prog 62 #[v1, .int .i64 p1, .int .i64 p2, .func (.func 26) #[] #[]] w0 fun e w' => e = .returned (.tuple #[.int .i64 r.1, .int .i64 r.2]) ∧ Below w0.heap.size w0 w' := by
 refine enter Try.func62 Aa Try.ntmps62 Aa fun a F => ?_
 have W := Stw.start Y w0
 unfold BN at H
 refine Ah (Ac ?_)
 iterate 2 refine ls F W Aa (Ag F Aa).q fun a w F W => ?_
 refine Ae (Ab (Ah (Ac ?_)))
 iterate 2 refine ls F W Aa (Ad F Aa).q fun a w F W => ?_
 refine ls F W Aa (Cx F Aa Aa Aa).q fun a w F W => ?_
 refine ls F W Aa (Ag F Aa).q fun a w F W => ?_
 refine Ae (Ab (Ah (Ac ?_)))
 refine DX (cs := [.int .i64 0]) F W Aa Z3 Aa fun b1 a w F W => ?_
 refine Ae (Ab (Ah (Ac ?_)))
 iterate 2 refine ls F W Aa (Ad F Aa).q fun a w F W => ?_
 refine ls F W Aa (Ls F Aa Aa (by decide) Aa).q fun a w F W => ?_
 refine ls F W Aa (MF F Aa Aa Aa).q fun a w F W => ?_
 refine ls F W Aa (BC F Aa Aa Aa).q fun a w F W => ?_
 refine ls F W Aa (Ag F Aa).q fun a w F W => ?_
 refine Ae (Ab (Ah (Ac ?_)))
 iterate 2 refine ls F W Aa (Ad F Aa).q fun a w F W => ?_
 refine ls F W Aa (Ls F Aa Aa (by decide) Aa).q fun a w F W => ?_
 refine ls F W Aa (MF F Aa Aa Aa).q fun a w F W => ?_
 refine ls F W Aa (BC F Aa Aa Aa).q fun a w F W => ?_
 refine ls F W Aa (Ag F Aa).q fun a w F W => ?_
 refine Ae (Ab (Ah (Ac ?_)))
 iterate 2 refine ls F W Aa (Ad F Aa).q fun a w F W => ?_
 refine ls F W Aa (Ls F Aa Aa (by decide) Aa).q fun a w F W => ?_
 refine ls F W Aa (MF F Aa Aa Aa).q fun a w F W => ?_
 refine ls F W Aa (BC F Aa Aa Aa).q fun a w F W => ?_
 refine ls F W Aa (Ag F Aa).q fun a w F W => ?_
 refine Ae (Ab ?_)
 obtain ⟨o1, G1, K1⟩ := Ak H
 refine AM (fun a w => ∃ x1 : Int, ∃ x2 : Int, some ((x1, x2)) = some o1 ∧ Fr 63 [] [(8, .int .i64 0), (9, .int .i64 0), (11, .pointer (some ⟨b1, 0, none⟩)), (13, .int .i64 x1)] a ∧ Stw ⟨Y, [], w0⟩ [(b1, [.int .i64 x2])] [] w) ?_ ?_
 ·
  have H := G1
  clear G1 K1
  refine Ah (Ac ?_)
  refine ls F W Aa (Ad F Aa).q fun a w F W => ?_
  refine ls F W Aa (DH F Aa Aa).q fun a w F W => ?_
  refine Ae (Ab ?_)
  refine AA F Aa (fun hb => ?_) fun hb => ?_
  ·
   have H := AS (BD hb) H
   rw [hb] at F
   clear hb
   obtain ⟨o2, G2, K2⟩ := Ak H
   refine AM (fun a w => ∃ x3 : Int, ∃ x4 : Int, ∃ x5 : Int, ∃ x6 : Int, some ((x3, x4, x5, x6)) = some o2 ∧ Fr 63 [] [(0, v1), (3, .func (.func 26) #[] #[]), (8, .int .i64 0), (9, .int .i64 0), (11, .pointer (some ⟨b1, 0, none⟩)), (12, .int .i64 x3), (13, .int .i64 x4), (14, .int .i64 x5)] a ∧ Stw ⟨Y, [], w0⟩ [(b1, [.int .i64 x6])] [] w) ?_ ?_
   ·
    have H := G2
    clear G2 K2
    refine Ah (Ac ?_)
    refine ls F W Aa (Ad F Aa).q fun a w F W => ?_
    refine ls F W Aa (DH F Aa Aa).q fun a w F W => ?_
    refine Ae (Ab ?_)
    refine AA F Aa (fun hb => ?_) fun hb => ?_
    ·
     have H := AS (BD hb) H
     rw [hb] at F
     clear hb
     refine Ah (Ac ?_)
     iterate 3 refine ls F W Aa (Ad F Aa).q fun a w F W => ?_
     obtain ⟨x7, h1, H⟩ := Ak H
     refine B7 (Ml := [(b1, [.int .i64 0])]) (Zl := []) (M := []) (Z := []) (β := Unit) (rv := fun x => .int .i64 x7.1) (MM := fun x => [(b1, [.int .i64 x7.2])]) (ZZ := fun x => []) F W SP Aa Aa (fun hL => CD _ _ w (v1) b1 p0 (AB (p1 + (AB ((AB (Int.tdiv (AB (p2 - p1)) 4)) * 1)))) 0 _ h1 (W.roX h_v1 (fun g hg => Ik hg)) hL) fun x a w F W => ?_
     have W : Stw ⟨Y, [], w0⟩ [(b1, [.int .i64 x7.2])] [] w := W
     refine ls F W Aa (Ag F Aa).q fun a w F W => ?_
     refine Ae (Ab (Ah (Ac ?_)))
     iterate 3 refine ls F W Aa (Ad F Aa).q fun a w F W => ?_
     obtain ⟨x8, h2, H⟩ := Ak H
     refine B7 (Ml := [(b1, [.int .i64 x7.2])]) (Zl := []) (M := []) (Z := []) (β := Unit) (rv := fun x => .int .i64 x8.1) (MM := fun x => [(b1, [.int .i64 x8.2])]) (ZZ := fun x => []) F W SP Aa Aa (fun hL => CD _ _ w (v1) b1 p0 (AB (p1 + (AB ((AB (Int.tdiv (AB (p2 - p1)) 4)) * 2)))) x7.2 _ h2 (W.roX h_v1 (fun g hg => Ik hg)) hL) fun x a w F W => ?_
     have W : Stw ⟨Y, [], w0⟩ [(b1, [.int .i64 x8.2])] [] w := W
     refine ls F W Aa (Ag F Aa).q fun a w F W => ?_
     refine Ae (Ab (Ac ?_))
     iterate 3 refine ls F W Aa (Ad F Aa).q fun a w F W => ?_
     obtain ⟨x9, h3, H⟩ := Ak H
     refine B7 (Ml := [(b1, [.int .i64 x8.2])]) (Zl := []) (M := []) (Z := []) (β := Unit) (rv := fun x => .int .i64 x9.1) (MM := fun x => [(b1, [.int .i64 x9.2])]) (ZZ := fun x => []) F W SP Aa Aa (fun hL => CD _ _ w (v1) b1 p0 (AB (p1 + (AB ((AB (Int.tdiv (AB (p2 - p1)) 4)) * 3)))) x8.2 _ h3 (W.roX h_v1 (fun g hg => Ik hg)) hL) fun x a w F W => ?_
     have W : Stw ⟨Y, [], w0⟩ [(b1, [.int .i64 x9.2])] [] w := W
     refine ls F W Aa (Ag F Aa).q fun a w F W => ?_
     refine Ae (Ab ?_)
     exact ⟨_, _, _, _, H, F.re ⟨rfl, Aa, Aa, Aa, Aa, Aa, Aa, Aa, trivial⟩, W⟩
    have H := AR (BB hb) H
    rw [hb] at F
    clear hb
    refine Av (Ab ?_)
    exact ⟨_, _, _, _, H, F.re ⟨rfl, Aa, Aa, Aa, Aa, Aa, Aa, Aa, trivial⟩, W⟩
   rintro a w ⟨x3, x4, x5, x6, hj, F, W⟩
   have hj := AV hj
   subst hj
   have H := K2
   clear G2 K2
   refine Ac ?_
   iterate 5 refine ls F W Aa (Ad F Aa).q fun a w F W => ?_
   obtain ⟨x10, h4, H⟩ := Ak H
   refine B7 (Ml := [(b1, [.int .i64 x6])]) (Zl := []) (M := []) (Z := []) (β := Unit) (rv := fun x => .int .i64 x10.1) (MM := fun x => [(b1, [.int .i64 x10.2])]) (ZZ := fun x => []) F W Tc Aa Aa (fun hL => EA _ _ w (v1) b1 p0 x3 x4 x5 x6 _ h4 (W.roX h_v1 (fun g hg => Ik hg)) hL) fun x a w F W => ?_
   have W : Stw ⟨Y, [], w0⟩ [(b1, [.int .i64 x10.2])] [] w := W
   refine ls F W Aa (Ag F Aa).q fun a w F W => ?_
   refine Ae (Ab ?_)
   exact ⟨_, _, H, F.re ⟨rfl, Aa, Aa, Aa, trivial⟩, W⟩
  have H := AR (BB hb) H
  rw [hb] at F
  clear hb
  refine Av (Ab ?_)
  exact ⟨_, _, H, F.re ⟨rfl, Aa, Aa, Aa, trivial⟩, W⟩
 rintro a w ⟨x1, x2, hj, F, W⟩
 have hj := AV hj
 subst hj
 have H := K1
 clear G1 K1
 refine Ah (Ac ?_)
 refine ls F W Aa (Aw (v := Value.int .i64 x2) 0 F Aa Aa T3 Aa).q fun a w F W => ?_
 refine Ae (Ab (As (Ah (Ac ?_))))
 refine ls F W Aa (DP F Aa Aa).q fun a w F W => ?_
 refine ls F W Aa (Ag F Aa).q fun a w F W => ?_
 refine Ae (Ab ?_)
 refine AA F Aa (fun hb => ?_) fun hb => ?_
 ·
  have H := AS (BD hb) H
  rw [hb] at F
  clear hb
  refine Ah (Ac ?_)
  refine ls F W Aa (Ad F Aa).q fun a w F W => ?_
  iterate 2 refine ls F W Aa (Ag F Aa).q fun a w F W => ?_
  refine Ae (Ab (AF (AQ ?_)))
  have H := AV H
  subst H
  refine EO (.inl Aa) F W Aa (Ay F Aa) (Ay F Aa) ?_
  exact ⟨rfl, W.done⟩
 have H := AR (BB hb) H
 rw [hb] at F
 clear hb
 refine Ah (Ac ?_)
 refine ls F W Aa (DP F Aa Aa).q fun a w F W => ?_
 refine ls F W Aa (Ag F Aa).q fun a w F W => ?_
 refine Ae (Ab ?_)
 refine AA F Aa (fun hb => ?_) fun hb => ?_
 ·
  have H := AS (BD hb) H
  rw [hb] at F
  clear hb
  refine Ah (Ac ?_)
  refine ls F W Aa (Ad F Aa).q fun a w F W => ?_
  iterate 2 refine ls F W Aa (Ag F Aa).q fun a w F W => ?_
  refine Ae (Ab (AF (AQ ?_)))
  have H := AV H
  subst H
  refine EO (.inl Aa) F W Aa (Ay F Aa) (Ay F Aa) ?_
  exact ⟨rfl, W.done⟩
 have H := AR (BB hb) H
 rw [hb] at F
 clear hb
 refine Ah (Ac ?_)
 refine ls F W Aa (Ad F Aa).q fun a w F W => ?_
 iterate 2 refine ls F W Aa (Ag F Aa).q fun a w F W => ?_
 refine Ae (Ab (AF (AQ ?_)))
 have H := AV H
 subst H
 refine EO (.inl Aa) F W Aa (Ay F Aa) (Ay F Aa) ?_
 exact ⟨rfl, W.done⟩
end Go.Proofs.Ythiejmoddfenlaa
