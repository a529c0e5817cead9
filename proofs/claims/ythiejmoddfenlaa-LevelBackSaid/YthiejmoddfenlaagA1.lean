/- The functions of layer 23, HM. Conditions: none. -/
import Derived.Test.YthiejmoddfenlaagA0
namespace Go.Proofs.Ythiejmoddfenlaa
open Go Go.RowKit
set_option linter.unusedVariables false
set_option linter.unusedSimpArgs false
set_option maxRecDepth 20000
theorem S9 : Has Try.prog 50 := ⟨fun args w => Am Try.func50 rfl (by decide) args w⟩
noncomputable def DD (p0 : Int × (List (Int × Int × Int × Int × Int × Int)) × (List (Int × Int))) (p1 : List (List Int)) (p3 : Int) : (Int × List Int) → Option ((Int × List Int) ⊕ ((List Int) ⊕ (List Int × Int)))
  | (x2, x3) => (ix p1 x2).bind fun x4 => (ix x4 p3).bind fun x5 => (ER p0 x2 x5).bind fun x6 => (if x6 ≠ p3 then (Gb p0 p1 x2 p3).bind fun x7 => (if (!x7.2) = true then some (.inr (.inr (([] : List Int), 13))) else (Dh x3 x7.1).bind fun x8 => (if x8 = true then some (.inr (.inr (([] : List Int), 12))) else (LZ x3 ([x7.1] : List Int)).bind fun x9 => some (.inl (x7.1, x9)))) else some (.inr (.inl x3)))
noncomputable def Fy (p0 : Int × (List (Int × Int × Int × Int × Int × Int)) × (List (Int × Int))) (p1 : List (List Int)) (p2 : Int) (p3 : Int) : Option (List Int × Int) := FN (AO (DD p0 p1 p3) (p2, ([p2] : List Int))) fun x1 => some (x1, 0)
theorem JE (Y : Nat → Prop) (w0 : World) (v1 : Value) (v2 : Value) (v3 : Value) (p0 : Int × (List (Int × Int × Int × Int × Int × Int)) × (List (Int × Int))) (p1 : List (List Int)) (p2 : Int) (p3 : Int) (r : List Int × Int) (H : Fy p0 p1 p2 p3 = some r) (h_v1 : Sl w0 (NX []) Hu v1 p0.2.1) (h_v2 : Sl w0 (NX []) GH v2 p0.2.2) (h_v3 : Sl w0 (NX []) (Rp.slice (Rp.int .i64)) v3 p1) :
    Calls Try.prog 30 #[.agg #[.int .i64 p0.1, v1, v2], v3, .int .i64 p2, .int .i64 p3] w0 fun e w' => ∃ x : Value, e = .returned (.tuple #[x, .int .i64 r.2]) ∧ Stw ⟨Y, [], w0⟩ [] [row (x) 3 (Rp.int .i64) r.1] w' := by
 refine enter Try.func30 Aa Try.ntmps30 Aa fun a F => ?_
 have W := Stw.start Y w0
 obtain ⟨v4, h1, h_v3⟩ := h_v3.ex CR
 unfold Fy at H
 refine Ah (Ac ?_)
 refine E0 (cs := [.int .i64 p0.1, v1, v2]) F W Aa Aa Aa fun b1 a w F W => ?_
 iterate 2 refine ls F W Aa (Ag F Aa).q fun a w F W => ?_
 refine Ae (Ab (Ah (Ac ?_)))
 refine ls F W Aa (Ad F Aa).q fun a w F W => ?_
 refine Fo (z := Value.int .i64 0) (cs := [.int .i64 p2]) (Rp.int .i64) ([p2] : List Int) F W Aa GP Z3 Aa Aa Aa Aa Aa Aa (Fl.int.repL _ _ ([p2] : List Int)) fun v5 a w F W => ?_
 refine ls F W Aa (Ag F Aa).q fun a w F W => ?_
 refine Ae (Ab ?_)
 obtain ⟨o1, G1, K1, L1⟩ := Jq H
 refine AM (fun a w => ∃ x1 : List Int, ∃ v6 : Value, some (Sum.inl x1) = some o1 ∧ Fr 46 [] [(8, .slice none 0 0), (9, .int .i64 0), (10, v6)] a ∧ Stw ⟨Y, [], w0⟩ [(b1, [.int .i64 p0.1, v1, v2])] [row v6 3 (Rp.int .i64) x1] w) ?_ ?_
 ·
  have H := G1
  clear G1 K1
  refine Av ?_
  refine Bk H (fun s a w => ∃ v7 : Value, Fr 46 [] [(1, v3), (2, .int .i64 s.1), (3, .int .i64 p3), (4, .pointer (some ⟨b1, 0, none⟩)), (8, .slice none 0 0), (9, .int .i64 0), (10, v7)] a ∧ Stw ⟨Y, [], w0⟩ [(b1, [.int .i64 p0.1, v1, v2])] [row v7 3 (Rp.int .i64) s.2] w) ⟨(v5), F.re ⟨rfl, Aa, Aa, Aa, Aa, Aa, Aa, trivial⟩, W⟩ fun s o a w H L2 hR => ?_
  obtain ⟨x2, x3⟩ := s
  obtain ⟨v7, F, W⟩ := hR
  have F : Fr 46 [] [(1, v3), (2, .int .i64 x2), (3, .int .i64 p3), (4, .pointer (some ⟨b1, 0, none⟩)), (8, .slice none 0 0), (9, .int .i64 0), (10, v7)] a := F
  have W : Stw ⟨Y, [], w0⟩ [(b1, [.int .i64 p0.1, v1, v2])] [row v7 3 (Rp.int .i64) x3] w := W
  rw [DD] at H
  iterate 2 refine Ah ?_
  refine BQ W MO (by kernel_rfl) ?_
  refine qs F Aa (Az (v := Value.agg #[.int .i64 p0.1, v1, v2]) 0 F Aa Aa JB Aa).q fun a F => ?_
  iterate 3 refine qs F Aa (Ad F Aa).q fun a F => ?_
  obtain ⟨x4, h2, H⟩ := Al H
  obtain ⟨v8, h3, h4⟩ := EC h1 h2
  have h5 : EJ v8 = [(v8.1)] := congrArg (fun q : List Int => ([(v8.1)] : List Value)) h4
  refine qs F Aa (Ax (r := (Rp.vsl (Rp.int .i64))) J0 F Aa Aa (Ao h_v3) h3).q fun a F => ?_
  refine qs F Aa (Ap (y := (v8.1)) (j := 0) (i := x2) (enc := EJ) F Aa Aa (Ao h_v3) h3 Ij KG (by rw [h5]; rfl)).q fun a F => ?_
  refine qs F Aa (Ad F Aa).q fun a F => ?_
  obtain ⟨x5, h6, H⟩ := Al H
  refine qs F Aa (Ax (r := (Rp.int .i64)) GP F Aa Aa (CV (Ao h_v3) h3 Cg.here (congrArg (fun q : List Int => q) h4)) h6).q fun a F => ?_
  refine qs F Aa (Ap (y := Value.int .i64 x5) (j := 0) (i := p3) F Aa Aa (CV (Ao h_v3) h3 Cg.here (congrArg (fun q : List Int => q) h4)) h6 Fl.int.to T3 Aa).q fun a F => ?_
  obtain ⟨x6, h7, H⟩ := Al H
  refine qs F Aa (BV (v := Value.int .i64 x6) F TE Aa (fun w W => Lw any w (v1) (v2) p0 x2 x5 _ h7 (((Ao h_v1) : Ec _ _ _ _ _ _) w W).nx (((Ao h_v2) : Ec _ _ _ _ _ _) w W).nx)) fun a F => ?_
  refine qs F Aa (Ad F Aa).q fun a F => ?_
  refine qs F Aa (Gj F Aa Aa).q fun a F => ?_
  refine AZ fun w W => ?_
  refine Ab ?_
  refine AB F Aa (fun hb => ?_) fun hb => ?_
  ·
   have H := AR (Br hb) H
   rw [hb] at F
   clear hb
   refine Au (Ab (Av (Ah (Ac ?_))))
   refine ls F W Aa (Az (v := Value.agg #[.int .i64 p0.1, v1, v2]) 0 F Aa Aa JB Aa).q fun a w F W => ?_
   iterate 3 refine ls F W Aa (Ad F Aa).q fun a w F W => ?_
   obtain ⟨x7, h8, H⟩ := Al H
   refine ls F W Aa (BV (v := Value.tuple #[.int .i64 x7.1, .bool x7.2]) F SH Aa (fun w W => Mo any w (v1) (v2) (v3) p0 p1 x2 p3 _ h8 (((Ao h_v1) : Ec _ _ _ _ _ _) w W).nx (((Ao h_v2) : Ec _ _ _ _ _ _) w W).nx (((BU CR h1 (Ao h_v3)) : Ec _ _ _ _ _ _) w W).nx)) fun a w F W => ?_
   refine ls F W Aa (Ad F Aa).q fun a w F W => ?_
   refine ls F W Aa (BI (v := Value.int .i64 x7.1) F Aa Aa).q fun a w F W => ?_
   refine ls F W Aa (BI (v := Value.bool x7.2) F Aa Aa).q fun a w F W => ?_
   iterate 2 refine ls F W Aa (Ag F Aa).q fun a w F W => ?_
   refine Ae (Ab (Ah (Ah (Ac ?_))))
   refine ls F W Aa (Ad F Aa).q fun a w F W => ?_
   refine ls F W Aa (En F Aa).q fun a w F W => ?_
   refine Ae (Ab ?_)
   refine AB F Aa (fun hb => ?_) fun hb => ?_
   ·
    have H := AR hb H
    rw [hb] at F
    clear hb
    refine Ah (Ac ?_)
    iterate 2 refine ls F W Aa (Ag F Aa).q fun a w F W => ?_
    refine Ae (Ab (AF (AK (AU (AK (AU (AK ?_)))))))
    have H := L2 _ H
    have H := L1 _ H
    have H := AX H
    subst H
    refine E2 (.inl Aa) F W Aa (Ay F Aa) (Ay F Aa) ?_
    have W := W.nilRow 3 (Rp.int .i64)
    have W := W.sub (M' := []) (Z' := [row (Value.slice none 0 0) 3 (Rp.int .i64) ([])]) (List.nil_sublist _) (List.Sublist.cons_cons _ (List.nil_sublist _))
    exact ⟨(Value.slice none 0 0), Aa, W⟩
   have H := AS (by rw [hb]; decide) H
   rw [hb] at F
   clear hb
   refine Au (Ab (Ah (Ah (Ac ?_))))
   iterate 2 refine ls F W Aa (Ad F Aa).q fun a w F W => ?_
   obtain ⟨x8, h9, H⟩ := Al H
   refine ls F W Aa (BV (v := Value.bool x8) F S9 Aa (fun w W => IX any w (v7) x3 x7.1 _ h9 (((An 0 Aa) : Ec _ _ _ _ _ _) w W).nx)) fun a w F W => ?_
   refine Ae (Ab ?_)
   refine AB F Aa (fun hb => ?_) fun hb => ?_
   ·
    have H := AR hb H
    rw [hb] at F
    clear hb
    refine Ah (Ac ?_)
    iterate 2 refine ls F W Aa (Ag F Aa).q fun a w F W => ?_
    refine Ae (Ab (AF (AK (AU (AK (AU (AK ?_)))))))
    have H := L2 _ H
    have H := L1 _ H
    have H := AX H
    subst H
    refine E2 (.inl Aa) F W Aa (Ay F Aa) (Ay F Aa) ?_
    have W := W.nilRow 3 (Rp.int .i64)
    have W := W.sub (M' := []) (Z' := [row (Value.slice none 0 0) 3 (Rp.int .i64) ([])]) (List.nil_sublist _) (List.Sublist.cons_cons _ (List.nil_sublist _))
    exact ⟨(Value.slice none 0 0), Aa, W⟩
   have H := AS (by rw [hb]; decide) H
   rw [hb] at F
   clear hb
   refine Au (Ab (Ah (Ac ?_)))
   iterate 2 refine ls F W Aa (Ad F Aa).q fun a w F W => ?_
   refine Fo (z := Value.int .i64 0) (cs := [.int .i64 x7.1]) (Rp.int .i64) ([x7.1] : List Int) F W Aa GP Z3 Aa Aa Aa Aa Aa Aa (Fl.int.repL _ _ ([x7.1] : List Int)) fun v9 a w F W => ?_
   obtain ⟨x9, h10, H⟩ := Al H
   refine GD (r := (Rp.int .i64)) (i := 1) F W Aa GP Aa Aa Aa Aa (HV W 0 Aa) h10 Aa fun v10 a w F W => ?_
   have W : Stw ⟨Y, [], w0⟩ [(b1, [.int .i64 p0.1, v1, v2])] [row v10 3 (Rp.int .i64) x9, row v9 3 (Rp.int .i64) ([x7.1] : List Int)] w := W
   refine ls F W Aa (Ag F Aa).q fun a w F W => ?_
   refine Ae (Ab (Ac ?_))
   refine ls F W Aa (Ad F Aa).q fun a w F W => ?_
   refine ls F W Aa (Ag F Aa).q fun a w F W => ?_
   refine Ae (AP (Ab ?_))
   have W := W.sub (M' := [(b1, [.int .i64 p0.1, v1, v2])]) (Z' := [row v10 3 (Rp.int .i64) x9]) (List.Sublist.refl _) (List.Sublist.cons_cons _ (List.nil_sublist _))
   exact ⟨_, H, (v10), F.re ⟨rfl, Aa, Aa, Aa, Aa, Aa, Aa, trivial⟩, W⟩
  have H := AS (Bq hb) H
  rw [hb] at F
  clear hb
  refine Bh ?_
  iterate 2 refine BK ?_
  refine Bj (Ab ?_)
  have H := L2 _ H
  exact ⟨_, (v7), H, F.re ⟨rfl, Aa, Aa, trivial⟩, W⟩
 rintro a w ⟨x1, v6, hj, F, W⟩
 have H := K1 _ hj
 clear hj G1 K1 L1
 refine Ah (Ac ?_)
 refine ls F W Aa (Ad F Aa).q fun a w F W => ?_
 iterate 2 refine ls F W Aa (Ag F Aa).q fun a w F W => ?_
 refine Ae (Ab (AF ?_))
 have H := AX H
 subst H
 refine E2 (.inl Aa) F W Aa (Ay F Aa) (Ay F Aa) ?_
 have W := W.sub (M' := []) (Z' := [row v6 3 (Rp.int .i64) x1]) (List.nil_sublist _) (List.Sublist.refl _)
 exact ⟨(v6), Aa, W⟩
theorem R4 : Has Try.prog 30 := ⟨fun args w => Am Try.func30 rfl (by decide) args w⟩
noncomputable def D3 (p0 : Int × (List (Int × Int × Int × Int × Int × Int)) × (List (Int × Int))) (p1 : List (List Int)) (x2 : Int) (x3 : List Int) : Int → Option (Int ⊕ (Unit ⊕ (Int ⊕ (Unit ⊕ Bool))))
  | x4 => (if x4 < (x3.length : Int) then (Fy p0 p1 x2 x4).bind fun x5 => (if x5.2 ≠ 0 then some (.inr (.inr (.inr (.inr false)))) else some (.inl (AC (x4 + 1)))) else some (.inr (.inl ())))
noncomputable def Ez (p0 : Int × (List (Int × Int × Int × Int × Int × Int)) × (List (Int × Int))) (p1 : List (List Int)) : Int → Option (Int ⊕ (Unit ⊕ Bool))
  | x2 => (if x2 < (p1.length : Int) then FN ((ix p1 x2).bind fun x3 => AO (D3 p0 p1 x2 x3) 0) fun _ => some (.inl (AC (x2 + 1))) else some (.inr (.inl ())))
noncomputable def Fx (p0 : Int × (List (Int × Int × Int × Int × Int × Int)) × (List (Int × Int))) (p1 : List (List Int)) : Option Bool := (ES p0 p1).bind fun x1 => (if (!x1) = true then some false else FN (AO (Ez p0 p1) 0) fun _ => some true)
theorem JJ (Y : Nat → Prop) (w0 : World) (v1 : Value) (v2 : Value) (v3 : Value) (p0 : Int × (List (Int × Int × Int × Int × Int × Int)) × (List (Int × Int))) (p1 : List (List Int)) (r : Bool) (H : Fx p0 p1 = some r) (h_v1 : Sl w0 (NX []) Hu v1 p0.2.1) (h_v2 : Sl w0 (NX []) GH v2 p0.2.2) (h_v3 : Sl w0 (NX []) (Rp.slice (Rp.int .i64)) v3 p1) :
    Calls Try.prog 11 #[.agg #[.int .i64 p0.1, v1, v2], v3] w0 fun e w' => e = .returned (.bool r) ∧ Below w0.heap.size w0 w' := by
 refine enter Try.func11 Aa Try.ntmps11 Aa fun a F => ?_
 have W := Stw.start Y w0
 obtain ⟨v4, h1, h_v3⟩ := h_v3.ex CR
 unfold Fx at H
 refine Ah (Ac ?_)
 refine E0 (cs := [.int .i64 p0.1, v1, v2]) F W Aa Aa Aa fun b1 a w F W => ?_
 refine ls F W Aa (Ag F Aa).q fun a w F W => ?_
 refine Ae (Ab (Ah (Ah (Ac ?_))))
 refine ls F W Aa (Az (v := Value.agg #[.int .i64 p0.1, v1, v2]) 0 F Aa Aa JB Aa).q fun a w F W => ?_
 refine ls F W Aa (Ad F Aa).q fun a w F W => ?_
 obtain ⟨x1, h2, H⟩ := Al H
 refine ls F W Aa (BV (v := Value.bool x1) F Sb Aa (fun w W => Jg any w (v1) (v2) (v3) p0 p1 _ h2 (((Ao h_v1) : Ec _ _ _ _ _ _) w W).nx (((Ao h_v2) : Ec _ _ _ _ _ _) w W).nx (((BU CR h1 (Ao h_v3)) : Ec _ _ _ _ _ _) w W).nx)) fun a w F W => ?_
 refine ls F W Aa (En F Aa).q fun a w F W => ?_
 refine Ae (Ab ?_)
 refine AB F Aa (fun hb => ?_) fun hb => ?_
 ·
  have H := AR hb H
  rw [hb] at F
  clear hb
  refine Ah (Ac ?_)
  refine ls F W Aa (Ag F Aa).q fun a w F W => ?_
  refine Ae (Ab (AF (AK ?_)))
  have H := AX H
  subst H
  refine BA (.inl Aa) F W Aa (Ay F Aa) ?_
  exact ⟨rfl, W.done⟩
 have H := AS (by rw [hb]; decide) H
 rw [hb] at F
 clear hb
 refine Au (Ab ?_)
 obtain ⟨o1, G1, K1, L1⟩ := Jq H
 refine AM (fun a w => some (Sum.inl ()) = some o1 ∧ Fr 38 [] [(4, .bool false)] a ∧ Stw ⟨Y, [], w0⟩ [(b1, [.int .i64 p0.1, v1, v2])] [] w) ?_ ?_
 ·
  have H := G1
  clear G1 K1
  refine Ah (Ac ?_)
  refine ls F W Aa (Ad F Aa).q fun a w F W => ?_
  refine ls F W Aa (B0 (r := (Rp.slice (Rp.int .i64))) (l := p1) H2 Aa F Aa (BU CR h1 (Ao h_v3))).q fun a w F W => ?_
  refine ls F W Aa (Ad F Aa).q fun a w F W => ?_
  refine Ae (Ab (Av ?_))
  refine Bk H (fun s a w => Fr 38 [] [(1, v3), (2, .pointer (some ⟨b1, 0, none⟩)), (4, .bool false), (14, v3), (15, .int .i64 (p1.length : Int)), (16, .int .i64 s)] a ∧ Stw ⟨Y, [], w0⟩ [(b1, [.int .i64 p0.1, v1, v2])] [] w) ⟨F.re ⟨rfl, Aa, Aa, Aa, Aa, Aa, trivial⟩, W⟩ fun s o a w H L2 hR => ?_
  obtain ⟨x2, rfl⟩ : ∃ x, x = s := ⟨s, rfl⟩
  obtain ⟨F, W⟩ := hR
  have F : Fr 38 [] [(1, v3), (2, .pointer (some ⟨b1, 0, none⟩)), (4, .bool false), (14, v3), (15, .int .i64 (p1.length : Int)), (16, .int .i64 x2)] a := F
  have W : Stw ⟨Y, [], w0⟩ [(b1, [.int .i64 p0.1, v1, v2])] [] w := W
  rw [Ez] at H
  refine Ah (Ac ?_)
  refine ls F W Aa (BM F Aa Aa).q fun a w F W => ?_
  refine Ae (Ab (Ah ?_))
  refine AB F Aa (fun hb => ?_) fun hb => ?_
  ·
   have H := AR (Br hb) H
   rw [hb] at F
   clear hb
   refine Au (Ab ?_)
   obtain ⟨o3, G3, K3, L3⟩ := Jq H
   refine AM (fun a w => some (Sum.inl ()) = some o3 ∧ Fr 38 [] [(1, v3), (2, .pointer (some ⟨b1, 0, none⟩)), (4, .bool false), (14, v3), (15, .int .i64 (p1.length : Int)), (16, .int .i64 x2)] a ∧ Stw ⟨Y, [], w0⟩ [(b1, [.int .i64 p0.1, v1, v2])] [] w) ?_ ?_
   ·
    have H := G3
    clear G3 K3
    refine Av (Ah (Ac ?_))
    refine ls F W Aa (Ad F Aa).q fun a w F W => ?_
    obtain ⟨x3, h3, H⟩ := Al H
    obtain ⟨v5, h4, h5⟩ := EC h1 h3
    have h6 : EJ v5 = [(v5.1)] := congrArg (fun q : List Int => ([(v5.1)] : List Value)) h5
    refine ls F W Aa (Ax (r := (Rp.vsl (Rp.int .i64))) J0 F Aa Aa (Ao h_v3) h4).q fun a w F W => ?_
    refine ls F W Aa (Ap (y := (v5.1)) (j := 0) (i := x2) (enc := EJ) F Aa Aa (Ao h_v3) h4 Ij KG (by rw [h6]; rfl)).q fun a w F W => ?_
    iterate 2 refine ls F W Aa (Ag F Aa).q fun a w F W => ?_
    refine Ae (Ab (Ah (Ac ?_)))
    refine ls F W Aa (Ad F Aa).q fun a w F W => ?_
    refine ls F W Aa (B0 (r := (Rp.int .i64)) (l := x3) HG Aa F Aa (CV (Ao h_v3) h4 Cg.here (congrArg (fun q : List Int => q) h5))).q fun a w F W => ?_
    refine ls F W Aa (Ad F Aa).q fun a w F W => ?_
    refine Ae (Ab (Av ?_))
    refine Bk H (fun s a w => Fr 38 [] [(1, v3), (2, .pointer (some ⟨b1, 0, none⟩)), (4, .bool false), (5, .int .i64 x2), (14, v3), (15, .int .i64 (p1.length : Int)), (16, .int .i64 x2), (22, .int .i64 (x3.length : Int)), (23, .int .i64 s)] a ∧ Stw ⟨Y, [], w0⟩ [(b1, [.int .i64 p0.1, v1, v2])] [] w) ⟨F.re ⟨rfl, Aa, Aa, Aa, Aa, Aa, Aa, Aa, Aa, trivial⟩, W⟩ fun s o a w H L4 hR => ?_
    obtain ⟨x4, rfl⟩ : ∃ x, x = s := ⟨s, rfl⟩
    obtain ⟨F, W⟩ := hR
    have F : Fr 38 [] [(1, v3), (2, .pointer (some ⟨b1, 0, none⟩)), (4, .bool false), (5, .int .i64 x2), (14, v3), (15, .int .i64 (p1.length : Int)), (16, .int .i64 x2), (22, .int .i64 (x3.length : Int)), (23, .int .i64 x4)] a := F
    have W : Stw ⟨Y, [], w0⟩ [(b1, [.int .i64 p0.1, v1, v2])] [] w := W
    rw [D3] at H
    refine Ah (Ac ?_)
    refine ls F W Aa (BM F Aa Aa).q fun a w F W => ?_
    refine Ae (Ab (Ah ?_))
    refine AB F Aa (fun hb => ?_) fun hb => ?_
    ·
     have H := AR (Br hb) H
     rw [hb] at F
     clear hb
     refine Au (Ab (Ah (Av (Ah (Ac ?_)))))
     refine ls F W Aa (Ad F Aa).q fun a w F W => ?_
     refine ls F W Aa (Ag F Aa).q fun a w F W => ?_
     refine Ae (Ab (Ah (Ac ?_)))
     refine ls F W Aa (Az (v := Value.agg #[.int .i64 p0.1, v1, v2]) 0 F Aa Aa JB Aa).q fun a w F W => ?_
     iterate 3 refine ls F W Aa (Ad F Aa).q fun a w F W => ?_
     obtain ⟨x5, h7, H⟩ := Al H
     refine BZ (Ml := []) (Zl := []) (M := [(b1, [.int .i64 p0.1, v1, v2])]) (Z := []) (β := Value) (rv := fun x => .tuple #[x, .int .i64 x5.2]) (MM := fun x => []) (ZZ := fun x => [row x 3 (Rp.int .i64) x5.1]) F W R4 Aa Aa (fun hL => JE _ w (v1) (v2) (v3) p0 p1 x2 x4 _ h7 ((Ao h_v1) w W).nx ((Ao h_v2) w W).nx ((BU CR h1 (Ao h_v3)) w W).nx) fun x a w F W => ?_
     obtain ⟨v6, rfl⟩ : ∃ y, y = x := ⟨x, rfl⟩
     have W : Stw ⟨Y, [], w0⟩ [(b1, [.int .i64 p0.1, v1, v2])] [row v6 3 (Rp.int .i64) x5.1] w := W
     refine ls F W Aa (Ad F Aa).q fun a w F W => ?_
     refine ls F W Aa (BI (v := v6) F Aa Aa).q fun a w F W => ?_
     refine ls F W Aa (BI (v := Value.int .i64 x5.2) F Aa Aa).q fun a w F W => ?_
     iterate 2 refine ls F W Aa (Ag F Aa).q fun a w F W => ?_
     refine Ae (Ab (Ah (Ac ?_)))
     refine ls F W Aa (Ad F Aa).q fun a w F W => ?_
     refine ls F W Aa (Gj F Aa Aa).q fun a w F W => ?_
     refine Ae (Ab ?_)
     refine AB F Aa (fun hb => ?_) fun hb => ?_
     ·
      have H := AR (Br hb) H
      rw [hb] at F
      clear hb
      refine Ah (Ac ?_)
      refine ls F W Aa (Ag F Aa).q fun a w F W => ?_
      refine Ae (Ab (AF (AU ?_)))
      iterate 2 refine AK ?_
      iterate 2 refine AU ?_
      iterate 2 refine AK ?_
      refine AU (AK ?_)
      have H := L4 _ H
      have H := L3 _ H
      have H := L2 _ H
      have H := L1 _ H
      have H := AX H
      subst H
      refine BA (.inl Aa) F W Aa (Ay F Aa) ?_
      exact ⟨rfl, W.done⟩
     have H := AS (Bq hb) H
     rw [hb] at F
     clear hb
     refine Au (AP (Ab (Ac ?_)))
     refine ls F W Aa (BL F Aa Aa Aa).q fun a w F W => ?_
     refine ls F W Aa (Ad F Aa).q fun a w F W => ?_
     refine Ae (Ab ?_)
     have W := W.sub (M' := [(b1, [.int .i64 p0.1, v1, v2])]) (Z' := []) (List.Sublist.refl _) (List.nil_sublist _)
     exact ⟨_, H, F.re ⟨rfl, Aa, Aa, Aa, Aa, Aa, Aa, Aa, Aa, trivial⟩, W⟩
    have H := AS (Bq hb) H
    rw [hb] at F
    clear hb
    refine Bh ?_
    iterate 2 refine BK ?_
    refine Bj (AP (Ab ?_))
    have H := L4 _ H
    exact ⟨H, F.re ⟨rfl, Aa, Aa, Aa, Aa, Aa, trivial⟩, W⟩
   rintro a w ⟨hj, F, W⟩
   have H := K3 _ hj
   clear hj G3 K3 L3
   refine Ac ?_
   refine ls F W Aa (BL F Aa Aa Aa).q fun a w F W => ?_
   refine ls F W Aa (Ad F Aa).q fun a w F W => ?_
   refine Ae (Ab ?_)
   exact ⟨_, H, F.re ⟨rfl, Aa, Aa, Aa, Aa, Aa, trivial⟩, W⟩
  have H := AS (Bq hb) H
  rw [hb] at F
  clear hb
  refine Bh ?_
  iterate 2 refine BK ?_
  refine Bj (Ab ?_)
  have H := L2 _ H
  exact ⟨H, F.re ⟨rfl, trivial⟩, W⟩
 rintro a w ⟨hj, F, W⟩
 have H := K1 _ hj
 clear hj G1 K1 L1
 refine Ah (Ac ?_)
 refine ls F W Aa (Ag F Aa).q fun a w F W => ?_
 refine Ae (Ab (AF ?_))
 have H := AX H
 subst H
 refine BA (.inl Aa) F W Aa (Ay F Aa) ?_
 exact ⟨rfl, W.done⟩
theorem RZ : Has Try.prog 11 := ⟨fun args w => Am Try.func11 rfl (by decide) args w⟩
noncomputable def Ev (p0 : Int × (List (Int × Int × Int × Int × Int × Int)) × (List (Int × Int))) (p1 : List (List Int)) (p2 : Int) : (List Int × Int) → Option ((List Int × Int) ⊕ (List Int))
  | (x4, x5) => (if x5 < (p1.length : Int) then (Fy p0 p1 x5 p2).bind fun x6 => (LZ x4 ([AC ((x6.1.length : Int) - 1)] : List Int)).bind fun x7 => some (.inl (x7, AC (x5 + 1))) else some (.inr x4))
noncomputable def GT (p0 : Int × (List (Int × Int × Int × Int × Int × Int)) × (List (Int × Int))) (p1 : List (List Int)) (p2 : Int) : Option (List Int) := ((ES p0 p1).bind fun x2 => (if (!x2) = true then some true else (if p2 < 0 then some true else some (decide ((p0.2.2.length : Int) ≤ p2))))).bind fun x1 => (if x1 = true then some ([] : List Int) else (AO (Ev p0 p1 p2) ([], 0)).bind fun x3 => some x3)
theorem M5 (Y : Nat → Prop) (w0 : World) (v1 : Value) (v2 : Value) (v3 : Value) (p0 : Int × (List (Int × Int × Int × Int × Int × Int)) × (List (Int × Int))) (p1 : List (List Int)) (p2 : Int) (r : List Int) (H : GT p0 p1 p2 = some r) (h_v1 : Sl w0 (NX []) Hu v1 p0.2.1) (h_v2 : Sl w0 (NX []) GH v2 p0.2.2) (h_v3 : Sl w0 (NX []) (Rp.slice (Rp.int .i64)) v3 p1) :
    Calls Try.prog 24 #[.agg #[.int .i64 p0.1, v1, v2], v3, .int .i64 p2] w0 fun e w' => ∃ x : Value, e = .returned (x) ∧ Stw ⟨Y, [], w0⟩ [] [row (x) 3 (Rp.int .i64) r] w' := by
 refine enter Try.func24 Aa Try.ntmps24 Aa fun a F => ?_
 have W := Stw.start Y w0
 obtain ⟨v4, h1, h_v3⟩ := h_v3.ex CR
 unfold GT at H
 refine Ah (Ac ?_)
 refine E0 (cs := [.int .i64 p0.1, v1, v2]) F W Aa Aa Aa fun b1 a w F W => ?_
 refine ls F W Aa (Ag F Aa).q fun a w F W => ?_
 refine Ae (Ab (Ah ?_))
 obtain ⟨o1, G1, K1⟩ := Al H
 refine AM (fun a w => ∃ x1 : Bool, some (x1) = some o1 ∧ Fr 47 [] [(1, v3), (2, .int .i64 p2), (3, .pointer (some ⟨b1, 0, none⟩)), (6, .slice none 0 0), (25, .bool x1)] a ∧ Stw ⟨Y, [], w0⟩ [(b1, [.int .i64 p0.1, v1, v2])] [] w) ?_ ?_
 ·
  have H := G1
  clear G1 K1
  refine Ac ?_
  refine ls F W Aa (Az (v := Value.agg #[.int .i64 p0.1, v1, v2]) 0 F Aa Aa JB Aa).q fun a w F W => ?_
  refine ls F W Aa (Ad F Aa).q fun a w F W => ?_
  obtain ⟨x2, h2, H⟩ := Al H
  refine ls F W Aa (BV (v := Value.bool x2) F Sb Aa (fun w W => Jg any w (v1) (v2) (v3) p0 p1 _ h2 (((Ao h_v1) : Ec _ _ _ _ _ _) w W).nx (((Ao h_v2) : Ec _ _ _ _ _ _) w W).nx (((BU CR h1 (Ao h_v3)) : Ec _ _ _ _ _ _) w W).nx)) fun a w F W => ?_
  refine ls F W Aa (En F Aa).q fun a w F W => ?_
  refine ls F W Aa (Ad F Aa).q fun a w F W => ?_
  rcases Bool.eq_false_or_eq_true (!x2) with hb | hb
  ·
   have H := AR hb H
   rw [hb] at F
   clear hb
   iterate 2 refine CX F Aa Aa Aa Aa Aa Aa Aa fun a F => ?_
   refine ls F W Aa (Aq F Aa Aa Aa).q fun a w F W => ?_
   refine ls F W Aa (Ad F Aa).q fun a w F W => ?_
   iterate 5 refine CX F Aa Aa Aa Aa Aa Aa Aa fun a F => ?_
   refine ls F W Aa (Aq F Aa Aa Aa).q fun a w F W => ?_
   refine Ae (Ab ?_)
   exact ⟨_, H, F.re ⟨rfl, Aa, Aa, Aa, Aa, trivial⟩, W⟩
  have H := AS (by rw [hb]; decide) H
  rw [hb] at F
  clear hb
  refine AL F W (Af F Aa Aa Aa Aa) Aa (Aj Aa) (Ad F Aa).q fun a w F W => ?_
  refine AL F W (Af F Aa Aa Aa Aa) Aa (Aj Aa) (BM F Aa Aa).q fun a w F W => ?_
  refine ls F W Aa (AA F Aa Aa Aa).q fun a w F W => ?_
  refine ls F W Aa (Ad F Aa).q fun a w F W => ?_
  rcases Bool.eq_false_or_eq_true (decide (p2 < 0)) with hb | hb
  ·
   have H := AR (Br hb) H
   rw [hb] at F
   clear hb
   iterate 5 refine CX F Aa Aa Aa Aa Aa Aa Aa fun a F => ?_
   refine ls F W Aa (Aq F Aa Aa Aa).q fun a w F W => ?_
   refine Ae (Ab ?_)
   exact ⟨_, H, F.re ⟨rfl, Aa, Aa, Aa, Aa, trivial⟩, W⟩
  have H := AS (Bq hb) H
  rw [hb] at F
  clear hb
  refine AL F W (Af F Aa Aa Aa Aa) Aa (Aj Aa) (Ad F Aa).q fun a w F W => ?_
  refine AL F W (Af F Aa Aa Aa Aa) Aa (Aj Aa) (Ak Ek Aa Aa Aa Iv F Aa 2 Aa).q fun a w F W => ?_
  refine AL F W (Af F Aa Aa Aa Aa) Aa (Aj Aa) (Az (v := v2) 0 F Aa Aa Iv Aa).q fun a w F W => ?_
  refine AL F W (Af F Aa Aa Aa Aa) Aa (Aj Aa) (B0 (r := GH) (l := p0.2.2) Jy Aa F Aa (Ao h_v2)).q fun a w F W => ?_
  refine AL F W (Af F Aa Aa Aa Aa) Aa (Aj Aa) (DL F Aa Aa).q fun a w F W => ?_
  refine ls F W Aa (AA F Aa Aa Aa).q fun a w F W => ?_
  refine Ae (Ab ?_)
  exact ⟨_, H, F.re ⟨rfl, Aa, Aa, Aa, Aa, trivial⟩, W⟩
 rintro a w ⟨x1, hj, F, W⟩
 have hj := AX hj
 subst hj
 have H := K1
 clear G1 K1
 refine AB F Aa (fun hb => ?_) fun hb => ?_
 ·
  have H := AR hb H
  rw [hb] at F
  clear hb
  refine Ah (Ac ?_)
  refine ls F W Aa (Ag F Aa).q fun a w F W => ?_
  refine Ae (Ab (AF (AK ?_)))
  have H := AX H
  subst H
  refine BA (.inl Aa) F W Aa (Ay F Aa) ?_
  have W := W.nilRow 3 (Rp.int .i64)
  have W := W.sub (M' := []) (Z' := [row (Value.slice none 0 0) 3 (Rp.int .i64) ([])]) (List.nil_sublist _) (List.Sublist.refl _)
  exact ⟨(Value.slice none 0 0), Aa, W⟩
 have H := AS (by rw [hb]; decide) H
 rw [hb] at F
 clear hb
 refine Au (Ab (Ah (Ac ?_)))
 refine ls F W Aa (Ag F Aa).q fun a w F W => ?_
 refine Ae (Ab ?_)
 obtain ⟨o2, G2, K2⟩ := Al H
 refine AM (fun a w => ∃ x3 : List Int, ∃ v5 : Value, some (x3) = some o2 ∧ Fr 47 [] [(6, .slice none 0 0), (7, v5)] a ∧ Stw ⟨Y, [], w0⟩ [(b1, [.int .i64 p0.1, v1, v2])] [row v5 3 (Rp.int .i64) x3] w) ?_ ?_
 ·
  have H := G2
  clear G2 K2
  refine Ah (Ac ?_)
  refine ls F W Aa (Ad F Aa).q fun a w F W => ?_
  refine ls F W Aa (B0 (r := (Rp.slice (Rp.int .i64))) (l := p1) H2 Aa F Aa (BU CR h1 (Ao h_v3))).q fun a w F W => ?_
  refine ls F W Aa (Ad F Aa).q fun a w F W => ?_
  refine Ae (Ab (Av ?_))
  have W := W.nilRow 3 (Rp.int .i64)
  refine Bk H (fun s a w => ∃ v6 : Value, Fr 47 [] [(1, v3), (2, .int .i64 p2), (3, .pointer (some ⟨b1, 0, none⟩)), (6, .slice none 0 0), (7, v6), (27, .int .i64 (p1.length : Int)), (28, .int .i64 s.2)] a ∧ Stw ⟨Y, [], w0⟩ [(b1, [.int .i64 p0.1, v1, v2])] [row v6 3 (Rp.int .i64) s.1] w) ⟨(Value.slice none 0 0), F.re ⟨rfl, Aa, Aa, Aa, Aa, Aa, Aa, trivial⟩, W⟩ fun s o a w H L3 hR => ?_
  obtain ⟨x4, x5⟩ := s
  obtain ⟨v6, F, W⟩ := hR
  have F : Fr 47 [] [(1, v3), (2, .int .i64 p2), (3, .pointer (some ⟨b1, 0, none⟩)), (6, .slice none 0 0), (7, v6), (27, .int .i64 (p1.length : Int)), (28, .int .i64 x5)] a := F
  have W : Stw ⟨Y, [], w0⟩ [(b1, [.int .i64 p0.1, v1, v2])] [row v6 3 (Rp.int .i64) x4] w := W
  rw [Ev] at H
  refine Ah (Ac ?_)
  refine ls F W Aa (BM F Aa Aa).q fun a w F W => ?_
  refine Ae (Ab (Ah ?_))
  refine AB F Aa (fun hb => ?_) fun hb => ?_
  ·
   have H := AR (Br hb) H
   rw [hb] at F
   clear hb
   refine Au (Ab (Ah (Av (Ah (Ac ?_)))))
   refine ls F W Aa (Ad F Aa).q fun a w F W => ?_
   refine ls F W Aa (Ag F Aa).q fun a w F W => ?_
   refine Ae (Ab (Ah (Ac ?_)))
   refine ls F W Aa (Az (v := Value.agg #[.int .i64 p0.1, v1, v2]) 0 F Aa Aa JB Aa).q fun a w F W => ?_
   iterate 3 refine ls F W Aa (Ad F Aa).q fun a w F W => ?_
   obtain ⟨x6, h3, H⟩ := Al H
   refine BZ (Ml := []) (Zl := []) (M := [(b1, [.int .i64 p0.1, v1, v2])]) (Z := [row v6 3 (Rp.int .i64) x4]) (β := Value) (rv := fun x => .tuple #[x, .int .i64 x6.2]) (MM := fun x => []) (ZZ := fun x => [row x 3 (Rp.int .i64) x6.1]) F W R4 Aa Aa (fun hL => JE _ w (v1) (v2) (v3) p0 p1 x5 p2 _ h3 ((Ao h_v1) w W).nx ((Ao h_v2) w W).nx ((BU CR h1 (Ao h_v3)) w W).nx) fun x a w F W => ?_
   obtain ⟨v7, rfl⟩ : ∃ y, y = x := ⟨x, rfl⟩
   have W : Stw ⟨Y, [], w0⟩ [(b1, [.int .i64 p0.1, v1, v2])] [row v7 3 (Rp.int .i64) x6.1, row v6 3 (Rp.int .i64) x4] w := W
   refine ls F W Aa (Ad F Aa).q fun a w F W => ?_
   refine ls F W Aa (BI (v := v7) F Aa Aa).q fun a w F W => ?_
   refine ls F W Aa (BI (v := Value.int .i64 x6.2) F Aa Aa).q fun a w F W => ?_
   iterate 2 refine ls F W Aa (Ag F Aa).q fun a w F W => ?_
   refine Ae (Ab (Ac ?_))
   iterate 2 refine ls F W Aa (Ad F Aa).q fun a w F W => ?_
   refine ls F W Aa (B0 (r := (Rp.int .i64)) (l := x6.1) HG Aa F Aa (An 0 Aa)).q fun a w F W => ?_
   refine ls F W Aa (Cm F Aa Aa Aa).q fun a w F W => ?_
   refine Fo (z := Value.int .i64 0) (cs := [.int .i64 (AC ((x6.1.length : Int) - 1))]) (Rp.int .i64) ([AC ((x6.1.length : Int) - 1)] : List Int) F W Aa GP Z3 Aa Aa Aa Aa Aa Aa (Fl.int.repL _ _ ([AC ((x6.1.length : Int) - 1)] : List Int)) fun v8 a w F W => ?_
   obtain ⟨x7, h4, H⟩ := Al H
   refine GD (r := (Rp.int .i64)) (i := 2) F W Aa GP Aa Aa Aa Aa (HV W 0 Aa) h4 Aa fun v9 a w F W => ?_
   have W : Stw ⟨Y, [], w0⟩ [(b1, [.int .i64 p0.1, v1, v2])] [row v9 3 (Rp.int .i64) x7, row v8 3 (Rp.int .i64) ([AC ((x6.1.length : Int) - 1)] : List Int), row v7 3 (Rp.int .i64) x6.1] w := W
   refine ls F W Aa (Ag F Aa).q fun a w F W => ?_
   refine Ae (AP (Ab (Ac ?_)))
   refine ls F W Aa (BL F Aa Aa Aa).q fun a w F W => ?_
   refine ls F W Aa (Ad F Aa).q fun a w F W => ?_
   refine Ae (Ab ?_)
   have W := W.sub (M' := [(b1, [.int .i64 p0.1, v1, v2])]) (Z' := [row v9 3 (Rp.int .i64) x7]) (List.Sublist.refl _) (List.Sublist.cons_cons _ (List.nil_sublist _))
   exact ⟨_, H, (v9), F.re ⟨rfl, Aa, Aa, Aa, Aa, Aa, Aa, trivial⟩, W⟩
  have H := AS (Bq hb) H
  rw [hb] at F
  clear hb
  refine Bh ?_
  iterate 2 refine BK ?_
  refine Bj (Ab ?_)
  have H := L3 _ H
  exact ⟨_, (v6), H, F.re ⟨rfl, Aa, trivial⟩, W⟩
 rintro a w ⟨x3, v5, hj, F, W⟩
 have hj := AX hj
 subst hj
 have H := K2
 clear G2 K2
 refine Ah (Ac ?_)
 refine ls F W Aa (Ad F Aa).q fun a w F W => ?_
 refine ls F W Aa (Ag F Aa).q fun a w F W => ?_
 refine Ae (Ab (AF ?_))
 have H := AX H
 subst H
 refine BA (.inl Aa) F W Aa (Ay F Aa) ?_
 have W := W.sub (M' := []) (Z' := [row v5 3 (Rp.int .i64) x3]) (List.nil_sublist _) (List.Sublist.refl _)
 exact ⟨(v5), Aa, W⟩
theorem RY : type_of% Try.underlying5 := Try.underlying5
theorem SI : type_of% Try.underlying9 := Try.underlying9
theorem Ov : type_of% Try.underlying31 := Try.underlying31
theorem HA : type_of% Try.underlying62 := Try.underlying62
theorem QY : type_of% Try.underlying113 := Try.underlying113
theorem S8 : Has Try.prog 24 := ⟨fun args w => Am Try.func24 rfl (by decide) args w⟩
theorem R5 : Bt Try.prog 62 [.int .i64 0, .int .i64 0, .int .i64 0, .int .i64 0] [(0, 1), (1, 1), (2, 1), (3, 1)] := ⟨⟨.agg #[.int .i64 0, .int .i64 0, .int .i64 0, .int .i64 0], by kernel_rfl, rfl⟩, ⟨_, HA, fun w => by kernel_rfl⟩⟩
theorem Rj : (Try.prog.info? 62).bind (·.zero) = some (.agg #[.int .i64 0, .int .i64 0, .int .i64 0, .int .i64 0]) := by kernel_rfl
abbrev Ba : Rp (Int × Int × Int × Int) := (Rp.pair (Rp.int .i64) (Rp.pair (Rp.int .i64) (Rp.pair (Rp.int .i64) (Rp.int .i64))))
def Ts (a : Int × Int × Int × Int) : List Value := [.int .i64 a.1, .int .i64 a.2.1, .int .i64 a.2.2.1, .int .i64 a.2.2.2]
theorem El : Fl Ba Ts := (Fl.pair Fl.int (Fl.pair Fl.int (Fl.pair Fl.int Fl.int)))
theorem Ej : Et Try.prog 31 62 4 32 := Et.of Ov (by kernel_rfl) (by kernel_rfl) (by kernel_rfl) (by decide)
noncomputable def Er (p0 : Int) : Option Int := (if 4294967296 ≤ p0 then some (GC .u64 p0 32, 32) else some (p0, 0)).bind fun (x1, x2) => (if 65536 ≤ x1 then some (GC .u64 x1 16, AC (x2 + 16)) else some (x1, x2)).bind fun (x3, x4) => (if 256 ≤ x3 then some (GC .u64 x3 8, AC (x4 + 8)) else some (x3, x4)).bind fun (x5, x6) => (ix ([0, 1, 2, 2, 3, 3, 3, 3, 4, 4, 4, 4, 4, 4, 4, 4, 5, 5, 5, 5, 5, 5, 5, 5, 5, 5, 5, 5, 5, 5, 5, 5, 6, 6, 6, 6, 6, 6, 6, 6, 6, 6, 6, 6, 6, 6, 6, 6, 6, 6, 6, 6, 6, 6, 6, 6, 6, 6, 6, 6, 6, 6, 6, 6, 7, 7, 7, 7, 7, 7, 7, 7, 7, 7, 7, 7, 7, 7, 7, 7, 7, 7, 7, 7, 7, 7, 7, 7, 7, 7, 7, 7, 7, 7, 7, 7, 7, 7, 7, 7, 7, 7, 7, 7, 7, 7, 7, 7, 7, 7, 7, 7, 7, 7, 7, 7, 7, 7, 7, 7, 7, 7, 7, 7, 7, 7, 7, 7, 8, 8, 8, 8, 8, 8, 8, 8, 8, 8, 8, 8, 8, 8, 8, 8, 8, 8, 8, 8, 8, 8, 8, 8, 8, 8, 8, 8, 8, 8, 8, 8, 8, 8, 8, 8, 8, 8, 8, 8, 8, 8, 8, 8, 8, 8, 8, 8, 8, 8, 8, 8, 8, 8, 8, 8, 8, 8, 8, 8, 8, 8, 8, 8, 8, 8, 8, 8, 8, 8, 8, 8, 8, 8, 8, 8, 8, 8, 8, 8, 8, 8, 8, 8, 8, 8, 8, 8, 8, 8, 8, 8, 8, 8, 8, 8, 8, 8, 8, 8, 8, 8, 8, 8, 8, 8, 8, 8, 8, 8, 8, 8, 8, 8, 8, 8, 8, 8, 8, 8, 8, 8, 8, 8, 8, 8, 8, 8] : List UInt8) (IntKind.u8.wrap x5)).bind fun x7 => some (AC (x6 + (AC (x7.toNat : Int))))
theorem JT (Y : Nat → Prop) (w0 : World)  (p0 : Int) (r : Int) (H : Er p0 = some r)  :
    Calls Try.prog 68 #[.int .u64 p0] w0 fun e w' => e = .returned (.int .i64 r) ∧ Below w0.heap.size w0 w' := by
 refine enter Try.func68 Aa Try.ntmps68 Aa fun a F => ?_
 have W := Stw.start Y w0
 unfold Er at H
 refine Ah (Ac ?_)
 refine ls F W Aa (Ag F Aa).q fun a w F W => ?_
 refine Ae (Ab ?_)
 obtain ⟨o1, G1, K1⟩ := Al H
 refine AM (fun a w => ∃ x1 : Int, ∃ x2 : Int, some ((x1, x2)) = some o1 ∧ Fr 25 [] [(0, .int .u64 x1), (2, .int .i64 x2)] a ∧ Stw ⟨Y, [], w0⟩ [] [] w) ?_ ?_
 ·
  have H := G1
  clear G1 K1
  refine Ah (Ac ?_)
  refine ls F W Aa (Ad F Aa).q fun a w F W => ?_
  refine ls F W Aa (DL F Aa Aa).q fun a w F W => ?_
  refine Ae (Ab ?_)
  refine AB F Aa (fun hb => ?_) fun hb => ?_
  ·
   have H := AR (Br hb) H
   rw [hb] at F
   clear hb
   refine Ah (Ac ?_)
   refine ls F W Aa (Ad F Aa).q fun a w F W => ?_
   refine ls F W Aa (N8 F Aa Aa (by decide)).q fun a w F W => ?_
   refine ls F W Aa (Ag F Aa).q fun a w F W => ?_
   refine Ae (Ab (Ac ?_))
   refine ls F W Aa (Ag F Aa).q fun a w F W => ?_
   refine Ae (Ab ?_)
   exact ⟨_, _, H, F.re ⟨rfl, Aa, trivial⟩, W⟩
  have H := AS (Bq hb) H
  rw [hb] at F
  clear hb
  refine Au (Ab ?_)
  exact ⟨_, _, H, F.re ⟨rfl, Aa, trivial⟩, W⟩
 rintro a w ⟨x1, x2, hj, F, W⟩
 have hj := AX hj
 subst hj
 have H := K1
 clear G1 K1
 obtain ⟨o2, G2, K2⟩ := Al H
 refine AM (fun a w => ∃ x3 : Int, ∃ x4 : Int, some ((x3, x4)) = some o2 ∧ Fr 25 [] [(0, .int .u64 x3), (2, .int .i64 x4)] a ∧ Stw ⟨Y, [], w0⟩ [] [] w) ?_ ?_
 ·
  have H := G2
  clear G2 K2
  refine Ah (Ac ?_)
  refine ls F W Aa (Ad F Aa).q fun a w F W => ?_
  refine ls F W Aa (DL F Aa Aa).q fun a w F W => ?_
  refine Ae (Ab ?_)
  refine AB F Aa (fun hb => ?_) fun hb => ?_
  ·
   have H := AR (Br hb) H
   rw [hb] at F
   clear hb
   refine Ah (Ac ?_)
   refine ls F W Aa (Ad F Aa).q fun a w F W => ?_
   refine ls F W Aa (N8 F Aa Aa (by decide)).q fun a w F W => ?_
   refine ls F W Aa (Ag F Aa).q fun a w F W => ?_
   refine Ae (Ab (Ac ?_))
   refine ls F W Aa (Ad F Aa).q fun a w F W => ?_
   refine ls F W Aa (BL F Aa Aa Aa).q fun a w F W => ?_
   refine ls F W Aa (Ag F Aa).q fun a w F W => ?_
   refine Ae (Ab ?_)
   exact ⟨_, _, H, F.re ⟨rfl, Aa, trivial⟩, W⟩
  have H := AS (Bq hb) H
  rw [hb] at F
  clear hb
  refine Au (Ab ?_)
  exact ⟨_, _, H, F.re ⟨rfl, Aa, trivial⟩, W⟩
 rintro a w ⟨x3, x4, hj, F, W⟩
 have hj := AX hj
 subst hj
 have H := K2
 clear G2 K2
 obtain ⟨o3, G3, K3⟩ := Al H
 refine AM (fun a w => ∃ x5 : Int, ∃ x6 : Int, some ((x5, x6)) = some o3 ∧ Fr 25 [] [(0, .int .u64 x5), (2, .int .i64 x6)] a ∧ Stw ⟨Y, [], w0⟩ [] [] w) ?_ ?_
 ·
  have H := G3
  clear G3 K3
  refine Ah (Ac ?_)
  refine ls F W Aa (Ad F Aa).q fun a w F W => ?_
  refine ls F W Aa (DL F Aa Aa).q fun a w F W => ?_
  refine Ae (Ab ?_)
  refine AB F Aa (fun hb => ?_) fun hb => ?_
  ·
   have H := AR (Br hb) H
   rw [hb] at F
   clear hb
   refine Ah (Ac ?_)
   refine ls F W Aa (Ad F Aa).q fun a w F W => ?_
   refine ls F W Aa (N8 F Aa Aa (by decide)).q fun a w F W => ?_
   refine ls F W Aa (Ag F Aa).q fun a w F W => ?_
   refine Ae (Ab (Ac ?_))
   refine ls F W Aa (Ad F Aa).q fun a w F W => ?_
   refine ls F W Aa (BL F Aa Aa Aa).q fun a w F W => ?_
   refine ls F W Aa (Ag F Aa).q fun a w F W => ?_
   refine Ae (Ab ?_)
   exact ⟨_, _, H, F.re ⟨rfl, Aa, trivial⟩, W⟩
  have H := AS (Bq hb) H
  rw [hb] at F
  clear hb
  refine Au (Ab ?_)
  exact ⟨_, _, H, F.re ⟨rfl, Aa, trivial⟩, W⟩
 rintro a w ⟨x5, x6, hj, F, W⟩
 have hj := AX hj
 subst hj
 have H := K3
 clear G3 K3
 refine Ah (Ac ?_)
 iterate 2 refine ls F W Aa (Ad F Aa).q fun a w F W => ?_
 refine ls F W Aa (IH QY RY F Aa).q fun a w F W => ?_
 obtain ⟨x7, h1, H⟩ := Al H
 refine ls F W Aa (OV (l := ([0, 1, 2, 2, 3, 3, 3, 3, 4, 4, 4, 4, 4, 4, 4, 4, 5, 5, 5, 5, 5, 5, 5, 5, 5, 5, 5, 5, 5, 5, 5, 5, 6, 6, 6, 6, 6, 6, 6, 6, 6, 6, 6, 6, 6, 6, 6, 6, 6, 6, 6, 6, 6, 6, 6, 6, 6, 6, 6, 6, 6, 6, 6, 6, 7, 7, 7, 7, 7, 7, 7, 7, 7, 7, 7, 7, 7, 7, 7, 7, 7, 7, 7, 7, 7, 7, 7, 7, 7, 7, 7, 7, 7, 7, 7, 7, 7, 7, 7, 7, 7, 7, 7, 7, 7, 7, 7, 7, 7, 7, 7, 7, 7, 7, 7, 7, 7, 7, 7, 7, 7, 7, 7, 7, 7, 7, 7, 7, 8, 8, 8, 8, 8, 8, 8, 8, 8, 8, 8, 8, 8, 8, 8, 8, 8, 8, 8, 8, 8, 8, 8, 8, 8, 8, 8, 8, 8, 8, 8, 8, 8, 8, 8, 8, 8, 8, 8, 8, 8, 8, 8, 8, 8, 8, 8, 8, 8, 8, 8, 8, 8, 8, 8, 8, 8, 8, 8, 8, 8, 8, 8, 8, 8, 8, 8, 8, 8, 8, 8, 8, 8, 8, 8, 8, 8, 8, 8, 8, 8, 8, 8, 8, 8, 8, 8, 8, 8, 8, 8, 8, 8, 8, 8, 8, 8, 8, 8, 8, 8, 8, 8, 8, 8, 8, 8, 8, 8, 8, 8, 8, 8, 8, 8, 8, 8, 8, 8, 8, 8, 8, 8, 8, 8, 8, 8, 8] : List UInt8)) SI F Aa Aa h1).q fun a w F W => ?_
 refine ls F W Aa (IH RY Nd F Aa).q fun a w F W => ?_
 refine ls F W Aa (BL F Aa Aa Aa).q fun a w F W => ?_
 refine ls F W Aa (Ag F Aa).q fun a w F W => ?_
 refine Ae (Ab (AF ?_))
 have H := AX H
 subst H
 refine BA (.inl Aa) F W Aa (Ay F Aa) ?_
 exact ⟨rfl, W.done⟩
theorem TC : Has Try.prog 68 := ⟨fun args w => Am Try.func68 rfl (by decide) args w⟩
noncomputable def DE (p0 : Int) : Option Int := (Er p0).bind fun x1 => some x1
theorem Hi (Y : Nat → Prop) (w0 : World)  (p0 : Int) (r : Int) (H : DE p0 = some r)  :
    Calls Try.prog 43 #[.int .u64 p0] w0 fun e w' => e = .returned (.int .i64 r) ∧ Below w0.heap.size w0 w' := by
 refine enter Try.func43 Aa Try.ntmps43 Aa fun a F => ?_
 have W := Stw.start Y w0
 unfold DE at H
 refine Ah (Ac ?_)
 refine ls F W Aa (Ag F Aa).q fun a w F W => ?_
 refine Ae (Ab (Ah ?_))
 refine M0 F Aa ?_
 refine Au (Ab (Ah (Ac ?_)))
 refine ls F W Aa (Ad F Aa).q fun a w F W => ?_
 obtain ⟨x1, h1, H⟩ := Al H
 refine ls F W Aa (BV (v := Value.int .i64 x1) F TC Aa (fun w W => JT any w p0 _ h1)) fun a w F W => ?_
 refine ls F W Aa (Ag F Aa).q fun a w F W => ?_
 refine Ae (Ab (AF ?_))
 have H := AX H
 subst H
 refine BA (.inl Aa) F W Aa (Ay F Aa) ?_
 exact ⟨rfl, W.done⟩
theorem RO : Has Try.prog 43 := ⟨fun args w => Am Try.func43 rfl (by decide) args w⟩
theorem Ea : Ty Try.prog 62 true 4 := ⟨by kernel_rfl, by kernel_rfl⟩
def BO (p0 : Int) : Bool := decide (p0 ≠ p0)
theorem F4 (Y : Nat → Prop) (w0 : World)  (p0 : Int) (r : Bool) (H : BO p0 = r)  :
    Calls Try.prog 44 #[.int .i64 p0] w0 fun e w' => e = .returned (.bool r) ∧ Below w0.heap.size w0 w' := by
 refine enter Try.func44 Aa Try.ntmps44 Aa fun a F => ?_
 have W := Stw.start Y w0
 unfold BO at H
 refine Ah (Ac ?_)
 refine ls F W Aa (Ag F Aa).q fun a w F W => ?_
 refine Ae (Ab (Ah (Ac ?_)))
 iterate 2 refine ls F W Aa (Ad F Aa).q fun a w F W => ?_
 refine ls F W Aa (Gj F Aa Aa).q fun a w F W => ?_
 refine ls F W Aa (Ag F Aa).q fun a w F W => ?_
 refine Ae (Ab (AF ?_))
 subst H
 refine BA (.inl Aa) F W Aa (Ay F Aa) ?_
 exact ⟨rfl, W.done⟩
theorem Rn : Has Try.prog 44 := ⟨fun args w => Am Try.func44 rfl (by decide) args w⟩
def AY (p0 : Int) (p1 : Int) : Int := (if (BO p0) = true then (if (BO p1) = true then 0 else (-1)) else (if (BO p1) = true then 1 else (if p0 < p1 then (-1) else (if p1 < p0 then 1 else 0))))
theorem Gw (Y : Nat → Prop) (w0 : World)  (p0 : Int) (p1 : Int) (r : Int) (H : AY p0 p1 = r)  :
    Calls Try.prog 28 #[.int .i64 p0, .int .i64 p1] w0 fun e w' => e = .returned (.int .i64 r) ∧ Below w0.heap.size w0 w' := by
 refine enter Try.func28 Aa Try.ntmps28 Aa fun a F => ?_
 have W := Stw.start Y w0
 unfold AY at H
 refine Ah (Ac ?_)
 refine ls F W Aa (Ag F Aa).q fun a w F W => ?_
 refine Ae (Ab (Ah (Ac ?_)))
 refine ls F W Aa (Ad F Aa).q fun a w F W => ?_
 refine ls F W Aa (BV (v := Value.bool (BO p0)) F Rn Aa (fun w W => F4 any w p0 _ Aa)) fun a w F W => ?_
 refine ls F W Aa (Ag F Aa).q fun a w F W => ?_
 refine Ae (Ab (Ah (Ac ?_)))
 refine ls F W Aa (Ad F Aa).q fun a w F W => ?_
 refine ls F W Aa (BV (v := Value.bool (BO p1)) F Rn Aa (fun w W => F4 any w p1 _ Aa)) fun a w F W => ?_
 refine ls F W Aa (Ag F Aa).q fun a w F W => ?_
 refine Ae (Ab (Ah (Ah (Ac ?_))))
 refine ls F W Aa (Ad F Aa).q fun a w F W => ?_
 refine Ae (Ab ?_)
 refine AB F Aa (fun hb => ?_) fun hb => ?_
 ·
  have H := AR hb H
  rw [hb] at F
  clear hb
  refine Ah (Ah (Ac ?_))
  refine ls F W Aa (Ad F Aa).q fun a w F W => ?_
  refine Ae (Ab ?_)
  refine AB F Aa (fun hb => ?_) fun hb => ?_
  ·
   have H := AR hb H
   rw [hb] at F
   clear hb
   refine Ah (Ac ?_)
   refine ls F W Aa (Ag F Aa).q fun a w F W => ?_
   refine Ae (Ab (AF ?_))
   iterate 2 refine AK ?_
   subst H
   refine BA (.inl Aa) F W Aa (Ay F Aa) ?_
   exact ⟨rfl, W.done⟩
  have H := AS (by rw [hb]; decide) H
  rw [hb] at F
  clear hb
  refine Au (Ab (Ah (Ac ?_)))
  refine ls F W Aa (Ag F Aa).q fun a w F W => ?_
  refine Ae (Ab (AF (AK ?_)))
  subst H
  refine BA (.inl Aa) F W Aa (Ay F Aa) ?_
  exact ⟨rfl, W.done⟩
 have H := AS (by rw [hb]; decide) H
 rw [hb] at F
 clear hb
 refine Au (Ab (Ah (Ah (Ac ?_))))
 refine ls F W Aa (Ad F Aa).q fun a w F W => ?_
 refine Ae (Ab ?_)
 refine AB F Aa (fun hb => ?_) fun hb => ?_
 ·
  have H := AR hb H
  rw [hb] at F
  clear hb
  refine Ah (Ac ?_)
  refine ls F W Aa (Ag F Aa).q fun a w F W => ?_
  refine Ae (Ab (AF (AK ?_)))
  subst H
  refine BA (.inl Aa) F W Aa (Ay F Aa) ?_
  exact ⟨rfl, W.done⟩
 have H := AS (by rw [hb]; decide) H
 rw [hb] at F
 clear hb
 refine Au (Ab (Ah (Ah (Ac ?_))))
 iterate 2 refine ls F W Aa (Ad F Aa).q fun a w F W => ?_
 refine ls F W Aa (BM F Aa Aa).q fun a w F W => ?_
 refine Ae (Ab ?_)
 refine AB F Aa (fun hb => ?_) fun hb => ?_
 ·
  have H := AR (Br hb) H
  rw [hb] at F
  clear hb
  refine Ah (Ac ?_)
  refine ls F W Aa (Ag F Aa).q fun a w F W => ?_
  refine Ae (Ab (AF (AK ?_)))
  subst H
  refine BA (.inl Aa) F W Aa (Ay F Aa) ?_
  exact ⟨rfl, W.done⟩
 have H := AS (Bq hb) H
 rw [hb] at F
 clear hb
 refine Au (Ab (Ah (Ah (Ac ?_))))
 iterate 2 refine ls F W Aa (Ad F Aa).q fun a w F W => ?_
 refine ls F W Aa (Gf F Aa Aa).q fun a w F W => ?_
 refine Ae (Ab ?_)
 refine AB F Aa (fun hb => ?_) fun hb => ?_
 ·
  have H := AR (Br hb) H
  rw [hb] at F
  clear hb
  refine Ah (Ac ?_)
  refine ls F W Aa (Ag F Aa).q fun a w F W => ?_
  refine Ae (Ab (AF (AK ?_)))
  subst H
  refine BA (.inl Aa) F W Aa (Ay F Aa) ?_
  exact ⟨rfl, W.done⟩
 have H := AS (Bq hb) H
 rw [hb] at F
 clear hb
 refine Au (Ab (Ah (Ac ?_)))
 refine ls F W Aa (Ag F Aa).q fun a w F W => ?_
 refine Ae (Ab (AF ?_))
 subst H
 refine BA (.inl Aa) F W Aa (Ay F Aa) ?_
 exact ⟨rfl, W.done⟩
theorem Rr : Has Try.prog 28 := ⟨fun args w => Am Try.func28 rfl (by decide) args w⟩
noncomputable def Dc (p0 : List Int) : Int → Option (Int ⊕ (Unit ⊕ Int))
  | x1 => (if x1 < (p0.length : Int) then (ix p0 x1).bind fun x2 => (if x2 ≠ 0 then some (.inr (.inr x2)) else some (.inl (AC (x1 + 1)))) else some (.inr (.inl ())))
noncomputable def Ga (p0 : List Int) : Option Int := FN (AO (Dc p0) 0) fun _ => some 0
theorem Mc (Y : Nat → Prop) (w0 : World) (v1 : Value) (p0 : List Int) (r : Int) (H : Ga p0 = some r) (h_v1 : Sl w0 (NX []) (Rp.int .i64) v1 p0) :
    Calls Try.prog 27 #[v1] w0 fun e w' => e = .returned (.int .i64 r) ∧ Below w0.heap.size w0 w' := by
 refine enter Try.func27 Aa Try.ntmps27 Aa fun a F => ?_
 have W := Stw.start Y w0
 unfold Ga at H
 refine Ah (Ac ?_)
 refine ls F W Aa (Ag F Aa).q fun a w F W => ?_
 refine Ae (Ab (Ah (Ac ?_)))
 refine ls F W Aa (Ag F Aa).q fun a w F W => ?_
 refine Ae (Ab ?_)
 obtain ⟨o1, G1, K1, L1⟩ := Jq H
 refine AM (fun a w => some (Sum.inl ()) = some o1 ∧ Fr 18 [] [(2, .int .i64 0), (3, .int .i64 0)] a ∧ Stw ⟨Y, [], w0⟩ [] [] w) ?_ ?_
 ·
  have H := G1
  clear G1 K1
  refine Ah (Ac ?_)
  refine ls F W Aa (Ad F Aa).q fun a w F W => ?_
  refine ls F W Aa (B0 (r := (Rp.int .i64)) (l := p0) HG Aa F Aa (Ao h_v1)).q fun a w F W => ?_
  refine ls F W Aa (Ad F Aa).q fun a w F W => ?_
  refine Ae (Ab (Av ?_))
  refine Bk H (fun s a w => Fr 18 [] [(2, .int .i64 0), (3, .int .i64 0), (6, v1), (7, .int .i64 (p0.length : Int)), (8, .int .i64 s)] a ∧ Stw ⟨Y, [], w0⟩ [] [] w) ⟨F.re ⟨rfl, Aa, Aa, Aa, Aa, trivial⟩, W⟩ fun s o a w H L2 hR => ?_
  obtain ⟨x1, rfl⟩ : ∃ x, x = s := ⟨s, rfl⟩
  obtain ⟨F, W⟩ := hR
  have F : Fr 18 [] [(2, .int .i64 0), (3, .int .i64 0), (6, v1), (7, .int .i64 (p0.length : Int)), (8, .int .i64 x1)] a := F
  have W : Stw ⟨Y, [], w0⟩ [] [] w := W
  rw [Dc] at H
  refine Ah (Ac ?_)
  refine ls F W Aa (BM F Aa Aa).q fun a w F W => ?_
  refine Ae (Ab (Ah ?_))
  refine AB F Aa (fun hb => ?_) fun hb => ?_
  ·
   have H := AR (Br hb) H
   rw [hb] at F
   clear hb
   refine Au (Ab (Ah (Av (Ah (Ac ?_)))))
   obtain ⟨x2, h1, H⟩ := Al H
   refine ls F W Aa (Ax (r := (Rp.int .i64)) GP F Aa Aa (Ao h_v1) h1).q fun a w F W => ?_
   refine ls F W Aa (Ap (y := Value.int .i64 x2) (j := 0) (i := x1) F Aa Aa (Ao h_v1) h1 Fl.int.to T3 Aa).q fun a w F W => ?_
   refine ls F W Aa (Ag F Aa).q fun a w F W => ?_
   refine Ae (Ab (Ah (Ac ?_)))
   iterate 2 refine ls F W Aa (Ad F Aa).q fun a w F W => ?_
   refine ls F W Aa (Gj F Aa Aa).q fun a w F W => ?_
   refine Ae (Ab ?_)
   refine AB F Aa (fun hb => ?_) fun hb => ?_
   ·
    have H := AR (Br hb) H
    rw [hb] at F
    clear hb
    refine Ah (Ac ?_)
    refine ls F W Aa (Ad F Aa).q fun a w F W => ?_
    refine ls F W Aa (Ag F Aa).q fun a w F W => ?_
    refine Ae (Ab (AF (AU ?_)))
    iterate 2 refine AK ?_
    refine AU (AK ?_)
    have H := L2 _ H
    have H := L1 _ H
    have H := AX H
    subst H
    refine BA (.inl Aa) F W Aa (Ay F Aa) ?_
    exact ⟨rfl, W.done⟩
   have H := AS (Bq hb) H
   rw [hb] at F
   clear hb
   refine Au (AP (Ab (Ac ?_)))
   refine ls F W Aa (BL F Aa Aa Aa).q fun a w F W => ?_
   refine ls F W Aa (Ad F Aa).q fun a w F W => ?_
   refine Ae (Ab ?_)
   exact ⟨_, H, F.re ⟨rfl, Aa, Aa, Aa, Aa, trivial⟩, W⟩
  have H := AS (Bq hb) H
  rw [hb] at F
  clear hb
  refine Bh ?_
  iterate 2 refine BK ?_
  refine Bj (Ab ?_)
  have H := L2 _ H
  exact ⟨H, F.re ⟨rfl, Aa, trivial⟩, W⟩
 rintro a w ⟨hj, F, W⟩
 have H := K1 _ hj
 clear hj G1 K1 L1
 refine Ah (Ac ?_)
 refine ls F W Aa (Ad F Aa).q fun a w F W => ?_
 refine ls F W Aa (Ag F Aa).q fun a w F W => ?_
 refine Ae (Ab (AF ?_))
 have H := AX H
 subst H
 refine BA (.inl Aa) F W Aa (Ay F Aa) ?_
 exact ⟨rfl, W.done⟩
theorem Ta : Has Try.prog 27 := ⟨fun args w => Am Try.func27 rfl (by decide) args w⟩
noncomputable def BT (p0 : Int × Int × Int × Int) (p1 : Int × Int × Int × Int) : Option Int := (Ga ([(AY p0.2.2.2 p1.2.2.2), (AY p0.1 p1.1), (AY p0.2.1 p1.2.1)] : List Int)).bind fun x1 => some x1
theorem B8 (Y : Nat → Prop) (w0 : World)  (p0 : Int × Int × Int × Int) (p1 : Int × Int × Int × Int) (r : Int) (H : BT p0 p1 = some r)  :
    Calls Try.prog 26 #[.agg #[.int .i64 p0.1, .int .i64 p0.2.1, .int .i64 p0.2.2.1, .int .i64 p0.2.2.2], .agg #[.int .i64 p1.1, .int .i64 p1.2.1, .int .i64 p1.2.2.1, .int .i64 p1.2.2.2]] w0 fun e w' => e = .returned (.int .i64 r) ∧ Below w0.heap.size w0 w' := by
 refine enter Try.func26 Aa Try.ntmps26 Aa fun a F => ?_
 have W := Stw.start Y w0
 unfold BT at H
 refine Ah (Ac ?_)
 refine E0 (cs := [.int .i64 p0.1, .int .i64 p0.2.1, .int .i64 p0.2.2.1, .int .i64 p0.2.2.2]) F W Aa Aa Aa fun b1 a w F W => ?_
 refine E0 (cs := [.int .i64 p1.1, .int .i64 p1.2.1, .int .i64 p1.2.2.1, .int .i64 p1.2.2.2]) F W Aa Aa Aa fun b2 a w F W => ?_
 refine ls F W Aa (Ag F Aa).q fun a w F W => ?_
 refine Ae (Ab (Ah ?_))
 refine IZ 15 W MO (by kernel_rfl) ?_
 refine qs F Aa (Ak HA Aa Aa Aa T3 F Aa 3 Aa).q fun a F => ?_
 refine qs F Aa (Az (v := Value.int .i64 p0.2.2.2) 1 F Aa Aa T3 Aa).q fun a F => ?_
 refine qs F Aa (Ak HA Aa Aa Aa T3 F Aa 3 Aa).q fun a F => ?_
 refine qs F Aa (Az (v := Value.int .i64 p1.2.2.2) 0 F Aa Aa T3 Aa).q fun a F => ?_
 refine qs F Aa (BV (v := Value.int .i64 (AY p0.2.2.2 p1.2.2.2)) F Rr Aa (fun w W => Gw any w p0.2.2.2 p1.2.2.2 _ Aa)) fun a F => ?_
 refine qs F Aa (Ak HA Aa Aa Aa T3 F Aa 0 Aa).q fun a F => ?_
 refine qs F Aa (Az (v := Value.int .i64 p0.1) 1 F Aa Aa T3 Aa).q fun a F => ?_
 refine qs F Aa (Ak HA Aa Aa Aa T3 F Aa 0 Aa).q fun a F => ?_
 refine qs F Aa (Az (v := Value.int .i64 p1.1) 0 F Aa Aa T3 Aa).q fun a F => ?_
 refine qs F Aa (BV (v := Value.int .i64 (AY p0.1 p1.1)) F Rr Aa (fun w W => Gw any w p0.1 p1.1 _ Aa)) fun a F => ?_
 refine qs F Aa (Ak HA Aa Aa Aa T3 F Aa 1 Aa).q fun a F => ?_
 refine qs F Aa (Az (v := Value.int .i64 p0.2.1) 1 F Aa Aa T3 Aa).q fun a F => ?_
 refine qs F Aa (Ak HA Aa Aa Aa T3 F Aa 1 Aa).q fun a F => ?_
 refine qs F Aa (Az (v := Value.int .i64 p1.2.1) 0 F Aa Aa T3 Aa).q fun a F => ?_
 refine qs F Aa (BV (v := Value.int .i64 (AY p0.2.1 p1.2.1)) F Rr Aa (fun w W => Gw any w p0.2.1 p1.2.1 _ Aa)) fun a F => ?_
 refine AZ fun w W => ?_
 refine Fo (z := Value.int .i64 0) (cs := [.int .i64 (AY p0.2.2.2 p1.2.2.2), .int .i64 (AY p0.1 p1.1), .int .i64 (AY p0.2.1 p1.2.1)]) (Rp.int .i64) ([(AY p0.2.2.2 p1.2.2.2), (AY p0.1 p1.1), (AY p0.2.1 p1.2.1)] : List Int) F W Aa GP Z3 Aa Aa Aa Aa Aa Aa (Fl.int.repL _ _ ([(AY p0.2.2.2 p1.2.2.2), (AY p0.1 p1.1), (AY p0.2.1 p1.2.1)] : List Int)) fun v1 a w F W => ?_
 obtain ⟨x1, h1, H⟩ := Al H
 refine ls F W Aa (BV (v := Value.int .i64 x1) F Ta Aa (fun w W => Mc any w (v1) ([(AY p0.2.2.2 p1.2.2.2), (AY p0.1 p1.1), (AY p0.2.1 p1.2.1)] : List Int) _ h1 (((An 0 Aa) : Ec _ _ _ _ _ _) w W).nx)) fun a w F W => ?_
 refine ls F W Aa (Ag F Aa).q fun a w F W => ?_
 refine Ae (Ab (AF ?_))
 have H := AX H
 subst H
 refine BA (.inl Aa) F W Aa (Ay F Aa) ?_
 exact ⟨rfl, W.done⟩
theorem NR : Has Try.prog 26 := ⟨fun args w => Am Try.func26 rfl (by decide) args w⟩
noncomputable def AQ (p1 : Int) : ((List (Int × Int × Int × Int)) × Int) → Option (((List (Int × Int × Int × Int)) × Int) ⊕ (List (Int × Int × Int × Int)))
  | (x4, x5) => (if p1 < x5 then (ix x4 x5).bind fun x7 => (ix x4 (AC (x5 - 1))).bind fun x8 => (BT x7 x8).bind fun x9 => some (decide (x9 < 0)) else some false).bind fun x6 => (if x6 = true then (ix x4 (AC (x5 - 1))).bind fun x10 => (ix x4 x5).bind fun x11 => (ix x4 x5).bind fun x12 => (ix (Aw x4 x5 x10) (AC (x5 - 1))).bind fun x13 => some (.inl ((Aw (Aw x4 x5 x10) (AC (x5 - 1)) x11), AC (x5 - 1))) else some (.inr x4))
noncomputable def A7 (p1 : Int) (p2 : Int) : ((List (Int × Int × Int × Int)) × Int) → Option (((List (Int × Int × Int × Int)) × Int) ⊕ (List (Int × Int × Int × Int)))
  | (x1, x2) => (if x2 < p2 then (AO (AQ p1) (x1, x2)).bind fun x3 => some (.inl (x3, AC (x2 + 1))) else some (.inr x1))
noncomputable def Bw (p0 : List (Int × Int × Int × Int)) (p1 : Int) (p2 : Int) : Option (List (Int × Int × Int × Int)) := AO (A7 p1 p2) (p0, AC (p1 + 1))
theorem Fa (Y : Nat → Prop) (X : List Nat) (w0 : World) (v1 : Value) (p0 : List (Int × Int × Int × Int)) (p1 : Int) (p2 : Int) (r : (List (Int × Int × Int × Int))) (H : Bw p0 p1 p2 = some r) (hL : Stw ⟨Y, X, w0⟩ [] [row v1 62 Ba p0] w0) :
    Calls Try.prog 59 #[v1, .int .i64 p1, .int .i64 p2, .func (.func 26) #[] #[]] w0 fun e w' => ∃ x : Unit, e = .returned (.tuple #[]) ∧ Stw ⟨Y, X, w0⟩ [] [row v1 62 Ba r] w' := by
 refine enter Try.func59 Aa Try.ntmps59 Aa fun a F => ?_
 have W := hL
 unfold Bw at H
 refine Ah (Ac ?_)
 refine ls F W Aa (Ad F Aa).q fun a w F W => ?_
 refine ls F W Aa (BL F Aa Aa Aa).q fun a w F W => ?_
 refine ls F W Aa (Ag F Aa).q fun a w F W => ?_
 refine Ae (Ab (Av ?_))
 refine Bk H (fun s a w => Fr 53 [] [(0, v1), (1, .int .i64 p1), (2, .int .i64 p2), (3, .func (.func 26) #[] #[]), (8, .int .i64 s.2)] a ∧ Stw ⟨Y, X, w0⟩ [] [row v1 62 Ba s.1] w) ⟨F.re ⟨rfl, Aa, Aa, Aa, Aa, trivial⟩, W⟩ fun s o a w H L1 hR => ?_
 obtain ⟨x1, x2⟩ := s
 obtain ⟨F, W⟩ := hR
 have F : Fr 53 [] [(0, v1), (1, .int .i64 p1), (2, .int .i64 p2), (3, .func (.func 26) #[] #[]), (8, .int .i64 x2)] a := F
 have W : Stw ⟨Y, X, w0⟩ [] [row v1 62 Ba x1] w := W
 rw [A7] at H
 refine Ah (Ah (Ac ?_))
 iterate 2 refine ls F W Aa (Ad F Aa).q fun a w F W => ?_
 refine ls F W Aa (BM F Aa Aa).q fun a w F W => ?_
 refine Ae (Ab ?_)
 refine AB F Aa (fun hb => ?_) fun hb => ?_
 ·
  have H := AR (Br hb) H
  rw [hb] at F
  clear hb
  refine Au (Ab ?_)
  obtain ⟨o2, G2, K2⟩ := Al H
  refine AM (fun a w => ∃ x3 : List (Int × Int × Int × Int), some (x3) = some o2 ∧ Fr 53 [] [(0, v1), (1, .int .i64 p1), (2, .int .i64 p2), (3, .func (.func 26) #[] #[]), (8, .int .i64 x2)] a ∧ Stw ⟨Y, X, w0⟩ [] [row v1 62 Ba x3] w) ?_ ?_
  ·
   have H := G2
   clear G2 K2
   refine Av (Ah (Ac ?_))
   refine ls F W Aa (Ad F Aa).q fun a w F W => ?_
   refine ls F W Aa (Ag F Aa).q fun a w F W => ?_
   refine Ae (Ab (Av ?_))
   refine Bk H (fun s a w => Fr 53 [] [(0, v1), (1, .int .i64 p1), (2, .int .i64 p2), (3, .func (.func 26) #[] #[]), (8, .int .i64 x2), (9, .int .i64 s.2)] a ∧ Stw ⟨Y, X, w0⟩ [] [row v1 62 Ba s.1] w) ⟨F.re ⟨rfl, Aa, Aa, Aa, Aa, Aa, trivial⟩, W⟩ fun s o a w H L3 hR => ?_
   obtain ⟨x4, x5⟩ := s
   obtain ⟨F, W⟩ := hR
   have F : Fr 53 [] [(0, v1), (1, .int .i64 p1), (2, .int .i64 p2), (3, .func (.func 26) #[] #[]), (8, .int .i64 x2), (9, .int .i64 x5)] a := F
   have W : Stw ⟨Y, X, w0⟩ [] [row v1 62 Ba x4] w := W
   rw [AQ] at H
   refine Ah ?_
   obtain ⟨o4, G4, K4⟩ := Al H
   refine AM (fun a w => ∃ x6 : Bool, some (x6) = some o4 ∧ Fr 53 [] [(0, v1), (1, .int .i64 p1), (2, .int .i64 p2), (3, .func (.func 26) #[] #[]), (8, .int .i64 x2), (9, .int .i64 x5), (34, .bool x6)] a ∧ Stw ⟨Y, X, w0⟩ [] [row v1 62 Ba x4] w) ?_ ?_
   ·
    have H := G4
    clear G4 K4
    refine BQ W MO (by kernel_rfl) ?_
    iterate 2 refine qs F Aa (Ad F Aa).q fun a F => ?_
    refine qs F Aa (Gf F Aa Aa).q fun a F => ?_
    refine qs F Aa (Ad F Aa).q fun a F => ?_
    rcases Bool.eq_false_or_eq_true (decide (p1 < x5)) with hb | hb
    ·
     have H := AR (Br hb) H
     rw [hb] at F
     clear hb
     iterate 3 refine Bc F (Af F Aa Aa Aa Aa) Aa (Aj Aa) (Ad F Aa).q fun a F => ?_
     obtain ⟨x7, h1, H⟩ := Al H
     refine Bc F (Af F Aa Aa Aa Aa) Aa (Aj Aa) (Ax (r := Ba) Ej F Aa Aa (An 0 Aa) h1).q fun a F => ?_
     refine Bc F (Af F Aa Aa Aa Aa) Aa (Aj Aa) (Ap (y := Value.agg #[.int .i64 x7.1, .int .i64 x7.2.1, .int .i64 x7.2.2.1, .int .i64 x7.2.2.2]) (j := 0) (i := x5) F Aa Aa (An 0 Aa) h1 El.to Ea Aa).q fun a F => ?_
     iterate 2 refine Bc F (Af F Aa Aa Aa Aa) Aa (Aj Aa) (Ad F Aa).q fun a F => ?_
     refine Bc F (Af F Aa Aa Aa Aa) Aa (Aj Aa) (Cm F Aa Aa Aa).q fun a F => ?_
     obtain ⟨x8, h2, H⟩ := Al H
     refine Bc F (Af F Aa Aa Aa Aa) Aa (Aj Aa) (Ax (r := Ba) Ej F Aa Aa (An 0 Aa) h2).q fun a F => ?_
     refine Bc F (Af F Aa Aa Aa Aa) Aa (Aj Aa) (Ap (y := Value.agg #[.int .i64 x8.1, .int .i64 x8.2.1, .int .i64 x8.2.2.1, .int .i64 x8.2.2.2]) (j := 0) (i := AC (x5 - 1)) F Aa Aa (An 0 Aa) h2 El.to Ea Aa).q fun a F => ?_
     obtain ⟨x9, h3, H⟩ := Al H
     refine Bc F (Af F Aa Aa Aa Aa) Aa (Aj Aa) (EG (ws := [.agg #[.int .i64 x7.1, .int .i64 x7.2.1, .int .i64 x7.2.2.1, .int .i64 x7.2.2.2], .agg #[.int .i64 x8.1, .int .i64 x8.2.1, .int .i64 x8.2.2.1, .int .i64 x8.2.2.2]]) (v := Value.int .i64 x9) F NR Aa (fun w W => B8 any w x7 x8 _ h3)) fun a F => ?_
     refine Bc F (Af F Aa Aa Aa Aa) Aa (Aj Aa) (BM F Aa Aa).q fun a F => ?_
     refine qs F Aa (Aq F Aa Aa Aa).q fun a F => ?_
     refine AZ fun w W => ?_
     refine Ab ?_
     exact ⟨_, H, F.re ⟨rfl, Aa, Aa, Aa, Aa, Aa, Aa, trivial⟩, W⟩
    have H := AS (Bq hb) H
    rw [hb] at F
    clear hb
    iterate 12 refine Dl F (Cy F Aa Aa Aa Aa Aa) Aa Aa fun a F => ?_
    refine qs F Aa (AA F Aa Aa Aa).q fun a F => ?_
    refine AZ fun w W => ?_
    refine Ab ?_
    exact ⟨_, H, F.re ⟨rfl, Aa, Aa, Aa, Aa, Aa, Aa, trivial⟩, W⟩
   rintro a w ⟨x6, hj, F, W⟩
   have hj := AX hj
   subst hj
   have H := K4
   clear G4 K4
   refine AB F Aa (fun hb => ?_) fun hb => ?_
   ·
    have H := AR hb H
    rw [hb] at F
    clear hb
    refine Au (Ab (Ah (Av ?_)))
    refine Gx [(true, 0), (true, 1), (true, 2), (true, 3), (true, 4), (true, 5), (true, 6), (true, 7), (true, 8), (true, 9), (true, 10), (true, 11), (true, 12), (true, 13), (true, 14), (false, 15), (true, 16), (false, 17)] (CN ⟨Y, X, w0⟩ [] [(some 15, row v1 62 Ba x4)]) (fun ch a d v w h => by cases d <;> exact h) MO (by kernel_rfl) W (fun w W => ⟨_, _, W, Bz, (all_cons (fun _ => (.head _)) Bz)⟩) fun w W => ?_
    iterate 4 refine Ca (R := []) F Aa Aa (yC fun M Z hN hZ => Ad F Aa) Aa Aa fun a F => ?_
    refine Ca (R := []) F Aa Aa (yC fun M Z hN hZ => Cm F Aa Aa Aa) Aa Aa fun a F => ?_
    iterate 2 refine Ca (R := []) F Aa Aa (yC fun M Z hN hZ => Ad F Aa) Aa Aa fun a F => ?_
    refine Ca (R := []) F Aa Aa (yC fun M Z hN hZ => Cm F Aa Aa Aa) Aa Aa fun a F => ?_
    obtain ⟨x10, h4, H⟩ := Al H
    refine Ca (R := []) F Aa Aa (yC fun M Z hN hZ => B4 (r := Ba) Ej F Aa Aa (D5 W (An 0 Aa)) h4) Aa Aa fun a F => ?_
    refine Ca (R := [15]) F Aa Aa (yC fun M Z hN hZ => Ap (y := Value.agg #[.int .i64 x10.1, .int .i64 x10.2.1, .int .i64 x10.2.2.1, .int .i64 x10.2.2.2]) (j := 0) (i := AC (x5 - 1)) F Aa Aa (DS (hZ ((some 15), row v1 62 Ba x4) (.head _) Aa)) h4 El.to Ea Aa) (by kernel_rfl) Aa fun a F => ?_
    iterate 2 refine Ca (R := []) F Aa Aa (yC fun M Z hN hZ => Ad F Aa) Aa Aa fun a F => ?_
    obtain ⟨x11, h5, H⟩ := Al H
    refine Ca (R := []) F Aa Aa (yC fun M Z hN hZ => B4 (r := Ba) Ej F Aa Aa (D5 W (An 0 Aa)) h5) Aa Aa fun a F => ?_
    refine Ca (R := [15]) F Aa Aa (yC fun M Z hN hZ => Ap (y := Value.agg #[.int .i64 x11.1, .int .i64 x11.2.1, .int .i64 x11.2.2.1, .int .i64 x11.2.2.2]) (j := 0) (i := x5) F Aa Aa (DS (hZ ((some 15), row v1 62 Ba x4) (.head _) Aa)) h5 El.to Ea Aa) (by kernel_rfl) Aa fun a F => ?_
    obtain ⟨x12, h6, H⟩ := Al H
    refine Ca (R := []) F Aa Aa (yC fun M Z hN hZ => B4 (r := Ba) Ej F Aa Aa (D5 W (An 0 Aa)) h6) Aa Aa fun a F => ?_
    refine ID Aa ?_
    refine Bx (i := x5) (j := 0) (vs := [.int .i64 x10.1, .int .i64 x10.2.1, .int .i64 x10.2.2.1, .int .i64 x10.2.2.2]) (x' := x10) F W Aa Aa Aa (k := 0) Aa Aa h6 Ea Aa Aa Aa Aa (fun A cs _ => El.sto (by rfl) _ _ _) fun w W => ?_
    refine D1 (N2 := []) (NZ2 := []) (N3 := []) (NZ3 := [(some 15, row v1 62 Ba x4)]) W Aa Aa Bz (all_cons (fun h => DV (by kernel_rfl) h) Bz) ?_
    obtain ⟨x13, h7, H⟩ := Al H
    refine Ca (R := []) F Aa Aa (yC fun M Z hN hZ => B4 (r := Ba) Ej F Aa Aa (D5 W (An 0 Aa)) h7) Aa Aa fun a F => ?_
    refine ID Aa ?_
    refine Bx (i := AC (x5 - 1)) (j := 0) (vs := [.int .i64 x11.1, .int .i64 x11.2.1, .int .i64 x11.2.2.1, .int .i64 x11.2.2.2]) (x' := x11) F W Aa Aa Aa (k := 0) Aa Aa h7 Ea Aa Aa Aa Aa (fun A cs _ => El.sto (by rfl) _ _ _) fun w W => ?_
    refine D1 (N2 := []) (NZ2 := []) (N3 := []) (NZ3 := [(some 15, row v1 62 Ba x4)]) W Aa Aa Bz (all_cons (fun h => DV (by kernel_rfl) h) Bz) ?_
    refine IC (AP (Ab (Ac ?_)))
    refine ls F W Aa (Ad F Aa).q fun a w F W => ?_
    refine ls F W Aa (Cm F Aa Aa Aa).q fun a w F W => ?_
    refine ls F W Aa (Ag F Aa).q fun a w F W => ?_
    refine Ae (Ab ?_)
    exact ⟨_, H, F.re ⟨rfl, Aa, Aa, Aa, Aa, Aa, trivial⟩, W⟩
   have H := AS (by rw [hb]; decide) H
   rw [hb] at F
   clear hb
   refine Bh ?_
   iterate 2 refine BK ?_
   refine Bj (AP (Ab ?_))
   have H := L3 _ H
   exact ⟨_, H, F.re ⟨rfl, Aa, Aa, Aa, Aa, trivial⟩, W⟩
  rintro a w ⟨x3, hj, F, W⟩
  have hj := AX hj
  subst hj
  have H := K2
  clear G2 K2
  refine Ac ?_
  refine ls F W Aa (Ad F Aa).q fun a w F W => ?_
  refine ls F W Aa (BL F Aa Aa Aa).q fun a w F W => ?_
  refine ls F W Aa (Ag F Aa).q fun a w F W => ?_
  refine Ae (Ab ?_)
  exact ⟨_, H, F.re ⟨rfl, Aa, Aa, Aa, Aa, trivial⟩, W⟩
 have H := AS (Bq hb) H
 rw [hb] at F
 clear hb
 refine Bh ?_
 iterate 2 refine BK ?_
 refine Bj ?_
 have H := L1 _ H
 have H := AX H
 subst H
 refine Hw (.inr Aa) F Aa ?_
 exact ⟨(), Aa, W⟩
theorem Sw : Has Try.prog 59 := ⟨fun args w => Am Try.func59 rfl (by decide) args w⟩
noncomputable def AN (p2 : Int) (p3 : Int) : ((List (Int × Int × Int × Int)) × Int) → Option (((List (Int × Int × Int × Int)) × Int) ⊕ (List (Int × Int × Int × Int)))
  | (x1, x2) => (if p2 ≤ (AC ((AC (2 * x2)) + 1)) then some (.inr x1) else ((if (AC ((AC ((AC (2 * x2)) + 1)) + 1)) < p2 then (ix x1 (AC (p3 + (AC ((AC (2 * x2)) + 1))))).bind fun x5 => (ix x1 (AC ((AC (p3 + (AC ((AC (2 * x2)) + 1)))) + 1))).bind fun x6 => (BT x5 x6).bind fun x7 => some (decide (x7 < 0)) else some false).bind fun x4 => (if x4 = true then some (AC ((AC ((AC (2 * x2)) + 1)) + 1)) else some (AC ((AC (2 * x2)) + 1)))).bind fun x3 => (ix x1 (AC (p3 + x2))).bind fun x8 => (ix x1 (AC (p3 + x3))).bind fun x9 => (BT x8 x9).bind fun x10 => (if (!(decide (x10 < 0))) = true then some (.inr x1) else (ix x1 (AC (p3 + x3))).bind fun x11 => (ix x1 (AC (p3 + x2))).bind fun x12 => (ix x1 (AC (p3 + x2))).bind fun x13 => (ix (Aw x1 (AC (p3 + x2)) x11) (AC (p3 + x3))).bind fun x14 => some (.inl ((Aw (Aw x1 (AC (p3 + x2)) x11) (AC (p3 + x3)) x12), x3))))
noncomputable def BG (p0 : List (Int × Int × Int × Int)) (p1 : Int) (p2 : Int) (p3 : Int) : Option (List (Int × Int × Int × Int)) := AO (AN p2 p3) (p0, p1)
theorem D4 (Y : Nat → Prop) (X : List Nat) (w0 : World) (v1 : Value) (p0 : List (Int × Int × Int × Int)) (p1 : Int) (p2 : Int) (p3 : Int) (r : (List (Int × Int × Int × Int))) (H : BG p0 p1 p2 p3 = some r) (hL : Stw ⟨Y, X, w0⟩ [] [row v1 62 Ba p0] w0) :
    Calls Try.prog 78 #[v1, .int .i64 p1, .int .i64 p2, .int .i64 p3, .func (.func 26) #[] #[]] w0 fun e w' => ∃ x : Unit, e = .returned (.tuple #[]) ∧ Stw ⟨Y, X, w0⟩ [] [row v1 62 Ba r] w' := by
 refine enter Try.func78 Aa Try.ntmps78 Aa fun a F => ?_
 have W := hL
 unfold BG at H
 refine Ah (Ac ?_)
 refine ls F W Aa (Ad F Aa).q fun a w F W => ?_
 refine ls F W Aa (Ag F Aa).q fun a w F W => ?_
 refine Ae (Ab (Av ?_))
 refine Bk H (fun s a w => Fr 82 [] [(0, v1), (2, .int .i64 p2), (3, .int .i64 p3), (4, .func (.func 26) #[] #[]), (10, .int .i64 s.2)] a ∧ Stw ⟨Y, X, w0⟩ [] [row v1 62 Ba s.1] w) ⟨F.re ⟨rfl, Aa, Aa, Aa, Aa, trivial⟩, W⟩ fun s o a w H L1 hR => ?_
 obtain ⟨x1, x2⟩ := s
 obtain ⟨F, W⟩ := hR
 have F : Fr 82 [] [(0, v1), (2, .int .i64 p2), (3, .int .i64 p3), (4, .func (.func 26) #[] #[]), (10, .int .i64 x2)] a := F
 have W : Stw ⟨Y, X, w0⟩ [] [row v1 62 Ba x1] w := W
 rw [AN] at H
 refine Av (Ah (Ac ?_))
 refine ls F W Aa (Ad F Aa).q fun a w F W => ?_
 refine ls F W Aa (LX F Aa Aa Aa).q fun a w F W => ?_
 refine ls F W Aa (BL F Aa Aa Aa).q fun a w F W => ?_
 refine ls F W Aa (Ag F Aa).q fun a w F W => ?_
 refine Ae (Ab (Ah (Ah (Ac ?_))))
 iterate 2 refine ls F W Aa (Ad F Aa).q fun a w F W => ?_
 refine ls F W Aa (DL F Aa Aa).q fun a w F W => ?_
 refine Ae (Ab ?_)
 refine AB F Aa (fun hb => ?_) fun hb => ?_
 ·
  have H := AR (Br hb) H
  rw [hb] at F
  clear hb
  refine Bh (BK ?_)
  refine Lp Aa ?_
  refine BK (Bj ?_)
  have H := L1 _ H
  have H := AX H
  subst H
  refine Hw (.inr Aa) F Aa ?_
  exact ⟨(), Aa, W⟩
 have H := AS (Bq hb) H
 rw [hb] at F
 clear hb
 refine Au (Ab ?_)
 obtain ⟨o2, G2, K2⟩ := Al H
 refine AM (fun a w => ∃ x3 : Int, some (x3) = some o2 ∧ Fr 82 [] [(0, v1), (2, .int .i64 p2), (3, .int .i64 p3), (4, .func (.func 26) #[] #[]), (10, .int .i64 x2), (11, .int .i64 x3)] a ∧ Stw ⟨Y, X, w0⟩ [] [row v1 62 Ba x1] w) ?_ ?_
 ·
  have H := G2
  clear G2 K2
  obtain ⟨o3, G3, K3⟩ := Al H
  refine AM (fun a w => ∃ x4 : Bool, some (x4) = some o3 ∧ Fr 82 [] [(0, v1), (2, .int .i64 p2), (3, .int .i64 p3), (4, .func (.func 26) #[] #[]), (10, .int .i64 x2), (11, .int .i64 (AC ((AC (2 * x2)) + 1))), (40, .bool x4)] a ∧ Stw ⟨Y, X, w0⟩ [] [row v1 62 Ba x1] w) ?_ ?_
  ·
   have H := G3
   clear G3 K3
   refine BQ W MO (by kernel_rfl) ?_
   refine qs F Aa (Ad F Aa).q fun a F => ?_
   refine qs F Aa (BL F Aa Aa Aa).q fun a F => ?_
   refine qs F Aa (Ad F Aa).q fun a F => ?_
   refine qs F Aa (BM F Aa Aa).q fun a F => ?_
   refine qs F Aa (Ad F Aa).q fun a F => ?_
   rcases Bool.eq_false_or_eq_true (decide ((AC ((AC ((AC (2 * x2)) + 1)) + 1)) < p2)) with hb | hb
   ·
    have H := AR (Br hb) H
    rw [hb] at F
    clear hb
    iterate 4 refine Bc F (Af F Aa Aa Aa Aa) Aa (Aj Aa) (Ad F Aa).q fun a F => ?_
    refine Bc F (Af F Aa Aa Aa Aa) Aa (Aj Aa) (BL F Aa Aa Aa).q fun a F => ?_
    obtain ⟨x5, h1, H⟩ := Al H
    refine Bc F (Af F Aa Aa Aa Aa) Aa (Aj Aa) (Ax (r := Ba) Ej F Aa Aa (An 0 Aa) h1).q fun a F => ?_
    refine Bc F (Af F Aa Aa Aa Aa) Aa (Aj Aa) (Ap (y := Value.agg #[.int .i64 x5.1, .int .i64 x5.2.1, .int .i64 x5.2.2.1, .int .i64 x5.2.2.2]) (j := 0) (i := AC (p3 + (AC ((AC (2 * x2)) + 1)))) F Aa Aa (An 0 Aa) h1 El.to Ea Aa).q fun a F => ?_
    iterate 3 refine Bc F (Af F Aa Aa Aa Aa) Aa (Aj Aa) (Ad F Aa).q fun a F => ?_
    iterate 2 refine Bc F (Af F Aa Aa Aa Aa) Aa (Aj Aa) (BL F Aa Aa Aa).q fun a F => ?_
    obtain ⟨x6, h2, H⟩ := Al H
    refine Bc F (Af F Aa Aa Aa Aa) Aa (Aj Aa) (Ax (r := Ba) Ej F Aa Aa (An 0 Aa) h2).q fun a F => ?_
    refine Bc F (Af F Aa Aa Aa Aa) Aa (Aj Aa) (Ap (y := Value.agg #[.int .i64 x6.1, .int .i64 x6.2.1, .int .i64 x6.2.2.1, .int .i64 x6.2.2.2]) (j := 0) (i := AC ((AC (p3 + (AC ((AC (2 * x2)) + 1)))) + 1)) F Aa Aa (An 0 Aa) h2 El.to Ea Aa).q fun a F => ?_
    obtain ⟨x7, h3, H⟩ := Al H
    refine Bc F (Af F Aa Aa Aa Aa) Aa (Aj Aa) (EG (ws := [.agg #[.int .i64 x5.1, .int .i64 x5.2.1, .int .i64 x5.2.2.1, .int .i64 x5.2.2.2], .agg #[.int .i64 x6.1, .int .i64 x6.2.1, .int .i64 x6.2.2.1, .int .i64 x6.2.2.2]]) (v := Value.int .i64 x7) F NR Aa (fun w W => B8 any w x5 x6 _ h3)) fun a F => ?_
    refine Bc F (Af F Aa Aa Aa Aa) Aa (Aj Aa) (BM F Aa Aa).q fun a F => ?_
    refine qs F Aa (Aq F Aa Aa Aa).q fun a F => ?_
    refine AZ fun w W => ?_
    refine Ab ?_
    exact ⟨_, H, F.re ⟨rfl, Aa, Aa, Aa, Aa, Aa, Aa, trivial⟩, W⟩
   have H := AS (Bq hb) H
   rw [hb] at F
   clear hb
   iterate 16 refine Dl F (Cy F Aa Aa Aa Aa Aa) Aa Aa fun a F => ?_
   refine qs F Aa (AA F Aa Aa Aa).q fun a F => ?_
   refine AZ fun w W => ?_
   refine Ab ?_
   exact ⟨_, H, F.re ⟨rfl, Aa, Aa, Aa, Aa, Aa, Aa, trivial⟩, W⟩
  rintro a w ⟨x4, hj, F, W⟩
  have hj := AX hj
  subst hj
  have H := K3
  clear G3 K3
  refine AB F Aa (fun hb => ?_) fun hb => ?_
  ·
   have H := AR hb H
   rw [hb] at F
   clear hb
   refine Ac ?_
   refine ls F W Aa (Ad F Aa).q fun a w F W => ?_
   refine ls F W Aa (BL F Aa Aa Aa).q fun a w F W => ?_
   refine ls F W Aa (Ag F Aa).q fun a w F W => ?_
   refine Ae (Ab ?_)
   exact ⟨_, H, F.re ⟨rfl, Aa, Aa, Aa, Aa, Aa, trivial⟩, W⟩
  have H := AS (by rw [hb]; decide) H
  rw [hb] at F
  clear hb
  refine Au (Ab ?_)
  exact ⟨_, H, F.re ⟨rfl, Aa, Aa, Aa, Aa, Aa, trivial⟩, W⟩
 rintro a w ⟨x3, hj, F, W⟩
 have hj := AX hj
 subst hj
 have H := K2
 clear G2 K2
 iterate 2 refine Ah ?_
 refine BQ W MO (by kernel_rfl) ?_
 iterate 4 refine qs F Aa (Ad F Aa).q fun a F => ?_
 refine qs F Aa (BL F Aa Aa Aa).q fun a F => ?_
 obtain ⟨x8, h4, H⟩ := Al H
 refine qs F Aa (Ax (r := Ba) Ej F Aa Aa (An 0 Aa) h4).q fun a F => ?_
 refine qs F Aa (Ap (y := Value.agg #[.int .i64 x8.1, .int .i64 x8.2.1, .int .i64 x8.2.2.1, .int .i64 x8.2.2.2]) (j := 0) (i := AC (p3 + x2)) F Aa Aa (An 0 Aa) h4 El.to Ea Aa).q fun a F => ?_
 iterate 3 refine qs F Aa (Ad F Aa).q fun a F => ?_
 refine qs F Aa (BL F Aa Aa Aa).q fun a F => ?_
 obtain ⟨x9, h5, H⟩ := Al H
 refine qs F Aa (Ax (r := Ba) Ej F Aa Aa (An 0 Aa) h5).q fun a F => ?_
 refine qs F Aa (Ap (y := Value.agg #[.int .i64 x9.1, .int .i64 x9.2.1, .int .i64 x9.2.2.1, .int .i64 x9.2.2.2]) (j := 0) (i := AC (p3 + x3)) F Aa Aa (An 0 Aa) h5 El.to Ea Aa).q fun a F => ?_
 obtain ⟨x10, h6, H⟩ := Al H
 refine qs F Aa (EG (ws := [.agg #[.int .i64 x8.1, .int .i64 x8.2.1, .int .i64 x8.2.2.1, .int .i64 x8.2.2.2], .agg #[.int .i64 x9.1, .int .i64 x9.2.1, .int .i64 x9.2.2.1, .int .i64 x9.2.2.2]]) (v := Value.int .i64 x10) F NR Aa (fun w W => B8 any w x8 x9 _ h6)) fun a F => ?_
 refine qs F Aa (BM F Aa Aa).q fun a F => ?_
 refine qs F Aa (En F Aa).q fun a F => ?_
 refine AZ fun w W => ?_
 refine Ab ?_
 refine AB F Aa (fun hb => ?_) fun hb => ?_
 ·
  have H := AR hb H
  rw [hb] at F
  clear hb
  refine AF (AK (AU (AK (AU ?_))))
  have H := L1 _ H
  have H := AX H
  subst H
  refine Hw (.inl Aa) F Aa ?_
  exact ⟨(), Aa, W⟩
 have H := AS (by rw [hb]; decide) H
 rw [hb] at F
 clear hb
 refine Au (Ab (Ah ?_))
 refine Gx [(true, 0), (true, 1), (true, 2), (true, 3), (true, 4), (true, 5), (true, 6), (true, 7), (true, 8), (true, 9), (true, 10), (true, 11), (true, 12), (true, 13), (true, 14), (true, 15), (true, 16), (true, 17), (true, 18), (true, 19), (true, 20), (false, 21), (true, 22), (false, 23)] (CN ⟨Y, X, w0⟩ [] [(some 21, row v1 62 Ba x1)]) (fun ch a d v w h => by cases d <;> exact h) MO (by kernel_rfl) W (fun w W => ⟨_, _, W, Bz, (all_cons (fun _ => (.head _)) Bz)⟩) fun w W => ?_
 iterate 3 refine Ca (R := []) F Aa Aa (yC fun M Z hN hZ => Ad F Aa) Aa Aa fun a F => ?_
 refine Ca (R := []) F Aa Aa (yC fun M Z hN hZ => BL F Aa Aa Aa) Aa Aa fun a F => ?_
 iterate 3 refine Ca (R := []) F Aa Aa (yC fun M Z hN hZ => Ad F Aa) Aa Aa fun a F => ?_
 refine Ca (R := []) F Aa Aa (yC fun M Z hN hZ => BL F Aa Aa Aa) Aa Aa fun a F => ?_
 iterate 3 refine Ca (R := []) F Aa Aa (yC fun M Z hN hZ => Ad F Aa) Aa Aa fun a F => ?_
 refine Ca (R := []) F Aa Aa (yC fun M Z hN hZ => BL F Aa Aa Aa) Aa Aa fun a F => ?_
 obtain ⟨x11, h7, H⟩ := Al H
 refine Ca (R := []) F Aa Aa (yC fun M Z hN hZ => B4 (r := Ba) Ej F Aa Aa (D5 W (An 0 Aa)) h7) Aa Aa fun a F => ?_
 refine Ca (R := [21]) F Aa Aa (yC fun M Z hN hZ => Ap (y := Value.agg #[.int .i64 x11.1, .int .i64 x11.2.1, .int .i64 x11.2.2.1, .int .i64 x11.2.2.2]) (j := 0) (i := AC (p3 + x3)) F Aa Aa (DS (hZ ((some 21), row v1 62 Ba x1) (.head _) Aa)) h7 El.to Ea Aa) (by kernel_rfl) Aa fun a F => ?_
 iterate 3 refine Ca (R := []) F Aa Aa (yC fun M Z hN hZ => Ad F Aa) Aa Aa fun a F => ?_
 refine Ca (R := []) F Aa Aa (yC fun M Z hN hZ => BL F Aa Aa Aa) Aa Aa fun a F => ?_
 obtain ⟨x12, h8, H⟩ := Al H
 refine Ca (R := []) F Aa Aa (yC fun M Z hN hZ => B4 (r := Ba) Ej F Aa Aa (D5 W (An 0 Aa)) h8) Aa Aa fun a F => ?_
 refine Ca (R := [21]) F Aa Aa (yC fun M Z hN hZ => Ap (y := Value.agg #[.int .i64 x12.1, .int .i64 x12.2.1, .int .i64 x12.2.2.1, .int .i64 x12.2.2.2]) (j := 0) (i := AC (p3 + x2)) F Aa Aa (DS (hZ ((some 21), row v1 62 Ba x1) (.head _) Aa)) h8 El.to Ea Aa) (by kernel_rfl) Aa fun a F => ?_
 obtain ⟨x13, h9, H⟩ := Al H
 refine Ca (R := []) F Aa Aa (yC fun M Z hN hZ => B4 (r := Ba) Ej F Aa Aa (D5 W (An 0 Aa)) h9) Aa Aa fun a F => ?_
 refine ID Aa ?_
 refine Bx (i := AC (p3 + x2)) (j := 0) (vs := [.int .i64 x11.1, .int .i64 x11.2.1, .int .i64 x11.2.2.1, .int .i64 x11.2.2.2]) (x' := x11) F W Aa Aa Aa (k := 0) Aa Aa h9 Ea Aa Aa Aa Aa (fun A cs _ => El.sto (by rfl) _ _ _) fun w W => ?_
 refine D1 (N2 := []) (NZ2 := []) (N3 := []) (NZ3 := [(some 21, row v1 62 Ba x1)]) W Aa Aa Bz (all_cons (fun h => DV (by kernel_rfl) h) Bz) ?_
 obtain ⟨x14, h10, H⟩ := Al H
 refine Ca (R := []) F Aa Aa (yC fun M Z hN hZ => B4 (r := Ba) Ej F Aa Aa (D5 W (An 0 Aa)) h10) Aa Aa fun a F => ?_
 refine ID Aa ?_
 refine Bx (i := AC (p3 + x3)) (j := 0) (vs := [.int .i64 x12.1, .int .i64 x12.2.1, .int .i64 x12.2.2.1, .int .i64 x12.2.2.2]) (x' := x12) F W Aa Aa Aa (k := 0) Aa Aa h10 Ea Aa Aa Aa Aa (fun A cs _ => El.sto (by rfl) _ _ _) fun w W => ?_
 refine D1 (N2 := []) (NZ2 := []) (N3 := []) (NZ3 := [(some 21, row v1 62 Ba x1)]) W Aa Aa Bz (all_cons (fun h => DV (by kernel_rfl) h) Bz) ?_
 refine IC (Ab (Ac ?_))
 refine ls F W Aa (Ad F Aa).q fun a w F W => ?_
 refine ls F W Aa (Ag F Aa).q fun a w F W => ?_
 refine Ae (AP (Ab ?_))
 exact ⟨_, H, F.re ⟨rfl, Aa, Aa, Aa, Aa, trivial⟩, W⟩
theorem Si : Has Try.prog 78 := ⟨fun args w => Am Try.func78 rfl (by decide) args w⟩
noncomputable def Bn (p1 : Int) (p2 : Int) : ((List (Int × Int × Int × Int)) × Int) → Option (((List (Int × Int × Int × Int)) × Int) ⊕ (List (Int × Int × Int × Int)))
  | (x2, x3) => (if 0 ≤ x3 then (BG x2 x3 (AC (p2 - p1)) p1).bind fun x4 => some (.inl (x4, AC (x3 - 1))) else some (.inr x2))
noncomputable def Bm (p1 : Int) : ((List (Int × Int × Int × Int)) × Int) → Option (((List (Int × Int × Int × Int)) × Int) ⊕ (List (Int × Int × Int × Int)))
  | (x5, x6) => (if 0 ≤ x6 then (ix x5 (AC (p1 + x6))).bind fun x7 => (ix x5 p1).bind fun x8 => (ix x5 p1).bind fun x9 => (ix (Aw x5 p1 x7) (AC (p1 + x6))).bind fun x10 => (BG (Aw (Aw x5 p1 x7) (AC (p1 + x6)) x8) 0 x6 p1).bind fun x11 => some (.inl (x11, AC (x6 - 1))) else some (.inr x5))
noncomputable def BP (p0 : List (Int × Int × Int × Int)) (p1 : Int) (p2 : Int) : Option (List (Int × Int × Int × Int)) := (AO (Bn p1 p2) (p0, AC (Int.tdiv (AC ((AC (p2 - p1)) - 1)) 2))).bind fun x1 => AO (Bm p1) (x1, AC ((AC (p2 - p1)) - 1))
theorem F2 (Y : Nat → Prop) (X : List Nat) (w0 : World) (v1 : Value) (p0 : List (Int × Int × Int × Int)) (p1 : Int) (p2 : Int) (r : (List (Int × Int × Int × Int))) (H : BP p0 p1 p2 = some r) (hL : Stw ⟨Y, X, w0⟩ [] [row v1 62 Ba p0] w0) :
    Calls Try.prog 60 #[v1, .int .i64 p1, .int .i64 p2, .func (.func 26) #[] #[]] w0 fun e w' => ∃ x : Unit, e = .returned (.tuple #[]) ∧ Stw ⟨Y, X, w0⟩ [] [row v1 62 Ba r] w' := by
 refine enter Try.func60 Aa Try.ntmps60 Aa fun a F => ?_
 have W := hL
 unfold BP at H
 refine Ah (Ac ?_)
 refine ls F W Aa (Ad F Aa).q fun a w F W => ?_
 refine ls F W Aa (Ag F Aa).q fun a w F W => ?_
 refine Ae (Ab (Ah (Ac ?_)))
 refine ls F W Aa (Ag F Aa).q fun a w F W => ?_
 refine Ae (Ab (Ah (Ac ?_)))
 iterate 2 refine ls F W Aa (Ad F Aa).q fun a w F W => ?_
 refine ls F W Aa (Cm F Aa Aa Aa).q fun a w F W => ?_
 refine ls F W Aa (Ag F Aa).q fun a w F W => ?_
 refine Ae (Ab ?_)
 obtain ⟨o1, G1, K1⟩ := Al H
 refine AM (fun a w => ∃ x1 : List (Int × Int × Int × Int), some (x1) = some o1 ∧ Fr 60 [] [(0, v1), (3, .func (.func 26) #[] #[]), (8, .int .i64 p1), (9, .int .i64 0), (10, .int .i64 (AC (p2 - p1)))] a ∧ Stw ⟨Y, X, w0⟩ [] [row v1 62 Ba x1] w) ?_ ?_
 ·
  have H := G1
  clear G1 K1
  refine Ah (Ac ?_)
  refine ls F W Aa (Ad F Aa).q fun a w F W => ?_
  refine ls F W Aa (Cm F Aa Aa Aa).q fun a w F W => ?_
  refine ls F W Aa (Ln F Aa Aa (by decide) Aa).q fun a w F W => ?_
  refine ls F W Aa (Ag F Aa).q fun a w F W => ?_
  refine Ae (Ab (Av ?_))
  refine Bk H (fun s a w => Fr 60 [] [(0, v1), (3, .func (.func 26) #[] #[]), (8, .int .i64 p1), (9, .int .i64 0), (10, .int .i64 (AC (p2 - p1))), (11, .int .i64 s.2)] a ∧ Stw ⟨Y, X, w0⟩ [] [row v1 62 Ba s.1] w) ⟨F.re ⟨rfl, Aa, Aa, Aa, Aa, Aa, trivial⟩, W⟩ fun s o a w H L2 hR => ?_
  obtain ⟨x2, x3⟩ := s
  obtain ⟨F, W⟩ := hR
  have F : Fr 60 [] [(0, v1), (3, .func (.func 26) #[] #[]), (8, .int .i64 p1), (9, .int .i64 0), (10, .int .i64 (AC (p2 - p1))), (11, .int .i64 x3)] a := F
  have W : Stw ⟨Y, X, w0⟩ [] [row v1 62 Ba x2] w := W
  rw [Bn] at H
  refine Ah (Ah (Ac ?_))
  refine ls F W Aa (Ad F Aa).q fun a w F W => ?_
  refine ls F W Aa (DL F Aa Aa).q fun a w F W => ?_
  refine Ae (Ab ?_)
  refine AB F Aa (fun hb => ?_) fun hb => ?_
  ·
   have H := AR (Br hb) H
   rw [hb] at F
   clear hb
   refine Au (Ab (Ah (Av (Ac ?_))))
   iterate 5 refine ls F W Aa (Ad F Aa).q fun a w F W => ?_
   obtain ⟨x4, h1, H⟩ := Al H
   refine BZ (Ml := []) (Zl := [row v1 62 Ba x2]) (M := []) (Z := []) (β := Unit) (rv := fun x => .tuple #[]) (MM := fun x => []) (ZZ := fun x => [row v1 62 Ba x4]) F W Si Aa Aa (fun hL => D4 _ _ w (v1) x2 x3 (AC (p2 - p1)) p1 _ h1 hL) fun x a w F W => ?_
   have W : Stw ⟨Y, X, w0⟩ [] [row v1 62 Ba x4] w := W
   refine Ae (AP (Ab (Ac ?_)))
   refine ls F W Aa (Ad F Aa).q fun a w F W => ?_
   refine ls F W Aa (Cm F Aa Aa Aa).q fun a w F W => ?_
   refine ls F W Aa (Ag F Aa).q fun a w F W => ?_
   refine Ae (Ab ?_)
   exact ⟨_, H, F.re ⟨rfl, Aa, Aa, Aa, Aa, Aa, trivial⟩, W⟩
  have H := AS (Bq hb) H
  rw [hb] at F
  clear hb
  refine Bh ?_
  iterate 2 refine BK ?_
  refine Bj (Ab ?_)
  have H := L2 _ H
  exact ⟨_, H, F.re ⟨rfl, Aa, Aa, Aa, Aa, trivial⟩, W⟩
 rintro a w ⟨x1, hj, F, W⟩
 have hj := AX hj
 subst hj
 have H := K1
 clear G1 K1
 refine Ah (Ac ?_)
 refine ls F W Aa (Ad F Aa).q fun a w F W => ?_
 refine ls F W Aa (Cm F Aa Aa Aa).q fun a w F W => ?_
 refine ls F W Aa (Ag F Aa).q fun a w F W => ?_
 refine Ae (Ab (Av ?_))
 refine Bk H (fun s a w => Fr 60 [] [(0, v1), (3, .func (.func 26) #[] #[]), (8, .int .i64 p1), (9, .int .i64 0), (12, .int .i64 s.2)] a ∧ Stw ⟨Y, X, w0⟩ [] [row v1 62 Ba s.1] w) ⟨F.re ⟨rfl, Aa, Aa, Aa, Aa, trivial⟩, W⟩ fun s o a w H L3 hR => ?_
 obtain ⟨x5, x6⟩ := s
 obtain ⟨F, W⟩ := hR
 have F : Fr 60 [] [(0, v1), (3, .func (.func 26) #[] #[]), (8, .int .i64 p1), (9, .int .i64 0), (12, .int .i64 x6)] a := F
 have W : Stw ⟨Y, X, w0⟩ [] [row v1 62 Ba x5] w := W
 rw [Bm] at H
 refine Ah (Ah (Ac ?_))
 refine ls F W Aa (Ad F Aa).q fun a w F W => ?_
 refine ls F W Aa (DL F Aa Aa).q fun a w F W => ?_
 refine Ae (Ab ?_)
 refine AB F Aa (fun hb => ?_) fun hb => ?_
 ·
  have H := AR (Br hb) H
  rw [hb] at F
  clear hb
  refine Au (Ab (Ah (Av (Ah ?_))))
  refine Gx [(true, 0), (true, 1), (true, 2), (true, 3), (true, 4), (true, 5), (true, 6), (true, 7), (true, 8), (true, 9), (true, 10), (true, 11), (true, 12), (true, 13), (true, 14), (true, 15), (true, 16), (false, 17), (true, 18), (false, 19)] (CN ⟨Y, X, w0⟩ [] [(some 17, row v1 62 Ba x5)]) (fun ch a d v w h => by cases d <;> exact h) MO (by kernel_rfl) W (fun w W => ⟨_, _, W, Bz, (all_cons (fun _ => (.head _)) Bz)⟩) fun w W => ?_
  iterate 5 refine Ca (R := []) F Aa Aa (yC fun M Z hN hZ => Ad F Aa) Aa Aa fun a F => ?_
  refine Ca (R := []) F Aa Aa (yC fun M Z hN hZ => BL F Aa Aa Aa) Aa Aa fun a F => ?_
  iterate 3 refine Ca (R := []) F Aa Aa (yC fun M Z hN hZ => Ad F Aa) Aa Aa fun a F => ?_
  refine Ca (R := []) F Aa Aa (yC fun M Z hN hZ => BL F Aa Aa Aa) Aa Aa fun a F => ?_
  obtain ⟨x7, h2, H⟩ := Al H
  refine Ca (R := []) F Aa Aa (yC fun M Z hN hZ => B4 (r := Ba) Ej F Aa Aa (D5 W (An 0 Aa)) h2) Aa Aa fun a F => ?_
  refine Ca (R := [17]) F Aa Aa (yC fun M Z hN hZ => Ap (y := Value.agg #[.int .i64 x7.1, .int .i64 x7.2.1, .int .i64 x7.2.2.1, .int .i64 x7.2.2.2]) (j := 0) (i := AC (p1 + x6)) F Aa Aa (DS (hZ ((some 17), row v1 62 Ba x5) (.head _) Aa)) h2 El.to Ea Aa) (by kernel_rfl) Aa fun a F => ?_
  iterate 2 refine Ca (R := []) F Aa Aa (yC fun M Z hN hZ => Ad F Aa) Aa Aa fun a F => ?_
  obtain ⟨x8, h3, H⟩ := Al H
  refine Ca (R := []) F Aa Aa (yC fun M Z hN hZ => B4 (r := Ba) Ej F Aa Aa (D5 W (An 0 Aa)) h3) Aa Aa fun a F => ?_
  refine Ca (R := [17]) F Aa Aa (yC fun M Z hN hZ => Ap (y := Value.agg #[.int .i64 x8.1, .int .i64 x8.2.1, .int .i64 x8.2.2.1, .int .i64 x8.2.2.2]) (j := 0) (i := p1) F Aa Aa (DS (hZ ((some 17), row v1 62 Ba x5) (.head _) Aa)) h3 El.to Ea Aa) (by kernel_rfl) Aa fun a F => ?_
  obtain ⟨x9, h4, H⟩ := Al H
  refine Ca (R := []) F Aa Aa (yC fun M Z hN hZ => B4 (r := Ba) Ej F Aa Aa (D5 W (An 0 Aa)) h4) Aa Aa fun a F => ?_
  refine ID Aa ?_
  refine Bx (i := p1) (j := 0) (vs := [.int .i64 x7.1, .int .i64 x7.2.1, .int .i64 x7.2.2.1, .int .i64 x7.2.2.2]) (x' := x7) F W Aa Aa Aa (k := 0) Aa Aa h4 Ea Aa Aa Aa Aa (fun A cs _ => El.sto (by rfl) _ _ _) fun w W => ?_
  refine D1 (N2 := []) (NZ2 := []) (N3 := []) (NZ3 := [(some 17, row v1 62 Ba x5)]) W Aa Aa Bz (all_cons (fun h => DV (by kernel_rfl) h) Bz) ?_
  obtain ⟨x10, h5, H⟩ := Al H
  refine Ca (R := []) F Aa Aa (yC fun M Z hN hZ => B4 (r := Ba) Ej F Aa Aa (D5 W (An 0 Aa)) h5) Aa Aa fun a F => ?_
  refine ID Aa ?_
  refine Bx (i := AC (p1 + x6)) (j := 0) (vs := [.int .i64 x8.1, .int .i64 x8.2.1, .int .i64 x8.2.2.1, .int .i64 x8.2.2.2]) (x' := x8) F W Aa Aa Aa (k := 0) Aa Aa h5 Ea Aa Aa Aa Aa (fun A cs _ => El.sto (by rfl) _ _ _) fun w W => ?_
  refine D1 (N2 := []) (NZ2 := []) (N3 := []) (NZ3 := [(some 17, row v1 62 Ba x5)]) W Aa Aa Bz (all_cons (fun h => DV (by kernel_rfl) h) Bz) ?_
  refine IC (Ab (Ac ?_))
  iterate 5 refine ls F W Aa (Ad F Aa).q fun a w F W => ?_
  obtain ⟨x11, h6, H⟩ := Al H
  refine BZ (Ml := []) (Zl := [row v1 62 Ba (Aw (Aw x5 p1 x7) (AC (p1 + x6)) x8)]) (M := []) (Z := []) (β := Unit) (rv := fun x => .tuple #[]) (MM := fun x => []) (ZZ := fun x => [row v1 62 Ba x11]) F W Si Aa Aa (fun hL => D4 _ _ w (v1) (Aw (Aw x5 p1 x7) (AC (p1 + x6)) x8) 0 x6 p1 _ h6 hL) fun x a w F W => ?_
  have W : Stw ⟨Y, X, w0⟩ [] [row v1 62 Ba x11] w := W
  refine Ae (AP (Ab (Ac ?_)))
  refine ls F W Aa (Ad F Aa).q fun a w F W => ?_
  refine ls F W Aa (Cm F Aa Aa Aa).q fun a w F W => ?_
  refine ls F W Aa (Ag F Aa).q fun a w F W => ?_
  refine Ae (Ab ?_)
  exact ⟨_, H, F.re ⟨rfl, Aa, Aa, Aa, Aa, trivial⟩, W⟩
 have H := AS (Bq hb) H
 rw [hb] at F
 clear hb
 refine Bh ?_
 iterate 2 refine BK ?_
 refine Bj ?_
 have H := L3 _ H
 have H := AX H
 subst H
 refine Hw (.inr Aa) F Aa ?_
 exact ⟨(), Aa, W⟩
theorem Su : Has Try.prog 60 := ⟨fun args w => Am Try.func60 rfl (by decide) args w⟩
noncomputable def Bu (p0 : List (Int × Int × Int × Int)) (p1 : Int) (p2 : Int) (p3 : Int) : Option (Int × Int × Int) := (ix p0 p2).bind fun x1 => (ix p0 p1).bind fun x2 => (BT x1 x2).bind fun x3 => (if x3 < 0 then some (p2, p1, AC (p3 + 1)) else some (p1, p2, p3))
theorem Do (Y : Nat → Prop) (X : List Nat) (w0 : World) (v1 : Value) (q_p3 : Nat) (p0 : List (Int × Int × Int × Int)) (p1 : Int) (p2 : Int) (p3 : Int) (r : Int × Int × Int) (H : Bu p0 p1 p2 p3 = some r) (h_v1 : Sl w0 (NX X) Ba v1 p0) (hL : Stw ⟨Y, X, w0⟩ [(q_p3, [.int .i64 p3])] [] w0) :
    Calls Try.prog 94 #[v1, .int .i64 p1, .int .i64 p2, .pointer (some ⟨q_p3, 0, none⟩), .func (.func 26) #[] #[]] w0 fun e w' => ∃ x : Unit, e = .returned (.tuple #[.int .i64 r.1, .int .i64 r.2.1]) ∧ Stw ⟨Y, X, w0⟩ [(q_p3, [.int .i64 r.2.2])] [] w' := by
 refine enter Try.func94 Aa Try.ntmps94 Aa fun a F => ?_
 have W := hL
 unfold Bu at H
 refine Ah (Ac ?_)
 iterate 2 refine ls F W Aa (Ag F Aa).q fun a w F W => ?_
 refine Ae (Ab ?_)
 iterate 2 refine Ah ?_
 refine BQ W MO (by kernel_rfl) ?_
 iterate 3 refine qs F Aa (Ad F Aa).q fun a F => ?_
 obtain ⟨x1, h1, H⟩ := Al H
 refine qs F Aa (Ax (r := Ba) Ej F Aa Aa (Ao h_v1) h1).q fun a F => ?_
 refine qs F Aa (Ap (y := Value.agg #[.int .i64 x1.1, .int .i64 x1.2.1, .int .i64 x1.2.2.1, .int .i64 x1.2.2.2]) (j := 0) (i := p2) F Aa Aa (Ao h_v1) h1 El.to Ea Aa).q fun a F => ?_
 iterate 2 refine qs F Aa (Ad F Aa).q fun a F => ?_
 obtain ⟨x2, h2, H⟩ := Al H
 refine qs F Aa (Ax (r := Ba) Ej F Aa Aa (Ao h_v1) h2).q fun a F => ?_
 refine qs F Aa (Ap (y := Value.agg #[.int .i64 x2.1, .int .i64 x2.2.1, .int .i64 x2.2.2.1, .int .i64 x2.2.2.2]) (j := 0) (i := p1) F Aa Aa (Ao h_v1) h2 El.to Ea Aa).q fun a F => ?_
 obtain ⟨x3, h3, H⟩ := Al H
 refine qs F Aa (EG (ws := [.agg #[.int .i64 x1.1, .int .i64 x1.2.1, .int .i64 x1.2.2.1, .int .i64 x1.2.2.2], .agg #[.int .i64 x2.1, .int .i64 x2.2.1, .int .i64 x2.2.2.1, .int .i64 x2.2.2.2]]) (v := Value.int .i64 x3) F NR Aa (fun w W => B8 any w x1 x2 _ h3)) fun a F => ?_
 refine qs F Aa (BM F Aa Aa).q fun a F => ?_
 refine AZ fun w W => ?_
 refine Ab ?_
 refine AB F Aa (fun hb => ?_) fun hb => ?_
 ·
  have H := AR (Br hb) H
  rw [hb] at F
  clear hb
  refine Ah (Ac ?_)
  refine ls F W Aa (Ad F Aa).q fun a w F W => ?_
  refine ls F W Aa (DR F Aa).q fun a w F W => ?_
  refine ls F W Aa (Az (v := Value.int .i64 p3) 0 F Aa Aa T3 Aa).q fun a w F W => ?_
  refine ls F W Aa (BL F Aa Aa Aa).q fun a w F W => ?_
  refine ls F W Aa (DR F Aa).q fun a w F W => ?_
  refine Dk (vs := [.int .i64 (AC (p3 + 1))]) (M' := [(q_p3, [.int .i64 (AC (p3 + 1))])]) 0 F W Aa Aa Aa T3 Aa Aa Aa Aa Aa fun w W => ?_
  refine Ae (Ab (Ah (Ac ?_)))
  iterate 2 refine ls F W Aa (Ad F Aa).q fun a w F W => ?_
  iterate 2 refine ls F W Aa (Ag F Aa).q fun a w F W => ?_
  refine Ae (Ab (AF (AK ?_)))
  have H := AX H
  subst H
  refine E2 (.inl Aa) F W Aa (Ay F Aa) (Ay F Aa) ?_
  exact ⟨(), Aa, W⟩
 have H := AS (Bq hb) H
 rw [hb] at F
 clear hb
 refine Au (Ab (Ah (Ac ?_)))
 iterate 2 refine ls F W Aa (Ad F Aa).q fun a w F W => ?_
 iterate 2 refine ls F W Aa (Ag F Aa).q fun a w F W => ?_
 refine Ae (Ab (AF ?_))
 have H := AX H
 subst H
 refine E2 (.inl Aa) F W Aa (Ay F Aa) (Ay F Aa) ?_
 exact ⟨(), Aa, W⟩
theorem RS : Has Try.prog 94 := ⟨fun args w => Am Try.func94 rfl (by decide) args w⟩
noncomputable def Bv (p0 : List (Int × Int × Int × Int)) (p1 : Int) (p2 : Int) (p3 : Int) (p4 : Int) : Option (Int × Int) := (Bu p0 p1 p2 p4).bind fun x1 => (Bu p0 x1.2.1 p3 x1.2.2).bind fun x2 => (Bu p0 x1.1 x2.1 x2.2.2).bind fun x3 => some (x3.2.1, x3.2.2)
theorem Em (Y : Nat → Prop) (X : List Nat) (w0 : World) (v1 : Value) (q_p4 : Nat) (p0 : List (Int × Int × Int × Int)) (p1 : Int) (p2 : Int) (p3 : Int) (p4 : Int) (r : Int × Int) (H : Bv p0 p1 p2 p3 p4 = some r) (h_v1 : Sl w0 (NX X) Ba v1 p0) (hL : Stw ⟨Y, X, w0⟩ [(q_p4, [.int .i64 p4])] [] w0) :
    Calls Try.prog 82 #[v1, .int .i64 p1, .int .i64 p2, .int .i64 p3, .pointer (some ⟨q_p4, 0, none⟩), .func (.func 26) #[] #[]] w0 fun e w' => ∃ x : Unit, e = .returned (.int .i64 r.1) ∧ Stw ⟨Y, X, w0⟩ [(q_p4, [.int .i64 r.2])] [] w' := by
 refine enter Try.func82 Aa Try.ntmps82 Aa fun a F => ?_
 have W := hL
 unfold Bv at H
 refine Ah (Ac ?_)
 refine ls F W Aa (Ag F Aa).q fun a w F W => ?_
 refine Ae (Ab (Ah (Ac ?_)))
 iterate 5 refine ls F W Aa (Ad F Aa).q fun a w F W => ?_
 obtain ⟨x1, h1, H⟩ := Al H
 refine BZ (Ml := [(q_p4, [.int .i64 p4])]) (Zl := []) (M := []) (Z := []) (β := Unit) (rv := fun x => .tuple #[.int .i64 x1.1, .int .i64 x1.2.1]) (MM := fun x => [(q_p4, [.int .i64 x1.2.2])]) (ZZ := fun x => []) F W RS Aa Aa (fun hL => Do _ _ w (v1) q_p4 p0 p1 p2 p4 _ h1 (W.roX h_v1 (fun g hg => HZ hg)) hL) fun x a w F W => ?_
 have W : Stw ⟨Y, X, w0⟩ [(q_p4, [.int .i64 x1.2.2])] [] w := W
 refine ls F W Aa (Ad F Aa).q fun a w F W => ?_
 refine ls F W Aa (BI (v := Value.int .i64 x1.1) F Aa Aa).q fun a w F W => ?_
 refine ls F W Aa (BI (v := Value.int .i64 x1.2.1) F Aa Aa).q fun a w F W => ?_
 iterate 2 refine ls F W Aa (Ag F Aa).q fun a w F W => ?_
 refine Ae (Ab (Ah (Ac ?_)))
 iterate 5 refine ls F W Aa (Ad F Aa).q fun a w F W => ?_
 obtain ⟨x2, h2, H⟩ := Al H
 refine BZ (Ml := [(q_p4, [.int .i64 x1.2.2])]) (Zl := []) (M := []) (Z := []) (β := Unit) (rv := fun x => .tuple #[.int .i64 x2.1, .int .i64 x2.2.1]) (MM := fun x => [(q_p4, [.int .i64 x2.2.2])]) (ZZ := fun x => []) F W RS Aa Aa (fun hL => Do _ _ w (v1) q_p4 p0 x1.2.1 p3 x1.2.2 _ h2 (W.roX h_v1 (fun g hg => HZ hg)) hL) fun x a w F W => ?_
 have W : Stw ⟨Y, X, w0⟩ [(q_p4, [.int .i64 x2.2.2])] [] w := W
 refine ls F W Aa (Ad F Aa).q fun a w F W => ?_
 refine ls F W Aa (BI (v := Value.int .i64 x2.1) F Aa Aa).q fun a w F W => ?_
 refine ls F W Aa (BI (v := Value.int .i64 x2.2.1) F Aa Aa).q fun a w F W => ?_
 iterate 2 refine ls F W Aa (Ag F Aa).q fun a w F W => ?_
 refine Ae (Ab (Ah (Ac ?_)))
 iterate 5 refine ls F W Aa (Ad F Aa).q fun a w F W => ?_
 obtain ⟨x3, h3, H⟩ := Al H
 refine BZ (Ml := [(q_p4, [.int .i64 x2.2.2])]) (Zl := []) (M := []) (Z := []) (β := Unit) (rv := fun x => .tuple #[.int .i64 x3.1, .int .i64 x3.2.1]) (MM := fun x => [(q_p4, [.int .i64 x3.2.2])]) (ZZ := fun x => []) F W RS Aa Aa (fun hL => Do _ _ w (v1) q_p4 p0 x1.1 x2.1 x2.2.2 _ h3 (W.roX h_v1 (fun g hg => HZ hg)) hL) fun x a w F W => ?_
 have W : Stw ⟨Y, X, w0⟩ [(q_p4, [.int .i64 x3.2.2])] [] w := W
 refine ls F W Aa (Ad F Aa).q fun a w F W => ?_
 refine ls F W Aa (BI (v := Value.int .i64 x3.1) F Aa Aa).q fun a w F W => ?_
 refine ls F W Aa (BI (v := Value.int .i64 x3.2.1) F Aa Aa).q fun a w F W => ?_
 iterate 2 refine ls F W Aa (Ag F Aa).q fun a w F W => ?_
 refine Ae (Ab (Ah (Ac ?_)))
 refine ls F W Aa (Ad F Aa).q fun a w F W => ?_
 refine ls F W Aa (Ag F Aa).q fun a w F W => ?_
 refine Ae (Ab (AF ?_))
 have H := AX H
 subst H
 refine BA (.inl Aa) F W Aa (Ay F Aa) ?_
 exact ⟨(), Aa, W⟩
theorem Se : Has Try.prog 82 := ⟨fun args w => Am Try.func82 rfl (by decide) args w⟩
noncomputable def AW (p0 : List (Int × Int × Int × Int)) (p1 : Int) (p2 : Int) : Option (Int × Int) := (Bv p0 (AC (p1 - 1)) p1 (AC (p1 + 1)) p2).bind fun x1 => some (x1.1, x1.2)
theorem Cz (Y : Nat → Prop) (X : List Nat) (w0 : World) (v1 : Value) (q_p2 : Nat) (p0 : List (Int × Int × Int × Int)) (p1 : Int) (p2 : Int) (r : Int × Int) (H : AW p0 p1 p2 = some r) (h_v1 : Sl w0 (NX X) Ba v1 p0) (hL : Stw ⟨Y, X, w0⟩ [(q_p2, [.int .i64 p2])] [] w0) :
    Calls Try.prog 81 #[v1, .int .i64 p1, .pointer (some ⟨q_p2, 0, none⟩), .func (.func 26) #[] #[]] w0 fun e w' => ∃ x : Unit, e = .returned (.int .i64 r.1) ∧ Stw ⟨Y, X, w0⟩ [(q_p2, [.int .i64 r.2])] [] w' := by
 refine enter Try.func81 Aa Try.ntmps81 Aa fun a F => ?_
 have W := hL
 unfold AW at H
 refine Ah (Ac ?_)
 refine ls F W Aa (Ag F Aa).q fun a w F W => ?_
 refine Ae (Ab (Ah (Ac ?_)))
 iterate 2 refine ls F W Aa (Ad F Aa).q fun a w F W => ?_
 refine ls F W Aa (Cm F Aa Aa Aa).q fun a w F W => ?_
 iterate 2 refine ls F W Aa (Ad F Aa).q fun a w F W => ?_
 refine ls F W Aa (BL F Aa Aa Aa).q fun a w F W => ?_
 iterate 2 refine ls F W Aa (Ad F Aa).q fun a w F W => ?_
 obtain ⟨x1, h1, H⟩ := Al H
 refine BZ (Ml := [(q_p2, [.int .i64 p2])]) (Zl := []) (M := []) (Z := []) (β := Unit) (rv := fun x => .int .i64 x1.1) (MM := fun x => [(q_p2, [.int .i64 x1.2])]) (ZZ := fun x => []) F W Se Aa Aa (fun hL => Em _ _ w (v1) q_p2 p0 (AC (p1 - 1)) p1 (AC (p1 + 1)) p2 _ h1 (W.roX h_v1 (fun g hg => HZ hg)) hL) fun x a w F W => ?_
 have W : Stw ⟨Y, X, w0⟩ [(q_p2, [.int .i64 x1.2])] [] w := W
 refine ls F W Aa (Ag F Aa).q fun a w F W => ?_
 refine Ae (Ab (AF ?_))
 have H := AX H
 subst H
 refine BA (.inl Aa) F W Aa (Ay F Aa) ?_
 exact ⟨(), Aa, W⟩
theorem RI : Has Try.prog 81 := ⟨fun args w => Am Try.func81 rfl (by decide) args w⟩
noncomputable def BJ (p0 : List (Int × Int × Int × Int)) (p1 : Int) (p2 : Int) : Option (Int × Int) := (if 8 ≤ (AC (p2 - p1)) then (if 50 ≤ (AC (p2 - p1)) then (AW p0 (AC (p1 + (AC ((AC (Int.tdiv (AC (p2 - p1)) 4)) * 1)))) 0).bind fun x7 => (AW p0 (AC (p1 + (AC ((AC (Int.tdiv (AC (p2 - p1)) 4)) * 2)))) x7.2).bind fun x8 => (AW p0 (AC (p1 + (AC ((AC (Int.tdiv (AC (p2 - p1)) 4)) * 3)))) x8.2).bind fun x9 => some (x7.1, x8.1, x9.1, x9.2) else some (AC (p1 + (AC ((AC (Int.tdiv (AC (p2 - p1)) 4)) * 1))), AC (p1 + (AC ((AC (Int.tdiv (AC (p2 - p1)) 4)) * 2))), AC (p1 + (AC ((AC (Int.tdiv (AC (p2 - p1)) 4)) * 3))), 0)).bind fun (x3, x4, x5, x6) => (Bv p0 x3 x4 x5 x6).bind fun x10 => some (x10.1, x10.2) else some (AC (p1 + (AC ((AC (Int.tdiv (AC (p2 - p1)) 4)) * 2))), 0)).bind fun (x1, x2) => (if x2 = 0 then some (x1, 1) else (if x2 = 12 then some (x1, 2) else some (x1, 0)))
theorem FG (Y : Nat → Prop) (w0 : World) (v1 : Value) (p0 : List (Int × Int × Int × Int)) (p1 : Int) (p2 : Int) (r : Int × Int) (H : BJ p0 p1 p2 = some r) (h_v1 : Sl w0 (NX []) Ba v1 p0) :
    Calls Try.prog 62 #[v1, .int .i64 p1, .int .i64 p2, .func (.func 26) #[] #[]] w0 fun e w' => e = .returned (.tuple #[.int .i64 r.1, .int .i64 r.2]) ∧ Below w0.heap.size w0 w' := by
 refine enter Try.func62 Aa Try.ntmps62 Aa fun a F => ?_
 have W := Stw.start Y w0
 unfold BJ at H
 refine Ah (Ac ?_)
 iterate 2 refine ls F W Aa (Ag F Aa).q fun a w F W => ?_
 refine Ae (Ab (Ah (Ac ?_)))
 iterate 2 refine ls F W Aa (Ad F Aa).q fun a w F W => ?_
 refine ls F W Aa (Cm F Aa Aa Aa).q fun a w F W => ?_
 refine ls F W Aa (Ag F Aa).q fun a w F W => ?_
 refine Ae (Ab (Ah (Ac ?_)))
 refine DZ (cs := [.int .i64 0]) F W Aa Z3 Aa fun b1 a w F W => ?_
 refine Ae (Ab (Ah (Ac ?_)))
 iterate 2 refine ls F W Aa (Ad F Aa).q fun a w F W => ?_
 refine ls F W Aa (Ln F Aa Aa (by decide) Aa).q fun a w F W => ?_
 refine ls F W Aa (LX F Aa Aa Aa).q fun a w F W => ?_
 refine ls F W Aa (BL F Aa Aa Aa).q fun a w F W => ?_
 refine ls F W Aa (Ag F Aa).q fun a w F W => ?_
 refine Ae (Ab (Ah (Ac ?_)))
 iterate 2 refine ls F W Aa (Ad F Aa).q fun a w F W => ?_
 refine ls F W Aa (Ln F Aa Aa (by decide) Aa).q fun a w F W => ?_
 refine ls F W Aa (LX F Aa Aa Aa).q fun a w F W => ?_
 refine ls F W Aa (BL F Aa Aa Aa).q fun a w F W => ?_
 refine ls F W Aa (Ag F Aa).q fun a w F W => ?_
 refine Ae (Ab (Ah (Ac ?_)))
 iterate 2 refine ls F W Aa (Ad F Aa).q fun a w F W => ?_
 refine ls F W Aa (Ln F Aa Aa (by decide) Aa).q fun a w F W => ?_
 refine ls F W Aa (LX F Aa Aa Aa).q fun a w F W => ?_
 refine ls F W Aa (BL F Aa Aa Aa).q fun a w F W => ?_
 refine ls F W Aa (Ag F Aa).q fun a w F W => ?_
 refine Ae (Ab ?_)
 obtain ⟨o1, G1, K1⟩ := Al H
 refine AM (fun a w => ∃ x1 : Int, ∃ x2 : Int, some ((x1, x2)) = some o1 ∧ Fr 63 [] [(8, .int .i64 0), (9, .int .i64 0), (11, .pointer (some ⟨b1, 0, none⟩)), (13, .int .i64 x1)] a ∧ Stw ⟨Y, [], w0⟩ [(b1, [.int .i64 x2])] [] w) ?_ ?_
 ·
  have H := G1
  clear G1 K1
  refine Ah (Ac ?_)
  refine ls F W Aa (Ad F Aa).q fun a w F W => ?_
  refine ls F W Aa (DL F Aa Aa).q fun a w F W => ?_
  refine Ae (Ab ?_)
  refine AB F Aa (fun hb => ?_) fun hb => ?_
  ·
   have H := AR (Br hb) H
   rw [hb] at F
   clear hb
   obtain ⟨o2, G2, K2⟩ := Al H
   refine AM (fun a w => ∃ x3 : Int, ∃ x4 : Int, ∃ x5 : Int, ∃ x6 : Int, some ((x3, x4, x5, x6)) = some o2 ∧ Fr 63 [] [(0, v1), (3, .func (.func 26) #[] #[]), (8, .int .i64 0), (9, .int .i64 0), (11, .pointer (some ⟨b1, 0, none⟩)), (12, .int .i64 x3), (13, .int .i64 x4), (14, .int .i64 x5)] a ∧ Stw ⟨Y, [], w0⟩ [(b1, [.int .i64 x6])] [] w) ?_ ?_
   ·
    have H := G2
    clear G2 K2
    refine Ah (Ac ?_)
    refine ls F W Aa (Ad F Aa).q fun a w F W => ?_
    refine ls F W Aa (DL F Aa Aa).q fun a w F W => ?_
    refine Ae (Ab ?_)
    refine AB F Aa (fun hb => ?_) fun hb => ?_
    ·
     have H := AR (Br hb) H
     rw [hb] at F
     clear hb
     refine Ah (Ac ?_)
     iterate 3 refine ls F W Aa (Ad F Aa).q fun a w F W => ?_
     obtain ⟨x7, h1, H⟩ := Al H
     refine BZ (Ml := [(b1, [.int .i64 0])]) (Zl := []) (M := []) (Z := []) (β := Unit) (rv := fun x => .int .i64 x7.1) (MM := fun x => [(b1, [.int .i64 x7.2])]) (ZZ := fun x => []) F W RI Aa Aa (fun hL => Cz _ _ w (v1) b1 p0 (AC (p1 + (AC ((AC (Int.tdiv (AC (p2 - p1)) 4)) * 1)))) 0 _ h1 (W.roX h_v1 (fun g hg => HZ hg)) hL) fun x a w F W => ?_
     have W : Stw ⟨Y, [], w0⟩ [(b1, [.int .i64 x7.2])] [] w := W
     refine ls F W Aa (Ag F Aa).q fun a w F W => ?_
     refine Ae (Ab (Ah (Ac ?_)))
     iterate 3 refine ls F W Aa (Ad F Aa).q fun a w F W => ?_
     obtain ⟨x8, h2, H⟩ := Al H
     refine BZ (Ml := [(b1, [.int .i64 x7.2])]) (Zl := []) (M := []) (Z := []) (β := Unit) (rv := fun x => .int .i64 x8.1) (MM := fun x => [(b1, [.int .i64 x8.2])]) (ZZ := fun x => []) F W RI Aa Aa (fun hL => Cz _ _ w (v1) b1 p0 (AC (p1 + (AC ((AC (Int.tdiv (AC (p2 - p1)) 4)) * 2)))) x7.2 _ h2 (W.roX h_v1 (fun g hg => HZ hg)) hL) fun x a w F W => ?_
     have W : Stw ⟨Y, [], w0⟩ [(b1, [.int .i64 x8.2])] [] w := W
     refine ls F W Aa (Ag F Aa).q fun a w F W => ?_
     refine Ae (Ab (Ac ?_))
     iterate 3 refine ls F W Aa (Ad F Aa).q fun a w F W => ?_
     obtain ⟨x9, h3, H⟩ := Al H
     refine BZ (Ml := [(b1, [.int .i64 x8.2])]) (Zl := []) (M := []) (Z := []) (β := Unit) (rv := fun x => .int .i64 x9.1) (MM := fun x => [(b1, [.int .i64 x9.2])]) (ZZ := fun x => []) F W RI Aa Aa (fun hL => Cz _ _ w (v1) b1 p0 (AC (p1 + (AC ((AC (Int.tdiv (AC (p2 - p1)) 4)) * 3)))) x8.2 _ h3 (W.roX h_v1 (fun g hg => HZ hg)) hL) fun x a w F W => ?_
     have W : Stw ⟨Y, [], w0⟩ [(b1, [.int .i64 x9.2])] [] w := W
     refine ls F W Aa (Ag F Aa).q fun a w F W => ?_
     refine Ae (Ab ?_)
     exact ⟨_, _, _, _, H, F.re ⟨rfl, Aa, Aa, Aa, Aa, Aa, Aa, Aa, trivial⟩, W⟩
    have H := AS (Bq hb) H
    rw [hb] at F
    clear hb
    refine Au (Ab ?_)
    exact ⟨_, _, _, _, H, F.re ⟨rfl, Aa, Aa, Aa, Aa, Aa, Aa, Aa, trivial⟩, W⟩
   rintro a w ⟨x3, x4, x5, x6, hj, F, W⟩
   have hj := AX hj
   subst hj
   have H := K2
   clear G2 K2
   refine Ac ?_
   iterate 5 refine ls F W Aa (Ad F Aa).q fun a w F W => ?_
   obtain ⟨x10, h4, H⟩ := Al H
   refine BZ (Ml := [(b1, [.int .i64 x6])]) (Zl := []) (M := []) (Z := []) (β := Unit) (rv := fun x => .int .i64 x10.1) (MM := fun x => [(b1, [.int .i64 x10.2])]) (ZZ := fun x => []) F W Se Aa Aa (fun hL => Em _ _ w (v1) b1 p0 x3 x4 x5 x6 _ h4 (W.roX h_v1 (fun g hg => HZ hg)) hL) fun x a w F W => ?_
   have W : Stw ⟨Y, [], w0⟩ [(b1, [.int .i64 x10.2])] [] w := W
   refine ls F W Aa (Ag F Aa).q fun a w F W => ?_
   refine Ae (Ab ?_)
   exact ⟨_, _, H, F.re ⟨rfl, Aa, Aa, Aa, trivial⟩, W⟩
  have H := AS (Bq hb) H
  rw [hb] at F
  clear hb
  refine Au (Ab ?_)
  exact ⟨_, _, H, F.re ⟨rfl, Aa, Aa, Aa, trivial⟩, W⟩
 rintro a w ⟨x1, x2, hj, F, W⟩
 have hj := AX hj
 subst hj
 have H := K1
 clear G1 K1
 refine Ah (Ac ?_)
 refine ls F W Aa (Az (v := Value.int .i64 x2) 0 F Aa Aa T3 Aa).q fun a w F W => ?_
 refine Ae (Ab (Av (Ah (Ac ?_))))
 refine ls F W Aa (Dx F Aa Aa).q fun a w F W => ?_
 refine ls F W Aa (Ag F Aa).q fun a w F W => ?_
 refine Ae (Ab ?_)
 refine AB F Aa (fun hb => ?_) fun hb => ?_
 ·
  have H := AR (Br hb) H
  rw [hb] at F
  clear hb
  refine Ah (Ac ?_)
  refine ls F W Aa (Ad F Aa).q fun a w F W => ?_
  iterate 2 refine ls F W Aa (Ag F Aa).q fun a w F W => ?_
  refine Ae (Ab (AF (AU ?_)))
  have H := AX H
  subst H
  refine E2 (.inl Aa) F W Aa (Ay F Aa) (Ay F Aa) ?_
  exact ⟨rfl, W.done⟩
 have H := AS (Bq hb) H
 rw [hb] at F
 clear hb
 refine Ah (Ac ?_)
 refine ls F W Aa (Dx F Aa Aa).q fun a w F W => ?_
 refine ls F W Aa (Ag F Aa).q fun a w F W => ?_
 refine Ae (Ab ?_)
 refine AB F Aa (fun hb => ?_) fun hb => ?_
 ·
  have H := AR (Br hb) H
  rw [hb] at F
  clear hb
  refine Ah (Ac ?_)
  refine ls F W Aa (Ad F Aa).q fun a w F W => ?_
  iterate 2 refine ls F W Aa (Ag F Aa).q fun a w F W => ?_
  refine Ae (Ab (AF (AU ?_)))
  have H := AX H
  subst H
  refine E2 (.inl Aa) F W Aa (Ay F Aa) (Ay F Aa) ?_
  exact ⟨rfl, W.done⟩
 have H := AS (Bq hb) H
 rw [hb] at F
 clear hb
 refine Ah (Ac ?_)
 refine ls F W Aa (Ad F Aa).q fun a w F W => ?_
 iterate 2 refine ls F W Aa (Ag F Aa).q fun a w F W => ?_
 refine Ae (Ab (AF (AU ?_)))
 have H := AX H
 subst H
 refine E2 (.inl Aa) F W Aa (Ay F Aa) (Ay F Aa) ?_
 exact ⟨rfl, W.done⟩
end Go.Proofs.Ythiejmoddfenlaa
