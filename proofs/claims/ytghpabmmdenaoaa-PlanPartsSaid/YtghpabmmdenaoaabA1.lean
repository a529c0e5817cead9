/- The functions of layer 24, Ig. Conditions: none. -/
import Derived.Test.YtghpabmmdenaoaabA0
namespace Go.Proofs.Ytghpabmmdenaoaa
open Go Go.RowKit
set_option linter.unusedVariables false
set_option linter.unusedSimpArgs false
set_option maxRecDepth 20000
theorem Vn : Has Try.prog 55 := ⟨fun args w => Al Try.func55 rfl (by decide) args w⟩
noncomputable def DL (p0 : Int × (List (Int × Int × Int × Int × Int × Int)) × (List (Int × Int))) (p1 : List (List Int)) (p3 : Int) : (Int × List Int) → Option ((Int × List Int) ⊕ ((List Int) ⊕ (List Int × Int)))
  | (x2, x3) => (ix p1 x2).bind fun x4 => (ix x4 p3).bind fun x5 => (EY p0 x2 x5).bind fun x6 => (if x6 ≠ p3 then (Gg p0 p1 x2 p3).bind fun x7 => (if (!x7.2) = true then some (.inr (.inr (([] : List Int), 13))) else (Df x3 x7.1).bind fun x8 => (if x8 = true then some (.inr (.inr (([] : List Int), 12))) else (KF x3 ([x7.1] : List Int)).bind fun x9 => some (.inl (x7.1, x9)))) else some (.inr (.inl x3)))
noncomputable def Fs (p0 : Int × (List (Int × Int × Int × Int × Int × Int)) × (List (Int × Int))) (p1 : List (List Int)) (p2 : Int) (p3 : Int) : Option (List Int × Int) := FO (AH (DL p0 p1 p3) (p2, ([p2] : List Int))) fun x1 => some (x1, 0)
theorem KC (Y : Nat → Prop) (w0 : World) (v1 : Value) (v2 : Value) (v3 : Value) (p0 : Int × (List (Int × Int × Int × Int × Int × Int)) × (List (Int × Int))) (p1 : List (List Int)) (p2 : Int) (p3 : Int) (r : List Int × Int) (H : Fs p0 p1 p2 p3 = some r) (h_v1 : Sl w0 (NX []) Ii v1 p0.2.1) (h_v2 : Sl w0 (NX []) Ip v2 p0.2.2) (h_v3 : Sl w0 (NX []) (Rp.slice (Rp.int .i64)) v3 p1) :
    Calls Try.prog 38 #[.agg #[.int .i64 p0.1, v1, v2], v3, .int .i64 p2, .int .i64 p3] w0 fun e w' => ∃ x : Value, e = .returned (.tuple #[x, .int .i64 r.2]) ∧ Stw ⟨Y, [], w0⟩ [] [row (x) 3 (Rp.int .i64) r.1] w' := by
 refine enter Try.func38 Aa Try.ntmps38 Aa fun a F => ?_
 have W := Stw.start Y w0
 obtain ⟨v4, h1, h_v3⟩ := h_v3.ex Er
 unfold Fs at H
 refine Ah (Ac ?_)
 refine EQ (cs := [.int .i64 p0.1, v1, v2]) F W Aa Aa Aa fun b1 a w F W => ?_
 iterate 2 refine ls F W Aa (Af F Aa).q fun a w F W => ?_
 refine Ae (Ab (Ah (Ac ?_)))
 refine ls F W Aa (Ad F Aa).q fun a w F W => ?_
 refine E9 (z := Value.int .i64 0) (cs := [.int .i64 p2]) (Rp.int .i64) ([p2] : List Int) F W Aa EH Z3 Aa Aa Aa Aa Aa Aa (Fl.int.repL _ _ ([p2] : List Int)) fun v5 a w F W => ?_
 refine ls F W Aa (Af F Aa).q fun a w F W => ?_
 refine Ae (Ab ?_)
 obtain ⟨o1, G1, K1, L1⟩ := JX H
 refine AK (fun a w => ∃ x1 : List Int, ∃ v6 : Value, some (Sum.inl x1) = some o1 ∧ Fr 46 [] [(8, .slice none 0 0), (9, .int .i64 0), (10, v6)] a ∧ Stw ⟨Y, [], w0⟩ [(b1, [.int .i64 p0.1, v1, v2])] [row v6 3 (Rp.int .i64) x1] w) ?_ ?_
 ·
  have H := G1
  clear G1 K1
  refine As ?_
  refine Bh H (fun s a w => ∃ v7 : Value, Fr 46 [] [(1, v3), (2, .int .i64 s.1), (3, .int .i64 p3), (4, .pointer (some ⟨b1, 0, none⟩)), (8, .slice none 0 0), (9, .int .i64 0), (10, v7)] a ∧ Stw ⟨Y, [], w0⟩ [(b1, [.int .i64 p0.1, v1, v2])] [row v7 3 (Rp.int .i64) s.2] w) ⟨(v5), F.re ⟨rfl, Aa, Aa, Aa, Aa, Aa, Aa, trivial⟩, W⟩ fun s o a w H L2 hR => ?_
  obtain ⟨x2, x3⟩ := s
  obtain ⟨v7, F, W⟩ := hR
  have F : Fr 46 [] [(1, v3), (2, .int .i64 x2), (3, .int .i64 p3), (4, .pointer (some ⟨b1, 0, none⟩)), (8, .slice none 0 0), (9, .int .i64 0), (10, v7)] a := F
  have W : Stw ⟨Y, [], w0⟩ [(b1, [.int .i64 p0.1, v1, v2])] [row v7 3 (Rp.int .i64) x3] w := W
  rw [DL] at H
  iterate 2 refine Ah ?_
  refine BS W MO (by kernel_rfl) ?_
  refine qs F Aa (AB (v := Value.agg #[.int .i64 p0.1, v1, v2]) 0 F Aa Aa Mk Aa).q fun a F => ?_
  iterate 3 refine qs F Aa (Ad F Aa).q fun a F => ?_
  obtain ⟨x4, h2, H⟩ := Ak H
  obtain ⟨v8, h3, h4⟩ := EK h1 h2
  have h5 : Ir v8 = [(v8.1)] := congrArg (fun q : List Int => ([(v8.1)] : List Value)) h4
  refine qs F Aa (AC (r := (Rp.vsl (Rp.int .i64))) N8 F Aa Aa (Ap h_v3) h3).q fun a F => ?_
  refine qs F Aa (Ao (y := (v8.1)) (j := 0) (i := x2) (enc := Ir) F Aa Aa (Ap h_v3) h3 MU J7 (by rw [h5]; rfl)).q fun a F => ?_
  refine qs F Aa (Ad F Aa).q fun a F => ?_
  obtain ⟨x5, h6, H⟩ := Ak H
  refine qs F Aa (AC (r := (Rp.int .i64)) EH F Aa Aa (D2 (Ap h_v3) h3 Cu.here (congrArg (fun q : List Int => q) h4)) h6).q fun a F => ?_
  refine qs F Aa (Ao (y := Value.int .i64 x5) (j := 0) (i := p3) F Aa Aa (D2 (Ap h_v3) h3 Cu.here (congrArg (fun q : List Int => q) h4)) h6 Fl.int.to T3 Aa).q fun a F => ?_
  obtain ⟨x6, h7, H⟩ := Ak H
  refine qs F Aa (BR (v := Value.int .i64 x6) F VX Aa (fun w W => M3 any w (v1) (v2) p0 x2 x5 _ h7 (((Ap h_v1) : EM _ _ _ _ _ _) w W).nx (((Ap h_v2) : EM _ _ _ _ _ _) w W).nx)) fun a F => ?_
  refine qs F Aa (Ad F Aa).q fun a F => ?_
  refine qs F Aa (Hq F Aa Aa).q fun a F => ?_
  refine A0 fun w W => ?_
  refine Ab ?_
  refine Ay F Aa (fun hb => ?_) fun hb => ?_
  ·
   have H := AP (Bm hb) H
   rw [hb] at F
   clear hb
   refine Aq (Ab (As (Ah (Ac ?_))))
   refine ls F W Aa (AB (v := Value.agg #[.int .i64 p0.1, v1, v2]) 0 F Aa Aa Mk Aa).q fun a w F W => ?_
   iterate 3 refine ls F W Aa (Ad F Aa).q fun a w F W => ?_
   obtain ⟨x7, h8, H⟩ := Ak H
   refine ls F W Aa (BR (v := Value.tuple #[.int .i64 x7.1, .bool x7.2]) F VD Aa (fun w W => Nx any w (v1) (v2) (v3) p0 p1 x2 p3 _ h8 (((Ap h_v1) : EM _ _ _ _ _ _) w W).nx (((Ap h_v2) : EM _ _ _ _ _ _) w W).nx (((Cb Er h1 (Ap h_v3)) : EM _ _ _ _ _ _) w W).nx)) fun a w F W => ?_
   refine ls F W Aa (Ad F Aa).q fun a w F W => ?_
   refine ls F W Aa (BK (v := Value.int .i64 x7.1) F Aa Aa).q fun a w F W => ?_
   refine ls F W Aa (BK (v := Value.bool x7.2) F Aa Aa).q fun a w F W => ?_
   iterate 2 refine ls F W Aa (Af F Aa).q fun a w F W => ?_
   refine Ae (Ab (Ah (Ah (Ac ?_))))
   refine ls F W Aa (Ad F Aa).q fun a w F W => ?_
   refine ls F W Aa (ED F Aa).q fun a w F W => ?_
   refine Ae (Ab ?_)
   refine Ay F Aa (fun hb => ?_) fun hb => ?_
   ·
    have H := AP hb H
    rw [hb] at F
    clear hb
    refine Ah (Ac ?_)
    iterate 2 refine ls F W Aa (Af F Aa).q fun a w F W => ?_
    refine Ae (Ab (AF (AN (A3 (AN (A3 (AN ?_)))))))
    have H := L2 _ H
    have H := L1 _ H
    have H := AQ H
    subst H
    refine EU (.inl Aa) F W Aa (AD F Aa) (AD F Aa) ?_
    have W := W.nilRow 3 (Rp.int .i64)
    have W := W.sub (M' := []) (Z' := [row (Value.slice none 0 0) 3 (Rp.int .i64) ([])]) (List.nil_sublist _) (List.Sublist.cons_cons _ (List.nil_sublist _))
    exact ⟨(Value.slice none 0 0), Aa, W⟩
   have H := AO (by rw [hb]; decide) H
   rw [hb] at F
   clear hb
   refine Aq (Ab (Ah (Ah (Ac ?_))))
   iterate 2 refine ls F W Aa (Ad F Aa).q fun a w F W => ?_
   obtain ⟨x8, h9, H⟩ := Ak H
   refine ls F W Aa (BR (v := Value.bool x8) F Vn Aa (fun w W => Jz any w (v7) x3 x7.1 _ h9 (((Aj 0 Aa) : EM _ _ _ _ _ _) w W).nx)) fun a w F W => ?_
   refine Ae (Ab ?_)
   refine Ay F Aa (fun hb => ?_) fun hb => ?_
   ·
    have H := AP hb H
    rw [hb] at F
    clear hb
    refine Ah (Ac ?_)
    iterate 2 refine ls F W Aa (Af F Aa).q fun a w F W => ?_
    refine Ae (Ab (AF (AN (A3 (AN (A3 (AN ?_)))))))
    have H := L2 _ H
    have H := L1 _ H
    have H := AQ H
    subst H
    refine EU (.inl Aa) F W Aa (AD F Aa) (AD F Aa) ?_
    have W := W.nilRow 3 (Rp.int .i64)
    have W := W.sub (M' := []) (Z' := [row (Value.slice none 0 0) 3 (Rp.int .i64) ([])]) (List.nil_sublist _) (List.Sublist.cons_cons _ (List.nil_sublist _))
    exact ⟨(Value.slice none 0 0), Aa, W⟩
   have H := AO (by rw [hb]; decide) H
   rw [hb] at F
   clear hb
   refine Aq (Ab (Ah (Ac ?_)))
   iterate 2 refine ls F W Aa (Ad F Aa).q fun a w F W => ?_
   refine E9 (z := Value.int .i64 0) (cs := [.int .i64 x7.1]) (Rp.int .i64) ([x7.1] : List Int) F W Aa EH Z3 Aa Aa Aa Aa Aa Aa (Fl.int.repL _ _ ([x7.1] : List Int)) fun v9 a w F W => ?_
   obtain ⟨x9, h10, H⟩ := Ak H
   refine Fb (r := (Rp.int .i64)) (i := 1) F W Aa EH Aa Aa Aa Aa (GD W 0 Aa) h10 Aa fun v10 a w F W => ?_
   have W : Stw ⟨Y, [], w0⟩ [(b1, [.int .i64 p0.1, v1, v2])] [row v10 3 (Rp.int .i64) x9, row v9 3 (Rp.int .i64) ([x7.1] : List Int)] w := W
   refine ls F W Aa (Af F Aa).q fun a w F W => ?_
   refine Ae (Ab (Ac ?_))
   refine ls F W Aa (Ad F Aa).q fun a w F W => ?_
   refine ls F W Aa (Af F Aa).q fun a w F W => ?_
   refine Ae (AM (Ab ?_))
   have W := W.sub (M' := [(b1, [.int .i64 p0.1, v1, v2])]) (Z' := [row v10 3 (Rp.int .i64) x9]) (List.Sublist.refl _) (List.Sublist.cons_cons _ (List.nil_sublist _))
   exact ⟨_, H, (v10), F.re ⟨rfl, Aa, Aa, Aa, Aa, Aa, Aa, trivial⟩, W⟩
  have H := AO (Bn hb) H
  rw [hb] at F
  clear hb
  refine A5 ?_
  iterate 2 refine Bk ?_
  refine A6 (Ab ?_)
  have H := L2 _ H
  exact ⟨_, (v7), H, F.re ⟨rfl, Aa, Aa, trivial⟩, W⟩
 rintro a w ⟨x1, v6, hj, F, W⟩
 have H := K1 _ hj
 clear hj G1 K1 L1
 refine Ah (Ac ?_)
 refine ls F W Aa (Ad F Aa).q fun a w F W => ?_
 iterate 2 refine ls F W Aa (Af F Aa).q fun a w F W => ?_
 refine Ae (Ab (AF ?_))
 have H := AQ H
 subst H
 refine EU (.inl Aa) F W Aa (AD F Aa) (AD F Aa) ?_
 have W := W.sub (M' := []) (Z' := [row v6 3 (Rp.int .i64) x1]) (List.nil_sublist _) (List.Sublist.refl _)
 exact ⟨(v6), Aa, W⟩
theorem UH : Has Try.prog 38 := ⟨fun args w => Al Try.func38 rfl (by decide) args w⟩
noncomputable def D9 (p0 : Int × (List (Int × Int × Int × Int × Int × Int)) × (List (Int × Int))) (p1 : List (List Int)) (x2 : Int) (x3 : List Int) : Int → Option (Int ⊕ (Unit ⊕ (Int ⊕ (Unit ⊕ Bool))))
  | x4 => (if x4 < (x3.length : Int) then (Fs p0 p1 x2 x4).bind fun x5 => (if x5.2 ≠ 0 then some (.inr (.inr (.inr (.inr false)))) else some (.inl (Az (x4 + 1)))) else some (.inr (.inl ())))
noncomputable def EG (p0 : Int × (List (Int × Int × Int × Int × Int × Int)) × (List (Int × Int))) (p1 : List (List Int)) : Int → Option (Int ⊕ (Unit ⊕ Bool))
  | x2 => (if x2 < (p1.length : Int) then FO ((ix p1 x2).bind fun x3 => AH (D9 p0 p1 x2 x3) 0) fun _ => some (.inl (Az (x2 + 1))) else some (.inr (.inl ())))
noncomputable def FE (p0 : Int × (List (Int × Int × Int × Int × Int × Int)) × (List (Int × Int))) (p1 : List (List Int)) : Option Bool := (EW p0 p1).bind fun x1 => (if (!x1) = true then some false else FO (AH (EG p0 p1) 0) fun _ => some true)
theorem Kg (Y : Nat → Prop) (w0 : World) (v1 : Value) (v2 : Value) (v3 : Value) (p0 : Int × (List (Int × Int × Int × Int × Int × Int)) × (List (Int × Int))) (p1 : List (List Int)) (r : Bool) (H : FE p0 p1 = some r) (h_v1 : Sl w0 (NX []) Ii v1 p0.2.1) (h_v2 : Sl w0 (NX []) Ip v2 p0.2.2) (h_v3 : Sl w0 (NX []) (Rp.slice (Rp.int .i64)) v3 p1) :
    Calls Try.prog 23 #[.agg #[.int .i64 p0.1, v1, v2], v3] w0 fun e w' => e = .returned (.bool r) ∧ Below w0.heap.size w0 w' := by
 refine enter Try.func23 Aa Try.ntmps23 Aa fun a F => ?_
 have W := Stw.start Y w0
 obtain ⟨v4, h1, h_v3⟩ := h_v3.ex Er
 unfold FE at H
 refine Ah (Ac ?_)
 refine EQ (cs := [.int .i64 p0.1, v1, v2]) F W Aa Aa Aa fun b1 a w F W => ?_
 refine ls F W Aa (Af F Aa).q fun a w F W => ?_
 refine Ae (Ab (Ah (Ah (Ac ?_))))
 refine ls F W Aa (AB (v := Value.agg #[.int .i64 p0.1, v1, v2]) 0 F Aa Aa Mk Aa).q fun a w F W => ?_
 refine ls F W Aa (Ad F Aa).q fun a w F W => ?_
 obtain ⟨x1, h2, H⟩ := Ak H
 refine ls F W Aa (BR (v := Value.bool x1) F UN Aa (fun w W => JO any w (v1) (v2) (v3) p0 p1 _ h2 (((Ap h_v1) : EM _ _ _ _ _ _) w W).nx (((Ap h_v2) : EM _ _ _ _ _ _) w W).nx (((Cb Er h1 (Ap h_v3)) : EM _ _ _ _ _ _) w W).nx)) fun a w F W => ?_
 refine ls F W Aa (ED F Aa).q fun a w F W => ?_
 refine Ae (Ab ?_)
 refine Ay F Aa (fun hb => ?_) fun hb => ?_
 ·
  have H := AP hb H
  rw [hb] at F
  clear hb
  refine Ah (Ac ?_)
  refine ls F W Aa (Af F Aa).q fun a w F W => ?_
  refine Ae (Ab (AF (AN ?_)))
  have H := AQ H
  subst H
  refine Bj (.inl Aa) F W Aa (AD F Aa) ?_
  exact ⟨rfl, W.done⟩
 have H := AO (by rw [hb]; decide) H
 rw [hb] at F
 clear hb
 refine Aq (Ab ?_)
 obtain ⟨o1, G1, K1, L1⟩ := JX H
 refine AK (fun a w => some (Sum.inl ()) = some o1 ∧ Fr 38 [] [(4, .bool false)] a ∧ Stw ⟨Y, [], w0⟩ [(b1, [.int .i64 p0.1, v1, v2])] [] w) ?_ ?_
 ·
  have H := G1
  clear G1 K1
  refine Ah (Ac ?_)
  refine ls F W Aa (Ad F Aa).q fun a w F W => ?_
  refine ls F W Aa (B1 (r := (Rp.slice (Rp.int .i64))) (l := p1) Kw Aa F Aa (Cb Er h1 (Ap h_v3))).q fun a w F W => ?_
  refine ls F W Aa (Ad F Aa).q fun a w F W => ?_
  refine Ae (Ab (As ?_))
  refine Bh H (fun s a w => Fr 38 [] [(1, v3), (2, .pointer (some ⟨b1, 0, none⟩)), (4, .bool false), (14, v3), (15, .int .i64 (p1.length : Int)), (16, .int .i64 s)] a ∧ Stw ⟨Y, [], w0⟩ [(b1, [.int .i64 p0.1, v1, v2])] [] w) ⟨F.re ⟨rfl, Aa, Aa, Aa, Aa, Aa, trivial⟩, W⟩ fun s o a w H L2 hR => ?_
  obtain ⟨x2, rfl⟩ : ∃ x, x = s := ⟨s, rfl⟩
  obtain ⟨F, W⟩ := hR
  have F : Fr 38 [] [(1, v3), (2, .pointer (some ⟨b1, 0, none⟩)), (4, .bool false), (14, v3), (15, .int .i64 (p1.length : Int)), (16, .int .i64 x2)] a := F
  have W : Stw ⟨Y, [], w0⟩ [(b1, [.int .i64 p0.1, v1, v2])] [] w := W
  rw [EG] at H
  refine Ah (Ac ?_)
  refine ls F W Aa (BI F Aa Aa).q fun a w F W => ?_
  refine Ae (Ab (Ah ?_))
  refine Ay F Aa (fun hb => ?_) fun hb => ?_
  ·
   have H := AP (Bm hb) H
   rw [hb] at F
   clear hb
   refine Aq (Ab ?_)
   obtain ⟨o3, G3, K3, L3⟩ := JX H
   refine AK (fun a w => some (Sum.inl ()) = some o3 ∧ Fr 38 [] [(1, v3), (2, .pointer (some ⟨b1, 0, none⟩)), (4, .bool false), (14, v3), (15, .int .i64 (p1.length : Int)), (16, .int .i64 x2)] a ∧ Stw ⟨Y, [], w0⟩ [(b1, [.int .i64 p0.1, v1, v2])] [] w) ?_ ?_
   ·
    have H := G3
    clear G3 K3
    refine As (Ah (Ac ?_))
    refine ls F W Aa (Ad F Aa).q fun a w F W => ?_
    obtain ⟨x3, h3, H⟩ := Ak H
    obtain ⟨v5, h4, h5⟩ := EK h1 h3
    have h6 : Ir v5 = [(v5.1)] := congrArg (fun q : List Int => ([(v5.1)] : List Value)) h5
    refine ls F W Aa (AC (r := (Rp.vsl (Rp.int .i64))) N8 F Aa Aa (Ap h_v3) h4).q fun a w F W => ?_
    refine ls F W Aa (Ao (y := (v5.1)) (j := 0) (i := x2) (enc := Ir) F Aa Aa (Ap h_v3) h4 MU J7 (by rw [h6]; rfl)).q fun a w F W => ?_
    iterate 2 refine ls F W Aa (Af F Aa).q fun a w F W => ?_
    refine Ae (Ab (Ah (Ac ?_)))
    refine ls F W Aa (Ad F Aa).q fun a w F W => ?_
    refine ls F W Aa (B1 (r := (Rp.int .i64)) (l := x3) Hu Aa F Aa (D2 (Ap h_v3) h4 Cu.here (congrArg (fun q : List Int => q) h5))).q fun a w F W => ?_
    refine ls F W Aa (Ad F Aa).q fun a w F W => ?_
    refine Ae (Ab (As ?_))
    refine Bh H (fun s a w => Fr 38 [] [(1, v3), (2, .pointer (some ⟨b1, 0, none⟩)), (4, .bool false), (5, .int .i64 x2), (14, v3), (15, .int .i64 (p1.length : Int)), (16, .int .i64 x2), (22, .int .i64 (x3.length : Int)), (23, .int .i64 s)] a ∧ Stw ⟨Y, [], w0⟩ [(b1, [.int .i64 p0.1, v1, v2])] [] w) ⟨F.re ⟨rfl, Aa, Aa, Aa, Aa, Aa, Aa, Aa, Aa, trivial⟩, W⟩ fun s o a w H L4 hR => ?_
    obtain ⟨x4, rfl⟩ : ∃ x, x = s := ⟨s, rfl⟩
    obtain ⟨F, W⟩ := hR
    have F : Fr 38 [] [(1, v3), (2, .pointer (some ⟨b1, 0, none⟩)), (4, .bool false), (5, .int .i64 x2), (14, v3), (15, .int .i64 (p1.length : Int)), (16, .int .i64 x2), (22, .int .i64 (x3.length : Int)), (23, .int .i64 x4)] a := F
    have W : Stw ⟨Y, [], w0⟩ [(b1, [.int .i64 p0.1, v1, v2])] [] w := W
    rw [D9] at H
    refine Ah (Ac ?_)
    refine ls F W Aa (BI F Aa Aa).q fun a w F W => ?_
    refine Ae (Ab (Ah ?_))
    refine Ay F Aa (fun hb => ?_) fun hb => ?_
    ·
     have H := AP (Bm hb) H
     rw [hb] at F
     clear hb
     refine Aq (Ab (Ah (As (Ah (Ac ?_)))))
     refine ls F W Aa (Ad F Aa).q fun a w F W => ?_
     refine ls F W Aa (Af F Aa).q fun a w F W => ?_
     refine Ae (Ab (Ah (Ac ?_)))
     refine ls F W Aa (AB (v := Value.agg #[.int .i64 p0.1, v1, v2]) 0 F Aa Aa Mk Aa).q fun a w F W => ?_
     iterate 3 refine ls F W Aa (Ad F Aa).q fun a w F W => ?_
     obtain ⟨x5, h7, H⟩ := Ak H
     refine Bo (Ml := []) (Zl := []) (M := [(b1, [.int .i64 p0.1, v1, v2])]) (Z := []) (β := Value) (rv := fun x => .tuple #[x, .int .i64 x5.2]) (MM := fun x => []) (ZZ := fun x => [row x 3 (Rp.int .i64) x5.1]) F W UH Aa Aa (fun hL => KC _ w (v1) (v2) (v3) p0 p1 x2 x4 _ h7 ((Ap h_v1) w W).nx ((Ap h_v2) w W).nx ((Cb Er h1 (Ap h_v3)) w W).nx) fun x a w F W => ?_
     obtain ⟨v6, rfl⟩ : ∃ y, y = x := ⟨x, rfl⟩
     have W : Stw ⟨Y, [], w0⟩ [(b1, [.int .i64 p0.1, v1, v2])] [row v6 3 (Rp.int .i64) x5.1] w := W
     refine ls F W Aa (Ad F Aa).q fun a w F W => ?_
     refine ls F W Aa (BK (v := v6) F Aa Aa).q fun a w F W => ?_
     refine ls F W Aa (BK (v := Value.int .i64 x5.2) F Aa Aa).q fun a w F W => ?_
     iterate 2 refine ls F W Aa (Af F Aa).q fun a w F W => ?_
     refine Ae (Ab (Ah (Ac ?_)))
     refine ls F W Aa (Ad F Aa).q fun a w F W => ?_
     refine ls F W Aa (Hq F Aa Aa).q fun a w F W => ?_
     refine Ae (Ab ?_)
     refine Ay F Aa (fun hb => ?_) fun hb => ?_
     ·
      have H := AP (Bm hb) H
      rw [hb] at F
      clear hb
      refine Ah (Ac ?_)
      refine ls F W Aa (Af F Aa).q fun a w F W => ?_
      refine Ae (Ab (AF (A3 ?_)))
      iterate 2 refine AN ?_
      iterate 2 refine A3 ?_
      iterate 2 refine AN ?_
      refine A3 (AN ?_)
      have H := L4 _ H
      have H := L3 _ H
      have H := L2 _ H
      have H := L1 _ H
      have H := AQ H
      subst H
      refine Bj (.inl Aa) F W Aa (AD F Aa) ?_
      exact ⟨rfl, W.done⟩
     have H := AO (Bn hb) H
     rw [hb] at F
     clear hb
     refine Aq (AM (Ab (Ac ?_)))
     refine ls F W Aa (Bp F Aa Aa Aa).q fun a w F W => ?_
     refine ls F W Aa (Ad F Aa).q fun a w F W => ?_
     refine Ae (Ab ?_)
     have W := W.sub (M' := [(b1, [.int .i64 p0.1, v1, v2])]) (Z' := []) (List.Sublist.refl _) (List.nil_sublist _)
     exact ⟨_, H, F.re ⟨rfl, Aa, Aa, Aa, Aa, Aa, Aa, Aa, Aa, trivial⟩, W⟩
    have H := AO (Bn hb) H
    rw [hb] at F
    clear hb
    refine A5 ?_
    iterate 2 refine Bk ?_
    refine A6 (AM (Ab ?_))
    have H := L4 _ H
    exact ⟨H, F.re ⟨rfl, Aa, Aa, Aa, Aa, Aa, trivial⟩, W⟩
   rintro a w ⟨hj, F, W⟩
   have H := K3 _ hj
   clear hj G3 K3 L3
   refine Ac ?_
   refine ls F W Aa (Bp F Aa Aa Aa).q fun a w F W => ?_
   refine ls F W Aa (Ad F Aa).q fun a w F W => ?_
   refine Ae (Ab ?_)
   exact ⟨_, H, F.re ⟨rfl, Aa, Aa, Aa, Aa, Aa, trivial⟩, W⟩
  have H := AO (Bn hb) H
  rw [hb] at F
  clear hb
  refine A5 ?_
  iterate 2 refine Bk ?_
  refine A6 (Ab ?_)
  have H := L2 _ H
  exact ⟨H, F.re ⟨rfl, trivial⟩, W⟩
 rintro a w ⟨hj, F, W⟩
 have H := K1 _ hj
 clear hj G1 K1 L1
 refine Ah (Ac ?_)
 refine ls F W Aa (Af F Aa).q fun a w F W => ?_
 refine Ae (Ab (AF ?_))
 have H := AQ H
 subst H
 refine Bj (.inl Aa) F W Aa (AD F Aa) ?_
 exact ⟨rfl, W.done⟩
theorem UC : Has Try.prog 23 := ⟨fun args w => Al Try.func23 rfl (by decide) args w⟩
noncomputable def EC (p0 : Int × (List (Int × Int × Int × Int × Int × Int)) × (List (Int × Int))) (p1 : List (List Int)) (p2 : Int) : (List Int × Int) → Option ((List Int × Int) ⊕ (List Int))
  | (x4, x5) => (if x5 < (p1.length : Int) then (Fs p0 p1 x5 p2).bind fun x6 => (KF x4 ([Az ((x6.1.length : Int) - 1)] : List Int)).bind fun x7 => some (.inl (x7, Az (x5 + 1))) else some (.inr x4))
noncomputable def GZ (p0 : Int × (List (Int × Int × Int × Int × Int × Int)) × (List (Int × Int))) (p1 : List (List Int)) (p2 : Int) : Option (List Int) := ((EW p0 p1).bind fun x2 => (if (!x2) = true then some true else (if p2 < 0 then some true else some (decide ((p0.2.2.length : Int) ≤ p2))))).bind fun x1 => (if x1 = true then some ([] : List Int) else (AH (EC p0 p1 p2) ([], 0)).bind fun x3 => some x3)
theorem Oi (Y : Nat → Prop) (w0 : World) (v1 : Value) (v2 : Value) (v3 : Value) (p0 : Int × (List (Int × Int × Int × Int × Int × Int)) × (List (Int × Int))) (p1 : List (List Int)) (p2 : Int) (r : List Int) (H : GZ p0 p1 p2 = some r) (h_v1 : Sl w0 (NX []) Ii v1 p0.2.1) (h_v2 : Sl w0 (NX []) Ip v2 p0.2.2) (h_v3 : Sl w0 (NX []) (Rp.slice (Rp.int .i64)) v3 p1) :
    Calls Try.prog 24 #[.agg #[.int .i64 p0.1, v1, v2], v3, .int .i64 p2] w0 fun e w' => ∃ x : Value, e = .returned (x) ∧ Stw ⟨Y, [], w0⟩ [] [row (x) 3 (Rp.int .i64) r] w' := by
 refine enter Try.func24 Aa Try.ntmps24 Aa fun a F => ?_
 have W := Stw.start Y w0
 obtain ⟨v4, h1, h_v3⟩ := h_v3.ex Er
 unfold GZ at H
 refine Ah (Ac ?_)
 refine EQ (cs := [.int .i64 p0.1, v1, v2]) F W Aa Aa Aa fun b1 a w F W => ?_
 refine ls F W Aa (Af F Aa).q fun a w F W => ?_
 refine Ae (Ab (Ah ?_))
 obtain ⟨o1, G1, K1⟩ := Ak H
 refine AK (fun a w => ∃ x1 : Bool, some (x1) = some o1 ∧ Fr 47 [] [(1, v3), (2, .int .i64 p2), (3, .pointer (some ⟨b1, 0, none⟩)), (6, .slice none 0 0), (25, .bool x1)] a ∧ Stw ⟨Y, [], w0⟩ [(b1, [.int .i64 p0.1, v1, v2])] [] w) ?_ ?_
 ·
  have H := G1
  clear G1 K1
  refine Ac ?_
  refine ls F W Aa (AB (v := Value.agg #[.int .i64 p0.1, v1, v2]) 0 F Aa Aa Mk Aa).q fun a w F W => ?_
  refine ls F W Aa (Ad F Aa).q fun a w F W => ?_
  obtain ⟨x2, h2, H⟩ := Ak H
  refine ls F W Aa (BR (v := Value.bool x2) F UN Aa (fun w W => JO any w (v1) (v2) (v3) p0 p1 _ h2 (((Ap h_v1) : EM _ _ _ _ _ _) w W).nx (((Ap h_v2) : EM _ _ _ _ _ _) w W).nx (((Cb Er h1 (Ap h_v3)) : EM _ _ _ _ _ _) w W).nx)) fun a w F W => ?_
  refine ls F W Aa (ED F Aa).q fun a w F W => ?_
  refine ls F W Aa (Ad F Aa).q fun a w F W => ?_
  rcases Bool.eq_false_or_eq_true (!x2) with hb | hb
  ·
   have H := AP hb H
   rw [hb] at F
   clear hb
   iterate 2 refine C1 F Aa Aa Aa Aa Aa Aa Aa fun a F => ?_
   refine ls F W Aa (Av F Aa Aa Aa).q fun a w F W => ?_
   refine ls F W Aa (Ad F Aa).q fun a w F W => ?_
   iterate 5 refine C1 F Aa Aa Aa Aa Aa Aa Aa fun a F => ?_
   refine ls F W Aa (Av F Aa Aa Aa).q fun a w F W => ?_
   refine Ae (Ab ?_)
   exact ⟨_, H, F.re ⟨rfl, Aa, Aa, Aa, Aa, trivial⟩, W⟩
  have H := AO (by rw [hb]; decide) H
  rw [hb] at F
  clear hb
  refine AR F W (Ag F Aa Aa Aa Aa) Aa (An Aa) (Ad F Aa).q fun a w F W => ?_
  refine AR F W (Ag F Aa Aa Aa Aa) Aa (An Aa) (BI F Aa Aa).q fun a w F W => ?_
  refine ls F W Aa (Ax F Aa Aa Aa).q fun a w F W => ?_
  refine ls F W Aa (Ad F Aa).q fun a w F W => ?_
  rcases Bool.eq_false_or_eq_true (decide (p2 < 0)) with hb | hb
  ·
   have H := AP (Bm hb) H
   rw [hb] at F
   clear hb
   iterate 5 refine C1 F Aa Aa Aa Aa Aa Aa Aa fun a F => ?_
   refine ls F W Aa (Av F Aa Aa Aa).q fun a w F W => ?_
   refine Ae (Ab ?_)
   exact ⟨_, H, F.re ⟨rfl, Aa, Aa, Aa, Aa, trivial⟩, W⟩
  have H := AO (Bn hb) H
  rw [hb] at F
  clear hb
  refine AR F W (Ag F Aa Aa Aa Aa) Aa (An Aa) (Ad F Aa).q fun a w F W => ?_
  refine AR F W (Ag F Aa Aa Aa Aa) Aa (An Aa) (Am IE Aa Aa Aa Pu F Aa 2 Aa).q fun a w F W => ?_
  refine AR F W (Ag F Aa Aa Aa Aa) Aa (An Aa) (AB (v := v2) 0 F Aa Aa Pu Aa).q fun a w F W => ?_
  refine AR F W (Ag F Aa Aa Aa Aa) Aa (An Aa) (B1 (r := Ip) (l := p0.2.2) Od Aa F Aa (Ap h_v2)).q fun a w F W => ?_
  refine AR F W (Ag F Aa Aa Aa Aa) Aa (An Aa) (Ds F Aa Aa).q fun a w F W => ?_
  refine ls F W Aa (Ax F Aa Aa Aa).q fun a w F W => ?_
  refine Ae (Ab ?_)
  exact ⟨_, H, F.re ⟨rfl, Aa, Aa, Aa, Aa, trivial⟩, W⟩
 rintro a w ⟨x1, hj, F, W⟩
 have hj := AQ hj
 subst hj
 have H := K1
 clear G1 K1
 refine Ay F Aa (fun hb => ?_) fun hb => ?_
 ·
  have H := AP hb H
  rw [hb] at F
  clear hb
  refine Ah (Ac ?_)
  refine ls F W Aa (Af F Aa).q fun a w F W => ?_
  refine Ae (Ab (AF (AN ?_)))
  have H := AQ H
  subst H
  refine Bj (.inl Aa) F W Aa (AD F Aa) ?_
  have W := W.nilRow 3 (Rp.int .i64)
  have W := W.sub (M' := []) (Z' := [row (Value.slice none 0 0) 3 (Rp.int .i64) ([])]) (List.nil_sublist _) (List.Sublist.refl _)
  exact ⟨(Value.slice none 0 0), Aa, W⟩
 have H := AO (by rw [hb]; decide) H
 rw [hb] at F
 clear hb
 refine Aq (Ab (Ah (Ac ?_)))
 refine ls F W Aa (Af F Aa).q fun a w F W => ?_
 refine Ae (Ab ?_)
 obtain ⟨o2, G2, K2⟩ := Ak H
 refine AK (fun a w => ∃ x3 : List Int, ∃ v5 : Value, some (x3) = some o2 ∧ Fr 47 [] [(6, .slice none 0 0), (7, v5)] a ∧ Stw ⟨Y, [], w0⟩ [(b1, [.int .i64 p0.1, v1, v2])] [row v5 3 (Rp.int .i64) x3] w) ?_ ?_
 ·
  have H := G2
  clear G2 K2
  refine Ah (Ac ?_)
  refine ls F W Aa (Ad F Aa).q fun a w F W => ?_
  refine ls F W Aa (B1 (r := (Rp.slice (Rp.int .i64))) (l := p1) Kw Aa F Aa (Cb Er h1 (Ap h_v3))).q fun a w F W => ?_
  refine ls F W Aa (Ad F Aa).q fun a w F W => ?_
  refine Ae (Ab (As ?_))
  have W := W.nilRow 3 (Rp.int .i64)
  refine Bh H (fun s a w => ∃ v6 : Value, Fr 47 [] [(1, v3), (2, .int .i64 p2), (3, .pointer (some ⟨b1, 0, none⟩)), (6, .slice none 0 0), (7, v6), (27, .int .i64 (p1.length : Int)), (28, .int .i64 s.2)] a ∧ Stw ⟨Y, [], w0⟩ [(b1, [.int .i64 p0.1, v1, v2])] [row v6 3 (Rp.int .i64) s.1] w) ⟨(Value.slice none 0 0), F.re ⟨rfl, Aa, Aa, Aa, Aa, Aa, Aa, trivial⟩, W⟩ fun s o a w H L3 hR => ?_
  obtain ⟨x4, x5⟩ := s
  obtain ⟨v6, F, W⟩ := hR
  have F : Fr 47 [] [(1, v3), (2, .int .i64 p2), (3, .pointer (some ⟨b1, 0, none⟩)), (6, .slice none 0 0), (7, v6), (27, .int .i64 (p1.length : Int)), (28, .int .i64 x5)] a := F
  have W : Stw ⟨Y, [], w0⟩ [(b1, [.int .i64 p0.1, v1, v2])] [row v6 3 (Rp.int .i64) x4] w := W
  rw [EC] at H
  refine Ah (Ac ?_)
  refine ls F W Aa (BI F Aa Aa).q fun a w F W => ?_
  refine Ae (Ab (Ah ?_))
  refine Ay F Aa (fun hb => ?_) fun hb => ?_
  ·
   have H := AP (Bm hb) H
   rw [hb] at F
   clear hb
   refine Aq (Ab (Ah (As (Ah (Ac ?_)))))
   refine ls F W Aa (Ad F Aa).q fun a w F W => ?_
   refine ls F W Aa (Af F Aa).q fun a w F W => ?_
   refine Ae (Ab (Ah (Ac ?_)))
   refine ls F W Aa (AB (v := Value.agg #[.int .i64 p0.1, v1, v2]) 0 F Aa Aa Mk Aa).q fun a w F W => ?_
   iterate 3 refine ls F W Aa (Ad F Aa).q fun a w F W => ?_
   obtain ⟨x6, h3, H⟩ := Ak H
   refine Bo (Ml := []) (Zl := []) (M := [(b1, [.int .i64 p0.1, v1, v2])]) (Z := [row v6 3 (Rp.int .i64) x4]) (β := Value) (rv := fun x => .tuple #[x, .int .i64 x6.2]) (MM := fun x => []) (ZZ := fun x => [row x 3 (Rp.int .i64) x6.1]) F W UH Aa Aa (fun hL => KC _ w (v1) (v2) (v3) p0 p1 x5 p2 _ h3 ((Ap h_v1) w W).nx ((Ap h_v2) w W).nx ((Cb Er h1 (Ap h_v3)) w W).nx) fun x a w F W => ?_
   obtain ⟨v7, rfl⟩ : ∃ y, y = x := ⟨x, rfl⟩
   have W : Stw ⟨Y, [], w0⟩ [(b1, [.int .i64 p0.1, v1, v2])] [row v7 3 (Rp.int .i64) x6.1, row v6 3 (Rp.int .i64) x4] w := W
   refine ls F W Aa (Ad F Aa).q fun a w F W => ?_
   refine ls F W Aa (BK (v := v7) F Aa Aa).q fun a w F W => ?_
   refine ls F W Aa (BK (v := Value.int .i64 x6.2) F Aa Aa).q fun a w F W => ?_
   iterate 2 refine ls F W Aa (Af F Aa).q fun a w F W => ?_
   refine Ae (Ab (Ac ?_))
   iterate 2 refine ls F W Aa (Ad F Aa).q fun a w F W => ?_
   refine ls F W Aa (B1 (r := (Rp.int .i64)) (l := x6.1) Hu Aa F Aa (Aj 0 Aa)).q fun a w F W => ?_
   refine ls F W Aa (B9 F Aa Aa Aa).q fun a w F W => ?_
   refine E9 (z := Value.int .i64 0) (cs := [.int .i64 (Az ((x6.1.length : Int) - 1))]) (Rp.int .i64) ([Az ((x6.1.length : Int) - 1)] : List Int) F W Aa EH Z3 Aa Aa Aa Aa Aa Aa (Fl.int.repL _ _ ([Az ((x6.1.length : Int) - 1)] : List Int)) fun v8 a w F W => ?_
   obtain ⟨x7, h4, H⟩ := Ak H
   refine Fb (r := (Rp.int .i64)) (i := 2) F W Aa EH Aa Aa Aa Aa (GD W 0 Aa) h4 Aa fun v9 a w F W => ?_
   have W : Stw ⟨Y, [], w0⟩ [(b1, [.int .i64 p0.1, v1, v2])] [row v9 3 (Rp.int .i64) x7, row v8 3 (Rp.int .i64) ([Az ((x6.1.length : Int) - 1)] : List Int), row v7 3 (Rp.int .i64) x6.1] w := W
   refine ls F W Aa (Af F Aa).q fun a w F W => ?_
   refine Ae (AM (Ab (Ac ?_)))
   refine ls F W Aa (Bp F Aa Aa Aa).q fun a w F W => ?_
   refine ls F W Aa (Ad F Aa).q fun a w F W => ?_
   refine Ae (Ab ?_)
   have W := W.sub (M' := [(b1, [.int .i64 p0.1, v1, v2])]) (Z' := [row v9 3 (Rp.int .i64) x7]) (List.Sublist.refl _) (List.Sublist.cons_cons _ (List.nil_sublist _))
   exact ⟨_, H, (v9), F.re ⟨rfl, Aa, Aa, Aa, Aa, Aa, Aa, trivial⟩, W⟩
  have H := AO (Bn hb) H
  rw [hb] at F
  clear hb
  refine A5 ?_
  iterate 2 refine Bk ?_
  refine A6 (Ab ?_)
  have H := L3 _ H
  exact ⟨_, (v6), H, F.re ⟨rfl, Aa, trivial⟩, W⟩
 rintro a w ⟨x3, v5, hj, F, W⟩
 have hj := AQ hj
 subst hj
 have H := K2
 clear G2 K2
 refine Ah (Ac ?_)
 refine ls F W Aa (Ad F Aa).q fun a w F W => ?_
 refine ls F W Aa (Af F Aa).q fun a w F W => ?_
 refine Ae (Ab (AF ?_))
 have H := AQ H
 subst H
 refine Bj (.inl Aa) F W Aa (AD F Aa) ?_
 have W := W.sub (M' := []) (Z' := [row v5 3 (Rp.int .i64) x3]) (List.nil_sublist _) (List.Sublist.refl _)
 exact ⟨(v5), Aa, W⟩
theorem UP : type_of% Try.underlying5 := Try.underlying5
theorem VY : type_of% Try.underlying9 := Try.underlying9
theorem OD : type_of% Try.underlying30 := Try.underlying30
theorem HD : type_of% Try.underlying70 := Try.underlying70
theorem S6 : type_of% Try.underlying123 := Try.underlying123
theorem V7 : Has Try.prog 24 := ⟨fun args w => Al Try.func24 rfl (by decide) args w⟩
theorem Vr : Bt Try.prog 70 [.int .i64 0, .int .i64 0, .int .i64 0, .int .i64 0] [(0, 1), (1, 1), (2, 1), (3, 1)] := ⟨⟨.agg #[.int .i64 0, .int .i64 0, .int .i64 0, .int .i64 0], by kernel_rfl, rfl⟩, ⟨_, HD, fun w => by kernel_rfl⟩⟩
theorem S7 : (Try.prog.info? 70).bind (·.zero) = some (.agg #[.int .i64 0, .int .i64 0, .int .i64 0, .int .i64 0]) := by kernel_rfl
abbrev A4 : Rp (Int × Int × Int × Int) := (Rp.pair (Rp.int .i64) (Rp.pair (Rp.int .i64) (Rp.pair (Rp.int .i64) (Rp.int .i64))))
def VH (a : Int × Int × Int × Int) : List Value := [.int .i64 a.1, .int .i64 a.2.1, .int .i64 a.2.2.1, .int .i64 a.2.2.2]
theorem Ep : Fl A4 VH := (Fl.pair Fl.int (Fl.pair Fl.int (Fl.pair Fl.int Fl.int)))
theorem En : Et Try.prog 30 70 4 32 := Et.of OD (by kernel_rfl) (by kernel_rfl) (by kernel_rfl) (by decide)
noncomputable def Ew (p0 : Int) : Option Int := (if 4294967296 ≤ p0 then some (GB .u64 p0 32, 32) else some (p0, 0)).bind fun (x1, x2) => (if 65536 ≤ x1 then some (GB .u64 x1 16, Az (x2 + 16)) else some (x1, x2)).bind fun (x3, x4) => (if 256 ≤ x3 then some (GB .u64 x3 8, Az (x4 + 8)) else some (x3, x4)).bind fun (x5, x6) => (ix ([0, 1, 2, 2, 3, 3, 3, 3, 4, 4, 4, 4, 4, 4, 4, 4, 5, 5, 5, 5, 5, 5, 5, 5, 5, 5, 5, 5, 5, 5, 5, 5, 6, 6, 6, 6, 6, 6, 6, 6, 6, 6, 6, 6, 6, 6, 6, 6, 6, 6, 6, 6, 6, 6, 6, 6, 6, 6, 6, 6, 6, 6, 6, 6, 7, 7, 7, 7, 7, 7, 7, 7, 7, 7, 7, 7, 7, 7, 7, 7, 7, 7, 7, 7, 7, 7, 7, 7, 7, 7, 7, 7, 7, 7, 7, 7, 7, 7, 7, 7, 7, 7, 7, 7, 7, 7, 7, 7, 7, 7, 7, 7, 7, 7, 7, 7, 7, 7, 7, 7, 7, 7, 7, 7, 7, 7, 7, 7, 8, 8, 8, 8, 8, 8, 8, 8, 8, 8, 8, 8, 8, 8, 8, 8, 8, 8, 8, 8, 8, 8, 8, 8, 8, 8, 8, 8, 8, 8, 8, 8, 8, 8, 8, 8, 8, 8, 8, 8, 8, 8, 8, 8, 8, 8, 8, 8, 8, 8, 8, 8, 8, 8, 8, 8, 8, 8, 8, 8, 8, 8, 8, 8, 8, 8, 8, 8, 8, 8, 8, 8, 8, 8, 8, 8, 8, 8, 8, 8, 8, 8, 8, 8, 8, 8, 8, 8, 8, 8, 8, 8, 8, 8, 8, 8, 8, 8, 8, 8, 8, 8, 8, 8, 8, 8, 8, 8, 8, 8, 8, 8, 8, 8, 8, 8, 8, 8, 8, 8, 8, 8, 8, 8, 8, 8, 8, 8] : List UInt8) (IntKind.u8.wrap x5)).bind fun x7 => some (Az (x6 + (Az (x7.toNat : Int))))
theorem Kf (Y : Nat → Prop) (w0 : World)  (p0 : Int) (r : Int) (H : Ew p0 = some r)  :
    Calls Try.prog 65 #[.int .u64 p0] w0 fun e w' => e = .returned (.int .i64 r) ∧ Below w0.heap.size w0 w' := by
 refine enter Try.func65 Aa Try.ntmps65 Aa fun a F => ?_
 have W := Stw.start Y w0
 unfold Ew at H
 refine Ah (Ac ?_)
 refine ls F W Aa (Af F Aa).q fun a w F W => ?_
 refine Ae (Ab ?_)
 obtain ⟨o1, G1, K1⟩ := Ak H
 refine AK (fun a w => ∃ x1 : Int, ∃ x2 : Int, some ((x1, x2)) = some o1 ∧ Fr 25 [] [(0, .int .u64 x1), (2, .int .i64 x2)] a ∧ Stw ⟨Y, [], w0⟩ [] [] w) ?_ ?_
 ·
  have H := G1
  clear G1 K1
  refine Ah (Ac ?_)
  refine ls F W Aa (Ad F Aa).q fun a w F W => ?_
  refine ls F W Aa (Ds F Aa Aa).q fun a w F W => ?_
  refine Ae (Ab ?_)
  refine Ay F Aa (fun hb => ?_) fun hb => ?_
  ·
   have H := AP (Bm hb) H
   rw [hb] at F
   clear hb
   refine Ah (Ac ?_)
   refine ls F W Aa (Ad F Aa).q fun a w F W => ?_
   refine ls F W Aa (PF F Aa Aa (by decide)).q fun a w F W => ?_
   refine ls F W Aa (Af F Aa).q fun a w F W => ?_
   refine Ae (Ab (Ac ?_))
   refine ls F W Aa (Af F Aa).q fun a w F W => ?_
   refine Ae (Ab ?_)
   exact ⟨_, _, H, F.re ⟨rfl, Aa, trivial⟩, W⟩
  have H := AO (Bn hb) H
  rw [hb] at F
  clear hb
  refine Aq (Ab ?_)
  exact ⟨_, _, H, F.re ⟨rfl, Aa, trivial⟩, W⟩
 rintro a w ⟨x1, x2, hj, F, W⟩
 have hj := AQ hj
 subst hj
 have H := K1
 clear G1 K1
 obtain ⟨o2, G2, K2⟩ := Ak H
 refine AK (fun a w => ∃ x3 : Int, ∃ x4 : Int, some ((x3, x4)) = some o2 ∧ Fr 25 [] [(0, .int .u64 x3), (2, .int .i64 x4)] a ∧ Stw ⟨Y, [], w0⟩ [] [] w) ?_ ?_
 ·
  have H := G2
  clear G2 K2
  refine Ah (Ac ?_)
  refine ls F W Aa (Ad F Aa).q fun a w F W => ?_
  refine ls F W Aa (Ds F Aa Aa).q fun a w F W => ?_
  refine Ae (Ab ?_)
  refine Ay F Aa (fun hb => ?_) fun hb => ?_
  ·
   have H := AP (Bm hb) H
   rw [hb] at F
   clear hb
   refine Ah (Ac ?_)
   refine ls F W Aa (Ad F Aa).q fun a w F W => ?_
   refine ls F W Aa (PF F Aa Aa (by decide)).q fun a w F W => ?_
   refine ls F W Aa (Af F Aa).q fun a w F W => ?_
   refine Ae (Ab (Ac ?_))
   refine ls F W Aa (Ad F Aa).q fun a w F W => ?_
   refine ls F W Aa (Bp F Aa Aa Aa).q fun a w F W => ?_
   refine ls F W Aa (Af F Aa).q fun a w F W => ?_
   refine Ae (Ab ?_)
   exact ⟨_, _, H, F.re ⟨rfl, Aa, trivial⟩, W⟩
  have H := AO (Bn hb) H
  rw [hb] at F
  clear hb
  refine Aq (Ab ?_)
  exact ⟨_, _, H, F.re ⟨rfl, Aa, trivial⟩, W⟩
 rintro a w ⟨x3, x4, hj, F, W⟩
 have hj := AQ hj
 subst hj
 have H := K2
 clear G2 K2
 obtain ⟨o3, G3, K3⟩ := Ak H
 refine AK (fun a w => ∃ x5 : Int, ∃ x6 : Int, some ((x5, x6)) = some o3 ∧ Fr 25 [] [(0, .int .u64 x5), (2, .int .i64 x6)] a ∧ Stw ⟨Y, [], w0⟩ [] [] w) ?_ ?_
 ·
  have H := G3
  clear G3 K3
  refine Ah (Ac ?_)
  refine ls F W Aa (Ad F Aa).q fun a w F W => ?_
  refine ls F W Aa (Ds F Aa Aa).q fun a w F W => ?_
  refine Ae (Ab ?_)
  refine Ay F Aa (fun hb => ?_) fun hb => ?_
  ·
   have H := AP (Bm hb) H
   rw [hb] at F
   clear hb
   refine Ah (Ac ?_)
   refine ls F W Aa (Ad F Aa).q fun a w F W => ?_
   refine ls F W Aa (PF F Aa Aa (by decide)).q fun a w F W => ?_
   refine ls F W Aa (Af F Aa).q fun a w F W => ?_
   refine Ae (Ab (Ac ?_))
   refine ls F W Aa (Ad F Aa).q fun a w F W => ?_
   refine ls F W Aa (Bp F Aa Aa Aa).q fun a w F W => ?_
   refine ls F W Aa (Af F Aa).q fun a w F W => ?_
   refine Ae (Ab ?_)
   exact ⟨_, _, H, F.re ⟨rfl, Aa, trivial⟩, W⟩
  have H := AO (Bn hb) H
  rw [hb] at F
  clear hb
  refine Aq (Ab ?_)
  exact ⟨_, _, H, F.re ⟨rfl, Aa, trivial⟩, W⟩
 rintro a w ⟨x5, x6, hj, F, W⟩
 have hj := AQ hj
 subst hj
 have H := K3
 clear G3 K3
 refine Ah (Ac ?_)
 iterate 2 refine ls F W Aa (Ad F Aa).q fun a w F W => ?_
 refine ls F W Aa (IZ S6 UP F Aa).q fun a w F W => ?_
 obtain ⟨x7, h1, H⟩ := Ak H
 refine ls F W Aa (Qw (l := ([0, 1, 2, 2, 3, 3, 3, 3, 4, 4, 4, 4, 4, 4, 4, 4, 5, 5, 5, 5, 5, 5, 5, 5, 5, 5, 5, 5, 5, 5, 5, 5, 6, 6, 6, 6, 6, 6, 6, 6, 6, 6, 6, 6, 6, 6, 6, 6, 6, 6, 6, 6, 6, 6, 6, 6, 6, 6, 6, 6, 6, 6, 6, 6, 7, 7, 7, 7, 7, 7, 7, 7, 7, 7, 7, 7, 7, 7, 7, 7, 7, 7, 7, 7, 7, 7, 7, 7, 7, 7, 7, 7, 7, 7, 7, 7, 7, 7, 7, 7, 7, 7, 7, 7, 7, 7, 7, 7, 7, 7, 7, 7, 7, 7, 7, 7, 7, 7, 7, 7, 7, 7, 7, 7, 7, 7, 7, 7, 8, 8, 8, 8, 8, 8, 8, 8, 8, 8, 8, 8, 8, 8, 8, 8, 8, 8, 8, 8, 8, 8, 8, 8, 8, 8, 8, 8, 8, 8, 8, 8, 8, 8, 8, 8, 8, 8, 8, 8, 8, 8, 8, 8, 8, 8, 8, 8, 8, 8, 8, 8, 8, 8, 8, 8, 8, 8, 8, 8, 8, 8, 8, 8, 8, 8, 8, 8, 8, 8, 8, 8, 8, 8, 8, 8, 8, 8, 8, 8, 8, 8, 8, 8, 8, 8, 8, 8, 8, 8, 8, 8, 8, 8, 8, 8, 8, 8, 8, 8, 8, 8, 8, 8, 8, 8, 8, 8, 8, 8, 8, 8, 8, 8, 8, 8, 8, 8, 8, 8, 8, 8, 8, 8, 8, 8, 8, 8] : List UInt8)) VY F Aa Aa h1).q fun a w F W => ?_
 refine ls F W Aa (IZ UP OI F Aa).q fun a w F W => ?_
 refine ls F W Aa (Bp F Aa Aa Aa).q fun a w F W => ?_
 refine ls F W Aa (Af F Aa).q fun a w F W => ?_
 refine Ae (Ab (AF ?_))
 have H := AQ H
 subst H
 refine Bj (.inl Aa) F W Aa (AD F Aa) ?_
 exact ⟨rfl, W.done⟩
theorem Vp : Has Try.prog 65 := ⟨fun args w => Al Try.func65 rfl (by decide) args w⟩
noncomputable def DI (p0 : Int) : Option Int := (Ew p0).bind fun x1 => some x1
theorem Hs (Y : Nat → Prop) (w0 : World)  (p0 : Int) (r : Int) (H : DI p0 = some r)  :
    Calls Try.prog 40 #[.int .u64 p0] w0 fun e w' => e = .returned (.int .i64 r) ∧ Below w0.heap.size w0 w' := by
 refine enter Try.func40 Aa Try.ntmps40 Aa fun a F => ?_
 have W := Stw.start Y w0
 unfold DI at H
 refine Ah (Ac ?_)
 refine ls F W Aa (Af F Aa).q fun a w F W => ?_
 refine Ae (Ab (Ah ?_))
 refine My F Aa ?_
 refine Aq (Ab (Ah (Ac ?_)))
 refine ls F W Aa (Ad F Aa).q fun a w F W => ?_
 obtain ⟨x1, h1, H⟩ := Ak H
 refine ls F W Aa (BR (v := Value.int .i64 x1) F Vp Aa (fun w W => Kf any w p0 _ h1)) fun a w F W => ?_
 refine ls F W Aa (Af F Aa).q fun a w F W => ?_
 refine Ae (Ab (AF ?_))
 have H := AQ H
 subst H
 refine Bj (.inl Aa) F W Aa (AD F Aa) ?_
 exact ⟨rfl, W.done⟩
theorem Ux : Has Try.prog 40 := ⟨fun args w => Al Try.func40 rfl (by decide) args w⟩
theorem Ee : Ty Try.prog 70 true 4 := ⟨by kernel_rfl, by kernel_rfl⟩
def BN (p0 : Int) : Bool := decide (p0 ≠ p0)
theorem F7 (Y : Nat → Prop) (w0 : World)  (p0 : Int) (r : Bool) (H : BN p0 = r)  :
    Calls Try.prog 41 #[.int .i64 p0] w0 fun e w' => e = .returned (.bool r) ∧ Below w0.heap.size w0 w' := by
 refine enter Try.func41 Aa Try.ntmps41 Aa fun a F => ?_
 have W := Stw.start Y w0
 unfold BN at H
 refine Ah (Ac ?_)
 refine ls F W Aa (Af F Aa).q fun a w F W => ?_
 refine Ae (Ab (Ah (Ac ?_)))
 iterate 2 refine ls F W Aa (Ad F Aa).q fun a w F W => ?_
 refine ls F W Aa (Hq F Aa Aa).q fun a w F W => ?_
 refine ls F W Aa (Af F Aa).q fun a w F W => ?_
 refine Ae (Ab (AF ?_))
 subst H
 refine Bj (.inl Aa) F W Aa (AD F Aa) ?_
 exact ⟨rfl, W.done⟩
theorem TM : Has Try.prog 41 := ⟨fun args w => Al Try.func41 rfl (by decide) args w⟩
def AY (p0 : Int) (p1 : Int) : Int := (if (BN p0) = true then (if (BN p1) = true then 0 else (-1)) else (if (BN p1) = true then 1 else (if p0 < p1 then (-1) else (if p1 < p0 then 1 else 0))))
theorem Gs (Y : Nat → Prop) (w0 : World)  (p0 : Int) (p1 : Int) (r : Int) (H : AY p0 p1 = r)  :
    Calls Try.prog 28 #[.int .i64 p0, .int .i64 p1] w0 fun e w' => e = .returned (.int .i64 r) ∧ Below w0.heap.size w0 w' := by
 refine enter Try.func28 Aa Try.ntmps28 Aa fun a F => ?_
 have W := Stw.start Y w0
 unfold AY at H
 refine Ah (Ac ?_)
 refine ls F W Aa (Af F Aa).q fun a w F W => ?_
 refine Ae (Ab (Ah (Ac ?_)))
 refine ls F W Aa (Ad F Aa).q fun a w F W => ?_
 refine ls F W Aa (BR (v := Value.bool (BN p0)) F TM Aa (fun w W => F7 any w p0 _ Aa)) fun a w F W => ?_
 refine ls F W Aa (Af F Aa).q fun a w F W => ?_
 refine Ae (Ab (Ah (Ac ?_)))
 refine ls F W Aa (Ad F Aa).q fun a w F W => ?_
 refine ls F W Aa (BR (v := Value.bool (BN p1)) F TM Aa (fun w W => F7 any w p1 _ Aa)) fun a w F W => ?_
 refine ls F W Aa (Af F Aa).q fun a w F W => ?_
 refine Ae (Ab (Ah (Ah (Ac ?_))))
 refine ls F W Aa (Ad F Aa).q fun a w F W => ?_
 refine Ae (Ab ?_)
 refine Ay F Aa (fun hb => ?_) fun hb => ?_
 ·
  have H := AP hb H
  rw [hb] at F
  clear hb
  refine Ah (Ah (Ac ?_))
  refine ls F W Aa (Ad F Aa).q fun a w F W => ?_
  refine Ae (Ab ?_)
  refine Ay F Aa (fun hb => ?_) fun hb => ?_
  ·
   have H := AP hb H
   rw [hb] at F
   clear hb
   refine Ah (Ac ?_)
   refine ls F W Aa (Af F Aa).q fun a w F W => ?_
   refine Ae (Ab (AF ?_))
   iterate 2 refine AN ?_
   subst H
   refine Bj (.inl Aa) F W Aa (AD F Aa) ?_
   exact ⟨rfl, W.done⟩
  have H := AO (by rw [hb]; decide) H
  rw [hb] at F
  clear hb
  refine Aq (Ab (Ah (Ac ?_)))
  refine ls F W Aa (Af F Aa).q fun a w F W => ?_
  refine Ae (Ab (AF (AN ?_)))
  subst H
  refine Bj (.inl Aa) F W Aa (AD F Aa) ?_
  exact ⟨rfl, W.done⟩
 have H := AO (by rw [hb]; decide) H
 rw [hb] at F
 clear hb
 refine Aq (Ab (Ah (Ah (Ac ?_))))
 refine ls F W Aa (Ad F Aa).q fun a w F W => ?_
 refine Ae (Ab ?_)
 refine Ay F Aa (fun hb => ?_) fun hb => ?_
 ·
  have H := AP hb H
  rw [hb] at F
  clear hb
  refine Ah (Ac ?_)
  refine ls F W Aa (Af F Aa).q fun a w F W => ?_
  refine Ae (Ab (AF (AN ?_)))
  subst H
  refine Bj (.inl Aa) F W Aa (AD F Aa) ?_
  exact ⟨rfl, W.done⟩
 have H := AO (by rw [hb]; decide) H
 rw [hb] at F
 clear hb
 refine Aq (Ab (Ah (Ah (Ac ?_))))
 iterate 2 refine ls F W Aa (Ad F Aa).q fun a w F W => ?_
 refine ls F W Aa (BI F Aa Aa).q fun a w F W => ?_
 refine Ae (Ab ?_)
 refine Ay F Aa (fun hb => ?_) fun hb => ?_
 ·
  have H := AP (Bm hb) H
  rw [hb] at F
  clear hb
  refine Ah (Ac ?_)
  refine ls F W Aa (Af F Aa).q fun a w F W => ?_
  refine Ae (Ab (AF (AN ?_)))
  subst H
  refine Bj (.inl Aa) F W Aa (AD F Aa) ?_
  exact ⟨rfl, W.done⟩
 have H := AO (Bn hb) H
 rw [hb] at F
 clear hb
 refine Aq (Ab (Ah (Ah (Ac ?_))))
 iterate 2 refine ls F W Aa (Ad F Aa).q fun a w F W => ?_
 refine ls F W Aa (FZ F Aa Aa).q fun a w F W => ?_
 refine Ae (Ab ?_)
 refine Ay F Aa (fun hb => ?_) fun hb => ?_
 ·
  have H := AP (Bm hb) H
  rw [hb] at F
  clear hb
  refine Ah (Ac ?_)
  refine ls F W Aa (Af F Aa).q fun a w F W => ?_
  refine Ae (Ab (AF (AN ?_)))
  subst H
  refine Bj (.inl Aa) F W Aa (AD F Aa) ?_
  exact ⟨rfl, W.done⟩
 have H := AO (Bn hb) H
 rw [hb] at F
 clear hb
 refine Aq (Ab (Ah (Ac ?_)))
 refine ls F W Aa (Af F Aa).q fun a w F W => ?_
 refine Ae (Ab (AF ?_))
 subst H
 refine Bj (.inl Aa) F W Aa (AD F Aa) ?_
 exact ⟨rfl, W.done⟩
theorem Uj : Has Try.prog 28 := ⟨fun args w => Al Try.func28 rfl (by decide) args w⟩
noncomputable def Da (p0 : List Int) : Int → Option (Int ⊕ (Unit ⊕ Int))
  | x1 => (if x1 < (p0.length : Int) then (ix p0 x1).bind fun x2 => (if x2 ≠ 0 then some (.inr (.inr x2)) else some (.inl (Az (x1 + 1)))) else some (.inr (.inl ())))
noncomputable def Gh (p0 : List Int) : Option Int := FO (AH (Da p0) 0) fun _ => some 0
theorem Nu (Y : Nat → Prop) (w0 : World) (v1 : Value) (p0 : List Int) (r : Int) (H : Gh p0 = some r) (h_v1 : Sl w0 (NX []) (Rp.int .i64) v1 p0) :
    Calls Try.prog 27 #[v1] w0 fun e w' => e = .returned (.int .i64 r) ∧ Below w0.heap.size w0 w' := by
 refine enter Try.func27 Aa Try.ntmps27 Aa fun a F => ?_
 have W := Stw.start Y w0
 unfold Gh at H
 refine Ah (Ac ?_)
 refine ls F W Aa (Af F Aa).q fun a w F W => ?_
 refine Ae (Ab (Ah (Ac ?_)))
 refine ls F W Aa (Af F Aa).q fun a w F W => ?_
 refine Ae (Ab ?_)
 obtain ⟨o1, G1, K1, L1⟩ := JX H
 refine AK (fun a w => some (Sum.inl ()) = some o1 ∧ Fr 18 [] [(2, .int .i64 0), (3, .int .i64 0)] a ∧ Stw ⟨Y, [], w0⟩ [] [] w) ?_ ?_
 ·
  have H := G1
  clear G1 K1
  refine Ah (Ac ?_)
  refine ls F W Aa (Ad F Aa).q fun a w F W => ?_
  refine ls F W Aa (B1 (r := (Rp.int .i64)) (l := p0) Hu Aa F Aa (Ap h_v1)).q fun a w F W => ?_
  refine ls F W Aa (Ad F Aa).q fun a w F W => ?_
  refine Ae (Ab (As ?_))
  refine Bh H (fun s a w => Fr 18 [] [(2, .int .i64 0), (3, .int .i64 0), (6, v1), (7, .int .i64 (p0.length : Int)), (8, .int .i64 s)] a ∧ Stw ⟨Y, [], w0⟩ [] [] w) ⟨F.re ⟨rfl, Aa, Aa, Aa, Aa, trivial⟩, W⟩ fun s o a w H L2 hR => ?_
  obtain ⟨x1, rfl⟩ : ∃ x, x = s := ⟨s, rfl⟩
  obtain ⟨F, W⟩ := hR
  have F : Fr 18 [] [(2, .int .i64 0), (3, .int .i64 0), (6, v1), (7, .int .i64 (p0.length : Int)), (8, .int .i64 x1)] a := F
  have W : Stw ⟨Y, [], w0⟩ [] [] w := W
  rw [Da] at H
  refine Ah (Ac ?_)
  refine ls F W Aa (BI F Aa Aa).q fun a w F W => ?_
  refine Ae (Ab (Ah ?_))
  refine Ay F Aa (fun hb => ?_) fun hb => ?_
  ·
   have H := AP (Bm hb) H
   rw [hb] at F
   clear hb
   refine Aq (Ab (Ah (As (Ah (Ac ?_)))))
   obtain ⟨x2, h1, H⟩ := Ak H
   refine ls F W Aa (AC (r := (Rp.int .i64)) EH F Aa Aa (Ap h_v1) h1).q fun a w F W => ?_
   refine ls F W Aa (Ao (y := Value.int .i64 x2) (j := 0) (i := x1) F Aa Aa (Ap h_v1) h1 Fl.int.to T3 Aa).q fun a w F W => ?_
   refine ls F W Aa (Af F Aa).q fun a w F W => ?_
   refine Ae (Ab (Ah (Ac ?_)))
   iterate 2 refine ls F W Aa (Ad F Aa).q fun a w F W => ?_
   refine ls F W Aa (Hq F Aa Aa).q fun a w F W => ?_
   refine Ae (Ab ?_)
   refine Ay F Aa (fun hb => ?_) fun hb => ?_
   ·
    have H := AP (Bm hb) H
    rw [hb] at F
    clear hb
    refine Ah (Ac ?_)
    refine ls F W Aa (Ad F Aa).q fun a w F W => ?_
    refine ls F W Aa (Af F Aa).q fun a w F W => ?_
    refine Ae (Ab (AF (A3 ?_)))
    iterate 2 refine AN ?_
    refine A3 (AN ?_)
    have H := L2 _ H
    have H := L1 _ H
    have H := AQ H
    subst H
    refine Bj (.inl Aa) F W Aa (AD F Aa) ?_
    exact ⟨rfl, W.done⟩
   have H := AO (Bn hb) H
   rw [hb] at F
   clear hb
   refine Aq (AM (Ab (Ac ?_)))
   refine ls F W Aa (Bp F Aa Aa Aa).q fun a w F W => ?_
   refine ls F W Aa (Ad F Aa).q fun a w F W => ?_
   refine Ae (Ab ?_)
   exact ⟨_, H, F.re ⟨rfl, Aa, Aa, Aa, Aa, trivial⟩, W⟩
  have H := AO (Bn hb) H
  rw [hb] at F
  clear hb
  refine A5 ?_
  iterate 2 refine Bk ?_
  refine A6 (Ab ?_)
  have H := L2 _ H
  exact ⟨H, F.re ⟨rfl, Aa, trivial⟩, W⟩
 rintro a w ⟨hj, F, W⟩
 have H := K1 _ hj
 clear hj G1 K1 L1
 refine Ah (Ac ?_)
 refine ls F W Aa (Ad F Aa).q fun a w F W => ?_
 refine ls F W Aa (Af F Aa).q fun a w F W => ?_
 refine Ae (Ab (AF ?_))
 have H := AQ H
 subst H
 refine Bj (.inl Aa) F W Aa (AD F Aa) ?_
 exact ⟨rfl, W.done⟩
theorem Wb : Has Try.prog 27 := ⟨fun args w => Al Try.func27 rfl (by decide) args w⟩
noncomputable def B8 (p0 : Int × Int × Int × Int) (p1 : Int × Int × Int × Int) : Option Int := (Gh ([(AY p0.2.2.2 p1.2.2.2), (AY p0.1 p1.1), (AY p0.2.1 p1.2.1)] : List Int)).bind fun x1 => some x1
theorem Cn (Y : Nat → Prop) (w0 : World)  (p0 : Int × Int × Int × Int) (p1 : Int × Int × Int × Int) (r : Int) (H : B8 p0 p1 = some r)  :
    Calls Try.prog 26 #[.agg #[.int .i64 p0.1, .int .i64 p0.2.1, .int .i64 p0.2.2.1, .int .i64 p0.2.2.2], .agg #[.int .i64 p1.1, .int .i64 p1.2.1, .int .i64 p1.2.2.1, .int .i64 p1.2.2.2]] w0 fun e w' => e = .returned (.int .i64 r) ∧ Below w0.heap.size w0 w' := by
 refine enter Try.func26 Aa Try.ntmps26 Aa fun a F => ?_
 have W := Stw.start Y w0
 unfold B8 at H
 refine Ah (Ac ?_)
 refine EQ (cs := [.int .i64 p0.1, .int .i64 p0.2.1, .int .i64 p0.2.2.1, .int .i64 p0.2.2.2]) F W Aa Aa Aa fun b1 a w F W => ?_
 refine EQ (cs := [.int .i64 p1.1, .int .i64 p1.2.1, .int .i64 p1.2.2.1, .int .i64 p1.2.2.2]) F W Aa Aa Aa fun b2 a w F W => ?_
 refine ls F W Aa (Af F Aa).q fun a w F W => ?_
 refine Ae (Ab (Ah ?_))
 refine JC 15 W MO (by kernel_rfl) ?_
 refine qs F Aa (Am HD Aa Aa Aa T3 F Aa 3 Aa).q fun a F => ?_
 refine qs F Aa (AB (v := Value.int .i64 p0.2.2.2) 1 F Aa Aa T3 Aa).q fun a F => ?_
 refine qs F Aa (Am HD Aa Aa Aa T3 F Aa 3 Aa).q fun a F => ?_
 refine qs F Aa (AB (v := Value.int .i64 p1.2.2.2) 0 F Aa Aa T3 Aa).q fun a F => ?_
 refine qs F Aa (BR (v := Value.int .i64 (AY p0.2.2.2 p1.2.2.2)) F Uj Aa (fun w W => Gs any w p0.2.2.2 p1.2.2.2 _ Aa)) fun a F => ?_
 refine qs F Aa (Am HD Aa Aa Aa T3 F Aa 0 Aa).q fun a F => ?_
 refine qs F Aa (AB (v := Value.int .i64 p0.1) 1 F Aa Aa T3 Aa).q fun a F => ?_
 refine qs F Aa (Am HD Aa Aa Aa T3 F Aa 0 Aa).q fun a F => ?_
 refine qs F Aa (AB (v := Value.int .i64 p1.1) 0 F Aa Aa T3 Aa).q fun a F => ?_
 refine qs F Aa (BR (v := Value.int .i64 (AY p0.1 p1.1)) F Uj Aa (fun w W => Gs any w p0.1 p1.1 _ Aa)) fun a F => ?_
 refine qs F Aa (Am HD Aa Aa Aa T3 F Aa 1 Aa).q fun a F => ?_
 refine qs F Aa (AB (v := Value.int .i64 p0.2.1) 1 F Aa Aa T3 Aa).q fun a F => ?_
 refine qs F Aa (Am HD Aa Aa Aa T3 F Aa 1 Aa).q fun a F => ?_
 refine qs F Aa (AB (v := Value.int .i64 p1.2.1) 0 F Aa Aa T3 Aa).q fun a F => ?_
 refine qs F Aa (BR (v := Value.int .i64 (AY p0.2.1 p1.2.1)) F Uj Aa (fun w W => Gs any w p0.2.1 p1.2.1 _ Aa)) fun a F => ?_
 refine A0 fun w W => ?_
 refine E9 (z := Value.int .i64 0) (cs := [.int .i64 (AY p0.2.2.2 p1.2.2.2), .int .i64 (AY p0.1 p1.1), .int .i64 (AY p0.2.1 p1.2.1)]) (Rp.int .i64) ([(AY p0.2.2.2 p1.2.2.2), (AY p0.1 p1.1), (AY p0.2.1 p1.2.1)] : List Int) F W Aa EH Z3 Aa Aa Aa Aa Aa Aa (Fl.int.repL _ _ ([(AY p0.2.2.2 p1.2.2.2), (AY p0.1 p1.1), (AY p0.2.1 p1.2.1)] : List Int)) fun v1 a w F W => ?_
 obtain ⟨x1, h1, H⟩ := Ak H
 refine ls F W Aa (BR (v := Value.int .i64 x1) F Wb Aa (fun w W => Nu any w (v1) ([(AY p0.2.2.2 p1.2.2.2), (AY p0.1 p1.1), (AY p0.2.1 p1.2.1)] : List Int) _ h1 (((Aj 0 Aa) : EM _ _ _ _ _ _) w W).nx)) fun a w F W => ?_
 refine ls F W Aa (Af F Aa).q fun a w F W => ?_
 refine Ae (Ab (AF ?_))
 have H := AQ H
 subst H
 refine Bj (.inl Aa) F W Aa (AD F Aa) ?_
 exact ⟨rfl, W.done⟩
theorem Px : Has Try.prog 26 := ⟨fun args w => Al Try.func26 rfl (by decide) args w⟩
noncomputable def AS (p1 : Int) : ((List (Int × Int × Int × Int)) × Int) → Option (((List (Int × Int × Int × Int)) × Int) ⊕ (List (Int × Int × Int × Int)))
  | (x4, x5) => (if p1 < x5 then (ix x4 x5).bind fun x7 => (ix x4 (Az (x5 - 1))).bind fun x8 => (B8 x7 x8).bind fun x9 => some (decide (x9 < 0)) else some false).bind fun x6 => (if x6 = true then (ix x4 (Az (x5 - 1))).bind fun x10 => (ix x4 x5).bind fun x11 => (ix x4 x5).bind fun x12 => (ix (AE x4 x5 x10) (Az (x5 - 1))).bind fun x13 => some (.inl ((AE (AE x4 x5 x10) (Az (x5 - 1)) x11), Az (x5 - 1))) else some (.inr x4))
noncomputable def Bb (p1 : Int) (p2 : Int) : ((List (Int × Int × Int × Int)) × Int) → Option (((List (Int × Int × Int × Int)) × Int) ⊕ (List (Int × Int × Int × Int)))
  | (x1, x2) => (if x2 < p2 then (AH (AS p1) (x1, x2)).bind fun x3 => some (.inl (x3, Az (x2 + 1))) else some (.inr x1))
noncomputable def Bv (p0 : List (Int × Int × Int × Int)) (p1 : Int) (p2 : Int) : Option (List (Int × Int × Int × Int)) := AH (Bb p1 p2) (p0, Az (p1 + 1))
theorem Fk (Y : Nat → Prop) (X : List Nat) (w0 : World) (v1 : Value) (p0 : List (Int × Int × Int × Int)) (p1 : Int) (p2 : Int) (r : (List (Int × Int × Int × Int))) (H : Bv p0 p1 p2 = some r) (hL : Stw ⟨Y, X, w0⟩ [] [row v1 70 A4 p0] w0) :
    Calls Try.prog 56 #[v1, .int .i64 p1, .int .i64 p2, .func (.func 26) #[] #[]] w0 fun e w' => ∃ x : Unit, e = .returned (.tuple #[]) ∧ Stw ⟨Y, X, w0⟩ [] [row v1 70 A4 r] w' := by
 refine enter Try.func56 Aa Try.ntmps56 Aa fun a F => ?_
 have W := hL
 unfold Bv at H
 refine Ah (Ac ?_)
 refine ls F W Aa (Ad F Aa).q fun a w F W => ?_
 refine ls F W Aa (Bp F Aa Aa Aa).q fun a w F W => ?_
 refine ls F W Aa (Af F Aa).q fun a w F W => ?_
 refine Ae (Ab (As ?_))
 refine Bh H (fun s a w => Fr 53 [] [(0, v1), (1, .int .i64 p1), (2, .int .i64 p2), (3, .func (.func 26) #[] #[]), (8, .int .i64 s.2)] a ∧ Stw ⟨Y, X, w0⟩ [] [row v1 70 A4 s.1] w) ⟨F.re ⟨rfl, Aa, Aa, Aa, Aa, trivial⟩, W⟩ fun s o a w H L1 hR => ?_
 obtain ⟨x1, x2⟩ := s
 obtain ⟨F, W⟩ := hR
 have F : Fr 53 [] [(0, v1), (1, .int .i64 p1), (2, .int .i64 p2), (3, .func (.func 26) #[] #[]), (8, .int .i64 x2)] a := F
 have W : Stw ⟨Y, X, w0⟩ [] [row v1 70 A4 x1] w := W
 rw [Bb] at H
 refine Ah (Ah (Ac ?_))
 iterate 2 refine ls F W Aa (Ad F Aa).q fun a w F W => ?_
 refine ls F W Aa (BI F Aa Aa).q fun a w F W => ?_
 refine Ae (Ab ?_)
 refine Ay F Aa (fun hb => ?_) fun hb => ?_
 ·
  have H := AP (Bm hb) H
  rw [hb] at F
  clear hb
  refine Aq (Ab ?_)
  obtain ⟨o2, G2, K2⟩ := Ak H
  refine AK (fun a w => ∃ x3 : List (Int × Int × Int × Int), some (x3) = some o2 ∧ Fr 53 [] [(0, v1), (1, .int .i64 p1), (2, .int .i64 p2), (3, .func (.func 26) #[] #[]), (8, .int .i64 x2)] a ∧ Stw ⟨Y, X, w0⟩ [] [row v1 70 A4 x3] w) ?_ ?_
  ·
   have H := G2
   clear G2 K2
   refine As (Ah (Ac ?_))
   refine ls F W Aa (Ad F Aa).q fun a w F W => ?_
   refine ls F W Aa (Af F Aa).q fun a w F W => ?_
   refine Ae (Ab (As ?_))
   refine Bh H (fun s a w => Fr 53 [] [(0, v1), (1, .int .i64 p1), (2, .int .i64 p2), (3, .func (.func 26) #[] #[]), (8, .int .i64 x2), (9, .int .i64 s.2)] a ∧ Stw ⟨Y, X, w0⟩ [] [row v1 70 A4 s.1] w) ⟨F.re ⟨rfl, Aa, Aa, Aa, Aa, Aa, trivial⟩, W⟩ fun s o a w H L3 hR => ?_
   obtain ⟨x4, x5⟩ := s
   obtain ⟨F, W⟩ := hR
   have F : Fr 53 [] [(0, v1), (1, .int .i64 p1), (2, .int .i64 p2), (3, .func (.func 26) #[] #[]), (8, .int .i64 x2), (9, .int .i64 x5)] a := F
   have W : Stw ⟨Y, X, w0⟩ [] [row v1 70 A4 x4] w := W
   rw [AS] at H
   refine Ah ?_
   obtain ⟨o4, G4, K4⟩ := Ak H
   refine AK (fun a w => ∃ x6 : Bool, some (x6) = some o4 ∧ Fr 53 [] [(0, v1), (1, .int .i64 p1), (2, .int .i64 p2), (3, .func (.func 26) #[] #[]), (8, .int .i64 x2), (9, .int .i64 x5), (34, .bool x6)] a ∧ Stw ⟨Y, X, w0⟩ [] [row v1 70 A4 x4] w) ?_ ?_
   ·
    have H := G4
    clear G4 K4
    refine BS W MO (by kernel_rfl) ?_
    iterate 2 refine qs F Aa (Ad F Aa).q fun a F => ?_
    refine qs F Aa (FZ F Aa Aa).q fun a F => ?_
    refine qs F Aa (Ad F Aa).q fun a F => ?_
    rcases Bool.eq_false_or_eq_true (decide (p1 < x5)) with hb | hb
    ·
     have H := AP (Bm hb) H
     rw [hb] at F
     clear hb
     iterate 3 refine BM F (Ag F Aa Aa Aa Aa) Aa (An Aa) (Ad F Aa).q fun a F => ?_
     obtain ⟨x7, h1, H⟩ := Ak H
     refine BM F (Ag F Aa Aa Aa Aa) Aa (An Aa) (AC (r := A4) En F Aa Aa (Aj 0 Aa) h1).q fun a F => ?_
     refine BM F (Ag F Aa Aa Aa Aa) Aa (An Aa) (Ao (y := Value.agg #[.int .i64 x7.1, .int .i64 x7.2.1, .int .i64 x7.2.2.1, .int .i64 x7.2.2.2]) (j := 0) (i := x5) F Aa Aa (Aj 0 Aa) h1 Ep.to Ee Aa).q fun a F => ?_
     iterate 2 refine BM F (Ag F Aa Aa Aa Aa) Aa (An Aa) (Ad F Aa).q fun a F => ?_
     refine BM F (Ag F Aa Aa Aa Aa) Aa (An Aa) (B9 F Aa Aa Aa).q fun a F => ?_
     obtain ⟨x8, h2, H⟩ := Ak H
     refine BM F (Ag F Aa Aa Aa Aa) Aa (An Aa) (AC (r := A4) En F Aa Aa (Aj 0 Aa) h2).q fun a F => ?_
     refine BM F (Ag F Aa Aa Aa Aa) Aa (An Aa) (Ao (y := Value.agg #[.int .i64 x8.1, .int .i64 x8.2.1, .int .i64 x8.2.2.1, .int .i64 x8.2.2.2]) (j := 0) (i := Az (x5 - 1)) F Aa Aa (Aj 0 Aa) h2 Ep.to Ee Aa).q fun a F => ?_
     obtain ⟨x9, h3, H⟩ := Ak H
     refine BM F (Ag F Aa Aa Aa Aa) Aa (An Aa) (EO (ws := [.agg #[.int .i64 x7.1, .int .i64 x7.2.1, .int .i64 x7.2.2.1, .int .i64 x7.2.2.2], .agg #[.int .i64 x8.1, .int .i64 x8.2.1, .int .i64 x8.2.2.1, .int .i64 x8.2.2.2]]) (v := Value.int .i64 x9) F Px Aa (fun w W => Cn any w x7 x8 _ h3)) fun a F => ?_
     refine BM F (Ag F Aa Aa Aa Aa) Aa (An Aa) (BI F Aa Aa).q fun a F => ?_
     refine qs F Aa (Av F Aa Aa Aa).q fun a F => ?_
     refine A0 fun w W => ?_
     refine Ab ?_
     exact ⟨_, H, F.re ⟨rfl, Aa, Aa, Aa, Aa, Aa, Aa, trivial⟩, W⟩
    have H := AO (Bn hb) H
    rw [hb] at F
    clear hb
    iterate 12 refine D7 F (CJ F Aa Aa Aa Aa Aa) Aa Aa fun a F => ?_
    refine qs F Aa (Ax F Aa Aa Aa).q fun a F => ?_
    refine A0 fun w W => ?_
    refine Ab ?_
    exact ⟨_, H, F.re ⟨rfl, Aa, Aa, Aa, Aa, Aa, Aa, trivial⟩, W⟩
   rintro a w ⟨x6, hj, F, W⟩
   have hj := AQ hj
   subst hj
   have H := K4
   clear G4 K4
   refine Ay F Aa (fun hb => ?_) fun hb => ?_
   ·
    have H := AP hb H
    rw [hb] at F
    clear hb
    refine Aq (Ab (Ah (As ?_)))
    refine El [(true, 0), (true, 1), (true, 2), (true, 3), (true, 4), (true, 5), (true, 6), (true, 7), (true, 8), (true, 9), (true, 10), (true, 11), (true, 12), (true, 13), (true, 14), (false, 15), (true, 16), (false, 17)] (CN ⟨Y, X, w0⟩ [] [(some 15, row v1 70 A4 x4)]) (fun ch a d v w h => by cases d <;> exact h) MO (by kernel_rfl) W (fun w W => ⟨_, _, W, Aw, (all_cons (fun _ => (.head _)) Aw)⟩) fun w W => ?_
    iterate 4 refine Bd (R := []) F Aa Aa (yC fun M Z hN hZ => Ad F Aa) Aa Aa fun a F => ?_
    refine Bd (R := []) F Aa Aa (yC fun M Z hN hZ => B9 F Aa Aa Aa) Aa Aa fun a F => ?_
    iterate 2 refine Bd (R := []) F Aa Aa (yC fun M Z hN hZ => Ad F Aa) Aa Aa fun a F => ?_
    refine Bd (R := []) F Aa Aa (yC fun M Z hN hZ => B9 F Aa Aa Aa) Aa Aa fun a F => ?_
    obtain ⟨x10, h4, H⟩ := Ak H
    refine Bd (R := []) F Aa Aa (yC fun M Z hN hZ => Bi (r := A4) En F Aa Aa (CC W (Aj 0 Aa)) h4) Aa Aa fun a F => ?_
    refine Bd (R := [15]) F Aa Aa (yC fun M Z hN hZ => Ao (y := Value.agg #[.int .i64 x10.1, .int .i64 x10.2.1, .int .i64 x10.2.2.1, .int .i64 x10.2.2.2]) (j := 0) (i := Az (x5 - 1)) F Aa Aa (Ck (hZ ((some 15), row v1 70 A4 x4) (.head _) Aa)) h4 Ep.to Ee Aa) (by kernel_rfl) Aa fun a F => ?_
    iterate 2 refine Bd (R := []) F Aa Aa (yC fun M Z hN hZ => Ad F Aa) Aa Aa fun a F => ?_
    obtain ⟨x11, h5, H⟩ := Ak H
    refine Bd (R := []) F Aa Aa (yC fun M Z hN hZ => Bi (r := A4) En F Aa Aa (CC W (Aj 0 Aa)) h5) Aa Aa fun a F => ?_
    refine Bd (R := [15]) F Aa Aa (yC fun M Z hN hZ => Ao (y := Value.agg #[.int .i64 x11.1, .int .i64 x11.2.1, .int .i64 x11.2.2.1, .int .i64 x11.2.2.2]) (j := 0) (i := x5) F Aa Aa (Ck (hZ ((some 15), row v1 70 A4 x4) (.head _) Aa)) h5 Ep.to Ee Aa) (by kernel_rfl) Aa fun a F => ?_
    obtain ⟨x12, h6, H⟩ := Ak H
    refine Bd (R := []) F Aa Aa (yC fun M Z hN hZ => Bi (r := A4) En F Aa Aa (CC W (Aj 0 Aa)) h6) Aa Aa fun a F => ?_
    refine Fh Aa ?_
    refine A8 (i := x5) (j := 0) (vs := [.int .i64 x10.1, .int .i64 x10.2.1, .int .i64 x10.2.2.1, .int .i64 x10.2.2.2]) (x' := x10) F W Aa Aa Aa (k := 0) Aa Aa h6 Ee Aa Aa Aa Aa (fun A cs _ => Ep.sto (by rfl) _ _ _) fun w W => ?_
    refine Cr (N2 := []) (NZ2 := []) (N3 := []) (NZ3 := [(some 15, row v1 70 A4 x4)]) W Aa Aa Aw (all_cons (fun h => Be (by kernel_rfl) h) Aw) ?_
    obtain ⟨x13, h7, H⟩ := Ak H
    refine Bd (R := []) F Aa Aa (yC fun M Z hN hZ => Bi (r := A4) En F Aa Aa (CC W (Aj 0 Aa)) h7) Aa Aa fun a F => ?_
    refine Fh Aa ?_
    refine A8 (i := Az (x5 - 1)) (j := 0) (vs := [.int .i64 x11.1, .int .i64 x11.2.1, .int .i64 x11.2.2.1, .int .i64 x11.2.2.2]) (x' := x11) F W Aa Aa Aa (k := 0) Aa Aa h7 Ee Aa Aa Aa Aa (fun A cs _ => Ep.sto (by rfl) _ _ _) fun w W => ?_
    refine Cr (N2 := []) (NZ2 := []) (N3 := []) (NZ3 := [(some 15, row v1 70 A4 x4)]) W Aa Aa Aw (all_cons (fun h => Be (by kernel_rfl) h) Aw) ?_
    refine FC (AM (Ab (Ac ?_)))
    refine ls F W Aa (Ad F Aa).q fun a w F W => ?_
    refine ls F W Aa (B9 F Aa Aa Aa).q fun a w F W => ?_
    refine ls F W Aa (Af F Aa).q fun a w F W => ?_
    refine Ae (Ab ?_)
    exact ⟨_, H, F.re ⟨rfl, Aa, Aa, Aa, Aa, Aa, trivial⟩, W⟩
   have H := AO (by rw [hb]; decide) H
   rw [hb] at F
   clear hb
   refine A5 ?_
   iterate 2 refine Bk ?_
   refine A6 (AM (Ab ?_))
   have H := L3 _ H
   exact ⟨_, H, F.re ⟨rfl, Aa, Aa, Aa, Aa, trivial⟩, W⟩
  rintro a w ⟨x3, hj, F, W⟩
  have hj := AQ hj
  subst hj
  have H := K2
  clear G2 K2
  refine Ac ?_
  refine ls F W Aa (Ad F Aa).q fun a w F W => ?_
  refine ls F W Aa (Bp F Aa Aa Aa).q fun a w F W => ?_
  refine ls F W Aa (Af F Aa).q fun a w F W => ?_
  refine Ae (Ab ?_)
  exact ⟨_, H, F.re ⟨rfl, Aa, Aa, Aa, Aa, trivial⟩, W⟩
 have H := AO (Bn hb) H
 rw [hb] at F
 clear hb
 refine A5 ?_
 iterate 2 refine Bk ?_
 refine A6 ?_
 have H := L1 _ H
 have H := AQ H
 subst H
 refine He (.inr Aa) F Aa ?_
 exact ⟨(), Aa, W⟩
theorem VJ : Has Try.prog 56 := ⟨fun args w => Al Try.func56 rfl (by decide) args w⟩
noncomputable def AW (p2 : Int) (p3 : Int) : ((List (Int × Int × Int × Int)) × Int) → Option (((List (Int × Int × Int × Int)) × Int) ⊕ (List (Int × Int × Int × Int)))
  | (x1, x2) => (if p2 ≤ (Az ((Az (2 * x2)) + 1)) then some (.inr x1) else ((if (Az ((Az ((Az (2 * x2)) + 1)) + 1)) < p2 then (ix x1 (Az (p3 + (Az ((Az (2 * x2)) + 1))))).bind fun x5 => (ix x1 (Az ((Az (p3 + (Az ((Az (2 * x2)) + 1)))) + 1))).bind fun x6 => (B8 x5 x6).bind fun x7 => some (decide (x7 < 0)) else some false).bind fun x4 => (if x4 = true then some (Az ((Az ((Az (2 * x2)) + 1)) + 1)) else some (Az ((Az (2 * x2)) + 1)))).bind fun x3 => (ix x1 (Az (p3 + x2))).bind fun x8 => (ix x1 (Az (p3 + x3))).bind fun x9 => (B8 x8 x9).bind fun x10 => (if (!(decide (x10 < 0))) = true then some (.inr x1) else (ix x1 (Az (p3 + x3))).bind fun x11 => (ix x1 (Az (p3 + x2))).bind fun x12 => (ix x1 (Az (p3 + x2))).bind fun x13 => (ix (AE x1 (Az (p3 + x2)) x11) (Az (p3 + x3))).bind fun x14 => some (.inl ((AE (AE x1 (Az (p3 + x2)) x11) (Az (p3 + x3)) x12), x3))))
noncomputable def Cf (p0 : List (Int × Int × Int × Int)) (p1 : Int) (p2 : Int) (p3 : Int) : Option (List (Int × Int × Int × Int)) := AH (AW p2 p3) (p0, p1)
theorem Eb (Y : Nat → Prop) (X : List Nat) (w0 : World) (v1 : Value) (p0 : List (Int × Int × Int × Int)) (p1 : Int) (p2 : Int) (p3 : Int) (r : (List (Int × Int × Int × Int))) (H : Cf p0 p1 p2 p3 = some r) (hL : Stw ⟨Y, X, w0⟩ [] [row v1 70 A4 p0] w0) :
    Calls Try.prog 74 #[v1, .int .i64 p1, .int .i64 p2, .int .i64 p3, .func (.func 26) #[] #[]] w0 fun e w' => ∃ x : Unit, e = .returned (.tuple #[]) ∧ Stw ⟨Y, X, w0⟩ [] [row v1 70 A4 r] w' := by
 refine enter Try.func74 Aa Try.ntmps74 Aa fun a F => ?_
 have W := hL
 unfold Cf at H
 refine Ah (Ac ?_)
 refine ls F W Aa (Ad F Aa).q fun a w F W => ?_
 refine ls F W Aa (Af F Aa).q fun a w F W => ?_
 refine Ae (Ab (As ?_))
 refine Bh H (fun s a w => Fr 82 [] [(0, v1), (2, .int .i64 p2), (3, .int .i64 p3), (4, .func (.func 26) #[] #[]), (10, .int .i64 s.2)] a ∧ Stw ⟨Y, X, w0⟩ [] [row v1 70 A4 s.1] w) ⟨F.re ⟨rfl, Aa, Aa, Aa, Aa, trivial⟩, W⟩ fun s o a w H L1 hR => ?_
 obtain ⟨x1, x2⟩ := s
 obtain ⟨F, W⟩ := hR
 have F : Fr 82 [] [(0, v1), (2, .int .i64 p2), (3, .int .i64 p3), (4, .func (.func 26) #[] #[]), (10, .int .i64 x2)] a := F
 have W : Stw ⟨Y, X, w0⟩ [] [row v1 70 A4 x1] w := W
 rw [AW] at H
 refine As (Ah (Ac ?_))
 refine ls F W Aa (Ad F Aa).q fun a w F W => ?_
 refine ls F W Aa (Jr F Aa Aa Aa).q fun a w F W => ?_
 refine ls F W Aa (Bp F Aa Aa Aa).q fun a w F W => ?_
 refine ls F W Aa (Af F Aa).q fun a w F W => ?_
 refine Ae (Ab (Ah (Ah (Ac ?_))))
 iterate 2 refine ls F W Aa (Ad F Aa).q fun a w F W => ?_
 refine ls F W Aa (Ds F Aa Aa).q fun a w F W => ?_
 refine Ae (Ab ?_)
 refine Ay F Aa (fun hb => ?_) fun hb => ?_
 ·
  have H := AP (Bm hb) H
  rw [hb] at F
  clear hb
  refine A5 (Bk ?_)
  refine Ib Aa ?_
  refine Bk (A6 ?_)
  have H := L1 _ H
  have H := AQ H
  subst H
  refine He (.inr Aa) F Aa ?_
  exact ⟨(), Aa, W⟩
 have H := AO (Bn hb) H
 rw [hb] at F
 clear hb
 refine Aq (Ab ?_)
 obtain ⟨o2, G2, K2⟩ := Ak H
 refine AK (fun a w => ∃ x3 : Int, some (x3) = some o2 ∧ Fr 82 [] [(0, v1), (2, .int .i64 p2), (3, .int .i64 p3), (4, .func (.func 26) #[] #[]), (10, .int .i64 x2), (11, .int .i64 x3)] a ∧ Stw ⟨Y, X, w0⟩ [] [row v1 70 A4 x1] w) ?_ ?_
 ·
  have H := G2
  clear G2 K2
  obtain ⟨o3, G3, K3⟩ := Ak H
  refine AK (fun a w => ∃ x4 : Bool, some (x4) = some o3 ∧ Fr 82 [] [(0, v1), (2, .int .i64 p2), (3, .int .i64 p3), (4, .func (.func 26) #[] #[]), (10, .int .i64 x2), (11, .int .i64 (Az ((Az (2 * x2)) + 1))), (40, .bool x4)] a ∧ Stw ⟨Y, X, w0⟩ [] [row v1 70 A4 x1] w) ?_ ?_
  ·
   have H := G3
   clear G3 K3
   refine BS W MO (by kernel_rfl) ?_
   refine qs F Aa (Ad F Aa).q fun a F => ?_
   refine qs F Aa (Bp F Aa Aa Aa).q fun a F => ?_
   refine qs F Aa (Ad F Aa).q fun a F => ?_
   refine qs F Aa (BI F Aa Aa).q fun a F => ?_
   refine qs F Aa (Ad F Aa).q fun a F => ?_
   rcases Bool.eq_false_or_eq_true (decide ((Az ((Az ((Az (2 * x2)) + 1)) + 1)) < p2)) with hb | hb
   ·
    have H := AP (Bm hb) H
    rw [hb] at F
    clear hb
    iterate 4 refine BM F (Ag F Aa Aa Aa Aa) Aa (An Aa) (Ad F Aa).q fun a F => ?_
    refine BM F (Ag F Aa Aa Aa Aa) Aa (An Aa) (Bp F Aa Aa Aa).q fun a F => ?_
    obtain ⟨x5, h1, H⟩ := Ak H
    refine BM F (Ag F Aa Aa Aa Aa) Aa (An Aa) (AC (r := A4) En F Aa Aa (Aj 0 Aa) h1).q fun a F => ?_
    refine BM F (Ag F Aa Aa Aa Aa) Aa (An Aa) (Ao (y := Value.agg #[.int .i64 x5.1, .int .i64 x5.2.1, .int .i64 x5.2.2.1, .int .i64 x5.2.2.2]) (j := 0) (i := Az (p3 + (Az ((Az (2 * x2)) + 1)))) F Aa Aa (Aj 0 Aa) h1 Ep.to Ee Aa).q fun a F => ?_
    iterate 3 refine BM F (Ag F Aa Aa Aa Aa) Aa (An Aa) (Ad F Aa).q fun a F => ?_
    iterate 2 refine BM F (Ag F Aa Aa Aa Aa) Aa (An Aa) (Bp F Aa Aa Aa).q fun a F => ?_
    obtain ⟨x6, h2, H⟩ := Ak H
    refine BM F (Ag F Aa Aa Aa Aa) Aa (An Aa) (AC (r := A4) En F Aa Aa (Aj 0 Aa) h2).q fun a F => ?_
    refine BM F (Ag F Aa Aa Aa Aa) Aa (An Aa) (Ao (y := Value.agg #[.int .i64 x6.1, .int .i64 x6.2.1, .int .i64 x6.2.2.1, .int .i64 x6.2.2.2]) (j := 0) (i := Az ((Az (p3 + (Az ((Az (2 * x2)) + 1)))) + 1)) F Aa Aa (Aj 0 Aa) h2 Ep.to Ee Aa).q fun a F => ?_
    obtain ⟨x7, h3, H⟩ := Ak H
    refine BM F (Ag F Aa Aa Aa Aa) Aa (An Aa) (EO (ws := [.agg #[.int .i64 x5.1, .int .i64 x5.2.1, .int .i64 x5.2.2.1, .int .i64 x5.2.2.2], .agg #[.int .i64 x6.1, .int .i64 x6.2.1, .int .i64 x6.2.2.1, .int .i64 x6.2.2.2]]) (v := Value.int .i64 x7) F Px Aa (fun w W => Cn any w x5 x6 _ h3)) fun a F => ?_
    refine BM F (Ag F Aa Aa Aa Aa) Aa (An Aa) (BI F Aa Aa).q fun a F => ?_
    refine qs F Aa (Av F Aa Aa Aa).q fun a F => ?_
    refine A0 fun w W => ?_
    refine Ab ?_
    exact ⟨_, H, F.re ⟨rfl, Aa, Aa, Aa, Aa, Aa, Aa, trivial⟩, W⟩
   have H := AO (Bn hb) H
   rw [hb] at F
   clear hb
   iterate 16 refine D7 F (CJ F Aa Aa Aa Aa Aa) Aa Aa fun a F => ?_
   refine qs F Aa (Ax F Aa Aa Aa).q fun a F => ?_
   refine A0 fun w W => ?_
   refine Ab ?_
   exact ⟨_, H, F.re ⟨rfl, Aa, Aa, Aa, Aa, Aa, Aa, trivial⟩, W⟩
  rintro a w ⟨x4, hj, F, W⟩
  have hj := AQ hj
  subst hj
  have H := K3
  clear G3 K3
  refine Ay F Aa (fun hb => ?_) fun hb => ?_
  ·
   have H := AP hb H
   rw [hb] at F
   clear hb
   refine Ac ?_
   refine ls F W Aa (Ad F Aa).q fun a w F W => ?_
   refine ls F W Aa (Bp F Aa Aa Aa).q fun a w F W => ?_
   refine ls F W Aa (Af F Aa).q fun a w F W => ?_
   refine Ae (Ab ?_)
   exact ⟨_, H, F.re ⟨rfl, Aa, Aa, Aa, Aa, Aa, trivial⟩, W⟩
  have H := AO (by rw [hb]; decide) H
  rw [hb] at F
  clear hb
  refine Aq (Ab ?_)
  exact ⟨_, H, F.re ⟨rfl, Aa, Aa, Aa, Aa, Aa, trivial⟩, W⟩
 rintro a w ⟨x3, hj, F, W⟩
 have hj := AQ hj
 subst hj
 have H := K2
 clear G2 K2
 iterate 2 refine Ah ?_
 refine BS W MO (by kernel_rfl) ?_
 iterate 4 refine qs F Aa (Ad F Aa).q fun a F => ?_
 refine qs F Aa (Bp F Aa Aa Aa).q fun a F => ?_
 obtain ⟨x8, h4, H⟩ := Ak H
 refine qs F Aa (AC (r := A4) En F Aa Aa (Aj 0 Aa) h4).q fun a F => ?_
 refine qs F Aa (Ao (y := Value.agg #[.int .i64 x8.1, .int .i64 x8.2.1, .int .i64 x8.2.2.1, .int .i64 x8.2.2.2]) (j := 0) (i := Az (p3 + x2)) F Aa Aa (Aj 0 Aa) h4 Ep.to Ee Aa).q fun a F => ?_
 iterate 3 refine qs F Aa (Ad F Aa).q fun a F => ?_
 refine qs F Aa (Bp F Aa Aa Aa).q fun a F => ?_
 obtain ⟨x9, h5, H⟩ := Ak H
 refine qs F Aa (AC (r := A4) En F Aa Aa (Aj 0 Aa) h5).q fun a F => ?_
 refine qs F Aa (Ao (y := Value.agg #[.int .i64 x9.1, .int .i64 x9.2.1, .int .i64 x9.2.2.1, .int .i64 x9.2.2.2]) (j := 0) (i := Az (p3 + x3)) F Aa Aa (Aj 0 Aa) h5 Ep.to Ee Aa).q fun a F => ?_
 obtain ⟨x10, h6, H⟩ := Ak H
 refine qs F Aa (EO (ws := [.agg #[.int .i64 x8.1, .int .i64 x8.2.1, .int .i64 x8.2.2.1, .int .i64 x8.2.2.2], .agg #[.int .i64 x9.1, .int .i64 x9.2.1, .int .i64 x9.2.2.1, .int .i64 x9.2.2.2]]) (v := Value.int .i64 x10) F Px Aa (fun w W => Cn any w x8 x9 _ h6)) fun a F => ?_
 refine qs F Aa (BI F Aa Aa).q fun a F => ?_
 refine qs F Aa (ED F Aa).q fun a F => ?_
 refine A0 fun w W => ?_
 refine Ab ?_
 refine Ay F Aa (fun hb => ?_) fun hb => ?_
 ·
  have H := AP hb H
  rw [hb] at F
  clear hb
  refine AF (AN (A3 (AN (A3 ?_))))
  have H := L1 _ H
  have H := AQ H
  subst H
  refine He (.inl Aa) F Aa ?_
  exact ⟨(), Aa, W⟩
 have H := AO (by rw [hb]; decide) H
 rw [hb] at F
 clear hb
 refine Aq (Ab (Ah ?_))
 refine El [(true, 0), (true, 1), (true, 2), (true, 3), (true, 4), (true, 5), (true, 6), (true, 7), (true, 8), (true, 9), (true, 10), (true, 11), (true, 12), (true, 13), (true, 14), (true, 15), (true, 16), (true, 17), (true, 18), (true, 19), (true, 20), (false, 21), (true, 22), (false, 23)] (CN ⟨Y, X, w0⟩ [] [(some 21, row v1 70 A4 x1)]) (fun ch a d v w h => by cases d <;> exact h) MO (by kernel_rfl) W (fun w W => ⟨_, _, W, Aw, (all_cons (fun _ => (.head _)) Aw)⟩) fun w W => ?_
 iterate 3 refine Bd (R := []) F Aa Aa (yC fun M Z hN hZ => Ad F Aa) Aa Aa fun a F => ?_
 refine Bd (R := []) F Aa Aa (yC fun M Z hN hZ => Bp F Aa Aa Aa) Aa Aa fun a F => ?_
 iterate 3 refine Bd (R := []) F Aa Aa (yC fun M Z hN hZ => Ad F Aa) Aa Aa fun a F => ?_
 refine Bd (R := []) F Aa Aa (yC fun M Z hN hZ => Bp F Aa Aa Aa) Aa Aa fun a F => ?_
 iterate 3 refine Bd (R := []) F Aa Aa (yC fun M Z hN hZ => Ad F Aa) Aa Aa fun a F => ?_
 refine Bd (R := []) F Aa Aa (yC fun M Z hN hZ => Bp F Aa Aa Aa) Aa Aa fun a F => ?_
 obtain ⟨x11, h7, H⟩ := Ak H
 refine Bd (R := []) F Aa Aa (yC fun M Z hN hZ => Bi (r := A4) En F Aa Aa (CC W (Aj 0 Aa)) h7) Aa Aa fun a F => ?_
 refine Bd (R := [21]) F Aa Aa (yC fun M Z hN hZ => Ao (y := Value.agg #[.int .i64 x11.1, .int .i64 x11.2.1, .int .i64 x11.2.2.1, .int .i64 x11.2.2.2]) (j := 0) (i := Az (p3 + x3)) F Aa Aa (Ck (hZ ((some 21), row v1 70 A4 x1) (.head _) Aa)) h7 Ep.to Ee Aa) (by kernel_rfl) Aa fun a F => ?_
 iterate 3 refine Bd (R := []) F Aa Aa (yC fun M Z hN hZ => Ad F Aa) Aa Aa fun a F => ?_
 refine Bd (R := []) F Aa Aa (yC fun M Z hN hZ => Bp F Aa Aa Aa) Aa Aa fun a F => ?_
 obtain ⟨x12, h8, H⟩ := Ak H
 refine Bd (R := []) F Aa Aa (yC fun M Z hN hZ => Bi (r := A4) En F Aa Aa (CC W (Aj 0 Aa)) h8) Aa Aa fun a F => ?_
 refine Bd (R := [21]) F Aa Aa (yC fun M Z hN hZ => Ao (y := Value.agg #[.int .i64 x12.1, .int .i64 x12.2.1, .int .i64 x12.2.2.1, .int .i64 x12.2.2.2]) (j := 0) (i := Az (p3 + x2)) F Aa Aa (Ck (hZ ((some 21), row v1 70 A4 x1) (.head _) Aa)) h8 Ep.to Ee Aa) (by kernel_rfl) Aa fun a F => ?_
 obtain ⟨x13, h9, H⟩ := Ak H
 refine Bd (R := []) F Aa Aa (yC fun M Z hN hZ => Bi (r := A4) En F Aa Aa (CC W (Aj 0 Aa)) h9) Aa Aa fun a F => ?_
 refine Fh Aa ?_
 refine A8 (i := Az (p3 + x2)) (j := 0) (vs := [.int .i64 x11.1, .int .i64 x11.2.1, .int .i64 x11.2.2.1, .int .i64 x11.2.2.2]) (x' := x11) F W Aa Aa Aa (k := 0) Aa Aa h9 Ee Aa Aa Aa Aa (fun A cs _ => Ep.sto (by rfl) _ _ _) fun w W => ?_
 refine Cr (N2 := []) (NZ2 := []) (N3 := []) (NZ3 := [(some 21, row v1 70 A4 x1)]) W Aa Aa Aw (all_cons (fun h => Be (by kernel_rfl) h) Aw) ?_
 obtain ⟨x14, h10, H⟩ := Ak H
 refine Bd (R := []) F Aa Aa (yC fun M Z hN hZ => Bi (r := A4) En F Aa Aa (CC W (Aj 0 Aa)) h10) Aa Aa fun a F => ?_
 refine Fh Aa ?_
 refine A8 (i := Az (p3 + x3)) (j := 0) (vs := [.int .i64 x12.1, .int .i64 x12.2.1, .int .i64 x12.2.2.1, .int .i64 x12.2.2.2]) (x' := x12) F W Aa Aa Aa (k := 0) Aa Aa h10 Ee Aa Aa Aa Aa (fun A cs _ => Ep.sto (by rfl) _ _ _) fun w W => ?_
 refine Cr (N2 := []) (NZ2 := []) (N3 := []) (NZ3 := [(some 21, row v1 70 A4 x1)]) W Aa Aa Aw (all_cons (fun h => Be (by kernel_rfl) h) Aw) ?_
 refine FC (Ab (Ac ?_))
 refine ls F W Aa (Ad F Aa).q fun a w F W => ?_
 refine ls F W Aa (Af F Aa).q fun a w F W => ?_
 refine Ae (AM (Ab ?_))
 exact ⟨_, H, F.re ⟨rfl, Aa, Aa, Aa, Aa, trivial⟩, W⟩
theorem UQ : Has Try.prog 74 := ⟨fun args w => Al Try.func74 rfl (by decide) args w⟩
noncomputable def BX (p1 : Int) (p2 : Int) : ((List (Int × Int × Int × Int)) × Int) → Option (((List (Int × Int × Int × Int)) × Int) ⊕ (List (Int × Int × Int × Int)))
  | (x2, x3) => (if 0 ≤ x3 then (Cf x2 x3 (Az (p2 - p1)) p1).bind fun x4 => some (.inl (x4, Az (x3 - 1))) else some (.inr x2))
noncomputable def BZ (p1 : Int) : ((List (Int × Int × Int × Int)) × Int) → Option (((List (Int × Int × Int × Int)) × Int) ⊕ (List (Int × Int × Int × Int)))
  | (x5, x6) => (if 0 ≤ x6 then (ix x5 (Az (p1 + x6))).bind fun x7 => (ix x5 p1).bind fun x8 => (ix x5 p1).bind fun x9 => (ix (AE x5 p1 x7) (Az (p1 + x6))).bind fun x10 => (Cf (AE (AE x5 p1 x7) (Az (p1 + x6)) x8) 0 x6 p1).bind fun x11 => some (.inl (x11, Az (x6 - 1))) else some (.inr x5))
noncomputable def Ce (p0 : List (Int × Int × Int × Int)) (p1 : Int) (p2 : Int) : Option (List (Int × Int × Int × Int)) := (AH (BX p1 p2) (p0, Az (Int.tdiv (Az ((Az (p2 - p1)) - 1)) 2))).bind fun x1 => AH (BZ p1) (x1, Az ((Az (p2 - p1)) - 1))
theorem F2 (Y : Nat → Prop) (X : List Nat) (w0 : World) (v1 : Value) (p0 : List (Int × Int × Int × Int)) (p1 : Int) (p2 : Int) (r : (List (Int × Int × Int × Int))) (H : Ce p0 p1 p2 = some r) (hL : Stw ⟨Y, X, w0⟩ [] [row v1 70 A4 p0] w0) :
    Calls Try.prog 57 #[v1, .int .i64 p1, .int .i64 p2, .func (.func 26) #[] #[]] w0 fun e w' => ∃ x : Unit, e = .returned (.tuple #[]) ∧ Stw ⟨Y, X, w0⟩ [] [row v1 70 A4 r] w' := by
 refine enter Try.func57 Aa Try.ntmps57 Aa fun a F => ?_
 have W := hL
 unfold Ce at H
 refine Ah (Ac ?_)
 refine ls F W Aa (Ad F Aa).q fun a w F W => ?_
 refine ls F W Aa (Af F Aa).q fun a w F W => ?_
 refine Ae (Ab (Ah (Ac ?_)))
 refine ls F W Aa (Af F Aa).q fun a w F W => ?_
 refine Ae (Ab (Ah (Ac ?_)))
 iterate 2 refine ls F W Aa (Ad F Aa).q fun a w F W => ?_
 refine ls F W Aa (B9 F Aa Aa Aa).q fun a w F W => ?_
 refine ls F W Aa (Af F Aa).q fun a w F W => ?_
 refine Ae (Ab ?_)
 obtain ⟨o1, G1, K1⟩ := Ak H
 refine AK (fun a w => ∃ x1 : List (Int × Int × Int × Int), some (x1) = some o1 ∧ Fr 60 [] [(0, v1), (3, .func (.func 26) #[] #[]), (8, .int .i64 p1), (9, .int .i64 0), (10, .int .i64 (Az (p2 - p1)))] a ∧ Stw ⟨Y, X, w0⟩ [] [row v1 70 A4 x1] w) ?_ ?_
 ·
  have H := G1
  clear G1 K1
  refine Ah (Ac ?_)
  refine ls F W Aa (Ad F Aa).q fun a w F W => ?_
  refine ls F W Aa (B9 F Aa Aa Aa).q fun a w F W => ?_
  refine ls F W Aa (JS F Aa Aa (by decide) Aa).q fun a w F W => ?_
  refine ls F W Aa (Af F Aa).q fun a w F W => ?_
  refine Ae (Ab (As ?_))
  refine Bh H (fun s a w => Fr 60 [] [(0, v1), (3, .func (.func 26) #[] #[]), (8, .int .i64 p1), (9, .int .i64 0), (10, .int .i64 (Az (p2 - p1))), (11, .int .i64 s.2)] a ∧ Stw ⟨Y, X, w0⟩ [] [row v1 70 A4 s.1] w) ⟨F.re ⟨rfl, Aa, Aa, Aa, Aa, Aa, trivial⟩, W⟩ fun s o a w H L2 hR => ?_
  obtain ⟨x2, x3⟩ := s
  obtain ⟨F, W⟩ := hR
  have F : Fr 60 [] [(0, v1), (3, .func (.func 26) #[] #[]), (8, .int .i64 p1), (9, .int .i64 0), (10, .int .i64 (Az (p2 - p1))), (11, .int .i64 x3)] a := F
  have W : Stw ⟨Y, X, w0⟩ [] [row v1 70 A4 x2] w := W
  rw [BX] at H
  refine Ah (Ah (Ac ?_))
  refine ls F W Aa (Ad F Aa).q fun a w F W => ?_
  refine ls F W Aa (Ds F Aa Aa).q fun a w F W => ?_
  refine Ae (Ab ?_)
  refine Ay F Aa (fun hb => ?_) fun hb => ?_
  ·
   have H := AP (Bm hb) H
   rw [hb] at F
   clear hb
   refine Aq (Ab (Ah (As (Ac ?_))))
   iterate 5 refine ls F W Aa (Ad F Aa).q fun a w F W => ?_
   obtain ⟨x4, h1, H⟩ := Ak H
   refine Bo (Ml := []) (Zl := [row v1 70 A4 x2]) (M := []) (Z := []) (β := Unit) (rv := fun x => .tuple #[]) (MM := fun x => []) (ZZ := fun x => [row v1 70 A4 x4]) F W UQ Aa Aa (fun hL => Eb _ _ w (v1) x2 x3 (Az (p2 - p1)) p1 _ h1 hL) fun x a w F W => ?_
   have W : Stw ⟨Y, X, w0⟩ [] [row v1 70 A4 x4] w := W
   refine Ae (AM (Ab (Ac ?_)))
   refine ls F W Aa (Ad F Aa).q fun a w F W => ?_
   refine ls F W Aa (B9 F Aa Aa Aa).q fun a w F W => ?_
   refine ls F W Aa (Af F Aa).q fun a w F W => ?_
   refine Ae (Ab ?_)
   exact ⟨_, H, F.re ⟨rfl, Aa, Aa, Aa, Aa, Aa, trivial⟩, W⟩
  have H := AO (Bn hb) H
  rw [hb] at F
  clear hb
  refine A5 ?_
  iterate 2 refine Bk ?_
  refine A6 (Ab ?_)
  have H := L2 _ H
  exact ⟨_, H, F.re ⟨rfl, Aa, Aa, Aa, Aa, trivial⟩, W⟩
 rintro a w ⟨x1, hj, F, W⟩
 have hj := AQ hj
 subst hj
 have H := K1
 clear G1 K1
 refine Ah (Ac ?_)
 refine ls F W Aa (Ad F Aa).q fun a w F W => ?_
 refine ls F W Aa (B9 F Aa Aa Aa).q fun a w F W => ?_
 refine ls F W Aa (Af F Aa).q fun a w F W => ?_
 refine Ae (Ab (As ?_))
 refine Bh H (fun s a w => Fr 60 [] [(0, v1), (3, .func (.func 26) #[] #[]), (8, .int .i64 p1), (9, .int .i64 0), (12, .int .i64 s.2)] a ∧ Stw ⟨Y, X, w0⟩ [] [row v1 70 A4 s.1] w) ⟨F.re ⟨rfl, Aa, Aa, Aa, Aa, trivial⟩, W⟩ fun s o a w H L3 hR => ?_
 obtain ⟨x5, x6⟩ := s
 obtain ⟨F, W⟩ := hR
 have F : Fr 60 [] [(0, v1), (3, .func (.func 26) #[] #[]), (8, .int .i64 p1), (9, .int .i64 0), (12, .int .i64 x6)] a := F
 have W : Stw ⟨Y, X, w0⟩ [] [row v1 70 A4 x5] w := W
 rw [BZ] at H
 refine Ah (Ah (Ac ?_))
 refine ls F W Aa (Ad F Aa).q fun a w F W => ?_
 refine ls F W Aa (Ds F Aa Aa).q fun a w F W => ?_
 refine Ae (Ab ?_)
 refine Ay F Aa (fun hb => ?_) fun hb => ?_
 ·
  have H := AP (Bm hb) H
  rw [hb] at F
  clear hb
  refine Aq (Ab (Ah (As (Ah ?_))))
  refine El [(true, 0), (true, 1), (true, 2), (true, 3), (true, 4), (true, 5), (true, 6), (true, 7), (true, 8), (true, 9), (true, 10), (true, 11), (true, 12), (true, 13), (true, 14), (true, 15), (true, 16), (false, 17), (true, 18), (false, 19)] (CN ⟨Y, X, w0⟩ [] [(some 17, row v1 70 A4 x5)]) (fun ch a d v w h => by cases d <;> exact h) MO (by kernel_rfl) W (fun w W => ⟨_, _, W, Aw, (all_cons (fun _ => (.head _)) Aw)⟩) fun w W => ?_
  iterate 5 refine Bd (R := []) F Aa Aa (yC fun M Z hN hZ => Ad F Aa) Aa Aa fun a F => ?_
  refine Bd (R := []) F Aa Aa (yC fun M Z hN hZ => Bp F Aa Aa Aa) Aa Aa fun a F => ?_
  iterate 3 refine Bd (R := []) F Aa Aa (yC fun M Z hN hZ => Ad F Aa) Aa Aa fun a F => ?_
  refine Bd (R := []) F Aa Aa (yC fun M Z hN hZ => Bp F Aa Aa Aa) Aa Aa fun a F => ?_
  obtain ⟨x7, h2, H⟩ := Ak H
  refine Bd (R := []) F Aa Aa (yC fun M Z hN hZ => Bi (r := A4) En F Aa Aa (CC W (Aj 0 Aa)) h2) Aa Aa fun a F => ?_
  refine Bd (R := [17]) F Aa Aa (yC fun M Z hN hZ => Ao (y := Value.agg #[.int .i64 x7.1, .int .i64 x7.2.1, .int .i64 x7.2.2.1, .int .i64 x7.2.2.2]) (j := 0) (i := Az (p1 + x6)) F Aa Aa (Ck (hZ ((some 17), row v1 70 A4 x5) (.head _) Aa)) h2 Ep.to Ee Aa) (by kernel_rfl) Aa fun a F => ?_
  iterate 2 refine Bd (R := []) F Aa Aa (yC fun M Z hN hZ => Ad F Aa) Aa Aa fun a F => ?_
  obtain ⟨x8, h3, H⟩ := Ak H
  refine Bd (R := []) F Aa Aa (yC fun M Z hN hZ => Bi (r := A4) En F Aa Aa (CC W (Aj 0 Aa)) h3) Aa Aa fun a F => ?_
  refine Bd (R := [17]) F Aa Aa (yC fun M Z hN hZ => Ao (y := Value.agg #[.int .i64 x8.1, .int .i64 x8.2.1, .int .i64 x8.2.2.1, .int .i64 x8.2.2.2]) (j := 0) (i := p1) F Aa Aa (Ck (hZ ((some 17), row v1 70 A4 x5) (.head _) Aa)) h3 Ep.to Ee Aa) (by kernel_rfl) Aa fun a F => ?_
  obtain ⟨x9, h4, H⟩ := Ak H
  refine Bd (R := []) F Aa Aa (yC fun M Z hN hZ => Bi (r := A4) En F Aa Aa (CC W (Aj 0 Aa)) h4) Aa Aa fun a F => ?_
  refine Fh Aa ?_
  refine A8 (i := p1) (j := 0) (vs := [.int .i64 x7.1, .int .i64 x7.2.1, .int .i64 x7.2.2.1, .int .i64 x7.2.2.2]) (x' := x7) F W Aa Aa Aa (k := 0) Aa Aa h4 Ee Aa Aa Aa Aa (fun A cs _ => Ep.sto (by rfl) _ _ _) fun w W => ?_
  refine Cr (N2 := []) (NZ2 := []) (N3 := []) (NZ3 := [(some 17, row v1 70 A4 x5)]) W Aa Aa Aw (all_cons (fun h => Be (by kernel_rfl) h) Aw) ?_
  obtain ⟨x10, h5, H⟩ := Ak H
  refine Bd (R := []) F Aa Aa (yC fun M Z hN hZ => Bi (r := A4) En F Aa Aa (CC W (Aj 0 Aa)) h5) Aa Aa fun a F => ?_
  refine Fh Aa ?_
  refine A8 (i := Az (p1 + x6)) (j := 0) (vs := [.int .i64 x8.1, .int .i64 x8.2.1, .int .i64 x8.2.2.1, .int .i64 x8.2.2.2]) (x' := x8) F W Aa Aa Aa (k := 0) Aa Aa h5 Ee Aa Aa Aa Aa (fun A cs _ => Ep.sto (by rfl) _ _ _) fun w W => ?_
  refine Cr (N2 := []) (NZ2 := []) (N3 := []) (NZ3 := [(some 17, row v1 70 A4 x5)]) W Aa Aa Aw (all_cons (fun h => Be (by kernel_rfl) h) Aw) ?_
  refine FC (Ab (Ac ?_))
  iterate 5 refine ls F W Aa (Ad F Aa).q fun a w F W => ?_
  obtain ⟨x11, h6, H⟩ := Ak H
  refine Bo (Ml := []) (Zl := [row v1 70 A4 (AE (AE x5 p1 x7) (Az (p1 + x6)) x8)]) (M := []) (Z := []) (β := Unit) (rv := fun x => .tuple #[]) (MM := fun x => []) (ZZ := fun x => [row v1 70 A4 x11]) F W UQ Aa Aa (fun hL => Eb _ _ w (v1) (AE (AE x5 p1 x7) (Az (p1 + x6)) x8) 0 x6 p1 _ h6 hL) fun x a w F W => ?_
  have W : Stw ⟨Y, X, w0⟩ [] [row v1 70 A4 x11] w := W
  refine Ae (AM (Ab (Ac ?_)))
  refine ls F W Aa (Ad F Aa).q fun a w F W => ?_
  refine ls F W Aa (B9 F Aa Aa Aa).q fun a w F W => ?_
  refine ls F W Aa (Af F Aa).q fun a w F W => ?_
  refine Ae (Ab ?_)
  exact ⟨_, H, F.re ⟨rfl, Aa, Aa, Aa, Aa, trivial⟩, W⟩
 have H := AO (Bn hb) H
 rw [hb] at F
 clear hb
 refine A5 ?_
 iterate 2 refine Bk ?_
 refine A6 ?_
 have H := L3 _ H
 have H := AQ H
 subst H
 refine He (.inr Aa) F Aa ?_
 exact ⟨(), Aa, W⟩
theorem Wj : Has Try.prog 57 := ⟨fun args w => Al Try.func57 rfl (by decide) args w⟩
noncomputable def B6 (p0 : List (Int × Int × Int × Int)) (p1 : Int) (p2 : Int) (p3 : Int) : Option (Int × Int × Int) := (ix p0 p2).bind fun x1 => (ix p0 p1).bind fun x2 => (B8 x1 x2).bind fun x3 => (if x3 < 0 then some (p2, p1, Az (p3 + 1)) else some (p1, p2, p3))
theorem Dj (Y : Nat → Prop) (X : List Nat) (w0 : World) (v1 : Value) (q_p3 : Nat) (p0 : List (Int × Int × Int × Int)) (p1 : Int) (p2 : Int) (p3 : Int) (r : Int × Int × Int) (H : B6 p0 p1 p2 p3 = some r) (h_v1 : Sl w0 (NX X) A4 v1 p0) (hL : Stw ⟨Y, X, w0⟩ [(q_p3, [.int .i64 p3])] [] w0) :
    Calls Try.prog 89 #[v1, .int .i64 p1, .int .i64 p2, .pointer (some ⟨q_p3, 0, none⟩), .func (.func 26) #[] #[]] w0 fun e w' => ∃ x : Unit, e = .returned (.tuple #[.int .i64 r.1, .int .i64 r.2.1]) ∧ Stw ⟨Y, X, w0⟩ [(q_p3, [.int .i64 r.2.2])] [] w' := by
 refine enter Try.func89 Aa Try.ntmps89 Aa fun a F => ?_
 have W := hL
 unfold B6 at H
 refine Ah (Ac ?_)
 iterate 2 refine ls F W Aa (Af F Aa).q fun a w F W => ?_
 refine Ae (Ab ?_)
 iterate 2 refine Ah ?_
 refine BS W MO (by kernel_rfl) ?_
 iterate 3 refine qs F Aa (Ad F Aa).q fun a F => ?_
 obtain ⟨x1, h1, H⟩ := Ak H
 refine qs F Aa (AC (r := A4) En F Aa Aa (Ap h_v1) h1).q fun a F => ?_
 refine qs F Aa (Ao (y := Value.agg #[.int .i64 x1.1, .int .i64 x1.2.1, .int .i64 x1.2.2.1, .int .i64 x1.2.2.2]) (j := 0) (i := p2) F Aa Aa (Ap h_v1) h1 Ep.to Ee Aa).q fun a F => ?_
 iterate 2 refine qs F Aa (Ad F Aa).q fun a F => ?_
 obtain ⟨x2, h2, H⟩ := Ak H
 refine qs F Aa (AC (r := A4) En F Aa Aa (Ap h_v1) h2).q fun a F => ?_
 refine qs F Aa (Ao (y := Value.agg #[.int .i64 x2.1, .int .i64 x2.2.1, .int .i64 x2.2.2.1, .int .i64 x2.2.2.2]) (j := 0) (i := p1) F Aa Aa (Ap h_v1) h2 Ep.to Ee Aa).q fun a F => ?_
 obtain ⟨x3, h3, H⟩ := Ak H
 refine qs F Aa (EO (ws := [.agg #[.int .i64 x1.1, .int .i64 x1.2.1, .int .i64 x1.2.2.1, .int .i64 x1.2.2.2], .agg #[.int .i64 x2.1, .int .i64 x2.2.1, .int .i64 x2.2.2.1, .int .i64 x2.2.2.2]]) (v := Value.int .i64 x3) F Px Aa (fun w W => Cn any w x1 x2 _ h3)) fun a F => ?_
 refine qs F Aa (BI F Aa Aa).q fun a F => ?_
 refine A0 fun w W => ?_
 refine Ab ?_
 refine Ay F Aa (fun hb => ?_) fun hb => ?_
 ·
  have H := AP (Bm hb) H
  rw [hb] at F
  clear hb
  refine Ah (Ac ?_)
  refine ls F W Aa (Ad F Aa).q fun a w F W => ?_
  refine ls F W Aa (Dm F Aa).q fun a w F W => ?_
  refine ls F W Aa (AB (v := Value.int .i64 p3) 0 F Aa Aa T3 Aa).q fun a w F W => ?_
  refine ls F W Aa (Bp F Aa Aa Aa).q fun a w F W => ?_
  refine ls F W Aa (Dm F Aa).q fun a w F W => ?_
  refine BW (vs := [.int .i64 (Az (p3 + 1))]) (M' := [(q_p3, [.int .i64 (Az (p3 + 1))])]) 0 F W Aa Aa Aa T3 Aa Aa Aa Aa Aa fun w W => ?_
  refine Ae (Ab (Ah (Ac ?_)))
  iterate 2 refine ls F W Aa (Ad F Aa).q fun a w F W => ?_
  iterate 2 refine ls F W Aa (Af F Aa).q fun a w F W => ?_
  refine Ae (Ab (AF (AN ?_)))
  have H := AQ H
  subst H
  refine EU (.inl Aa) F W Aa (AD F Aa) (AD F Aa) ?_
  exact ⟨(), Aa, W⟩
 have H := AO (Bn hb) H
 rw [hb] at F
 clear hb
 refine Aq (Ab (Ah (Ac ?_)))
 iterate 2 refine ls F W Aa (Ad F Aa).q fun a w F W => ?_
 iterate 2 refine ls F W Aa (Af F Aa).q fun a w F W => ?_
 refine Ae (Ab (AF ?_))
 have H := AQ H
 subst H
 refine EU (.inl Aa) F W Aa (AD F Aa) (AD F Aa) ?_
 exact ⟨(), Aa, W⟩
theorem Uf : Has Try.prog 89 := ⟨fun args w => Al Try.func89 rfl (by decide) args w⟩
noncomputable def B7 (p0 : List (Int × Int × Int × Int)) (p1 : Int) (p2 : Int) (p3 : Int) (p4 : Int) : Option (Int × Int) := (B6 p0 p1 p2 p4).bind fun x1 => (B6 p0 x1.2.1 p3 x1.2.2).bind fun x2 => (B6 p0 x1.1 x2.1 x2.2.2).bind fun x3 => some (x3.2.1, x3.2.2)
theorem Es (Y : Nat → Prop) (X : List Nat) (w0 : World) (v1 : Value) (q_p4 : Nat) (p0 : List (Int × Int × Int × Int)) (p1 : Int) (p2 : Int) (p3 : Int) (p4 : Int) (r : Int × Int) (H : B7 p0 p1 p2 p3 p4 = some r) (h_v1 : Sl w0 (NX X) A4 v1 p0) (hL : Stw ⟨Y, X, w0⟩ [(q_p4, [.int .i64 p4])] [] w0) :
    Calls Try.prog 78 #[v1, .int .i64 p1, .int .i64 p2, .int .i64 p3, .pointer (some ⟨q_p4, 0, none⟩), .func (.func 26) #[] #[]] w0 fun e w' => ∃ x : Unit, e = .returned (.int .i64 r.1) ∧ Stw ⟨Y, X, w0⟩ [(q_p4, [.int .i64 r.2])] [] w' := by
 refine enter Try.func78 Aa Try.ntmps78 Aa fun a F => ?_
 have W := hL
 unfold B7 at H
 refine Ah (Ac ?_)
 refine ls F W Aa (Af F Aa).q fun a w F W => ?_
 refine Ae (Ab (Ah (Ac ?_)))
 iterate 5 refine ls F W Aa (Ad F Aa).q fun a w F W => ?_
 obtain ⟨x1, h1, H⟩ := Ak H
 refine Bo (Ml := [(q_p4, [.int .i64 p4])]) (Zl := []) (M := []) (Z := []) (β := Unit) (rv := fun x => .tuple #[.int .i64 x1.1, .int .i64 x1.2.1]) (MM := fun x => [(q_p4, [.int .i64 x1.2.2])]) (ZZ := fun x => []) F W Uf Aa Aa (fun hL => Dj _ _ w (v1) q_p4 p0 p1 p2 p4 _ h1 (W.roX h_v1 (fun g hg => EN hg)) hL) fun x a w F W => ?_
 have W : Stw ⟨Y, X, w0⟩ [(q_p4, [.int .i64 x1.2.2])] [] w := W
 refine ls F W Aa (Ad F Aa).q fun a w F W => ?_
 refine ls F W Aa (BK (v := Value.int .i64 x1.1) F Aa Aa).q fun a w F W => ?_
 refine ls F W Aa (BK (v := Value.int .i64 x1.2.1) F Aa Aa).q fun a w F W => ?_
 iterate 2 refine ls F W Aa (Af F Aa).q fun a w F W => ?_
 refine Ae (Ab (Ah (Ac ?_)))
 iterate 5 refine ls F W Aa (Ad F Aa).q fun a w F W => ?_
 obtain ⟨x2, h2, H⟩ := Ak H
 refine Bo (Ml := [(q_p4, [.int .i64 x1.2.2])]) (Zl := []) (M := []) (Z := []) (β := Unit) (rv := fun x => .tuple #[.int .i64 x2.1, .int .i64 x2.2.1]) (MM := fun x => [(q_p4, [.int .i64 x2.2.2])]) (ZZ := fun x => []) F W Uf Aa Aa (fun hL => Dj _ _ w (v1) q_p4 p0 x1.2.1 p3 x1.2.2 _ h2 (W.roX h_v1 (fun g hg => EN hg)) hL) fun x a w F W => ?_
 have W : Stw ⟨Y, X, w0⟩ [(q_p4, [.int .i64 x2.2.2])] [] w := W
 refine ls F W Aa (Ad F Aa).q fun a w F W => ?_
 refine ls F W Aa (BK (v := Value.int .i64 x2.1) F Aa Aa).q fun a w F W => ?_
 refine ls F W Aa (BK (v := Value.int .i64 x2.2.1) F Aa Aa).q fun a w F W => ?_
 iterate 2 refine ls F W Aa (Af F Aa).q fun a w F W => ?_
 refine Ae (Ab (Ah (Ac ?_)))
 iterate 5 refine ls F W Aa (Ad F Aa).q fun a w F W => ?_
 obtain ⟨x3, h3, H⟩ := Ak H
 refine Bo (Ml := [(q_p4, [.int .i64 x2.2.2])]) (Zl := []) (M := []) (Z := []) (β := Unit) (rv := fun x => .tuple #[.int .i64 x3.1, .int .i64 x3.2.1]) (MM := fun x => [(q_p4, [.int .i64 x3.2.2])]) (ZZ := fun x => []) F W Uf Aa Aa (fun hL => Dj _ _ w (v1) q_p4 p0 x1.1 x2.1 x2.2.2 _ h3 (W.roX h_v1 (fun g hg => EN hg)) hL) fun x a w F W => ?_
 have W : Stw ⟨Y, X, w0⟩ [(q_p4, [.int .i64 x3.2.2])] [] w := W
 refine ls F W Aa (Ad F Aa).q fun a w F W => ?_
 refine ls F W Aa (BK (v := Value.int .i64 x3.1) F Aa Aa).q fun a w F W => ?_
 refine ls F W Aa (BK (v := Value.int .i64 x3.2.1) F Aa Aa).q fun a w F W => ?_
 iterate 2 refine ls F W Aa (Af F Aa).q fun a w F W => ?_
 refine Ae (Ab (Ah (Ac ?_)))
 refine ls F W Aa (Ad F Aa).q fun a w F W => ?_
 refine ls F W Aa (Af F Aa).q fun a w F W => ?_
 refine Ae (Ab (AF ?_))
 have H := AQ H
 subst H
 refine Bj (.inl Aa) F W Aa (AD F Aa) ?_
 exact ⟨(), Aa, W⟩
theorem UE : Has Try.prog 78 := ⟨fun args w => Al Try.func78 rfl (by decide) args w⟩
noncomputable def Bg (p0 : List (Int × Int × Int × Int)) (p1 : Int) (p2 : Int) : Option (Int × Int) := (B7 p0 (Az (p1 - 1)) p1 (Az (p1 + 1)) p2).bind fun x1 => some (x1.1, x1.2)
theorem CI (Y : Nat → Prop) (X : List Nat) (w0 : World) (v1 : Value) (q_p2 : Nat) (p0 : List (Int × Int × Int × Int)) (p1 : Int) (p2 : Int) (r : Int × Int) (H : Bg p0 p1 p2 = some r) (h_v1 : Sl w0 (NX X) A4 v1 p0) (hL : Stw ⟨Y, X, w0⟩ [(q_p2, [.int .i64 p2])] [] w0) :
    Calls Try.prog 77 #[v1, .int .i64 p1, .pointer (some ⟨q_p2, 0, none⟩), .func (.func 26) #[] #[]] w0 fun e w' => ∃ x : Unit, e = .returned (.int .i64 r.1) ∧ Stw ⟨Y, X, w0⟩ [(q_p2, [.int .i64 r.2])] [] w' := by
 refine enter Try.func77 Aa Try.ntmps77 Aa fun a F => ?_
 have W := hL
 unfold Bg at H
 refine Ah (Ac ?_)
 refine ls F W Aa (Af F Aa).q fun a w F W => ?_
 refine Ae (Ab (Ah (Ac ?_)))
 iterate 2 refine ls F W Aa (Ad F Aa).q fun a w F W => ?_
 refine ls F W Aa (B9 F Aa Aa Aa).q fun a w F W => ?_
 iterate 2 refine ls F W Aa (Ad F Aa).q fun a w F W => ?_
 refine ls F W Aa (Bp F Aa Aa Aa).q fun a w F W => ?_
 iterate 2 refine ls F W Aa (Ad F Aa).q fun a w F W => ?_
 obtain ⟨x1, h1, H⟩ := Ak H
 refine Bo (Ml := [(q_p2, [.int .i64 p2])]) (Zl := []) (M := []) (Z := []) (β := Unit) (rv := fun x => .int .i64 x1.1) (MM := fun x => [(q_p2, [.int .i64 x1.2])]) (ZZ := fun x => []) F W UE Aa Aa (fun hL => Es _ _ w (v1) q_p2 p0 (Az (p1 - 1)) p1 (Az (p1 + 1)) p2 _ h1 (W.roX h_v1 (fun g hg => EN hg)) hL) fun x a w F W => ?_
 have W : Stw ⟨Y, X, w0⟩ [(q_p2, [.int .i64 x1.2])] [] w := W
 refine ls F W Aa (Af F Aa).q fun a w F W => ?_
 refine Ae (Ab (AF ?_))
 have H := AQ H
 subst H
 refine Bj (.inl Aa) F W Aa (AD F Aa) ?_
 exact ⟨(), Aa, W⟩
theorem TW : Has Try.prog 77 := ⟨fun args w => Al Try.func77 rfl (by decide) args w⟩
noncomputable def B0 (p0 : List (Int × Int × Int × Int)) (p1 : Int) (p2 : Int) : Option (Int × Int) := (if 8 ≤ (Az (p2 - p1)) then (if 50 ≤ (Az (p2 - p1)) then (Bg p0 (Az (p1 + (Az ((Az (Int.tdiv (Az (p2 - p1)) 4)) * 1)))) 0).bind fun x7 => (Bg p0 (Az (p1 + (Az ((Az (Int.tdiv (Az (p2 - p1)) 4)) * 2)))) x7.2).bind fun x8 => (Bg p0 (Az (p1 + (Az ((Az (Int.tdiv (Az (p2 - p1)) 4)) * 3)))) x8.2).bind fun x9 => some (x7.1, x8.1, x9.1, x9.2) else some (Az (p1 + (Az ((Az (Int.tdiv (Az (p2 - p1)) 4)) * 1))), Az (p1 + (Az ((Az (Int.tdiv (Az (p2 - p1)) 4)) * 2))), Az (p1 + (Az ((Az (Int.tdiv (Az (p2 - p1)) 4)) * 3))), 0)).bind fun (x3, x4, x5, x6) => (B7 p0 x3 x4 x5 x6).bind fun x10 => some (x10.1, x10.2) else some (Az (p1 + (Az ((Az (Int.tdiv (Az (p2 - p1)) 4)) * 2))), 0)).bind fun (x1, x2) => (if x2 = 0 then some (x1, 1) else (if x2 = 12 then some (x1, 2) else some (x1, 0)))
theorem Fv (Y : Nat → Prop) (w0 : World) (v1 : Value) (p0 : List (Int × Int × Int × Int)) (p1 : Int) (p2 : Int) (r : Int × Int) (H : B0 p0 p1 p2 = some r) (h_v1 : Sl w0 (NX []) A4 v1 p0) :
    Calls Try.prog 59 #[v1, .int .i64 p1, .int .i64 p2, .func (.func 26) #[] #[]] w0 fun e w' => e = .returned (.tuple #[.int .i64 r.1, .int .i64 r.2]) ∧ Below w0.heap.size w0 w' := by
 refine enter Try.func59 Aa Try.ntmps59 Aa fun a F => ?_
 have W := Stw.start Y w0
 unfold B0 at H
 refine Ah (Ac ?_)
 iterate 2 refine ls F W Aa (Af F Aa).q fun a w F W => ?_
 refine Ae (Ab (Ah (Ac ?_)))
 iterate 2 refine ls F W Aa (Ad F Aa).q fun a w F W => ?_
 refine ls F W Aa (B9 F Aa Aa Aa).q fun a w F W => ?_
 refine ls F W Aa (Af F Aa).q fun a w F W => ?_
 refine Ae (Ab (Ah (Ac ?_)))
 refine CB (cs := [.int .i64 0]) F W Aa Z3 Aa fun b1 a w F W => ?_
 refine Ae (Ab (Ah (Ac ?_)))
 iterate 2 refine ls F W Aa (Ad F Aa).q fun a w F W => ?_
 refine ls F W Aa (JS F Aa Aa (by decide) Aa).q fun a w F W => ?_
 refine ls F W Aa (Jr F Aa Aa Aa).q fun a w F W => ?_
 refine ls F W Aa (Bp F Aa Aa Aa).q fun a w F W => ?_
 refine ls F W Aa (Af F Aa).q fun a w F W => ?_
 refine Ae (Ab (Ah (Ac ?_)))
 iterate 2 refine ls F W Aa (Ad F Aa).q fun a w F W => ?_
 refine ls F W Aa (JS F Aa Aa (by decide) Aa).q fun a w F W => ?_
 refine ls F W Aa (Jr F Aa Aa Aa).q fun a w F W => ?_
 refine ls F W Aa (Bp F Aa Aa Aa).q fun a w F W => ?_
 refine ls F W Aa (Af F Aa).q fun a w F W => ?_
 refine Ae (Ab (Ah (Ac ?_)))
 iterate 2 refine ls F W Aa (Ad F Aa).q fun a w F W => ?_
 refine ls F W Aa (JS F Aa Aa (by decide) Aa).q fun a w F W => ?_
 refine ls F W Aa (Jr F Aa Aa Aa).q fun a w F W => ?_
 refine ls F W Aa (Bp F Aa Aa Aa).q fun a w F W => ?_
 refine ls F W Aa (Af F Aa).q fun a w F W => ?_
 refine Ae (Ab ?_)
 obtain ⟨o1, G1, K1⟩ := Ak H
 refine AK (fun a w => ∃ x1 : Int, ∃ x2 : Int, some ((x1, x2)) = some o1 ∧ Fr 63 [] [(8, .int .i64 0), (9, .int .i64 0), (11, .pointer (some ⟨b1, 0, none⟩)), (13, .int .i64 x1)] a ∧ Stw ⟨Y, [], w0⟩ [(b1, [.int .i64 x2])] [] w) ?_ ?_
 ·
  have H := G1
  clear G1 K1
  refine Ah (Ac ?_)
  refine ls F W Aa (Ad F Aa).q fun a w F W => ?_
  refine ls F W Aa (Ds F Aa Aa).q fun a w F W => ?_
  refine Ae (Ab ?_)
  refine Ay F Aa (fun hb => ?_) fun hb => ?_
  ·
   have H := AP (Bm hb) H
   rw [hb] at F
   clear hb
   obtain ⟨o2, G2, K2⟩ := Ak H
   refine AK (fun a w => ∃ x3 : Int, ∃ x4 : Int, ∃ x5 : Int, ∃ x6 : Int, some ((x3, x4, x5, x6)) = some o2 ∧ Fr 63 [] [(0, v1), (3, .func (.func 26) #[] #[]), (8, .int .i64 0), (9, .int .i64 0), (11, .pointer (some ⟨b1, 0, none⟩)), (12, .int .i64 x3), (13, .int .i64 x4), (14, .int .i64 x5)] a ∧ Stw ⟨Y, [], w0⟩ [(b1, [.int .i64 x6])] [] w) ?_ ?_
   ·
    have H := G2
    clear G2 K2
    refine Ah (Ac ?_)
    refine ls F W Aa (Ad F Aa).q fun a w F W => ?_
    refine ls F W Aa (Ds F Aa Aa).q fun a w F W => ?_
    refine Ae (Ab ?_)
    refine Ay F Aa (fun hb => ?_) fun hb => ?_
    ·
     have H := AP (Bm hb) H
     rw [hb] at F
     clear hb
     refine Ah (Ac ?_)
     iterate 3 refine ls F W Aa (Ad F Aa).q fun a w F W => ?_
     obtain ⟨x7, h1, H⟩ := Ak H
     refine Bo (Ml := [(b1, [.int .i64 0])]) (Zl := []) (M := []) (Z := []) (β := Unit) (rv := fun x => .int .i64 x7.1) (MM := fun x => [(b1, [.int .i64 x7.2])]) (ZZ := fun x => []) F W TW Aa Aa (fun hL => CI _ _ w (v1) b1 p0 (Az (p1 + (Az ((Az (Int.tdiv (Az (p2 - p1)) 4)) * 1)))) 0 _ h1 (W.roX h_v1 (fun g hg => EN hg)) hL) fun x a w F W => ?_
     have W : Stw ⟨Y, [], w0⟩ [(b1, [.int .i64 x7.2])] [] w := W
     refine ls F W Aa (Af F Aa).q fun a w F W => ?_
     refine Ae (Ab (Ah (Ac ?_)))
     iterate 3 refine ls F W Aa (Ad F Aa).q fun a w F W => ?_
     obtain ⟨x8, h2, H⟩ := Ak H
     refine Bo (Ml := [(b1, [.int .i64 x7.2])]) (Zl := []) (M := []) (Z := []) (β := Unit) (rv := fun x => .int .i64 x8.1) (MM := fun x => [(b1, [.int .i64 x8.2])]) (ZZ := fun x => []) F W TW Aa Aa (fun hL => CI _ _ w (v1) b1 p0 (Az (p1 + (Az ((Az (Int.tdiv (Az (p2 - p1)) 4)) * 2)))) x7.2 _ h2 (W.roX h_v1 (fun g hg => EN hg)) hL) fun x a w F W => ?_
     have W : Stw ⟨Y, [], w0⟩ [(b1, [.int .i64 x8.2])] [] w := W
     refine ls F W Aa (Af F Aa).q fun a w F W => ?_
     refine Ae (Ab (Ac ?_))
     iterate 3 refine ls F W Aa (Ad F Aa).q fun a w F W => ?_
     obtain ⟨x9, h3, H⟩ := Ak H
     refine Bo (Ml := [(b1, [.int .i64 x8.2])]) (Zl := []) (M := []) (Z := []) (β := Unit) (rv := fun x => .int .i64 x9.1) (MM := fun x => [(b1, [.int .i64 x9.2])]) (ZZ := fun x => []) F W TW Aa Aa (fun hL => CI _ _ w (v1) b1 p0 (Az (p1 + (Az ((Az (Int.tdiv (Az (p2 - p1)) 4)) * 3)))) x8.2 _ h3 (W.roX h_v1 (fun g hg => EN hg)) hL) fun x a w F W => ?_
     have W : Stw ⟨Y, [], w0⟩ [(b1, [.int .i64 x9.2])] [] w := W
     refine ls F W Aa (Af F Aa).q fun a w F W => ?_
     refine Ae (Ab ?_)
     exact ⟨_, _, _, _, H, F.re ⟨rfl, Aa, Aa, Aa, Aa, Aa, Aa, Aa, trivial⟩, W⟩
    have H := AO (Bn hb) H
    rw [hb] at F
    clear hb
    refine Aq (Ab ?_)
    exact ⟨_, _, _, _, H, F.re ⟨rfl, Aa, Aa, Aa, Aa, Aa, Aa, Aa, trivial⟩, W⟩
   rintro a w ⟨x3, x4, x5, x6, hj, F, W⟩
   have hj := AQ hj
   subst hj
   have H := K2
   clear G2 K2
   refine Ac ?_
   iterate 5 refine ls F W Aa (Ad F Aa).q fun a w F W => ?_
   obtain ⟨x10, h4, H⟩ := Ak H
   refine Bo (Ml := [(b1, [.int .i64 x6])]) (Zl := []) (M := []) (Z := []) (β := Unit) (rv := fun x => .int .i64 x10.1) (MM := fun x => [(b1, [.int .i64 x10.2])]) (ZZ := fun x => []) F W UE Aa Aa (fun hL => Es _ _ w (v1) b1 p0 x3 x4 x5 x6 _ h4 (W.roX h_v1 (fun g hg => EN hg)) hL) fun x a w F W => ?_
   have W : Stw ⟨Y, [], w0⟩ [(b1, [.int .i64 x10.2])] [] w := W
   refine ls F W Aa (Af F Aa).q fun a w F W => ?_
   refine Ae (Ab ?_)
   exact ⟨_, _, H, F.re ⟨rfl, Aa, Aa, Aa, trivial⟩, W⟩
  have H := AO (Bn hb) H
  rw [hb] at F
  clear hb
  refine Aq (Ab ?_)
  exact ⟨_, _, H, F.re ⟨rfl, Aa, Aa, Aa, trivial⟩, W⟩
 rintro a w ⟨x1, x2, hj, F, W⟩
 have hj := AQ hj
 subst hj
 have H := K1
 clear G1 K1
 refine Ah (Ac ?_)
 refine ls F W Aa (AB (v := Value.int .i64 x2) 0 F Aa Aa T3 Aa).q fun a w F W => ?_
 refine Ae (Ab (As (Ah (Ac ?_))))
 refine ls F W Aa (Dl F Aa Aa).q fun a w F W => ?_
 refine ls F W Aa (Af F Aa).q fun a w F W => ?_
 refine Ae (Ab ?_)
 refine Ay F Aa (fun hb => ?_) fun hb => ?_
 ·
  have H := AP (Bm hb) H
  rw [hb] at F
  clear hb
  refine Ah (Ac ?_)
  refine ls F W Aa (Ad F Aa).q fun a w F W => ?_
  iterate 2 refine ls F W Aa (Af F Aa).q fun a w F W => ?_
  refine Ae (Ab (AF (A3 ?_)))
  have H := AQ H
  subst H
  refine EU (.inl Aa) F W Aa (AD F Aa) (AD F Aa) ?_
  exact ⟨rfl, W.done⟩
 have H := AO (Bn hb) H
 rw [hb] at F
 clear hb
 refine Ah (Ac ?_)
 refine ls F W Aa (Dl F Aa Aa).q fun a w F W => ?_
 refine ls F W Aa (Af F Aa).q fun a w F W => ?_
 refine Ae (Ab ?_)
 refine Ay F Aa (fun hb => ?_) fun hb => ?_
 ·
  have H := AP (Bm hb) H
  rw [hb] at F
  clear hb
  refine Ah (Ac ?_)
  refine ls F W Aa (Ad F Aa).q fun a w F W => ?_
  iterate 2 refine ls F W Aa (Af F Aa).q fun a w F W => ?_
  refine Ae (Ab (AF (A3 ?_)))
  have H := AQ H
  subst H
  refine EU (.inl Aa) F W Aa (AD F Aa) (AD F Aa) ?_
  exact ⟨rfl, W.done⟩
 have H := AO (Bn hb) H
 rw [hb] at F
 clear hb
 refine Ah (Ac ?_)
 refine ls F W Aa (Ad F Aa).q fun a w F W => ?_
 iterate 2 refine ls F W Aa (Af F Aa).q fun a w F W => ?_
 refine Ae (Ab (AF (A3 ?_)))
 have H := AQ H
 subst H
 refine EU (.inl Aa) F W Aa (AD F Aa) (AD F Aa) ?_
 exact ⟨rfl, W.done⟩
end Go.Proofs.Ytghpabmmdenaoaa
