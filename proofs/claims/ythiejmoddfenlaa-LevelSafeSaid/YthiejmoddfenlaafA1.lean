/- The functions of layer 23, HB. Conditions: none. -/
import Derived.Test.YthiejmoddfenlaafA0
namespace Go.Proofs.Ythiejmoddfenlaa
open Go Go.RowKit
set_option linter.unusedVariables false
set_option linter.unusedSimpArgs false
set_option maxRecDepth 20000
theorem RZ : Has Try.prog 50 := ⟨fun args w => Al Try.func50 rfl (by decide) args w⟩
noncomputable def Dx (p0 : Int × (List (Int × Int × Int × Int × Int × Int)) × (List (Int × Int))) (p1 : List (List Int)) (p3 : Int) : (Int × List Int) → Option ((Int × List Int) ⊕ ((List Int) ⊕ (List Int × Int)))
  | (x2, x3) => (ix p1 x2).bind fun x4 => (ix x4 p3).bind fun x5 => (EJ p0 x2 x5).bind fun x6 => (if x6 ≠ p3 then (F7 p0 p1 x2 p3).bind fun x7 => (if (!x7.2) = true then some (.inr (.inr (([] : List Int), 13))) else (Dd x3 x7.1).bind fun x8 => (if x8 = true then some (.inr (.inr (([] : List Int), 12))) else (Mg x3 ([x7.1] : List Int)).bind fun x9 => some (.inl (x7.1, x9)))) else some (.inr (.inl x3)))
noncomputable def Fq (p0 : Int × (List (Int × Int × Int × Int × Int × Int)) × (List (Int × Int))) (p1 : List (List Int)) (p2 : Int) (p3 : Int) : Option (List Int × Int) := F3 (AN (Dx p0 p1 p3) (p2, ([p2] : List Int))) fun x1 => some (x1, 0)
theorem Ju (Y : Nat → Prop) (w0 : World) (v1 : Value) (v2 : Value) (v3 : Value) (p0 : Int × (List (Int × Int × Int × Int × Int × Int)) × (List (Int × Int))) (p1 : List (List Int)) (p2 : Int) (p3 : Int) (r : List Int × Int) (H : Fq p0 p1 p2 p3 = some r) (h_v1 : Sl w0 (NX []) Hi v1 p0.2.1) (h_v2 : Sl w0 (NX []) GE v2 p0.2.2) (h_v3 : Sl w0 (NX []) (Rp.slice (Rp.int .i64)) v3 p1) :
    Calls Try.prog 30 #[.agg #[.int .i64 p0.1, v1, v2], v3, .int .i64 p2, .int .i64 p3] w0 fun e w' => ∃ x : Value, e = .returned (.tuple #[x, .int .i64 r.2]) ∧ Stw ⟨Y, [], w0⟩ [] [row (x) 3 (Rp.int .i64) r.1] w' := by
 refine enter Try.func30 Aa Try.ntmps30 Aa fun a F => ?_
 have W := Stw.start Y w0
 obtain ⟨v4, h1, h_v3⟩ := h_v3.ex Di
 unfold Fq at H
 refine Ah (Ac ?_)
 refine E0 (cs := [.int .i64 p0.1, v1, v2]) F W Aa Aa Aa fun b1 a w F W => ?_
 iterate 2 refine ls F W Aa (Af F Aa).q fun a w F W => ?_
 refine Ae (Ab (Ah (Ac ?_)))
 refine ls F W Aa (Ad F Aa).q fun a w F W => ?_
 refine FS (z := Value.int .i64 0) (cs := [.int .i64 p2]) (Rp.int .i64) ([p2] : List Int) F W Aa Hn Z3 Aa Aa Aa Aa Aa Aa (Fl.int.repL _ _ ([p2] : List Int)) fun v5 a w F W => ?_
 refine ls F W Aa (Af F Aa).q fun a w F W => ?_
 refine Ae (Ab ?_)
 obtain ⟨o1, G1, K1, L1⟩ := Jy H
 refine AM (fun a w => ∃ x1 : List Int, ∃ v6 : Value, some (Sum.inl x1) = some o1 ∧ Fr 46 [] [(8, .slice none 0 0), (9, .int .i64 0), (10, v6)] a ∧ Stw ⟨Y, [], w0⟩ [(b1, [.int .i64 p0.1, v1, v2])] [row v6 3 (Rp.int .i64) x1] w) ?_ ?_
 ·
  have H := G1
  clear G1 K1
  refine Au ?_
  refine Bn H (fun s a w => ∃ v7 : Value, Fr 46 [] [(1, v3), (2, .int .i64 s.1), (3, .int .i64 p3), (4, .pointer (some ⟨b1, 0, none⟩)), (8, .slice none 0 0), (9, .int .i64 0), (10, v7)] a ∧ Stw ⟨Y, [], w0⟩ [(b1, [.int .i64 p0.1, v1, v2])] [row v7 3 (Rp.int .i64) s.2] w) ⟨(v5), F.re ⟨rfl, Aa, Aa, Aa, Aa, Aa, Aa, trivial⟩, W⟩ fun s o a w H L2 hR => ?_
  obtain ⟨x2, x3⟩ := s
  obtain ⟨v7, F, W⟩ := hR
  have F : Fr 46 [] [(1, v3), (2, .int .i64 x2), (3, .int .i64 p3), (4, .pointer (some ⟨b1, 0, none⟩)), (8, .slice none 0 0), (9, .int .i64 0), (10, v7)] a := F
  have W : Stw ⟨Y, [], w0⟩ [(b1, [.int .i64 p0.1, v1, v2])] [row v7 3 (Rp.int .i64) x3] w := W
  rw [Dx] at H
  iterate 2 refine Ah ?_
  refine BW W MO (by kernel_rfl) ?_
  refine qs F Aa (Az (v := Value.agg #[.int .i64 p0.1, v1, v2]) 0 F Aa Aa Jh Aa).q fun a F => ?_
  iterate 3 refine qs F Aa (Ad F Aa).q fun a F => ?_
  obtain ⟨x4, h2, H⟩ := Ai H
  obtain ⟨v8, h3, h4⟩ := FL h1 h2
  have h5 : FB v8 = [(v8.1)] := congrArg (fun q : List Int => ([(v8.1)] : List Value)) h4
  refine qs F Aa (Ax (r := (Rp.vsl (Rp.int .i64))) Ki F Aa Aa (Am h_v3) h3).q fun a F => ?_
  refine qs F Aa (Ao (y := (v8.1)) (j := 0) (i := x2) (enc := FB) F Aa Aa (Am h_v3) h3 IX Li (by rw [h5]; rfl)).q fun a F => ?_
  refine qs F Aa (Ad F Aa).q fun a F => ?_
  obtain ⟨x5, h6, H⟩ := Ai H
  refine qs F Aa (Ax (r := (Rp.int .i64)) Hn F Aa Aa (DC (Am h_v3) h3 F6.here (congrArg (fun q : List Int => q) h4)) h6).q fun a F => ?_
  refine qs F Aa (Ao (y := Value.int .i64 x5) (j := 0) (i := p3) F Aa Aa (DC (Am h_v3) h3 F6.here (congrArg (fun q : List Int => q) h4)) h6 Fl.int.to T3 Aa).q fun a F => ?_
  obtain ⟨x6, h7, H⟩ := Ai H
  refine qs F Aa (B0 (v := Value.int .i64 x6) F RO Aa (fun w W => Ld any w (v1) (v2) p0 x2 x5 _ h7 (((Am h_v1) : DP _ _ _ _ _ _) w W).nx (((Am h_v2) : DP _ _ _ _ _ _) w W).nx)) fun a F => ?_
  refine qs F Aa (Ad F Aa).q fun a F => ?_
  refine qs F Aa (HN F Aa Aa).q fun a F => ?_
  refine A5 fun w W => ?_
  refine Ab ?_
  refine AA F Aa (fun hb => ?_) fun hb => ?_
  ·
   have H := AY (BI hb) H
   rw [hb] at F
   clear hb
   refine Av (Ab (Au (Ah (Ac ?_))))
   refine ls F W Aa (Az (v := Value.agg #[.int .i64 p0.1, v1, v2]) 0 F Aa Aa Jh Aa).q fun a w F W => ?_
   iterate 3 refine ls F W Aa (Ad F Aa).q fun a w F W => ?_
   obtain ⟨x7, h8, H⟩ := Ai H
   refine ls F W Aa (B0 (v := Value.tuple #[.int .i64 x7.1, .bool x7.2]) F Sg Aa (fun w W => LM any w (v1) (v2) (v3) p0 p1 x2 p3 _ h8 (((Am h_v1) : DP _ _ _ _ _ _) w W).nx (((Am h_v2) : DP _ _ _ _ _ _) w W).nx (((BR Di h1 (Am h_v3)) : DP _ _ _ _ _ _) w W).nx)) fun a w F W => ?_
   refine ls F W Aa (Ad F Aa).q fun a w F W => ?_
   refine ls F W Aa (BE (v := Value.int .i64 x7.1) F Aa Aa).q fun a w F W => ?_
   refine ls F W Aa (BE (v := Value.bool x7.2) F Aa Aa).q fun a w F W => ?_
   iterate 2 refine ls F W Aa (Af F Aa).q fun a w F W => ?_
   refine Ae (Ab (Ah (Ah (Ac ?_))))
   refine ls F W Aa (Ad F Aa).q fun a w F W => ?_
   refine ls F W Aa (Ek F Aa).q fun a w F W => ?_
   refine Ae (Ab ?_)
   refine AA F Aa (fun hb => ?_) fun hb => ?_
   ·
    have H := AY hb H
    rw [hb] at F
    clear hb
    refine Ah (Ac ?_)
    iterate 2 refine ls F W Aa (Af F Aa).q fun a w F W => ?_
    refine Ae (Ab (AH (AL (AS (AL (AS (AL ?_)))))))
    have H := L2 _ H
    have H := L1 _ H
    have H := A2 H
    subst H
    refine ET (.inl Aa) F W Aa (Aw F Aa) (Aw F Aa) ?_
    have W := W.nilRow 3 (Rp.int .i64)
    have W := W.sub (M' := []) (Z' := [row (Value.slice none 0 0) 3 (Rp.int .i64) ([])]) (List.nil_sublist _) (List.Sublist.cons_cons _ (List.nil_sublist _))
    exact ⟨(Value.slice none 0 0), Aa, W⟩
   have H := AX (by rw [hb]; decide) H
   rw [hb] at F
   clear hb
   refine Av (Ab (Ah (Ah (Ac ?_))))
   iterate 2 refine ls F W Aa (Ad F Aa).q fun a w F W => ?_
   obtain ⟨x8, h9, H⟩ := Ai H
   refine ls F W Aa (B0 (v := Value.bool x8) F RZ Aa (fun w W => II any w (v7) x3 x7.1 _ h9 (((An 0 Aa) : DP _ _ _ _ _ _) w W).nx)) fun a w F W => ?_
   refine Ae (Ab ?_)
   refine AA F Aa (fun hb => ?_) fun hb => ?_
   ·
    have H := AY hb H
    rw [hb] at F
    clear hb
    refine Ah (Ac ?_)
    iterate 2 refine ls F W Aa (Af F Aa).q fun a w F W => ?_
    refine Ae (Ab (AH (AL (AS (AL (AS (AL ?_)))))))
    have H := L2 _ H
    have H := L1 _ H
    have H := A2 H
    subst H
    refine ET (.inl Aa) F W Aa (Aw F Aa) (Aw F Aa) ?_
    have W := W.nilRow 3 (Rp.int .i64)
    have W := W.sub (M' := []) (Z' := [row (Value.slice none 0 0) 3 (Rp.int .i64) ([])]) (List.nil_sublist _) (List.Sublist.cons_cons _ (List.nil_sublist _))
    exact ⟨(Value.slice none 0 0), Aa, W⟩
   have H := AX (by rw [hb]; decide) H
   rw [hb] at F
   clear hb
   refine Av (Ab (Ah (Ac ?_)))
   iterate 2 refine ls F W Aa (Ad F Aa).q fun a w F W => ?_
   refine FS (z := Value.int .i64 0) (cs := [.int .i64 x7.1]) (Rp.int .i64) ([x7.1] : List Int) F W Aa Hn Z3 Aa Aa Aa Aa Aa Aa (Fl.int.repL _ _ ([x7.1] : List Int)) fun v9 a w F W => ?_
   obtain ⟨x9, h10, H⟩ := Ai H
   refine GV (r := (Rp.int .i64)) (i := 1) F W Aa Hn Aa Aa Aa Aa (Iq W 0 Aa) h10 Aa fun v10 a w F W => ?_
   have W : Stw ⟨Y, [], w0⟩ [(b1, [.int .i64 p0.1, v1, v2])] [row v10 3 (Rp.int .i64) x9, row v9 3 (Rp.int .i64) ([x7.1] : List Int)] w := W
   refine ls F W Aa (Af F Aa).q fun a w F W => ?_
   refine Ae (Ab (Ac ?_))
   refine ls F W Aa (Ad F Aa).q fun a w F W => ?_
   refine ls F W Aa (Af F Aa).q fun a w F W => ?_
   refine Ae (AV (Ab ?_))
   have W := W.sub (M' := [(b1, [.int .i64 p0.1, v1, v2])]) (Z' := [row v10 3 (Rp.int .i64) x9]) (List.Sublist.refl _) (List.Sublist.cons_cons _ (List.nil_sublist _))
   exact ⟨_, H, (v10), F.re ⟨rfl, Aa, Aa, Aa, Aa, Aa, Aa, trivial⟩, W⟩
  have H := AX (BJ hb) H
  rw [hb] at F
  clear hb
  refine Bm ?_
  iterate 2 refine BG ?_
  refine Bl (Ab ?_)
  have H := L2 _ H
  exact ⟨_, (v7), H, F.re ⟨rfl, Aa, Aa, trivial⟩, W⟩
 rintro a w ⟨x1, v6, hj, F, W⟩
 have H := K1 _ hj
 clear hj G1 K1 L1
 refine Ah (Ac ?_)
 refine ls F W Aa (Ad F Aa).q fun a w F W => ?_
 iterate 2 refine ls F W Aa (Af F Aa).q fun a w F W => ?_
 refine Ae (Ab (AH ?_))
 have H := A2 H
 subst H
 refine ET (.inl Aa) F W Aa (Aw F Aa) (Aw F Aa) ?_
 have W := W.sub (M' := []) (Z' := [row v6 3 (Rp.int .i64) x1]) (List.nil_sublist _) (List.Sublist.refl _)
 exact ⟨(v6), Aa, W⟩
theorem Rn : Has Try.prog 30 := ⟨fun args w => Al Try.func30 rfl (by decide) args w⟩
noncomputable def DW (p0 : Int × (List (Int × Int × Int × Int × Int × Int)) × (List (Int × Int))) (p1 : List (List Int)) (x2 : Int) (x3 : List Int) : Int → Option (Int ⊕ (Unit ⊕ (Int ⊕ (Unit ⊕ Bool))))
  | x4 => (if x4 < (x3.length : Int) then (Fq p0 p1 x2 x4).bind fun x5 => (if x5.2 ≠ 0 then some (.inr (.inr (.inr (.inr false)))) else some (.inl (AB (x4 + 1)))) else some (.inr (.inl ())))
noncomputable def Ep (p0 : Int × (List (Int × Int × Int × Int × Int × Int)) × (List (Int × Int))) (p1 : List (List Int)) : Int → Option (Int ⊕ (Unit ⊕ Bool))
  | x2 => (if x2 < (p1.length : Int) then F3 ((ix p1 x2).bind fun x3 => AN (DW p0 p1 x2 x3) 0) fun _ => some (.inl (AB (x2 + 1))) else some (.inr (.inl ())))
noncomputable def EP (p0 : Int × (List (Int × Int × Int × Int × Int × Int)) × (List (Int × Int))) (p1 : List (List Int)) : Option Bool := (EK p0 p1).bind fun x1 => (if (!x1) = true then some false else F3 (AN (Ep p0 p1) 0) fun _ => some true)
theorem Im (Y : Nat → Prop) (w0 : World) (v1 : Value) (v2 : Value) (v3 : Value) (p0 : Int × (List (Int × Int × Int × Int × Int × Int)) × (List (Int × Int))) (p1 : List (List Int)) (r : Bool) (H : EP p0 p1 = some r) (h_v1 : Sl w0 (NX []) Hi v1 p0.2.1) (h_v2 : Sl w0 (NX []) GE v2 p0.2.2) (h_v3 : Sl w0 (NX []) (Rp.slice (Rp.int .i64)) v3 p1) :
    Calls Try.prog 11 #[.agg #[.int .i64 p0.1, v1, v2], v3] w0 fun e w' => e = .returned (.bool r) ∧ Below w0.heap.size w0 w' := by
 refine enter Try.func11 Aa Try.ntmps11 Aa fun a F => ?_
 have W := Stw.start Y w0
 obtain ⟨v4, h1, h_v3⟩ := h_v3.ex Di
 unfold EP at H
 refine Ah (Ac ?_)
 refine E0 (cs := [.int .i64 p0.1, v1, v2]) F W Aa Aa Aa fun b1 a w F W => ?_
 refine ls F W Aa (Af F Aa).q fun a w F W => ?_
 refine Ae (Ab (Ah (Ah (Ac ?_))))
 refine ls F W Aa (Az (v := Value.agg #[.int .i64 p0.1, v1, v2]) 0 F Aa Aa Jh Aa).q fun a w F W => ?_
 refine ls F W Aa (Ad F Aa).q fun a w F W => ?_
 obtain ⟨x1, h2, H⟩ := Ai H
 refine ls F W Aa (B0 (v := Value.bool x1) F Rs Aa (fun w W => I9 any w (v1) (v2) (v3) p0 p1 _ h2 (((Am h_v1) : DP _ _ _ _ _ _) w W).nx (((Am h_v2) : DP _ _ _ _ _ _) w W).nx (((BR Di h1 (Am h_v3)) : DP _ _ _ _ _ _) w W).nx)) fun a w F W => ?_
 refine ls F W Aa (Ek F Aa).q fun a w F W => ?_
 refine Ae (Ab ?_)
 refine AA F Aa (fun hb => ?_) fun hb => ?_
 ·
  have H := AY hb H
  rw [hb] at F
  clear hb
  refine Ah (Ac ?_)
  refine ls F W Aa (Af F Aa).q fun a w F W => ?_
  refine Ae (Ab (AH (AL ?_)))
  have H := A2 H
  subst H
  refine BN (.inl Aa) F W Aa (Aw F Aa) ?_
  exact ⟨rfl, W.done⟩
 have H := AX (by rw [hb]; decide) H
 rw [hb] at F
 clear hb
 refine Av (Ab ?_)
 obtain ⟨o1, G1, K1, L1⟩ := Jy H
 refine AM (fun a w => some (Sum.inl ()) = some o1 ∧ Fr 38 [] [(4, .bool false)] a ∧ Stw ⟨Y, [], w0⟩ [(b1, [.int .i64 p0.1, v1, v2])] [] w) ?_ ?_
 ·
  have H := G1
  clear G1 K1
  refine Ah (Ac ?_)
  refine ls F W Aa (Ad F Aa).q fun a w F W => ?_
  refine ls F W Aa (B4 (r := (Rp.slice (Rp.int .i64))) (l := p1) Iz Aa F Aa (BR Di h1 (Am h_v3))).q fun a w F W => ?_
  refine ls F W Aa (Ad F Aa).q fun a w F W => ?_
  refine Ae (Ab (Au ?_))
  refine Bn H (fun s a w => Fr 38 [] [(1, v3), (2, .pointer (some ⟨b1, 0, none⟩)), (4, .bool false), (14, v3), (15, .int .i64 (p1.length : Int)), (16, .int .i64 s)] a ∧ Stw ⟨Y, [], w0⟩ [(b1, [.int .i64 p0.1, v1, v2])] [] w) ⟨F.re ⟨rfl, Aa, Aa, Aa, Aa, Aa, trivial⟩, W⟩ fun s o a w H L2 hR => ?_
  obtain ⟨x2, rfl⟩ : ∃ x, x = s := ⟨s, rfl⟩
  obtain ⟨F, W⟩ := hR
  have F : Fr 38 [] [(1, v3), (2, .pointer (some ⟨b1, 0, none⟩)), (4, .bool false), (14, v3), (15, .int .i64 (p1.length : Int)), (16, .int .i64 x2)] a := F
  have W : Stw ⟨Y, [], w0⟩ [(b1, [.int .i64 p0.1, v1, v2])] [] w := W
  rw [Ep] at H
  refine Ah (Ac ?_)
  refine ls F W Aa (BP F Aa Aa).q fun a w F W => ?_
  refine Ae (Ab (Ah ?_))
  refine AA F Aa (fun hb => ?_) fun hb => ?_
  ·
   have H := AY (BI hb) H
   rw [hb] at F
   clear hb
   refine Av (Ab ?_)
   obtain ⟨o3, G3, K3, L3⟩ := Jy H
   refine AM (fun a w => some (Sum.inl ()) = some o3 ∧ Fr 38 [] [(1, v3), (2, .pointer (some ⟨b1, 0, none⟩)), (4, .bool false), (14, v3), (15, .int .i64 (p1.length : Int)), (16, .int .i64 x2)] a ∧ Stw ⟨Y, [], w0⟩ [(b1, [.int .i64 p0.1, v1, v2])] [] w) ?_ ?_
   ·
    have H := G3
    clear G3 K3
    refine Au (Ah (Ac ?_))
    refine ls F W Aa (Ad F Aa).q fun a w F W => ?_
    obtain ⟨x3, h3, H⟩ := Ai H
    obtain ⟨v5, h4, h5⟩ := FL h1 h3
    have h6 : FB v5 = [(v5.1)] := congrArg (fun q : List Int => ([(v5.1)] : List Value)) h5
    refine ls F W Aa (Ax (r := (Rp.vsl (Rp.int .i64))) Ki F Aa Aa (Am h_v3) h4).q fun a w F W => ?_
    refine ls F W Aa (Ao (y := (v5.1)) (j := 0) (i := x2) (enc := FB) F Aa Aa (Am h_v3) h4 IX Li (by rw [h6]; rfl)).q fun a w F W => ?_
    iterate 2 refine ls F W Aa (Af F Aa).q fun a w F W => ?_
    refine Ae (Ab (Ah (Ac ?_)))
    refine ls F W Aa (Ad F Aa).q fun a w F W => ?_
    refine ls F W Aa (B4 (r := (Rp.int .i64)) (l := x3) Hw Aa F Aa (DC (Am h_v3) h4 F6.here (congrArg (fun q : List Int => q) h5))).q fun a w F W => ?_
    refine ls F W Aa (Ad F Aa).q fun a w F W => ?_
    refine Ae (Ab (Au ?_))
    refine Bn H (fun s a w => Fr 38 [] [(1, v3), (2, .pointer (some ⟨b1, 0, none⟩)), (4, .bool false), (5, .int .i64 x2), (14, v3), (15, .int .i64 (p1.length : Int)), (16, .int .i64 x2), (22, .int .i64 (x3.length : Int)), (23, .int .i64 s)] a ∧ Stw ⟨Y, [], w0⟩ [(b1, [.int .i64 p0.1, v1, v2])] [] w) ⟨F.re ⟨rfl, Aa, Aa, Aa, Aa, Aa, Aa, Aa, Aa, trivial⟩, W⟩ fun s o a w H L4 hR => ?_
    obtain ⟨x4, rfl⟩ : ∃ x, x = s := ⟨s, rfl⟩
    obtain ⟨F, W⟩ := hR
    have F : Fr 38 [] [(1, v3), (2, .pointer (some ⟨b1, 0, none⟩)), (4, .bool false), (5, .int .i64 x2), (14, v3), (15, .int .i64 (p1.length : Int)), (16, .int .i64 x2), (22, .int .i64 (x3.length : Int)), (23, .int .i64 x4)] a := F
    have W : Stw ⟨Y, [], w0⟩ [(b1, [.int .i64 p0.1, v1, v2])] [] w := W
    rw [DW] at H
    refine Ah (Ac ?_)
    refine ls F W Aa (BP F Aa Aa).q fun a w F W => ?_
    refine Ae (Ab (Ah ?_))
    refine AA F Aa (fun hb => ?_) fun hb => ?_
    ·
     have H := AY (BI hb) H
     rw [hb] at F
     clear hb
     refine Av (Ab (Ah (Au (Ah (Ac ?_)))))
     refine ls F W Aa (Ad F Aa).q fun a w F W => ?_
     refine ls F W Aa (Af F Aa).q fun a w F W => ?_
     refine Ae (Ab (Ah (Ac ?_)))
     refine ls F W Aa (Az (v := Value.agg #[.int .i64 p0.1, v1, v2]) 0 F Aa Aa Jh Aa).q fun a w F W => ?_
     iterate 3 refine ls F W Aa (Ad F Aa).q fun a w F W => ?_
     obtain ⟨x5, h7, H⟩ := Ai H
     refine B1 (Ml := []) (Zl := []) (M := [(b1, [.int .i64 p0.1, v1, v2])]) (Z := []) (β := Value) (rv := fun x => .tuple #[x, .int .i64 x5.2]) (MM := fun x => []) (ZZ := fun x => [row x 3 (Rp.int .i64) x5.1]) F W Rn Aa Aa (fun hL => Ju _ w (v1) (v2) (v3) p0 p1 x2 x4 _ h7 ((Am h_v1) w W).nx ((Am h_v2) w W).nx ((BR Di h1 (Am h_v3)) w W).nx) fun x a w F W => ?_
     obtain ⟨v6, rfl⟩ : ∃ y, y = x := ⟨x, rfl⟩
     have W : Stw ⟨Y, [], w0⟩ [(b1, [.int .i64 p0.1, v1, v2])] [row v6 3 (Rp.int .i64) x5.1] w := W
     refine ls F W Aa (Ad F Aa).q fun a w F W => ?_
     refine ls F W Aa (BE (v := v6) F Aa Aa).q fun a w F W => ?_
     refine ls F W Aa (BE (v := Value.int .i64 x5.2) F Aa Aa).q fun a w F W => ?_
     iterate 2 refine ls F W Aa (Af F Aa).q fun a w F W => ?_
     refine Ae (Ab (Ah (Ac ?_)))
     refine ls F W Aa (Ad F Aa).q fun a w F W => ?_
     refine ls F W Aa (HN F Aa Aa).q fun a w F W => ?_
     refine Ae (Ab ?_)
     refine AA F Aa (fun hb => ?_) fun hb => ?_
     ·
      have H := AY (BI hb) H
      rw [hb] at F
      clear hb
      refine Ah (Ac ?_)
      refine ls F W Aa (Af F Aa).q fun a w F W => ?_
      refine Ae (Ab (AH (AS ?_)))
      iterate 2 refine AL ?_
      iterate 2 refine AS ?_
      iterate 2 refine AL ?_
      refine AS (AL ?_)
      have H := L4 _ H
      have H := L3 _ H
      have H := L2 _ H
      have H := L1 _ H
      have H := A2 H
      subst H
      refine BN (.inl Aa) F W Aa (Aw F Aa) ?_
      exact ⟨rfl, W.done⟩
     have H := AX (BJ hb) H
     rw [hb] at F
     clear hb
     refine Av (AV (Ab (Ac ?_)))
     refine ls F W Aa (BK F Aa Aa Aa).q fun a w F W => ?_
     refine ls F W Aa (Ad F Aa).q fun a w F W => ?_
     refine Ae (Ab ?_)
     have W := W.sub (M' := [(b1, [.int .i64 p0.1, v1, v2])]) (Z' := []) (List.Sublist.refl _) (List.nil_sublist _)
     exact ⟨_, H, F.re ⟨rfl, Aa, Aa, Aa, Aa, Aa, Aa, Aa, Aa, trivial⟩, W⟩
    have H := AX (BJ hb) H
    rw [hb] at F
    clear hb
    refine Bm ?_
    iterate 2 refine BG ?_
    refine Bl (AV (Ab ?_))
    have H := L4 _ H
    exact ⟨H, F.re ⟨rfl, Aa, Aa, Aa, Aa, Aa, trivial⟩, W⟩
   rintro a w ⟨hj, F, W⟩
   have H := K3 _ hj
   clear hj G3 K3 L3
   refine Ac ?_
   refine ls F W Aa (BK F Aa Aa Aa).q fun a w F W => ?_
   refine ls F W Aa (Ad F Aa).q fun a w F W => ?_
   refine Ae (Ab ?_)
   exact ⟨_, H, F.re ⟨rfl, Aa, Aa, Aa, Aa, Aa, trivial⟩, W⟩
  have H := AX (BJ hb) H
  rw [hb] at F
  clear hb
  refine Bm ?_
  iterate 2 refine BG ?_
  refine Bl (Ab ?_)
  have H := L2 _ H
  exact ⟨H, F.re ⟨rfl, trivial⟩, W⟩
 rintro a w ⟨hj, F, W⟩
 have H := K1 _ hj
 clear hj G1 K1 L1
 refine Ah (Ac ?_)
 refine ls F W Aa (Af F Aa).q fun a w F W => ?_
 refine Ae (Ab (AH ?_))
 have H := A2 H
 subst H
 refine BN (.inl Aa) F W Aa (Aw F Aa) ?_
 exact ⟨rfl, W.done⟩
theorem QR : Has Try.prog 11 := ⟨fun args w => Al Try.func11 rfl (by decide) args w⟩
noncomputable def Ei (p0 : Int × (List (Int × Int × Int × Int × Int × Int)) × (List (Int × Int))) (p1 : List (List Int)) (p2 : Int) : (List Int × Int) → Option ((List Int × Int) ⊕ (List Int))
  | (x4, x5) => (if x5 < (p1.length : Int) then (Fq p0 p1 x5 p2).bind fun x6 => (Mg x4 ([AB ((x6.1.length : Int) - 1)] : List Int)).bind fun x7 => some (.inl (x7, AB (x5 + 1))) else some (.inr x4))
noncomputable def GG (p0 : Int × (List (Int × Int × Int × Int × Int × Int)) × (List (Int × Int))) (p1 : List (List Int)) (p2 : Int) : Option (List Int) := ((EK p0 p1).bind fun x2 => (if (!x2) = true then some true else (if p2 < 0 then some true else some (decide ((p0.2.2.length : Int) ≤ p2))))).bind fun x1 => (if x1 = true then some ([] : List Int) else (AN (Ei p0 p1 p2) ([], 0)).bind fun x3 => some x3)
theorem MT (Y : Nat → Prop) (w0 : World) (v1 : Value) (v2 : Value) (v3 : Value) (p0 : Int × (List (Int × Int × Int × Int × Int × Int)) × (List (Int × Int))) (p1 : List (List Int)) (p2 : Int) (r : List Int) (H : GG p0 p1 p2 = some r) (h_v1 : Sl w0 (NX []) Hi v1 p0.2.1) (h_v2 : Sl w0 (NX []) GE v2 p0.2.2) (h_v3 : Sl w0 (NX []) (Rp.slice (Rp.int .i64)) v3 p1) :
    Calls Try.prog 24 #[.agg #[.int .i64 p0.1, v1, v2], v3, .int .i64 p2] w0 fun e w' => ∃ x : Value, e = .returned (x) ∧ Stw ⟨Y, [], w0⟩ [] [row (x) 3 (Rp.int .i64) r] w' := by
 refine enter Try.func24 Aa Try.ntmps24 Aa fun a F => ?_
 have W := Stw.start Y w0
 obtain ⟨v4, h1, h_v3⟩ := h_v3.ex Di
 unfold GG at H
 refine Ah (Ac ?_)
 refine E0 (cs := [.int .i64 p0.1, v1, v2]) F W Aa Aa Aa fun b1 a w F W => ?_
 refine ls F W Aa (Af F Aa).q fun a w F W => ?_
 refine Ae (Ab (Ah ?_))
 obtain ⟨o1, G1, K1⟩ := Ai H
 refine AM (fun a w => ∃ x1 : Bool, some (x1) = some o1 ∧ Fr 47 [] [(1, v3), (2, .int .i64 p2), (3, .pointer (some ⟨b1, 0, none⟩)), (6, .slice none 0 0), (25, .bool x1)] a ∧ Stw ⟨Y, [], w0⟩ [(b1, [.int .i64 p0.1, v1, v2])] [] w) ?_ ?_
 ·
  have H := G1
  clear G1 K1
  refine Ac ?_
  refine ls F W Aa (Az (v := Value.agg #[.int .i64 p0.1, v1, v2]) 0 F Aa Aa Jh Aa).q fun a w F W => ?_
  refine ls F W Aa (Ad F Aa).q fun a w F W => ?_
  obtain ⟨x2, h2, H⟩ := Ai H
  refine ls F W Aa (B0 (v := Value.bool x2) F Rs Aa (fun w W => I9 any w (v1) (v2) (v3) p0 p1 _ h2 (((Am h_v1) : DP _ _ _ _ _ _) w W).nx (((Am h_v2) : DP _ _ _ _ _ _) w W).nx (((BR Di h1 (Am h_v3)) : DP _ _ _ _ _ _) w W).nx)) fun a w F W => ?_
  refine ls F W Aa (Ek F Aa).q fun a w F W => ?_
  refine ls F W Aa (Ad F Aa).q fun a w F W => ?_
  rcases Bool.eq_false_or_eq_true (!x2) with hb | hb
  ·
   have H := AY hb H
   rw [hb] at F
   clear hb
   iterate 2 refine Dc F Aa Aa Aa Aa Aa Aa Aa fun a F => ?_
   refine ls F W Aa (As F Aa Aa Aa).q fun a w F W => ?_
   refine ls F W Aa (Ad F Aa).q fun a w F W => ?_
   iterate 5 refine Dc F Aa Aa Aa Aa Aa Aa Aa fun a F => ?_
   refine ls F W Aa (As F Aa Aa Aa).q fun a w F W => ?_
   refine Ae (Ab ?_)
   exact ⟨_, H, F.re ⟨rfl, Aa, Aa, Aa, Aa, trivial⟩, W⟩
  have H := AX (by rw [hb]; decide) H
  rw [hb] at F
  clear hb
  refine AP F W (Ag F Aa Aa Aa Aa) Aa (Ak Aa) (Ad F Aa).q fun a w F W => ?_
  refine AP F W (Ag F Aa Aa Aa Aa) Aa (Ak Aa) (BP F Aa Aa).q fun a w F W => ?_
  refine ls F W Aa (Ay F Aa Aa Aa).q fun a w F W => ?_
  refine ls F W Aa (Ad F Aa).q fun a w F W => ?_
  rcases Bool.eq_false_or_eq_true (decide (p2 < 0)) with hb | hb
  ·
   have H := AY (BI hb) H
   rw [hb] at F
   clear hb
   iterate 5 refine Dc F Aa Aa Aa Aa Aa Aa Aa fun a F => ?_
   refine ls F W Aa (As F Aa Aa Aa).q fun a w F W => ?_
   refine Ae (Ab ?_)
   exact ⟨_, H, F.re ⟨rfl, Aa, Aa, Aa, Aa, trivial⟩, W⟩
  have H := AX (BJ hb) H
  rw [hb] at F
  clear hb
  refine AP F W (Ag F Aa Aa Aa Aa) Aa (Ak Aa) (Ad F Aa).q fun a w F W => ?_
  refine AP F W (Ag F Aa Aa Aa Aa) Aa (Ak Aa) (Aj Eu Aa Aa Aa IE F Aa 2 Aa).q fun a w F W => ?_
  refine AP F W (Ag F Aa Aa Aa Aa) Aa (Ak Aa) (Az (v := v2) 0 F Aa Aa IE Aa).q fun a w F W => ?_
  refine AP F W (Ag F Aa Aa Aa Aa) Aa (Ak Aa) (B4 (r := GE) (l := p0.2.2) Jz Aa F Aa (Am h_v2)).q fun a w F W => ?_
  refine AP F W (Ag F Aa Aa Aa Aa) Aa (Ak Aa) (DU F Aa Aa).q fun a w F W => ?_
  refine ls F W Aa (Ay F Aa Aa Aa).q fun a w F W => ?_
  refine Ae (Ab ?_)
  exact ⟨_, H, F.re ⟨rfl, Aa, Aa, Aa, Aa, trivial⟩, W⟩
 rintro a w ⟨x1, hj, F, W⟩
 have hj := A2 hj
 subst hj
 have H := K1
 clear G1 K1
 refine AA F Aa (fun hb => ?_) fun hb => ?_
 ·
  have H := AY hb H
  rw [hb] at F
  clear hb
  refine Ah (Ac ?_)
  refine ls F W Aa (Af F Aa).q fun a w F W => ?_
  refine Ae (Ab (AH (AL ?_)))
  have H := A2 H
  subst H
  refine BN (.inl Aa) F W Aa (Aw F Aa) ?_
  have W := W.nilRow 3 (Rp.int .i64)
  have W := W.sub (M' := []) (Z' := [row (Value.slice none 0 0) 3 (Rp.int .i64) ([])]) (List.nil_sublist _) (List.Sublist.refl _)
  exact ⟨(Value.slice none 0 0), Aa, W⟩
 have H := AX (by rw [hb]; decide) H
 rw [hb] at F
 clear hb
 refine Av (Ab (Ah (Ac ?_)))
 refine ls F W Aa (Af F Aa).q fun a w F W => ?_
 refine Ae (Ab ?_)
 obtain ⟨o2, G2, K2⟩ := Ai H
 refine AM (fun a w => ∃ x3 : List Int, ∃ v5 : Value, some (x3) = some o2 ∧ Fr 47 [] [(6, .slice none 0 0), (7, v5)] a ∧ Stw ⟨Y, [], w0⟩ [(b1, [.int .i64 p0.1, v1, v2])] [row v5 3 (Rp.int .i64) x3] w) ?_ ?_
 ·
  have H := G2
  clear G2 K2
  refine Ah (Ac ?_)
  refine ls F W Aa (Ad F Aa).q fun a w F W => ?_
  refine ls F W Aa (B4 (r := (Rp.slice (Rp.int .i64))) (l := p1) Iz Aa F Aa (BR Di h1 (Am h_v3))).q fun a w F W => ?_
  refine ls F W Aa (Ad F Aa).q fun a w F W => ?_
  refine Ae (Ab (Au ?_))
  have W := W.nilRow 3 (Rp.int .i64)
  refine Bn H (fun s a w => ∃ v6 : Value, Fr 47 [] [(1, v3), (2, .int .i64 p2), (3, .pointer (some ⟨b1, 0, none⟩)), (6, .slice none 0 0), (7, v6), (27, .int .i64 (p1.length : Int)), (28, .int .i64 s.2)] a ∧ Stw ⟨Y, [], w0⟩ [(b1, [.int .i64 p0.1, v1, v2])] [row v6 3 (Rp.int .i64) s.1] w) ⟨(Value.slice none 0 0), F.re ⟨rfl, Aa, Aa, Aa, Aa, Aa, Aa, trivial⟩, W⟩ fun s o a w H L3 hR => ?_
  obtain ⟨x4, x5⟩ := s
  obtain ⟨v6, F, W⟩ := hR
  have F : Fr 47 [] [(1, v3), (2, .int .i64 p2), (3, .pointer (some ⟨b1, 0, none⟩)), (6, .slice none 0 0), (7, v6), (27, .int .i64 (p1.length : Int)), (28, .int .i64 x5)] a := F
  have W : Stw ⟨Y, [], w0⟩ [(b1, [.int .i64 p0.1, v1, v2])] [row v6 3 (Rp.int .i64) x4] w := W
  rw [Ei] at H
  refine Ah (Ac ?_)
  refine ls F W Aa (BP F Aa Aa).q fun a w F W => ?_
  refine Ae (Ab (Ah ?_))
  refine AA F Aa (fun hb => ?_) fun hb => ?_
  ·
   have H := AY (BI hb) H
   rw [hb] at F
   clear hb
   refine Av (Ab (Ah (Au (Ah (Ac ?_)))))
   refine ls F W Aa (Ad F Aa).q fun a w F W => ?_
   refine ls F W Aa (Af F Aa).q fun a w F W => ?_
   refine Ae (Ab (Ah (Ac ?_)))
   refine ls F W Aa (Az (v := Value.agg #[.int .i64 p0.1, v1, v2]) 0 F Aa Aa Jh Aa).q fun a w F W => ?_
   iterate 3 refine ls F W Aa (Ad F Aa).q fun a w F W => ?_
   obtain ⟨x6, h3, H⟩ := Ai H
   refine B1 (Ml := []) (Zl := []) (M := [(b1, [.int .i64 p0.1, v1, v2])]) (Z := [row v6 3 (Rp.int .i64) x4]) (β := Value) (rv := fun x => .tuple #[x, .int .i64 x6.2]) (MM := fun x => []) (ZZ := fun x => [row x 3 (Rp.int .i64) x6.1]) F W Rn Aa Aa (fun hL => Ju _ w (v1) (v2) (v3) p0 p1 x5 p2 _ h3 ((Am h_v1) w W).nx ((Am h_v2) w W).nx ((BR Di h1 (Am h_v3)) w W).nx) fun x a w F W => ?_
   obtain ⟨v7, rfl⟩ : ∃ y, y = x := ⟨x, rfl⟩
   have W : Stw ⟨Y, [], w0⟩ [(b1, [.int .i64 p0.1, v1, v2])] [row v7 3 (Rp.int .i64) x6.1, row v6 3 (Rp.int .i64) x4] w := W
   refine ls F W Aa (Ad F Aa).q fun a w F W => ?_
   refine ls F W Aa (BE (v := v7) F Aa Aa).q fun a w F W => ?_
   refine ls F W Aa (BE (v := Value.int .i64 x6.2) F Aa Aa).q fun a w F W => ?_
   iterate 2 refine ls F W Aa (Af F Aa).q fun a w F W => ?_
   refine Ae (Ab (Ac ?_))
   iterate 2 refine ls F W Aa (Ad F Aa).q fun a w F W => ?_
   refine ls F W Aa (B4 (r := (Rp.int .i64)) (l := x6.1) Hw Aa F Aa (An 0 Aa)).q fun a w F W => ?_
   refine ls F W Aa (Cq F Aa Aa Aa).q fun a w F W => ?_
   refine FS (z := Value.int .i64 0) (cs := [.int .i64 (AB ((x6.1.length : Int) - 1))]) (Rp.int .i64) ([AB ((x6.1.length : Int) - 1)] : List Int) F W Aa Hn Z3 Aa Aa Aa Aa Aa Aa (Fl.int.repL _ _ ([AB ((x6.1.length : Int) - 1)] : List Int)) fun v8 a w F W => ?_
   obtain ⟨x7, h4, H⟩ := Ai H
   refine GV (r := (Rp.int .i64)) (i := 2) F W Aa Hn Aa Aa Aa Aa (Iq W 0 Aa) h4 Aa fun v9 a w F W => ?_
   have W : Stw ⟨Y, [], w0⟩ [(b1, [.int .i64 p0.1, v1, v2])] [row v9 3 (Rp.int .i64) x7, row v8 3 (Rp.int .i64) ([AB ((x6.1.length : Int) - 1)] : List Int), row v7 3 (Rp.int .i64) x6.1] w := W
   refine ls F W Aa (Af F Aa).q fun a w F W => ?_
   refine Ae (AV (Ab (Ac ?_)))
   refine ls F W Aa (BK F Aa Aa Aa).q fun a w F W => ?_
   refine ls F W Aa (Ad F Aa).q fun a w F W => ?_
   refine Ae (Ab ?_)
   have W := W.sub (M' := [(b1, [.int .i64 p0.1, v1, v2])]) (Z' := [row v9 3 (Rp.int .i64) x7]) (List.Sublist.refl _) (List.Sublist.cons_cons _ (List.nil_sublist _))
   exact ⟨_, H, (v9), F.re ⟨rfl, Aa, Aa, Aa, Aa, Aa, Aa, trivial⟩, W⟩
  have H := AX (BJ hb) H
  rw [hb] at F
  clear hb
  refine Bm ?_
  iterate 2 refine BG ?_
  refine Bl (Ab ?_)
  have H := L3 _ H
  exact ⟨_, (v6), H, F.re ⟨rfl, Aa, trivial⟩, W⟩
 rintro a w ⟨x3, v5, hj, F, W⟩
 have hj := A2 hj
 subst hj
 have H := K2
 clear G2 K2
 refine Ah (Ac ?_)
 refine ls F W Aa (Ad F Aa).q fun a w F W => ?_
 refine ls F W Aa (Af F Aa).q fun a w F W => ?_
 refine Ae (Ab (AH ?_))
 have H := A2 H
 subst H
 refine BN (.inl Aa) F W Aa (Aw F Aa) ?_
 have W := W.sub (M' := []) (Z' := [row v5 3 (Rp.int .i64) x3]) (List.nil_sublist _) (List.Sublist.refl _)
 exact ⟨(v5), Aa, W⟩
theorem Re : type_of% Try.underlying5 := Try.underlying5
theorem SB : type_of% Try.underlying9 := Try.underlying9
theorem Ok : type_of% Try.underlying31 := Try.underlying31
theorem Ia : type_of% Try.underlying62 := Try.underlying62
theorem QG : type_of% Try.underlying113 := Try.underlying113
theorem Sw : Has Try.prog 24 := ⟨fun args w => Al Try.func24 rfl (by decide) args w⟩
theorem Rr : Bt Try.prog 62 [.int .i64 0, .int .i64 0, .int .i64 0, .int .i64 0] [(0, 1), (1, 1), (2, 1), (3, 1)] := ⟨⟨.agg #[.int .i64 0, .int .i64 0, .int .i64 0, .int .i64 0], by kernel_rfl, rfl⟩, ⟨_, Ia, fun w => by kernel_rfl⟩⟩
theorem QP : (Try.prog.info? 62).bind (·.zero) = some (.agg #[.int .i64 0, .int .i64 0, .int .i64 0, .int .i64 0]) := by kernel_rfl
abbrev Be : Rp (Int × Int × Int × Int) := (Rp.pair (Rp.int .i64) (Rp.pair (Rp.int .i64) (Rp.pair (Rp.int .i64) (Rp.int .i64))))
def RQ (a : Int × Int × Int × Int) : List Value := [.int .i64 a.1, .int .i64 a.2.1, .int .i64 a.2.2.1, .int .i64 a.2.2.2]
theorem Ed : Fl Be RQ := (Fl.pair Fl.int (Fl.pair Fl.int (Fl.pair Fl.int Fl.int)))
theorem Eb : Et Try.prog 31 62 4 32 := Et.of Ok (by kernel_rfl) (by kernel_rfl) (by kernel_rfl) (by decide)
noncomputable def Eh (p0 : Int) : Option Int := (if 4294967296 ≤ p0 then some (Gt .u64 p0 32, 32) else some (p0, 0)).bind fun (x1, x2) => (if 65536 ≤ x1 then some (Gt .u64 x1 16, AB (x2 + 16)) else some (x1, x2)).bind fun (x3, x4) => (if 256 ≤ x3 then some (Gt .u64 x3 8, AB (x4 + 8)) else some (x3, x4)).bind fun (x5, x6) => (ix ([0, 1, 2, 2, 3, 3, 3, 3, 4, 4, 4, 4, 4, 4, 4, 4, 5, 5, 5, 5, 5, 5, 5, 5, 5, 5, 5, 5, 5, 5, 5, 5, 6, 6, 6, 6, 6, 6, 6, 6, 6, 6, 6, 6, 6, 6, 6, 6, 6, 6, 6, 6, 6, 6, 6, 6, 6, 6, 6, 6, 6, 6, 6, 6, 7, 7, 7, 7, 7, 7, 7, 7, 7, 7, 7, 7, 7, 7, 7, 7, 7, 7, 7, 7, 7, 7, 7, 7, 7, 7, 7, 7, 7, 7, 7, 7, 7, 7, 7, 7, 7, 7, 7, 7, 7, 7, 7, 7, 7, 7, 7, 7, 7, 7, 7, 7, 7, 7, 7, 7, 7, 7, 7, 7, 7, 7, 7, 7, 8, 8, 8, 8, 8, 8, 8, 8, 8, 8, 8, 8, 8, 8, 8, 8, 8, 8, 8, 8, 8, 8, 8, 8, 8, 8, 8, 8, 8, 8, 8, 8, 8, 8, 8, 8, 8, 8, 8, 8, 8, 8, 8, 8, 8, 8, 8, 8, 8, 8, 8, 8, 8, 8, 8, 8, 8, 8, 8, 8, 8, 8, 8, 8, 8, 8, 8, 8, 8, 8, 8, 8, 8, 8, 8, 8, 8, 8, 8, 8, 8, 8, 8, 8, 8, 8, 8, 8, 8, 8, 8, 8, 8, 8, 8, 8, 8, 8, 8, 8, 8, 8, 8, 8, 8, 8, 8, 8, 8, 8, 8, 8, 8, 8, 8, 8, 8, 8, 8, 8, 8, 8, 8, 8, 8, 8, 8, 8] : List UInt8) (IntKind.u8.wrap x5)).bind fun x7 => some (AB (x6 + (AB (x7.toNat : Int))))
theorem JB (Y : Nat → Prop) (w0 : World)  (p0 : Int) (r : Int) (H : Eh p0 = some r)  :
    Calls Try.prog 68 #[.int .u64 p0] w0 fun e w' => e = .returned (.int .i64 r) ∧ Below w0.heap.size w0 w' := by
 refine enter Try.func68 Aa Try.ntmps68 Aa fun a F => ?_
 have W := Stw.start Y w0
 unfold Eh at H
 refine Ah (Ac ?_)
 refine ls F W Aa (Af F Aa).q fun a w F W => ?_
 refine Ae (Ab ?_)
 obtain ⟨o1, G1, K1⟩ := Ai H
 refine AM (fun a w => ∃ x1 : Int, ∃ x2 : Int, some ((x1, x2)) = some o1 ∧ Fr 25 [] [(0, .int .u64 x1), (2, .int .i64 x2)] a ∧ Stw ⟨Y, [], w0⟩ [] [] w) ?_ ?_
 ·
  have H := G1
  clear G1 K1
  refine Ah (Ac ?_)
  refine ls F W Aa (Ad F Aa).q fun a w F W => ?_
  refine ls F W Aa (DU F Aa Aa).q fun a w F W => ?_
  refine Ae (Ab ?_)
  refine AA F Aa (fun hb => ?_) fun hb => ?_
  ·
   have H := AY (BI hb) H
   rw [hb] at F
   clear hb
   refine Ah (Ac ?_)
   refine ls F W Aa (Ad F Aa).q fun a w F W => ?_
   refine ls F W Aa (NB F Aa Aa (by decide)).q fun a w F W => ?_
   refine ls F W Aa (Af F Aa).q fun a w F W => ?_
   refine Ae (Ab (Ac ?_))
   refine ls F W Aa (Af F Aa).q fun a w F W => ?_
   refine Ae (Ab ?_)
   exact ⟨_, _, H, F.re ⟨rfl, Aa, trivial⟩, W⟩
  have H := AX (BJ hb) H
  rw [hb] at F
  clear hb
  refine Av (Ab ?_)
  exact ⟨_, _, H, F.re ⟨rfl, Aa, trivial⟩, W⟩
 rintro a w ⟨x1, x2, hj, F, W⟩
 have hj := A2 hj
 subst hj
 have H := K1
 clear G1 K1
 obtain ⟨o2, G2, K2⟩ := Ai H
 refine AM (fun a w => ∃ x3 : Int, ∃ x4 : Int, some ((x3, x4)) = some o2 ∧ Fr 25 [] [(0, .int .u64 x3), (2, .int .i64 x4)] a ∧ Stw ⟨Y, [], w0⟩ [] [] w) ?_ ?_
 ·
  have H := G2
  clear G2 K2
  refine Ah (Ac ?_)
  refine ls F W Aa (Ad F Aa).q fun a w F W => ?_
  refine ls F W Aa (DU F Aa Aa).q fun a w F W => ?_
  refine Ae (Ab ?_)
  refine AA F Aa (fun hb => ?_) fun hb => ?_
  ·
   have H := AY (BI hb) H
   rw [hb] at F
   clear hb
   refine Ah (Ac ?_)
   refine ls F W Aa (Ad F Aa).q fun a w F W => ?_
   refine ls F W Aa (NB F Aa Aa (by decide)).q fun a w F W => ?_
   refine ls F W Aa (Af F Aa).q fun a w F W => ?_
   refine Ae (Ab (Ac ?_))
   refine ls F W Aa (Ad F Aa).q fun a w F W => ?_
   refine ls F W Aa (BK F Aa Aa Aa).q fun a w F W => ?_
   refine ls F W Aa (Af F Aa).q fun a w F W => ?_
   refine Ae (Ab ?_)
   exact ⟨_, _, H, F.re ⟨rfl, Aa, trivial⟩, W⟩
  have H := AX (BJ hb) H
  rw [hb] at F
  clear hb
  refine Av (Ab ?_)
  exact ⟨_, _, H, F.re ⟨rfl, Aa, trivial⟩, W⟩
 rintro a w ⟨x3, x4, hj, F, W⟩
 have hj := A2 hj
 subst hj
 have H := K2
 clear G2 K2
 obtain ⟨o3, G3, K3⟩ := Ai H
 refine AM (fun a w => ∃ x5 : Int, ∃ x6 : Int, some ((x5, x6)) = some o3 ∧ Fr 25 [] [(0, .int .u64 x5), (2, .int .i64 x6)] a ∧ Stw ⟨Y, [], w0⟩ [] [] w) ?_ ?_
 ·
  have H := G3
  clear G3 K3
  refine Ah (Ac ?_)
  refine ls F W Aa (Ad F Aa).q fun a w F W => ?_
  refine ls F W Aa (DU F Aa Aa).q fun a w F W => ?_
  refine Ae (Ab ?_)
  refine AA F Aa (fun hb => ?_) fun hb => ?_
  ·
   have H := AY (BI hb) H
   rw [hb] at F
   clear hb
   refine Ah (Ac ?_)
   refine ls F W Aa (Ad F Aa).q fun a w F W => ?_
   refine ls F W Aa (NB F Aa Aa (by decide)).q fun a w F W => ?_
   refine ls F W Aa (Af F Aa).q fun a w F W => ?_
   refine Ae (Ab (Ac ?_))
   refine ls F W Aa (Ad F Aa).q fun a w F W => ?_
   refine ls F W Aa (BK F Aa Aa Aa).q fun a w F W => ?_
   refine ls F W Aa (Af F Aa).q fun a w F W => ?_
   refine Ae (Ab ?_)
   exact ⟨_, _, H, F.re ⟨rfl, Aa, trivial⟩, W⟩
  have H := AX (BJ hb) H
  rw [hb] at F
  clear hb
  refine Av (Ab ?_)
  exact ⟨_, _, H, F.re ⟨rfl, Aa, trivial⟩, W⟩
 rintro a w ⟨x5, x6, hj, F, W⟩
 have hj := A2 hj
 subst hj
 have H := K3
 clear G3 K3
 refine Ah (Ac ?_)
 iterate 2 refine ls F W Aa (Ad F Aa).q fun a w F W => ?_
 refine ls F W Aa (IA QG Re F Aa).q fun a w F W => ?_
 obtain ⟨x7, h1, H⟩ := Ai H
 refine ls F W Aa (OA (l := ([0, 1, 2, 2, 3, 3, 3, 3, 4, 4, 4, 4, 4, 4, 4, 4, 5, 5, 5, 5, 5, 5, 5, 5, 5, 5, 5, 5, 5, 5, 5, 5, 6, 6, 6, 6, 6, 6, 6, 6, 6, 6, 6, 6, 6, 6, 6, 6, 6, 6, 6, 6, 6, 6, 6, 6, 6, 6, 6, 6, 6, 6, 6, 6, 7, 7, 7, 7, 7, 7, 7, 7, 7, 7, 7, 7, 7, 7, 7, 7, 7, 7, 7, 7, 7, 7, 7, 7, 7, 7, 7, 7, 7, 7, 7, 7, 7, 7, 7, 7, 7, 7, 7, 7, 7, 7, 7, 7, 7, 7, 7, 7, 7, 7, 7, 7, 7, 7, 7, 7, 7, 7, 7, 7, 7, 7, 7, 7, 8, 8, 8, 8, 8, 8, 8, 8, 8, 8, 8, 8, 8, 8, 8, 8, 8, 8, 8, 8, 8, 8, 8, 8, 8, 8, 8, 8, 8, 8, 8, 8, 8, 8, 8, 8, 8, 8, 8, 8, 8, 8, 8, 8, 8, 8, 8, 8, 8, 8, 8, 8, 8, 8, 8, 8, 8, 8, 8, 8, 8, 8, 8, 8, 8, 8, 8, 8, 8, 8, 8, 8, 8, 8, 8, 8, 8, 8, 8, 8, 8, 8, 8, 8, 8, 8, 8, 8, 8, 8, 8, 8, 8, 8, 8, 8, 8, 8, 8, 8, 8, 8, 8, 8, 8, 8, 8, 8, 8, 8, 8, 8, 8, 8, 8, 8, 8, 8, 8, 8, 8, 8, 8, 8, 8, 8, 8, 8] : List UInt8)) SB F Aa Aa h1).q fun a w F W => ?_
 refine ls F W Aa (IA Re MW F Aa).q fun a w F W => ?_
 refine ls F W Aa (BK F Aa Aa Aa).q fun a w F W => ?_
 refine ls F W Aa (Af F Aa).q fun a w F W => ?_
 refine Ae (Ab (AH ?_))
 have H := A2 H
 subst H
 refine BN (.inl Aa) F W Aa (Aw F Aa) ?_
 exact ⟨rfl, W.done⟩
theorem RG : Has Try.prog 68 := ⟨fun args w => Al Try.func68 rfl (by decide) args w⟩
noncomputable def Dy (p0 : Int) : Option Int := (Eh p0).bind fun x1 => some x1
theorem Hh (Y : Nat → Prop) (w0 : World)  (p0 : Int) (r : Int) (H : Dy p0 = some r)  :
    Calls Try.prog 43 #[.int .u64 p0] w0 fun e w' => e = .returned (.int .i64 r) ∧ Below w0.heap.size w0 w' := by
 refine enter Try.func43 Aa Try.ntmps43 Aa fun a F => ?_
 have W := Stw.start Y w0
 unfold Dy at H
 refine Ah (Ac ?_)
 refine ls F W Aa (Af F Aa).q fun a w F W => ?_
 refine Ae (Ab (Ah ?_))
 refine My F Aa ?_
 refine Av (Ab (Ah (Ac ?_)))
 refine ls F W Aa (Ad F Aa).q fun a w F W => ?_
 obtain ⟨x1, h1, H⟩ := Ai H
 refine ls F W Aa (B0 (v := Value.int .i64 x1) F RG Aa (fun w W => JB any w p0 _ h1)) fun a w F W => ?_
 refine ls F W Aa (Af F Aa).q fun a w F W => ?_
 refine Ae (Ab (AH ?_))
 have H := A2 H
 subst H
 refine BN (.inl Aa) F W Aa (Aw F Aa) ?_
 exact ⟨rfl, W.done⟩
theorem Rc : Has Try.prog 43 := ⟨fun args w => Al Try.func43 rfl (by decide) args w⟩
theorem D9 : Ty Try.prog 62 true 4 := ⟨by kernel_rfl, by kernel_rfl⟩
def BM (p0 : Int) : Bool := decide (p0 ≠ p0)
theorem FY (Y : Nat → Prop) (w0 : World)  (p0 : Int) (r : Bool) (H : BM p0 = r)  :
    Calls Try.prog 44 #[.int .i64 p0] w0 fun e w' => e = .returned (.bool r) ∧ Below w0.heap.size w0 w' := by
 refine enter Try.func44 Aa Try.ntmps44 Aa fun a F => ?_
 have W := Stw.start Y w0
 unfold BM at H
 refine Ah (Ac ?_)
 refine ls F W Aa (Af F Aa).q fun a w F W => ?_
 refine Ae (Ab (Ah (Ac ?_)))
 iterate 2 refine ls F W Aa (Ad F Aa).q fun a w F W => ?_
 refine ls F W Aa (HN F Aa Aa).q fun a w F W => ?_
 refine ls F W Aa (Af F Aa).q fun a w F W => ?_
 refine Ae (Ab (AH ?_))
 subst H
 refine BN (.inl Aa) F W Aa (Aw F Aa) ?_
 exact ⟨rfl, W.done⟩
theorem QL : Has Try.prog 44 := ⟨fun args w => Al Try.func44 rfl (by decide) args w⟩
def AU (p0 : Int) (p1 : Int) : Int := (if (BM p0) = true then (if (BM p1) = true then 0 else (-1)) else (if (BM p1) = true then 1 else (if p0 < p1 then (-1) else (if p1 < p0 then 1 else 0))))
theorem Gx (Y : Nat → Prop) (w0 : World)  (p0 : Int) (p1 : Int) (r : Int) (H : AU p0 p1 = r)  :
    Calls Try.prog 28 #[.int .i64 p0, .int .i64 p1] w0 fun e w' => e = .returned (.int .i64 r) ∧ Below w0.heap.size w0 w' := by
 refine enter Try.func28 Aa Try.ntmps28 Aa fun a F => ?_
 have W := Stw.start Y w0
 unfold AU at H
 refine Ah (Ac ?_)
 refine ls F W Aa (Af F Aa).q fun a w F W => ?_
 refine Ae (Ab (Ah (Ac ?_)))
 refine ls F W Aa (Ad F Aa).q fun a w F W => ?_
 refine ls F W Aa (B0 (v := Value.bool (BM p0)) F QL Aa (fun w W => FY any w p0 _ Aa)) fun a w F W => ?_
 refine ls F W Aa (Af F Aa).q fun a w F W => ?_
 refine Ae (Ab (Ah (Ac ?_)))
 refine ls F W Aa (Ad F Aa).q fun a w F W => ?_
 refine ls F W Aa (B0 (v := Value.bool (BM p1)) F QL Aa (fun w W => FY any w p1 _ Aa)) fun a w F W => ?_
 refine ls F W Aa (Af F Aa).q fun a w F W => ?_
 refine Ae (Ab (Ah (Ah (Ac ?_))))
 refine ls F W Aa (Ad F Aa).q fun a w F W => ?_
 refine Ae (Ab ?_)
 refine AA F Aa (fun hb => ?_) fun hb => ?_
 ·
  have H := AY hb H
  rw [hb] at F
  clear hb
  refine Ah (Ah (Ac ?_))
  refine ls F W Aa (Ad F Aa).q fun a w F W => ?_
  refine Ae (Ab ?_)
  refine AA F Aa (fun hb => ?_) fun hb => ?_
  ·
   have H := AY hb H
   rw [hb] at F
   clear hb
   refine Ah (Ac ?_)
   refine ls F W Aa (Af F Aa).q fun a w F W => ?_
   refine Ae (Ab (AH ?_))
   iterate 2 refine AL ?_
   subst H
   refine BN (.inl Aa) F W Aa (Aw F Aa) ?_
   exact ⟨rfl, W.done⟩
  have H := AX (by rw [hb]; decide) H
  rw [hb] at F
  clear hb
  refine Av (Ab (Ah (Ac ?_)))
  refine ls F W Aa (Af F Aa).q fun a w F W => ?_
  refine Ae (Ab (AH (AL ?_)))
  subst H
  refine BN (.inl Aa) F W Aa (Aw F Aa) ?_
  exact ⟨rfl, W.done⟩
 have H := AX (by rw [hb]; decide) H
 rw [hb] at F
 clear hb
 refine Av (Ab (Ah (Ah (Ac ?_))))
 refine ls F W Aa (Ad F Aa).q fun a w F W => ?_
 refine Ae (Ab ?_)
 refine AA F Aa (fun hb => ?_) fun hb => ?_
 ·
  have H := AY hb H
  rw [hb] at F
  clear hb
  refine Ah (Ac ?_)
  refine ls F W Aa (Af F Aa).q fun a w F W => ?_
  refine Ae (Ab (AH (AL ?_)))
  subst H
  refine BN (.inl Aa) F W Aa (Aw F Aa) ?_
  exact ⟨rfl, W.done⟩
 have H := AX (by rw [hb]; decide) H
 rw [hb] at F
 clear hb
 refine Av (Ab (Ah (Ah (Ac ?_))))
 iterate 2 refine ls F W Aa (Ad F Aa).q fun a w F W => ?_
 refine ls F W Aa (BP F Aa Aa).q fun a w F W => ?_
 refine Ae (Ab ?_)
 refine AA F Aa (fun hb => ?_) fun hb => ?_
 ·
  have H := AY (BI hb) H
  rw [hb] at F
  clear hb
  refine Ah (Ac ?_)
  refine ls F W Aa (Af F Aa).q fun a w F W => ?_
  refine Ae (Ab (AH (AL ?_)))
  subst H
  refine BN (.inl Aa) F W Aa (Aw F Aa) ?_
  exact ⟨rfl, W.done⟩
 have H := AX (BJ hb) H
 rw [hb] at F
 clear hb
 refine Av (Ab (Ah (Ah (Ac ?_))))
 iterate 2 refine ls F W Aa (Ad F Aa).q fun a w F W => ?_
 refine ls F W Aa (Gv F Aa Aa).q fun a w F W => ?_
 refine Ae (Ab ?_)
 refine AA F Aa (fun hb => ?_) fun hb => ?_
 ·
  have H := AY (BI hb) H
  rw [hb] at F
  clear hb
  refine Ah (Ac ?_)
  refine ls F W Aa (Af F Aa).q fun a w F W => ?_
  refine Ae (Ab (AH (AL ?_)))
  subst H
  refine BN (.inl Aa) F W Aa (Aw F Aa) ?_
  exact ⟨rfl, W.done⟩
 have H := AX (BJ hb) H
 rw [hb] at F
 clear hb
 refine Av (Ab (Ah (Ac ?_)))
 refine ls F W Aa (Af F Aa).q fun a w F W => ?_
 refine Ae (Ab (AH ?_))
 subst H
 refine BN (.inl Aa) F W Aa (Aw F Aa) ?_
 exact ⟨rfl, W.done⟩
theorem Q2 : Has Try.prog 28 := ⟨fun args w => Al Try.func28 rfl (by decide) args w⟩
noncomputable def C6 (p0 : List Int) : Int → Option (Int ⊕ (Unit ⊕ Int))
  | x1 => (if x1 < (p0.length : Int) then (ix p0 x1).bind fun x2 => (if x2 ≠ 0 then some (.inr (.inr x2)) else some (.inl (AB (x1 + 1)))) else some (.inr (.inl ())))
noncomputable def F2 (p0 : List Int) : Option Int := F3 (AN (C6 p0) 0) fun _ => some 0
theorem Mh (Y : Nat → Prop) (w0 : World) (v1 : Value) (p0 : List Int) (r : Int) (H : F2 p0 = some r) (h_v1 : Sl w0 (NX []) (Rp.int .i64) v1 p0) :
    Calls Try.prog 27 #[v1] w0 fun e w' => e = .returned (.int .i64 r) ∧ Below w0.heap.size w0 w' := by
 refine enter Try.func27 Aa Try.ntmps27 Aa fun a F => ?_
 have W := Stw.start Y w0
 unfold F2 at H
 refine Ah (Ac ?_)
 refine ls F W Aa (Af F Aa).q fun a w F W => ?_
 refine Ae (Ab (Ah (Ac ?_)))
 refine ls F W Aa (Af F Aa).q fun a w F W => ?_
 refine Ae (Ab ?_)
 obtain ⟨o1, G1, K1, L1⟩ := Jy H
 refine AM (fun a w => some (Sum.inl ()) = some o1 ∧ Fr 18 [] [(2, .int .i64 0), (3, .int .i64 0)] a ∧ Stw ⟨Y, [], w0⟩ [] [] w) ?_ ?_
 ·
  have H := G1
  clear G1 K1
  refine Ah (Ac ?_)
  refine ls F W Aa (Ad F Aa).q fun a w F W => ?_
  refine ls F W Aa (B4 (r := (Rp.int .i64)) (l := p0) Hw Aa F Aa (Am h_v1)).q fun a w F W => ?_
  refine ls F W Aa (Ad F Aa).q fun a w F W => ?_
  refine Ae (Ab (Au ?_))
  refine Bn H (fun s a w => Fr 18 [] [(2, .int .i64 0), (3, .int .i64 0), (6, v1), (7, .int .i64 (p0.length : Int)), (8, .int .i64 s)] a ∧ Stw ⟨Y, [], w0⟩ [] [] w) ⟨F.re ⟨rfl, Aa, Aa, Aa, Aa, trivial⟩, W⟩ fun s o a w H L2 hR => ?_
  obtain ⟨x1, rfl⟩ : ∃ x, x = s := ⟨s, rfl⟩
  obtain ⟨F, W⟩ := hR
  have F : Fr 18 [] [(2, .int .i64 0), (3, .int .i64 0), (6, v1), (7, .int .i64 (p0.length : Int)), (8, .int .i64 x1)] a := F
  have W : Stw ⟨Y, [], w0⟩ [] [] w := W
  rw [C6] at H
  refine Ah (Ac ?_)
  refine ls F W Aa (BP F Aa Aa).q fun a w F W => ?_
  refine Ae (Ab (Ah ?_))
  refine AA F Aa (fun hb => ?_) fun hb => ?_
  ·
   have H := AY (BI hb) H
   rw [hb] at F
   clear hb
   refine Av (Ab (Ah (Au (Ah (Ac ?_)))))
   obtain ⟨x2, h1, H⟩ := Ai H
   refine ls F W Aa (Ax (r := (Rp.int .i64)) Hn F Aa Aa (Am h_v1) h1).q fun a w F W => ?_
   refine ls F W Aa (Ao (y := Value.int .i64 x2) (j := 0) (i := x1) F Aa Aa (Am h_v1) h1 Fl.int.to T3 Aa).q fun a w F W => ?_
   refine ls F W Aa (Af F Aa).q fun a w F W => ?_
   refine Ae (Ab (Ah (Ac ?_)))
   iterate 2 refine ls F W Aa (Ad F Aa).q fun a w F W => ?_
   refine ls F W Aa (HN F Aa Aa).q fun a w F W => ?_
   refine Ae (Ab ?_)
   refine AA F Aa (fun hb => ?_) fun hb => ?_
   ·
    have H := AY (BI hb) H
    rw [hb] at F
    clear hb
    refine Ah (Ac ?_)
    refine ls F W Aa (Ad F Aa).q fun a w F W => ?_
    refine ls F W Aa (Af F Aa).q fun a w F W => ?_
    refine Ae (Ab (AH (AS ?_)))
    iterate 2 refine AL ?_
    refine AS (AL ?_)
    have H := L2 _ H
    have H := L1 _ H
    have H := A2 H
    subst H
    refine BN (.inl Aa) F W Aa (Aw F Aa) ?_
    exact ⟨rfl, W.done⟩
   have H := AX (BJ hb) H
   rw [hb] at F
   clear hb
   refine Av (AV (Ab (Ac ?_)))
   refine ls F W Aa (BK F Aa Aa Aa).q fun a w F W => ?_
   refine ls F W Aa (Ad F Aa).q fun a w F W => ?_
   refine Ae (Ab ?_)
   exact ⟨_, H, F.re ⟨rfl, Aa, Aa, Aa, Aa, trivial⟩, W⟩
  have H := AX (BJ hb) H
  rw [hb] at F
  clear hb
  refine Bm ?_
  iterate 2 refine BG ?_
  refine Bl (Ab ?_)
  have H := L2 _ H
  exact ⟨H, F.re ⟨rfl, Aa, trivial⟩, W⟩
 rintro a w ⟨hj, F, W⟩
 have H := K1 _ hj
 clear hj G1 K1 L1
 refine Ah (Ac ?_)
 refine ls F W Aa (Ad F Aa).q fun a w F W => ?_
 refine ls F W Aa (Af F Aa).q fun a w F W => ?_
 refine Ae (Ab (AH ?_))
 have H := A2 H
 subst H
 refine BN (.inl Aa) F W Aa (Aw F Aa) ?_
 exact ⟨rfl, W.done⟩
theorem Si : Has Try.prog 27 := ⟨fun args w => Al Try.func27 rfl (by decide) args w⟩
noncomputable def BT (p0 : Int × Int × Int × Int) (p1 : Int × Int × Int × Int) : Option Int := (F2 ([(AU p0.2.2.2 p1.2.2.2), (AU p0.1 p1.1), (AU p0.2.1 p1.2.1)] : List Int)).bind fun x1 => some x1
theorem Ca (Y : Nat → Prop) (w0 : World)  (p0 : Int × Int × Int × Int) (p1 : Int × Int × Int × Int) (r : Int) (H : BT p0 p1 = some r)  :
    Calls Try.prog 26 #[.agg #[.int .i64 p0.1, .int .i64 p0.2.1, .int .i64 p0.2.2.1, .int .i64 p0.2.2.2], .agg #[.int .i64 p1.1, .int .i64 p1.2.1, .int .i64 p1.2.2.1, .int .i64 p1.2.2.2]] w0 fun e w' => e = .returned (.int .i64 r) ∧ Below w0.heap.size w0 w' := by
 refine enter Try.func26 Aa Try.ntmps26 Aa fun a F => ?_
 have W := Stw.start Y w0
 unfold BT at H
 refine Ah (Ac ?_)
 refine E0 (cs := [.int .i64 p0.1, .int .i64 p0.2.1, .int .i64 p0.2.2.1, .int .i64 p0.2.2.2]) F W Aa Aa Aa fun b1 a w F W => ?_
 refine E0 (cs := [.int .i64 p1.1, .int .i64 p1.2.1, .int .i64 p1.2.2.1, .int .i64 p1.2.2.2]) F W Aa Aa Aa fun b2 a w F W => ?_
 refine ls F W Aa (Af F Aa).q fun a w F W => ?_
 refine Ae (Ab (Ah ?_))
 refine IV 15 W MO (by kernel_rfl) ?_
 refine qs F Aa (Aj Ia Aa Aa Aa T3 F Aa 3 Aa).q fun a F => ?_
 refine qs F Aa (Az (v := Value.int .i64 p0.2.2.2) 1 F Aa Aa T3 Aa).q fun a F => ?_
 refine qs F Aa (Aj Ia Aa Aa Aa T3 F Aa 3 Aa).q fun a F => ?_
 refine qs F Aa (Az (v := Value.int .i64 p1.2.2.2) 0 F Aa Aa T3 Aa).q fun a F => ?_
 refine qs F Aa (B0 (v := Value.int .i64 (AU p0.2.2.2 p1.2.2.2)) F Q2 Aa (fun w W => Gx any w p0.2.2.2 p1.2.2.2 _ Aa)) fun a F => ?_
 refine qs F Aa (Aj Ia Aa Aa Aa T3 F Aa 0 Aa).q fun a F => ?_
 refine qs F Aa (Az (v := Value.int .i64 p0.1) 1 F Aa Aa T3 Aa).q fun a F => ?_
 refine qs F Aa (Aj Ia Aa Aa Aa T3 F Aa 0 Aa).q fun a F => ?_
 refine qs F Aa (Az (v := Value.int .i64 p1.1) 0 F Aa Aa T3 Aa).q fun a F => ?_
 refine qs F Aa (B0 (v := Value.int .i64 (AU p0.1 p1.1)) F Q2 Aa (fun w W => Gx any w p0.1 p1.1 _ Aa)) fun a F => ?_
 refine qs F Aa (Aj Ia Aa Aa Aa T3 F Aa 1 Aa).q fun a F => ?_
 refine qs F Aa (Az (v := Value.int .i64 p0.2.1) 1 F Aa Aa T3 Aa).q fun a F => ?_
 refine qs F Aa (Aj Ia Aa Aa Aa T3 F Aa 1 Aa).q fun a F => ?_
 refine qs F Aa (Az (v := Value.int .i64 p1.2.1) 0 F Aa Aa T3 Aa).q fun a F => ?_
 refine qs F Aa (B0 (v := Value.int .i64 (AU p0.2.1 p1.2.1)) F Q2 Aa (fun w W => Gx any w p0.2.1 p1.2.1 _ Aa)) fun a F => ?_
 refine A5 fun w W => ?_
 refine FS (z := Value.int .i64 0) (cs := [.int .i64 (AU p0.2.2.2 p1.2.2.2), .int .i64 (AU p0.1 p1.1), .int .i64 (AU p0.2.1 p1.2.1)]) (Rp.int .i64) ([(AU p0.2.2.2 p1.2.2.2), (AU p0.1 p1.1), (AU p0.2.1 p1.2.1)] : List Int) F W Aa Hn Z3 Aa Aa Aa Aa Aa Aa (Fl.int.repL _ _ ([(AU p0.2.2.2 p1.2.2.2), (AU p0.1 p1.1), (AU p0.2.1 p1.2.1)] : List Int)) fun v1 a w F W => ?_
 obtain ⟨x1, h1, H⟩ := Ai H
 refine ls F W Aa (B0 (v := Value.int .i64 x1) F Si Aa (fun w W => Mh any w (v1) ([(AU p0.2.2.2 p1.2.2.2), (AU p0.1 p1.1), (AU p0.2.1 p1.2.1)] : List Int) _ h1 (((An 0 Aa) : DP _ _ _ _ _ _) w W).nx)) fun a w F W => ?_
 refine ls F W Aa (Af F Aa).q fun a w F W => ?_
 refine Ae (Ab (AH ?_))
 have H := A2 H
 subst H
 refine BN (.inl Aa) F W Aa (Aw F Aa) ?_
 exact ⟨rfl, W.done⟩
theorem NL : Has Try.prog 26 := ⟨fun args w => Al Try.func26 rfl (by decide) args w⟩
noncomputable def AO (p1 : Int) : ((List (Int × Int × Int × Int)) × Int) → Option (((List (Int × Int × Int × Int)) × Int) ⊕ (List (Int × Int × Int × Int)))
  | (x4, x5) => (if p1 < x5 then (ix x4 x5).bind fun x7 => (ix x4 (AB (x5 - 1))).bind fun x8 => (BT x7 x8).bind fun x9 => some (decide (x9 < 0)) else some false).bind fun x6 => (if x6 = true then (ix x4 (AB (x5 - 1))).bind fun x10 => (ix x4 x5).bind fun x11 => (ix x4 x5).bind fun x12 => (ix (Aq x4 x5 x10) (AB (x5 - 1))).bind fun x13 => some (.inl ((Aq (Aq x4 x5 x10) (AB (x5 - 1)) x11), AB (x5 - 1))) else some (.inr x4))
noncomputable def A8 (p1 : Int) (p2 : Int) : ((List (Int × Int × Int × Int)) × Int) → Option (((List (Int × Int × Int × Int)) × Int) ⊕ (List (Int × Int × Int × Int)))
  | (x1, x2) => (if x2 < p2 then (AN (AO p1) (x1, x2)).bind fun x3 => some (.inl (x3, AB (x2 + 1))) else some (.inr x1))
noncomputable def Bu (p0 : List (Int × Int × Int × Int)) (p1 : Int) (p2 : Int) : Option (List (Int × Int × Int × Int)) := AN (A8 p1 p2) (p0, AB (p1 + 1))
theorem E2 (Y : Nat → Prop) (X : List Nat) (w0 : World) (v1 : Value) (p0 : List (Int × Int × Int × Int)) (p1 : Int) (p2 : Int) (r : (List (Int × Int × Int × Int))) (H : Bu p0 p1 p2 = some r) (hL : Stw ⟨Y, X, w0⟩ [] [row v1 62 Be p0] w0) :
    Calls Try.prog 59 #[v1, .int .i64 p1, .int .i64 p2, .func (.func 26) #[] #[]] w0 fun e w' => ∃ x : Unit, e = .returned (.tuple #[]) ∧ Stw ⟨Y, X, w0⟩ [] [row v1 62 Be r] w' := by
 refine enter Try.func59 Aa Try.ntmps59 Aa fun a F => ?_
 have W := hL
 unfold Bu at H
 refine Ah (Ac ?_)
 refine ls F W Aa (Ad F Aa).q fun a w F W => ?_
 refine ls F W Aa (BK F Aa Aa Aa).q fun a w F W => ?_
 refine ls F W Aa (Af F Aa).q fun a w F W => ?_
 refine Ae (Ab (Au ?_))
 refine Bn H (fun s a w => Fr 53 [] [(0, v1), (1, .int .i64 p1), (2, .int .i64 p2), (3, .func (.func 26) #[] #[]), (8, .int .i64 s.2)] a ∧ Stw ⟨Y, X, w0⟩ [] [row v1 62 Be s.1] w) ⟨F.re ⟨rfl, Aa, Aa, Aa, Aa, trivial⟩, W⟩ fun s o a w H L1 hR => ?_
 obtain ⟨x1, x2⟩ := s
 obtain ⟨F, W⟩ := hR
 have F : Fr 53 [] [(0, v1), (1, .int .i64 p1), (2, .int .i64 p2), (3, .func (.func 26) #[] #[]), (8, .int .i64 x2)] a := F
 have W : Stw ⟨Y, X, w0⟩ [] [row v1 62 Be x1] w := W
 rw [A8] at H
 refine Ah (Ah (Ac ?_))
 iterate 2 refine ls F W Aa (Ad F Aa).q fun a w F W => ?_
 refine ls F W Aa (BP F Aa Aa).q fun a w F W => ?_
 refine Ae (Ab ?_)
 refine AA F Aa (fun hb => ?_) fun hb => ?_
 ·
  have H := AY (BI hb) H
  rw [hb] at F
  clear hb
  refine Av (Ab ?_)
  obtain ⟨o2, G2, K2⟩ := Ai H
  refine AM (fun a w => ∃ x3 : List (Int × Int × Int × Int), some (x3) = some o2 ∧ Fr 53 [] [(0, v1), (1, .int .i64 p1), (2, .int .i64 p2), (3, .func (.func 26) #[] #[]), (8, .int .i64 x2)] a ∧ Stw ⟨Y, X, w0⟩ [] [row v1 62 Be x3] w) ?_ ?_
  ·
   have H := G2
   clear G2 K2
   refine Au (Ah (Ac ?_))
   refine ls F W Aa (Ad F Aa).q fun a w F W => ?_
   refine ls F W Aa (Af F Aa).q fun a w F W => ?_
   refine Ae (Ab (Au ?_))
   refine Bn H (fun s a w => Fr 53 [] [(0, v1), (1, .int .i64 p1), (2, .int .i64 p2), (3, .func (.func 26) #[] #[]), (8, .int .i64 x2), (9, .int .i64 s.2)] a ∧ Stw ⟨Y, X, w0⟩ [] [row v1 62 Be s.1] w) ⟨F.re ⟨rfl, Aa, Aa, Aa, Aa, Aa, trivial⟩, W⟩ fun s o a w H L3 hR => ?_
   obtain ⟨x4, x5⟩ := s
   obtain ⟨F, W⟩ := hR
   have F : Fr 53 [] [(0, v1), (1, .int .i64 p1), (2, .int .i64 p2), (3, .func (.func 26) #[] #[]), (8, .int .i64 x2), (9, .int .i64 x5)] a := F
   have W : Stw ⟨Y, X, w0⟩ [] [row v1 62 Be x4] w := W
   rw [AO] at H
   refine Ah ?_
   obtain ⟨o4, G4, K4⟩ := Ai H
   refine AM (fun a w => ∃ x6 : Bool, some (x6) = some o4 ∧ Fr 53 [] [(0, v1), (1, .int .i64 p1), (2, .int .i64 p2), (3, .func (.func 26) #[] #[]), (8, .int .i64 x2), (9, .int .i64 x5), (34, .bool x6)] a ∧ Stw ⟨Y, X, w0⟩ [] [row v1 62 Be x4] w) ?_ ?_
   ·
    have H := G4
    clear G4 K4
    refine BW W MO (by kernel_rfl) ?_
    iterate 2 refine qs F Aa (Ad F Aa).q fun a F => ?_
    refine qs F Aa (Gv F Aa Aa).q fun a F => ?_
    refine qs F Aa (Ad F Aa).q fun a F => ?_
    rcases Bool.eq_false_or_eq_true (decide (p1 < x5)) with hb | hb
    ·
     have H := AY (BI hb) H
     rw [hb] at F
     clear hb
     iterate 3 refine BH F (Ag F Aa Aa Aa Aa) Aa (Ak Aa) (Ad F Aa).q fun a F => ?_
     obtain ⟨x7, h1, H⟩ := Ai H
     refine BH F (Ag F Aa Aa Aa Aa) Aa (Ak Aa) (Ax (r := Be) Eb F Aa Aa (An 0 Aa) h1).q fun a F => ?_
     refine BH F (Ag F Aa Aa Aa Aa) Aa (Ak Aa) (Ao (y := Value.agg #[.int .i64 x7.1, .int .i64 x7.2.1, .int .i64 x7.2.2.1, .int .i64 x7.2.2.2]) (j := 0) (i := x5) F Aa Aa (An 0 Aa) h1 Ed.to D9 Aa).q fun a F => ?_
     iterate 2 refine BH F (Ag F Aa Aa Aa Aa) Aa (Ak Aa) (Ad F Aa).q fun a F => ?_
     refine BH F (Ag F Aa Aa Aa Aa) Aa (Ak Aa) (Cq F Aa Aa Aa).q fun a F => ?_
     obtain ⟨x8, h2, H⟩ := Ai H
     refine BH F (Ag F Aa Aa Aa Aa) Aa (Ak Aa) (Ax (r := Be) Eb F Aa Aa (An 0 Aa) h2).q fun a F => ?_
     refine BH F (Ag F Aa Aa Aa Aa) Aa (Ak Aa) (Ao (y := Value.agg #[.int .i64 x8.1, .int .i64 x8.2.1, .int .i64 x8.2.2.1, .int .i64 x8.2.2.2]) (j := 0) (i := AB (x5 - 1)) F Aa Aa (An 0 Aa) h2 Ed.to D9 Aa).q fun a F => ?_
     obtain ⟨x9, h3, H⟩ := Ai H
     refine BH F (Ag F Aa Aa Aa Aa) Aa (Ak Aa) (Ez (ws := [.agg #[.int .i64 x7.1, .int .i64 x7.2.1, .int .i64 x7.2.2.1, .int .i64 x7.2.2.2], .agg #[.int .i64 x8.1, .int .i64 x8.2.1, .int .i64 x8.2.2.1, .int .i64 x8.2.2.2]]) (v := Value.int .i64 x9) F NL Aa (fun w W => Ca any w x7 x8 _ h3)) fun a F => ?_
     refine BH F (Ag F Aa Aa Aa Aa) Aa (Ak Aa) (BP F Aa Aa).q fun a F => ?_
     refine qs F Aa (As F Aa Aa Aa).q fun a F => ?_
     refine A5 fun w W => ?_
     refine Ab ?_
     exact ⟨_, H, F.re ⟨rfl, Aa, Aa, Aa, Aa, Aa, Aa, trivial⟩, W⟩
    have H := AX (BJ hb) H
    rw [hb] at F
    clear hb
    iterate 12 refine Ea F (Cx F Aa Aa Aa Aa Aa) Aa Aa fun a F => ?_
    refine qs F Aa (Ay F Aa Aa Aa).q fun a F => ?_
    refine A5 fun w W => ?_
    refine Ab ?_
    exact ⟨_, H, F.re ⟨rfl, Aa, Aa, Aa, Aa, Aa, Aa, trivial⟩, W⟩
   rintro a w ⟨x6, hj, F, W⟩
   have hj := A2 hj
   subst hj
   have H := K4
   clear G4 K4
   refine AA F Aa (fun hb => ?_) fun hb => ?_
   ·
    have H := AY hb H
    rw [hb] at F
    clear hb
    refine Av (Ab (Ah (Au ?_)))
    refine Gj [(true, 0), (true, 1), (true, 2), (true, 3), (true, 4), (true, 5), (true, 6), (true, 7), (true, 8), (true, 9), (true, 10), (true, 11), (true, 12), (true, 13), (true, 14), (false, 15), (true, 16), (false, 17)] (CN ⟨Y, X, w0⟩ [] [(some 15, row v1 62 Be x4)]) (fun ch a d v w h => by cases d <;> exact h) MO (by kernel_rfl) W (fun w W => ⟨_, _, W, AE, (all_cons (fun _ => (.head _)) AE)⟩) fun w W => ?_
    iterate 4 refine BQ (R := []) F Aa Aa (yC fun M Z hN hZ => Ad F Aa) Aa Aa fun a F => ?_
    refine BQ (R := []) F Aa Aa (yC fun M Z hN hZ => Cq F Aa Aa Aa) Aa Aa fun a F => ?_
    iterate 2 refine BQ (R := []) F Aa Aa (yC fun M Z hN hZ => Ad F Aa) Aa Aa fun a F => ?_
    refine BQ (R := []) F Aa Aa (yC fun M Z hN hZ => Cq F Aa Aa Aa) Aa Aa fun a F => ?_
    obtain ⟨x10, h4, H⟩ := Ai H
    refine BQ (R := []) F Aa Aa (yC fun M Z hN hZ => B6 (r := Be) Eb F Aa Aa (DX W (An 0 Aa)) h4) Aa Aa fun a F => ?_
    refine BQ (R := [15]) F Aa Aa (yC fun M Z hN hZ => Ao (y := Value.agg #[.int .i64 x10.1, .int .i64 x10.2.1, .int .i64 x10.2.2.1, .int .i64 x10.2.2.2]) (j := 0) (i := AB (x5 - 1)) F Aa Aa (DM (hZ ((some 15), row v1 62 Be x4) (.head _) Aa)) h4 Ed.to D9 Aa) (by kernel_rfl) Aa fun a F => ?_
    iterate 2 refine BQ (R := []) F Aa Aa (yC fun M Z hN hZ => Ad F Aa) Aa Aa fun a F => ?_
    obtain ⟨x11, h5, H⟩ := Ai H
    refine BQ (R := []) F Aa Aa (yC fun M Z hN hZ => B6 (r := Be) Eb F Aa Aa (DX W (An 0 Aa)) h5) Aa Aa fun a F => ?_
    refine BQ (R := [15]) F Aa Aa (yC fun M Z hN hZ => Ao (y := Value.agg #[.int .i64 x11.1, .int .i64 x11.2.1, .int .i64 x11.2.2.1, .int .i64 x11.2.2.2]) (j := 0) (i := x5) F Aa Aa (DM (hZ ((some 15), row v1 62 Be x4) (.head _) Aa)) h5 Ed.to D9 Aa) (by kernel_rfl) Aa fun a F => ?_
    obtain ⟨x12, h6, H⟩ := Ai H
    refine BQ (R := []) F Aa Aa (yC fun M Z hN hZ => B6 (r := Be) Eb F Aa Aa (DX W (An 0 Aa)) h6) Aa Aa fun a F => ?_
    refine Em Aa ?_
    refine Bv (i := x5) (j := 0) (vs := [.int .i64 x10.1, .int .i64 x10.2.1, .int .i64 x10.2.2.1, .int .i64 x10.2.2.2]) (x' := x10) F W Aa Aa Aa (k := 0) Aa Aa h6 D9 Aa Aa Aa Aa (fun A cs _ => Ed.sto (by rfl) _ _ _) fun w W => ?_
    refine BU (N2 := []) (NZ2 := []) (N3 := []) (NZ3 := [(some 15, row v1 62 Be x4)]) W Aa Aa AE (all_cons (fun h => A4 (by kernel_rfl) h) AE) ?_
    obtain ⟨x13, h7, H⟩ := Ai H
    refine BQ (R := []) F Aa Aa (yC fun M Z hN hZ => B6 (r := Be) Eb F Aa Aa (DX W (An 0 Aa)) h7) Aa Aa fun a F => ?_
    refine Em Aa ?_
    refine Bv (i := AB (x5 - 1)) (j := 0) (vs := [.int .i64 x11.1, .int .i64 x11.2.1, .int .i64 x11.2.2.1, .int .i64 x11.2.2.2]) (x' := x11) F W Aa Aa Aa (k := 0) Aa Aa h7 D9 Aa Aa Aa Aa (fun A cs _ => Ed.sto (by rfl) _ _ _) fun w W => ?_
    refine BU (N2 := []) (NZ2 := []) (N3 := []) (NZ3 := [(some 15, row v1 62 Be x4)]) W Aa Aa AE (all_cons (fun h => A4 (by kernel_rfl) h) AE) ?_
    refine GF (AV (Ab (Ac ?_)))
    refine ls F W Aa (Ad F Aa).q fun a w F W => ?_
    refine ls F W Aa (Cq F Aa Aa Aa).q fun a w F W => ?_
    refine ls F W Aa (Af F Aa).q fun a w F W => ?_
    refine Ae (Ab ?_)
    exact ⟨_, H, F.re ⟨rfl, Aa, Aa, Aa, Aa, Aa, trivial⟩, W⟩
   have H := AX (by rw [hb]; decide) H
   rw [hb] at F
   clear hb
   refine Bm ?_
   iterate 2 refine BG ?_
   refine Bl (AV (Ab ?_))
   have H := L3 _ H
   exact ⟨_, H, F.re ⟨rfl, Aa, Aa, Aa, Aa, trivial⟩, W⟩
  rintro a w ⟨x3, hj, F, W⟩
  have hj := A2 hj
  subst hj
  have H := K2
  clear G2 K2
  refine Ac ?_
  refine ls F W Aa (Ad F Aa).q fun a w F W => ?_
  refine ls F W Aa (BK F Aa Aa Aa).q fun a w F W => ?_
  refine ls F W Aa (Af F Aa).q fun a w F W => ?_
  refine Ae (Ab ?_)
  exact ⟨_, H, F.re ⟨rfl, Aa, Aa, Aa, Aa, trivial⟩, W⟩
 have H := AX (BJ hb) H
 rw [hb] at F
 clear hb
 refine Bm ?_
 iterate 2 refine BG ?_
 refine Bl ?_
 have H := L1 _ H
 have H := A2 H
 subst H
 refine Ho (.inr Aa) F Aa ?_
 exact ⟨(), Aa, W⟩
theorem RF : Has Try.prog 59 := ⟨fun args w => Al Try.func59 rfl (by decide) args w⟩
noncomputable def AJ (p2 : Int) (p3 : Int) : ((List (Int × Int × Int × Int)) × Int) → Option (((List (Int × Int × Int × Int)) × Int) ⊕ (List (Int × Int × Int × Int)))
  | (x1, x2) => (if p2 ≤ (AB ((AB (2 * x2)) + 1)) then some (.inr x1) else ((if (AB ((AB ((AB (2 * x2)) + 1)) + 1)) < p2 then (ix x1 (AB (p3 + (AB ((AB (2 * x2)) + 1))))).bind fun x5 => (ix x1 (AB ((AB (p3 + (AB ((AB (2 * x2)) + 1)))) + 1))).bind fun x6 => (BT x5 x6).bind fun x7 => some (decide (x7 < 0)) else some false).bind fun x4 => (if x4 = true then some (AB ((AB ((AB (2 * x2)) + 1)) + 1)) else some (AB ((AB (2 * x2)) + 1)))).bind fun x3 => (ix x1 (AB (p3 + x2))).bind fun x8 => (ix x1 (AB (p3 + x3))).bind fun x9 => (BT x8 x9).bind fun x10 => (if (!(decide (x10 < 0))) = true then some (.inr x1) else (ix x1 (AB (p3 + x3))).bind fun x11 => (ix x1 (AB (p3 + x2))).bind fun x12 => (ix x1 (AB (p3 + x2))).bind fun x13 => (ix (Aq x1 (AB (p3 + x2)) x11) (AB (p3 + x3))).bind fun x14 => some (.inl ((Aq (Aq x1 (AB (p3 + x2)) x11) (AB (p3 + x3)) x12), x3))))
noncomputable def BC (p0 : List (Int × Int × Int × Int)) (p1 : Int) (p2 : Int) (p3 : Int) : Option (List (Int × Int × Int × Int)) := AN (AJ p2 p3) (p0, p1)
theorem DY (Y : Nat → Prop) (X : List Nat) (w0 : World) (v1 : Value) (p0 : List (Int × Int × Int × Int)) (p1 : Int) (p2 : Int) (p3 : Int) (r : (List (Int × Int × Int × Int))) (H : BC p0 p1 p2 p3 = some r) (hL : Stw ⟨Y, X, w0⟩ [] [row v1 62 Be p0] w0) :
    Calls Try.prog 78 #[v1, .int .i64 p1, .int .i64 p2, .int .i64 p3, .func (.func 26) #[] #[]] w0 fun e w' => ∃ x : Unit, e = .returned (.tuple #[]) ∧ Stw ⟨Y, X, w0⟩ [] [row v1 62 Be r] w' := by
 refine enter Try.func78 Aa Try.ntmps78 Aa fun a F => ?_
 have W := hL
 unfold BC at H
 refine Ah (Ac ?_)
 refine ls F W Aa (Ad F Aa).q fun a w F W => ?_
 refine ls F W Aa (Af F Aa).q fun a w F W => ?_
 refine Ae (Ab (Au ?_))
 refine Bn H (fun s a w => Fr 82 [] [(0, v1), (2, .int .i64 p2), (3, .int .i64 p3), (4, .func (.func 26) #[] #[]), (10, .int .i64 s.2)] a ∧ Stw ⟨Y, X, w0⟩ [] [row v1 62 Be s.1] w) ⟨F.re ⟨rfl, Aa, Aa, Aa, Aa, trivial⟩, W⟩ fun s o a w H L1 hR => ?_
 obtain ⟨x1, x2⟩ := s
 obtain ⟨F, W⟩ := hR
 have F : Fr 82 [] [(0, v1), (2, .int .i64 p2), (3, .int .i64 p3), (4, .func (.func 26) #[] #[]), (10, .int .i64 x2)] a := F
 have W : Stw ⟨Y, X, w0⟩ [] [row v1 62 Be x1] w := W
 rw [AJ] at H
 refine Au (Ah (Ac ?_))
 refine ls F W Aa (Ad F Aa).q fun a w F W => ?_
 refine ls F W Aa (Lx F Aa Aa Aa).q fun a w F W => ?_
 refine ls F W Aa (BK F Aa Aa Aa).q fun a w F W => ?_
 refine ls F W Aa (Af F Aa).q fun a w F W => ?_
 refine Ae (Ab (Ah (Ah (Ac ?_))))
 iterate 2 refine ls F W Aa (Ad F Aa).q fun a w F W => ?_
 refine ls F W Aa (DU F Aa Aa).q fun a w F W => ?_
 refine Ae (Ab ?_)
 refine AA F Aa (fun hb => ?_) fun hb => ?_
 ·
  have H := AY (BI hb) H
  rw [hb] at F
  clear hb
  refine Bm (BG ?_)
  refine KW Aa ?_
  refine BG (Bl ?_)
  have H := L1 _ H
  have H := A2 H
  subst H
  refine Ho (.inr Aa) F Aa ?_
  exact ⟨(), Aa, W⟩
 have H := AX (BJ hb) H
 rw [hb] at F
 clear hb
 refine Av (Ab ?_)
 obtain ⟨o2, G2, K2⟩ := Ai H
 refine AM (fun a w => ∃ x3 : Int, some (x3) = some o2 ∧ Fr 82 [] [(0, v1), (2, .int .i64 p2), (3, .int .i64 p3), (4, .func (.func 26) #[] #[]), (10, .int .i64 x2), (11, .int .i64 x3)] a ∧ Stw ⟨Y, X, w0⟩ [] [row v1 62 Be x1] w) ?_ ?_
 ·
  have H := G2
  clear G2 K2
  obtain ⟨o3, G3, K3⟩ := Ai H
  refine AM (fun a w => ∃ x4 : Bool, some (x4) = some o3 ∧ Fr 82 [] [(0, v1), (2, .int .i64 p2), (3, .int .i64 p3), (4, .func (.func 26) #[] #[]), (10, .int .i64 x2), (11, .int .i64 (AB ((AB (2 * x2)) + 1))), (40, .bool x4)] a ∧ Stw ⟨Y, X, w0⟩ [] [row v1 62 Be x1] w) ?_ ?_
  ·
   have H := G3
   clear G3 K3
   refine BW W MO (by kernel_rfl) ?_
   refine qs F Aa (Ad F Aa).q fun a F => ?_
   refine qs F Aa (BK F Aa Aa Aa).q fun a F => ?_
   refine qs F Aa (Ad F Aa).q fun a F => ?_
   refine qs F Aa (BP F Aa Aa).q fun a F => ?_
   refine qs F Aa (Ad F Aa).q fun a F => ?_
   rcases Bool.eq_false_or_eq_true (decide ((AB ((AB ((AB (2 * x2)) + 1)) + 1)) < p2)) with hb | hb
   ·
    have H := AY (BI hb) H
    rw [hb] at F
    clear hb
    iterate 4 refine BH F (Ag F Aa Aa Aa Aa) Aa (Ak Aa) (Ad F Aa).q fun a F => ?_
    refine BH F (Ag F Aa Aa Aa Aa) Aa (Ak Aa) (BK F Aa Aa Aa).q fun a F => ?_
    obtain ⟨x5, h1, H⟩ := Ai H
    refine BH F (Ag F Aa Aa Aa Aa) Aa (Ak Aa) (Ax (r := Be) Eb F Aa Aa (An 0 Aa) h1).q fun a F => ?_
    refine BH F (Ag F Aa Aa Aa Aa) Aa (Ak Aa) (Ao (y := Value.agg #[.int .i64 x5.1, .int .i64 x5.2.1, .int .i64 x5.2.2.1, .int .i64 x5.2.2.2]) (j := 0) (i := AB (p3 + (AB ((AB (2 * x2)) + 1)))) F Aa Aa (An 0 Aa) h1 Ed.to D9 Aa).q fun a F => ?_
    iterate 3 refine BH F (Ag F Aa Aa Aa Aa) Aa (Ak Aa) (Ad F Aa).q fun a F => ?_
    iterate 2 refine BH F (Ag F Aa Aa Aa Aa) Aa (Ak Aa) (BK F Aa Aa Aa).q fun a F => ?_
    obtain ⟨x6, h2, H⟩ := Ai H
    refine BH F (Ag F Aa Aa Aa Aa) Aa (Ak Aa) (Ax (r := Be) Eb F Aa Aa (An 0 Aa) h2).q fun a F => ?_
    refine BH F (Ag F Aa Aa Aa Aa) Aa (Ak Aa) (Ao (y := Value.agg #[.int .i64 x6.1, .int .i64 x6.2.1, .int .i64 x6.2.2.1, .int .i64 x6.2.2.2]) (j := 0) (i := AB ((AB (p3 + (AB ((AB (2 * x2)) + 1)))) + 1)) F Aa Aa (An 0 Aa) h2 Ed.to D9 Aa).q fun a F => ?_
    obtain ⟨x7, h3, H⟩ := Ai H
    refine BH F (Ag F Aa Aa Aa Aa) Aa (Ak Aa) (Ez (ws := [.agg #[.int .i64 x5.1, .int .i64 x5.2.1, .int .i64 x5.2.2.1, .int .i64 x5.2.2.2], .agg #[.int .i64 x6.1, .int .i64 x6.2.1, .int .i64 x6.2.2.1, .int .i64 x6.2.2.2]]) (v := Value.int .i64 x7) F NL Aa (fun w W => Ca any w x5 x6 _ h3)) fun a F => ?_
    refine BH F (Ag F Aa Aa Aa Aa) Aa (Ak Aa) (BP F Aa Aa).q fun a F => ?_
    refine qs F Aa (As F Aa Aa Aa).q fun a F => ?_
    refine A5 fun w W => ?_
    refine Ab ?_
    exact ⟨_, H, F.re ⟨rfl, Aa, Aa, Aa, Aa, Aa, Aa, trivial⟩, W⟩
   have H := AX (BJ hb) H
   rw [hb] at F
   clear hb
   iterate 16 refine Ea F (Cx F Aa Aa Aa Aa Aa) Aa Aa fun a F => ?_
   refine qs F Aa (Ay F Aa Aa Aa).q fun a F => ?_
   refine A5 fun w W => ?_
   refine Ab ?_
   exact ⟨_, H, F.re ⟨rfl, Aa, Aa, Aa, Aa, Aa, Aa, trivial⟩, W⟩
  rintro a w ⟨x4, hj, F, W⟩
  have hj := A2 hj
  subst hj
  have H := K3
  clear G3 K3
  refine AA F Aa (fun hb => ?_) fun hb => ?_
  ·
   have H := AY hb H
   rw [hb] at F
   clear hb
   refine Ac ?_
   refine ls F W Aa (Ad F Aa).q fun a w F W => ?_
   refine ls F W Aa (BK F Aa Aa Aa).q fun a w F W => ?_
   refine ls F W Aa (Af F Aa).q fun a w F W => ?_
   refine Ae (Ab ?_)
   exact ⟨_, H, F.re ⟨rfl, Aa, Aa, Aa, Aa, Aa, trivial⟩, W⟩
  have H := AX (by rw [hb]; decide) H
  rw [hb] at F
  clear hb
  refine Av (Ab ?_)
  exact ⟨_, H, F.re ⟨rfl, Aa, Aa, Aa, Aa, Aa, trivial⟩, W⟩
 rintro a w ⟨x3, hj, F, W⟩
 have hj := A2 hj
 subst hj
 have H := K2
 clear G2 K2
 iterate 2 refine Ah ?_
 refine BW W MO (by kernel_rfl) ?_
 iterate 4 refine qs F Aa (Ad F Aa).q fun a F => ?_
 refine qs F Aa (BK F Aa Aa Aa).q fun a F => ?_
 obtain ⟨x8, h4, H⟩ := Ai H
 refine qs F Aa (Ax (r := Be) Eb F Aa Aa (An 0 Aa) h4).q fun a F => ?_
 refine qs F Aa (Ao (y := Value.agg #[.int .i64 x8.1, .int .i64 x8.2.1, .int .i64 x8.2.2.1, .int .i64 x8.2.2.2]) (j := 0) (i := AB (p3 + x2)) F Aa Aa (An 0 Aa) h4 Ed.to D9 Aa).q fun a F => ?_
 iterate 3 refine qs F Aa (Ad F Aa).q fun a F => ?_
 refine qs F Aa (BK F Aa Aa Aa).q fun a F => ?_
 obtain ⟨x9, h5, H⟩ := Ai H
 refine qs F Aa (Ax (r := Be) Eb F Aa Aa (An 0 Aa) h5).q fun a F => ?_
 refine qs F Aa (Ao (y := Value.agg #[.int .i64 x9.1, .int .i64 x9.2.1, .int .i64 x9.2.2.1, .int .i64 x9.2.2.2]) (j := 0) (i := AB (p3 + x3)) F Aa Aa (An 0 Aa) h5 Ed.to D9 Aa).q fun a F => ?_
 obtain ⟨x10, h6, H⟩ := Ai H
 refine qs F Aa (Ez (ws := [.agg #[.int .i64 x8.1, .int .i64 x8.2.1, .int .i64 x8.2.2.1, .int .i64 x8.2.2.2], .agg #[.int .i64 x9.1, .int .i64 x9.2.1, .int .i64 x9.2.2.1, .int .i64 x9.2.2.2]]) (v := Value.int .i64 x10) F NL Aa (fun w W => Ca any w x8 x9 _ h6)) fun a F => ?_
 refine qs F Aa (BP F Aa Aa).q fun a F => ?_
 refine qs F Aa (Ek F Aa).q fun a F => ?_
 refine A5 fun w W => ?_
 refine Ab ?_
 refine AA F Aa (fun hb => ?_) fun hb => ?_
 ·
  have H := AY hb H
  rw [hb] at F
  clear hb
  refine AH (AL (AS (AL (AS ?_))))
  have H := L1 _ H
  have H := A2 H
  subst H
  refine Ho (.inl Aa) F Aa ?_
  exact ⟨(), Aa, W⟩
 have H := AX (by rw [hb]; decide) H
 rw [hb] at F
 clear hb
 refine Av (Ab (Ah ?_))
 refine Gj [(true, 0), (true, 1), (true, 2), (true, 3), (true, 4), (true, 5), (true, 6), (true, 7), (true, 8), (true, 9), (true, 10), (true, 11), (true, 12), (true, 13), (true, 14), (true, 15), (true, 16), (true, 17), (true, 18), (true, 19), (true, 20), (false, 21), (true, 22), (false, 23)] (CN ⟨Y, X, w0⟩ [] [(some 21, row v1 62 Be x1)]) (fun ch a d v w h => by cases d <;> exact h) MO (by kernel_rfl) W (fun w W => ⟨_, _, W, AE, (all_cons (fun _ => (.head _)) AE)⟩) fun w W => ?_
 iterate 3 refine BQ (R := []) F Aa Aa (yC fun M Z hN hZ => Ad F Aa) Aa Aa fun a F => ?_
 refine BQ (R := []) F Aa Aa (yC fun M Z hN hZ => BK F Aa Aa Aa) Aa Aa fun a F => ?_
 iterate 3 refine BQ (R := []) F Aa Aa (yC fun M Z hN hZ => Ad F Aa) Aa Aa fun a F => ?_
 refine BQ (R := []) F Aa Aa (yC fun M Z hN hZ => BK F Aa Aa Aa) Aa Aa fun a F => ?_
 iterate 3 refine BQ (R := []) F Aa Aa (yC fun M Z hN hZ => Ad F Aa) Aa Aa fun a F => ?_
 refine BQ (R := []) F Aa Aa (yC fun M Z hN hZ => BK F Aa Aa Aa) Aa Aa fun a F => ?_
 obtain ⟨x11, h7, H⟩ := Ai H
 refine BQ (R := []) F Aa Aa (yC fun M Z hN hZ => B6 (r := Be) Eb F Aa Aa (DX W (An 0 Aa)) h7) Aa Aa fun a F => ?_
 refine BQ (R := [21]) F Aa Aa (yC fun M Z hN hZ => Ao (y := Value.agg #[.int .i64 x11.1, .int .i64 x11.2.1, .int .i64 x11.2.2.1, .int .i64 x11.2.2.2]) (j := 0) (i := AB (p3 + x3)) F Aa Aa (DM (hZ ((some 21), row v1 62 Be x1) (.head _) Aa)) h7 Ed.to D9 Aa) (by kernel_rfl) Aa fun a F => ?_
 iterate 3 refine BQ (R := []) F Aa Aa (yC fun M Z hN hZ => Ad F Aa) Aa Aa fun a F => ?_
 refine BQ (R := []) F Aa Aa (yC fun M Z hN hZ => BK F Aa Aa Aa) Aa Aa fun a F => ?_
 obtain ⟨x12, h8, H⟩ := Ai H
 refine BQ (R := []) F Aa Aa (yC fun M Z hN hZ => B6 (r := Be) Eb F Aa Aa (DX W (An 0 Aa)) h8) Aa Aa fun a F => ?_
 refine BQ (R := [21]) F Aa Aa (yC fun M Z hN hZ => Ao (y := Value.agg #[.int .i64 x12.1, .int .i64 x12.2.1, .int .i64 x12.2.2.1, .int .i64 x12.2.2.2]) (j := 0) (i := AB (p3 + x2)) F Aa Aa (DM (hZ ((some 21), row v1 62 Be x1) (.head _) Aa)) h8 Ed.to D9 Aa) (by kernel_rfl) Aa fun a F => ?_
 obtain ⟨x13, h9, H⟩ := Ai H
 refine BQ (R := []) F Aa Aa (yC fun M Z hN hZ => B6 (r := Be) Eb F Aa Aa (DX W (An 0 Aa)) h9) Aa Aa fun a F => ?_
 refine Em Aa ?_
 refine Bv (i := AB (p3 + x2)) (j := 0) (vs := [.int .i64 x11.1, .int .i64 x11.2.1, .int .i64 x11.2.2.1, .int .i64 x11.2.2.2]) (x' := x11) F W Aa Aa Aa (k := 0) Aa Aa h9 D9 Aa Aa Aa Aa (fun A cs _ => Ed.sto (by rfl) _ _ _) fun w W => ?_
 refine BU (N2 := []) (NZ2 := []) (N3 := []) (NZ3 := [(some 21, row v1 62 Be x1)]) W Aa Aa AE (all_cons (fun h => A4 (by kernel_rfl) h) AE) ?_
 obtain ⟨x14, h10, H⟩ := Ai H
 refine BQ (R := []) F Aa Aa (yC fun M Z hN hZ => B6 (r := Be) Eb F Aa Aa (DX W (An 0 Aa)) h10) Aa Aa fun a F => ?_
 refine Em Aa ?_
 refine Bv (i := AB (p3 + x3)) (j := 0) (vs := [.int .i64 x12.1, .int .i64 x12.2.1, .int .i64 x12.2.2.1, .int .i64 x12.2.2.2]) (x' := x12) F W Aa Aa Aa (k := 0) Aa Aa h10 D9 Aa Aa Aa Aa (fun A cs _ => Ed.sto (by rfl) _ _ _) fun w W => ?_
 refine BU (N2 := []) (NZ2 := []) (N3 := []) (NZ3 := [(some 21, row v1 62 Be x1)]) W Aa Aa AE (all_cons (fun h => A4 (by kernel_rfl) h) AE) ?_
 refine GF (Ab (Ac ?_))
 refine ls F W Aa (Ad F Aa).q fun a w F W => ?_
 refine ls F W Aa (Af F Aa).q fun a w F W => ?_
 refine Ae (AV (Ab ?_))
 exact ⟨_, H, F.re ⟨rfl, Aa, Aa, Aa, Aa, trivial⟩, W⟩
theorem Rm : Has Try.prog 78 := ⟨fun args w => Al Try.func78 rfl (by decide) args w⟩
noncomputable def Bi (p1 : Int) (p2 : Int) : ((List (Int × Int × Int × Int)) × Int) → Option (((List (Int × Int × Int × Int)) × Int) ⊕ (List (Int × Int × Int × Int)))
  | (x2, x3) => (if 0 ≤ x3 then (BC x2 x3 (AB (p2 - p1)) p1).bind fun x4 => some (.inl (x4, AB (x3 - 1))) else some (.inr x2))
noncomputable def Bk (p1 : Int) : ((List (Int × Int × Int × Int)) × Int) → Option (((List (Int × Int × Int × Int)) × Int) ⊕ (List (Int × Int × Int × Int)))
  | (x5, x6) => (if 0 ≤ x6 then (ix x5 (AB (p1 + x6))).bind fun x7 => (ix x5 p1).bind fun x8 => (ix x5 p1).bind fun x9 => (ix (Aq x5 p1 x7) (AB (p1 + x6))).bind fun x10 => (BC (Aq (Aq x5 p1 x7) (AB (p1 + x6)) x8) 0 x6 p1).bind fun x11 => some (.inl (x11, AB (x6 - 1))) else some (.inr x5))
noncomputable def BO (p0 : List (Int × Int × Int × Int)) (p1 : Int) (p2 : Int) : Option (List (Int × Int × Int × Int)) := (AN (Bi p1 p2) (p0, AB (Int.tdiv (AB ((AB (p2 - p1)) - 1)) 2))).bind fun x1 => AN (Bk p1) (x1, AB ((AB (p2 - p1)) - 1))
theorem FU (Y : Nat → Prop) (X : List Nat) (w0 : World) (v1 : Value) (p0 : List (Int × Int × Int × Int)) (p1 : Int) (p2 : Int) (r : (List (Int × Int × Int × Int))) (H : BO p0 p1 p2 = some r) (hL : Stw ⟨Y, X, w0⟩ [] [row v1 62 Be p0] w0) :
    Calls Try.prog 60 #[v1, .int .i64 p1, .int .i64 p2, .func (.func 26) #[] #[]] w0 fun e w' => ∃ x : Unit, e = .returned (.tuple #[]) ∧ Stw ⟨Y, X, w0⟩ [] [row v1 62 Be r] w' := by
 refine enter Try.func60 Aa Try.ntmps60 Aa fun a F => ?_
 have W := hL
 unfold BO at H
 refine Ah (Ac ?_)
 refine ls F W Aa (Ad F Aa).q fun a w F W => ?_
 refine ls F W Aa (Af F Aa).q fun a w F W => ?_
 refine Ae (Ab (Ah (Ac ?_)))
 refine ls F W Aa (Af F Aa).q fun a w F W => ?_
 refine Ae (Ab (Ah (Ac ?_)))
 iterate 2 refine ls F W Aa (Ad F Aa).q fun a w F W => ?_
 refine ls F W Aa (Cq F Aa Aa Aa).q fun a w F W => ?_
 refine ls F W Aa (Af F Aa).q fun a w F W => ?_
 refine Ae (Ab ?_)
 obtain ⟨o1, G1, K1⟩ := Ai H
 refine AM (fun a w => ∃ x1 : List (Int × Int × Int × Int), some (x1) = some o1 ∧ Fr 60 [] [(0, v1), (3, .func (.func 26) #[] #[]), (8, .int .i64 p1), (9, .int .i64 0), (10, .int .i64 (AB (p2 - p1)))] a ∧ Stw ⟨Y, X, w0⟩ [] [row v1 62 Be x1] w) ?_ ?_
 ·
  have H := G1
  clear G1 K1
  refine Ah (Ac ?_)
  refine ls F W Aa (Ad F Aa).q fun a w F W => ?_
  refine ls F W Aa (Cq F Aa Aa Aa).q fun a w F W => ?_
  refine ls F W Aa (La F Aa Aa (by decide) Aa).q fun a w F W => ?_
  refine ls F W Aa (Af F Aa).q fun a w F W => ?_
  refine Ae (Ab (Au ?_))
  refine Bn H (fun s a w => Fr 60 [] [(0, v1), (3, .func (.func 26) #[] #[]), (8, .int .i64 p1), (9, .int .i64 0), (10, .int .i64 (AB (p2 - p1))), (11, .int .i64 s.2)] a ∧ Stw ⟨Y, X, w0⟩ [] [row v1 62 Be s.1] w) ⟨F.re ⟨rfl, Aa, Aa, Aa, Aa, Aa, trivial⟩, W⟩ fun s o a w H L2 hR => ?_
  obtain ⟨x2, x3⟩ := s
  obtain ⟨F, W⟩ := hR
  have F : Fr 60 [] [(0, v1), (3, .func (.func 26) #[] #[]), (8, .int .i64 p1), (9, .int .i64 0), (10, .int .i64 (AB (p2 - p1))), (11, .int .i64 x3)] a := F
  have W : Stw ⟨Y, X, w0⟩ [] [row v1 62 Be x2] w := W
  rw [Bi] at H
  refine Ah (Ah (Ac ?_))
  refine ls F W Aa (Ad F Aa).q fun a w F W => ?_
  refine ls F W Aa (DU F Aa Aa).q fun a w F W => ?_
  refine Ae (Ab ?_)
  refine AA F Aa (fun hb => ?_) fun hb => ?_
  ·
   have H := AY (BI hb) H
   rw [hb] at F
   clear hb
   refine Av (Ab (Ah (Au (Ac ?_))))
   iterate 5 refine ls F W Aa (Ad F Aa).q fun a w F W => ?_
   obtain ⟨x4, h1, H⟩ := Ai H
   refine B1 (Ml := []) (Zl := [row v1 62 Be x2]) (M := []) (Z := []) (β := Unit) (rv := fun x => .tuple #[]) (MM := fun x => []) (ZZ := fun x => [row v1 62 Be x4]) F W Rm Aa Aa (fun hL => DY _ _ w (v1) x2 x3 (AB (p2 - p1)) p1 _ h1 hL) fun x a w F W => ?_
   have W : Stw ⟨Y, X, w0⟩ [] [row v1 62 Be x4] w := W
   refine Ae (AV (Ab (Ac ?_)))
   refine ls F W Aa (Ad F Aa).q fun a w F W => ?_
   refine ls F W Aa (Cq F Aa Aa Aa).q fun a w F W => ?_
   refine ls F W Aa (Af F Aa).q fun a w F W => ?_
   refine Ae (Ab ?_)
   exact ⟨_, H, F.re ⟨rfl, Aa, Aa, Aa, Aa, Aa, trivial⟩, W⟩
  have H := AX (BJ hb) H
  rw [hb] at F
  clear hb
  refine Bm ?_
  iterate 2 refine BG ?_
  refine Bl (Ab ?_)
  have H := L2 _ H
  exact ⟨_, H, F.re ⟨rfl, Aa, Aa, Aa, Aa, trivial⟩, W⟩
 rintro a w ⟨x1, hj, F, W⟩
 have hj := A2 hj
 subst hj
 have H := K1
 clear G1 K1
 refine Ah (Ac ?_)
 refine ls F W Aa (Ad F Aa).q fun a w F W => ?_
 refine ls F W Aa (Cq F Aa Aa Aa).q fun a w F W => ?_
 refine ls F W Aa (Af F Aa).q fun a w F W => ?_
 refine Ae (Ab (Au ?_))
 refine Bn H (fun s a w => Fr 60 [] [(0, v1), (3, .func (.func 26) #[] #[]), (8, .int .i64 p1), (9, .int .i64 0), (12, .int .i64 s.2)] a ∧ Stw ⟨Y, X, w0⟩ [] [row v1 62 Be s.1] w) ⟨F.re ⟨rfl, Aa, Aa, Aa, Aa, trivial⟩, W⟩ fun s o a w H L3 hR => ?_
 obtain ⟨x5, x6⟩ := s
 obtain ⟨F, W⟩ := hR
 have F : Fr 60 [] [(0, v1), (3, .func (.func 26) #[] #[]), (8, .int .i64 p1), (9, .int .i64 0), (12, .int .i64 x6)] a := F
 have W : Stw ⟨Y, X, w0⟩ [] [row v1 62 Be x5] w := W
 rw [Bk] at H
 refine Ah (Ah (Ac ?_))
 refine ls F W Aa (Ad F Aa).q fun a w F W => ?_
 refine ls F W Aa (DU F Aa Aa).q fun a w F W => ?_
 refine Ae (Ab ?_)
 refine AA F Aa (fun hb => ?_) fun hb => ?_
 ·
  have H := AY (BI hb) H
  rw [hb] at F
  clear hb
  refine Av (Ab (Ah (Au (Ah ?_))))
  refine Gj [(true, 0), (true, 1), (true, 2), (true, 3), (true, 4), (true, 5), (true, 6), (true, 7), (true, 8), (true, 9), (true, 10), (true, 11), (true, 12), (true, 13), (true, 14), (true, 15), (true, 16), (false, 17), (true, 18), (false, 19)] (CN ⟨Y, X, w0⟩ [] [(some 17, row v1 62 Be x5)]) (fun ch a d v w h => by cases d <;> exact h) MO (by kernel_rfl) W (fun w W => ⟨_, _, W, AE, (all_cons (fun _ => (.head _)) AE)⟩) fun w W => ?_
  iterate 5 refine BQ (R := []) F Aa Aa (yC fun M Z hN hZ => Ad F Aa) Aa Aa fun a F => ?_
  refine BQ (R := []) F Aa Aa (yC fun M Z hN hZ => BK F Aa Aa Aa) Aa Aa fun a F => ?_
  iterate 3 refine BQ (R := []) F Aa Aa (yC fun M Z hN hZ => Ad F Aa) Aa Aa fun a F => ?_
  refine BQ (R := []) F Aa Aa (yC fun M Z hN hZ => BK F Aa Aa Aa) Aa Aa fun a F => ?_
  obtain ⟨x7, h2, H⟩ := Ai H
  refine BQ (R := []) F Aa Aa (yC fun M Z hN hZ => B6 (r := Be) Eb F Aa Aa (DX W (An 0 Aa)) h2) Aa Aa fun a F => ?_
  refine BQ (R := [17]) F Aa Aa (yC fun M Z hN hZ => Ao (y := Value.agg #[.int .i64 x7.1, .int .i64 x7.2.1, .int .i64 x7.2.2.1, .int .i64 x7.2.2.2]) (j := 0) (i := AB (p1 + x6)) F Aa Aa (DM (hZ ((some 17), row v1 62 Be x5) (.head _) Aa)) h2 Ed.to D9 Aa) (by kernel_rfl) Aa fun a F => ?_
  iterate 2 refine BQ (R := []) F Aa Aa (yC fun M Z hN hZ => Ad F Aa) Aa Aa fun a F => ?_
  obtain ⟨x8, h3, H⟩ := Ai H
  refine BQ (R := []) F Aa Aa (yC fun M Z hN hZ => B6 (r := Be) Eb F Aa Aa (DX W (An 0 Aa)) h3) Aa Aa fun a F => ?_
  refine BQ (R := [17]) F Aa Aa (yC fun M Z hN hZ => Ao (y := Value.agg #[.int .i64 x8.1, .int .i64 x8.2.1, .int .i64 x8.2.2.1, .int .i64 x8.2.2.2]) (j := 0) (i := p1) F Aa Aa (DM (hZ ((some 17), row v1 62 Be x5) (.head _) Aa)) h3 Ed.to D9 Aa) (by kernel_rfl) Aa fun a F => ?_
  obtain ⟨x9, h4, H⟩ := Ai H
  refine BQ (R := []) F Aa Aa (yC fun M Z hN hZ => B6 (r := Be) Eb F Aa Aa (DX W (An 0 Aa)) h4) Aa Aa fun a F => ?_
  refine Em Aa ?_
  refine Bv (i := p1) (j := 0) (vs := [.int .i64 x7.1, .int .i64 x7.2.1, .int .i64 x7.2.2.1, .int .i64 x7.2.2.2]) (x' := x7) F W Aa Aa Aa (k := 0) Aa Aa h4 D9 Aa Aa Aa Aa (fun A cs _ => Ed.sto (by rfl) _ _ _) fun w W => ?_
  refine BU (N2 := []) (NZ2 := []) (N3 := []) (NZ3 := [(some 17, row v1 62 Be x5)]) W Aa Aa AE (all_cons (fun h => A4 (by kernel_rfl) h) AE) ?_
  obtain ⟨x10, h5, H⟩ := Ai H
  refine BQ (R := []) F Aa Aa (yC fun M Z hN hZ => B6 (r := Be) Eb F Aa Aa (DX W (An 0 Aa)) h5) Aa Aa fun a F => ?_
  refine Em Aa ?_
  refine Bv (i := AB (p1 + x6)) (j := 0) (vs := [.int .i64 x8.1, .int .i64 x8.2.1, .int .i64 x8.2.2.1, .int .i64 x8.2.2.2]) (x' := x8) F W Aa Aa Aa (k := 0) Aa Aa h5 D9 Aa Aa Aa Aa (fun A cs _ => Ed.sto (by rfl) _ _ _) fun w W => ?_
  refine BU (N2 := []) (NZ2 := []) (N3 := []) (NZ3 := [(some 17, row v1 62 Be x5)]) W Aa Aa AE (all_cons (fun h => A4 (by kernel_rfl) h) AE) ?_
  refine GF (Ab (Ac ?_))
  iterate 5 refine ls F W Aa (Ad F Aa).q fun a w F W => ?_
  obtain ⟨x11, h6, H⟩ := Ai H
  refine B1 (Ml := []) (Zl := [row v1 62 Be (Aq (Aq x5 p1 x7) (AB (p1 + x6)) x8)]) (M := []) (Z := []) (β := Unit) (rv := fun x => .tuple #[]) (MM := fun x => []) (ZZ := fun x => [row v1 62 Be x11]) F W Rm Aa Aa (fun hL => DY _ _ w (v1) (Aq (Aq x5 p1 x7) (AB (p1 + x6)) x8) 0 x6 p1 _ h6 hL) fun x a w F W => ?_
  have W : Stw ⟨Y, X, w0⟩ [] [row v1 62 Be x11] w := W
  refine Ae (AV (Ab (Ac ?_)))
  refine ls F W Aa (Ad F Aa).q fun a w F W => ?_
  refine ls F W Aa (Cq F Aa Aa Aa).q fun a w F W => ?_
  refine ls F W Aa (Af F Aa).q fun a w F W => ?_
  refine Ae (Ab ?_)
  exact ⟨_, H, F.re ⟨rfl, Aa, Aa, Aa, Aa, trivial⟩, W⟩
 have H := AX (BJ hb) H
 rw [hb] at F
 clear hb
 refine Bm ?_
 iterate 2 refine BG ?_
 refine Bl ?_
 have H := L3 _ H
 have H := A2 H
 subst H
 refine Ho (.inr Aa) F Aa ?_
 exact ⟨(), Aa, W⟩
theorem SA : Has Try.prog 60 := ⟨fun args w => Al Try.func60 rfl (by decide) args w⟩
noncomputable def Br (p0 : List (Int × Int × Int × Int)) (p1 : Int) (p2 : Int) (p3 : Int) : Option (Int × Int × Int) := (ix p0 p2).bind fun x1 => (ix p0 p1).bind fun x2 => (BT x1 x2).bind fun x3 => (if x3 < 0 then some (p2, p1, AB (p3 + 1)) else some (p1, p2, p3))
theorem Dg (Y : Nat → Prop) (X : List Nat) (w0 : World) (v1 : Value) (q_p3 : Nat) (p0 : List (Int × Int × Int × Int)) (p1 : Int) (p2 : Int) (p3 : Int) (r : Int × Int × Int) (H : Br p0 p1 p2 p3 = some r) (h_v1 : Sl w0 (NX X) Be v1 p0) (hL : Stw ⟨Y, X, w0⟩ [(q_p3, [.int .i64 p3])] [] w0) :
    Calls Try.prog 94 #[v1, .int .i64 p1, .int .i64 p2, .pointer (some ⟨q_p3, 0, none⟩), .func (.func 26) #[] #[]] w0 fun e w' => ∃ x : Unit, e = .returned (.tuple #[.int .i64 r.1, .int .i64 r.2.1]) ∧ Stw ⟨Y, X, w0⟩ [(q_p3, [.int .i64 r.2.2])] [] w' := by
 refine enter Try.func94 Aa Try.ntmps94 Aa fun a F => ?_
 have W := hL
 unfold Br at H
 refine Ah (Ac ?_)
 iterate 2 refine ls F W Aa (Af F Aa).q fun a w F W => ?_
 refine Ae (Ab ?_)
 iterate 2 refine Ah ?_
 refine BW W MO (by kernel_rfl) ?_
 iterate 3 refine qs F Aa (Ad F Aa).q fun a F => ?_
 obtain ⟨x1, h1, H⟩ := Ai H
 refine qs F Aa (Ax (r := Be) Eb F Aa Aa (Am h_v1) h1).q fun a F => ?_
 refine qs F Aa (Ao (y := Value.agg #[.int .i64 x1.1, .int .i64 x1.2.1, .int .i64 x1.2.2.1, .int .i64 x1.2.2.2]) (j := 0) (i := p2) F Aa Aa (Am h_v1) h1 Ed.to D9 Aa).q fun a F => ?_
 iterate 2 refine qs F Aa (Ad F Aa).q fun a F => ?_
 obtain ⟨x2, h2, H⟩ := Ai H
 refine qs F Aa (Ax (r := Be) Eb F Aa Aa (Am h_v1) h2).q fun a F => ?_
 refine qs F Aa (Ao (y := Value.agg #[.int .i64 x2.1, .int .i64 x2.2.1, .int .i64 x2.2.2.1, .int .i64 x2.2.2.2]) (j := 0) (i := p1) F Aa Aa (Am h_v1) h2 Ed.to D9 Aa).q fun a F => ?_
 obtain ⟨x3, h3, H⟩ := Ai H
 refine qs F Aa (Ez (ws := [.agg #[.int .i64 x1.1, .int .i64 x1.2.1, .int .i64 x1.2.2.1, .int .i64 x1.2.2.2], .agg #[.int .i64 x2.1, .int .i64 x2.2.1, .int .i64 x2.2.2.1, .int .i64 x2.2.2.2]]) (v := Value.int .i64 x3) F NL Aa (fun w W => Ca any w x1 x2 _ h3)) fun a F => ?_
 refine qs F Aa (BP F Aa Aa).q fun a F => ?_
 refine A5 fun w W => ?_
 refine Ab ?_
 refine AA F Aa (fun hb => ?_) fun hb => ?_
 ·
  have H := AY (BI hb) H
  rw [hb] at F
  clear hb
  refine Ah (Ac ?_)
  refine ls F W Aa (Ad F Aa).q fun a w F W => ?_
  refine ls F W Aa (DK F Aa).q fun a w F W => ?_
  refine ls F W Aa (Az (v := Value.int .i64 p3) 0 F Aa Aa T3 Aa).q fun a w F W => ?_
  refine ls F W Aa (BK F Aa Aa Aa).q fun a w F W => ?_
  refine ls F W Aa (DK F Aa).q fun a w F W => ?_
  refine El (vs := [.int .i64 (AB (p3 + 1))]) (M' := [(q_p3, [.int .i64 (AB (p3 + 1))])]) 0 F W Aa Aa Aa T3 Aa Aa Aa Aa Aa fun w W => ?_
  refine Ae (Ab (Ah (Ac ?_)))
  iterate 2 refine ls F W Aa (Ad F Aa).q fun a w F W => ?_
  iterate 2 refine ls F W Aa (Af F Aa).q fun a w F W => ?_
  refine Ae (Ab (AH (AL ?_)))
  have H := A2 H
  subst H
  refine ET (.inl Aa) F W Aa (Aw F Aa) (Aw F Aa) ?_
  exact ⟨(), Aa, W⟩
 have H := AX (BJ hb) H
 rw [hb] at F
 clear hb
 refine Av (Ab (Ah (Ac ?_)))
 iterate 2 refine ls F W Aa (Ad F Aa).q fun a w F W => ?_
 iterate 2 refine ls F W Aa (Af F Aa).q fun a w F W => ?_
 refine Ae (Ab (AH ?_))
 have H := A2 H
 subst H
 refine ET (.inl Aa) F W Aa (Aw F Aa) (Aw F Aa) ?_
 exact ⟨(), Aa, W⟩
theorem Rb : Has Try.prog 94 := ⟨fun args w => Al Try.func94 rfl (by decide) args w⟩
noncomputable def Bq (p0 : List (Int × Int × Int × Int)) (p1 : Int) (p2 : Int) (p3 : Int) (p4 : Int) : Option (Int × Int) := (Br p0 p1 p2 p4).bind fun x1 => (Br p0 x1.2.1 p3 x1.2.2).bind fun x2 => (Br p0 x1.1 x2.1 x2.2.2).bind fun x3 => some (x3.2.1, x3.2.2)
theorem Ee (Y : Nat → Prop) (X : List Nat) (w0 : World) (v1 : Value) (q_p4 : Nat) (p0 : List (Int × Int × Int × Int)) (p1 : Int) (p2 : Int) (p3 : Int) (p4 : Int) (r : Int × Int) (H : Bq p0 p1 p2 p3 p4 = some r) (h_v1 : Sl w0 (NX X) Be v1 p0) (hL : Stw ⟨Y, X, w0⟩ [(q_p4, [.int .i64 p4])] [] w0) :
    Calls Try.prog 82 #[v1, .int .i64 p1, .int .i64 p2, .int .i64 p3, .pointer (some ⟨q_p4, 0, none⟩), .func (.func 26) #[] #[]] w0 fun e w' => ∃ x : Unit, e = .returned (.int .i64 r.1) ∧ Stw ⟨Y, X, w0⟩ [(q_p4, [.int .i64 r.2])] [] w' := by
 refine enter Try.func82 Aa Try.ntmps82 Aa fun a F => ?_
 have W := hL
 unfold Bq at H
 refine Ah (Ac ?_)
 refine ls F W Aa (Af F Aa).q fun a w F W => ?_
 refine Ae (Ab (Ah (Ac ?_)))
 iterate 5 refine ls F W Aa (Ad F Aa).q fun a w F W => ?_
 obtain ⟨x1, h1, H⟩ := Ai H
 refine B1 (Ml := [(q_p4, [.int .i64 p4])]) (Zl := []) (M := []) (Z := []) (β := Unit) (rv := fun x => .tuple #[.int .i64 x1.1, .int .i64 x1.2.1]) (MM := fun x => [(q_p4, [.int .i64 x1.2.2])]) (ZZ := fun x => []) F W Rb Aa Aa (fun hL => Dg _ _ w (v1) q_p4 p0 p1 p2 p4 _ h1 (W.roX h_v1 (fun g hg => HP hg)) hL) fun x a w F W => ?_
 have W : Stw ⟨Y, X, w0⟩ [(q_p4, [.int .i64 x1.2.2])] [] w := W
 refine ls F W Aa (Ad F Aa).q fun a w F W => ?_
 refine ls F W Aa (BE (v := Value.int .i64 x1.1) F Aa Aa).q fun a w F W => ?_
 refine ls F W Aa (BE (v := Value.int .i64 x1.2.1) F Aa Aa).q fun a w F W => ?_
 iterate 2 refine ls F W Aa (Af F Aa).q fun a w F W => ?_
 refine Ae (Ab (Ah (Ac ?_)))
 iterate 5 refine ls F W Aa (Ad F Aa).q fun a w F W => ?_
 obtain ⟨x2, h2, H⟩ := Ai H
 refine B1 (Ml := [(q_p4, [.int .i64 x1.2.2])]) (Zl := []) (M := []) (Z := []) (β := Unit) (rv := fun x => .tuple #[.int .i64 x2.1, .int .i64 x2.2.1]) (MM := fun x => [(q_p4, [.int .i64 x2.2.2])]) (ZZ := fun x => []) F W Rb Aa Aa (fun hL => Dg _ _ w (v1) q_p4 p0 x1.2.1 p3 x1.2.2 _ h2 (W.roX h_v1 (fun g hg => HP hg)) hL) fun x a w F W => ?_
 have W : Stw ⟨Y, X, w0⟩ [(q_p4, [.int .i64 x2.2.2])] [] w := W
 refine ls F W Aa (Ad F Aa).q fun a w F W => ?_
 refine ls F W Aa (BE (v := Value.int .i64 x2.1) F Aa Aa).q fun a w F W => ?_
 refine ls F W Aa (BE (v := Value.int .i64 x2.2.1) F Aa Aa).q fun a w F W => ?_
 iterate 2 refine ls F W Aa (Af F Aa).q fun a w F W => ?_
 refine Ae (Ab (Ah (Ac ?_)))
 iterate 5 refine ls F W Aa (Ad F Aa).q fun a w F W => ?_
 obtain ⟨x3, h3, H⟩ := Ai H
 refine B1 (Ml := [(q_p4, [.int .i64 x2.2.2])]) (Zl := []) (M := []) (Z := []) (β := Unit) (rv := fun x => .tuple #[.int .i64 x3.1, .int .i64 x3.2.1]) (MM := fun x => [(q_p4, [.int .i64 x3.2.2])]) (ZZ := fun x => []) F W Rb Aa Aa (fun hL => Dg _ _ w (v1) q_p4 p0 x1.1 x2.1 x2.2.2 _ h3 (W.roX h_v1 (fun g hg => HP hg)) hL) fun x a w F W => ?_
 have W : Stw ⟨Y, X, w0⟩ [(q_p4, [.int .i64 x3.2.2])] [] w := W
 refine ls F W Aa (Ad F Aa).q fun a w F W => ?_
 refine ls F W Aa (BE (v := Value.int .i64 x3.1) F Aa Aa).q fun a w F W => ?_
 refine ls F W Aa (BE (v := Value.int .i64 x3.2.1) F Aa Aa).q fun a w F W => ?_
 iterate 2 refine ls F W Aa (Af F Aa).q fun a w F W => ?_
 refine Ae (Ab (Ah (Ac ?_)))
 refine ls F W Aa (Ad F Aa).q fun a w F W => ?_
 refine ls F W Aa (Af F Aa).q fun a w F W => ?_
 refine Ae (Ab (AH ?_))
 have H := A2 H
 subst H
 refine BN (.inl Aa) F W Aa (Aw F Aa) ?_
 exact ⟨(), Aa, W⟩
theorem Ru : Has Try.prog 82 := ⟨fun args w => Al Try.func82 rfl (by decide) args w⟩
noncomputable def AR (p0 : List (Int × Int × Int × Int)) (p1 : Int) (p2 : Int) : Option (Int × Int) := (Bq p0 (AB (p1 - 1)) p1 (AB (p1 + 1)) p2).bind fun x1 => some (x1.1, x1.2)
theorem Cy (Y : Nat → Prop) (X : List Nat) (w0 : World) (v1 : Value) (q_p2 : Nat) (p0 : List (Int × Int × Int × Int)) (p1 : Int) (p2 : Int) (r : Int × Int) (H : AR p0 p1 p2 = some r) (h_v1 : Sl w0 (NX X) Be v1 p0) (hL : Stw ⟨Y, X, w0⟩ [(q_p2, [.int .i64 p2])] [] w0) :
    Calls Try.prog 81 #[v1, .int .i64 p1, .pointer (some ⟨q_p2, 0, none⟩), .func (.func 26) #[] #[]] w0 fun e w' => ∃ x : Unit, e = .returned (.int .i64 r.1) ∧ Stw ⟨Y, X, w0⟩ [(q_p2, [.int .i64 r.2])] [] w' := by
 refine enter Try.func81 Aa Try.ntmps81 Aa fun a F => ?_
 have W := hL
 unfold AR at H
 refine Ah (Ac ?_)
 refine ls F W Aa (Af F Aa).q fun a w F W => ?_
 refine Ae (Ab (Ah (Ac ?_)))
 iterate 2 refine ls F W Aa (Ad F Aa).q fun a w F W => ?_
 refine ls F W Aa (Cq F Aa Aa Aa).q fun a w F W => ?_
 iterate 2 refine ls F W Aa (Ad F Aa).q fun a w F W => ?_
 refine ls F W Aa (BK F Aa Aa Aa).q fun a w F W => ?_
 iterate 2 refine ls F W Aa (Ad F Aa).q fun a w F W => ?_
 obtain ⟨x1, h1, H⟩ := Ai H
 refine B1 (Ml := [(q_p2, [.int .i64 p2])]) (Zl := []) (M := []) (Z := []) (β := Unit) (rv := fun x => .int .i64 x1.1) (MM := fun x => [(q_p2, [.int .i64 x1.2])]) (ZZ := fun x => []) F W Ru Aa Aa (fun hL => Ee _ _ w (v1) q_p2 p0 (AB (p1 - 1)) p1 (AB (p1 + 1)) p2 _ h1 (W.roX h_v1 (fun g hg => HP hg)) hL) fun x a w F W => ?_
 have W : Stw ⟨Y, X, w0⟩ [(q_p2, [.int .i64 x1.2])] [] w := W
 refine ls F W Aa (Af F Aa).q fun a w F W => ?_
 refine Ae (Ab (AH ?_))
 have H := A2 H
 subst H
 refine BN (.inl Aa) F W Aa (Aw F Aa) ?_
 exact ⟨(), Aa, W⟩
theorem QW : Has Try.prog 81 := ⟨fun args w => Al Try.func81 rfl (by decide) args w⟩
noncomputable def BF (p0 : List (Int × Int × Int × Int)) (p1 : Int) (p2 : Int) : Option (Int × Int) := (if 8 ≤ (AB (p2 - p1)) then (if 50 ≤ (AB (p2 - p1)) then (AR p0 (AB (p1 + (AB ((AB (Int.tdiv (AB (p2 - p1)) 4)) * 1)))) 0).bind fun x7 => (AR p0 (AB (p1 + (AB ((AB (Int.tdiv (AB (p2 - p1)) 4)) * 2)))) x7.2).bind fun x8 => (AR p0 (AB (p1 + (AB ((AB (Int.tdiv (AB (p2 - p1)) 4)) * 3)))) x8.2).bind fun x9 => some (x7.1, x8.1, x9.1, x9.2) else some (AB (p1 + (AB ((AB (Int.tdiv (AB (p2 - p1)) 4)) * 1))), AB (p1 + (AB ((AB (Int.tdiv (AB (p2 - p1)) 4)) * 2))), AB (p1 + (AB ((AB (Int.tdiv (AB (p2 - p1)) 4)) * 3))), 0)).bind fun (x3, x4, x5, x6) => (Bq p0 x3 x4 x5 x6).bind fun x10 => some (x10.1, x10.2) else some (AB (p1 + (AB ((AB (Int.tdiv (AB (p2 - p1)) 4)) * 2))), 0)).bind fun (x1, x2) => (if x2 = 0 then some (x1, 1) else (if x2 = 12 then some (x1, 2) else some (x1, 0)))
theorem Fs (Y : Nat → Prop) (w0 : World) (v1 : Value) (p0 : List (Int × Int × Int × Int)) (p1 : Int) (p2 : Int) (r : Int × Int) (H : BF p0 p1 p2 = some r) (h_v1 : Sl w0 (NX []) Be v1 p0) :
    Calls Try.prog 62 #[v1, .int .i64 p1, .int .i64 p2, .func (.func 26) #[] #[]] w0 fun e w' => e = .returned (.tuple #[.int .i64 r.1, .int .i64 r.2]) ∧ Below w0.heap.size w0 w' := by
 refine enter Try.func62 Aa Try.ntmps62 Aa fun a F => ?_
 have W := Stw.start Y w0
 unfold BF at H
 refine Ah (Ac ?_)
 iterate 2 refine ls F W Aa (Af F Aa).q fun a w F W => ?_
 refine Ae (Ab (Ah (Ac ?_)))
 iterate 2 refine ls F W Aa (Ad F Aa).q fun a w F W => ?_
 refine ls F W Aa (Cq F Aa Aa Aa).q fun a w F W => ?_
 refine ls F W Aa (Af F Aa).q fun a w F W => ?_
 refine Ae (Ab (Ah (Ac ?_)))
 refine Fe (cs := [.int .i64 0]) F W Aa Z3 Aa fun b1 a w F W => ?_
 refine Ae (Ab (Ah (Ac ?_)))
 iterate 2 refine ls F W Aa (Ad F Aa).q fun a w F W => ?_
 refine ls F W Aa (La F Aa Aa (by decide) Aa).q fun a w F W => ?_
 refine ls F W Aa (Lx F Aa Aa Aa).q fun a w F W => ?_
 refine ls F W Aa (BK F Aa Aa Aa).q fun a w F W => ?_
 refine ls F W Aa (Af F Aa).q fun a w F W => ?_
 refine Ae (Ab (Ah (Ac ?_)))
 iterate 2 refine ls F W Aa (Ad F Aa).q fun a w F W => ?_
 refine ls F W Aa (La F Aa Aa (by decide) Aa).q fun a w F W => ?_
 refine ls F W Aa (Lx F Aa Aa Aa).q fun a w F W => ?_
 refine ls F W Aa (BK F Aa Aa Aa).q fun a w F W => ?_
 refine ls F W Aa (Af F Aa).q fun a w F W => ?_
 refine Ae (Ab (Ah (Ac ?_)))
 iterate 2 refine ls F W Aa (Ad F Aa).q fun a w F W => ?_
 refine ls F W Aa (La F Aa Aa (by decide) Aa).q fun a w F W => ?_
 refine ls F W Aa (Lx F Aa Aa Aa).q fun a w F W => ?_
 refine ls F W Aa (BK F Aa Aa Aa).q fun a w F W => ?_
 refine ls F W Aa (Af F Aa).q fun a w F W => ?_
 refine Ae (Ab ?_)
 obtain ⟨o1, G1, K1⟩ := Ai H
 refine AM (fun a w => ∃ x1 : Int, ∃ x2 : Int, some ((x1, x2)) = some o1 ∧ Fr 63 [] [(8, .int .i64 0), (9, .int .i64 0), (11, .pointer (some ⟨b1, 0, none⟩)), (13, .int .i64 x1)] a ∧ Stw ⟨Y, [], w0⟩ [(b1, [.int .i64 x2])] [] w) ?_ ?_
 ·
  have H := G1
  clear G1 K1
  refine Ah (Ac ?_)
  refine ls F W Aa (Ad F Aa).q fun a w F W => ?_
  refine ls F W Aa (DU F Aa Aa).q fun a w F W => ?_
  refine Ae (Ab ?_)
  refine AA F Aa (fun hb => ?_) fun hb => ?_
  ·
   have H := AY (BI hb) H
   rw [hb] at F
   clear hb
   obtain ⟨o2, G2, K2⟩ := Ai H
   refine AM (fun a w => ∃ x3 : Int, ∃ x4 : Int, ∃ x5 : Int, ∃ x6 : Int, some ((x3, x4, x5, x6)) = some o2 ∧ Fr 63 [] [(0, v1), (3, .func (.func 26) #[] #[]), (8, .int .i64 0), (9, .int .i64 0), (11, .pointer (some ⟨b1, 0, none⟩)), (12, .int .i64 x3), (13, .int .i64 x4), (14, .int .i64 x5)] a ∧ Stw ⟨Y, [], w0⟩ [(b1, [.int .i64 x6])] [] w) ?_ ?_
   ·
    have H := G2
    clear G2 K2
    refine Ah (Ac ?_)
    refine ls F W Aa (Ad F Aa).q fun a w F W => ?_
    refine ls F W Aa (DU F Aa Aa).q fun a w F W => ?_
    refine Ae (Ab ?_)
    refine AA F Aa (fun hb => ?_) fun hb => ?_
    ·
     have H := AY (BI hb) H
     rw [hb] at F
     clear hb
     refine Ah (Ac ?_)
     iterate 3 refine ls F W Aa (Ad F Aa).q fun a w F W => ?_
     obtain ⟨x7, h1, H⟩ := Ai H
     refine B1 (Ml := [(b1, [.int .i64 0])]) (Zl := []) (M := []) (Z := []) (β := Unit) (rv := fun x => .int .i64 x7.1) (MM := fun x => [(b1, [.int .i64 x7.2])]) (ZZ := fun x => []) F W QW Aa Aa (fun hL => Cy _ _ w (v1) b1 p0 (AB (p1 + (AB ((AB (Int.tdiv (AB (p2 - p1)) 4)) * 1)))) 0 _ h1 (W.roX h_v1 (fun g hg => HP hg)) hL) fun x a w F W => ?_
     have W : Stw ⟨Y, [], w0⟩ [(b1, [.int .i64 x7.2])] [] w := W
     refine ls F W Aa (Af F Aa).q fun a w F W => ?_
     refine Ae (Ab (Ah (Ac ?_)))
     iterate 3 refine ls F W Aa (Ad F Aa).q fun a w F W => ?_
     obtain ⟨x8, h2, H⟩ := Ai H
     refine B1 (Ml := [(b1, [.int .i64 x7.2])]) (Zl := []) (M := []) (Z := []) (β := Unit) (rv := fun x => .int .i64 x8.1) (MM := fun x => [(b1, [.int .i64 x8.2])]) (ZZ := fun x => []) F W QW Aa Aa (fun hL => Cy _ _ w (v1) b1 p0 (AB (p1 + (AB ((AB (Int.tdiv (AB (p2 - p1)) 4)) * 2)))) x7.2 _ h2 (W.roX h_v1 (fun g hg => HP hg)) hL) fun x a w F W => ?_
     have W : Stw ⟨Y, [], w0⟩ [(b1, [.int .i64 x8.2])] [] w := W
     refine ls F W Aa (Af F Aa).q fun a w F W => ?_
     refine Ae (Ab (Ac ?_))
     iterate 3 refine ls F W Aa (Ad F Aa).q fun a w F W => ?_
     obtain ⟨x9, h3, H⟩ := Ai H
     refine B1 (Ml := [(b1, [.int .i64 x8.2])]) (Zl := []) (M := []) (Z := []) (β := Unit) (rv := fun x => .int .i64 x9.1) (MM := fun x => [(b1, [.int .i64 x9.2])]) (ZZ := fun x => []) F W QW Aa Aa (fun hL => Cy _ _ w (v1) b1 p0 (AB (p1 + (AB ((AB (Int.tdiv (AB (p2 - p1)) 4)) * 3)))) x8.2 _ h3 (W.roX h_v1 (fun g hg => HP hg)) hL) fun x a w F W => ?_
     have W : Stw ⟨Y, [], w0⟩ [(b1, [.int .i64 x9.2])] [] w := W
     refine ls F W Aa (Af F Aa).q fun a w F W => ?_
     refine Ae (Ab ?_)
     exact ⟨_, _, _, _, H, F.re ⟨rfl, Aa, Aa, Aa, Aa, Aa, Aa, Aa, trivial⟩, W⟩
    have H := AX (BJ hb) H
    rw [hb] at F
    clear hb
    refine Av (Ab ?_)
    exact ⟨_, _, _, _, H, F.re ⟨rfl, Aa, Aa, Aa, Aa, Aa, Aa, Aa, trivial⟩, W⟩
   rintro a w ⟨x3, x4, x5, x6, hj, F, W⟩
   have hj := A2 hj
   subst hj
   have H := K2
   clear G2 K2
   refine Ac ?_
   iterate 5 refine ls F W Aa (Ad F Aa).q fun a w F W => ?_
   obtain ⟨x10, h4, H⟩ := Ai H
   refine B1 (Ml := [(b1, [.int .i64 x6])]) (Zl := []) (M := []) (Z := []) (β := Unit) (rv := fun x => .int .i64 x10.1) (MM := fun x => [(b1, [.int .i64 x10.2])]) (ZZ := fun x => []) F W Ru Aa Aa (fun hL => Ee _ _ w (v1) b1 p0 x3 x4 x5 x6 _ h4 (W.roX h_v1 (fun g hg => HP hg)) hL) fun x a w F W => ?_
   have W : Stw ⟨Y, [], w0⟩ [(b1, [.int .i64 x10.2])] [] w := W
   refine ls F W Aa (Af F Aa).q fun a w F W => ?_
   refine Ae (Ab ?_)
   exact ⟨_, _, H, F.re ⟨rfl, Aa, Aa, Aa, trivial⟩, W⟩
  have H := AX (BJ hb) H
  rw [hb] at F
  clear hb
  refine Av (Ab ?_)
  exact ⟨_, _, H, F.re ⟨rfl, Aa, Aa, Aa, trivial⟩, W⟩
 rintro a w ⟨x1, x2, hj, F, W⟩
 have hj := A2 hj
 subst hj
 have H := K1
 clear G1 K1
 refine Ah (Ac ?_)
 refine ls F W Aa (Az (v := Value.int .i64 x2) 0 F Aa Aa T3 Aa).q fun a w F W => ?_
 refine Ae (Ab (Au (Ah (Ac ?_))))
 refine ls F W Aa (DV F Aa Aa).q fun a w F W => ?_
 refine ls F W Aa (Af F Aa).q fun a w F W => ?_
 refine Ae (Ab ?_)
 refine AA F Aa (fun hb => ?_) fun hb => ?_
 ·
  have H := AY (BI hb) H
  rw [hb] at F
  clear hb
  refine Ah (Ac ?_)
  refine ls F W Aa (Ad F Aa).q fun a w F W => ?_
  iterate 2 refine ls F W Aa (Af F Aa).q fun a w F W => ?_
  refine Ae (Ab (AH (AS ?_)))
  have H := A2 H
  subst H
  refine ET (.inl Aa) F W Aa (Aw F Aa) (Aw F Aa) ?_
  exact ⟨rfl, W.done⟩
 have H := AX (BJ hb) H
 rw [hb] at F
 clear hb
 refine Ah (Ac ?_)
 refine ls F W Aa (DV F Aa Aa).q fun a w F W => ?_
 refine ls F W Aa (Af F Aa).q fun a w F W => ?_
 refine Ae (Ab ?_)
 refine AA F Aa (fun hb => ?_) fun hb => ?_
 ·
  have H := AY (BI hb) H
  rw [hb] at F
  clear hb
  refine Ah (Ac ?_)
  refine ls F W Aa (Ad F Aa).q fun a w F W => ?_
  iterate 2 refine ls F W Aa (Af F Aa).q fun a w F W => ?_
  refine Ae (Ab (AH (AS ?_)))
  have H := A2 H
  subst H
  refine ET (.inl Aa) F W Aa (Aw F Aa) (Aw F Aa) ?_
  exact ⟨rfl, W.done⟩
 have H := AX (BJ hb) H
 rw [hb] at F
 clear hb
 refine Ah (Ac ?_)
 refine ls F W Aa (Ad F Aa).q fun a w F W => ?_
 iterate 2 refine ls F W Aa (Af F Aa).q fun a w F W => ?_
 refine Ae (Ab (AH (AS ?_)))
 have H := A2 H
 subst H
 refine ET (.inl Aa) F W Aa (Aw F Aa) (Aw F Aa) ?_
 exact ⟨rfl, W.done⟩
end Go.Proofs.Ythiejmoddfenlaa
