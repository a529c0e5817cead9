/- The functions of layer 24, Ig. Conditions: none. -/
import Derived.Test.YtghpabmmdenaoaaRows
import Derived.Test.YtghpabmmdenaoaabA5
import Derived.Test.YtghpabmmdenaoaabOC
import Derived.Test.YtghpabmmdenaoaabOM
import Derived.Test.YtghpabmmdenaoaabDR
import Derived.Test.YtghpabmmdenaoaabOX
namespace Go.Proofs.Ytghpabmmdenaoaa
open Go Go.RowKit
set_option linter.unusedVariables false
set_option linter.unusedSimpArgs false
set_option maxRecDepth 20000
abbrev Eu : Dp (Value × Nat × List Int) := (Dp.sl 3 (Rp.int .i64))
abbrev Fm (p : Value × Nat × List Int) : Nat × List Int := p.2
abbrev R4 : (Nat × List Int) → Option (List Int) := TP
theorem Uv : Rst Eu (Rp.slice (Rp.int .i64)) Fm R4 := Rst.sl
theorem Ui : (Try.prog.info? 39).bind (·.zero) = some (.slice none 0 0) := by kernel_rfl
noncomputable def DV (p0 : List Int) : Option (List Int) := (KF ([] : List Int) p0).bind fun x1 => some x1
theorem I1 (Y : Nat → Prop) (w0 : World) (v1 : Value) (p0 : List Int) (r : List Int) (H : DV p0 = some r) (h_v1 : Sl w0 (NX []) (Rp.int .i64) v1 p0) :
    Calls Try.prog 35 #[v1] w0 fun e w' => ∃ x : Value, e = .returned (x) ∧ Stw ⟨Y, [], w0⟩ [] [row (x) 3 (Rp.int .i64) r] w' := by
 refine enter Try.func35 Aa Try.ntmps35 Aa fun a F => ?_
 have W := Stw.start Y w0
 unfold DV at H
 refine Ah (Ac ?_)
 refine ls F W Aa (Af F Aa).q fun a w F W => ?_
 refine Ae (Ab (Ah (Ah (Ac ?_))))
 refine ls F W Aa (Ad F Aa).q fun a w F W => ?_
 refine ls F W Aa (QQ (r := (Rp.int .i64)) Hu F Aa (Ap h_v1)).q fun a w F W => ?_
 refine Ae (Ab ?_)
 rcases Qf (Ap h_v1) W with ⟨hb, hl⟩ | hb
 ·
  rw [hl] at H
  change some ([] : List Int) = _ at H
  rw [hb] at F
  refine Rn F Aa ?_
  refine Ah (Ac ?_)
  refine ls F W Aa (Af F Aa).q fun a w F W => ?_
  refine Ae (Ab (AF (AN ?_)))
  have H := AQ H
  subst H
  refine Bj (.inl Aa) F W Aa (AD F Aa) ?_
  have W := W.nilRow 3 (Rp.int .i64)
  exact ⟨(Value.slice none 0 0), Aa, W⟩
 rw [hb] at F
 refine My F Aa ?_
 refine Aq (Ab (Ah (Ac ?_)))
 refine E9 (z := Value.int .i64 0) (cs := []) (Rp.int .i64) ([] : List Int) F W Aa EH Z3 Aa Aa Aa Aa Aa Aa (Fl.int.repL _ _ ([] : List Int)) fun v2 a w F W => ?_
 refine ls F W Aa (Ad F Aa).q fun a w F W => ?_
 obtain ⟨x1, h1, H⟩ := Ak H
 refine Fb (r := (Rp.int .i64)) (i := 0) F W Aa EH Aa Aa Aa Aa (QR Fl.int (Ap h_v1) W) h1 Aa fun v3 a w F W => ?_
 have W : Stw ⟨Y, [], w0⟩ [] [row v3 3 (Rp.int .i64) x1] w := W
 refine ls F W Aa (Af F Aa).q fun a w F W => ?_
 refine Ae (Ab (AF ?_))
 have H := AQ H
 subst H
 refine Bj (.inl Aa) F W Aa (AD F Aa) ?_
 exact ⟨(v3), Aa, W⟩
theorem VE : Has Try.prog 35 := ⟨fun args w => Al Try.func35 rfl (by decide) args w⟩
noncomputable def D1 (p0 : List (List Int)) (x1 : List (Nat × List Int)) : ((List (Nat × List Int)) × Int) → Option (((List (Nat × List Int)) × Int) ⊕ (List (Nat × List Int)))
  | (x3, x4) => (if x4 < ((MC x1 0 (min p0.length x1.length) (p0.map fun q => (1, q))).length : Int) then (ix x3 x4).bind fun x5 => (DV x5.2).bind fun x6 => (Oz x5.1).bind fun x7 => (ix x3 x4).bind fun x8 => (ix x3 x4).bind fun x9 => some (.inl ((AE x3 x4 (2, x6)), Az (x4 + 1))) else some (.inr x3))
noncomputable def GF (p0 : List (List Int)) : Option (List (Nat × List Int)) := (mk (p0.length : Int) ((2, []) : Nat × List Int)).bind fun x1 => (AH (D1 p0 x1) ((MC x1 0 (min p0.length x1.length) (p0.map fun q => (1, q))), 0)).bind fun x2 => some x2
theorem LT (Y : Nat → Prop) (w0 : World) (v1 : Value) (p0 : List (List Int)) (r : (List (Nat × List Int))) (H : GF p0 = some r) (s_v1 : Sl w0 Y (Rp.slice (Rp.int .i64)) v1 p0) :
    Calls Try.prog 20 #[v1] w0 fun e w' => ∃ x : Value × ({x : List (Value × Nat × List Int) // x.map Fm = r}), e = .returned (x.1) ∧ Stw ⟨Y, [], w0⟩ [] [C8 (x.1) 39 Eu (x.2.1)] w' := by
 refine enter Try.func20 Aa Try.ntmps20 Aa fun a F => ?_
 have W := Stw.start Y w0
 obtain ⟨v2, h1, s_v1⟩ := s_v1.ex Er
 have h_v1 := W.nx s_v1
 unfold GF at H
 refine Ah (Ac ?_)
 refine ls F W Aa (Af F Aa).q fun a w F W => ?_
 refine Ae (Ab (Ah (Ac ?_)))
 refine ls F W Aa (Ad F Aa).q fun a w F W => ?_
 refine ls F W Aa (B1 (r := (Rp.slice (Rp.int .i64))) (l := p0) Kw Aa F Aa (Cb Er h1 (Ap h_v1))).q fun a w F W => ?_
 obtain ⟨x1, h2, H⟩ := Ak H
 have h3 := TE (er := Fm) (z := (Value.slice none 0 0, 2, [])) h2
 refine H2 (r := Eu.hr) (Value.slice none 0 0, 2, []) F W Aa N8 Ui Aa Aa (fun w A => ⟨rfl, Aa⟩) h3.1 Aa fun v3 a w F W => ?_
 have W := Stw.dNew (D := Eu) Nl.sl W
 have h4 : List.map Fm (List.replicate ((p0.length : Int)).toNat ((Value.slice none 0 0, 2, []) : Value × Nat × List Int)) = x1 := h3.2
 have W : Stw ⟨Y, [], w0⟩ [] [C8 v3 39 Eu (List.replicate ((p0.length : Int)).toNat ((Value.slice none 0 0, 2, []) : Value × Nat × List Int))] w := W
 refine ls F W Aa (Af F Aa).q fun a w F W => ?_
 refine Ae (Ab (Ah (Ac ?_)))
 iterate 2 refine ls F W Aa (Ad F Aa).q fun a w F W => ?_
 have h5 := Ss (lx := (List.replicate ((p0.length : Int)).toNat ((Value.slice none 0 0, 2, []) : Value × Nat × List Int))) (ly := v2) h4 h1
 have h6 : min v2.length (List.replicate ((p0.length : Int)).toNat ((Value.slice none 0 0, 2, []) : Value × Nat × List Int)).length = min p0.length x1.length := by rw [← h4, ← h1, List.length_map, List.length_map]
 refine Qz (r := (Rp.int .i64)) F W Aa N8 Aa Aa (W.old s_v1) fun a w F W => ?_
 rw [h6] at F W h5
 have W : Stw ⟨Y, [], w0⟩ [] [C8 v3 39 Eu (MC (List.replicate ((p0.length : Int)).toNat ((Value.slice none 0 0, 2, []) : Value × Nat × List Int)) 0 (min p0.length x1.length) (v2.map fun p => ((p.1, 1, p.2) : De Int)))] w := W
 refine Ae (Ab ?_)
 obtain ⟨o1, G1, K1⟩ := Ak H
 refine AK (fun a w => ∃ x2 : List (Nat × List Int), ∃ g_x2 : {x : List (Value × Nat × List Int) // x.map Fm = x2}, some (x2) = some o1 ∧ Fr 26 [] [(2, .slice none 0 0), (3, v3)] a ∧ Stw ⟨Y, [], w0⟩ [] [C8 v3 39 Eu g_x2.1] w) ?_ ?_
 ·
  have H := G1
  clear G1 K1
  refine Ah (Ac ?_)
  refine ls F W Aa (Ad F Aa).q fun a w F W => ?_
  refine ls F W Aa (Pt (er := Fm) h5 Kw Aa F Aa (MH.hd (F8 0 Aa))).q fun a w F W => ?_
  refine ls F W Aa (Ad F Aa).q fun a w F W => ?_
  refine Ae (Ab (As ?_))
  refine Bh H (fun s a w => ∃ g_x3 : {x : List (Value × Nat × List Int) // x.map Fm = s.1}, Fr 26 [] [(2, .slice none 0 0), (3, v3), (12, v3), (13, .int .i64 ((MC x1 0 (min p0.length x1.length) (p0.map fun q => (1, q))).length : Int)), (14, .int .i64 s.2)] a ∧ Stw ⟨Y, [], w0⟩ [] [C8 v3 39 Eu g_x3.1] w) ⟨⟨(MC (List.replicate ((p0.length : Int)).toNat ((Value.slice none 0 0, 2, []) : Value × Nat × List Int)) 0 (min p0.length x1.length) (v2.map fun p => ((p.1, 1, p.2) : De Int))), h5⟩, F.re ⟨rfl, Aa, Aa, Aa, Aa, trivial⟩, W⟩ fun s o a w H L2 hR => ?_
  obtain ⟨x3, x4⟩ := s
  obtain ⟨g_x3, F, W⟩ := hR
  have F : Fr 26 [] [(2, .slice none 0 0), (3, v3), (12, v3), (13, .int .i64 ((MC x1 0 (min p0.length x1.length) (p0.map fun q => (1, q))).length : Int)), (14, .int .i64 x4)] a := F
  have W : Stw ⟨Y, [], w0⟩ [] [C8 v3 39 Eu g_x3.1] w := W
  rw [D1] at H
  refine Ah (Ac ?_)
  refine ls F W Aa (BI F Aa Aa).q fun a w F W => ?_
  refine Ae (Ab (Ah ?_))
  refine Ay F Aa (fun hb => ?_) fun hb => ?_
  ·
   have H := AP (Bm hb) H
   rw [hb] at F
   clear hb
   refine Aq (Ab (Ah (As (Ah (Ac ?_)))))
   refine ls F W Aa (Ad F Aa).q fun a w F W => ?_
   obtain ⟨x5, h7, H⟩ := Ak H
   obtain ⟨v4, h8, h9⟩ := EK (er := Fm) g_x3.2 h7
   refine ls F W Aa (AC (r := Eu.hr) N8 F Aa Aa (MH.hd (F8 0 Aa)) h8).q fun a w F W => ?_
   have h10 : Eu.cells v4 = [(v4.1)] := congrArg (fun q : Nat × List Int => ([(v4.1)] : List Value)) h9
   refine ls F W Aa (Ao (y := (v4.1)) (j := 0) (i := x4) (enc := Eu.cells) F Aa Aa (MH.hd (F8 0 Aa)) h8 Eu.flat J7 (by rw [h10]; rfl)).q fun a w F W => ?_
   iterate 2 refine ls F W Aa (Af F Aa).q fun a w F W => ?_
   refine Ae (Ab (Ac ?_))
   iterate 3 refine ls F W Aa (Ad F Aa).q fun a w F W => ?_
   obtain ⟨x6, h11, H⟩ := Ak H
   obtain ⟨x7, h12, H⟩ := Ak H
   refine Bo (Ml := []) (Zl := []) (M := []) (Z := [C8 v3 39 Eu g_x3.1]) (β := Value) (rv := fun x => x) (MM := fun x => []) (ZZ := fun x => [row x 3 (Rp.int .i64) x6]) F W VE Aa Aa (fun hL => I1 _ w ((v4.1)) x5.2 _ h11 ((MH.sl (k := x5.1) (l := x5.2) (F8 0 Aa) h8 Foc.here (congrArg (fun q : Nat × List Int => q) h9) (NO h12)) w W).nx) fun x a w F W => ?_
   obtain ⟨v5, rfl⟩ : ∃ y, y = x := ⟨x, rfl⟩
   have W : Stw ⟨Y, [], w0⟩ [] [row v5 3 (Rp.int .i64) x6, C8 v3 39 Eu g_x3.1] w := W
   obtain ⟨x8, h13, H⟩ := Ak H
   obtain ⟨v6, h14, h15⟩ := EK (er := Fm) g_x3.2 h13
   refine ls F W Aa (AC (r := Eu.hr) N8 F Aa Aa (MH.hd (F8 1 Aa)) h14).q fun a w F W => ?_
   obtain ⟨x9, h16, H⟩ := Ak H
   obtain ⟨v7, h17, h18⟩ := EK (er := Fm) g_x3.2 h16
   have h19 : Value.oneCell' v5 = true := (W.one (k := 0) Aa)
   have W := W.frontZ (i := 1) Aa Aa
   have W := W.frontZ (i := 1) Aa Aa
   have W := W.toR
   refine Pi (D := Eu) (S := (Dp.sl 3 (Rp.int .i64))) (b := (v5, 2, x6)) (i := x4) (j := 0) Foc.here F W Aa Aa Aa h17 J7 (Ct h19) Aa h19 Aa fun w W => ?_
   have h20 : List.map Fm (AE g_x3.1 x4 (v5, 2, x6)) = (AE x3 x4 (2, x6)) := (Pc g_x3.2 (congrArg (fun q : Nat × List Int => (2, x6)) h18))
   have W : Stw ⟨Y, [], w0⟩ [] [C8 v3 39 Eu (AE g_x3.1 x4 (v5, 2, x6))] w := W
   refine Ae (AM (Ab (Ac ?_)))
   refine ls F W Aa (Bp F Aa Aa Aa).q fun a w F W => ?_
   refine ls F W Aa (Ad F Aa).q fun a w F W => ?_
   refine Ae (Ab ?_)
   exact ⟨_, H, ⟨(AE g_x3.1 x4 (v5, 2, x6)), h20⟩, F.re ⟨rfl, Aa, Aa, Aa, Aa, trivial⟩, W⟩
  have H := AO (Bn hb) H
  rw [hb] at F
  clear hb
  refine A5 ?_
  iterate 2 refine Bk ?_
  refine A6 (Ab ?_)
  have H := L2 _ H
  exact ⟨_, ⟨g_x3.1, g_x3.2⟩, H, F.re ⟨rfl, Aa, trivial⟩, W⟩
 rintro a w ⟨x2, g_x2, hj, F, W⟩
 have hj := AQ hj
 subst hj
 have H := K1
 clear G1 K1
 refine Ah (Ac ?_)
 refine ls F W Aa (Ad F Aa).q fun a w F W => ?_
 refine ls F W Aa (Af F Aa).q fun a w F W => ?_
 refine Ae (Ab (AF ?_))
 have H := AQ H
 subst H
 refine Bj (.inl Aa) F W Aa (AD F Aa) ?_
 exact ⟨((v3), ⟨g_x2.1, g_x2.2⟩), Aa, W⟩
theorem V6 : Has Try.prog 20 := ⟨fun args w => Al Try.func20 rfl (by decide) args w⟩
noncomputable def Dh (p0 : List Int) (p1 : Int) : Int → Option (Int ⊕ (Unit ⊕ Int))
  | x1 => (if x1 < (p0.length : Int) then (ix p0 x1).bind fun x2 => (if p1 = x2 then some (.inr (.inr x1)) else some (.inl (Az (x1 + 1)))) else some (.inr (.inl ())))
noncomputable def EA (p0 : List Int) (p1 : Int) : Option Int := FO (AH (Dh p0 p1) 0) fun _ => some (-1)
theorem I3 (Y : Nat → Prop) (w0 : World) (v1 : Value) (p0 : List Int) (p1 : Int) (r : Int) (H : EA p0 p1 = some r) (h_v1 : Sl w0 (NX []) (Rp.int .i64) v1 p0) :
    Calls Try.prog 36 #[v1, .int .i64 p1] w0 fun e w' => e = .returned (.int .i64 r) ∧ Below w0.heap.size w0 w' := by
 refine enter Try.func36 Aa Try.ntmps36 Aa fun a F => ?_
 have W := Stw.start Y w0
 unfold EA at H
 refine Ah (Ac ?_)
 refine ls F W Aa (Af F Aa).q fun a w F W => ?_
 refine Ae (Ab ?_)
 obtain ⟨o1, G1, K1, L1⟩ := JX H
 refine AK (fun a w => some (Sum.inl ()) = some o1 ∧ Fr 19 [] [(4, .int .i64 0)] a ∧ Stw ⟨Y, [], w0⟩ [] [] w) ?_ ?_
 ·
  have H := G1
  clear G1 K1
  refine Ah (Ac ?_)
  refine ls F W Aa (Ad F Aa).q fun a w F W => ?_
  refine ls F W Aa (B1 (r := (Rp.int .i64)) (l := p0) Hu Aa F Aa (Ap h_v1)).q fun a w F W => ?_
  refine ls F W Aa (Ad F Aa).q fun a w F W => ?_
  refine Ae (Ab (As ?_))
  refine Bh H (fun s a w => Fr 19 [] [(0, v1), (1, .int .i64 p1), (4, .int .i64 0), (7, .int .i64 (p0.length : Int)), (8, .int .i64 s)] a ∧ Stw ⟨Y, [], w0⟩ [] [] w) ⟨F.re ⟨rfl, Aa, Aa, Aa, Aa, trivial⟩, W⟩ fun s o a w H L2 hR => ?_
  obtain ⟨x1, rfl⟩ : ∃ x, x = s := ⟨s, rfl⟩
  obtain ⟨F, W⟩ := hR
  have F : Fr 19 [] [(0, v1), (1, .int .i64 p1), (4, .int .i64 0), (7, .int .i64 (p0.length : Int)), (8, .int .i64 x1)] a := F
  have W : Stw ⟨Y, [], w0⟩ [] [] w := W
  rw [Dh] at H
  refine Ah (Ac ?_)
  refine ls F W Aa (BI F Aa Aa).q fun a w F W => ?_
  refine Ae (Ab (Ah ?_))
  refine Ay F Aa (fun hb => ?_) fun hb => ?_
  ·
   have H := AP (Bm hb) H
   rw [hb] at F
   clear hb
   refine Aq (Ab (Ah (As (Ah (Ac ?_)))))
   refine ls F W Aa (Ad F Aa).q fun a w F W => ?_
   refine ls F W Aa (Af F Aa).q fun a w F W => ?_
   refine Ae (Ab (Ah (Ac ?_)))
   iterate 3 refine ls F W Aa (Ad F Aa).q fun a w F W => ?_
   obtain ⟨x2, h1, H⟩ := Ak H
   refine ls F W Aa (AC (r := (Rp.int .i64)) EH F Aa Aa (Ap h_v1) h1).q fun a w F W => ?_
   refine ls F W Aa (Ao (y := Value.int .i64 x2) (j := 0) (i := x1) F Aa Aa (Ap h_v1) h1 Fl.int.to T3 Aa).q fun a w F W => ?_
   refine ls F W Aa (Dl F Aa Aa).q fun a w F W => ?_
   refine Ae (Ab ?_)
   refine Ay F Aa (fun hb => ?_) fun hb => ?_
   ·
    have H := AP (Bm hb) H
    rw [hb] at F
    clear hb
    refine Ah (Ac ?_)
    refine ls F W Aa (Ad F Aa).q fun a w F W => ?_
    refine ls F W Aa (Af F Aa).q fun a w F W => ?_
    refine Ae (Ab (AF (A3 ?_)))
    iterate 2 refine AN ?_
    refine A3 (AN ?_)
    have H := L2 _ H
    have H := L1 _ H
    have H := AQ H
    subst H
    refine Bj (.inl Aa) F W Aa (AD F Aa) ?_
    exact ⟨rfl, W.done⟩
   have H := AO (Bn hb) H
   rw [hb] at F
   clear hb
   refine Aq (AM (Ab (Ac ?_)))
   refine ls F W Aa (Bp F Aa Aa Aa).q fun a w F W => ?_
   refine ls F W Aa (Ad F Aa).q fun a w F W => ?_
   refine Ae (Ab ?_)
   exact ⟨_, H, F.re ⟨rfl, Aa, Aa, Aa, Aa, trivial⟩, W⟩
  have H := AO (Bn hb) H
  rw [hb] at F
  clear hb
  refine A5 ?_
  iterate 2 refine Bk ?_
  refine A6 (Ab ?_)
  have H := L2 _ H
  exact ⟨H, F.re ⟨rfl, trivial⟩, W⟩
 rintro a w ⟨hj, F, W⟩
 have H := K1 _ hj
 clear hj G1 K1 L1
 refine Ah (Ac ?_)
 refine ls F W Aa (Af F Aa).q fun a w F W => ?_
 refine Ae (Ab (AF ?_))
 have H := AQ H
 subst H
 refine Bj (.inl Aa) F W Aa (AD F Aa) ?_
 exact ⟨rfl, W.done⟩
theorem VG : Has Try.prog 36 := ⟨fun args w => Al Try.func36 rfl (by decide) args w⟩
noncomputable def CU (p0 : List Int) (p1 : Int) : Option Bool := (EA p0 p1).bind fun x1 => some (decide (0 ≤ x1))
theorem Ij (Y : Nat → Prop) (w0 : World) (v1 : Value) (p0 : List Int) (p1 : Int) (r : Bool) (H : CU p0 p1 = some r) (h_v1 : Sl w0 (NX []) (Rp.int .i64) v1 p0) :
    Calls Try.prog 21 #[v1, .int .i64 p1] w0 fun e w' => e = .returned (.bool r) ∧ Below w0.heap.size w0 w' := by
 refine enter Try.func21 Aa Try.ntmps21 Aa fun a F => ?_
 have W := Stw.start Y w0
 unfold CU at H
 refine Ah (Ac ?_)
 refine ls F W Aa (Af F Aa).q fun a w F W => ?_
 refine Ae (Ab (Ah (Ac ?_)))
 iterate 2 refine ls F W Aa (Ad F Aa).q fun a w F W => ?_
 obtain ⟨x1, h1, H⟩ := Ak H
 refine ls F W Aa (BR (v := Value.int .i64 x1) F VG Aa (fun w W => I3 any w (v1) p0 p1 _ h1 (((Ap h_v1) : EM _ _ _ _ _ _) w W).nx)) fun a w F W => ?_
 refine ls F W Aa (Ds F Aa Aa).q fun a w F W => ?_
 refine ls F W Aa (Af F Aa).q fun a w F W => ?_
 refine Ae (Ab (AF ?_))
 have H := AQ H
 subst H
 refine Bj (.inl Aa) F W Aa (AD F Aa) ?_
 exact ⟨rfl, W.done⟩
theorem Wn : Has Try.prog 21 := ⟨fun args w => Al Try.func21 rfl (by decide) args w⟩
noncomputable def IF (p0 : List (Nat × List Int)) (p1 : Int × Int × Int × Int) : Option (List (Nat × List Int)) := (if 0 ≤ p1.1 then (if p1.1 < (p0.length : Int) then (if 0 ≤ p1.2.1 then (ix p0 p1.1).bind fun x2 => (Oz x2.1).bind fun x3 => some (decide (p1.2.1 < (x2.2.length : Int))) else some false) else some false) else some false).bind fun x1 => (if x1 = true then (ix p0 p1.1).bind fun x4 => (ix x4.2 p1.2.1).bind fun x5 => (Oz x4.1).bind fun x6 => (RR x4.1).bind fun x7 => some (AE p0 p1.1 (2, (AE x4.2 p1.2.1 p1.2.2.1))) else some p0)
theorem Oy (Y : Nat → Prop) (X : List Nat) (w0 : World) (v1 : Value) (p0 : List (Nat × List Int)) (p1 : Int × Int × Int × Int) (d_v1 : {x : List (Value × Nat × List Int) // x.map Fm = p0}) (r : (List (Nat × List Int))) (H : IF p0 p1 = some r) (hL : Stw ⟨Y, X, w0⟩ [] [C8 v1 39 Eu d_v1.1] w0) :
    Calls Try.prog 22 #[v1, .agg #[.int .i64 p1.1, .int .i64 p1.2.1, .int .i64 p1.2.2.1, .int .i64 p1.2.2.2]] w0 fun e w' => ∃ x : ({x : List (Value × Nat × List Int) // x.map Fm = r}), e = .returned (.tuple #[]) ∧ Stw ⟨Y, X, w0⟩ [] [C8 v1 39 Eu (x.1)] w' := by
 refine enter Try.func22 Aa Try.ntmps22 Aa fun a F => ?_
 have W := hL
 unfold IF at H
 refine Ah (Ac ?_)
 refine EQ (cs := [.int .i64 p1.1, .int .i64 p1.2.1, .int .i64 p1.2.2.1, .int .i64 p1.2.2.2]) F W Aa Aa Aa fun b1 a w F W => ?_
 refine Ae (Ab ?_)
 obtain ⟨o1, G1, K1⟩ := Ak H
 refine AK (fun a w => ∃ x1 : Bool, some (x1) = some o1 ∧ Fr 40 [] [(0, v1), (3, .pointer (some ⟨b1, 0, none⟩)), (29, .bool x1)] a ∧ Stw ⟨Y, X, w0⟩ [(b1, [.int .i64 p1.1, .int .i64 p1.2.1, .int .i64 p1.2.2.1, .int .i64 p1.2.2.2])] [C8 v1 39 Eu d_v1.1] w) ?_ ?_
 ·
  have H := G1
  clear G1 K1
  refine BS W MO (by kernel_rfl) ?_
  refine qs F Aa (Am HD Aa Aa Aa T3 F Aa 0 Aa).q fun a F => ?_
  refine qs F Aa (AB (v := Value.int .i64 p1.1) 0 F Aa Aa T3 Aa).q fun a F => ?_
  refine qs F Aa (Ds F Aa Aa).q fun a F => ?_
  refine qs F Aa (Ad F Aa).q fun a F => ?_
  rcases Bool.eq_false_or_eq_true (decide (0 ≤ p1.1)) with hb | hb
  ·
   have H := AP (Bm hb) H
   rw [hb] at F
   clear hb
   refine BM F (Ag F Aa Aa Aa Aa) Aa (An Aa) (Am HD Aa Aa Aa T3 F Aa 0 Aa).q fun a F => ?_
   refine BM F (Ag F Aa Aa Aa Aa) Aa (An Aa) (AB (v := Value.int .i64 p1.1) 0 F Aa Aa T3 Aa).q fun a F => ?_
   refine BM F (Ag F Aa Aa Aa Aa) Aa (An Aa) (Ad F Aa).q fun a F => ?_
   refine BM F (Ag F Aa Aa Aa Aa) Aa (An Aa) (Pt (er := Fm) d_v1.2 Kw Aa F Aa (MH.hd (F8 0 Aa))).q fun a F => ?_
   refine BM F (Ag F Aa Aa Aa Aa) Aa (An Aa) (BI F Aa Aa).q fun a F => ?_
   refine qs F Aa (Av F Aa Aa Aa).q fun a F => ?_
   refine qs F Aa (Ad F Aa).q fun a F => ?_
   rcases Bool.eq_false_or_eq_true (decide (p1.1 < (p0.length : Int))) with hb | hb
   ·
    have H := AP (Bm hb) H
    rw [hb] at F
    clear hb
    refine BM F (Ag F Aa Aa Aa Aa) Aa (An Aa) (Am HD Aa Aa Aa T3 F Aa 1 Aa).q fun a F => ?_
    refine BM F (Ag F Aa Aa Aa Aa) Aa (An Aa) (AB (v := Value.int .i64 p1.2.1) 0 F Aa Aa T3 Aa).q fun a F => ?_
    refine BM F (Ag F Aa Aa Aa Aa) Aa (An Aa) (Ds F Aa Aa).q fun a F => ?_
    refine qs F Aa (Av F Aa Aa Aa).q fun a F => ?_
    refine qs F Aa (Ad F Aa).q fun a F => ?_
    rcases Bool.eq_false_or_eq_true (decide (0 ≤ p1.2.1)) with hb | hb
    ·
     have H := AP (Bm hb) H
     rw [hb] at F
     clear hb
     refine BM F (Ag F Aa Aa Aa Aa) Aa (An Aa) (Am HD Aa Aa Aa T3 F Aa 1 Aa).q fun a F => ?_
     refine BM F (Ag F Aa Aa Aa Aa) Aa (An Aa) (AB (v := Value.int .i64 p1.2.1) 0 F Aa Aa T3 Aa).q fun a F => ?_
     refine BM F (Ag F Aa Aa Aa Aa) Aa (An Aa) (Ad F Aa).q fun a F => ?_
     refine BM F (Ag F Aa Aa Aa Aa) Aa (An Aa) (Am HD Aa Aa Aa T3 F Aa 0 Aa).q fun a F => ?_
     refine BM F (Ag F Aa Aa Aa Aa) Aa (An Aa) (AB (v := Value.int .i64 p1.1) 0 F Aa Aa T3 Aa).q fun a F => ?_
     obtain ⟨x2, h1, H⟩ := Ak H
     obtain ⟨v2, h2, h3⟩ := EK (er := Fm) d_v1.2 h1
     refine BM F (Ag F Aa Aa Aa Aa) Aa (An Aa) (AC (r := Eu.hr) N8 F Aa Aa (MH.hd (F8 0 Aa)) h2).q fun a F => ?_
     have h4 : Eu.cells v2 = [(v2.1)] := congrArg (fun q : Nat × List Int => ([(v2.1)] : List Value)) h3
     refine BM F (Ag F Aa Aa Aa Aa) Aa (An Aa) (Ao (y := (v2.1)) (j := 0) (i := p1.1) (enc := Eu.cells) F Aa Aa (MH.hd (F8 0 Aa)) h2 Eu.flat J7 (by rw [h4]; rfl)).q fun a F => ?_
     obtain ⟨x3, h5, H⟩ := Ak H
     refine BM F (Ag F Aa Aa Aa Aa) Aa (An Aa) (B1 (r := (Rp.int .i64)) (l := x2.2) Hu Aa F Aa (MH.sl (k := x2.1) (l := x2.2) (F8 0 Aa) h2 Foc.here (congrArg (fun q : Nat × List Int => q) h3) (NO h5))).q fun a F => ?_
     refine BM F (Ag F Aa Aa Aa Aa) Aa (An Aa) (BI F Aa Aa).q fun a F => ?_
     refine qs F Aa (Av F Aa Aa Aa).q fun a F => ?_
     refine A0 fun w W => ?_
     refine Ab ?_
     exact ⟨_, H, F.re ⟨rfl, Aa, Aa, trivial⟩, W⟩
    have H := AO (Bn hb) H
    rw [hb] at F
    clear hb
    iterate 9 refine D7 F (CJ F Aa Aa Aa Aa Aa) Aa Aa fun a F => ?_
    refine qs F Aa (Ax F Aa Aa Aa).q fun a F => ?_
    refine A0 fun w W => ?_
    refine Ab ?_
    exact ⟨_, H, F.re ⟨rfl, Aa, Aa, trivial⟩, W⟩
   have H := AO (Bn hb) H
   rw [hb] at F
   clear hb
   iterate 3 refine D7 F (CJ F Aa Aa Aa Aa Aa) Aa Aa fun a F => ?_
   refine qs F Aa (Ax F Aa Aa Aa).q fun a F => ?_
   refine qs F Aa (Ad F Aa).q fun a F => ?_
   iterate 9 refine D7 F (CJ F Aa Aa Aa Aa Aa) Aa Aa fun a F => ?_
   refine qs F Aa (Ax F Aa Aa Aa).q fun a F => ?_
   refine A0 fun w W => ?_
   refine Ab ?_
   exact ⟨_, H, F.re ⟨rfl, Aa, Aa, trivial⟩, W⟩
  have H := AO (Bn hb) H
  rw [hb] at F
  clear hb
  iterate 5 refine D7 F (CJ F Aa Aa Aa Aa Aa) Aa Aa fun a F => ?_
  refine qs F Aa (Ax F Aa Aa Aa).q fun a F => ?_
  refine qs F Aa (Ad F Aa).q fun a F => ?_
  iterate 3 refine D7 F (CJ F Aa Aa Aa Aa Aa) Aa Aa fun a F => ?_
  refine qs F Aa (Ax F Aa Aa Aa).q fun a F => ?_
  refine qs F Aa (Ad F Aa).q fun a F => ?_
  iterate 9 refine D7 F (CJ F Aa Aa Aa Aa Aa) Aa Aa fun a F => ?_
  refine qs F Aa (Ax F Aa Aa Aa).q fun a F => ?_
  refine A0 fun w W => ?_
  refine Ab ?_
  exact ⟨_, H, F.re ⟨rfl, Aa, Aa, trivial⟩, W⟩
 rintro a w ⟨x1, hj, F, W⟩
 have hj := AQ hj
 subst hj
 have H := K1
 clear G1 K1
 refine Ay F Aa (fun hb => ?_) fun hb => ?_
 ·
  have H := AP hb H
  rw [hb] at F
  clear hb
  refine JC 10 W MO (by kernel_rfl) ?_
  refine qs F Aa (Ad F Aa).q fun a F => ?_
  refine qs F Aa (Am HD Aa Aa Aa T3 F Aa 0 Aa).q fun a F => ?_
  refine qs F Aa (AB (v := Value.int .i64 p1.1) 0 F Aa Aa T3 Aa).q fun a F => ?_
  obtain ⟨x4, h6, H⟩ := Ak H
  obtain ⟨v3, h7, h8⟩ := EK (er := Fm) d_v1.2 h6
  refine qs F Aa (AC (r := Eu.hr) N8 F Aa Aa (MH.hd (F8 0 Aa)) h7).q fun a F => ?_
  have h9 : Eu.cells v3 = [(v3.1)] := congrArg (fun q : Nat × List Int => ([(v3.1)] : List Value)) h8
  refine qs F Aa (Ao (y := (v3.1)) (j := 0) (i := p1.1) (enc := Eu.cells) F Aa Aa (MH.hd (F8 0 Aa)) h7 Eu.flat J7 (by rw [h9]; rfl)).q fun a F => ?_
  refine qs F Aa (Am HD Aa Aa Aa T3 F Aa 1 Aa).q fun a F => ?_
  refine qs F Aa (AB (v := Value.int .i64 p1.2.1) 0 F Aa Aa T3 Aa).q fun a F => ?_
  refine qs F Aa (Am HD Aa Aa Aa T3 F Aa 2 Aa).q fun a F => ?_
  refine qs F Aa (AB (v := Value.int .i64 p1.2.2.1) 0 F Aa Aa T3 Aa).q fun a F => ?_
  obtain ⟨x5, h10, H⟩ := Ak H
  obtain ⟨x6, h11, H⟩ := Ak H
  refine qs F Aa (AC (r := (Rp.int .i64)) EH F Aa Aa (MH.sl (k := x4.1) (l := x4.2) (F8 0 Aa) h7 Foc.here (congrArg (fun q : Nat × List Int => q) h8) (NO h11)) h10).q fun a F => ?_
  refine A0 fun w W => ?_
  obtain ⟨x7, h12, H⟩ := Ak H
  have W := W.dTakeR h7 Foc.here ((congrArg (fun q : Nat × List Int => q) h8).trans (Prod.ext (RQ h12) Aa))
  have h13 : List.map Fm (AE d_v1.1 p1.1 ((v3.1), 0, [])) = (AE p0 p1.1 (0, [])) := (Pc d_v1.2 (congrArg (fun q : Nat × List Int => (0, [])) h8))
  have W : Stw ⟨Y, X, w0⟩ [(b1, [.int .i64 p1.1, .int .i64 p1.2.1, .int .i64 p1.2.2.1, .int .i64 p1.2.2.2])] [row (v3.1) 3 (Rp.int .i64) x4.2, C8 v1 39 Eu (AE d_v1.1 p1.1 ((v3.1), 0, []))] w := W
  refine A8 (i := p1.2.1) (j := 0) (vs := [.int .i64 p1.2.2.1]) (x' := p1.2.2.1) F W Aa Aa Aa (k := 0) Aa Aa h10 T3 Aa Aa Aa Aa (fun A cs _ => Fl.int.sto (by rfl) _ _ _) fun w W => ?_
  have W := W.frontZ (i := 1) Aa Aa
  have W := W.frontZ (i := 1) Aa Aa
  have W := W.dBackR (x2 := ((v3.1), 2, (AE x4.2 p1.2.1 p1.2.2.1))) h7 Foc.here Aa Aa
  have h14 : List.map Fm (AE d_v1.1 p1.1 ((v3.1), 2, (AE x4.2 p1.2.1 p1.2.2.1))) = (AE p0 p1.1 (2, (AE x4.2 p1.2.1 p1.2.2.1))) := (Pc d_v1.2 (congrArg (fun q : Nat × List Int => (2, (AE x4.2 p1.2.1 p1.2.2.1))) h8))
  have W : Stw ⟨Y, X, w0⟩ [(b1, [.int .i64 p1.1, .int .i64 p1.2.1, .int .i64 p1.2.2.1, .int .i64 p1.2.2.2])] [C8 v1 39 Eu (AE d_v1.1 p1.1 ((v3.1), 2, (AE x4.2 p1.2.1 p1.2.2.1)))] w := W
  refine Ae ?_
  have H := AQ H
  subst H
  refine He (.inr Aa) F Aa ?_
  have W := W.sub (M' := []) (Z' := [C8 v1 39 Eu (AE d_v1.1 p1.1 ((v3.1), 2, (AE x4.2 p1.2.1 p1.2.2.1)))]) (List.nil_sublist _) (List.Sublist.refl _)
  exact ⟨⟨(AE d_v1.1 p1.1 ((v3.1), 2, (AE x4.2 p1.2.1 p1.2.2.1))), h14⟩, Aa, W⟩
 have H := AO (by rw [hb]; decide) H
 rw [hb] at F
 clear hb
 refine Aq ?_
 have H := AQ H
 subst H
 refine He (.inr Aa) F Aa ?_
 have W := W.sub (M' := []) (Z' := [C8 v1 39 Eu d_v1.1]) (List.nil_sublist _) (List.Sublist.refl _)
 exact ⟨⟨d_v1.1, d_v1.2⟩, Aa, W⟩
theorem Wi : Has Try.prog 22 := ⟨fun args w => Al Try.func22 rfl (by decide) args w⟩
noncomputable def EI (p1 : List (Int × Int × Int × Int)) (p2 : Int) (p3 : List Int) : ((List (Nat × List Int)) × Int) → Option (((List (Nat × List Int)) × Int) ⊕ (List (Nat × List Int)))
  | (x3, x4) => (if x4 < (p1.length : Int) then ((ix p1 x4).bind fun x6 => (if x6.2.2.2 < p2 then some (x3, true) else (if x6.2.2.2 = p2 then (CU p3 x6.1).bind fun x9 => some (x3, x9) else some (x3, false))).bind fun (x7, x8) => (if x8 = true then (IF x7 x6).bind fun x10 => some x10 else some x7)).bind fun x5 => some (.inl (x5, Az (x4 + 1))) else some (.inr x3))
noncomputable def GS (p0 : List (List Int)) (p1 : List (Int × Int × Int × Int)) (p2 : Int) (p3 : List Int) : Option (List (List Int)) := (GF p0).bind fun x1 => (AH (EI p1 p2 p3) (x1, 0)).bind fun x2 => (JT R4 x2).bind fun x11 => some x11
theorem NU (Y : Nat → Prop) (w0 : World) (v1 : Value) (v2 : Value) (v3 : Value) (p0 : List (List Int)) (p1 : List (Int × Int × Int × Int)) (p2 : Int) (p3 : List Int) (r : List (List Int)) (H : GS p0 p1 p2 p3 = some r) (s_v1 : Sl w0 Y (Rp.slice (Rp.int .i64)) v1 p0) (h_v2 : Sl w0 (NX []) A4 v2 p1) (h_v3 : Sl w0 (NX []) (Rp.int .i64) v3 p3) :
    Calls Try.prog 11 #[v1, v2, .int .i64 p2, v3] w0 fun e w' => ∃ x : Value, e = .returned (x) ∧ Stw ⟨Y, [], w0⟩ [] [row (x) 39 (Rp.slice (Rp.int .i64)) r] w' := by
 refine enter Try.func11 Aa Try.ntmps11 Aa fun a F => ?_
 have W := Stw.start Y w0
 obtain ⟨v4, h1, s_v1⟩ := s_v1.ex Er
 have h_v1 := W.nx s_v1
 unfold GS at H
 refine Ah (Ac ?_)
 refine ls F W Aa (Af F Aa).q fun a w F W => ?_
 refine Ae (Ab (Ah (Ac ?_)))
 refine ls F W Aa (Ad F Aa).q fun a w F W => ?_
 obtain ⟨x1, h2, H⟩ := Ak H
 refine Bo (Ml := []) (Zl := []) (M := []) (Z := []) (β := Value × ({x : List (Value × Nat × List Int) // x.map Fm = x1})) (rv := fun x => x.1) (MM := fun x => []) (ZZ := fun x => [C8 x.1 39 Eu x.2.1]) F W V6 Aa Aa (fun hL => LT _ w (v1) p0 _ h2 (Sl.hide Er h1 (W.old s_v1))) fun x a w F W => ?_
 obtain ⟨v5, v6⟩ := x
 have W : Stw ⟨Y, [], w0⟩ [] [C8 v5 39 Eu v6.1] w := W
 refine ls F W Aa (Af F Aa).q fun a w F W => ?_
 refine Ae (Ab ?_)
 obtain ⟨o1, G1, K1⟩ := Ak H
 refine AK (fun a w => ∃ x2 : List (Nat × List Int), ∃ g_x2 : {x : List (Value × Nat × List Int) // x.map Fm = x2}, some (x2) = some o1 ∧ Fr 41 [] [(8, .slice none 0 0), (9, v5)] a ∧ Stw ⟨Y, [], w0⟩ [] [C8 v5 39 Eu g_x2.1] w) ?_ ?_
 ·
  have H := G1
  clear G1 K1
  refine Ah (Ac ?_)
  refine ls F W Aa (Ad F Aa).q fun a w F W => ?_
  refine ls F W Aa (B1 (r := A4) (l := p1) OD Aa F Aa (Ap h_v2)).q fun a w F W => ?_
  refine ls F W Aa (Ad F Aa).q fun a w F W => ?_
  refine Ae (Ab (As ?_))
  refine Bh H (fun s a w => ∃ g_x3 : {x : List (Value × Nat × List Int) // x.map Fm = s.1}, Fr 41 [] [(2, .int .i64 p2), (3, v3), (8, .slice none 0 0), (9, v5), (14, v2), (15, .int .i64 (p1.length : Int)), (16, .int .i64 s.2)] a ∧ Stw ⟨Y, [], w0⟩ [] [C8 v5 39 Eu g_x3.1] w) ⟨⟨v6.1, v6.2⟩, F.re ⟨rfl, Aa, Aa, Aa, Aa, Aa, Aa, trivial⟩, W⟩ fun s o a w H L2 hR => ?_
  obtain ⟨x3, x4⟩ := s
  obtain ⟨g_x3, F, W⟩ := hR
  have F : Fr 41 [] [(2, .int .i64 p2), (3, v3), (8, .slice none 0 0), (9, v5), (14, v2), (15, .int .i64 (p1.length : Int)), (16, .int .i64 x4)] a := F
  have W : Stw ⟨Y, [], w0⟩ [] [C8 v5 39 Eu g_x3.1] w := W
  rw [EI] at H
  refine Ah (Ac ?_)
  refine ls F W Aa (BI F Aa Aa).q fun a w F W => ?_
  refine Ae (Ab (Ah ?_))
  refine Ay F Aa (fun hb => ?_) fun hb => ?_
  ·
   have H := AP (Bm hb) H
   rw [hb] at F
   clear hb
   refine Aq (Ab ?_)
   obtain ⟨o3, G3, K3⟩ := Ak H
   refine AK (fun a w => ∃ x5 : List (Nat × List Int), ∃ g_x5 : {x : List (Value × Nat × List Int) // x.map Fm = x5}, some (x5) = some o3 ∧ Fr 41 [] [(2, .int .i64 p2), (3, v3), (8, .slice none 0 0), (9, v5), (14, v2), (15, .int .i64 (p1.length : Int)), (16, .int .i64 x4)] a ∧ Stw ⟨Y, [], w0⟩ [] [C8 v5 39 Eu g_x5.1] w) ?_ ?_
   ·
    have H := G3
    clear G3 K3
    refine As (Ah (Ac ?_))
    obtain ⟨x6, h3, H⟩ := Ak H
    refine ls F W Aa (AC (r := A4) En F Aa Aa (Ap h_v2) h3).q fun a w F W => ?_
    refine ls F W Aa (Ao (y := Value.agg #[.int .i64 x6.1, .int .i64 x6.2.1, .int .i64 x6.2.2.1, .int .i64 x6.2.2.2]) (j := 0) (i := x4) F Aa Aa (Ap h_v2) h3 Ep.to Ee Aa).q fun a w F W => ?_
    refine CB (cs := [.int .i64 0, .int .i64 0, .int .i64 0, .int .i64 0]) F W Aa S7 Aa fun b1 a w F W => ?_
    refine BW (vs := [.int .i64 x6.1, .int .i64 x6.2.1, .int .i64 x6.2.2.1, .int .i64 x6.2.2.2]) (M' := [(b1, [.int .i64 x6.1, .int .i64 x6.2.1, .int .i64 x6.2.2.1, .int .i64 x6.2.2.2])]) 0 F W Aa Aa Aa Ee Aa Aa Aa Aa Aa fun w W => ?_
    refine Ae (Ab ?_)
    obtain ⟨o4, G4, K4⟩ := Ak H
    refine AK (fun a w => ∃ x7 : List (Nat × List Int), ∃ x8 : Bool, ∃ g_x7 : {x : List (Value × Nat × List Int) // x.map Fm = x7}, some ((x7, x8)) = some o4 ∧ Fr 41 [] [(2, .int .i64 p2), (3, v3), (8, .slice none 0 0), (9, v5), (11, .pointer (some ⟨b1, 0, none⟩)), (14, v2), (15, .int .i64 (p1.length : Int)), (16, .int .i64 x4), (35, .bool x8)] a ∧ Stw ⟨Y, [], w0⟩ [(b1, [.int .i64 x6.1, .int .i64 x6.2.1, .int .i64 x6.2.2.1, .int .i64 x6.2.2.2])] [C8 v5 39 Eu g_x7.1] w) ?_ ?_
    ·
     have H := G4
     clear G4 K4
     refine Ac ?_
     refine ls F W Aa (Am HD Aa Aa Aa T3 F Aa 3 Aa).q fun a w F W => ?_
     refine ls F W Aa (AB (v := Value.int .i64 x6.2.2.2) 0 F Aa Aa T3 Aa).q fun a w F W => ?_
     refine ls F W Aa (Ad F Aa).q fun a w F W => ?_
     refine ls F W Aa (BI F Aa Aa).q fun a w F W => ?_
     refine ls F W Aa (Ad F Aa).q fun a w F W => ?_
     rcases Bool.eq_false_or_eq_true (decide (x6.2.2.2 < p2)) with hb | hb
     ·
      have H := AP (Bm hb) H
      rw [hb] at F
      clear hb
      iterate 5 refine C1 F Aa Aa Aa Aa Aa Aa Aa fun a F => ?_
      iterate 4 refine Tw F Aa Aa Aa Aa Aa Aa fun a F => ?_
      refine C1 F Aa Aa Aa Aa Aa Aa Aa fun a F => ?_
      refine ls F W Aa (Av F Aa Aa Aa).q fun a w F W => ?_
      refine Ae (Ab ?_)
      exact ⟨_, _, ⟨g_x3.1, g_x3.2⟩, H, F.re ⟨rfl, Aa, Aa, Aa, Aa, Aa, Aa, Aa, Aa, trivial⟩, W⟩
     have H := AO (Bn hb) H
     rw [hb] at F
     clear hb
     refine AR F W (Ag F Aa Aa Aa Aa) Aa (An Aa) (Am HD Aa Aa Aa T3 F Aa 3 Aa).q fun a w F W => ?_
     refine AR F W (Ag F Aa Aa Aa Aa) Aa (An Aa) (AB (v := Value.int .i64 x6.2.2.2) 0 F Aa Aa T3 Aa).q fun a w F W => ?_
     refine AR F W (Ag F Aa Aa Aa Aa) Aa (An Aa) (Ad F Aa).q fun a w F W => ?_
     refine AR F W (Ag F Aa Aa Aa Aa) Aa (An Aa) (Dl F Aa Aa).q fun a w F W => ?_
     refine AR F W (Ag F Aa Aa Aa Aa) Aa (An Aa) (Ad F Aa).q fun a w F W => ?_
     rcases Bool.eq_false_or_eq_true (decide (x6.2.2.2 = p2)) with hb | hb
     ·
      have H := AP (Bm hb) H
      rw [hb] at F
      clear hb
      refine AR F W (Ag F Aa Aa Aa Aa) Aa (An Aa) (Ad F Aa).q fun a w F W => ?_
      refine AR F W (Ag F Aa Aa Aa Aa) Aa (An Aa) (Am HD Aa Aa Aa T3 F Aa 0 Aa).q fun a w F W => ?_
      refine AR F W (Ag F Aa Aa Aa Aa) Aa (An Aa) (AB (v := Value.int .i64 x6.1) 0 F Aa Aa T3 Aa).q fun a w F W => ?_
      refine IQ (Ag F Aa Aa Aa Aa) ?_
      obtain ⟨x9, h4, H⟩ := Ak H
      refine ls F W Aa (BR (v := Value.bool x9) F Wn Aa (fun w W => Ij any w (v3) p3 x6.1 _ h4 (((Ap h_v3) : EM _ _ _ _ _ _) w W).nx)) fun a w F W => ?_
      refine AR F W (Ag F Aa Aa Aa Aa) Aa (An Aa) (Av F Aa Aa Aa).q fun a w F W => ?_
      refine ls F W Aa (Ax F Aa Aa Aa).q fun a w F W => ?_
      refine Ae (Ab ?_)
      exact ⟨_, _, ⟨g_x3.1, g_x3.2⟩, H, F.re ⟨rfl, Aa, Aa, Aa, Aa, Aa, Aa, Aa, Aa, trivial⟩, W⟩
     have H := AO (Bn hb) H
     rw [hb] at F
     clear hb
     iterate 4 refine C1 F Aa Aa Aa Aa Aa Aa Aa fun a F => ?_
     refine AR F W (Ag F Aa Aa Aa Aa) Aa (An Aa) (Ax F Aa Aa Aa).q fun a w F W => ?_
     refine ls F W Aa (Ax F Aa Aa Aa).q fun a w F W => ?_
     refine Ae (Ab ?_)
     exact ⟨_, _, ⟨g_x3.1, g_x3.2⟩, H, F.re ⟨rfl, Aa, Aa, Aa, Aa, Aa, Aa, Aa, Aa, trivial⟩, W⟩
    rintro a w ⟨x7, x8, g_x7, hj, F, W⟩
    have hj := AQ hj
    subst hj
    have H := K4
    clear G4 K4
    refine Ay F Aa (fun hb => ?_) fun hb => ?_
    ·
     have H := AP hb H
     rw [hb] at F
     clear hb
     refine Ac ?_
     refine ls F W Aa (Ad F Aa).q fun a w F W => ?_
     refine ls F W Aa (AB (v := Value.agg #[.int .i64 x6.1, .int .i64 x6.2.1, .int .i64 x6.2.2.1, .int .i64 x6.2.2.2]) 0 F Aa Aa Ee Aa).q fun a w F W => ?_
     obtain ⟨x10, h5, H⟩ := Ak H
     refine Bo (Ml := []) (Zl := [C8 v5 39 Eu g_x7.1]) (M := [(b1, [.int .i64 x6.1, .int .i64 x6.2.1, .int .i64 x6.2.2.1, .int .i64 x6.2.2.2])]) (Z := []) (β := ({x : List (Value × Nat × List Int) // x.map Fm = x10})) (rv := fun x => .tuple #[]) (MM := fun x => []) (ZZ := fun x => [C8 v5 39 Eu x.1]) F W Wi Aa Aa (fun hL => Oy _ _ w (v5) x7 x6 ⟨g_x7.1, g_x7.2⟩ _ h5 hL) fun x a w F W => ?_
     obtain ⟨v7, rfl⟩ : ∃ y, y = x := ⟨x, rfl⟩
     have W : Stw ⟨Y, [], w0⟩ [(b1, [.int .i64 x6.1, .int .i64 x6.2.1, .int .i64 x6.2.2.1, .int .i64 x6.2.2.2])] [C8 v5 39 Eu v7.1] w := W
     refine Ae (AM (Ab ?_))
     have W := W.sub (M' := []) (Z' := [C8 v5 39 Eu v7.1]) (List.nil_sublist _) (List.Sublist.refl _)
     exact ⟨_, ⟨v7.1, v7.2⟩, H, F.re ⟨rfl, Aa, Aa, Aa, Aa, Aa, Aa, trivial⟩, W⟩
    have H := AO (by rw [hb]; decide) H
    rw [hb] at F
    clear hb
    refine Aq (AM (Ab ?_))
    have W := W.sub (M' := []) (Z' := [C8 v5 39 Eu g_x7.1]) (List.nil_sublist _) (List.Sublist.refl _)
    exact ⟨_, ⟨g_x7.1, g_x7.2⟩, H, F.re ⟨rfl, Aa, Aa, Aa, Aa, Aa, Aa, trivial⟩, W⟩
   rintro a w ⟨x5, g_x5, hj, F, W⟩
   have hj := AQ hj
   subst hj
   have H := K3
   clear G3 K3
   refine Ac ?_
   refine ls F W Aa (Bp F Aa Aa Aa).q fun a w F W => ?_
   refine ls F W Aa (Ad F Aa).q fun a w F W => ?_
   refine Ae (Ab ?_)
   exact ⟨_, H, ⟨g_x5.1, g_x5.2⟩, F.re ⟨rfl, Aa, Aa, Aa, Aa, Aa, Aa, trivial⟩, W⟩
  have H := AO (Bn hb) H
  rw [hb] at F
  clear hb
  refine A5 ?_
  iterate 2 refine Bk ?_
  refine A6 (Ab ?_)
  have H := L2 _ H
  exact ⟨_, ⟨g_x3.1, g_x3.2⟩, H, F.re ⟨rfl, Aa, trivial⟩, W⟩
 rintro a w ⟨x2, g_x2, hj, F, W⟩
 have hj := AQ hj
 subst hj
 have H := K1
 clear G1 K1
 refine Ah (Ac ?_)
 refine ls F W Aa (Ad F Aa).q fun a w F W => ?_
 refine ls F W Aa (Af F Aa).q fun a w F W => ?_
 refine Ae (Ab (AF ?_))
 obtain ⟨x11, h6, H⟩ := Ak H
 have H := AQ H
 subst H
 refine Bj (.inl Aa) F W Aa (AD F Aa) ?_
 have W := Stw.ddRest Uv g_x2.2 h6 W
 exact ⟨(v5), Aa, W⟩
theorem RO : type_of% Try.underlying63 := Try.underlying63
theorem V4 : (Try.prog.info? 66).bind (·.zero) = some (.agg #[.int .i64 0, .int .i64 0, .int .i64 0, .int .i64 0, .int .i64 0, .int .i64 0, .int .i64 0, .int .i64 0, .int .i64 0, .int .i64 0, .slice none 0 0]) := by kernel_rfl
theorem T6 : (Try.prog.info? 63).bind (·.zero) = some (.agg #[.int .i64 0, .int .i64 0, .int .i64 0, .int .i64 0, .int .i64 0, .int .i64 0, .int .i64 0, .int .i64 0, .int .i64 0]) := by kernel_rfl
theorem Wm : Bt Try.prog 63 [.int .i64 0, .int .i64 0, .int .i64 0, .int .i64 0, .int .i64 0, .int .i64 0, .int .i64 0, .int .i64 0, .int .i64 0] [(0, 1), (1, 4), (5, 4)] := ⟨⟨.agg #[.int .i64 0, .int .i64 0, .int .i64 0, .int .i64 0, .int .i64 0, .int .i64 0, .int .i64 0, .int .i64 0, .int .i64 0], by kernel_rfl, rfl⟩, ⟨_, RO, fun w => by kernel_rfl⟩⟩
theorem PZ : Ty Try.prog 63 true 9 := ⟨by kernel_rfl, by kernel_rfl⟩
def Ai  : (Int × (Int × Int × Int × Int) × (Int × Int × Int × Int)) := ((-1), (0, 0, 0, 0), (0, 0, 0, 0))
theorem OM (Y : Nat → Prop) (w0 : World)   (r : (Int × (Int × Int × Int × Int) × (Int × Int × Int × Int))) (H : Ai  = r)  :
    Calls Try.prog 48 #[] w0 fun e w' => e = .returned (.agg #[.int .i64 r.1, .int .i64 r.2.1.1, .int .i64 r.2.1.2.1, .int .i64 r.2.1.2.2.1, .int .i64 r.2.1.2.2.2, .int .i64 r.2.2.1, .int .i64 r.2.2.2.1, .int .i64 r.2.2.2.2.1, .int .i64 r.2.2.2.2.2]) ∧ Below w0.heap.size w0 w' := by
 refine enter Try.func48 Aa Try.ntmps48 Aa fun a F => ?_
 have W := Stw.start Y w0
 unfold Ai at H
 refine Ah (Ac ?_)
 refine CB (cs := [.int .i64 0, .int .i64 0, .int .i64 0, .int .i64 0, .int .i64 0, .int .i64 0, .int .i64 0, .int .i64 0, .int .i64 0]) F W Aa T6 Aa fun b1 a w F W => ?_
 refine Ae (Ab (Ah (Ac ?_)))
 refine ls F W Aa (CE (v := Value.agg #[.int .i64 (-1), .int .i64 0, .int .i64 0, .int .i64 0, .int .i64 0, .int .i64 0, .int .i64 0, .int .i64 0, .int .i64 0]) Wm F Aa Aa Aa).q fun a w F W => ?_
 refine BW (vs := [.int .i64 (-1), .int .i64 0, .int .i64 0, .int .i64 0, .int .i64 0, .int .i64 0, .int .i64 0, .int .i64 0, .int .i64 0]) (M' := [(b1, [.int .i64 (-1), .int .i64 0, .int .i64 0, .int .i64 0, .int .i64 0, .int .i64 0, .int .i64 0, .int .i64 0, .int .i64 0])]) 0 F W Aa Aa Aa PZ Aa Aa Aa Aa Aa fun w W => ?_
 refine Ae (Ab (AF ?_))
 subst H
 refine Bj (.inl Aa) F W Aa (Ha 0 F Aa Aa PZ Aa) ?_
 exact ⟨rfl, W.done⟩
theorem Vw : Has Try.prog 48 := ⟨fun args w => Al Try.func48 rfl (by decide) args w⟩
noncomputable def Hm (p0 : Int) : Option Int := (if p0 = 0 then some true else (if p0 = 1 then some true else some (decide (p0 = 3)))).bind fun x1 => (if x1 = true then some 8 else (if p0 = 2 then some 4 else some 0))
theorem MK (Y : Nat → Prop) (w0 : World)  (p0 : Int) (r : Int) (H : Hm p0 = some r)  :
    Calls Try.prog 67 #[.int .i64 p0] w0 fun e w' => e = .returned (.int .i64 r) ∧ Below w0.heap.size w0 w' := by
 refine enter Try.func67 Aa Try.ntmps67 Aa fun a F => ?_
 have W := Stw.start Y w0
 unfold Hm at H
 refine Ah (Ac ?_)
 refine ls F W Aa (Af F Aa).q fun a w F W => ?_
 refine Ae (Ab (Ah (Ah (Ac ?_))))
 refine ls F W Aa (Ad F Aa).q fun a w F W => ?_
 refine Ae (Ab (As ?_))
 obtain ⟨o1, G1, K1⟩ := Ak H
 refine AK (fun a w => ∃ x1 : Bool, some (x1) = some o1 ∧ Fr 10 [] [(2, .int .i64 0), (3, .int .i64 p0), (4, .bool x1)] a ∧ Stw ⟨Y, [], w0⟩ [] [] w) ?_ ?_
 ·
  have H := G1
  clear G1 K1
  refine Ah (Ac ?_)
  refine ls F W Aa (Dl F Aa Aa).q fun a w F W => ?_
  refine ls F W Aa (Af F Aa).q fun a w F W => ?_
  refine Ae (Ab ?_)
  refine Ay F Aa (fun hb => ?_) fun hb => ?_
  ·
   have H := AP (Bm hb) H
   rw [hb] at F
   clear hb
   refine Aq (Ab ?_)
   exact ⟨_, H, F.re ⟨rfl, Aa, Aa, trivial⟩, W⟩
  have H := AO (Bn hb) H
  rw [hb] at F
  clear hb
  refine Ah (Ac ?_)
  refine ls F W Aa (Dl F Aa Aa).q fun a w F W => ?_
  refine ls F W Aa (Af F Aa).q fun a w F W => ?_
  refine Ae (Ab ?_)
  refine Ay F Aa (fun hb => ?_) fun hb => ?_
  ·
   have H := AP (Bm hb) H
   rw [hb] at F
   clear hb
   refine Aq (Ab ?_)
   exact ⟨_, H, F.re ⟨rfl, Aa, Aa, trivial⟩, W⟩
  have H := AO (Bn hb) H
  rw [hb] at F
  clear hb
  refine Ac ?_
  refine ls F W Aa (Dl F Aa Aa).q fun a w F W => ?_
  refine ls F W Aa (Af F Aa).q fun a w F W => ?_
  refine Ae (Ab ?_)
  exact ⟨_, H, F.re ⟨rfl, Aa, Aa, trivial⟩, W⟩
 rintro a w ⟨x1, hj, F, W⟩
 have hj := AQ hj
 subst hj
 have H := K1
 clear G1 K1
 refine Ay F Aa (fun hb => ?_) fun hb => ?_
 ·
  have H := AP hb H
  rw [hb] at F
  clear hb
  refine Ah (Ac ?_)
  refine ls F W Aa (Af F Aa).q fun a w F W => ?_
  refine Ae (Ab (AF (A3 (AN ?_))))
  have H := AQ H
  subst H
  refine Bj (.inl Aa) F W Aa (AD F Aa) ?_
  exact ⟨rfl, W.done⟩
 have H := AO (by rw [hb]; decide) H
 rw [hb] at F
 clear hb
 refine Ah (Ac ?_)
 refine ls F W Aa (Dl F Aa Aa).q fun a w F W => ?_
 refine ls F W Aa (Af F Aa).q fun a w F W => ?_
 refine Ae (Ab ?_)
 refine Ay F Aa (fun hb => ?_) fun hb => ?_
 ·
  have H := AP (Bm hb) H
  rw [hb] at F
  clear hb
  refine Ah (Ac ?_)
  refine ls F W Aa (Af F Aa).q fun a w F W => ?_
  refine Ae (Ab (AF (A3 (AN ?_))))
  have H := AQ H
  subst H
  refine Bj (.inl Aa) F W Aa (AD F Aa) ?_
  exact ⟨rfl, W.done⟩
 have H := AO (Bn hb) H
 rw [hb] at F
 clear hb
 refine Aq (AM (Ab (Ah (Ac ?_))))
 refine ls F W Aa (Af F Aa).q fun a w F W => ?_
 refine Ae (Ab (AF ?_))
 have H := AQ H
 subst H
 refine Bj (.inl Aa) F W Aa (AD F Aa) ?_
 exact ⟨rfl, W.done⟩
theorem UV : Has Try.prog 67 := ⟨fun args w => Al Try.func67 rfl (by decide) args w⟩
noncomputable def Gj (p0 : Int) : Option Int := (Hm p0).bind fun x1 => (SU (Ek .i64 1 x1) x1).bind fun x2 => some (Az (x2 - 1))
theorem Kk (Y : Nat → Prop) (w0 : World)  (p0 : Int) (r : Int) (H : Gj p0 = some r)  :
    Calls Try.prog 49 #[.int .i64 p0] w0 fun e w' => e = .returned (.int .i64 r) ∧ Below w0.heap.size w0 w' := by
 refine enter Try.func49 Aa Try.ntmps49 Aa fun a F => ?_
 have W := Stw.start Y w0
 unfold Gj at H
 refine Ah (Ac ?_)
 refine ls F W Aa (Af F Aa).q fun a w F W => ?_
 refine Ae (Ab (Ah (Ac ?_)))
 refine ls F W Aa (Ad F Aa).q fun a w F W => ?_
 obtain ⟨x1, h1, H⟩ := Ak H
 refine ls F W Aa (BR (v := Value.int .i64 x1) F UV Aa (fun w W => MK any w p0 _ h1)) fun a w F W => ?_
 obtain ⟨x2, h2, H⟩ := Ak H
 refine ls F W Aa (Sc (Kl h2).2 (PA F Aa Aa (Kl h2).1)).q fun a w F W => ?_
 refine ls F W Aa (B9 F Aa Aa Aa).q fun a w F W => ?_
 refine ls F W Aa (Af F Aa).q fun a w F W => ?_
 refine Ae (Ab (AF ?_))
 have H := AQ H
 subst H
 refine Bj (.inl Aa) F W Aa (AD F Aa) ?_
 exact ⟨rfl, W.done⟩
theorem Uc : type_of% Try.underlying61 := Try.underlying61
theorem UL : Has Try.prog 49 := ⟨fun args w => Al Try.func49 rfl (by decide) args w⟩
theorem TI : Ty Try.prog 61 true 4 := ⟨by kernel_rfl, by kernel_rfl⟩
theorem SR : Ar Try.prog 61 4 3 1 := ⟨Uc, by kernel_rfl⟩
noncomputable def IL (p0 : Int) (p1 : Int) : Option (Int × (Int × Int × Int × Int) × (Int × Int × Int × Int)) := (if p0 < 0 then some true else (if 4 ≤ p0 then some true else (if p1 < 0 then some true else (Gj p0).bind fun x2 => some (decide (x2 < p1))))).bind fun x1 => (if x1 = true then some Ai else (ix ([Ai.2.1.1, Ai.2.1.2.1, Ai.2.1.2.2.1, Ai.2.1.2.2.2] : List Int) p0).bind fun x3 => (Gj p0).bind fun x4 => (ix ([Ai.2.2.1, Ai.2.2.2.1, Ai.2.2.2.2.1, Ai.2.2.2.2.2] : List Int) p0).bind fun x5 => some (Ai.1, ((if p0 = 0 then p1 else Ai.2.1.1), (if p0 = 1 then p1 else Ai.2.1.2.1), (if p0 = 2 then p1 else Ai.2.1.2.2.1), (if p0 = 3 then p1 else Ai.2.1.2.2.2)), ((if p0 = 0 then x4 else Ai.2.2.1), (if p0 = 1 then x4 else Ai.2.2.2.1), (if p0 = 2 then x4 else Ai.2.2.2.2.1), (if p0 = 3 then x4 else Ai.2.2.2.2.2))))
theorem Pj (Y : Nat → Prop) (w0 : World)  (p0 : Int) (p1 : Int) (r : (Int × (Int × Int × Int × Int) × (Int × Int × Int × Int))) (H : IL p0 p1 = some r)  :
    Calls Try.prog 34 #[.int .i64 p0, .int .i64 p1] w0 fun e w' => e = .returned (.agg #[.int .i64 r.1, .int .i64 r.2.1.1, .int .i64 r.2.1.2.1, .int .i64 r.2.1.2.2.1, .int .i64 r.2.1.2.2.2, .int .i64 r.2.2.1, .int .i64 r.2.2.2.1, .int .i64 r.2.2.2.2.1, .int .i64 r.2.2.2.2.2]) ∧ Below w0.heap.size w0 w' := by
 refine enter Try.func34 Aa Try.ntmps34 Aa fun a F => ?_
 have W := Stw.start Y w0
 unfold IL at H
 refine Ah (Ac ?_)
 refine CB (cs := [.int .i64 0, .int .i64 0, .int .i64 0, .int .i64 0, .int .i64 0, .int .i64 0, .int .i64 0, .int .i64 0, .int .i64 0]) F W Aa T6 Aa fun b1 a w F W => ?_
 refine Ae (Ab (Ah (Ac ?_)))
 refine ls F W Aa (BR (v := Value.agg #[.int .i64 Ai.1, .int .i64 Ai.2.1.1, .int .i64 Ai.2.1.2.1, .int .i64 Ai.2.1.2.2.1, .int .i64 Ai.2.1.2.2.2, .int .i64 Ai.2.2.1, .int .i64 Ai.2.2.2.1, .int .i64 Ai.2.2.2.2.1, .int .i64 Ai.2.2.2.2.2]) F Vw Aa (fun w W => OM any w _ Aa)) fun a w F W => ?_
 refine CB (cs := [.int .i64 0, .int .i64 0, .int .i64 0, .int .i64 0, .int .i64 0, .int .i64 0, .int .i64 0, .int .i64 0, .int .i64 0]) F W Aa T6 Aa fun b2 a w F W => ?_
 refine BW (vs := [.int .i64 Ai.1, .int .i64 Ai.2.1.1, .int .i64 Ai.2.1.2.1, .int .i64 Ai.2.1.2.2.1, .int .i64 Ai.2.1.2.2.2, .int .i64 Ai.2.2.1, .int .i64 Ai.2.2.2.1, .int .i64 Ai.2.2.2.2.1, .int .i64 Ai.2.2.2.2.2]) (M' := [(b2, [.int .i64 Ai.1, .int .i64 Ai.2.1.1, .int .i64 Ai.2.1.2.1, .int .i64 Ai.2.1.2.2.1, .int .i64 Ai.2.1.2.2.2, .int .i64 Ai.2.2.1, .int .i64 Ai.2.2.2.1, .int .i64 Ai.2.2.2.2.1, .int .i64 Ai.2.2.2.2.2]), (b1, [.int .i64 0, .int .i64 0, .int .i64 0, .int .i64 0, .int .i64 0, .int .i64 0, .int .i64 0, .int .i64 0, .int .i64 0])]) 0 F W Aa Aa Aa PZ Aa Aa Aa Aa Aa fun w W => ?_
 refine Ae (Ab (Ah ?_))
 obtain ⟨o1, G1, K1⟩ := Ak H
 refine AK (fun a w => ∃ x1 : Bool, some (x1) = some o1 ∧ Fr 34 [] [(0, .int .i64 p0), (1, .int .i64 p1), (4, .pointer (some ⟨b1, 0, none⟩)), (5, .pointer (some ⟨b2, 0, none⟩)), (22, .bool x1)] a ∧ Stw ⟨Y, [], w0⟩ [(b2, [.int .i64 Ai.1, .int .i64 Ai.2.1.1, .int .i64 Ai.2.1.2.1, .int .i64 Ai.2.1.2.2.1, .int .i64 Ai.2.1.2.2.2, .int .i64 Ai.2.2.1, .int .i64 Ai.2.2.2.1, .int .i64 Ai.2.2.2.2.1, .int .i64 Ai.2.2.2.2.2]), (b1, [.int .i64 0, .int .i64 0, .int .i64 0, .int .i64 0, .int .i64 0, .int .i64 0, .int .i64 0, .int .i64 0, .int .i64 0])] [] w) ?_ ?_
 ·
  have H := G1
  clear G1 K1
  refine Ac ?_
  refine ls F W Aa (Ad F Aa).q fun a w F W => ?_
  refine ls F W Aa (BI F Aa Aa).q fun a w F W => ?_
  refine ls F W Aa (Ad F Aa).q fun a w F W => ?_
  rcases Bool.eq_false_or_eq_true (decide (p0 < 0)) with hb | hb
  ·
   have H := AP (Bm hb) H
   rw [hb] at F
   clear hb
   iterate 2 refine C1 F Aa Aa Aa Aa Aa Aa Aa fun a F => ?_
   refine ls F W Aa (Av F Aa Aa Aa).q fun a w F W => ?_
   refine ls F W Aa (Ad F Aa).q fun a w F W => ?_
   iterate 2 refine C1 F Aa Aa Aa Aa Aa Aa Aa fun a F => ?_
   refine ls F W Aa (Av F Aa Aa Aa).q fun a w F W => ?_
   refine ls F W Aa (Ad F Aa).q fun a w F W => ?_
   iterate 4 refine C1 F Aa Aa Aa Aa Aa Aa Aa fun a F => ?_
   refine ls F W Aa (Av F Aa Aa Aa).q fun a w F W => ?_
   refine Ae (Ab ?_)
   have W := W.frontM (i := 1) Aa Aa
   have W := W.frontM (i := 1) Aa Aa
   exact ⟨_, H, F.re ⟨rfl, Aa, Aa, Aa, Aa, trivial⟩, W⟩
  have H := AO (Bn hb) H
  rw [hb] at F
  clear hb
  refine AR F W (Ag F Aa Aa Aa Aa) Aa (An Aa) (Ad F Aa).q fun a w F W => ?_
  refine AR F W (Ag F Aa Aa Aa Aa) Aa (An Aa) (Ds F Aa Aa).q fun a w F W => ?_
  refine ls F W Aa (Ax F Aa Aa Aa).q fun a w F W => ?_
  refine ls F W Aa (Ad F Aa).q fun a w F W => ?_
  rcases Bool.eq_false_or_eq_true (decide (4 ≤ p0)) with hb | hb
  ·
   have H := AP (Bm hb) H
   rw [hb] at F
   clear hb
   iterate 2 refine C1 F Aa Aa Aa Aa Aa Aa Aa fun a F => ?_
   refine ls F W Aa (Av F Aa Aa Aa).q fun a w F W => ?_
   refine ls F W Aa (Ad F Aa).q fun a w F W => ?_
   iterate 4 refine C1 F Aa Aa Aa Aa Aa Aa Aa fun a F => ?_
   refine ls F W Aa (Av F Aa Aa Aa).q fun a w F W => ?_
   refine Ae (Ab ?_)
   have W := W.frontM (i := 1) Aa Aa
   have W := W.frontM (i := 1) Aa Aa
   exact ⟨_, H, F.re ⟨rfl, Aa, Aa, Aa, Aa, trivial⟩, W⟩
  have H := AO (Bn hb) H
  rw [hb] at F
  clear hb
  refine AR F W (Ag F Aa Aa Aa Aa) Aa (An Aa) (Ad F Aa).q fun a w F W => ?_
  refine AR F W (Ag F Aa Aa Aa Aa) Aa (An Aa) (BI F Aa Aa).q fun a w F W => ?_
  refine ls F W Aa (Ax F Aa Aa Aa).q fun a w F W => ?_
  refine ls F W Aa (Ad F Aa).q fun a w F W => ?_
  rcases Bool.eq_false_or_eq_true (decide (p1 < 0)) with hb | hb
  ·
   have H := AP (Bm hb) H
   rw [hb] at F
   clear hb
   iterate 4 refine C1 F Aa Aa Aa Aa Aa Aa Aa fun a F => ?_
   refine ls F W Aa (Av F Aa Aa Aa).q fun a w F W => ?_
   refine Ae (Ab ?_)
   have W := W.frontM (i := 1) Aa Aa
   have W := W.frontM (i := 1) Aa Aa
   exact ⟨_, H, F.re ⟨rfl, Aa, Aa, Aa, Aa, trivial⟩, W⟩
  have H := AO (Bn hb) H
  rw [hb] at F
  clear hb
  iterate 2 refine AR F W (Ag F Aa Aa Aa Aa) Aa (An Aa) (Ad F Aa).q fun a w F W => ?_
  refine IQ (Ag F Aa Aa Aa Aa) ?_
  obtain ⟨x2, h1, H⟩ := Ak H
  refine ls F W Aa (BR (v := Value.int .i64 x2) F UL Aa (fun w W => Kk any w p0 _ h1)) fun a w F W => ?_
  refine AR F W (Ag F Aa Aa Aa Aa) Aa (An Aa) (FZ F Aa Aa).q fun a w F W => ?_
  refine ls F W Aa (Ax F Aa Aa Aa).q fun a w F W => ?_
  refine Ae (Ab ?_)
  have W := W.frontM (i := 1) Aa Aa
  have W := W.frontM (i := 1) Aa Aa
  exact ⟨_, H, F.re ⟨rfl, Aa, Aa, Aa, Aa, trivial⟩, W⟩
 rintro a w ⟨x1, hj, F, W⟩
 have hj := AQ hj
 subst hj
 have H := K1
 clear G1 K1
 refine Ay F Aa (fun hb => ?_) fun hb => ?_
 ·
  have H := AP hb H
  rw [hb] at F
  clear hb
  refine Ah (Ac ?_)
  refine ls F W Aa (AB (v := Value.agg #[.int .i64 Ai.1, .int .i64 Ai.2.1.1, .int .i64 Ai.2.1.2.1, .int .i64 Ai.2.1.2.2.1, .int .i64 Ai.2.1.2.2.2, .int .i64 Ai.2.2.1, .int .i64 Ai.2.2.2.1, .int .i64 Ai.2.2.2.2.1, .int .i64 Ai.2.2.2.2.2]) 0 F Aa Aa PZ Aa).q fun a w F W => ?_
  refine BW (vs := [.int .i64 Ai.1, .int .i64 Ai.2.1.1, .int .i64 Ai.2.1.2.1, .int .i64 Ai.2.1.2.2.1, .int .i64 Ai.2.1.2.2.2, .int .i64 Ai.2.2.1, .int .i64 Ai.2.2.2.1, .int .i64 Ai.2.2.2.2.1, .int .i64 Ai.2.2.2.2.2]) (M' := [(b2, [.int .i64 Ai.1, .int .i64 Ai.2.1.1, .int .i64 Ai.2.1.2.1, .int .i64 Ai.2.1.2.2.1, .int .i64 Ai.2.1.2.2.2, .int .i64 Ai.2.2.1, .int .i64 Ai.2.2.2.1, .int .i64 Ai.2.2.2.2.1, .int .i64 Ai.2.2.2.2.2]), (b1, [.int .i64 Ai.1, .int .i64 Ai.2.1.1, .int .i64 Ai.2.1.2.1, .int .i64 Ai.2.1.2.2.1, .int .i64 Ai.2.1.2.2.2, .int .i64 Ai.2.2.1, .int .i64 Ai.2.2.2.1, .int .i64 Ai.2.2.2.2.1, .int .i64 Ai.2.2.2.2.2])]) 1 F W Aa Aa Aa PZ Aa Aa Aa Aa Aa fun w W => ?_
  refine Ae (Ab (AF (AN ?_)))
  have H := AQ H
  subst H
  refine Bj (.inl Aa) F W Aa (Ha 1 F Aa Aa PZ Aa) ?_
  exact ⟨rfl, W.done⟩
 have H := AO (by rw [hb]; decide) H
 rw [hb] at F
 clear hb
 refine Aq (Ab (Ah ?_))
 refine El [(true, 0), (true, 1), (true, 2), (true, 3), (true, 5), (true, 6), (true, 8), (false, 4), (false, 7), (true, 9), (false, 10)] (CN ⟨Y, [], w0⟩ [] []) (fun ch a d v w h => by cases d <;> exact h) MO (by kernel_rfl) W (fun w W => ⟨_, _, W, Aw, Aw⟩) fun w W => ?_
 iterate 4 refine Bd (R := []) F Aa Aa (yC fun M Z hN hZ => Ad F Aa) Aa Aa fun a F => ?_
 refine Bd (R := []) F Aa Aa (yC fun M Z hN hZ => Am RO Aa Aa Aa TI F Aa 1 Aa) Aa Aa fun a F => ?_
 obtain ⟨x3, h2, H⟩ := Ak H
 refine Bd (R := []) F Aa Aa (yC fun M Z hN hZ => Oq (1 + (p0).toNat * 1) SR F Aa Aa Aa h2 Aa) Aa Aa fun a F => ?_
 refine Bd (R := []) F Aa Aa (yC fun M Z hN hZ => Am RO Aa Aa Aa TI F Aa 5 Aa) Aa Aa fun a F => ?_
 refine Fh Aa ?_
 obtain ⟨x4, h3, H⟩ := Ak H
 refine ls F W Aa (BR (v := Value.int .i64 x4) F UL Aa (fun w W => Kk any w p0 _ h3)) fun a w F W => ?_
 refine Cr (N2 := []) (NZ2 := []) (N3 := []) (NZ3 := []) W Aa Aa Aw Aw ?_
 refine Fh Aa ?_
 refine Lw (o := 1) (m := 4) (i := p0) (l := ([Ai.2.1.1, Ai.2.1.2.1, Ai.2.1.2.2.1, Ai.2.1.2.2.2] : List Int)) (x := x3) (cs := [.int .i64 Ai.1, .int .i64 Ai.2.1.1, .int .i64 Ai.2.1.2.1, .int .i64 Ai.2.1.2.2.1, .int .i64 Ai.2.1.2.2.2, .int .i64 Ai.2.2.1, .int .i64 Ai.2.2.2.1, .int .i64 Ai.2.2.2.2.1, .int .i64 Ai.2.2.2.2.2]) (cs' := [.int .i64 Ai.1, .int .i64 (if p0 = 0 then p1 else Ai.2.1.1), .int .i64 (if p0 = 1 then p1 else Ai.2.1.2.1), .int .i64 (if p0 = 2 then p1 else Ai.2.1.2.2.1), .int .i64 (if p0 = 3 then p1 else Ai.2.1.2.2.2), .int .i64 Ai.2.2.1, .int .i64 Ai.2.2.2.1, .int .i64 Ai.2.2.2.2.1, .int .i64 Ai.2.2.2.2.2]) 0 F W Aa Aa Aa T3 Aa Aa Aa Aa h2 (by intro k hk hn; rw [hk]; match k, hn with | 0, _ => rfl | 1, _ => rfl | 2, _ => rfl | 3, _ => rfl | (z + 4), h => exact absurd h (by omega)) fun w W => ?_
 have W : Stw ⟨Y, [], w0⟩ [(b2, [.int .i64 Ai.1, .int .i64 (if p0 = 0 then p1 else Ai.2.1.1), .int .i64 (if p0 = 1 then p1 else Ai.2.1.2.1), .int .i64 (if p0 = 2 then p1 else Ai.2.1.2.2.1), .int .i64 (if p0 = 3 then p1 else Ai.2.1.2.2.2), .int .i64 Ai.2.2.1, .int .i64 Ai.2.2.2.1, .int .i64 Ai.2.2.2.2.1, .int .i64 Ai.2.2.2.2.2]), (b1, [.int .i64 0, .int .i64 0, .int .i64 0, .int .i64 0, .int .i64 0, .int .i64 0, .int .i64 0, .int .i64 0, .int .i64 0])] [] w := W
 refine Cr (N2 := []) (NZ2 := []) (N3 := []) (NZ3 := []) W Aa Aa Aw Aw ?_
 obtain ⟨x5, h4, H⟩ := Ak H
 refine Bd (R := []) F Aa Aa (yC fun M Z hN hZ => Oq (5 + (p0).toNat * 1) SR F Aa Aa Aa h4 Aa) Aa Aa fun a F => ?_
 refine Fh Aa ?_
 refine Lw (o := 5) (m := 4) (i := p0) (l := ([Ai.2.2.1, Ai.2.2.2.1, Ai.2.2.2.2.1, Ai.2.2.2.2.2] : List Int)) (x := x5) (cs := [.int .i64 Ai.1, .int .i64 (if p0 = 0 then p1 else Ai.2.1.1), .int .i64 (if p0 = 1 then p1 else Ai.2.1.2.1), .int .i64 (if p0 = 2 then p1 else Ai.2.1.2.2.1), .int .i64 (if p0 = 3 then p1 else Ai.2.1.2.2.2), .int .i64 Ai.2.2.1, .int .i64 Ai.2.2.2.1, .int .i64 Ai.2.2.2.2.1, .int .i64 Ai.2.2.2.2.2]) (cs' := [.int .i64 Ai.1, .int .i64 (if p0 = 0 then p1 else Ai.2.1.1), .int .i64 (if p0 = 1 then p1 else Ai.2.1.2.1), .int .i64 (if p0 = 2 then p1 else Ai.2.1.2.2.1), .int .i64 (if p0 = 3 then p1 else Ai.2.1.2.2.2), .int .i64 (if p0 = 0 then x4 else Ai.2.2.1), .int .i64 (if p0 = 1 then x4 else Ai.2.2.2.1), .int .i64 (if p0 = 2 then x4 else Ai.2.2.2.2.1), .int .i64 (if p0 = 3 then x4 else Ai.2.2.2.2.2)]) 0 F W Aa Aa Aa T3 Aa Aa Aa Aa h4 (by intro k hk hn; rw [hk]; match k, hn with | 0, _ => rfl | 1, _ => rfl | 2, _ => rfl | 3, _ => rfl | (z + 4), h => exact absurd h (by omega)) fun w W => ?_
 have W : Stw ⟨Y, [], w0⟩ [(b2, [.int .i64 Ai.1, .int .i64 (if p0 = 0 then p1 else Ai.2.1.1), .int .i64 (if p0 = 1 then p1 else Ai.2.1.2.1), .int .i64 (if p0 = 2 then p1 else Ai.2.1.2.2.1), .int .i64 (if p0 = 3 then p1 else Ai.2.1.2.2.2), .int .i64 (if p0 = 0 then x4 else Ai.2.2.1), .int .i64 (if p0 = 1 then x4 else Ai.2.2.2.1), .int .i64 (if p0 = 2 then x4 else Ai.2.2.2.2.1), .int .i64 (if p0 = 3 then x4 else Ai.2.2.2.2.2)]), (b1, [.int .i64 0, .int .i64 0, .int .i64 0, .int .i64 0, .int .i64 0, .int .i64 0, .int .i64 0, .int .i64 0, .int .i64 0])] [] w := W
 refine Cr (N2 := []) (NZ2 := []) (N3 := []) (NZ3 := []) W Aa Aa Aw Aw ?_
 refine FC (Ab (Ah (Ac ?_)))
 refine ls F W Aa (AB (v := Value.agg #[.int .i64 Ai.1, .int .i64 (if p0 = 0 then p1 else Ai.2.1.1), .int .i64 (if p0 = 1 then p1 else Ai.2.1.2.1), .int .i64 (if p0 = 2 then p1 else Ai.2.1.2.2.1), .int .i64 (if p0 = 3 then p1 else Ai.2.1.2.2.2), .int .i64 (if p0 = 0 then x4 else Ai.2.2.1), .int .i64 (if p0 = 1 then x4 else Ai.2.2.2.1), .int .i64 (if p0 = 2 then x4 else Ai.2.2.2.2.1), .int .i64 (if p0 = 3 then x4 else Ai.2.2.2.2.2)]) 0 F Aa Aa PZ Aa).q fun a w F W => ?_
 refine BW (vs := [.int .i64 Ai.1, .int .i64 (if p0 = 0 then p1 else Ai.2.1.1), .int .i64 (if p0 = 1 then p1 else Ai.2.1.2.1), .int .i64 (if p0 = 2 then p1 else Ai.2.1.2.2.1), .int .i64 (if p0 = 3 then p1 else Ai.2.1.2.2.2), .int .i64 (if p0 = 0 then x4 else Ai.2.2.1), .int .i64 (if p0 = 1 then x4 else Ai.2.2.2.1), .int .i64 (if p0 = 2 then x4 else Ai.2.2.2.2.1), .int .i64 (if p0 = 3 then x4 else Ai.2.2.2.2.2)]) (M' := [(b2, [.int .i64 Ai.1, .int .i64 (if p0 = 0 then p1 else Ai.2.1.1), .int .i64 (if p0 = 1 then p1 else Ai.2.1.2.1), .int .i64 (if p0 = 2 then p1 else Ai.2.1.2.2.1), .int .i64 (if p0 = 3 then p1 else Ai.2.1.2.2.2), .int .i64 (if p0 = 0 then x4 else Ai.2.2.1), .int .i64 (if p0 = 1 then x4 else Ai.2.2.2.1), .int .i64 (if p0 = 2 then x4 else Ai.2.2.2.2.1), .int .i64 (if p0 = 3 then x4 else Ai.2.2.2.2.2)]), (b1, [.int .i64 Ai.1, .int .i64 (if p0 = 0 then p1 else Ai.2.1.1), .int .i64 (if p0 = 1 then p1 else Ai.2.1.2.1), .int .i64 (if p0 = 2 then p1 else Ai.2.1.2.2.1), .int .i64 (if p0 = 3 then p1 else Ai.2.1.2.2.2), .int .i64 (if p0 = 0 then x4 else Ai.2.2.1), .int .i64 (if p0 = 1 then x4 else Ai.2.2.2.1), .int .i64 (if p0 = 2 then x4 else Ai.2.2.2.2.1), .int .i64 (if p0 = 3 then x4 else Ai.2.2.2.2.2)])]) 1 F W Aa Aa Aa PZ Aa Aa Aa Aa Aa fun w W => ?_
 refine Ae (Ab (AF ?_))
 have H := AQ H
 subst H
 refine Bj (.inl Aa) F W Aa (Ha 1 F Aa Aa PZ Aa) ?_
 exact ⟨rfl, W.done⟩
theorem RI : type_of% Try.underlying64 := Try.underlying64
theorem Pb : type_of% Try.underlying66 := Try.underlying66
theorem TB : type_of% Try.underlying91 := Try.underlying91
theorem Wo : Has Try.prog 34 := ⟨fun args w => Al Try.func34 rfl (by decide) args w⟩
theorem Vz : Bt Try.prog 91 [.int .i64 0, .int .i64 0, .int .i64 0] [(0, 1), (1, 1), (2, 1)] := ⟨⟨.agg #[.int .i64 0, .int .i64 0, .int .i64 0], by kernel_rfl, rfl⟩, ⟨_, TB, fun w => by kernel_rfl⟩⟩
theorem Vt : (Try.prog.info? 91).bind (·.zero) = some (.agg #[.int .i64 0, .int .i64 0, .int .i64 0]) := by kernel_rfl
abbrev M7 : Rp (Int × Int × Int) := (Rp.pair (Rp.int .i64) (Rp.pair (Rp.int .i64) (Rp.int .i64)))
def VM (a : Int × Int × Int) : List Value := [.int .i64 a.1, .int .i64 a.2.1, .int .i64 a.2.2]
theorem TX : Fl M7 VM := (Fl.pair Fl.int (Fl.pair Fl.int Fl.int))
theorem TV : Et Try.prog 64 91 3 24 := Et.of RI (by kernel_rfl) (by kernel_rfl) (by kernel_rfl) (by decide)
theorem V9 : Bt Try.prog 66 [.int .i64 0, .int .i64 0, .int .i64 0, .int .i64 0, .int .i64 0, .int .i64 0, .int .i64 0, .int .i64 0, .int .i64 0, .int .i64 0, .slice none 0 0] [(0, 1), (1, 9), (10, 1)] := ⟨⟨.agg #[.int .i64 0, .int .i64 0, .int .i64 0, .int .i64 0, .int .i64 0, .int .i64 0, .int .i64 0, .int .i64 0, .int .i64 0, .int .i64 0, .slice none 0 0], by kernel_rfl, rfl⟩, ⟨_, Pb, fun w => by kernel_rfl⟩⟩
theorem SZ : Ty Try.prog 66 true 11 := ⟨by kernel_rfl, by kernel_rfl⟩
noncomputable def Ge (p0 : Int) (p1 : Int) (p2 : Int) (p3 : Int) : Option (Int × (Int × (Int × Int × Int × Int) × (Int × Int × Int × Int)) × (List (Int × Int × Int))) := (IL p0 p1).bind fun x1 => some (p2, x1, ([(2, 0, p3)] : List (Int × Int × Int)))
theorem Nv (Y : Nat → Prop) (w0 : World)  (p0 : Int) (p1 : Int) (p2 : Int) (p3 : Int) (r : (Int × (Int × (Int × Int × Int × Int) × (Int × Int × Int × Int)) × (List (Int × Int × Int)))) (H : Ge p0 p1 p2 p3 = some r)  :
    Calls Try.prog 18 #[.int .i64 p0, .int .i64 p1, .int .i64 p2, .int .i64 p3] w0 fun e w' => ∃ x : Value, e = .returned (.agg #[.int .i64 r.1, .int .i64 r.2.1.1, .int .i64 r.2.1.2.1.1, .int .i64 r.2.1.2.1.2.1, .int .i64 r.2.1.2.1.2.2.1, .int .i64 r.2.1.2.1.2.2.2, .int .i64 r.2.1.2.2.1, .int .i64 r.2.1.2.2.2.1, .int .i64 r.2.1.2.2.2.2.1, .int .i64 r.2.1.2.2.2.2.2, x]) ∧ Stw ⟨Y, [], w0⟩ [] [row (x) 91 M7 r.2.2] w' := by
 refine enter Try.func18 Aa Try.ntmps18 Aa fun a F => ?_
 have W := Stw.start Y w0
 unfold Ge at H
 refine Ah (Ac ?_)
 refine CB (cs := [.int .i64 0, .int .i64 0, .int .i64 0, .int .i64 0, .int .i64 0, .int .i64 0, .int .i64 0, .int .i64 0, .int .i64 0, .int .i64 0, .slice none 0 0]) F W Aa V4 Aa fun b1 a w F W => ?_
 refine Ae (Ab (Ah (Ac ?_)))
 iterate 3 refine ls F W Aa (Ad F Aa).q fun a w F W => ?_
 obtain ⟨x1, h1, H⟩ := Ak H
 refine ls F W Aa (BR (v := Value.agg #[.int .i64 x1.1, .int .i64 x1.2.1.1, .int .i64 x1.2.1.2.1, .int .i64 x1.2.1.2.2.1, .int .i64 x1.2.1.2.2.2, .int .i64 x1.2.2.1, .int .i64 x1.2.2.2.1, .int .i64 x1.2.2.2.2.1, .int .i64 x1.2.2.2.2.2]) F Wo Aa (fun w W => Pj any w p0 p1 _ h1)) fun a w F W => ?_
 refine ls F W Aa (Ad F Aa).q fun a w F W => ?_
 refine ls F W Aa (CE (v := Value.agg #[.int .i64 2, .int .i64 0, .int .i64 p3]) Vz F Aa Aa Aa).q fun a w F W => ?_
 refine E9 (z := Value.agg #[.int .i64 0, .int .i64 0, .int .i64 0]) (cs := [.int .i64 2, .int .i64 0, .int .i64 p3]) M7 ([(2, 0, p3)] : List (Int × Int × Int)) F W Aa TV Vt Aa Aa Aa Aa Aa Aa (TX.repL _ _ ([(2, 0, p3)] : List (Int × Int × Int))) fun v1 a w F W => ?_
 refine ls F W Aa (CE (v := Value.agg #[.int .i64 p2, .int .i64 x1.1, .int .i64 x1.2.1.1, .int .i64 x1.2.1.2.1, .int .i64 x1.2.1.2.2.1, .int .i64 x1.2.1.2.2.2, .int .i64 x1.2.2.1, .int .i64 x1.2.2.2.1, .int .i64 x1.2.2.2.2.1, .int .i64 x1.2.2.2.2.2, v1]) V9 F Aa (Bq Aa Aa Aa (Bq Aa Aa Aa (Bq Aa (Ct (W.one (k := 0) Aa)) Aa DO))) Aa).q fun a w F W => ?_
 refine BW (vs := [.int .i64 p2, .int .i64 x1.1, .int .i64 x1.2.1.1, .int .i64 x1.2.1.2.1, .int .i64 x1.2.1.2.2.1, .int .i64 x1.2.1.2.2.2, .int .i64 x1.2.2.1, .int .i64 x1.2.2.2.1, .int .i64 x1.2.2.2.2.1, .int .i64 x1.2.2.2.2.2, v1]) (M' := [(b1, [.int .i64 p2, .int .i64 x1.1, .int .i64 x1.2.1.1, .int .i64 x1.2.1.2.1, .int .i64 x1.2.1.2.2.1, .int .i64 x1.2.1.2.2.2, .int .i64 x1.2.2.1, .int .i64 x1.2.2.2.1, .int .i64 x1.2.2.2.2.1, .int .i64 x1.2.2.2.2.2, v1])]) 0 F W Aa Aa Aa SZ Aa Aa Aa (AZ Aa (AZ Aa (AZ Aa (AZ Aa (AZ Aa (AZ Aa (AZ Aa (AZ Aa (AZ Aa (AZ Aa (AZ (W.one (k := 0) Aa) E3))))))))))) Aa fun w W => ?_
 refine Ae (Ab (AF ?_))
 have H := AQ H
 subst H
 refine Bj (.inl Aa) F W Aa (Ha 0 F Aa Aa SZ Aa) ?_
 have W := W.sub (M' := []) (Z' := [row v1 91 M7 ([(2, 0, p3)] : List (Int × Int × Int))]) (List.nil_sublist _) (List.Sublist.refl _)
 exact ⟨(v1), Aa, W⟩
theorem Qa : type_of% Try.underlying42 := Try.underlying42
theorem Pf : type_of% Try.underlying68 := Try.underlying68
theorem Vv : Has Try.prog 18 := ⟨fun args w => Al Try.func18 rfl (by decide) args w⟩
theorem Ve : Bt Try.prog 68 [.int .i64 0, .int .i64 0, .int .i64 0, .int .i64 0, .int .i64 0, .int .i64 0, .int .i64 0, .int .i64 0, .int .i64 0, .int .i64 0, .int .i64 0, .slice none 0 0, .bool false] [(0, 1), (1, 11), (12, 1)] := ⟨⟨.agg #[.int .i64 0, .int .i64 0, .int .i64 0, .int .i64 0, .int .i64 0, .int .i64 0, .int .i64 0, .int .i64 0, .int .i64 0, .int .i64 0, .int .i64 0, .slice none 0 0, .bool false], by kernel_rfl, rfl⟩, ⟨_, Pf, fun w => by kernel_rfl⟩⟩
theorem VI : (Try.prog.info? 68).bind (·.zero) = some (.agg #[.int .i64 0, .int .i64 0, .int .i64 0, .int .i64 0, .int .i64 0, .int .i64 0, .int .i64 0, .int .i64 0, .int .i64 0, .int .i64 0, .int .i64 0, .slice none 0 0, .bool false]) := by kernel_rfl
abbrev Uk : Rp (Int × Int × Int × Int) := (Rp.pair (Rp.int .i64) (Rp.pair (Rp.int .i64) (Rp.pair (Rp.int .i64) (Rp.int .i64))))
abbrev Uw : Rp (Int × (Int × Int × Int × Int) × (Int × Int × Int × Int)) := (Rp.pair (Rp.int .i64) (Rp.pair Uk Uk))
abbrev UY : Rp (Int × (Int × (Int × Int × Int × Int) × (Int × Int × Int × Int)) × (List (Int × Int × Int))) := (Rp.pair (Rp.int .i64) (Rp.pair Uw (Rp.slice M7)))
abbrev Kb : Rp (Int × (Int × (Int × (Int × Int × Int × Int) × (Int × Int × Int × Int)) × (List (Int × Int × Int))) × Bool) := (Rp.pair (Rp.int .i64) (Rp.pair UY Rp.bool))
theorem TL : Et Try.prog 42 68 13 120 := Et.of Qa (by kernel_rfl) (by kernel_rfl) (by kernel_rfl) (by decide)
noncomputable def Ed (p0 : List (Int × Int × Int × Int)) (p1 : Int) (p2 : Int) : ((List (Int × (Int × (Int × (Int × Int × Int × Int) × (Int × Int × Int × Int)) × (List (Int × Int × Int))) × Bool)) × Int) → Option (((List (Int × (Int × (Int × (Int × Int × Int × Int) × (Int × Int × Int × Int)) × (List (Int × Int × Int))) × Bool)) × Int) ⊕ (List (Int × (Int × (Int × (Int × Int × Int × Int) × (Int × Int × Int × Int)) × (List (Int × Int × Int))) × Bool)))
  | (x2, x3) => (if x3 < (p0.length : Int) then ((ix p0 x3).bind fun x5 => (if (decide (x5.2.2.2 = p1) && decide (x5.1 = p2)) = true then (Ge 1 x5.2.1 10 x5.2.2.1).bind fun x6 => (KF x2 ([(3, x6, false)] : List (Int × (Int × (Int × (Int × Int × Int × Int) × (Int × Int × Int × Int)) × (List (Int × Int × Int))) × Bool))).bind fun x7 => some x7 else some x2)).bind fun x4 => some (.inl (x4, Az (x3 + 1))) else some (.inr x2))
noncomputable def FA (p0 : List (Int × Int × Int × Int)) (p1 : Int) (p2 : Int) : Option (List (Int × (Int × (Int × (Int × Int × Int × Int) × (Int × Int × Int × Int)) × (List (Int × Int × Int))) × Bool)) := (AH (Ed p0 p1 p2) ([], 0)).bind fun x1 => some x1
theorem Ki (Y : Nat → Prop) (w0 : World) (v1 : Value) (p0 : List (Int × Int × Int × Int)) (p1 : Int) (p2 : Int) (r : (List (Int × (Int × (Int × (Int × Int × Int × Int) × (Int × Int × Int × Int)) × (List (Int × Int × Int))) × Bool))) (H : FA p0 p1 p2 = some r) (h_v1 : Sl w0 (NX []) A4 v1 p0) :
    Calls Try.prog 9 #[v1, .int .i64 p1, .int .i64 p2] w0 fun e w' => ∃ x : Value, e = .returned (x) ∧ Stw ⟨Y, [], w0⟩ [] [row (x) 68 Kb r] w' := by
 refine enter Try.func9 Aa Try.ntmps9 Aa fun a F => ?_
 have W := Stw.start Y w0
 unfold FA at H
 refine Ah (Ac ?_)
 refine ls F W Aa (Af F Aa).q fun a w F W => ?_
 refine Ae (Ab (Ah (Ac ?_)))
 refine ls F W Aa (Af F Aa).q fun a w F W => ?_
 refine Ae (Ab ?_)
 obtain ⟨o1, G1, K1⟩ := Ak H
 refine AK (fun a w => ∃ x1 : List (Int × (Int × (Int × (Int × Int × Int × Int) × (Int × Int × Int × Int)) × (List (Int × Int × Int))) × Bool), ∃ v2 : Value, some (x1) = some o1 ∧ Fr 37 [] [(6, .slice none 0 0), (7, v2)] a ∧ Stw ⟨Y, [], w0⟩ [] [row v2 68 Kb x1] w) ?_ ?_
 ·
  have H := G1
  clear G1 K1
  refine Ah (Ac ?_)
  refine ls F W Aa (Ad F Aa).q fun a w F W => ?_
  refine ls F W Aa (B1 (r := A4) (l := p0) OD Aa F Aa (Ap h_v1)).q fun a w F W => ?_
  refine ls F W Aa (Ad F Aa).q fun a w F W => ?_
  refine Ae (Ab (As ?_))
  have W := W.nilRow 68 Kb
  refine Bh H (fun s a w => ∃ v3 : Value, Fr 37 [] [(1, .int .i64 p1), (2, .int .i64 p2), (6, .slice none 0 0), (7, v3), (10, v1), (11, .int .i64 (p0.length : Int)), (12, .int .i64 s.2)] a ∧ Stw ⟨Y, [], w0⟩ [] [row v3 68 Kb s.1] w) ⟨(Value.slice none 0 0), F.re ⟨rfl, Aa, Aa, Aa, Aa, Aa, Aa, trivial⟩, W⟩ fun s o a w H L2 hR => ?_
  obtain ⟨x2, x3⟩ := s
  obtain ⟨v3, F, W⟩ := hR
  have F : Fr 37 [] [(1, .int .i64 p1), (2, .int .i64 p2), (6, .slice none 0 0), (7, v3), (10, v1), (11, .int .i64 (p0.length : Int)), (12, .int .i64 x3)] a := F
  have W : Stw ⟨Y, [], w0⟩ [] [row v3 68 Kb x2] w := W
  rw [Ed] at H
  refine Ah (Ac ?_)
  refine ls F W Aa (BI F Aa Aa).q fun a w F W => ?_
  refine Ae (Ab (Ah ?_))
  refine Ay F Aa (fun hb => ?_) fun hb => ?_
  ·
   have H := AP (Bm hb) H
   rw [hb] at F
   clear hb
   refine Aq (Ab ?_)
   obtain ⟨o3, G3, K3⟩ := Ak H
   refine AK (fun a w => ∃ x4 : List (Int × (Int × (Int × (Int × Int × Int × Int) × (Int × Int × Int × Int)) × (List (Int × Int × Int))) × Bool), ∃ v4 : Value, some (x4) = some o3 ∧ Fr 37 [] [(1, .int .i64 p1), (2, .int .i64 p2), (6, .slice none 0 0), (7, v4), (10, v1), (11, .int .i64 (p0.length : Int)), (12, .int .i64 x3)] a ∧ Stw ⟨Y, [], w0⟩ [] [row v4 68 Kb x4] w) ?_ ?_
   ·
    have H := G3
    clear G3 K3
    refine As (Ah (Ac ?_))
    obtain ⟨x5, h1, H⟩ := Ak H
    refine ls F W Aa (AC (r := A4) En F Aa Aa (Ap h_v1) h1).q fun a w F W => ?_
    refine ls F W Aa (Ao (y := Value.agg #[.int .i64 x5.1, .int .i64 x5.2.1, .int .i64 x5.2.2.1, .int .i64 x5.2.2.2]) (j := 0) (i := x3) F Aa Aa (Ap h_v1) h1 Ep.to Ee Aa).q fun a w F W => ?_
    refine CB (cs := [.int .i64 0, .int .i64 0, .int .i64 0, .int .i64 0]) F W Aa S7 Aa fun b1 a w F W => ?_
    refine BW (vs := [.int .i64 x5.1, .int .i64 x5.2.1, .int .i64 x5.2.2.1, .int .i64 x5.2.2.2]) (M' := [(b1, [.int .i64 x5.1, .int .i64 x5.2.1, .int .i64 x5.2.2.1, .int .i64 x5.2.2.2])]) 0 F W Aa Aa Aa Ee Aa Aa Aa Aa Aa fun w W => ?_
    refine Ae (Ab ?_)
    refine AK (fun a w => Fr 37 [] [(1, .int .i64 p1), (2, .int .i64 p2), (6, .slice none 0 0), (7, v3), (9, .pointer (some ⟨b1, 0, none⟩)), (10, v1), (11, .int .i64 (p0.length : Int)), (12, .int .i64 x3), (25, .bool (decide (x5.2.2.2 = p1) && decide (x5.1 = p2)))] a ∧ Stw ⟨Y, [], w0⟩ [(b1, [.int .i64 x5.1, .int .i64 x5.2.1, .int .i64 x5.2.2.1, .int .i64 x5.2.2.2])] [row v3 68 Kb x2] w) ?_ ?_
    ·
     refine Ac ?_
     refine ls F W Aa (Am HD Aa Aa Aa T3 F Aa 3 Aa).q fun a w F W => ?_
     refine ls F W Aa (AB (v := Value.int .i64 x5.2.2.2) 0 F Aa Aa T3 Aa).q fun a w F W => ?_
     refine ls F W Aa (Ad F Aa).q fun a w F W => ?_
     refine ls F W Aa (Dl F Aa Aa).q fun a w F W => ?_
     refine ls F W Aa (Ad F Aa).q fun a w F W => ?_
     rcases Bool.eq_false_or_eq_true (decide (x5.2.2.2 = p1)) with hb0 | hb0
     ·
      rw [hb0] at F
      refine AR F W (Ag F Aa Aa Aa Aa) Aa (An Aa) (Am HD Aa Aa Aa T3 F Aa 0 Aa).q fun a w F W => ?_
      refine AR F W (Ag F Aa Aa Aa Aa) Aa (An Aa) (AB (v := Value.int .i64 x5.1) 0 F Aa Aa T3 Aa).q fun a w F W => ?_
      refine AR F W (Ag F Aa Aa Aa Aa) Aa (An Aa) (Ad F Aa).q fun a w F W => ?_
      refine AR F W (Ag F Aa Aa Aa Aa) Aa (An Aa) (Dl F Aa Aa).q fun a w F W => ?_
      refine ls F W Aa (Av F Aa Aa Aa).q fun a w F W => ?_
      refine Ae (Ab ?_)
      exact ⟨F.re ⟨rfl, Aa, Aa, Aa, Aa, Aa, Aa, Aa, (by show some (Value.bool (decide (x5.1 = p2))) = some (Value.bool (decide (x5.2.2.2 = p1) && decide (x5.1 = p2))); try rw [hb0]; all_goals simp only [Bool.not_true, Bool.not_false, Bool.true_and, Bool.false_and, Bool.true_or, Bool.false_or, Bool.and_true, Bool.or_false, cond_true, cond_false]), trivial⟩, W⟩
     rw [hb0] at F
     iterate 4 refine C1 F Aa Aa Aa Aa Aa Aa Aa fun a F => ?_
     refine ls F W Aa (Ax F Aa Aa Aa).q fun a w F W => ?_
     refine Ae (Ab ?_)
     exact ⟨F.re ⟨rfl, Aa, Aa, Aa, Aa, Aa, Aa, Aa, (by show some (Value.bool false) = some (Value.bool (decide (x5.2.2.2 = p1) && decide (x5.1 = p2))); try rw [hb0]; all_goals simp only [Bool.not_true, Bool.not_false, Bool.true_and, Bool.false_and, Bool.true_or, Bool.false_or, Bool.and_true, Bool.or_false, cond_true, cond_false]), trivial⟩, W⟩
    rintro a w ⟨F, W⟩
    refine Ay F Aa (fun hb => ?_) fun hb => ?_
    ·
     have H := AP hb H
     rw [hb] at F
     clear hb
     refine Ac ?_
     refine ls F W Aa (Ad F Aa).q fun a w F W => ?_
     refine ls F W Aa (Am HD Aa Aa Aa T3 F Aa 1 Aa).q fun a w F W => ?_
     refine ls F W Aa (AB (v := Value.int .i64 x5.2.1) 0 F Aa Aa T3 Aa).q fun a w F W => ?_
     refine ls F W Aa (Am HD Aa Aa Aa T3 F Aa 2 Aa).q fun a w F W => ?_
     refine ls F W Aa (AB (v := Value.int .i64 x5.2.2.1) 0 F Aa Aa T3 Aa).q fun a w F W => ?_
     obtain ⟨x6, h2, H⟩ := Ak H
     refine Bo (Ml := []) (Zl := []) (M := [(b1, [.int .i64 x5.1, .int .i64 x5.2.1, .int .i64 x5.2.2.1, .int .i64 x5.2.2.2])]) (Z := [row v3 68 Kb x2]) (β := Value) (rv := fun x => .agg #[.int .i64 x6.1, .int .i64 x6.2.1.1, .int .i64 x6.2.1.2.1.1, .int .i64 x6.2.1.2.1.2.1, .int .i64 x6.2.1.2.1.2.2.1, .int .i64 x6.2.1.2.1.2.2.2, .int .i64 x6.2.1.2.2.1, .int .i64 x6.2.1.2.2.2.1, .int .i64 x6.2.1.2.2.2.2.1, .int .i64 x6.2.1.2.2.2.2.2, x]) (MM := fun x => []) (ZZ := fun x => [row x 91 M7 x6.2.2]) F W Vv Aa Aa (fun hL => Nv _ w 1 x5.2.1 10 x5.2.2.1 _ h2) fun x a w F W => ?_
     obtain ⟨v5, rfl⟩ : ∃ y, y = x := ⟨x, rfl⟩
     have W : Stw ⟨Y, [], w0⟩ [(b1, [.int .i64 x5.1, .int .i64 x5.2.1, .int .i64 x5.2.2.1, .int .i64 x5.2.2.2])] [row v5 91 M7 x6.2.2, row v3 68 Kb x2] w := W
     refine ls F W Aa (CE (v := Value.agg #[.int .i64 3, .int .i64 x6.1, .int .i64 x6.2.1.1, .int .i64 x6.2.1.2.1.1, .int .i64 x6.2.1.2.1.2.1, .int .i64 x6.2.1.2.1.2.2.1, .int .i64 x6.2.1.2.1.2.2.2, .int .i64 x6.2.1.2.2.1, .int .i64 x6.2.1.2.2.2.1, .int .i64 x6.2.1.2.2.2.2.1, .int .i64 x6.2.1.2.2.2.2.2, v5, .bool false]) Ve F Aa (Bq Aa Aa Aa (Bq Aa Aa Aa DO)) Aa).q fun a w F W => ?_
     have W := W.freeze
     refine E9 (z := Value.agg #[.int .i64 0, .int .i64 0, .int .i64 0, .int .i64 0, .int .i64 0, .int .i64 0, .int .i64 0, .int .i64 0, .int .i64 0, .int .i64 0, .int .i64 0, .slice none 0 0, .bool false]) (cs := [.int .i64 3, .int .i64 x6.1, .int .i64 x6.2.1.1, .int .i64 x6.2.1.2.1.1, .int .i64 x6.2.1.2.1.2.1, .int .i64 x6.2.1.2.1.2.2.1, .int .i64 x6.2.1.2.1.2.2.2, .int .i64 x6.2.1.2.2.1, .int .i64 x6.2.1.2.2.2.1, .int .i64 x6.2.1.2.2.2.2.1, .int .i64 x6.2.1.2.2.2.2.2, v5, .bool false]) Kb ([(3, x6, false)] : List (Int × (Int × (Int × (Int × Int × Int × Int) × (Int × Int × Int × Int)) × (List (Int × Int × Int))) × Bool)) F W Aa TL VI Aa Aa Aa (Bq Aa Aa Aa DO) Aa Aa ⟨[Value.int .i64 3, Value.int .i64 x6.1, Value.int .i64 x6.2.1.1, Value.int .i64 x6.2.1.2.1.1, Value.int .i64 x6.2.1.2.1.2.1, Value.int .i64 x6.2.1.2.1.2.2.1, Value.int .i64 x6.2.1.2.1.2.2.2, Value.int .i64 x6.2.1.2.2.1, Value.int .i64 x6.2.1.2.2.2.1, Value.int .i64 x6.2.1.2.2.2.2.1, Value.int .i64 x6.2.1.2.2.2.2.2, v5, Value.bool false], _, Aa, ⟨[Value.int .i64 3], [Value.int .i64 x6.1, Value.int .i64 x6.2.1.1, Value.int .i64 x6.2.1.2.1.1, Value.int .i64 x6.2.1.2.1.2.1, Value.int .i64 x6.2.1.2.1.2.2.1, Value.int .i64 x6.2.1.2.1.2.2.2, Value.int .i64 x6.2.1.2.2.1, Value.int .i64 x6.2.1.2.2.2.1, Value.int .i64 x6.2.1.2.2.2.2.1, Value.int .i64 x6.2.1.2.2.2.2.2, v5, Value.bool false], Aa, Aa, ⟨[Value.int .i64 x6.1, Value.int .i64 x6.2.1.1, Value.int .i64 x6.2.1.2.1.1, Value.int .i64 x6.2.1.2.1.2.1, Value.int .i64 x6.2.1.2.1.2.2.1, Value.int .i64 x6.2.1.2.1.2.2.2, Value.int .i64 x6.2.1.2.2.1, Value.int .i64 x6.2.1.2.2.2.1, Value.int .i64 x6.2.1.2.2.2.2.1, Value.int .i64 x6.2.1.2.2.2.2.2, v5], [Value.bool false], Aa, ⟨[Value.int .i64 x6.1], [Value.int .i64 x6.2.1.1, Value.int .i64 x6.2.1.2.1.1, Value.int .i64 x6.2.1.2.1.2.1, Value.int .i64 x6.2.1.2.1.2.2.1, Value.int .i64 x6.2.1.2.1.2.2.2, Value.int .i64 x6.2.1.2.2.1, Value.int .i64 x6.2.1.2.2.2.1, Value.int .i64 x6.2.1.2.2.2.2.1, Value.int .i64 x6.2.1.2.2.2.2.2, v5], Aa, Aa, ⟨[Value.int .i64 x6.2.1.1, Value.int .i64 x6.2.1.2.1.1, Value.int .i64 x6.2.1.2.1.2.1, Value.int .i64 x6.2.1.2.1.2.2.1, Value.int .i64 x6.2.1.2.1.2.2.2, Value.int .i64 x6.2.1.2.2.1, Value.int .i64 x6.2.1.2.2.2.1, Value.int .i64 x6.2.1.2.2.2.2.1, Value.int .i64 x6.2.1.2.2.2.2.2], [v5], Aa, ⟨[Value.int .i64 x6.2.1.1], [Value.int .i64 x6.2.1.2.1.1, Value.int .i64 x6.2.1.2.1.2.1, Value.int .i64 x6.2.1.2.1.2.2.1, Value.int .i64 x6.2.1.2.1.2.2.2, Value.int .i64 x6.2.1.2.2.1, Value.int .i64 x6.2.1.2.2.2.1, Value.int .i64 x6.2.1.2.2.2.2.1, Value.int .i64 x6.2.1.2.2.2.2.2], Aa, Aa, ⟨[Value.int .i64 x6.2.1.2.1.1, Value.int .i64 x6.2.1.2.1.2.1, Value.int .i64 x6.2.1.2.1.2.2.1, Value.int .i64 x6.2.1.2.1.2.2.2], [Value.int .i64 x6.2.1.2.2.1, Value.int .i64 x6.2.1.2.2.2.1, Value.int .i64 x6.2.1.2.2.2.2.1, Value.int .i64 x6.2.1.2.2.2.2.2], Aa, ⟨[Value.int .i64 x6.2.1.2.1.1], [Value.int .i64 x6.2.1.2.1.2.1, Value.int .i64 x6.2.1.2.1.2.2.1, Value.int .i64 x6.2.1.2.1.2.2.2], Aa, Aa, ⟨[Value.int .i64 x6.2.1.2.1.2.1], [Value.int .i64 x6.2.1.2.1.2.2.1, Value.int .i64 x6.2.1.2.1.2.2.2], Aa, Aa, ⟨[Value.int .i64 x6.2.1.2.1.2.2.1], [Value.int .i64 x6.2.1.2.1.2.2.2], Aa, Aa, Aa⟩⟩⟩, ⟨[Value.int .i64 x6.2.1.2.2.1], [Value.int .i64 x6.2.1.2.2.2.1, Value.int .i64 x6.2.1.2.2.2.2.1, Value.int .i64 x6.2.1.2.2.2.2.2], Aa, Aa, ⟨[Value.int .i64 x6.2.1.2.2.2.1], [Value.int .i64 x6.2.1.2.2.2.2.1, Value.int .i64 x6.2.1.2.2.2.2.2], Aa, Aa, ⟨[Value.int .i64 x6.2.1.2.2.2.2.1], [Value.int .i64 x6.2.1.2.2.2.2.2], Aa, Aa, Aa⟩⟩⟩⟩⟩, ⟨_, Aa, (W.item (i := 0) Aa)⟩⟩⟩, Aa⟩⟩, Aa⟩ fun v6 a w F W => ?_
     obtain ⟨x7, h3, H⟩ := Ak H
     refine Fb (r := Kb) (i := 2) F W Aa TL Aa Aa Aa Aa (GD W 0 Aa) h3 Aa fun v7 a w F W => ?_
     have W : Stw ⟨Y, [], w0⟩ [(b1, [.int .i64 x5.1, .int .i64 x5.2.1, .int .i64 x5.2.2.1, .int .i64 x5.2.2.2])] [row v7 68 Kb x7, row v6 68 Kb ([(3, x6, false)] : List (Int × (Int × (Int × (Int × Int × Int × Int) × (Int × Int × Int × Int)) × (List (Int × Int × Int))) × Bool)), JE v5 M7 x6.2.2] w := W
     refine ls F W Aa (Af F Aa).q fun a w F W => ?_
     refine Ae (AM (Ab ?_))
     have W := W.sub (M' := []) (Z' := [row v7 68 Kb x7]) (List.nil_sublist _) (List.Sublist.cons_cons _ (List.nil_sublist _))
     exact ⟨_, (v7), H, F.re ⟨rfl, Aa, Aa, Aa, Aa, Aa, Aa, trivial⟩, W⟩
    have H := AO (by rw [hb]; decide) H
    rw [hb] at F
    clear hb
    refine Aq (AM (Ab ?_))
    have W := W.sub (M' := []) (Z' := [row v3 68 Kb x2]) (List.nil_sublist _) (List.Sublist.refl _)
    exact ⟨_, (v3), H, F.re ⟨rfl, Aa, Aa, Aa, Aa, Aa, Aa, trivial⟩, W⟩
   rintro a w ⟨x4, v4, hj, F, W⟩
   have hj := AQ hj
   subst hj
   have H := K3
   clear G3 K3
   refine Ac ?_
   refine ls F W Aa (Bp F Aa Aa Aa).q fun a w F W => ?_
   refine ls F W Aa (Ad F Aa).q fun a w F W => ?_
   refine Ae (Ab ?_)
   exact ⟨_, H, (v4), F.re ⟨rfl, Aa, Aa, Aa, Aa, Aa, Aa, trivial⟩, W⟩
  have H := AO (Bn hb) H
  rw [hb] at F
  clear hb
  refine A5 ?_
  iterate 2 refine Bk ?_
  refine A6 (Ab ?_)
  have H := L2 _ H
  exact ⟨_, (v3), H, F.re ⟨rfl, Aa, trivial⟩, W⟩
 rintro a w ⟨x1, v2, hj, F, W⟩
 have hj := AQ hj
 subst hj
 have H := K1
 clear G1 K1
 refine Ah (Ac ?_)
 refine ls F W Aa (Ad F Aa).q fun a w F W => ?_
 refine ls F W Aa (Af F Aa).q fun a w F W => ?_
 refine Ae (Ab (AF ?_))
 have H := AQ H
 subst H
 refine Bj (.inl Aa) F W Aa (AD F Aa) ?_
 exact ⟨(v2), Aa, W⟩
theorem OP : type_of% Try.underlying37 := Try.underlying37
theorem P9 : type_of% Try.underlying44 := Try.underlying44
theorem UM : Ty Try.prog 41 true 3 := ⟨by kernel_rfl, by kernel_rfl⟩
theorem So : Ty Try.prog 30 false 1 := ⟨by kernel_rfl, by kernel_rfl⟩
theorem H9 : Has Try.prog 9 := ⟨fun args w => Al Try.func9 rfl (by decide) args w⟩
theorem VP : Bt Try.prog 44 [.int .i64 0, .slice none 0 0] [(0, 1), (1, 1)] := ⟨⟨.agg #[.int .i64 0, .slice none 0 0], by kernel_rfl, rfl⟩, ⟨_, P9, fun w => by kernel_rfl⟩⟩
theorem V2 : (Try.prog.info? 44).bind (·.zero) = some (.agg #[.int .i64 0, .slice none 0 0]) := by kernel_rfl
abbrev IU : Rp (Int × (List (Int × (Int × (Int × (Int × Int × Int × Int) × (Int × Int × Int × Int)) × (List (Int × Int × Int))) × Bool))) := (Rp.pair (Rp.int .i64) (Rp.slice Kb))
theorem SL : Et Try.prog 37 44 2 32 := Et.of OP (by kernel_rfl) (by kernel_rfl) (by kernel_rfl) (by decide)
noncomputable def DE (p0 : (List (Int × Int × Int × Int)) × (List (Int × Int × List Int)) × Int × Int × Int × Int) (x1 : Int × Int × List Int) : ((List (Int × (List (Int × (Int × (Int × (Int × Int × Int × Int) × (Int × Int × Int × Int)) × (List (Int × Int × Int))) × Bool)))) × Int) → Option (((List (Int × (List (Int × (Int × (Int × (Int × Int × Int × Int) × (Int × Int × Int × Int)) × (List (Int × Int × Int))) × Bool)))) × Int) ⊕ (List (Int × (List (Int × (Int × (Int × (Int × Int × Int × Int) × (Int × Int × Int × Int)) × (List (Int × Int × Int))) × Bool)))))
  | (x3, x4) => (if x4 < (x1.2.2.length : Int) then (ix x1.2.2 x4).bind fun x5 => (FA p0.1 x1.1 x5).bind fun x6 => (KF x3 ([(x5, x6)] : List (Int × (List (Int × (Int × (Int × (Int × Int × Int × Int) × (Int × Int × Int × Int)) × (List (Int × Int × Int))) × Bool))))).bind fun x7 => some (.inl (x7, Az (x4 + 1))) else some (.inr x3))
noncomputable def CP (p0 : (List (Int × Int × Int × Int)) × (List (Int × Int × List Int)) × Int × Int × Int × Int) (p1 : Int) : Option (List (Int × (List (Int × (Int × (Int × (Int × Int × Int × Int) × (Int × Int × Int × Int)) × (List (Int × Int × Int))) × Bool)))) := (if (decide (p1 < 0) || decide ((p0.2.1.length : Int) ≤ p1)) = true then some ([] : List (Int × (List (Int × (Int × (Int × (Int × Int × Int × Int) × (Int × Int × Int × Int)) × (List (Int × Int × Int))) × Bool)))) else (ix p0.2.1 p1).bind fun x1 => (AH (DE p0 x1) ([], 0)).bind fun x2 => some x2)
theorem Gv (Y : Nat → Prop) (w0 : World) (v1 : Value) (v2 : Value) (p0 : (List (Int × Int × Int × Int)) × (List (Int × Int × List Int)) × Int × Int × Int × Int) (p1 : Int) (r : (List (Int × (List (Int × (Int × (Int × (Int × Int × Int × Int) × (Int × Int × Int × Int)) × (List (Int × Int × Int))) × Bool))))) (H : CP p0 p1 = some r) (h_v1 : Sl w0 (NX []) A4 v1 p0.1) (h_v2 : Sl w0 (NX []) EX v2 p0.2.1) :
    Calls Try.prog 7 #[.agg #[v1, v2, .int .i64 p0.2.2.1, .int .i64 p0.2.2.2.1, .int .i64 p0.2.2.2.2.1, .int .i64 p0.2.2.2.2.2], .int .i64 p1] w0 fun e w' => ∃ x : Value, e = .returned (x) ∧ Stw ⟨Y, [], w0⟩ [] [row (x) 44 IU r] w' := by
 refine enter Try.func7 Aa Try.ntmps7 Aa fun a F => ?_
 have W := Stw.start Y w0
 obtain ⟨v3, h1, h_v2⟩ := h_v2.ex Hh
 unfold CP at H
 refine Ah (Ac ?_)
 refine EQ (cs := [v1, v2, .int .i64 p0.2.2.1, .int .i64 p0.2.2.2.1, .int .i64 p0.2.2.2.2.1, .int .i64 p0.2.2.2.2.2]) F W Aa Aa Aa fun b1 a w F W => ?_
 refine ls F W Aa (Af F Aa).q fun a w F W => ?_
 refine Ae (Ab (Ah ?_))
 refine AK (fun a w => Fr 43 [] [(1, .int .i64 p1), (2, .pointer (some ⟨b1, 0, none⟩)), (4, .slice none 0 0), (17, .bool (decide (p1 < 0) || decide ((p0.2.1.length : Int) ≤ p1)))] a ∧ Stw ⟨Y, [], w0⟩ [(b1, [v1, v2, .int .i64 p0.2.2.1, .int .i64 p0.2.2.2.1, .int .i64 p0.2.2.2.2.1, .int .i64 p0.2.2.2.2.2])] [] w) ?_ ?_
 ·
  refine Ac ?_
  refine ls F W Aa (Ad F Aa).q fun a w F W => ?_
  refine ls F W Aa (BI F Aa Aa).q fun a w F W => ?_
  refine ls F W Aa (Ad F Aa).q fun a w F W => ?_
  rcases Bool.eq_false_or_eq_true (decide (p1 < 0)) with hb0 | hb0
  ·
   rw [hb0] at F
   iterate 5 refine C1 F Aa Aa Aa Aa Aa Aa Aa fun a F => ?_
   refine ls F W Aa (Av F Aa Aa Aa).q fun a w F W => ?_
   refine Ae (Ab ?_)
   exact ⟨F.re ⟨rfl, Aa, Aa, (by show some (Value.bool true) = some (Value.bool (decide (p1 < 0) || decide ((p0.2.1.length : Int) ≤ p1))); try rw [hb0]; all_goals simp only [Bool.not_true, Bool.not_false, Bool.true_and, Bool.false_and, Bool.true_or, Bool.false_or, Bool.and_true, Bool.or_false, cond_true, cond_false]), trivial⟩, W⟩
  rw [hb0] at F
  refine AR F W (Ag F Aa Aa Aa Aa) Aa (An Aa) (Ad F Aa).q fun a w F W => ?_
  refine AR F W (Ag F Aa Aa Aa Aa) Aa (An Aa) (Am Hn Aa Aa Aa LR F Aa 1 Aa).q fun a w F W => ?_
  refine AR F W (Ag F Aa Aa Aa Aa) Aa (An Aa) (AB (v := v2) 0 F Aa Aa LR Aa).q fun a w F W => ?_
  refine AR F W (Ag F Aa Aa Aa Aa) Aa (An Aa) (B1 (r := EX) (l := p0.2.1) P5 Aa F Aa (Cb Hh h1 (Ap h_v2))).q fun a w F W => ?_
  refine AR F W (Ag F Aa Aa Aa Aa) Aa (An Aa) (Ds F Aa Aa).q fun a w F W => ?_
  refine ls F W Aa (Ax F Aa Aa Aa).q fun a w F W => ?_
  refine Ae (Ab ?_)
  exact ⟨F.re ⟨rfl, Aa, Aa, (by show some (Value.bool (decide ((p0.2.1.length : Int) ≤ p1))) = some (Value.bool (decide (p1 < 0) || decide ((p0.2.1.length : Int) ≤ p1))); try rw [hb0]; all_goals simp only [Bool.not_true, Bool.not_false, Bool.true_and, Bool.false_and, Bool.true_or, Bool.false_or, Bool.and_true, Bool.or_false, cond_true, cond_false]), trivial⟩, W⟩
 rintro a w ⟨F, W⟩
 refine Ay F Aa (fun hb => ?_) fun hb => ?_
 ·
  have H := AP hb H
  rw [hb] at F
  clear hb
  refine Ah (Ac ?_)
  refine ls F W Aa (Af F Aa).q fun a w F W => ?_
  refine Ae (Ab (AF (AN ?_)))
  have H := AQ H
  subst H
  refine Bj (.inl Aa) F W Aa (AD F Aa) ?_
  have W := W.nilRow 44 IU
  have W := W.sub (M' := []) (Z' := [row (Value.slice none 0 0) 44 IU ([])]) (List.nil_sublist _) (List.Sublist.refl _)
  exact ⟨(Value.slice none 0 0), Aa, W⟩
 have H := AO (by rw [hb]; decide) H
 rw [hb] at F
 clear hb
 refine Aq (Ab (Ah (Ac ?_)))
 refine ls F W Aa (Am Hn Aa Aa Aa LR F Aa 1 Aa).q fun a w F W => ?_
 refine ls F W Aa (AB (v := v2) 0 F Aa Aa LR Aa).q fun a w F W => ?_
 refine ls F W Aa (Ad F Aa).q fun a w F W => ?_
 obtain ⟨x1, h2, H⟩ := Ak H
 obtain ⟨v4, h3, h4⟩ := EK h1 h2
 have h5 : KT v4 = [.int .i64 x1.1, .int .i64 x1.2.1, (v4.2.2.1)] := congrArg (fun q : Int × Int × List Int => ([.int .i64 q.1, .int .i64 q.2.1, (v4.2.2.1)] : List Value)) h4
 refine ls F W Aa (AC (r := HZ) Sa F Aa Aa (Ap h_v2) h3).q fun a w F W => ?_
 refine ls F W Aa (Ao (y := Value.agg #[.int .i64 x1.1, .int .i64 x1.2.1, (v4.2.2.1)]) (j := 0) (i := p1) (enc := KT) F Aa Aa (Ap h_v2) h3 P6 UM (by rw [h5]; rfl)).q fun a w F W => ?_
 refine CB (cs := [.int .i64 0, .int .i64 0, .slice none 0 0]) F W Aa UK Aa fun b2 a w F W => ?_
 refine BW (vs := [.int .i64 x1.1, .int .i64 x1.2.1, (v4.2.2.1)]) (M' := [(b2, [.int .i64 x1.1, .int .i64 x1.2.1, (v4.2.2.1)]), (b1, [v1, v2, .int .i64 p0.2.2.1, .int .i64 p0.2.2.2.1, .int .i64 p0.2.2.2.2.1, .int .i64 p0.2.2.2.2.2])]) 0 F W Aa Aa Aa UM Aa Aa Aa (AZ Aa (AZ Aa (AZ ((D2 (Ap h_v2) h3 (Cu.snd (Cu.snd Cu.here)) (congrArg (fun q : Int × Int × List Int => q.2.2) h4)) _ W).one E3))) Aa fun w W => ?_
 refine Ae (Ab (Ah (Ac ?_)))
 refine ls F W Aa (Af F Aa).q fun a w F W => ?_
 refine Ae (Ab ?_)
 obtain ⟨o1, G1, K1⟩ := Ak H
 refine AK (fun a w => ∃ x2 : List (Int × (List (Int × (Int × (Int × (Int × Int × Int × Int) × (Int × Int × Int × Int)) × (List (Int × Int × Int))) × Bool))), ∃ v5 : Value, some (x2) = some o1 ∧ Fr 43 [] [(4, .slice none 0 0), (6, v5)] a ∧ Stw ⟨Y, [], w0⟩ [(b2, [.int .i64 x1.1, .int .i64 x1.2.1, (v4.2.2.1)]), (b1, [v1, v2, .int .i64 p0.2.2.1, .int .i64 p0.2.2.2.1, .int .i64 p0.2.2.2.2.1, .int .i64 p0.2.2.2.2.2])] [row v5 44 IU x2] w) ?_ ?_
 ·
  have H := G1
  clear G1 K1
  refine Ah (Ac ?_)
  refine ls F W Aa (Am Ou Aa Aa Aa J7 F Aa 2 Aa).q fun a w F W => ?_
  refine ls F W Aa (AB (v := (v4.2.2.1)) 0 F Aa Aa J7 Aa).q fun a w F W => ?_
  refine ls F W Aa (B1 (r := (Rp.int .i64)) (l := x1.2.2) Hu Aa F Aa (D2 (Ap h_v2) h3 (Cu.snd (Cu.snd Cu.here)) (congrArg (fun q : Int × Int × List Int => q.2.2) h4))).q fun a w F W => ?_
  refine ls F W Aa (Ad F Aa).q fun a w F W => ?_
  refine Ae (Ab (As ?_))
  have W := W.nilRow 44 IU
  have W := W.frontM (i := 1) Aa Aa
  have W := W.frontM (i := 1) Aa Aa
  refine Bh H (fun s a w => ∃ v6 : Value, Fr 43 [] [(2, .pointer (some ⟨b1, 0, none⟩)), (4, .slice none 0 0), (5, .pointer (some ⟨b2, 0, none⟩)), (6, v6), (24, (v4.2.2.1)), (25, .int .i64 (x1.2.2.length : Int)), (26, .int .i64 s.2)] a ∧ Stw ⟨Y, [], w0⟩ [(b2, [.int .i64 x1.1, .int .i64 x1.2.1, (v4.2.2.1)]), (b1, [v1, v2, .int .i64 p0.2.2.1, .int .i64 p0.2.2.2.1, .int .i64 p0.2.2.2.2.1, .int .i64 p0.2.2.2.2.2])] [row v6 44 IU s.1] w) ⟨(Value.slice none 0 0), F.re ⟨rfl, Aa, Aa, Aa, Aa, Aa, Aa, trivial⟩, W⟩ fun s o a w H L2 hR => ?_
  obtain ⟨x3, x4⟩ := s
  obtain ⟨v6, F, W⟩ := hR
  have F : Fr 43 [] [(2, .pointer (some ⟨b1, 0, none⟩)), (4, .slice none 0 0), (5, .pointer (some ⟨b2, 0, none⟩)), (6, v6), (24, (v4.2.2.1)), (25, .int .i64 (x1.2.2.length : Int)), (26, .int .i64 x4)] a := F
  have W : Stw ⟨Y, [], w0⟩ [(b2, [.int .i64 x1.1, .int .i64 x1.2.1, (v4.2.2.1)]), (b1, [v1, v2, .int .i64 p0.2.2.1, .int .i64 p0.2.2.2.1, .int .i64 p0.2.2.2.2.1, .int .i64 p0.2.2.2.2.2])] [row v6 44 IU x3] w := W
  rw [DE] at H
  refine Ah (Ac ?_)
  refine ls F W Aa (BI F Aa Aa).q fun a w F W => ?_
  refine Ae (Ab (Ah ?_))
  refine Ay F Aa (fun hb => ?_) fun hb => ?_
  ·
   have H := AP (Bm hb) H
   rw [hb] at F
   clear hb
   refine Aq (Ab (Ah (As (Ah (Ac ?_)))))
   obtain ⟨x5, h6, H⟩ := Ak H
   refine ls F W Aa (AC (r := (Rp.int .i64)) EH F Aa Aa (D2 (Ap h_v2) h3 (Cu.snd (Cu.snd Cu.here)) (congrArg (fun q : Int × Int × List Int => q.2.2) h4)) h6).q fun a w F W => ?_
   refine ls F W Aa (Ao (y := Value.int .i64 x5) (j := 0) (i := x4) F Aa Aa (D2 (Ap h_v2) h3 (Cu.snd (Cu.snd Cu.here)) (congrArg (fun q : Int × Int × List Int => q.2.2) h4)) h6 Fl.int.to T3 Aa).q fun a w F W => ?_
   refine ls F W Aa (Af F Aa).q fun a w F W => ?_
   refine Ae (Ab (Ac ?_))
   iterate 2 refine ls F W Aa (Ad F Aa).q fun a w F W => ?_
   refine ls F W Aa (Am Hn Aa Aa Aa So F Aa 0 Aa).q fun a w F W => ?_
   refine ls F W Aa (AB (v := v1) 1 F Aa Aa So Aa).q fun a w F W => ?_
   refine ls F W Aa (Am Ou Aa Aa Aa T3 F Aa 0 Aa).q fun a w F W => ?_
   refine ls F W Aa (AB (v := Value.int .i64 x1.1) 0 F Aa Aa T3 Aa).q fun a w F W => ?_
   refine ls F W Aa (Ad F Aa).q fun a w F W => ?_
   obtain ⟨x6, h7, H⟩ := Ak H
   refine Bo (Ml := []) (Zl := []) (M := [(b2, [.int .i64 x1.1, .int .i64 x1.2.1, (v4.2.2.1)]), (b1, [v1, v2, .int .i64 p0.2.2.1, .int .i64 p0.2.2.2.1, .int .i64 p0.2.2.2.2.1, .int .i64 p0.2.2.2.2.2])]) (Z := [row v6 44 IU x3]) (β := Value) (rv := fun x => x) (MM := fun x => []) (ZZ := fun x => [row x 68 Kb x6]) F W H9 Aa Aa (fun hL => Ki _ w (v1) p0.1 x1.1 x5 _ h7 ((Ap h_v1) w W).nx) fun x a w F W => ?_
   obtain ⟨v7, rfl⟩ : ∃ y, y = x := ⟨x, rfl⟩
   have W : Stw ⟨Y, [], w0⟩ [(b2, [.int .i64 x1.1, .int .i64 x1.2.1, (v4.2.2.1)]), (b1, [v1, v2, .int .i64 p0.2.2.1, .int .i64 p0.2.2.2.1, .int .i64 p0.2.2.2.2.1, .int .i64 p0.2.2.2.2.2])] [row v7 68 Kb x6, row v6 44 IU x3] w := W
   refine ls F W Aa (CE (v := Value.agg #[.int .i64 x5, v7]) VP F Aa (Bq Aa Aa Aa (Bq Aa (Ct (W.one (k := 0) Aa)) Aa DO)) Aa).q fun a w F W => ?_
   have W := W.freeze
   refine E9 (z := Value.agg #[.int .i64 0, .slice none 0 0]) (cs := [.int .i64 x5, v7]) IU ([(x5, x6)] : List (Int × (List (Int × (Int × (Int × (Int × Int × Int × Int) × (Int × Int × Int × Int)) × (List (Int × Int × Int))) × Bool)))) F W Aa SL V2 Aa Aa Aa (Bq Aa Aa Aa DO) Aa Aa ⟨[Value.int .i64 x5, v7], _, Aa, ⟨[Value.int .i64 x5], [v7], Aa, Aa, ⟨_, Aa, (W.item (i := 0) Aa)⟩⟩, Aa⟩ fun v8 a w F W => ?_
   obtain ⟨x7, h8, H⟩ := Ak H
   refine Fb (r := IU) (i := 2) F W Aa SL Aa Aa Aa Aa (GD W 0 Aa) h8 Aa fun v9 a w F W => ?_
   have W : Stw ⟨Y, [], w0⟩ [(b2, [.int .i64 x1.1, .int .i64 x1.2.1, (v4.2.2.1)]), (b1, [v1, v2, .int .i64 p0.2.2.1, .int .i64 p0.2.2.2.1, .int .i64 p0.2.2.2.2.1, .int .i64 p0.2.2.2.2.2])] [row v9 44 IU x7, row v8 44 IU ([(x5, x6)] : List (Int × (List (Int × (Int × (Int × (Int × Int × Int × Int) × (Int × Int × Int × Int)) × (List (Int × Int × Int))) × Bool)))), JE v7 Kb x6] w := W
   refine ls F W Aa (Af F Aa).q fun a w F W => ?_
   refine Ae (AM (Ab (Ac ?_)))
   refine ls F W Aa (Bp F Aa Aa Aa).q fun a w F W => ?_
   refine ls F W Aa (Ad F Aa).q fun a w F W => ?_
   refine Ae (Ab ?_)
   have W := W.frontM (i := 1) Aa Aa
   have W := W.frontM (i := 1) Aa Aa
   have W := W.sub (M' := [(b2, [.int .i64 x1.1, .int .i64 x1.2.1, (v4.2.2.1)]), (b1, [v1, v2, .int .i64 p0.2.2.1, .int .i64 p0.2.2.2.1, .int .i64 p0.2.2.2.2.1, .int .i64 p0.2.2.2.2.2])]) (Z' := [row v9 44 IU x7]) (List.Sublist.refl _) (List.Sublist.cons_cons _ (List.nil_sublist _))
   exact ⟨_, H, (v9), F.re ⟨rfl, Aa, Aa, Aa, Aa, Aa, Aa, trivial⟩, W⟩
  have H := AO (Bn hb) H
  rw [hb] at F
  clear hb
  refine A5 ?_
  iterate 2 refine Bk ?_
  refine A6 (Ab ?_)
  have W := W.frontM (i := 1) Aa Aa
  have W := W.frontM (i := 1) Aa Aa
  have H := L2 _ H
  exact ⟨_, (v6), H, F.re ⟨rfl, Aa, trivial⟩, W⟩
 rintro a w ⟨x2, v5, hj, F, W⟩
 have hj := AQ hj
 subst hj
 have H := K1
 clear G1 K1
 refine Ah (Ac ?_)
 refine ls F W Aa (Ad F Aa).q fun a w F W => ?_
 refine ls F W Aa (Af F Aa).q fun a w F W => ?_
 refine Ae (Ab (AF ?_))
 have H := AQ H
 subst H
 refine Bj (.inl Aa) F W Aa (AD F Aa) ?_
 have W := W.sub (M' := []) (Z' := [row v5 44 IU x2]) (List.nil_sublist _) (List.Sublist.refl _)
 exact ⟨(v5), Aa, W⟩
noncomputable def GG (p1 : List (List Int)) : Int → Option (Int ⊕ (Unit ⊕ Bool))
  | x1 => (if x1 < (p1.length : Int) then (ix p1 x1).bind fun x2 => (if 12 < (x2.length : Int) then some (.inr (.inr false)) else some (.inl (Az (x1 + 1)))) else some (.inr (.inl ())))
noncomputable def HU (p0 : Int × (List (Int × Int × Int × Int × Int × Int)) × (List (Int × Int))) (p1 : List (List Int)) : Option Bool := FO (AH (GG p1) 0) fun _ => some (decide ((p0.2.1.length : Int) ≤ 30) && (decide ((p0.2.2.length : Int) ≤ 12) && decide ((p1.length : Int) ≤ 12)))
theorem Ln (Y : Nat → Prop) (w0 : World) (v1 : Value) (v2 : Value) (v3 : Value) (p0 : Int × (List (Int × Int × Int × Int × Int × Int)) × (List (Int × Int))) (p1 : List (List Int)) (r : Bool) (H : HU p0 p1 = some r) (h_v1 : Sl w0 (NX []) Ii v1 p0.2.1) (h_v2 : Sl w0 (NX []) Ip v2 p0.2.2) (h_v3 : Sl w0 (NX []) (Rp.slice (Rp.int .i64)) v3 p1) :
    Calls Try.prog 4 #[.agg #[.int .i64 p0.1, v1, v2], v3] w0 fun e w' => e = .returned (.bool r) ∧ Below w0.heap.size w0 w' := by
 refine enter Try.func4 Aa Try.ntmps4 Aa fun a F => ?_
 have W := Stw.start Y w0
 obtain ⟨v4, h1, h_v3⟩ := h_v3.ex Er
 unfold HU at H
 refine Ah (Ac ?_)
 refine EQ (cs := [.int .i64 p0.1, v1, v2]) F W Aa Aa Aa fun b1 a w F W => ?_
 refine ls F W Aa (Af F Aa).q fun a w F W => ?_
 refine Ae (Ab ?_)
 obtain ⟨o1, G1, K1, L1⟩ := JX H
 refine AK (fun a w => some (Sum.inl ()) = some o1 ∧ Fr 33 [] [(1, v3), (2, .pointer (some ⟨b1, 0, none⟩)), (4, .bool false)] a ∧ Stw ⟨Y, [], w0⟩ [(b1, [.int .i64 p0.1, v1, v2])] [] w) ?_ ?_
 ·
  have H := G1
  clear G1 K1
  refine Ah (Ac ?_)
  refine ls F W Aa (Af F Aa).q fun a w F W => ?_
  refine Ae (Ab (As ?_))
  refine Bh H (fun s a w => Fr 33 [] [(1, v3), (2, .pointer (some ⟨b1, 0, none⟩)), (4, .bool false), (5, .int .i64 s)] a ∧ Stw ⟨Y, [], w0⟩ [(b1, [.int .i64 p0.1, v1, v2])] [] w) ⟨F.re ⟨rfl, Aa, Aa, Aa, trivial⟩, W⟩ fun s o a w H L2 hR => ?_
  obtain ⟨x1, rfl⟩ : ∃ x, x = s := ⟨s, rfl⟩
  obtain ⟨F, W⟩ := hR
  have F : Fr 33 [] [(1, v3), (2, .pointer (some ⟨b1, 0, none⟩)), (4, .bool false), (5, .int .i64 x1)] a := F
  have W : Stw ⟨Y, [], w0⟩ [(b1, [.int .i64 p0.1, v1, v2])] [] w := W
  rw [GG] at H
  refine Ah (Ah (Ac ?_))
  iterate 2 refine ls F W Aa (Ad F Aa).q fun a w F W => ?_
  refine ls F W Aa (B1 (r := (Rp.slice (Rp.int .i64))) (l := p1) Kw Aa F Aa (Cb Er h1 (Ap h_v3))).q fun a w F W => ?_
  refine ls F W Aa (BI F Aa Aa).q fun a w F W => ?_
  refine Ae (Ab ?_)
  refine Ay F Aa (fun hb => ?_) fun hb => ?_
  ·
   have H := AP (Bm hb) H
   rw [hb] at F
   clear hb
   refine Aq (Ab (Ah (As (Ah (Ac ?_)))))
   iterate 2 refine ls F W Aa (Ad F Aa).q fun a w F W => ?_
   obtain ⟨x2, h2, H⟩ := Ak H
   obtain ⟨v5, h3, h4⟩ := EK h1 h2
   have h5 : Ir v5 = [(v5.1)] := congrArg (fun q : List Int => ([(v5.1)] : List Value)) h4
   refine ls F W Aa (AC (r := (Rp.vsl (Rp.int .i64))) N8 F Aa Aa (Ap h_v3) h3).q fun a w F W => ?_
   refine ls F W Aa (Ao (y := (v5.1)) (j := 0) (i := x1) (enc := Ir) F Aa Aa (Ap h_v3) h3 MU J7 (by rw [h5]; rfl)).q fun a w F W => ?_
   refine ls F W Aa (B1 (r := (Rp.int .i64)) (l := x2) Hu Aa F Aa (D2 (Ap h_v3) h3 Cu.here (congrArg (fun q : List Int => q) h4))).q fun a w F W => ?_
   refine ls F W Aa (FZ F Aa Aa).q fun a w F W => ?_
   refine Ae (Ab ?_)
   refine Ay F Aa (fun hb => ?_) fun hb => ?_
   ·
    have H := AP (Bm hb) H
    rw [hb] at F
    clear hb
    refine Ah (Ac ?_)
    refine ls F W Aa (Af F Aa).q fun a w F W => ?_
    refine Ae (Ab (AF (A3 ?_)))
    iterate 2 refine AN ?_
    refine A3 (AN ?_)
    have H := L2 _ H
    have H := L1 _ H
    have H := AQ H
    subst H
    refine Bj (.inl Aa) F W Aa (AD F Aa) ?_
    exact ⟨rfl, W.done⟩
   have H := AO (Bn hb) H
   rw [hb] at F
   clear hb
   refine Aq (AM (Ab (Ac ?_)))
   refine ls F W Aa (Ad F Aa).q fun a w F W => ?_
   refine ls F W Aa (Bp F Aa Aa Aa).q fun a w F W => ?_
   refine ls F W Aa (Af F Aa).q fun a w F W => ?_
   refine Ae (Ab ?_)
   exact ⟨_, H, F.re ⟨rfl, Aa, Aa, Aa, trivial⟩, W⟩
  have H := AO (Bn hb) H
  rw [hb] at F
  clear hb
  refine A5 ?_
  iterate 2 refine Bk ?_
  refine A6 (Ab ?_)
  have H := L2 _ H
  exact ⟨H, F.re ⟨rfl, Aa, Aa, trivial⟩, W⟩
 rintro a w ⟨hj, F, W⟩
 have H := K1 _ hj
 clear hj G1 K1 L1
 refine AK (fun a w => Fr 33 [] [(4, .bool (decide ((p0.2.1.length : Int) ≤ 30) && (decide ((p0.2.2.length : Int) ≤ 12) && decide ((p1.length : Int) ≤ 12))))] a ∧ Stw ⟨Y, [], w0⟩ [(b1, [.int .i64 p0.1, v1, v2])] [] w) ?_ ?_
 ·
  refine Ac ?_
  refine ls F W Aa (Am IE Aa Aa Aa Qt F Aa 1 Aa).q fun a w F W => ?_
  refine ls F W Aa (AB (v := v1) 0 F Aa Aa Qt Aa).q fun a w F W => ?_
  refine ls F W Aa (B1 (r := Ii) (l := p0.2.1) O4 Aa F Aa (Ap h_v1)).q fun a w F W => ?_
  refine ls F W Aa (Im F Aa Aa).q fun a w F W => ?_
  refine ls F W Aa (Ad F Aa).q fun a w F W => ?_
  rcases Bool.eq_false_or_eq_true (decide ((p0.2.1.length : Int) ≤ 30)) with hb0 | hb0
  ·
   rw [hb0] at F
   refine AR F W (Ag F Aa Aa Aa Aa) Aa (An Aa) (Am IE Aa Aa Aa Pu F Aa 2 Aa).q fun a w F W => ?_
   refine AR F W (Ag F Aa Aa Aa Aa) Aa (An Aa) (AB (v := v2) 0 F Aa Aa Pu Aa).q fun a w F W => ?_
   refine AR F W (Ag F Aa Aa Aa Aa) Aa (An Aa) (B1 (r := Ip) (l := p0.2.2) Od Aa F Aa (Ap h_v2)).q fun a w F W => ?_
   refine AR F W (Ag F Aa Aa Aa Aa) Aa (An Aa) (Im F Aa Aa).q fun a w F W => ?_
   refine ls F W Aa (Av F Aa Aa Aa).q fun a w F W => ?_
   refine ls F W Aa (Ad F Aa).q fun a w F W => ?_
   rcases Bool.eq_false_or_eq_true (decide ((p0.2.2.length : Int) ≤ 12)) with hb1 | hb1
   ·
    rw [hb1] at F
    refine AR F W (Ag F Aa Aa Aa Aa) Aa (An Aa) (Ad F Aa).q fun a w F W => ?_
    refine AR F W (Ag F Aa Aa Aa Aa) Aa (An Aa) (B1 (r := (Rp.slice (Rp.int .i64))) (l := p1) Kw Aa F Aa (Cb Er h1 (Ap h_v3))).q fun a w F W => ?_
    refine AR F W (Ag F Aa Aa Aa Aa) Aa (An Aa) (Im F Aa Aa).q fun a w F W => ?_
    refine ls F W Aa (Av F Aa Aa Aa).q fun a w F W => ?_
    refine ls F W Aa (Af F Aa).q fun a w F W => ?_
    refine Ae (Ab ?_)
    exact ⟨F.re ⟨(by show some (Value.bool (decide ((p1.length : Int) ≤ 12))) = some (Value.bool (decide ((p0.2.1.length : Int) ≤ 30) && (decide ((p0.2.2.length : Int) ≤ 12) && decide ((p1.length : Int) ≤ 12)))); try rw [hb0]; try rw [hb1]; all_goals simp only [Bool.not_true, Bool.not_false, Bool.true_and, Bool.false_and, Bool.true_or, Bool.false_or, Bool.and_true, Bool.or_false, cond_true, cond_false]), trivial⟩, W⟩
   rw [hb1] at F
   iterate 3 refine C1 F Aa Aa Aa Aa Aa Aa Aa fun a F => ?_
   refine ls F W Aa (Ax F Aa Aa Aa).q fun a w F W => ?_
   refine ls F W Aa (Af F Aa).q fun a w F W => ?_
   refine Ae (Ab ?_)
   exact ⟨F.re ⟨(by show some (Value.bool false) = some (Value.bool (decide ((p0.2.1.length : Int) ≤ 30) && (decide ((p0.2.2.length : Int) ≤ 12) && decide ((p1.length : Int) ≤ 12)))); try rw [hb0]; try rw [hb1]; all_goals simp only [Bool.not_true, Bool.not_false, Bool.true_and, Bool.false_and, Bool.true_or, Bool.false_or, Bool.and_true, Bool.or_false, cond_true, cond_false]), trivial⟩, W⟩
  rw [hb0] at F
  iterate 4 refine C1 F Aa Aa Aa Aa Aa Aa Aa fun a F => ?_
  refine ls F W Aa (Ax F Aa Aa Aa).q fun a w F W => ?_
  refine ls F W Aa (Ad F Aa).q fun a w F W => ?_
  iterate 3 refine C1 F Aa Aa Aa Aa Aa Aa Aa fun a F => ?_
  refine ls F W Aa (Ax F Aa Aa Aa).q fun a w F W => ?_
  refine ls F W Aa (Af F Aa).q fun a w F W => ?_
  refine Ae (Ab ?_)
  exact ⟨F.re ⟨(by show some (Value.bool false) = some (Value.bool (decide ((p0.2.1.length : Int) ≤ 30) && (decide ((p0.2.2.length : Int) ≤ 12) && decide ((p1.length : Int) ≤ 12)))); try rw [hb0]; all_goals simp only [Bool.not_true, Bool.not_false, Bool.true_and, Bool.false_and, Bool.true_or, Bool.false_or, Bool.and_true, Bool.or_false, cond_true, cond_false]), trivial⟩, W⟩
 rintro a w ⟨F, W⟩
 refine AF ?_
 have H := AQ H
 subst H
 refine Bj (.inl Aa) F W Aa (AD F Aa) ?_
 exact ⟨rfl, W.done⟩
end Go.Proofs.Ytghpabmmdenaoaa
