/- The functions of layer 36, ES. Conditions: none. -/
import Derived.Test.YtdllfdmdfdfilaaDoorpA1
namespace Go.Proofs.YtdllfdmdfdfilaaDoor
open Go Go.RowKit
set_option linter.unusedVariables false
set_option linter.unusedSimpArgs false
set_option maxRecDepth 20000
theorem JW : Has Tryd.prog 30 := ⟨fun args w => An Tryd.func30 rfl (by decide) args w⟩
noncomputable def CO (p0 : List UInt8) : Int → Option (Int ⊕ Int)
  | x2 => (if x2 < (p0.length : Int) then (ix p0 x2).bind fun x4 => some (decide ((x4.toNat : Int) ≠ 32)) else some false).bind fun x3 => (if x3 = true then some (.inl (Bn (x2 + 1))) else some (.inr x2))
noncomputable def B1 (p0 : List UInt8) (x1 : Int) : (Int × Int) → Option ((Int × Int) ⊕ Int)
  | (x6, x7) => (if x6 ≤ 7 then ((C2 x6).bind fun x9 => (CM p0 0 x1).bind fun x10 => (if x9 = x10 then some x6 else some x7)).bind fun x8 => some (.inl (Bn (x6 + 1), x8)) else some (.inr x7))
noncomputable def Cp (p0 : List UInt8) : Option ((Int × Int × Int × Int) × Bool) := (AP (CO p0) 0).bind fun x1 => (AP (B1 p0 x1) (1, 0)).bind fun x5 => (Bm p0 (Bn (x1 + 1))).bind fun x11 => (Bm p0 (Bn (x11.2 + 1))).bind fun x12 => (Bm p0 (Bn (x12.2 + 1))).bind fun x13 => (if 0 < x5 then (CZ (x5, x11.1, x12.1, x13.1)).bind fun x15 => (if x15 = p0 then (if x11.1 ≤ 1125899906842624 then (if x12.1 ≤ 1125899906842624 then some (decide (x13.1 ≤ 1125899906842624)) else some false) else some false) else some false) else some false).bind fun x14 => some ((x5, x11.1, x12.1, x13.1), x14)
theorem GC (Y : Nat → Prop) (w0 : World)  (p0 : List UInt8) (r : (Int × Int × Int × Int) × Bool) (H : Cp p0 = some r)  :
    Calls Tryd.prog 26 #[.string (bs p0)] w0 fun e w' => e = .returned (.tuple #[.agg #[.int .i64 r.1.1, .int .i64 r.1.2.1, .int .i64 r.1.2.2.1, .int .i64 r.1.2.2.2], .bool r.2]) ∧ Below w0.heap.size w0 w' := by
 refine enter Tryd.func26 Aa Tryd.ntmps26 Aa fun a F => ?_
 have W := Stw.start Y w0
 unfold Cp at H
 refine Ai (Ac ?_)
 refine Bp (cs := [.int .i64 0, .int .i64 0, .int .i64 0, .int .i64 0]) F W Aa Jz Aa fun b1 a w F W => ?_
 refine ls F W Aa (Ad F Aa).q fun a w F W => ?_
 refine Ae (Ab (Ai (Ac ?_)))
 refine ls F W Aa (Ad F Aa).q fun a w F W => ?_
 refine Ae (Ab ?_)
 obtain ⟨o1, G1, K1⟩ := Ap H
 refine AL (fun a w => ∃ x1 : Int, some (x1) = some o1 ∧ Fr 85 [] [(0, .string (bs p0)), (2, .pointer (some ⟨b1, 0, none⟩)), (3, .bool false), (4, .int .i64 x1)] a ∧ Stw ⟨Y, [], w0⟩ [(b1, [.int .i64 0, .int .i64 0, .int .i64 0, .int .i64 0])] [] w) ?_ ?_
 ·
  have H := G1
  clear G1 K1
  refine AC ?_
  refine Bz H (fun s a w => Fr 85 [] [(0, .string (bs p0)), (2, .pointer (some ⟨b1, 0, none⟩)), (3, .bool false), (4, .int .i64 s)] a ∧ Stw ⟨Y, [], w0⟩ [(b1, [.int .i64 0, .int .i64 0, .int .i64 0, .int .i64 0])] [] w) ⟨F.re ⟨rfl, Aa, Aa, Aa, trivial⟩, W⟩ fun s o a w H L2 hR => ?_
  obtain ⟨x2, rfl⟩ : ∃ x, x = s := ⟨s, rfl⟩
  obtain ⟨F, W⟩ := hR
  have F : Fr 85 [] [(0, .string (bs p0)), (2, .pointer (some ⟨b1, 0, none⟩)), (3, .bool false), (4, .int .i64 x2)] a := F
  have W : Stw ⟨Y, [], w0⟩ [(b1, [.int .i64 0, .int .i64 0, .int .i64 0, .int .i64 0])] [] w := W
  rw [CO] at H
  refine Ai ?_
  obtain ⟨o3, G3, K3⟩ := Ap H
  refine AL (fun a w => ∃ x3 : Bool, some (x3) = some o3 ∧ Fr 85 [] [(0, .string (bs p0)), (2, .pointer (some ⟨b1, 0, none⟩)), (3, .bool false), (4, .int .i64 x2), (17, .bool x3)] a ∧ Stw ⟨Y, [], w0⟩ [(b1, [.int .i64 0, .int .i64 0, .int .i64 0, .int .i64 0])] [] w) ?_ ?_
  ·
   have H := G3
   clear G3 K3
   refine Ac ?_
   iterate 2 refine ls F W Aa (Af F Aa).q fun a w F W => ?_
   refine ls F W Aa (Eb (l := p0) Gw Aa F Aa).q fun a w F W => ?_
   refine ls F W Aa (BR F Aa Aa).q fun a w F W => ?_
   refine ls F W Aa (Af F Aa).q fun a w F W => ?_
   rcases Bool.eq_false_or_eq_true (decide (x2 < (p0.length : Int))) with hb | hb
   ·
    have H := AN (A1 hb) H
    rw [hb] at F
    clear hb
    iterate 2 refine Av F W (Ag F Aa Aa Aa Aa) Aa (Ao Aa) (Af F Aa).q fun a w F W => ?_
    obtain ⟨x4, h1, H⟩ := Ap H
    refine Av F W (Ag F Aa Aa Aa Aa) Aa (Ao Aa) (Dv (l := p0) Gw F Aa Aa h1).q fun a w F W => ?_
    refine Av F W (Ag F Aa Aa Aa Aa) Aa (Ao Aa) (DE F Aa Aa).q fun a w F W => ?_
    refine ls F W Aa (Am F Aa Aa Aa).q fun a w F W => ?_
    refine Ae (Ab ?_)
    exact ⟨_, H, F.re ⟨rfl, Aa, Aa, Aa, Aa, trivial⟩, W⟩
   have H := AO (A0 hb) H
   rw [hb] at F
   clear hb
   iterate 4 refine Bg F Aa Aa Aa Aa Aa Aa Aa fun a F => ?_
   refine ls F W Aa (Ak F Aa Aa Aa).q fun a w F W => ?_
   refine Ae (Ab ?_)
   exact ⟨_, H, F.re ⟨rfl, Aa, Aa, Aa, Aa, trivial⟩, W⟩
  rintro a w ⟨x3, hj, F, W⟩
  have hj := AR hj
  subst hj
  have H := K3
  clear G3 K3
  refine Ax F Aa (fun hb => ?_) fun hb => ?_
  ·
   have H := AN hb H
   rw [hb] at F
   clear hb
   refine AE (Ab (AC (Ac ?_)))
   refine ls F W Aa (Af F Aa).q fun a w F W => ?_
   refine ls F W Aa (Bo F Aa Aa Aa).q fun a w F W => ?_
   refine ls F W Aa (Ad F Aa).q fun a w F W => ?_
   refine Ae (AQ (Ab ?_))
   exact ⟨_, H, F.re ⟨rfl, Aa, Aa, Aa, trivial⟩, W⟩
  have H := AO (by rw [hb]; decide) H
  rw [hb] at F
  clear hb
  refine BA ?_
  iterate 2 refine B0 ?_
  refine BB (Ab ?_)
  have H := L2 _ H
  exact ⟨_, H, F.re ⟨rfl, Aa, Aa, Aa, trivial⟩, W⟩
 rintro a w ⟨x1, hj, F, W⟩
 have hj := AR hj
 subst hj
 have H := K1
 clear G1 K1
 refine Ai (Ac ?_)
 refine ls F W Aa (Bx (v := Value.agg #[.int .i64 0, .int .i64 0, .int .i64 0, .int .i64 0]) Kj F Aa Aa Aa).q fun a w F W => ?_
 refine Bp (cs := [.int .i64 0, .int .i64 0, .int .i64 0, .int .i64 0]) F W Aa Jz Aa fun b2 a w F W => ?_
 refine AG (vs := [.int .i64 0, .int .i64 0, .int .i64 0, .int .i64 0]) (M' := [(b2, [.int .i64 0, .int .i64 0, .int .i64 0, .int .i64 0]), (b1, [.int .i64 0, .int .i64 0, .int .i64 0, .int .i64 0])]) 0 F W Aa Aa Aa GU Aa Aa Aa Aa Aa fun w W => ?_
 refine Ae (Ab ?_)
 obtain ⟨o4, G4, K4⟩ := Ap H
 refine AL (fun a w => ∃ x5 : Int, some (x5) = some o4 ∧ Fr 85 [] [(0, .string (bs p0)), (2, .pointer (some ⟨b1, 0, none⟩)), (3, .bool false), (4, .int .i64 x1), (5, .pointer (some ⟨b2, 0, none⟩))] a ∧ Stw ⟨Y, [], w0⟩ [(b2, [.int .i64 x5, .int .i64 0, .int .i64 0, .int .i64 0]), (b1, [.int .i64 0, .int .i64 0, .int .i64 0, .int .i64 0])] [] w) ?_ ?_
 ·
  have H := G4
  clear G4 K4
  refine Ai (Ac ?_)
  refine ls F W Aa (Ad F Aa).q fun a w F W => ?_
  refine Ae (Ab (AC ?_))
  have W := W.frontM (i := 1) Aa Aa
  have W := W.frontM (i := 1) Aa Aa
  refine Bz H (fun s a w => Fr 85 [] [(0, .string (bs p0)), (2, .pointer (some ⟨b1, 0, none⟩)), (3, .bool false), (4, .int .i64 x1), (5, .pointer (some ⟨b2, 0, none⟩)), (6, .int .i64 s.1)] a ∧ Stw ⟨Y, [], w0⟩ [(b2, [.int .i64 s.2, .int .i64 0, .int .i64 0, .int .i64 0]), (b1, [.int .i64 0, .int .i64 0, .int .i64 0, .int .i64 0])] [] w) ⟨F.re ⟨rfl, Aa, Aa, Aa, Aa, Aa, trivial⟩, W⟩ fun s o a w H L5 hR => ?_
  obtain ⟨x6, x7⟩ := s
  obtain ⟨F, W⟩ := hR
  have F : Fr 85 [] [(0, .string (bs p0)), (2, .pointer (some ⟨b1, 0, none⟩)), (3, .bool false), (4, .int .i64 x1), (5, .pointer (some ⟨b2, 0, none⟩)), (6, .int .i64 x6)] a := F
  have W : Stw ⟨Y, [], w0⟩ [(b2, [.int .i64 x7, .int .i64 0, .int .i64 0, .int .i64 0]), (b1, [.int .i64 0, .int .i64 0, .int .i64 0, .int .i64 0])] [] w := W
  rw [B1] at H
  refine Ai (Ai (Ac ?_))
  refine ls F W Aa (Af F Aa).q fun a w F W => ?_
  refine ls F W Aa (Ep F Aa Aa).q fun a w F W => ?_
  refine Ae (Ab ?_)
  refine Ax F Aa (fun hb => ?_) fun hb => ?_
  ·
   have H := AN (A1 hb) H
   rw [hb] at F
   clear hb
   refine AE (Ab ?_)
   obtain ⟨o6, G6, K6⟩ := Ap H
   refine AL (fun a w => ∃ x8 : Int, some (x8) = some o6 ∧ Fr 85 [] [(0, .string (bs p0)), (2, .pointer (some ⟨b1, 0, none⟩)), (3, .bool false), (4, .int .i64 x1), (5, .pointer (some ⟨b2, 0, none⟩)), (6, .int .i64 x6)] a ∧ Stw ⟨Y, [], w0⟩ [(b2, [.int .i64 x8, .int .i64 0, .int .i64 0, .int .i64 0]), (b1, [.int .i64 0, .int .i64 0, .int .i64 0, .int .i64 0])] [] w) ?_ ?_
   ·
    have H := G6
    clear G6 K6
    refine AC (Ai ?_)
    refine C1 W MO (by kernel_rfl) ?_
    refine qs F Aa (Af F Aa).q fun a F => ?_
    obtain ⟨x9, h2, H⟩ := Ap H
    refine qs F Aa (AK (v := Value.string (bs x9)) F JX Aa (fun w W => EZ any w x6 _ h2)) fun a F => ?_
    iterate 2 refine qs F Aa (Af F Aa).q fun a F => ?_
    obtain ⟨x10, h3, H⟩ := Ap H
    refine qs F Aa (D2 (l := p0) Gw F Aa Aa Aa h3).q fun a F => ?_
    refine qs F Aa (Gc (l := x9) (m := x10) F Aa Aa).q fun a F => ?_
    refine Cv fun w W => ?_
    refine Ab ?_
    refine Ax F Aa (fun hb => ?_) fun hb => ?_
    ·
     have H := AN (A1 hb) H
     rw [hb] at F
     clear hb
     refine Ac ?_
     refine ls F W Aa (Af F Aa).q fun a w F W => ?_
     refine ls F W Aa (Ah Cs Aa Aa Aa T3 F Aa 0 Aa).q fun a w F W => ?_
     refine AG (vs := [.int .i64 x6]) (M' := [(b2, [.int .i64 x6, .int .i64 0, .int .i64 0, .int .i64 0]), (b1, [.int .i64 0, .int .i64 0, .int .i64 0, .int .i64 0])]) 0 F W Aa Aa Aa T3 Aa Aa Aa Aa Aa fun w W => ?_
     refine Ae (AQ (Ab ?_))
     have W := W.frontM (i := 1) Aa Aa
     have W := W.frontM (i := 1) Aa Aa
     exact ⟨_, H, F.re ⟨rfl, Aa, Aa, Aa, Aa, Aa, trivial⟩, W⟩
    have H := AO (A0 hb) H
    rw [hb] at F
    clear hb
    refine AE (AQ (Ab ?_))
    have W := W.frontM (i := 1) Aa Aa
    have W := W.frontM (i := 1) Aa Aa
    exact ⟨_, H, F.re ⟨rfl, Aa, Aa, Aa, Aa, Aa, trivial⟩, W⟩
   rintro a w ⟨x8, hj, F, W⟩
   have hj := AR hj
   subst hj
   have H := K6
   clear G6 K6
   refine Ac ?_
   refine ls F W Aa (Af F Aa).q fun a w F W => ?_
   refine ls F W Aa (Bo F Aa Aa Aa).q fun a w F W => ?_
   refine ls F W Aa (Ad F Aa).q fun a w F W => ?_
   refine Ae (Ab ?_)
   have W := W.frontM (i := 1) Aa Aa
   have W := W.frontM (i := 1) Aa Aa
   exact ⟨_, H, F.re ⟨rfl, Aa, Aa, Aa, Aa, Aa, trivial⟩, W⟩
  have H := AO (A0 hb) H
  rw [hb] at F
  clear hb
  refine BA ?_
  iterate 2 refine B0 ?_
  refine BB (Ab ?_)
  have W := W.frontM (i := 1) Aa Aa
  have W := W.frontM (i := 1) Aa Aa
  have H := L5 _ H
  exact ⟨_, H, F.re ⟨rfl, Aa, Aa, Aa, Aa, trivial⟩, W⟩
 rintro a w ⟨x5, hj, F, W⟩
 have hj := AR hj
 subst hj
 have H := K4
 clear G4 K4
 refine Ai (Ac ?_)
 iterate 2 refine ls F W Aa (Af F Aa).q fun a w F W => ?_
 refine ls F W Aa (Bo F Aa Aa Aa).q fun a w F W => ?_
 obtain ⟨x11, h4, H⟩ := Ap H
 refine ls F W Aa (AK (v := Value.tuple #[.int .i64 x11.1, .int .i64 x11.2]) F JH Aa (fun w W => C9 any w p0 (Bn (x1 + 1)) _ h4)) fun a w F W => ?_
 refine ls F W Aa (Af F Aa).q fun a w F W => ?_
 refine ls F W Aa (Ay (v := Value.int .i64 x11.1) F Aa Aa).q fun a w F W => ?_
 refine ls F W Aa (Ay (v := Value.int .i64 x11.2) F Aa Aa).q fun a w F W => ?_
 refine ls F W Aa (Ah Cs Aa Aa Aa T3 F Aa 1 Aa).q fun a w F W => ?_
 refine AG (vs := [.int .i64 x11.1]) (M' := [(b2, [.int .i64 x5, .int .i64 x11.1, .int .i64 0, .int .i64 0]), (b1, [.int .i64 0, .int .i64 0, .int .i64 0, .int .i64 0])]) 0 F W Aa Aa Aa T3 Aa Aa Aa Aa Aa fun w W => ?_
 refine ls F W Aa (Ad F Aa).q fun a w F W => ?_
 refine Ae (Ab (Ai (Ac ?_)))
 iterate 2 refine ls F W Aa (Af F Aa).q fun a w F W => ?_
 refine ls F W Aa (Bo F Aa Aa Aa).q fun a w F W => ?_
 obtain ⟨x12, h5, H⟩ := Ap H
 refine ls F W Aa (AK (v := Value.tuple #[.int .i64 x12.1, .int .i64 x12.2]) F JH Aa (fun w W => C9 any w p0 (Bn (x11.2 + 1)) _ h5)) fun a w F W => ?_
 refine ls F W Aa (Af F Aa).q fun a w F W => ?_
 refine ls F W Aa (Ay (v := Value.int .i64 x12.1) F Aa Aa).q fun a w F W => ?_
 refine ls F W Aa (Ay (v := Value.int .i64 x12.2) F Aa Aa).q fun a w F W => ?_
 refine ls F W Aa (Ah Cs Aa Aa Aa T3 F Aa 2 Aa).q fun a w F W => ?_
 refine AG (vs := [.int .i64 x12.1]) (M' := [(b2, [.int .i64 x5, .int .i64 x11.1, .int .i64 x12.1, .int .i64 0]), (b1, [.int .i64 0, .int .i64 0, .int .i64 0, .int .i64 0])]) 0 F W Aa Aa Aa T3 Aa Aa Aa Aa Aa fun w W => ?_
 refine ls F W Aa (Ad F Aa).q fun a w F W => ?_
 refine Ae (Ab (Ai (Ac ?_)))
 iterate 2 refine ls F W Aa (Af F Aa).q fun a w F W => ?_
 refine ls F W Aa (Bo F Aa Aa Aa).q fun a w F W => ?_
 obtain ⟨x13, h6, H⟩ := Ap H
 refine ls F W Aa (AK (v := Value.tuple #[.int .i64 x13.1, .int .i64 x13.2]) F JH Aa (fun w W => C9 any w p0 (Bn (x12.2 + 1)) _ h6)) fun a w F W => ?_
 refine ls F W Aa (Af F Aa).q fun a w F W => ?_
 refine ls F W Aa (Ay (v := Value.int .i64 x13.1) F Aa Aa).q fun a w F W => ?_
 refine ls F W Aa (Ay (v := Value.int .i64 x13.2) F Aa Aa).q fun a w F W => ?_
 refine ls F W Aa (Ah Cs Aa Aa Aa T3 F Aa 3 Aa).q fun a w F W => ?_
 refine AG (vs := [.int .i64 x13.1]) (M' := [(b2, [.int .i64 x5, .int .i64 x11.1, .int .i64 x12.1, .int .i64 x13.1]), (b1, [.int .i64 0, .int .i64 0, .int .i64 0, .int .i64 0])]) 0 F W Aa Aa Aa T3 Aa Aa Aa Aa Aa fun w W => ?_
 refine ls F W Aa (Ad F Aa).q fun a w F W => ?_
 refine Ae (Ab (Ai (Ac ?_)))
 refine ls F W Aa (Ad F Aa).q fun a w F W => ?_
 refine Ae (Ab ?_)
 obtain ⟨o7, G7, K7⟩ := Ap H
 refine AL (fun a w => ∃ x14 : Bool, some (x14) = some o7 ∧ Fr 85 [] [(2, .pointer (some ⟨b1, 0, none⟩)), (3, .bool x14)] a ∧ Stw ⟨Y, [], w0⟩ [(b2, [.int .i64 x5, .int .i64 x11.1, .int .i64 x12.1, .int .i64 x13.1]), (b1, [.int .i64 x5, .int .i64 x11.1, .int .i64 x12.1, .int .i64 x13.1])] [] w) ?_ ?_
 ·
  have H := G7
  clear G7 K7
  refine FX [(true, 0), (true, 1), (true, 2), (true, 3), (true, 4), (true, 5), (true, 7), (false, 6), (true, 8), (true, 9), (true, 10), (true, 11), (true, 12), (true, 13), (true, 14), (true, 15), (true, 16), (true, 17), (true, 18), (true, 19), (true, 20), (true, 21), (true, 22), (true, 23), (true, 24), (true, 25), (true, 26), (true, 27), (false, 28), (false, 29)] (CN ⟨Y, [], w0⟩ [(some 28, b2, [.int .i64 x5, .int .i64 x11.1, .int .i64 x12.1, .int .i64 x13.1]), (some 6, b2, [.int .i64 x5, .int .i64 x11.1, .int .i64 x12.1, .int .i64 x13.1])] []) (fun ch a d v w h => by cases d <;> exact h) MO (by kernel_rfl) W (fun w W => ⟨_, _, W, (Au (fun _ => (.head _)) (Au (fun _ => (.head _)) AF)), AF⟩) fun w W => ?_
  refine BJ (R := [28]) F Aa Aa (yC fun M Z hN hZ => Ca (cs := [.int .i64 x5, .int .i64 x11.1, .int .i64 x12.1, .int .i64 x13.1]) (v := Value.agg #[.int .i64 x5, .int .i64 x11.1, .int .i64 x12.1, .int .i64 x13.1]) F Aa (hN ((some 28), b2, [.int .i64 x5, .int .i64 x11.1, .int .i64 x12.1, .int .i64 x13.1]) (.head _) Aa) GU Aa) (by kernel_rfl) Aa fun a F => ?_
  refine BJ (R := []) F Aa Aa (yC fun M Z hN hZ => Ah Cs Aa Aa Aa T3 F Aa 0 Aa) Aa Aa fun a F => ?_
  refine BJ (R := [6, 4, 3]) F Aa Aa (yC fun M Z hN hZ => Ca (cs := [.int .i64 x5, .int .i64 x11.1, .int .i64 x12.1, .int .i64 x13.1]) (v := Value.int .i64 x5) F Aa (hN ((some 6), b2, [.int .i64 x5, .int .i64 x11.1, .int .i64 x12.1, .int .i64 x13.1]) (.tail _ (.head _)) Aa) T3 Aa) (by kernel_rfl) Aa fun a F => ?_
  refine BJ (R := []) F Aa Aa (yC fun M Z hN hZ => DF F Aa Aa) Aa Aa fun a F => ?_
  refine BJ (R := []) F Aa Aa (yC fun M Z hN hZ => Af F Aa) Aa Aa fun a F => ?_
  rcases Bool.eq_false_or_eq_true (decide (0 < x5)) with hb | hb
  ·
   have H := AN (A1 hb) H
   rw [hb] at F
   clear hb
   refine De (R := [6]) F Aa (Ag F Aa Aa Aa Aa) Aa Aa (yC fun M Z hN hZ => Ca (cs := [.int .i64 x5, .int .i64 x11.1, .int .i64 x12.1, .int .i64 x13.1]) (v := Value.agg #[.int .i64 x5, .int .i64 x11.1, .int .i64 x12.1, .int .i64 x13.1]) F Aa (hN ((some 6), b2, [.int .i64 x5, .int .i64 x11.1, .int .i64 x12.1, .int .i64 x13.1]) (.tail _ (.head _)) Aa) GU Aa) (by kernel_rfl) Aa fun a F => ?_
   refine De (R := []) F Aa (Ag F Aa Aa Aa Aa) Aa Aa (yC fun M Z hN hZ => Af F Aa) Aa Aa fun a F => ?_
   refine Dg Aa ?_
   refine Ed (Ag F Aa Aa Aa Aa) ?_
   obtain ⟨x15, h7, H⟩ := Ap H
   refine ls F W Aa (AK (v := Value.string (bs x15)) F JW Aa (fun w W => E9 any w (x5, x11.1, x12.1, x13.1) _ h7)) fun a w F W => ?_
   refine Bf (N2 := [(some 29, b2, [.int .i64 x5, .int .i64 x11.1, .int .i64 x12.1, .int .i64 x13.1])]) (NZ2 := []) (N3 := [(some 28, b2, [.int .i64 x5, .int .i64 x11.1, .int .i64 x12.1, .int .i64 x13.1]), (some 6, b2, [.int .i64 x5, .int .i64 x11.1, .int .i64 x12.1, .int .i64 x13.1]), (some 29, b2, [.int .i64 x5, .int .i64 x11.1, .int .i64 x12.1, .int .i64 x13.1])]) (NZ3 := []) W Aa Aa (Au (fun _ => (.head _)) (Au (fun h => Az (by kernel_rfl) h) (Au (fun _ => (.head _)) AF))) AF ?_
   refine De (R := []) F Aa (Ag F Aa Aa Aa Aa) Aa Aa (yC fun M Z hN hZ => Gc (l := x15) (m := p0) F Aa Aa) Aa Aa fun a F => ?_
   refine BJ (R := []) F Aa Aa (yC fun M Z hN hZ => Am F Aa Aa Aa) Aa Aa fun a F => ?_
   refine BJ (R := []) F Aa Aa (yC fun M Z hN hZ => Af F Aa) Aa Aa fun a F => ?_
   rcases Bool.eq_false_or_eq_true (decide (x15 = p0)) with hb | hb
   ·
    have H := AN (A1 hb) H
    rw [hb] at F
    clear hb
    refine De (R := []) F Aa (Ag F Aa Aa Aa Aa) Aa Aa (yC fun M Z hN hZ => Ah Cs Aa Aa Aa T3 F Aa 1 Aa) Aa Aa fun a F => ?_
    refine De (R := [28, 22, 16, 15, 14]) F Aa (Ag F Aa Aa Aa Aa) Aa Aa (yC fun M Z hN hZ => Ca (cs := [.int .i64 x5, .int .i64 x11.1, .int .i64 x12.1, .int .i64 x13.1]) (v := Value.int .i64 x11.1) F Aa (hN ((some 28), b2, [.int .i64 x5, .int .i64 x11.1, .int .i64 x12.1, .int .i64 x13.1]) (.head _) Aa) T3 Aa) (by kernel_rfl) Aa fun a F => ?_
    refine De (R := []) F Aa (Ag F Aa Aa Aa Aa) Aa Aa (yC fun M Z hN hZ => Af F Aa) Aa Aa fun a F => ?_
    refine De (R := []) F Aa (Ag F Aa Aa Aa Aa) Aa Aa (yC fun M Z hN hZ => Ep F Aa Aa) Aa Aa fun a F => ?_
    refine BJ (R := []) F Aa Aa (yC fun M Z hN hZ => Am F Aa Aa Aa) Aa Aa fun a F => ?_
    refine BJ (R := []) F Aa Aa (yC fun M Z hN hZ => Af F Aa) Aa Aa fun a F => ?_
    rcases Bool.eq_false_or_eq_true (decide (x11.1 ≤ 1125899906842624)) with hb | hb
    ·
     have H := AN (A1 hb) H
     rw [hb] at F
     clear hb
     refine De (R := []) F Aa (Ag F Aa Aa Aa Aa) Aa Aa (yC fun M Z hN hZ => Ah Cs Aa Aa Aa T3 F Aa 2 Aa) Aa Aa fun a F => ?_
     refine De (R := [28, 22, 21, 20]) F Aa (Ag F Aa Aa Aa Aa) Aa Aa (yC fun M Z hN hZ => Ca (cs := [.int .i64 x5, .int .i64 x11.1, .int .i64 x12.1, .int .i64 x13.1]) (v := Value.int .i64 x12.1) F Aa (hN ((some 28), b2, [.int .i64 x5, .int .i64 x11.1, .int .i64 x12.1, .int .i64 x13.1]) (.head _) Aa) T3 Aa) (by kernel_rfl) Aa fun a F => ?_
     refine De (R := []) F Aa (Ag F Aa Aa Aa Aa) Aa Aa (yC fun M Z hN hZ => Af F Aa) Aa Aa fun a F => ?_
     refine De (R := []) F Aa (Ag F Aa Aa Aa Aa) Aa Aa (yC fun M Z hN hZ => Ep F Aa Aa) Aa Aa fun a F => ?_
     refine BJ (R := []) F Aa Aa (yC fun M Z hN hZ => Am F Aa Aa Aa) Aa Aa fun a F => ?_
     refine BJ (R := []) F Aa Aa (yC fun M Z hN hZ => Af F Aa) Aa Aa fun a F => ?_
     rcases Bool.eq_false_or_eq_true (decide (x12.1 ≤ 1125899906842624)) with hb | hb
     ·
      have H := AN (A1 hb) H
      rw [hb] at F
      clear hb
      refine De (R := []) F Aa (Ag F Aa Aa Aa Aa) Aa Aa (yC fun M Z hN hZ => Ah Cs Aa Aa Aa T3 F Aa 3 Aa) Aa Aa fun a F => ?_
      refine De (R := [29]) F Aa (Ag F Aa Aa Aa Aa) Aa Aa (yC fun M Z hN hZ => Ca (cs := [.int .i64 x5, .int .i64 x11.1, .int .i64 x12.1, .int .i64 x13.1]) (v := Value.int .i64 x13.1) F Aa (hN ((some 29), b2, [.int .i64 x5, .int .i64 x11.1, .int .i64 x12.1, .int .i64 x13.1]) (.tail _ (.tail _ (.head _))) Aa) T3 Aa) (by kernel_rfl) Aa fun a F => ?_
      refine De (R := []) F Aa (Ag F Aa Aa Aa Aa) Aa Aa (yC fun M Z hN hZ => Af F Aa) Aa Aa fun a F => ?_
      refine De (R := []) F Aa (Ag F Aa Aa Aa Aa) Aa Aa (yC fun M Z hN hZ => Ep F Aa Aa) Aa Aa fun a F => ?_
      refine BJ (R := []) F Aa Aa (yC fun M Z hN hZ => Am F Aa Aa Aa) Aa Aa fun a F => ?_
      refine Dg Aa ?_
      refine AG (vs := [.int .i64 x5, .int .i64 x11.1, .int .i64 x12.1, .int .i64 x13.1]) (M' := [(b2, [.int .i64 x5, .int .i64 x11.1, .int .i64 x12.1, .int .i64 x13.1]), (b1, [.int .i64 x5, .int .i64 x11.1, .int .i64 x12.1, .int .i64 x13.1])]) 1 F W Aa Aa Aa GU Aa Aa Aa Aa Aa fun w W => ?_
      refine Bf (N2 := []) (NZ2 := []) (N3 := [(some 28, b2, [.int .i64 x5, .int .i64 x11.1, .int .i64 x12.1, .int .i64 x13.1]), (some 6, b2, [.int .i64 x5, .int .i64 x11.1, .int .i64 x12.1, .int .i64 x13.1]), (some 29, b2, [.int .i64 x5, .int .i64 x11.1, .int .i64 x12.1, .int .i64 x13.1])]) (NZ3 := []) W Aa Aa (Au (fun h => Az (by kernel_rfl) h) (Au (fun h => Az (by kernel_rfl) h) (Au (fun _ => (.head _)) AF))) AF ?_
      refine Dg Aa ?_
      refine ls F W Aa (Ad F Aa).q fun a w F W => ?_
      refine Bf (N2 := []) (NZ2 := []) (N3 := [(some 28, b2, [.int .i64 x5, .int .i64 x11.1, .int .i64 x12.1, .int .i64 x13.1]), (some 6, b2, [.int .i64 x5, .int .i64 x11.1, .int .i64 x12.1, .int .i64 x13.1]), (some 29, b2, [.int .i64 x5, .int .i64 x11.1, .int .i64 x12.1, .int .i64 x13.1])]) (NZ3 := []) W Aa Aa (Au (fun h => Az (by kernel_rfl) h) (Au (fun h => Az (by kernel_rfl) h) (Au (fun h => Az (by kernel_rfl) h) AF))) AF ?_
      refine DH (Ab ?_)
      have W := W.frontM (i := 1) Aa Aa
      have W := W.frontM (i := 1) Aa Aa
      exact ⟨_, H, F.re ⟨rfl, Aa, trivial⟩, W⟩
     have H := AO (A0 hb) H
     rw [hb] at F
     clear hb
     iterate 4 refine BN F Aa (Bh F Aa Aa Aa Aa Aa) Aa Aa Aa fun a F => ?_
     refine BJ (R := []) F Aa Aa (yC fun M Z hN hZ => Ak F Aa Aa Aa) Aa Aa fun a F => ?_
     refine Dg Aa ?_
     refine AG (vs := [.int .i64 x5, .int .i64 x11.1, .int .i64 x12.1, .int .i64 x13.1]) (M' := [(b2, [.int .i64 x5, .int .i64 x11.1, .int .i64 x12.1, .int .i64 x13.1]), (b1, [.int .i64 x5, .int .i64 x11.1, .int .i64 x12.1, .int .i64 x13.1])]) 1 F W Aa Aa Aa GU Aa Aa Aa Aa Aa fun w W => ?_
     refine Bf (N2 := []) (NZ2 := []) (N3 := [(some 28, b2, [.int .i64 x5, .int .i64 x11.1, .int .i64 x12.1, .int .i64 x13.1]), (some 6, b2, [.int .i64 x5, .int .i64 x11.1, .int .i64 x12.1, .int .i64 x13.1]), (some 29, b2, [.int .i64 x5, .int .i64 x11.1, .int .i64 x12.1, .int .i64 x13.1])]) (NZ3 := []) W Aa Aa (Au (fun h => Az (by kernel_rfl) h) (Au (fun h => Az (by kernel_rfl) h) (Au (fun _ => (.head _)) AF))) AF ?_
     refine Dg Aa ?_
     refine ls F W Aa (Ad F Aa).q fun a w F W => ?_
     refine Bf (N2 := []) (NZ2 := []) (N3 := [(some 28, b2, [.int .i64 x5, .int .i64 x11.1, .int .i64 x12.1, .int .i64 x13.1]), (some 6, b2, [.int .i64 x5, .int .i64 x11.1, .int .i64 x12.1, .int .i64 x13.1]), (some 29, b2, [.int .i64 x5, .int .i64 x11.1, .int .i64 x12.1, .int .i64 x13.1])]) (NZ3 := []) W Aa Aa (Au (fun h => Az (by kernel_rfl) h) (Au (fun h => Az (by kernel_rfl) h) (Au (fun h => Az (by kernel_rfl) h) AF))) AF ?_
     refine DH (Ab ?_)
     have W := W.frontM (i := 1) Aa Aa
     have W := W.frontM (i := 1) Aa Aa
     exact ⟨_, H, F.re ⟨rfl, Aa, trivial⟩, W⟩
    have H := AO (A0 hb) H
    rw [hb] at F
    clear hb
    iterate 4 refine BN F Aa (Bh F Aa Aa Aa Aa Aa) Aa Aa Aa fun a F => ?_
    refine BJ (R := []) F Aa Aa (yC fun M Z hN hZ => Ak F Aa Aa Aa) Aa Aa fun a F => ?_
    refine BJ (R := []) F Aa Aa (yC fun M Z hN hZ => Af F Aa) Aa Aa fun a F => ?_
    iterate 4 refine BN F Aa (Bh F Aa Aa Aa Aa Aa) Aa Aa Aa fun a F => ?_
    refine BJ (R := []) F Aa Aa (yC fun M Z hN hZ => Ak F Aa Aa Aa) Aa Aa fun a F => ?_
    refine Dg Aa ?_
    refine AG (vs := [.int .i64 x5, .int .i64 x11.1, .int .i64 x12.1, .int .i64 x13.1]) (M' := [(b2, [.int .i64 x5, .int .i64 x11.1, .int .i64 x12.1, .int .i64 x13.1]), (b1, [.int .i64 x5, .int .i64 x11.1, .int .i64 x12.1, .int .i64 x13.1])]) 1 F W Aa Aa Aa GU Aa Aa Aa Aa Aa fun w W => ?_
    refine Bf (N2 := []) (NZ2 := []) (N3 := [(some 28, b2, [.int .i64 x5, .int .i64 x11.1, .int .i64 x12.1, .int .i64 x13.1]), (some 6, b2, [.int .i64 x5, .int .i64 x11.1, .int .i64 x12.1, .int .i64 x13.1]), (some 29, b2, [.int .i64 x5, .int .i64 x11.1, .int .i64 x12.1, .int .i64 x13.1])]) (NZ3 := []) W Aa Aa (Au (fun h => Az (by kernel_rfl) h) (Au (fun h => Az (by kernel_rfl) h) (Au (fun _ => (.head _)) AF))) AF ?_
    refine Dg Aa ?_
    refine ls F W Aa (Ad F Aa).q fun a w F W => ?_
    refine Bf (N2 := []) (NZ2 := []) (N3 := [(some 28, b2, [.int .i64 x5, .int .i64 x11.1, .int .i64 x12.1, .int .i64 x13.1]), (some 6, b2, [.int .i64 x5, .int .i64 x11.1, .int .i64 x12.1, .int .i64 x13.1]), (some 29, b2, [.int .i64 x5, .int .i64 x11.1, .int .i64 x12.1, .int .i64 x13.1])]) (NZ3 := []) W Aa Aa (Au (fun h => Az (by kernel_rfl) h) (Au (fun h => Az (by kernel_rfl) h) (Au (fun h => Az (by kernel_rfl) h) AF))) AF ?_
    refine DH (Ab ?_)
    have W := W.frontM (i := 1) Aa Aa
    have W := W.frontM (i := 1) Aa Aa
    exact ⟨_, H, F.re ⟨rfl, Aa, trivial⟩, W⟩
   have H := AO (A0 hb) H
   rw [hb] at F
   clear hb
   iterate 4 refine BN F Aa (Bh F Aa Aa Aa Aa Aa) Aa Aa Aa fun a F => ?_
   refine BJ (R := []) F Aa Aa (yC fun M Z hN hZ => Ak F Aa Aa Aa) Aa Aa fun a F => ?_
   refine BJ (R := []) F Aa Aa (yC fun M Z hN hZ => Af F Aa) Aa Aa fun a F => ?_
   iterate 4 refine BN F Aa (Bh F Aa Aa Aa Aa Aa) Aa Aa Aa fun a F => ?_
   refine BJ (R := []) F Aa Aa (yC fun M Z hN hZ => Ak F Aa Aa Aa) Aa Aa fun a F => ?_
   refine BJ (R := []) F Aa Aa (yC fun M Z hN hZ => Af F Aa) Aa Aa fun a F => ?_
   iterate 4 refine BN F Aa (Bh F Aa Aa Aa Aa Aa) Aa Aa Aa fun a F => ?_
   refine BJ (R := []) F Aa Aa (yC fun M Z hN hZ => Ak F Aa Aa Aa) Aa Aa fun a F => ?_
   refine Dg Aa ?_
   refine AG (vs := [.int .i64 x5, .int .i64 x11.1, .int .i64 x12.1, .int .i64 x13.1]) (M' := [(b2, [.int .i64 x5, .int .i64 x11.1, .int .i64 x12.1, .int .i64 x13.1]), (b1, [.int .i64 x5, .int .i64 x11.1, .int .i64 x12.1, .int .i64 x13.1])]) 1 F W Aa Aa Aa GU Aa Aa Aa Aa Aa fun w W => ?_
   refine Bf (N2 := []) (NZ2 := []) (N3 := [(some 28, b2, [.int .i64 x5, .int .i64 x11.1, .int .i64 x12.1, .int .i64 x13.1]), (some 6, b2, [.int .i64 x5, .int .i64 x11.1, .int .i64 x12.1, .int .i64 x13.1]), (some 29, b2, [.int .i64 x5, .int .i64 x11.1, .int .i64 x12.1, .int .i64 x13.1])]) (NZ3 := []) W Aa Aa (Au (fun h => Az (by kernel_rfl) h) (Au (fun h => Az (by kernel_rfl) h) (Au (fun _ => (.head _)) AF))) AF ?_
   refine Dg Aa ?_
   refine ls F W Aa (Ad F Aa).q fun a w F W => ?_
   refine Bf (N2 := []) (NZ2 := []) (N3 := [(some 28, b2, [.int .i64 x5, .int .i64 x11.1, .int .i64 x12.1, .int .i64 x13.1]), (some 6, b2, [.int .i64 x5, .int .i64 x11.1, .int .i64 x12.1, .int .i64 x13.1]), (some 29, b2, [.int .i64 x5, .int .i64 x11.1, .int .i64 x12.1, .int .i64 x13.1])]) (NZ3 := []) W Aa Aa (Au (fun h => Az (by kernel_rfl) h) (Au (fun h => Az (by kernel_rfl) h) (Au (fun h => Az (by kernel_rfl) h) AF))) AF ?_
   refine DH (Ab ?_)
   have W := W.frontM (i := 1) Aa Aa
   have W := W.frontM (i := 1) Aa Aa
   exact ⟨_, H, F.re ⟨rfl, Aa, trivial⟩, W⟩
  have H := AO (A0 hb) H
  rw [hb] at F
  clear hb
  iterate 2 refine BN F Aa (Bh F Aa Aa Aa Aa Aa) Aa Aa Aa fun a F => ?_
  refine Dg Aa ?_
  refine Bg F Aa Aa Aa Aa Aa Aa Aa fun a F => ?_
  refine Bf (N2 := []) (NZ2 := []) (N3 := [(some 28, b2, [.int .i64 x5, .int .i64 x11.1, .int .i64 x12.1, .int .i64 x13.1]), (some 6, b2, [.int .i64 x5, .int .i64 x11.1, .int .i64 x12.1, .int .i64 x13.1])]) (NZ3 := []) W Aa Aa (Au (fun _ => (.head _)) (Au (fun h => Az (by kernel_rfl) h) AF)) AF ?_
  refine BN F Aa (Bh F Aa Aa Aa Aa Aa) Aa Aa Aa fun a F => ?_
  refine BJ (R := []) F Aa Aa (yC fun M Z hN hZ => Ak F Aa Aa Aa) Aa Aa fun a F => ?_
  refine BJ (R := []) F Aa Aa (yC fun M Z hN hZ => Af F Aa) Aa Aa fun a F => ?_
  iterate 4 refine BN F Aa (Bh F Aa Aa Aa Aa Aa) Aa Aa Aa fun a F => ?_
  refine BJ (R := []) F Aa Aa (yC fun M Z hN hZ => Ak F Aa Aa Aa) Aa Aa fun a F => ?_
  refine BJ (R := []) F Aa Aa (yC fun M Z hN hZ => Af F Aa) Aa Aa fun a F => ?_
  iterate 4 refine BN F Aa (Bh F Aa Aa Aa Aa Aa) Aa Aa Aa fun a F => ?_
  refine BJ (R := []) F Aa Aa (yC fun M Z hN hZ => Ak F Aa Aa Aa) Aa Aa fun a F => ?_
  refine BJ (R := []) F Aa Aa (yC fun M Z hN hZ => Af F Aa) Aa Aa fun a F => ?_
  iterate 4 refine BN F Aa (Bh F Aa Aa Aa Aa Aa) Aa Aa Aa fun a F => ?_
  refine BJ (R := []) F Aa Aa (yC fun M Z hN hZ => Ak F Aa Aa Aa) Aa Aa fun a F => ?_
  refine Dg Aa ?_
  refine AG (vs := [.int .i64 x5, .int .i64 x11.1, .int .i64 x12.1, .int .i64 x13.1]) (M' := [(b2, [.int .i64 x5, .int .i64 x11.1, .int .i64 x12.1, .int .i64 x13.1]), (b1, [.int .i64 x5, .int .i64 x11.1, .int .i64 x12.1, .int .i64 x13.1])]) 1 F W Aa Aa Aa GU Aa Aa Aa Aa Aa fun w W => ?_
  refine Bf (N2 := []) (NZ2 := []) (N3 := [(some 28, b2, [.int .i64 x5, .int .i64 x11.1, .int .i64 x12.1, .int .i64 x13.1]), (some 6, b2, [.int .i64 x5, .int .i64 x11.1, .int .i64 x12.1, .int .i64 x13.1])]) (NZ3 := []) W Aa Aa (Au (fun h => Az (by kernel_rfl) h) (Au (fun h => Az (by kernel_rfl) h) AF)) AF ?_
  refine Dg Aa ?_
  refine ls F W Aa (Ad F Aa).q fun a w F W => ?_
  refine Bf (N2 := []) (NZ2 := []) (N3 := [(some 28, b2, [.int .i64 x5, .int .i64 x11.1, .int .i64 x12.1, .int .i64 x13.1]), (some 6, b2, [.int .i64 x5, .int .i64 x11.1, .int .i64 x12.1, .int .i64 x13.1])]) (NZ3 := []) W Aa Aa (Au (fun h => Az (by kernel_rfl) h) (Au (fun h => Az (by kernel_rfl) h) AF)) AF ?_
  refine DH (Ab ?_)
  have W := W.frontM (i := 1) Aa Aa
  have W := W.frontM (i := 1) Aa Aa
  exact ⟨_, H, F.re ⟨rfl, Aa, trivial⟩, W⟩
 rintro a w ⟨x14, hj, F, W⟩
 have hj := AR hj
 subst hj
 have H := K7
 clear G7 K7
 refine Aw ?_
 have H := AR H
 subst H
 refine Dj (.inl Aa) F W Aa (BZ 1 F Aa Aa GU Aa) (As F Aa) ?_
 exact ⟨rfl, W.done⟩
theorem GD : type_of% Tryd.underlying22 := Tryd.underlying22
theorem Kn : Has Tryd.prog 26 := ⟨fun args w => An Tryd.func26 rfl (by decide) args w⟩
def J8 (a : Int × Int × Int × Int) : List Value := [.int .i64 a.1, .int .i64 a.2.1, .int .i64 a.2.2.1, .int .i64 a.2.2.2]
theorem I0 : Fl CU J8 := (Fl.pair Fl.int (Fl.pair Fl.int (Fl.pair Fl.int Fl.int)))
theorem IR : Et Tryd.prog 22 37 4 32 := Et.of GD (by kernel_rfl) (by kernel_rfl) (by kernel_rfl) (by decide)
noncomputable def C8 (p0 : List UInt8) : Int → Option (Int ⊕ Int)
  | x5 => (if x5 < (p0.length : Int) then (ix p0 x5).bind fun x7 => some (decide ((x7.toNat : Int) ≠ 10)) else some false).bind fun x6 => (if x6 = true then some (.inl (Bn (x5 + 1))) else some (.inr x5))
noncomputable def Bw (p0 : List UInt8) : ((List (Int × Int × Int × Int)) × Int) → Option (((List (Int × Int × Int × Int)) × Int) ⊕ ((List (Int × Int × Int × Int)) ⊕ ((List (Int × Int × Int × Int)) × Int × Int)))
  | (x2, x3) => (if x3 < (p0.length : Int) then (AP (C8 p0) x3).bind fun x4 => (if x4 = (p0.length : Int) then some (.inr (.inr (([] : List (Int × Int × Int × Int)), Bn ((x2.length : Int) + 1), 10))) else (CM p0 x3 (Bn (x4 + 1))).bind fun x8 => (Cp x8).bind fun x9 => (if (!x9.2) = true then some (.inr (.inr (([] : List (Int × Int × Int × Int)), Bn ((x2.length : Int) + 1), 10))) else (CL x2 ([x9.1] : List (Int × Int × Int × Int))).bind fun x10 => some (.inl (x10, Bn (x4 + 1))))) else some (.inr (.inl x2)))
noncomputable def CW (p0 : List UInt8) : Option ((List (Int × Int × Int × Int)) × Int × Int) := Gz (AP (Bw p0) ([], 0)) fun x1 => some (x1, 0, 0)
theorem F2 (Y : Nat → Prop) (w0 : World)  (p0 : List UInt8) (r : (List (Int × Int × Int × Int)) × Int × Int) (H : CW p0 = some r)  :
    Calls Tryd.prog 17 #[.string (bs p0)] w0 fun e w' => ∃ x : Value, e = .returned (.tuple #[x, .int .i64 r.2.1, .int .i64 r.2.2]) ∧ Stw ⟨Y, [], w0⟩ [] [row (x) 37 CU r.1] w' := by
 refine enter Tryd.func17 Aa Tryd.ntmps17 Aa fun a F => ?_
 have W := Stw.start Y w0
 unfold CW at H
 refine Ai (Ac ?_)
 iterate 3 refine ls F W Aa (Ad F Aa).q fun a w F W => ?_
 refine Ae (Ab (Ai (Ac ?_)))
 refine ls F W Aa (Ad F Aa).q fun a w F W => ?_
 refine Ae (Ab (Ai (Ac ?_)))
 refine ls F W Aa (Ad F Aa).q fun a w F W => ?_
 refine Ae (Ab ?_)
 obtain ⟨o1, G1, K1, L1⟩ := IQ H
 refine AL (fun a w => ∃ x1 : List (Int × Int × Int × Int), ∃ v1 : Value, some (Sum.inl x1) = some o1 ∧ Fr 55 [] [(2, .slice none 0 0), (3, .int .i64 0), (4, .int .i64 0), (5, v1)] a ∧ Stw ⟨Y, [], w0⟩ [] [row v1 37 CU x1] w) ?_ ?_
 ·
  have H := G1
  clear G1 K1
  refine AC ?_
  have W := W.nilRow 37 CU
  refine Bz H (fun s a w => ∃ v2 : Value, Fr 55 [] [(0, .string (bs p0)), (2, .slice none 0 0), (3, .int .i64 0), (4, .int .i64 0), (5, v2), (6, .int .i64 s.2)] a ∧ Stw ⟨Y, [], w0⟩ [] [row v2 37 CU s.1] w) ⟨(Value.slice none 0 0), F.re ⟨rfl, Aa, Aa, Aa, Aa, Aa, trivial⟩, W⟩ fun s o a w H L2 hR => ?_
  obtain ⟨x2, x3⟩ := s
  obtain ⟨v2, F, W⟩ := hR
  have F : Fr 55 [] [(0, .string (bs p0)), (2, .slice none 0 0), (3, .int .i64 0), (4, .int .i64 0), (5, v2), (6, .int .i64 x3)] a := F
  have W : Stw ⟨Y, [], w0⟩ [] [row v2 37 CU x2] w := W
  rw [Bw] at H
  refine Ai (Ai (Ac ?_))
  iterate 2 refine ls F W Aa (Af F Aa).q fun a w F W => ?_
  refine ls F W Aa (Eb (l := p0) Gw Aa F Aa).q fun a w F W => ?_
  refine ls F W Aa (BR F Aa Aa).q fun a w F W => ?_
  refine Ae (Ab ?_)
  refine Ax F Aa (fun hb => ?_) fun hb => ?_
  ·
   have H := AN (A1 hb) H
   rw [hb] at F
   clear hb
   refine AE (Ab (AC (Ai (Ac ?_))))
   refine ls F W Aa (Af F Aa).q fun a w F W => ?_
   refine ls F W Aa (Ad F Aa).q fun a w F W => ?_
   refine Ae (Ab ?_)
   obtain ⟨o3, G3, K3⟩ := Ap H
   refine AL (fun a w => ∃ x4 : Int, some (x4) = some o3 ∧ Fr 55 [] [(0, .string (bs p0)), (2, .slice none 0 0), (3, .int .i64 0), (4, .int .i64 0), (5, v2), (6, .int .i64 x3), (7, .int .i64 x4)] a ∧ Stw ⟨Y, [], w0⟩ [] [row v2 37 CU x2] w) ?_ ?_
   ·
    have H := G3
    clear G3 K3
    refine AC ?_
    refine Bz H (fun s a w => Fr 55 [] [(0, .string (bs p0)), (2, .slice none 0 0), (3, .int .i64 0), (4, .int .i64 0), (5, v2), (6, .int .i64 x3), (7, .int .i64 s)] a ∧ Stw ⟨Y, [], w0⟩ [] [row v2 37 CU x2] w) ⟨F.re ⟨rfl, Aa, Aa, Aa, Aa, Aa, Aa, trivial⟩, W⟩ fun s o a w H L4 hR => ?_
    obtain ⟨x5, rfl⟩ : ∃ x, x = s := ⟨s, rfl⟩
    obtain ⟨F, W⟩ := hR
    have F : Fr 55 [] [(0, .string (bs p0)), (2, .slice none 0 0), (3, .int .i64 0), (4, .int .i64 0), (5, v2), (6, .int .i64 x3), (7, .int .i64 x5)] a := F
    have W : Stw ⟨Y, [], w0⟩ [] [row v2 37 CU x2] w := W
    rw [C8] at H
    refine Ai ?_
    obtain ⟨o5, G5, K5⟩ := Ap H
    refine AL (fun a w => ∃ x6 : Bool, some (x6) = some o5 ∧ Fr 55 [] [(0, .string (bs p0)), (2, .slice none 0 0), (3, .int .i64 0), (4, .int .i64 0), (5, v2), (6, .int .i64 x3), (7, .int .i64 x5), (24, .bool x6)] a ∧ Stw ⟨Y, [], w0⟩ [] [row v2 37 CU x2] w) ?_ ?_
    ·
     have H := G5
     clear G5 K5
     refine Ac ?_
     iterate 2 refine ls F W Aa (Af F Aa).q fun a w F W => ?_
     refine ls F W Aa (Eb (l := p0) Gw Aa F Aa).q fun a w F W => ?_
     refine ls F W Aa (BR F Aa Aa).q fun a w F W => ?_
     refine ls F W Aa (Af F Aa).q fun a w F W => ?_
     rcases Bool.eq_false_or_eq_true (decide (x5 < (p0.length : Int))) with hb | hb
     ·
      have H := AN (A1 hb) H
      rw [hb] at F
      clear hb
      iterate 2 refine Av F W (Ag F Aa Aa Aa Aa) Aa (Ao Aa) (Af F Aa).q fun a w F W => ?_
      obtain ⟨x7, h1, H⟩ := Ap H
      refine Av F W (Ag F Aa Aa Aa Aa) Aa (Ao Aa) (Dv (l := p0) Gw F Aa Aa h1).q fun a w F W => ?_
      refine Av F W (Ag F Aa Aa Aa Aa) Aa (Ao Aa) (DE F Aa Aa).q fun a w F W => ?_
      refine ls F W Aa (Am F Aa Aa Aa).q fun a w F W => ?_
      refine Ae (Ab ?_)
      exact ⟨_, H, F.re ⟨rfl, Aa, Aa, Aa, Aa, Aa, Aa, Aa, trivial⟩, W⟩
     have H := AO (A0 hb) H
     rw [hb] at F
     clear hb
     iterate 4 refine Bg F Aa Aa Aa Aa Aa Aa Aa fun a F => ?_
     refine ls F W Aa (Ak F Aa Aa Aa).q fun a w F W => ?_
     refine Ae (Ab ?_)
     exact ⟨_, H, F.re ⟨rfl, Aa, Aa, Aa, Aa, Aa, Aa, Aa, trivial⟩, W⟩
    rintro a w ⟨x6, hj, F, W⟩
    have hj := AR hj
    subst hj
    have H := K5
    clear G5 K5
    refine Ax F Aa (fun hb => ?_) fun hb => ?_
    ·
     have H := AN hb H
     rw [hb] at F
     clear hb
     refine AE (Ab (AC (Ac ?_)))
     refine ls F W Aa (Af F Aa).q fun a w F W => ?_
     refine ls F W Aa (Bo F Aa Aa Aa).q fun a w F W => ?_
     refine ls F W Aa (Ad F Aa).q fun a w F W => ?_
     refine Ae (AQ (Ab ?_))
     exact ⟨_, H, F.re ⟨rfl, Aa, Aa, Aa, Aa, Aa, Aa, trivial⟩, W⟩
    have H := AO (by rw [hb]; decide) H
    rw [hb] at F
    clear hb
    refine BA ?_
    iterate 2 refine B0 ?_
    refine BB (Ab ?_)
    have H := L4 _ H
    exact ⟨_, H, F.re ⟨rfl, Aa, Aa, Aa, Aa, Aa, Aa, trivial⟩, W⟩
   rintro a w ⟨x4, hj, F, W⟩
   have hj := AR hj
   subst hj
   have H := K3
   clear G3 K3
   refine Ai (Ai (Ac ?_))
   iterate 2 refine ls F W Aa (Af F Aa).q fun a w F W => ?_
   refine ls F W Aa (Eb (l := p0) Gw Aa F Aa).q fun a w F W => ?_
   refine ls F W Aa (A7 F Aa Aa).q fun a w F W => ?_
   refine Ae (Ab ?_)
   refine Ax F Aa (fun hb => ?_) fun hb => ?_
   ·
    have H := AN (A1 hb) H
    rw [hb] at F
    clear hb
    refine Ai (Ac ?_)
    refine ls F W Aa (Af F Aa).q fun a w F W => ?_
    refine ls F W Aa (CB (r := CU) (l := x2) GD Aa F Aa (A3 0 Aa)).q fun a w F W => ?_
    refine ls F W Aa (Bo F Aa Aa Aa).q fun a w F W => ?_
    iterate 3 refine ls F W Aa (Ad F Aa).q fun a w F W => ?_
    refine Ae (Ab (Aw (AA (AH (AA (AH (AA ?_)))))))
    have H := L2 _ H
    have H := L1 _ H
    have H := AR H
    subst H
    refine E7 (.inl Aa) F W Aa (As F Aa) (As F Aa) (As F Aa) ?_
    have W := W.nilRow 37 CU
    have W := W.sub (M' := []) (Z' := [row (Value.slice none 0 0) 37 CU ([])]) (List.Sublist.refl _) (List.Sublist.cons_cons _ (List.nil_sublist _))
    exact ⟨(Value.slice none 0 0), Aa, W⟩
   have H := AO (A0 hb) H
   rw [hb] at F
   clear hb
   refine AE (Ab (Ai (Ac ?_)))
   iterate 3 refine ls F W Aa (Af F Aa).q fun a w F W => ?_
   refine ls F W Aa (Bo F Aa Aa Aa).q fun a w F W => ?_
   obtain ⟨x8, h2, H⟩ := Ap H
   refine ls F W Aa (D2 (l := p0) Gw F Aa Aa Aa h2).q fun a w F W => ?_
   obtain ⟨x9, h3, H⟩ := Ap H
   refine ls F W Aa (AK (v := Value.tuple #[.agg #[.int .i64 x9.1.1, .int .i64 x9.1.2.1, .int .i64 x9.1.2.2.1, .int .i64 x9.1.2.2.2], .bool x9.2]) F Kn Aa (fun w W => GC any w x8 _ h3)) fun a w F W => ?_
   refine ls F W Aa (Af F Aa).q fun a w F W => ?_
   refine ls F W Aa (Ay (v := Value.agg #[.int .i64 x9.1.1, .int .i64 x9.1.2.1, .int .i64 x9.1.2.2.1, .int .i64 x9.1.2.2.2]) F Aa Aa).q fun a w F W => ?_
   refine ls F W Aa (Ay (v := Value.bool x9.2) F Aa Aa).q fun a w F W => ?_
   refine Bp (cs := [.int .i64 0, .int .i64 0, .int .i64 0, .int .i64 0]) F W Aa Jz Aa fun b1 a w F W => ?_
   refine AG (vs := [.int .i64 x9.1.1, .int .i64 x9.1.2.1, .int .i64 x9.1.2.2.1, .int .i64 x9.1.2.2.2]) (M' := [(b1, [.int .i64 x9.1.1, .int .i64 x9.1.2.1, .int .i64 x9.1.2.2.1, .int .i64 x9.1.2.2.2])]) 0 F W Aa Aa Aa GU Aa Aa Aa Aa Aa fun w W => ?_
   refine ls F W Aa (Ad F Aa).q fun a w F W => ?_
   refine Ae (Ab (Ai (Ai (Ac ?_))))
   refine ls F W Aa (Af F Aa).q fun a w F W => ?_
   refine ls F W Aa (Db F Aa).q fun a w F W => ?_
   refine Ae (Ab ?_)
   refine Ax F Aa (fun hb => ?_) fun hb => ?_
   ·
    have H := AN hb H
    rw [hb] at F
    clear hb
    refine Ai (Ac ?_)
    refine ls F W Aa (Af F Aa).q fun a w F W => ?_
    refine ls F W Aa (CB (r := CU) (l := x2) GD Aa F Aa (A3 0 Aa)).q fun a w F W => ?_
    refine ls F W Aa (Bo F Aa Aa Aa).q fun a w F W => ?_
    iterate 3 refine ls F W Aa (Ad F Aa).q fun a w F W => ?_
    refine Ae (Ab (Aw (AA (AH (AA (AH (AA ?_)))))))
    have H := L2 _ H
    have H := L1 _ H
    have H := AR H
    subst H
    refine E7 (.inl Aa) F W Aa (As F Aa) (As F Aa) (As F Aa) ?_
    have W := W.nilRow 37 CU
    have W := W.sub (M' := []) (Z' := [row (Value.slice none 0 0) 37 CU ([])]) (List.nil_sublist _) (List.Sublist.cons_cons _ (List.nil_sublist _))
    exact ⟨(Value.slice none 0 0), Aa, W⟩
   have H := AO (by rw [hb]; decide) H
   rw [hb] at F
   clear hb
   refine AE (Ab (Ai (Ac ?_)))
   refine ls F W Aa (Af F Aa).q fun a w F W => ?_
   refine ls F W Aa (Aq (v := Value.agg #[.int .i64 x9.1.1, .int .i64 x9.1.2.1, .int .i64 x9.1.2.2.1, .int .i64 x9.1.2.2.2]) 0 F Aa Aa GU Aa).q fun a w F W => ?_
   refine F6 (z := Value.agg #[.int .i64 0, .int .i64 0, .int .i64 0, .int .i64 0]) (cs := [.int .i64 x9.1.1, .int .i64 x9.1.2.1, .int .i64 x9.1.2.2.1, .int .i64 x9.1.2.2.2]) CU ([x9.1] : List (Int × Int × Int × Int)) F W Aa IR Jz Aa Aa Aa Aa Aa Aa (I0.repL _ _ ([x9.1] : List (Int × Int × Int × Int))) fun v3 a w F W => ?_
   obtain ⟨x10, h4, H⟩ := Ap H
   refine EK (r := CU) (i := 1) F W Aa IR Aa Aa Aa Aa (FQ W 0 Aa) h4 Aa fun v4 a w F W => ?_
   have W : Stw ⟨Y, [], w0⟩ [(b1, [.int .i64 x9.1.1, .int .i64 x9.1.2.1, .int .i64 x9.1.2.2.1, .int .i64 x9.1.2.2.2])] [row v4 37 CU x10, row v3 37 CU ([x9.1] : List (Int × Int × Int × Int))] w := W
   refine ls F W Aa (Ad F Aa).q fun a w F W => ?_
   refine Ae (Ab (Ac ?_))
   refine ls F W Aa (Af F Aa).q fun a w F W => ?_
   refine ls F W Aa (Bo F Aa Aa Aa).q fun a w F W => ?_
   refine ls F W Aa (Ad F Aa).q fun a w F W => ?_
   refine Ae (AQ (Ab ?_))
   have W := W.sub (M' := []) (Z' := [row v4 37 CU x10]) (List.nil_sublist _) (List.Sublist.cons_cons _ (List.nil_sublist _))
   exact ⟨_, H, (v4), F.re ⟨rfl, Aa, Aa, Aa, Aa, Aa, trivial⟩, W⟩
  have H := AO (A0 hb) H
  rw [hb] at F
  clear hb
  refine BA ?_
  iterate 2 refine B0 ?_
  refine BB (Ab ?_)
  have H := L2 _ H
  exact ⟨_, (v2), H, F.re ⟨rfl, Aa, Aa, Aa, trivial⟩, W⟩
 rintro a w ⟨x1, v1, hj, F, W⟩
 have H := K1 _ hj
 clear hj G1 K1 L1
 refine Ai (Ac ?_)
 refine ls F W Aa (Af F Aa).q fun a w F W => ?_
 iterate 3 refine ls F W Aa (Ad F Aa).q fun a w F W => ?_
 refine Ae (Ab (Aw ?_))
 have H := AR H
 subst H
 refine E7 (.inl Aa) F W Aa (As F Aa) (As F Aa) (As F Aa) ?_
 exact ⟨(v1), Aa, W⟩
theorem Ko : Has Tryd.prog 17 := ⟨fun args w => An Tryd.func17 rfl (by decide) args w⟩
noncomputable def Cn (p0 : List (Int × Int × Int × Int)) : ((List (Int × Int × Int × Int)) × Int) → Option (((List (Int × Int × Int × Int)) × Int) ⊕ (List (Int × Int × Int × Int)))
  | (x2, x3) => (if x3 < (p0.length : Int) then (ix p0 x3).bind fun x4 => (ix p0 x3).bind fun x5 => (ix p0 x3).bind fun x6 => (ix p0 x3).bind fun x7 => (CL x2 ([(x4.1, x5.2.1, x6.2.2.1, x7.2.2.2)] : List (Int × Int × Int × Int))).bind fun x8 => some (.inl (x8, Bn (x3 + 1))) else some (.inr x2))
noncomputable def CA (p0 : List (Int × Int × Int × Int)) : Option (List (Int × Int × Int × Int)) := (AP (Cn p0) ([], 0)).bind fun x1 => some x1
theorem DJ (Y : Nat → Prop) (w0 : World) (v1 : Value) (p0 : List (Int × Int × Int × Int)) (r : (List (Int × Int × Int × Int))) (H : CA p0 = some r) (h_v1 : Sl w0 (NX []) CU v1 p0) :
    Calls Tryd.prog 7 #[v1] w0 fun e w' => ∃ x : Value, e = .returned (x) ∧ Stw ⟨Y, [], w0⟩ [] [row (x) 34 B2 r] w' := by
 refine enter Tryd.func7 Aa Tryd.ntmps7 Aa fun a F => ?_
 have W := Stw.start Y w0
 unfold CA at H
 refine Ai (Ac ?_)
 refine ls F W Aa (Ad F Aa).q fun a w F W => ?_
 refine Ae (Ab (Ai (Ac ?_)))
 refine ls F W Aa (Ad F Aa).q fun a w F W => ?_
 refine Ae (Ab ?_)
 obtain ⟨o1, G1, K1⟩ := Ap H
 refine AL (fun a w => ∃ x1 : List (Int × Int × Int × Int), ∃ v2 : Value, some (x1) = some o1 ∧ Fr 36 [] [(2, .slice none 0 0), (3, v2)] a ∧ Stw ⟨Y, [], w0⟩ [] [row v2 34 B2 x1] w) ?_ ?_
 ·
  have H := G1
  clear G1 K1
  refine Ai (Ac ?_)
  refine ls F W Aa (Ad F Aa).q fun a w F W => ?_
  refine Ae (Ab (AC ?_))
  have W := W.nilRow 34 B2
  refine Bz H (fun s a w => ∃ v3 : Value, Fr 36 [] [(0, v1), (2, .slice none 0 0), (3, v3), (4, .int .i64 s.2)] a ∧ Stw ⟨Y, [], w0⟩ [] [row v3 34 B2 s.1] w) ⟨(Value.slice none 0 0), F.re ⟨rfl, Aa, Aa, Aa, trivial⟩, W⟩ fun s o a w H L2 hR => ?_
  obtain ⟨x2, x3⟩ := s
  obtain ⟨v3, F, W⟩ := hR
  have F : Fr 36 [] [(0, v1), (2, .slice none 0 0), (3, v3), (4, .int .i64 x3)] a := F
  have W : Stw ⟨Y, [], w0⟩ [] [row v3 34 B2 x2] w := W
  rw [Cn] at H
  refine Ai (Ai (Ac ?_))
  iterate 2 refine ls F W Aa (Af F Aa).q fun a w F W => ?_
  refine ls F W Aa (CB (r := CU) (l := p0) GD Aa F Aa (AU h_v1)).q fun a w F W => ?_
  refine ls F W Aa (BR F Aa Aa).q fun a w F W => ?_
  refine Ae (Ab ?_)
  refine Ax F Aa (fun hb => ?_) fun hb => ?_
  ·
   have H := AN (A1 hb) H
   rw [hb] at F
   clear hb
   refine AE (Ab (Ai (AC ?_)))
   refine Hb 22 [0] [1, 2, 3, 4, 5, 6, 7, 8, 9, 10, 11, 12, 13, 14, 15, 16, 17, 18, 19, 20, 21] (fun ch a d v w h => by cases d <;> exact h) W MO (by kernel_rfl) ?_
   refine hm F Aa Aa Aa fun a F => ?_
   refine Hx ?_
   iterate 2 refine hs F Aa Aa Aa (Af F Aa).q fun a F => ?_
   obtain ⟨x4, h1, H⟩ := Ap H
   refine hs F Aa Aa Aa (BH (r := CU) IR F Aa Aa (AU h_v1) h1).q fun a F => ?_
   refine hs F Aa Aa Aa (Ah Cs Aa Aa Aa T3 F Aa (EA v1 + (x3).toNat * 4) Aa).q fun a F => ?_
   refine hs F Aa Aa Aa (A9 (y := Value.int .i64 x4.1) (j := 0) (i := x3) F Aa Aa (AU h_v1) h1 I0.to T3 Aa).q fun a F => ?_
   iterate 2 refine hs F Aa Aa Aa (Af F Aa).q fun a F => ?_
   obtain ⟨x5, h2, H⟩ := Ap H
   refine hs F Aa Aa Aa (BH (r := CU) IR F Aa Aa (AU h_v1) h2).q fun a F => ?_
   refine hs F Aa Aa Aa (Ah Cs Aa Aa Aa T3 F Aa (EA v1 + (x3).toNat * 4 + 1) Aa).q fun a F => ?_
   refine hs F Aa Aa Aa (A9 (y := Value.int .i64 x5.2.1) (j := 1) (i := x3) F Aa Aa (AU h_v1) h2 I0.to T3 Aa).q fun a F => ?_
   iterate 2 refine hs F Aa Aa Aa (Af F Aa).q fun a F => ?_
   obtain ⟨x6, h3, H⟩ := Ap H
   refine hs F Aa Aa Aa (BH (r := CU) IR F Aa Aa (AU h_v1) h3).q fun a F => ?_
   refine hs F Aa Aa Aa (Ah Cs Aa Aa Aa T3 F Aa (EA v1 + (x3).toNat * 4 + 2) Aa).q fun a F => ?_
   refine hs F Aa Aa Aa (A9 (y := Value.int .i64 x6.2.2.1) (j := 2) (i := x3) F Aa Aa (AU h_v1) h3 I0.to T3 Aa).q fun a F => ?_
   iterate 2 refine hs F Aa Aa Aa (Af F Aa).q fun a F => ?_
   obtain ⟨x7, h4, H⟩ := Ap H
   refine hs F Aa Aa Aa (BH (r := CU) IR F Aa Aa (AU h_v1) h4).q fun a F => ?_
   refine hs F Aa Aa Aa (Ah Cs Aa Aa Aa T3 F Aa (EA v1 + (x3).toNat * 4 + 3) Aa).q fun a F => ?_
   refine hs F Aa Aa Aa (A9 (y := Value.int .i64 x7.2.2.2) (j := 3) (i := x3) F Aa Aa (AU h_v1) h4 I0.to T3 Aa).q fun a F => ?_
   refine hs F Aa Aa Aa (Bx (v := Value.agg #[.int .i64 x4.1, .int .i64 x5.2.1, .int .i64 x6.2.2.1, .int .i64 x7.2.2.2]) IB F Aa Aa Aa).q fun a F => ?_
   refine IV fun w W => ?_
   have W : Stw ⟨Y, [], w0⟩ [] [row v3 34 B2 x2] w := W
   refine F6 (z := Value.agg #[.int .i64 0, .int .i64 0, .int .i64 0, .int .i64 0]) (cs := [.int .i64 x4.1, .int .i64 x5.2.1, .int .i64 x6.2.2.1, .int .i64 x7.2.2.2]) B2 ([(x4.1, x5.2.1, x6.2.2.1, x7.2.2.2)] : List (Int × Int × Int × Int)) F W Aa H2 IG Aa Aa Aa Aa Aa Aa (IP.repL _ _ ([(x4.1, x5.2.1, x6.2.2.1, x7.2.2.2)] : List (Int × Int × Int × Int))) fun v4 a w F W => ?_
   obtain ⟨x8, h5, H⟩ := Ap H
   refine EK (r := B2) (i := 1) F W Aa H2 Aa Aa Aa Aa (FQ W 0 Aa) h5 Aa fun v5 a w F W => ?_
   have W : Stw ⟨Y, [], w0⟩ [] [row v5 34 B2 x8, row v4 34 B2 ([(x4.1, x5.2.1, x6.2.2.1, x7.2.2.2)] : List (Int × Int × Int × Int))] w := W
   refine ls F W Aa (Ad F Aa).q fun a w F W => ?_
   refine Ae (AQ (Ab (Ac ?_)))
   refine ls F W Aa (Af F Aa).q fun a w F W => ?_
   refine ls F W Aa (Bo F Aa Aa Aa).q fun a w F W => ?_
   refine ls F W Aa (Ad F Aa).q fun a w F W => ?_
   refine Ae (Ab ?_)
   have W := W.sub (M' := []) (Z' := [row v5 34 B2 x8]) (List.Sublist.refl _) (List.Sublist.cons_cons _ (List.nil_sublist _))
   exact ⟨_, H, (v5), F.re ⟨rfl, Aa, Aa, Aa, trivial⟩, W⟩
  have H := AO (A0 hb) H
  rw [hb] at F
  clear hb
  refine BA ?_
  iterate 2 refine B0 ?_
  refine BB (Ab ?_)
  have H := L2 _ H
  exact ⟨_, (v3), H, F.re ⟨rfl, Aa, trivial⟩, W⟩
 rintro a w ⟨x1, v2, hj, F, W⟩
 have hj := AR hj
 subst hj
 have H := K1
 clear G1 K1
 refine Ai (Ac ?_)
 refine ls F W Aa (Af F Aa).q fun a w F W => ?_
 refine ls F W Aa (Ad F Aa).q fun a w F W => ?_
 refine Ae (Ab (Aw ?_))
 have H := AR H
 subst H
 refine AY (.inl Aa) F W Aa (As F Aa) ?_
 exact ⟨(v2), Aa, W⟩
theorem H7 : Has Tryd.prog 7 := ⟨fun args w => An Tryd.func7 rfl (by decide) args w⟩
theorem JN (dd : Nat) (x0 : Int) (x1 : Int) (x2 : Int) (x3 : Int) (y0 : Int) (y1 : Int) (y2 : Int) (y3 : Int) (w : World) : (Op.equalIn (dd + 2) 34 (.agg #[.int .i64 x0, .int .i64 x1, .int .i64 x2, .int .i64 x3]) (.agg #[.int .i64 y0, .int .i64 y1, .int .i64 y2, .int .i64 y3])).run Tryd.prog w = .ok (decide (x0 = y0 ∧ x1 = y1 ∧ x2 = y2 ∧ x3 = y3)) w :=
  Fv (d := dd + 1) (rs := [decide (x0 = y0), decide (x1 = y1), decide (x2 = y2), decide (x3 = y3)]) BQ (by kernel_rfl) ⟨rfl, Cm (d := dd + 0) rfl rfl HJ T3 rfl rfl, rfl, Cm (d := dd + 0) rfl rfl HJ T3 rfl rfl, rfl, Cm (d := dd + 0) rfl rfl HJ T3 rfl rfl, rfl, Cm (d := dd + 0) rfl rfl HJ T3 rfl rfl, trivial⟩ (by simp) w
theorem Kh : Tryd.prog.eqGuardType Tryd.prog.depth 34 = false := by kernel_rfl
theorem J5 (x0 : Int) (x1 : Int) (x2 : Int) (x3 : Int) (y0 : Int) (y1 : Int) (y2 : Int) (y3 : Int) (w : World) : (Op.equalIn 10000 34 (.agg #[.int .i64 x0, .int .i64 x1, .int .i64 x2, .int .i64 x3]) (.agg #[.int .i64 y0, .int .i64 y1, .int .i64 y2, .int .i64 y3])).run Tryd.prog w = .ok (decide (x0 = y0 ∧ x1 = y1 ∧ x2 = y2 ∧ x3 = y3)) w := JN 9998 x0 x1 x2 x3 y0 y1 y2 y3 w
noncomputable def Cr (p0 : List (Int × Int × Int × Int)) (x1 : (List (Int × Int × Int × Int))) : Int → Option (Int ⊕ (Unit ⊕ Bool))
  | x2 => (if x2 < (p0.length : Int) then (ix p0 x2).bind fun x3 => (ix x1 x2).bind fun x4 => (if (!(decide (x3.1 = x4.1 ∧ x3.2.1 = x4.2.1 ∧ x3.2.2.1 = x4.2.2.1 ∧ x3.2.2.2 = x4.2.2.2))) = true then some (.inr (.inr false)) else some (.inl (Bn (x2 + 1)))) else some (.inr (.inl ())))
noncomputable def CY (p0 : List (Int × Int × Int × Int)) (p1 : List (Int × Int × Int × Int)) : Option Bool := (CA p1).bind fun x1 => (if (p0.length : Int) ≠ (x1.length : Int) then some false else Gz (AP (Cr p0 x1) 0) fun _ => some true)
theorem EQ (Y : Nat → Prop) (w0 : World) (v1 : Value) (v2 : Value) (p0 : List (Int × Int × Int × Int)) (p1 : List (Int × Int × Int × Int)) (r : Bool) (H : CY p0 p1 = some r) (h_v1 : Sl w0 (NX []) B2 v1 p0) (h_v2 : Sl w0 (NX []) CU v2 p1) :
    Calls Tryd.prog 18 #[v1, v2] w0 fun e w' => e = .returned (.bool r) ∧ Below w0.heap.size w0 w' := by
 refine enter Tryd.func18 Aa Tryd.ntmps18 Aa fun a F => ?_
 have W := Stw.start Y w0
 unfold CY at H
 refine Ai (Ac ?_)
 refine ls F W Aa (Ad F Aa).q fun a w F W => ?_
 refine Ae (Ab (Ai (Ac ?_)))
 refine ls F W Aa (Af F Aa).q fun a w F W => ?_
 obtain ⟨x1, h1, H⟩ := Ap H
 refine B9 (Ml := []) (Zl := []) (M := []) (Z := []) (β := Value) (rv := fun x => x) (MM := fun x => []) (ZZ := fun x => [row x 34 B2 x1]) F W H7 Aa Aa (fun hL => DJ _ w (v2) p1 _ h1 ((AU h_v2) w W).nx) fun x a w F W => ?_
 obtain ⟨v3, rfl⟩ : ∃ y, y = x := ⟨x, rfl⟩
 have W : Stw ⟨Y, [], w0⟩ [] [row v3 34 B2 x1] w := W
 refine ls F W Aa (Ad F Aa).q fun a w F W => ?_
 refine Ae (Ab (Ai (Ai (Ac ?_))))
 refine ls F W Aa (Af F Aa).q fun a w F W => ?_
 refine ls F W Aa (CB (r := B2) (l := p0) FF Aa F Aa (AU h_v1)).q fun a w F W => ?_
 refine ls F W Aa (Af F Aa).q fun a w F W => ?_
 refine ls F W Aa (CB (r := B2) (l := x1) FF Aa F Aa (A3 0 Aa)).q fun a w F W => ?_
 refine ls F W Aa (DE F Aa Aa).q fun a w F W => ?_
 refine Ae (Ab ?_)
 refine Ax F Aa (fun hb => ?_) fun hb => ?_
 ·
  have H := AN (A1 hb) H
  rw [hb] at F
  clear hb
  refine Ai (Ac ?_)
  refine ls F W Aa (Ad F Aa).q fun a w F W => ?_
  refine Ae (Ab (Aw (AA ?_)))
  have H := AR H
  subst H
  refine AY (.inl Aa) F W Aa (As F Aa) ?_
  exact ⟨rfl, W.done⟩
 have H := AO (A0 hb) H
 rw [hb] at F
 clear hb
 refine AE (Ab ?_)
 obtain ⟨o1, G1, K1, L1⟩ := IQ H
 refine AL (fun a w => some (Sum.inl ()) = some o1 ∧ Fr 29 [] [(4, .bool false)] a ∧ Stw ⟨Y, [], w0⟩ [] [] w) ?_ ?_
 ·
  have H := G1
  clear G1 K1
  refine Ai (Ac ?_)
  refine ls F W Aa (Ad F Aa).q fun a w F W => ?_
  refine Ae (Ab (AC ?_))
  refine Bz H (fun s a w => Fr 29 [] [(0, v1), (4, .bool false), (5, v3), (6, .int .i64 s)] a ∧ Stw ⟨Y, [], w0⟩ [] [row v3 34 B2 x1] w) ⟨F.re ⟨rfl, Aa, Aa, Aa, trivial⟩, W⟩ fun s o a w H L2 hR => ?_
  obtain ⟨x2, rfl⟩ : ∃ x, x = s := ⟨s, rfl⟩
  obtain ⟨F, W⟩ := hR
  have F : Fr 29 [] [(0, v1), (4, .bool false), (5, v3), (6, .int .i64 x2)] a := F
  have W : Stw ⟨Y, [], w0⟩ [] [row v3 34 B2 x1] w := W
  rw [Cr] at H
  refine Ai (Ai (Ac ?_))
  iterate 2 refine ls F W Aa (Af F Aa).q fun a w F W => ?_
  refine ls F W Aa (CB (r := B2) (l := p0) FF Aa F Aa (AU h_v1)).q fun a w F W => ?_
  refine ls F W Aa (BR F Aa Aa).q fun a w F W => ?_
  refine Ae (Ab ?_)
  refine Ax F Aa (fun hb => ?_) fun hb => ?_
  ·
   have H := AN (A1 hb) H
   rw [hb] at F
   clear hb
   refine AE (Ab (Ai (AC (Ai ?_))))
   refine C1 W MO (by kernel_rfl) ?_
   iterate 2 refine qs F Aa (Af F Aa).q fun a F => ?_
   obtain ⟨x3, h2, H⟩ := Ap H
   refine qs F Aa (BH (r := B2) H2 F Aa Aa (AU h_v1) h2).q fun a F => ?_
   refine qs F Aa (A9 (y := Value.agg #[.int .i64 x3.1, .int .i64 x3.2.1, .int .i64 x3.2.2.1, .int .i64 x3.2.2.2]) (j := 0) (i := x2) F Aa Aa (AU h_v1) h2 IP.to EE Aa).q fun a F => ?_
   iterate 2 refine qs F Aa (Af F Aa).q fun a F => ?_
   obtain ⟨x4, h3, H⟩ := Ap H
   refine qs F Aa (BH (r := B2) H2 F Aa Aa (A3 0 Aa) h3).q fun a F => ?_
   refine qs F Aa (A9 (y := Value.agg #[.int .i64 x4.1, .int .i64 x4.2.1, .int .i64 x4.2.2.1, .int .i64 x4.2.2.2]) (j := 0) (i := x2) F Aa Aa (A3 0 Aa) h3 IP.to EE Aa).q fun a F => ?_
   refine qs F Aa (Jk (t := decide (x3.1 = x4.1 ∧ x3.2.1 = x4.2.1 ∧ x3.2.2.1 = x4.2.2.1 ∧ x3.2.2.2 = x4.2.2.2)) Kh (J5 _ _ _ _ _ _ _ _) F Aa Aa).q fun a F => ?_
   refine Cv fun w W => ?_
   refine Ab ?_
   refine Ax F Aa (fun hb => ?_) fun hb => ?_
   ·
    have H := AN hb H
    rw [hb] at F
    clear hb
    refine Ai (Ac ?_)
    refine ls F W Aa (Ad F Aa).q fun a w F W => ?_
    refine Ae (Ab (Aw (AH ?_)))
    iterate 2 refine AA ?_
    refine AH (AA ?_)
    have H := L2 _ H
    have H := L1 _ H
    have H := AR H
    subst H
    refine AY (.inl Aa) F W Aa (As F Aa) ?_
    exact ⟨rfl, W.done⟩
   have H := AO (by rw [hb]; decide) H
   rw [hb] at F
   clear hb
   refine AE (AQ (Ab (Ac ?_)))
   refine ls F W Aa (Af F Aa).q fun a w F W => ?_
   refine ls F W Aa (Bo F Aa Aa Aa).q fun a w F W => ?_
   refine ls F W Aa (Ad F Aa).q fun a w F W => ?_
   refine Ae (Ab ?_)
   exact ⟨_, H, F.re ⟨rfl, Aa, Aa, Aa, trivial⟩, W⟩
  have H := AO (A0 hb) H
  rw [hb] at F
  clear hb
  refine BA ?_
  iterate 2 refine B0 ?_
  refine BB (Ab ?_)
  have W := W.sub (M' := []) (Z' := []) (List.Sublist.refl _) (List.nil_sublist _)
  have H := L2 _ H
  exact ⟨H, F.re ⟨rfl, trivial⟩, W⟩
 rintro a w ⟨hj, F, W⟩
 have H := K1 _ hj
 clear hj G1 K1 L1
 refine Ai (Ac ?_)
 refine ls F W Aa (Ad F Aa).q fun a w F W => ?_
 refine Ae (Ab (Aw ?_))
 have H := AR H
 subst H
 refine AY (.inl Aa) F W Aa (As F Aa) ?_
 exact ⟨rfl, W.done⟩
theorem J0 : Has Tryd.prog 18 := ⟨fun args w => An Tryd.func18 rfl (by decide) args w⟩
noncomputable def B4 (p0 : List (Int × Int × Int × Int)) : (List UInt8 × Int) → Option ((List UInt8 × Int) ⊕ (List UInt8))
  | (x2, x3) => (if x3 < (p0.length : Int) then (ix p0 x3).bind fun x4 => (CZ x4).bind fun x5 => (CL x2 x5).bind fun x6 => some (.inl (x6, Bn (x3 + 1))) else some (.inr x2))
noncomputable def Dn (p0 : List (Int × Int × Int × Int)) : Option (List UInt8) := (AP (B4 p0) (([] : List UInt8), 0)).bind fun x1 => some x1
theorem Gv (Y : Nat → Prop) (w0 : World) (v1 : Value) (p0 : List (Int × Int × Int × Int)) (r : List UInt8) (H : Dn p0 = some r) (h_v1 : Sl w0 (NX []) CU v1 p0) :
    Calls Tryd.prog 20 #[v1] w0 fun e w' => e = .returned (.string (bs r)) ∧ Below w0.heap.size w0 w' := by
 refine enter Tryd.func20 Aa Tryd.ntmps20 Aa fun a F => ?_
 have W := Stw.start Y w0
 unfold Dn at H
 refine Ai (Ac ?_)
 refine ls F W Aa (Ad (v := Value.string (bs ([] : List UInt8))) F Aa).q fun a w F W => ?_
 refine Ae (Ab (Ai (Ac ?_)))
 refine ls F W Aa (Ad (v := Value.string (bs ([] : List UInt8))) F Aa).q fun a w F W => ?_
 refine Ae (Ab ?_)
 obtain ⟨o1, G1, K1⟩ := Ap H
 refine AL (fun a w => ∃ x1 : List UInt8, some (x1) = some o1 ∧ Fr 19 [] [(2, .string (bs ([] : List UInt8))), (3, .string (bs x1))] a ∧ Stw ⟨Y, [], w0⟩ [] [] w) ?_ ?_
 ·
  have H := G1
  clear G1 K1
  refine Ai (Ac ?_)
  refine ls F W Aa (Ad F Aa).q fun a w F W => ?_
  refine Ae (Ab (AC ?_))
  refine Bz H (fun s a w => Fr 19 [] [(0, v1), (2, .string (bs ([] : List UInt8))), (3, .string (bs s.1)), (4, .int .i64 s.2)] a ∧ Stw ⟨Y, [], w0⟩ [] [] w) ⟨F.re ⟨rfl, Aa, Aa, Aa, trivial⟩, W⟩ fun s o a w H L2 hR => ?_
  obtain ⟨x2, x3⟩ := s
  obtain ⟨F, W⟩ := hR
  have F : Fr 19 [] [(0, v1), (2, .string (bs ([] : List UInt8))), (3, .string (bs x2)), (4, .int .i64 x3)] a := F
  have W : Stw ⟨Y, [], w0⟩ [] [] w := W
  rw [B4] at H
  refine Ai (Ai (Ac ?_))
  iterate 2 refine ls F W Aa (Af F Aa).q fun a w F W => ?_
  refine ls F W Aa (CB (r := CU) (l := p0) GD Aa F Aa (AU h_v1)).q fun a w F W => ?_
  refine ls F W Aa (BR F Aa Aa).q fun a w F W => ?_
  refine Ae (Ab ?_)
  refine Ax F Aa (fun hb => ?_) fun hb => ?_
  ·
   have H := AN (A1 hb) H
   rw [hb] at F
   clear hb
   refine AE (Ab (Ai (AC (Ac ?_))))
   iterate 3 refine ls F W Aa (Af F Aa).q fun a w F W => ?_
   obtain ⟨x4, h1, H⟩ := Ap H
   refine ls F W Aa (BH (r := CU) IR F Aa Aa (AU h_v1) h1).q fun a w F W => ?_
   refine ls F W Aa (A9 (y := Value.agg #[.int .i64 x4.1, .int .i64 x4.2.1, .int .i64 x4.2.2.1, .int .i64 x4.2.2.2]) (j := 0) (i := x3) F Aa Aa (AU h_v1) h1 I0.to GU Aa).q fun a w F W => ?_
   obtain ⟨x5, h2, H⟩ := Ap H
   refine ls F W Aa (AK (v := Value.string (bs x5)) F JW Aa (fun w W => E9 any w x4 _ h2)) fun a w F W => ?_
   obtain ⟨x6, h3, H⟩ := Ap H
   refine ls F W Aa (BD (l := x2) (m := x5) F Aa Aa h3).q fun a w F W => ?_
   refine ls F W Aa (Ad F Aa).q fun a w F W => ?_
   refine Ae (AQ (Ab (Ac ?_)))
   refine ls F W Aa (Af F Aa).q fun a w F W => ?_
   refine ls F W Aa (Bo F Aa Aa Aa).q fun a w F W => ?_
   refine ls F W Aa (Ad F Aa).q fun a w F W => ?_
   refine Ae (Ab ?_)
   exact ⟨_, H, F.re ⟨rfl, Aa, Aa, Aa, trivial⟩, W⟩
  have H := AO (A0 hb) H
  rw [hb] at F
  clear hb
  refine BA ?_
  iterate 2 refine B0 ?_
  refine BB (Ab ?_)
  have H := L2 _ H
  exact ⟨_, H, F.re ⟨rfl, Aa, trivial⟩, W⟩
 rintro a w ⟨x1, hj, F, W⟩
 have hj := AR hj
 subst hj
 have H := K1
 clear G1 K1
 refine Ai (Ac ?_)
 refine ls F W Aa (Af F Aa).q fun a w F W => ?_
 refine ls F W Aa (Ad F Aa).q fun a w F W => ?_
 refine Ae (Ab (Aw ?_))
 have H := AR H
 subst H
 refine AY (.inl Aa) F W Aa (As F Aa) ?_
 exact ⟨rfl, W.done⟩
theorem J4 : Has Tryd.prog 20 := ⟨fun args w => An Tryd.func20 rfl (by decide) args w⟩
noncomputable def A6 (p1 : List (Int × Int × Int × Int)) : Int → Option (Int ⊕ (Unit ⊕ Bool))
  | x9 => (if x9 < (p1.length : Int) then (ix p1 x9).bind fun x10 => (if (decide (x10.1 < 1) || (decide (7 < x10.1) || (decide (x10.2.1 < 0) || (decide (1125899906842624 < x10.2.1) || (decide (x10.2.2.1 < 0) || (decide (1125899906842624 < x10.2.2.1) || (decide (x10.2.2.2 < 0) || decide (1125899906842624 < x10.2.2.2)))))))) = true then (B3).bind fun x11 => some (.inr (.inr x11)) else some (.inl (Bn (x9 + 1)))) else some (.inr (.inl ())))
noncomputable def BI (p0 : List UInt8) (p1 : List (Int × Int × Int × Int)) : Option Bool := (if (decide (600 < (p0.length : Int)) || decide (40 < (p1.length : Int))) = true then (B3).bind fun x1 => some x1 else (Be p0).bind fun x2 => (CW p0).bind fun x3 => ((CY x2.1 x3.1).bind fun x5 => (if (!x5) = true then some true else (if x2.2.1 ≠ x3.2.1 then some true else (if x2.2.2 ≠ x3.2.2 then some true else (CA p1).bind fun x6 => (Bc x6).bind fun x7 => (Dn p1).bind fun x8 => some (decide (x7 ≠ x8)))))).bind fun x4 => (if x4 = true then some false else Gz (AP (A6 p1) 0) fun _ => (CA p1).bind fun x12 => (Bc x12).bind fun x13 => (Be x13).bind fun x14 => (if x14.2.2 = 0 then (CY x14.1 p1).bind fun x16 => (if x16 = true then (B3).bind fun x17 => some x17 else some false) else some false).bind fun x15 => some x15))
theorem DC (Y : Nat → Prop) (w0 : World) (v1 : Value) (p0 : List UInt8) (p1 : List (Int × Int × Int × Int)) (r : Bool) (H : BI p0 p1 = some r) (h_v1 : Sl w0 (NX []) CU v1 p1) (hG : Gk [] w0) :
    Calls Tryd.prog 5 #[.string (bs p0), v1] w0 fun e w' => e = .returned (.bool r) ∧ Below w0.heap.size w0 w' := by
 refine enter Tryd.func5 Aa Tryd.ntmps5 Aa fun a F => ?_
 have W := Stw.start Y w0
 unfold BI at H
 refine Ai (Ac ?_)
 refine ls F W Aa (Ad F Aa).q fun a w F W => ?_
 refine Ae (Ab (Ai ?_))
 refine AL (fun a w => Fr 126 [] [(0, .string (bs p0)), (1, v1), (4, .bool false), (23, .bool (decide (600 < (p0.length : Int)) || decide (40 < (p1.length : Int))))] a ∧ Stw ⟨Y, [], w0⟩ [] [] w) ?_ ?_
 ·
  refine Ac ?_
  refine ls F W Aa (Af F Aa).q fun a w F W => ?_
  refine ls F W Aa (Eb (l := p0) Gw Aa F Aa).q fun a w F W => ?_
  refine ls F W Aa (DF F Aa Aa).q fun a w F W => ?_
  refine ls F W Aa (Af F Aa).q fun a w F W => ?_
  rcases Bool.eq_false_or_eq_true (decide (600 < (p0.length : Int))) with hb0 | hb0
  ·
   rw [hb0] at F
   iterate 3 refine Bg F Aa Aa Aa Aa Aa Aa Aa fun a F => ?_
   refine ls F W Aa (Am F Aa Aa Aa).q fun a w F W => ?_
   refine Ae (Ab ?_)
   exact ⟨F.re ⟨rfl, Aa, Aa, (by show some (Value.bool true) = some (Value.bool (decide (600 < (p0.length : Int)) || decide (40 < (p1.length : Int)))); try rw [hb0]; all_goals simp only [Bool.not_true, Bool.not_false, Bool.true_and, Bool.false_and, Bool.true_or, Bool.false_or, Bool.and_true, Bool.or_false, cond_true, cond_false]), trivial⟩, W⟩
  rw [hb0] at F
  refine Av F W (Ag F Aa Aa Aa Aa) Aa (Ao Aa) (Af F Aa).q fun a w F W => ?_
  refine Av F W (Ag F Aa Aa Aa Aa) Aa (Ao Aa) (CB (r := CU) (l := p1) GD Aa F Aa (AU h_v1)).q fun a w F W => ?_
  refine Av F W (Ag F Aa Aa Aa Aa) Aa (Ao Aa) (DF F Aa Aa).q fun a w F W => ?_
  refine ls F W Aa (Ak F Aa Aa Aa).q fun a w F W => ?_
  refine Ae (Ab ?_)
  exact ⟨F.re ⟨rfl, Aa, Aa, (by show some (Value.bool (decide (40 < (p1.length : Int)))) = some (Value.bool (decide (600 < (p0.length : Int)) || decide (40 < (p1.length : Int)))); try rw [hb0]; all_goals simp only [Bool.not_true, Bool.not_false, Bool.true_and, Bool.false_and, Bool.true_or, Bool.false_or, Bool.and_true, Bool.or_false, cond_true, cond_false]), trivial⟩, W⟩
 rintro a w ⟨F, W⟩
 refine Ax F Aa (fun hb => ?_) fun hb => ?_
 ·
  have H := AN hb H
  rw [hb] at F
  clear hb
  refine Ai (Ac ?_)
  obtain ⟨x1, h1, H⟩ := Ap H
  refine ls F W Aa (AK (v := Value.bool x1) F H6 Aa (fun w W => Dq any w _ h1 (hG.go0 W))) fun a w F W => ?_
  refine ls F W Aa (Ad F Aa).q fun a w F W => ?_
  refine Ae (Ab (Aw (AA ?_)))
  have H := AR H
  subst H
  refine AY (.inl Aa) F W Aa (As F Aa) ?_
  exact ⟨rfl, W.done⟩
 have H := AO (by rw [hb]; decide) H
 rw [hb] at F
 clear hb
 refine AE (Ab (Ai (Ac ?_)))
 refine ls F W Aa (Af F Aa).q fun a w F W => ?_
 obtain ⟨x2, h2, H⟩ := Ap H
 refine B9 (Ml := []) (Zl := []) (M := []) (Z := []) (β := Value) (rv := fun x => .tuple #[x, .int .i64 x2.2.1, .int .i64 x2.2.2]) (MM := fun x => []) (ZZ := fun x => [row x 34 B2 x2.1]) F W JV Aa Aa (fun hL => Dc _ w p0 _ h2 (hG.go0 W)) fun x a w F W => ?_
 obtain ⟨v2, rfl⟩ : ∃ y, y = x := ⟨x, rfl⟩
 have W : Stw ⟨Y, [], w0⟩ [] [row v2 34 B2 x2.1] w := W
 refine ls F W Aa (Af F Aa).q fun a w F W => ?_
 refine ls F W Aa (Ay (v := v2) F Aa Aa).q fun a w F W => ?_
 refine ls F W Aa (Ay (v := Value.int .i64 x2.2.1) F Aa Aa).q fun a w F W => ?_
 refine ls F W Aa (Ay (v := Value.int .i64 x2.2.2) F Aa Aa).q fun a w F W => ?_
 iterate 3 refine ls F W Aa (Ad F Aa).q fun a w F W => ?_
 refine Ae (Ab (Ai (Ac ?_)))
 refine ls F W Aa (Af F Aa).q fun a w F W => ?_
 obtain ⟨x3, h3, H⟩ := Ap H
 refine B9 (Ml := []) (Zl := []) (M := []) (Z := [row v2 34 B2 x2.1]) (β := Value) (rv := fun x => .tuple #[x, .int .i64 x3.2.1, .int .i64 x3.2.2]) (MM := fun x => []) (ZZ := fun x => [row x 37 CU x3.1]) F W Ko Aa Aa (fun hL => F2 _ w p0 _ h3) fun x a w F W => ?_
 obtain ⟨v3, rfl⟩ : ∃ y, y = x := ⟨x, rfl⟩
 have W : Stw ⟨Y, [], w0⟩ [] [row v3 37 CU x3.1, row v2 34 B2 x2.1] w := W
 refine ls F W Aa (Af F Aa).q fun a w F W => ?_
 refine ls F W Aa (Ay (v := v3) F Aa Aa).q fun a w F W => ?_
 refine ls F W Aa (Ay (v := Value.int .i64 x3.2.1) F Aa Aa).q fun a w F W => ?_
 refine ls F W Aa (Ay (v := Value.int .i64 x3.2.2) F Aa Aa).q fun a w F W => ?_
 iterate 3 refine ls F W Aa (Ad F Aa).q fun a w F W => ?_
 refine Ae (Ab (Ai ?_))
 obtain ⟨o1, G1, K1⟩ := Ap H
 refine AL (fun a w => ∃ x4 : Bool, some (x4) = some o1 ∧ Fr 126 [] [(1, v1), (4, .bool false), (58, .bool x4)] a ∧ Stw ⟨Y, [], w0⟩ [] [] w) ?_ ?_
 ·
  have H := G1
  clear G1 K1
  refine Ac ?_
  iterate 2 refine ls F W Aa (Af F Aa).q fun a w F W => ?_
  obtain ⟨x5, h4, H⟩ := Ap H
  refine ls F W Aa (AK (v := Value.bool x5) F J0 Aa (fun w W => EQ any w (v2) (v3) x2.1 x3.1 _ h4 (((A3 1 Aa) : FT _ _ _ _ _ _) w W).nx (((A3 0 Aa) : FT _ _ _ _ _ _) w W).nx)) fun a w F W => ?_
  refine ls F W Aa (Db F Aa).q fun a w F W => ?_
  refine ls F W Aa (Af F Aa).q fun a w F W => ?_
  rcases Bool.eq_false_or_eq_true (!x5) with hb | hb
  ·
   have H := AN hb H
   rw [hb] at F
   clear hb
   iterate 3 refine Bg F Aa Aa Aa Aa Aa Aa Aa fun a F => ?_
   refine ls F W Aa (Am F Aa Aa Aa).q fun a w F W => ?_
   refine ls F W Aa (Af F Aa).q fun a w F W => ?_
   iterate 3 refine Bg F Aa Aa Aa Aa Aa Aa Aa fun a F => ?_
   refine ls F W Aa (Am F Aa Aa Aa).q fun a w F W => ?_
   refine ls F W Aa (Af F Aa).q fun a w F W => ?_
   iterate 6 refine Bg F Aa Aa Aa Aa Aa Aa Aa fun a F => ?_
   refine ls F W Aa (Am F Aa Aa Aa).q fun a w F W => ?_
   refine Ae (Ab ?_)
   have W := W.sub (M' := []) (Z' := []) (List.Sublist.refl _) (List.nil_sublist _)
   exact ⟨_, H, F.re ⟨rfl, Aa, Aa, trivial⟩, W⟩
  have H := AO (by rw [hb]; decide) H
  rw [hb] at F
  clear hb
  iterate 2 refine Av F W (Ag F Aa Aa Aa Aa) Aa (Ao Aa) (Af F Aa).q fun a w F W => ?_
  refine Av F W (Ag F Aa Aa Aa Aa) Aa (Ao Aa) (DE F Aa Aa).q fun a w F W => ?_
  refine ls F W Aa (Ak F Aa Aa Aa).q fun a w F W => ?_
  refine ls F W Aa (Af F Aa).q fun a w F W => ?_
  rcases Bool.eq_false_or_eq_true (decide (x2.2.1 ≠ x3.2.1)) with hb | hb
  ·
   have H := AN (A1 hb) H
   rw [hb] at F
   clear hb
   iterate 3 refine Bg F Aa Aa Aa Aa Aa Aa Aa fun a F => ?_
   refine ls F W Aa (Am F Aa Aa Aa).q fun a w F W => ?_
   refine ls F W Aa (Af F Aa).q fun a w F W => ?_
   iterate 6 refine Bg F Aa Aa Aa Aa Aa Aa Aa fun a F => ?_
   refine ls F W Aa (Am F Aa Aa Aa).q fun a w F W => ?_
   refine Ae (Ab ?_)
   have W := W.sub (M' := []) (Z' := []) (List.Sublist.refl _) (List.nil_sublist _)
   exact ⟨_, H, F.re ⟨rfl, Aa, Aa, trivial⟩, W⟩
  have H := AO (A0 hb) H
  rw [hb] at F
  clear hb
  iterate 2 refine Av F W (Ag F Aa Aa Aa Aa) Aa (Ao Aa) (Af F Aa).q fun a w F W => ?_
  refine Av F W (Ag F Aa Aa Aa Aa) Aa (Ao Aa) (DE F Aa Aa).q fun a w F W => ?_
  refine ls F W Aa (Ak F Aa Aa Aa).q fun a w F W => ?_
  refine ls F W Aa (Af F Aa).q fun a w F W => ?_
  rcases Bool.eq_false_or_eq_true (decide (x2.2.2 ≠ x3.2.2)) with hb | hb
  ·
   have H := AN (A1 hb) H
   rw [hb] at F
   clear hb
   iterate 6 refine Bg F Aa Aa Aa Aa Aa Aa Aa fun a F => ?_
   refine ls F W Aa (Am F Aa Aa Aa).q fun a w F W => ?_
   refine Ae (Ab ?_)
   have W := W.sub (M' := []) (Z' := []) (List.Sublist.refl _) (List.nil_sublist _)
   exact ⟨_, H, F.re ⟨rfl, Aa, Aa, trivial⟩, W⟩
  have H := AO (A0 hb) H
  rw [hb] at F
  clear hb
  refine Av F W (Ag F Aa Aa Aa Aa) Aa (Ao Aa) (Af F Aa).q fun a w F W => ?_
  refine Ed (Ag F Aa Aa Aa Aa) ?_
  obtain ⟨x6, h5, H⟩ := Ap H
  refine B9 (Ml := []) (Zl := []) (M := []) (Z := [row v3 37 CU x3.1, row v2 34 B2 x2.1]) (β := Value) (rv := fun x => x) (MM := fun x => []) (ZZ := fun x => [row x 34 B2 x6]) F W H7 Aa Aa (fun hL => DJ _ w (v1) p1 _ h5 ((AU h_v1) w W).nx) fun x a w F W => ?_
  obtain ⟨v4, rfl⟩ : ∃ y, y = x := ⟨x, rfl⟩
  have W : Stw ⟨Y, [], w0⟩ [] [row v4 34 B2 x6, row v3 37 CU x3.1, row v2 34 B2 x2.1] w := W
  refine Ed (Ag F Aa Aa Aa Aa) ?_
  obtain ⟨x7, h6, H⟩ := Ap H
  refine ls F W Aa (AK (v := Value.string (bs x7)) F JJ Aa (fun w W => CD any w (v4) x6 _ h6 (((A3 0 Aa) : FT _ _ _ _ _ _) w W).nx (hG.go0 W))) fun a w F W => ?_
  refine Av F W (Ag F Aa Aa Aa Aa) Aa (Ao Aa) (Af F Aa).q fun a w F W => ?_
  refine Ed (Ag F Aa Aa Aa Aa) ?_
  obtain ⟨x8, h7, H⟩ := Ap H
  refine ls F W Aa (AK (v := Value.string (bs x8)) F J4 Aa (fun w W => Gv any w (v1) p1 _ h7 (((AU h_v1) : FT _ _ _ _ _ _) w W).nx)) fun a w F W => ?_
  refine Av F W (Ag F Aa Aa Aa Aa) Aa (Ao Aa) (IU (l := x7) (m := x8) F Aa Aa).q fun a w F W => ?_
  refine ls F W Aa (Ak F Aa Aa Aa).q fun a w F W => ?_
  refine Ae (Ab ?_)
  have W := W.sub (M' := []) (Z' := []) (List.Sublist.refl _) (List.nil_sublist _)
  exact ⟨_, H, F.re ⟨rfl, Aa, Aa, trivial⟩, W⟩
 rintro a w ⟨x4, hj, F, W⟩
 have hj := AR hj
 subst hj
 have H := K1
 clear G1 K1
 refine Ax F Aa (fun hb => ?_) fun hb => ?_
 ·
  have H := AN hb H
  rw [hb] at F
  clear hb
  refine Ai (Ac ?_)
  refine ls F W Aa (Ad F Aa).q fun a w F W => ?_
  refine Ae (Ab (Aw (AA ?_)))
  have H := AR H
  subst H
  refine AY (.inl Aa) F W Aa (As F Aa) ?_
  exact ⟨rfl, W.done⟩
 have H := AO (by rw [hb]; decide) H
 rw [hb] at F
 clear hb
 refine AE (Ab ?_)
 obtain ⟨o2, G2, K2, L2⟩ := IQ H
 refine AL (fun a w => some (Sum.inl ()) = some o2 ∧ Fr 126 [] [(1, v1), (4, .bool false)] a ∧ Stw ⟨Y, [], w0⟩ [] [] w) ?_ ?_
 ·
  have H := G2
  clear G2 K2
  refine Ai (Ac ?_)
  refine ls F W Aa (Ad F Aa).q fun a w F W => ?_
  refine Ae (Ab (AC ?_))
  refine Bz H (fun s a w => Fr 126 [] [(1, v1), (4, .bool false), (11, .int .i64 s)] a ∧ Stw ⟨Y, [], w0⟩ [] [] w) ⟨F.re ⟨rfl, Aa, Aa, trivial⟩, W⟩ fun s o a w H L3 hR => ?_
  obtain ⟨x9, rfl⟩ : ∃ x, x = s := ⟨s, rfl⟩
  obtain ⟨F, W⟩ := hR
  have F : Fr 126 [] [(1, v1), (4, .bool false), (11, .int .i64 x9)] a := F
  have W : Stw ⟨Y, [], w0⟩ [] [] w := W
  rw [A6] at H
  refine Ai (Ai (Ac ?_))
  iterate 2 refine ls F W Aa (Af F Aa).q fun a w F W => ?_
  refine ls F W Aa (CB (r := CU) (l := p1) GD Aa F Aa (AU h_v1)).q fun a w F W => ?_
  refine ls F W Aa (BR F Aa Aa).q fun a w F W => ?_
  refine Ae (Ab ?_)
  refine Ax F Aa (fun hb => ?_) fun hb => ?_
  ·
   have H := AN (A1 hb) H
   rw [hb] at F
   clear hb
   refine AE (Ab (Ai (AC (Ai (Ac ?_)))))
   iterate 2 refine ls F W Aa (Af F Aa).q fun a w F W => ?_
   obtain ⟨x10, h8, H⟩ := Ap H
   refine ls F W Aa (BH (r := CU) IR F Aa Aa (AU h_v1) h8).q fun a w F W => ?_
   refine ls F W Aa (A9 (y := Value.agg #[.int .i64 x10.1, .int .i64 x10.2.1, .int .i64 x10.2.2.1, .int .i64 x10.2.2.2]) (j := 0) (i := x9) F Aa Aa (AU h_v1) h8 I0.to GU Aa).q fun a w F W => ?_
   refine Bp (cs := [.int .i64 0, .int .i64 0, .int .i64 0, .int .i64 0]) F W Aa Jz Aa fun b1 a w F W => ?_
   refine AG (vs := [.int .i64 x10.1, .int .i64 x10.2.1, .int .i64 x10.2.2.1, .int .i64 x10.2.2.2]) (M' := [(b1, [.int .i64 x10.1, .int .i64 x10.2.1, .int .i64 x10.2.2.1, .int .i64 x10.2.2.2])]) 0 F W Aa Aa Aa GU Aa Aa Aa Aa Aa fun w W => ?_
   refine Ae (Ab ?_)
   refine AL (fun a w => Fr 126 [] [(1, v1), (4, .bool false), (11, .int .i64 x9), (106, .bool (decide (x10.1 < 1) || (decide (7 < x10.1) || (decide (x10.2.1 < 0) || (decide (1125899906842624 < x10.2.1) || (decide (x10.2.2.1 < 0) || (decide (1125899906842624 < x10.2.2.1) || (decide (x10.2.2.2 < 0) || decide (1125899906842624 < x10.2.2.2)))))))))] a ∧ Stw ⟨Y, [], w0⟩ [(b1, [.int .i64 x10.1, .int .i64 x10.2.1, .int .i64 x10.2.2.1, .int .i64 x10.2.2.2])] [] w) ?_ ?_
   ·
    refine Ac ?_
    refine ls F W Aa (Ah Cs Aa Aa Aa T3 F Aa 0 Aa).q fun a w F W => ?_
    refine ls F W Aa (Aq (v := Value.int .i64 x10.1) 0 F Aa Aa T3 Aa).q fun a w F W => ?_
    refine ls F W Aa (BR F Aa Aa).q fun a w F W => ?_
    refine ls F W Aa (Af F Aa).q fun a w F W => ?_
    rcases Bool.eq_false_or_eq_true (decide (x10.1 < 1)) with hb0 | hb0
    ·
     rw [hb0] at F
     iterate 3 refine Bg F Aa Aa Aa Aa Aa Aa Aa fun a F => ?_
     refine ls F W Aa (Am F Aa Aa Aa).q fun a w F W => ?_
     refine ls F W Aa (Af F Aa).q fun a w F W => ?_
     iterate 3 refine Bg F Aa Aa Aa Aa Aa Aa Aa fun a F => ?_
     refine ls F W Aa (Am F Aa Aa Aa).q fun a w F W => ?_
     refine ls F W Aa (Af F Aa).q fun a w F W => ?_
     iterate 3 refine Bg F Aa Aa Aa Aa Aa Aa Aa fun a F => ?_
     refine ls F W Aa (Am F Aa Aa Aa).q fun a w F W => ?_
     refine ls F W Aa (Af F Aa).q fun a w F W => ?_
     iterate 3 refine Bg F Aa Aa Aa Aa Aa Aa Aa fun a F => ?_
     refine ls F W Aa (Am F Aa Aa Aa).q fun a w F W => ?_
     refine ls F W Aa (Af F Aa).q fun a w F W => ?_
     iterate 3 refine Bg F Aa Aa Aa Aa Aa Aa Aa fun a F => ?_
     refine ls F W Aa (Am F Aa Aa Aa).q fun a w F W => ?_
     refine ls F W Aa (Af F Aa).q fun a w F W => ?_
     iterate 3 refine Bg F Aa Aa Aa Aa Aa Aa Aa fun a F => ?_
     refine ls F W Aa (Am F Aa Aa Aa).q fun a w F W => ?_
     refine ls F W Aa (Af F Aa).q fun a w F W => ?_
     iterate 3 refine Bg F Aa Aa Aa Aa Aa Aa Aa fun a F => ?_
     refine ls F W Aa (Am F Aa Aa Aa).q fun a w F W => ?_
     refine Ae (Ab ?_)
     exact ⟨F.re ⟨rfl, Aa, Aa, (by show some (Value.bool true) = some (Value.bool (decide (x10.1 < 1) || (decide (7 < x10.1) || (decide (x10.2.1 < 0) || (decide (1125899906842624 < x10.2.1) || (decide (x10.2.2.1 < 0) || (decide (1125899906842624 < x10.2.2.1) || (decide (x10.2.2.2 < 0) || decide (1125899906842624 < x10.2.2.2))))))))); try rw [hb0]; all_goals simp only [Bool.not_true, Bool.not_false, Bool.true_and, Bool.false_and, Bool.true_or, Bool.false_or, Bool.and_true, Bool.or_false, cond_true, cond_false]), trivial⟩, W⟩
    rw [hb0] at F
    refine Av F W (Ag F Aa Aa Aa Aa) Aa (Ao Aa) (Ah Cs Aa Aa Aa T3 F Aa 0 Aa).q fun a w F W => ?_
    refine Av F W (Ag F Aa Aa Aa Aa) Aa (Ao Aa) (Aq (v := Value.int .i64 x10.1) 0 F Aa Aa T3 Aa).q fun a w F W => ?_
    refine Av F W (Ag F Aa Aa Aa Aa) Aa (Ao Aa) (DF F Aa Aa).q fun a w F W => ?_
    refine ls F W Aa (Ak F Aa Aa Aa).q fun a w F W => ?_
    refine ls F W Aa (Af F Aa).q fun a w F W => ?_
    rcases Bool.eq_false_or_eq_true (decide (7 < x10.1)) with hb1 | hb1
    ·
     rw [hb1] at F
     iterate 3 refine Bg F Aa Aa Aa Aa Aa Aa Aa fun a F => ?_
     refine ls F W Aa (Am F Aa Aa Aa).q fun a w F W => ?_
     refine ls F W Aa (Af F Aa).q fun a w F W => ?_
     iterate 3 refine Bg F Aa Aa Aa Aa Aa Aa Aa fun a F => ?_
     refine ls F W Aa (Am F Aa Aa Aa).q fun a w F W => ?_
     refine ls F W Aa (Af F Aa).q fun a w F W => ?_
     iterate 3 refine Bg F Aa Aa Aa Aa Aa Aa Aa fun a F => ?_
     refine ls F W Aa (Am F Aa Aa Aa).q fun a w F W => ?_
     refine ls F W Aa (Af F Aa).q fun a w F W => ?_
     iterate 3 refine Bg F Aa Aa Aa Aa Aa Aa Aa fun a F => ?_
     refine ls F W Aa (Am F Aa Aa Aa).q fun a w F W => ?_
     refine ls F W Aa (Af F Aa).q fun a w F W => ?_
     iterate 3 refine Bg F Aa Aa Aa Aa Aa Aa Aa fun a F => ?_
     refine ls F W Aa (Am F Aa Aa Aa).q fun a w F W => ?_
     refine ls F W Aa (Af F Aa).q fun a w F W => ?_
     iterate 3 refine Bg F Aa Aa Aa Aa Aa Aa Aa fun a F => ?_
     refine ls F W Aa (Am F Aa Aa Aa).q fun a w F W => ?_
     refine Ae (Ab ?_)
     exact ⟨F.re ⟨rfl, Aa, Aa, (by show some (Value.bool true) = some (Value.bool (decide (x10.1 < 1) || (decide (7 < x10.1) || (decide (x10.2.1 < 0) || (decide (1125899906842624 < x10.2.1) || (decide (x10.2.2.1 < 0) || (decide (1125899906842624 < x10.2.2.1) || (decide (x10.2.2.2 < 0) || decide (1125899906842624 < x10.2.2.2))))))))); try rw [hb0]; try rw [hb1]; all_goals simp only [Bool.not_true, Bool.not_false, Bool.true_and, Bool.false_and, Bool.true_or, Bool.false_or, Bool.and_true, Bool.or_false, cond_true, cond_false]), trivial⟩, W⟩
    rw [hb1] at F
    refine Av F W (Ag F Aa Aa Aa Aa) Aa (Ao Aa) (Ah Cs Aa Aa Aa T3 F Aa 1 Aa).q fun a w F W => ?_
    refine Av F W (Ag F Aa Aa Aa Aa) Aa (Ao Aa) (Aq (v := Value.int .i64 x10.2.1) 0 F Aa Aa T3 Aa).q fun a w F W => ?_
    refine Av F W (Ag F Aa Aa Aa Aa) Aa (Ao Aa) (BR F Aa Aa).q fun a w F W => ?_
    refine ls F W Aa (Ak F Aa Aa Aa).q fun a w F W => ?_
    refine ls F W Aa (Af F Aa).q fun a w F W => ?_
    rcases Bool.eq_false_or_eq_true (decide (x10.2.1 < 0)) with hb2 | hb2
    ·
     rw [hb2] at F
     iterate 3 refine Bg F Aa Aa Aa Aa Aa Aa Aa fun a F => ?_
     refine ls F W Aa (Am F Aa Aa Aa).q fun a w F W => ?_
     refine ls F W Aa (Af F Aa).q fun a w F W => ?_
     iterate 3 refine Bg F Aa Aa Aa Aa Aa Aa Aa fun a F => ?_
     refine ls F W Aa (Am F Aa Aa Aa).q fun a w F W => ?_
     refine ls F W Aa (Af F Aa).q fun a w F W => ?_
     iterate 3 refine Bg F Aa Aa Aa Aa Aa Aa Aa fun a F => ?_
     refine ls F W Aa (Am F Aa Aa Aa).q fun a w F W => ?_
     refine ls F W Aa (Af F Aa).q fun a w F W => ?_
     iterate 3 refine Bg F Aa Aa Aa Aa Aa Aa Aa fun a F => ?_
     refine ls F W Aa (Am F Aa Aa Aa).q fun a w F W => ?_
     refine ls F W Aa (Af F Aa).q fun a w F W => ?_
     iterate 3 refine Bg F Aa Aa Aa Aa Aa Aa Aa fun a F => ?_
     refine ls F W Aa (Am F Aa Aa Aa).q fun a w F W => ?_
     refine Ae (Ab ?_)
     exact ⟨F.re ⟨rfl, Aa, Aa, (by show some (Value.bool true) = some (Value.bool (decide (x10.1 < 1) || (decide (7 < x10.1) || (decide (x10.2.1 < 0) || (decide (1125899906842624 < x10.2.1) || (decide (x10.2.2.1 < 0) || (decide (1125899906842624 < x10.2.2.1) || (decide (x10.2.2.2 < 0) || decide (1125899906842624 < x10.2.2.2))))))))); try rw [hb2]; try rw [hb0]; try rw [hb1]; all_goals simp only [Bool.not_true, Bool.not_false, Bool.true_and, Bool.false_and, Bool.true_or, Bool.false_or, Bool.and_true, Bool.or_false, cond_true, cond_false]), trivial⟩, W⟩
    rw [hb2] at F
    refine Av F W (Ag F Aa Aa Aa Aa) Aa (Ao Aa) (Ah Cs Aa Aa Aa T3 F Aa 1 Aa).q fun a w F W => ?_
    refine Av F W (Ag F Aa Aa Aa Aa) Aa (Ao Aa) (Aq (v := Value.int .i64 x10.2.1) 0 F Aa Aa T3 Aa).q fun a w F W => ?_
    refine Av F W (Ag F Aa Aa Aa Aa) Aa (Ao Aa) (DF F Aa Aa).q fun a w F W => ?_
    refine ls F W Aa (Ak F Aa Aa Aa).q fun a w F W => ?_
    refine ls F W Aa (Af F Aa).q fun a w F W => ?_
    rcases Bool.eq_false_or_eq_true (decide (1125899906842624 < x10.2.1)) with hb3 | hb3
    ·
     rw [hb3] at F
     iterate 3 refine Bg F Aa Aa Aa Aa Aa Aa Aa fun a F => ?_
     refine ls F W Aa (Am F Aa Aa Aa).q fun a w F W => ?_
     refine ls F W Aa (Af F Aa).q fun a w F W => ?_
     iterate 3 refine Bg F Aa Aa Aa Aa Aa Aa Aa fun a F => ?_
     refine ls F W Aa (Am F Aa Aa Aa).q fun a w F W => ?_
     refine ls F W Aa (Af F Aa).q fun a w F W => ?_
     iterate 3 refine Bg F Aa Aa Aa Aa Aa Aa Aa fun a F => ?_
     refine ls F W Aa (Am F Aa Aa Aa).q fun a w F W => ?_
     refine ls F W Aa (Af F Aa).q fun a w F W => ?_
     iterate 3 refine Bg F Aa Aa Aa Aa Aa Aa Aa fun a F => ?_
     refine ls F W Aa (Am F Aa Aa Aa).q fun a w F W => ?_
     refine Ae (Ab ?_)
     exact ⟨F.re ⟨rfl, Aa, Aa, (by show some (Value.bool true) = some (Value.bool (decide (x10.1 < 1) || (decide (7 < x10.1) || (decide (x10.2.1 < 0) || (decide (1125899906842624 < x10.2.1) || (decide (x10.2.2.1 < 0) || (decide (1125899906842624 < x10.2.2.1) || (decide (x10.2.2.2 < 0) || decide (1125899906842624 < x10.2.2.2))))))))); try rw [hb3]; try rw [hb2]; try rw [hb0]; try rw [hb1]; all_goals simp only [Bool.not_true, Bool.not_false, Bool.true_and, Bool.false_and, Bool.true_or, Bool.false_or, Bool.and_true, Bool.or_false, cond_true, cond_false]), trivial⟩, W⟩
    rw [hb3] at F
    refine Av F W (Ag F Aa Aa Aa Aa) Aa (Ao Aa) (Ah Cs Aa Aa Aa T3 F Aa 2 Aa).q fun a w F W => ?_
    refine Av F W (Ag F Aa Aa Aa Aa) Aa (Ao Aa) (Aq (v := Value.int .i64 x10.2.2.1) 0 F Aa Aa T3 Aa).q fun a w F W => ?_
    refine Av F W (Ag F Aa Aa Aa Aa) Aa (Ao Aa) (BR F Aa Aa).q fun a w F W => ?_
    refine ls F W Aa (Ak F Aa Aa Aa).q fun a w F W => ?_
    refine ls F W Aa (Af F Aa).q fun a w F W => ?_
    rcases Bool.eq_false_or_eq_true (decide (x10.2.2.1 < 0)) with hb4 | hb4
    ·
     rw [hb4] at F
     iterate 3 refine Bg F Aa Aa Aa Aa Aa Aa Aa fun a F => ?_
     refine ls F W Aa (Am F Aa Aa Aa).q fun a w F W => ?_
     refine ls F W Aa (Af F Aa).q fun a w F W => ?_
     iterate 3 refine Bg F Aa Aa Aa Aa Aa Aa Aa fun a F => ?_
     refine ls F W Aa (Am F Aa Aa Aa).q fun a w F W => ?_
     refine ls F W Aa (Af F Aa).q fun a w F W => ?_
     iterate 3 refine Bg F Aa Aa Aa Aa Aa Aa Aa fun a F => ?_
     refine ls F W Aa (Am F Aa Aa Aa).q fun a w F W => ?_
     refine Ae (Ab ?_)
     exact ⟨F.re ⟨rfl, Aa, Aa, (by show some (Value.bool true) = some (Value.bool (decide (x10.1 < 1) || (decide (7 < x10.1) || (decide (x10.2.1 < 0) || (decide (1125899906842624 < x10.2.1) || (decide (x10.2.2.1 < 0) || (decide (1125899906842624 < x10.2.2.1) || (decide (x10.2.2.2 < 0) || decide (1125899906842624 < x10.2.2.2))))))))); try rw [hb3]; try rw [hb4]; try rw [hb2]; try rw [hb0]; try rw [hb1]; all_goals simp only [Bool.not_true, Bool.not_false, Bool.true_and, Bool.false_and, Bool.true_or, Bool.false_or, Bool.and_true, Bool.or_false, cond_true, cond_false]), trivial⟩, W⟩
    rw [hb4] at F
    refine Av F W (Ag F Aa Aa Aa Aa) Aa (Ao Aa) (Ah Cs Aa Aa Aa T3 F Aa 2 Aa).q fun a w F W => ?_
    refine Av F W (Ag F Aa Aa Aa Aa) Aa (Ao Aa) (Aq (v := Value.int .i64 x10.2.2.1) 0 F Aa Aa T3 Aa).q fun a w F W => ?_
    refine Av F W (Ag F Aa Aa Aa Aa) Aa (Ao Aa) (DF F Aa Aa).q fun a w F W => ?_
    refine ls F W Aa (Ak F Aa Aa Aa).q fun a w F W => ?_
    refine ls F W Aa (Af F Aa).q fun a w F W => ?_
    rcases Bool.eq_false_or_eq_true (decide (1125899906842624 < x10.2.2.1)) with hb5 | hb5
    ·
     rw [hb5] at F
     iterate 3 refine Bg F Aa Aa Aa Aa Aa Aa Aa fun a F => ?_
     refine ls F W Aa (Am F Aa Aa Aa).q fun a w F W => ?_
     refine ls F W Aa (Af F Aa).q fun a w F W => ?_
     iterate 3 refine Bg F Aa Aa Aa Aa Aa Aa Aa fun a F => ?_
     refine ls F W Aa (Am F Aa Aa Aa).q fun a w F W => ?_
     refine Ae (Ab ?_)
     exact ⟨F.re ⟨rfl, Aa, Aa, (by show some (Value.bool true) = some (Value.bool (decide (x10.1 < 1) || (decide (7 < x10.1) || (decide (x10.2.1 < 0) || (decide (1125899906842624 < x10.2.1) || (decide (x10.2.2.1 < 0) || (decide (1125899906842624 < x10.2.2.1) || (decide (x10.2.2.2 < 0) || decide (1125899906842624 < x10.2.2.2))))))))); try rw [hb5]; try rw [hb3]; try rw [hb4]; try rw [hb2]; try rw [hb0]; try rw [hb1]; all_goals simp only [Bool.not_true, Bool.not_false, Bool.true_and, Bool.false_and, Bool.true_or, Bool.false_or, Bool.and_true, Bool.or_false, cond_true, cond_false]), trivial⟩, W⟩
    rw [hb5] at F
    refine Av F W (Ag F Aa Aa Aa Aa) Aa (Ao Aa) (Ah Cs Aa Aa Aa T3 F Aa 3 Aa).q fun a w F W => ?_
    refine Av F W (Ag F Aa Aa Aa Aa) Aa (Ao Aa) (Aq (v := Value.int .i64 x10.2.2.2) 0 F Aa Aa T3 Aa).q fun a w F W => ?_
    refine Av F W (Ag F Aa Aa Aa Aa) Aa (Ao Aa) (BR F Aa Aa).q fun a w F W => ?_
    refine ls F W Aa (Ak F Aa Aa Aa).q fun a w F W => ?_
    refine ls F W Aa (Af F Aa).q fun a w F W => ?_
    rcases Bool.eq_false_or_eq_true (decide (x10.2.2.2 < 0)) with hb6 | hb6
    ·
     rw [hb6] at F
     iterate 3 refine Bg F Aa Aa Aa Aa Aa Aa Aa fun a F => ?_
     refine ls F W Aa (Am F Aa Aa Aa).q fun a w F W => ?_
     refine Ae (Ab ?_)
     exact ⟨F.re ⟨rfl, Aa, Aa, (by show some (Value.bool true) = some (Value.bool (decide (x10.1 < 1) || (decide (7 < x10.1) || (decide (x10.2.1 < 0) || (decide (1125899906842624 < x10.2.1) || (decide (x10.2.2.1 < 0) || (decide (1125899906842624 < x10.2.2.1) || (decide (x10.2.2.2 < 0) || decide (1125899906842624 < x10.2.2.2))))))))); try rw [hb5]; try rw [hb3]; try rw [hb4]; try rw [hb6]; try rw [hb2]; try rw [hb0]; try rw [hb1]; all_goals simp only [Bool.not_true, Bool.not_false, Bool.true_and, Bool.false_and, Bool.true_or, Bool.false_or, Bool.and_true, Bool.or_false, cond_true, cond_false]), trivial⟩, W⟩
    rw [hb6] at F
    refine Av F W (Ag F Aa Aa Aa Aa) Aa (Ao Aa) (Ah Cs Aa Aa Aa T3 F Aa 3 Aa).q fun a w F W => ?_
    refine Av F W (Ag F Aa Aa Aa Aa) Aa (Ao Aa) (Aq (v := Value.int .i64 x10.2.2.2) 0 F Aa Aa T3 Aa).q fun a w F W => ?_
    refine Av F W (Ag F Aa Aa Aa Aa) Aa (Ao Aa) (DF F Aa Aa).q fun a w F W => ?_
    refine ls F W Aa (Ak F Aa Aa Aa).q fun a w F W => ?_
    refine Ae (Ab ?_)
    exact ⟨F.re ⟨rfl, Aa, Aa, (by show some (Value.bool (decide (1125899906842624 < x10.2.2.2))) = some (Value.bool (decide (x10.1 < 1) || (decide (7 < x10.1) || (decide (x10.2.1 < 0) || (decide (1125899906842624 < x10.2.1) || (decide (x10.2.2.1 < 0) || (decide (1125899906842624 < x10.2.2.1) || (decide (x10.2.2.2 < 0) || decide (1125899906842624 < x10.2.2.2))))))))); try rw [hb5]; try rw [hb3]; try rw [hb4]; try rw [hb6]; try rw [hb2]; try rw [hb0]; try rw [hb1]; all_goals simp only [Bool.not_true, Bool.not_false, Bool.true_and, Bool.false_and, Bool.true_or, Bool.false_or, Bool.and_true, Bool.or_false, cond_true, cond_false]), trivial⟩, W⟩
   rintro a w ⟨F, W⟩
   refine Ax F Aa (fun hb => ?_) fun hb => ?_
   ·
    have H := AN hb H
    rw [hb] at F
    clear hb
    refine Ai (Ac ?_)
    obtain ⟨x11, h9, H⟩ := Ap H
    refine ls F W Aa (AK (v := Value.bool x11) F H6 Aa (fun w W => Dq any w _ h9 (hG.go0 W))) fun a w F W => ?_
    refine ls F W Aa (Ad F Aa).q fun a w F W => ?_
    refine Ae (Ab (Aw (AH ?_)))
    iterate 2 refine AA ?_
    refine AH (AA ?_)
    have H := L3 _ H
    have H := L2 _ H
    have H := AR H
    subst H
    refine AY (.inl Aa) F W Aa (As F Aa) ?_
    exact ⟨rfl, W.done⟩
   have H := AO (by rw [hb]; decide) H
   rw [hb] at F
   clear hb
   refine AE (AQ (Ab (Ac ?_)))
   refine ls F W Aa (Af F Aa).q fun a w F W => ?_
   refine ls F W Aa (Bo F Aa Aa Aa).q fun a w F W => ?_
   refine ls F W Aa (Ad F Aa).q fun a w F W => ?_
   refine Ae (Ab ?_)
   have W := W.sub (M' := []) (Z' := []) (List.nil_sublist _) (List.Sublist.refl _)
   exact ⟨_, H, F.re ⟨rfl, Aa, Aa, trivial⟩, W⟩
  have H := AO (A0 hb) H
  rw [hb] at F
  clear hb
  refine BA ?_
  iterate 2 refine B0 ?_
  refine BB (Ab ?_)
  have H := L3 _ H
  exact ⟨H, F.re ⟨rfl, Aa, trivial⟩, W⟩
 rintro a w ⟨hj, F, W⟩
 have H := K2 _ hj
 clear hj G2 K2 L2
 refine Ai (Ac ?_)
 refine ls F W Aa (Af F Aa).q fun a w F W => ?_
 obtain ⟨x12, h10, H⟩ := Ap H
 refine B9 (Ml := []) (Zl := []) (M := []) (Z := []) (β := Value) (rv := fun x => x) (MM := fun x => []) (ZZ := fun x => [row x 34 B2 x12]) F W H7 Aa Aa (fun hL => DJ _ w (v1) p1 _ h10 ((AU h_v1) w W).nx) fun x a w F W => ?_
 obtain ⟨v5, rfl⟩ : ∃ y, y = x := ⟨x, rfl⟩
 have W : Stw ⟨Y, [], w0⟩ [] [row v5 34 B2 x12] w := W
 obtain ⟨x13, h11, H⟩ := Ap H
 refine ls F W Aa (AK (v := Value.string (bs x13)) F JJ Aa (fun w W => CD any w (v5) x12 _ h11 (((A3 0 Aa) : FT _ _ _ _ _ _) w W).nx (hG.go0 W))) fun a w F W => ?_
 obtain ⟨x14, h12, H⟩ := Ap H
 refine B9 (Ml := []) (Zl := []) (M := []) (Z := [row v5 34 B2 x12]) (β := Value) (rv := fun x => .tuple #[x, .int .i64 x14.2.1, .int .i64 x14.2.2]) (MM := fun x => []) (ZZ := fun x => [row x 34 B2 x14.1]) F W JV Aa Aa (fun hL => Dc _ w x13 _ h12 (hG.go0 W)) fun x a w F W => ?_
 obtain ⟨v6, rfl⟩ : ∃ y, y = x := ⟨x, rfl⟩
 have W : Stw ⟨Y, [], w0⟩ [] [row v6 34 B2 x14.1, row v5 34 B2 x12] w := W
 refine ls F W Aa (Af F Aa).q fun a w F W => ?_
 refine ls F W Aa (Ay (v := v6) F Aa Aa).q fun a w F W => ?_
 refine ls F W Aa (Ay (v := Value.int .i64 x14.2.1) F Aa Aa).q fun a w F W => ?_
 refine ls F W Aa (Ay (v := Value.int .i64 x14.2.2) F Aa Aa).q fun a w F W => ?_
 iterate 3 refine ls F W Aa (Ad F Aa).q fun a w F W => ?_
 refine Ae (Ab ?_)
 obtain ⟨o4, G4, K4⟩ := Ap H
 refine AL (fun a w => ∃ x15 : Bool, some (x15) = some o4 ∧ Fr 126 [] [(4, .bool x15)] a ∧ Stw ⟨Y, [], w0⟩ [] [] w) ?_ ?_
 ·
  have H := G4
  clear G4 K4
  refine Ac ?_
  refine ls F W Aa (Af F Aa).q fun a w F W => ?_
  refine ls F W Aa (A7 F Aa Aa).q fun a w F W => ?_
  refine ls F W Aa (Af F Aa).q fun a w F W => ?_
  rcases Bool.eq_false_or_eq_true (decide (x14.2.2 = 0)) with hb | hb
  ·
   have H := AN (A1 hb) H
   rw [hb] at F
   clear hb
   iterate 2 refine Av F W (Ag F Aa Aa Aa Aa) Aa (Ao Aa) (Af F Aa).q fun a w F W => ?_
   refine Ed (Ag F Aa Aa Aa Aa) ?_
   obtain ⟨x16, h13, H⟩ := Ap H
   refine ls F W Aa (AK (v := Value.bool x16) F J0 Aa (fun w W => EQ any w (v6) (v1) x14.1 p1 _ h13 (((A3 0 Aa) : FT _ _ _ _ _ _) w W).nx (((AU h_v1) : FT _ _ _ _ _ _) w W).nx)) fun a w F W => ?_
   refine ls F W Aa (Am F Aa Aa Aa).q fun a w F W => ?_
   refine ls F W Aa (Af F Aa).q fun a w F W => ?_
   rcases Bool.eq_false_or_eq_true x16 with hb | hb
   ·
    have H := AN hb H
    rw [hb] at F
    clear hb
    refine Ed (Ag F Aa Aa Aa Aa) ?_
    obtain ⟨x17, h14, H⟩ := Ap H
    refine ls F W Aa (AK (v := Value.bool x17) F H6 Aa (fun w W => Dq any w _ h14 (hG.go0 W))) fun a w F W => ?_
    refine ls F W Aa (Am F Aa Aa Aa).q fun a w F W => ?_
    refine ls F W Aa (Ad F Aa).q fun a w F W => ?_
    refine Ae (Ab ?_)
    have W := W.sub (M' := []) (Z' := []) (List.Sublist.refl _) (List.nil_sublist _)
    exact ⟨_, H, F.re ⟨rfl, trivial⟩, W⟩
   have H := AO (by rw [hb]; decide) H
   rw [hb] at F
   clear hb
   refine Bg F Aa Aa Aa Aa Aa Aa Aa fun a F => ?_
   refine ls F W Aa (Ak F Aa Aa Aa).q fun a w F W => ?_
   refine ls F W Aa (Ad F Aa).q fun a w F W => ?_
   refine Ae (Ab ?_)
   have W := W.sub (M' := []) (Z' := []) (List.Sublist.refl _) (List.nil_sublist _)
   exact ⟨_, H, F.re ⟨rfl, trivial⟩, W⟩
  have H := AO (A0 hb) H
  rw [hb] at F
  clear hb
  iterate 3 refine Bg F Aa Aa Aa Aa Aa Aa Aa fun a F => ?_
  refine ls F W Aa (Ak F Aa Aa Aa).q fun a w F W => ?_
  refine ls F W Aa (Af F Aa).q fun a w F W => ?_
  refine Bg F Aa Aa Aa Aa Aa Aa Aa fun a F => ?_
  refine ls F W Aa (Ak F Aa Aa Aa).q fun a w F W => ?_
  refine ls F W Aa (Ad F Aa).q fun a w F W => ?_
  refine Ae (Ab ?_)
  have W := W.sub (M' := []) (Z' := []) (List.Sublist.refl _) (List.nil_sublist _)
  exact ⟨_, H, F.re ⟨rfl, trivial⟩, W⟩
 rintro a w ⟨x15, hj, F, W⟩
 have hj := AR hj
 subst hj
 have H := K4
 clear G4 K4
 refine Aw ?_
 have H := AR H
 subst H
 refine AY (.inl Aa) F W Aa (As F Aa) ?_
 exact ⟨rfl, W.done⟩
end Go.Proofs.YtdllfdmdfdfilaaDoor
