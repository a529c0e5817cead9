/- The functions of layer 35, EJ. Conditions: none. -/
import Derived.Test.YtemacefkdopgaaacA0
namespace Go.Proofs.Ytemacefkdopgaaa
open Go Go.RowKit
set_option linter.unusedVariables false
set_option linter.unusedSimpArgs false
set_option maxRecDepth 20000
theorem LJ : Has Try.prog 42 := ⟨fun args w => An Try.func42 rfl (by decide) args w⟩
def Ct (p0 : Int) (p1 : Int) : Int := (if (Co p0) = true then (if (Co p1) = true then 0 else (-1)) else (if (Co p1) = true then 1 else (if p0 < p1 then (-1) else (if p1 < p0 then 1 else 0))))
theorem FK (Y : Nat → Prop) (w0 : World)  (p0 : Int) (p1 : Int) (r : Int) (H : Ct p0 p1 = r)  :
    Calls Try.prog 39 #[.int .i64 p0, .int .i64 p1] w0 fun e w' => e = .returned (.int .i64 r) ∧ Below w0.heap.size w0 w' := by
 refine enter Try.func39 Aa Try.ntmps39 Aa fun a F => ?_
 have W := Stw.start Y w0
 unfold Ct at H
 refine Ai (Ac ?_)
 refine ls F W Aa (Ag F Aa).q fun a w F W => ?_
 refine Ae (Ab (Ai (Ac ?_)))
 refine ls F W Aa (Ad F Aa).q fun a w F W => ?_
 refine ls F W Aa (B3 (v := Value.bool (Co p0)) F LJ Aa (fun w W => EK any w p0 _ Aa)) fun a w F W => ?_
 refine ls F W Aa (Ag F Aa).q fun a w F W => ?_
 refine Ae (Ab (Ai (Ac ?_)))
 refine ls F W Aa (Ad F Aa).q fun a w F W => ?_
 refine ls F W Aa (B3 (v := Value.bool (Co p1)) F LJ Aa (fun w W => EK any w p1 _ Aa)) fun a w F W => ?_
 refine ls F W Aa (Ag F Aa).q fun a w F W => ?_
 refine Ae (Ab (Ai (Ai (Ac ?_))))
 refine ls F W Aa (Ad F Aa).q fun a w F W => ?_
 refine Ae (Ab ?_)
 refine AC F Aa (fun hb => ?_) fun hb => ?_
 ·
  have H := A5 hb H
  rw [hb] at F
  clear hb
  refine Ai (Ai (Ac ?_))
  refine ls F W Aa (Ad F Aa).q fun a w F W => ?_
  refine Ae (Ab ?_)
  refine AC F Aa (fun hb => ?_) fun hb => ?_
  ·
   have H := A5 hb H
   rw [hb] at F
   clear hb
   refine Ai (Ac ?_)
   refine ls F W Aa (Ag F Aa).q fun a w F W => ?_
   refine Ae (Ab (AN ?_))
   iterate 2 refine AY ?_
   subst H
   refine Bz (.inl Aa) F W Aa (Az F Aa) ?_
   exact ⟨rfl, W.done⟩
  have H := A6 (by rw [hb]; decide) H
  rw [hb] at F
  clear hb
  refine As (Ab (Ai (Ac ?_)))
  refine ls F W Aa (Ag F Aa).q fun a w F W => ?_
  refine Ae (Ab (AN (AY ?_)))
  subst H
  refine Bz (.inl Aa) F W Aa (Az F Aa) ?_
  exact ⟨rfl, W.done⟩
 have H := A6 (by rw [hb]; decide) H
 rw [hb] at F
 clear hb
 refine As (Ab (Ai (Ai (Ac ?_))))
 refine ls F W Aa (Ad F Aa).q fun a w F W => ?_
 refine Ae (Ab ?_)
 refine AC F Aa (fun hb => ?_) fun hb => ?_
 ·
  have H := A5 hb H
  rw [hb] at F
  clear hb
  refine Ai (Ac ?_)
  refine ls F W Aa (Ag F Aa).q fun a w F W => ?_
  refine Ae (Ab (AN (AY ?_)))
  subst H
  refine Bz (.inl Aa) F W Aa (Az F Aa) ?_
  exact ⟨rfl, W.done⟩
 have H := A6 (by rw [hb]; decide) H
 rw [hb] at F
 clear hb
 refine As (Ab (Ai (Ai (Ac ?_))))
 iterate 2 refine ls F W Aa (Ad F Aa).q fun a w F W => ?_
 refine ls F W Aa (Bm F Aa Aa).q fun a w F W => ?_
 refine Ae (Ab ?_)
 refine AC F Aa (fun hb => ?_) fun hb => ?_
 ·
  have H := A5 (BJ hb) H
  rw [hb] at F
  clear hb
  refine Ai (Ac ?_)
  refine ls F W Aa (Ag F Aa).q fun a w F W => ?_
  refine Ae (Ab (AN (AY ?_)))
  subst H
  refine Bz (.inl Aa) F W Aa (Az F Aa) ?_
  exact ⟨rfl, W.done⟩
 have H := A6 (BK hb) H
 rw [hb] at F
 clear hb
 refine As (Ab (Ai (Ai (Ac ?_))))
 iterate 2 refine ls F W Aa (Ad F Aa).q fun a w F W => ?_
 refine ls F W Aa (DP F Aa Aa).q fun a w F W => ?_
 refine Ae (Ab ?_)
 refine AC F Aa (fun hb => ?_) fun hb => ?_
 ·
  have H := A5 (BJ hb) H
  rw [hb] at F
  clear hb
  refine Ai (Ac ?_)
  refine ls F W Aa (Ag F Aa).q fun a w F W => ?_
  refine Ae (Ab (AN (AY ?_)))
  subst H
  refine Bz (.inl Aa) F W Aa (Az F Aa) ?_
  exact ⟨rfl, W.done⟩
 have H := A6 (BK hb) H
 rw [hb] at F
 clear hb
 refine As (Ab (Ai (Ac ?_)))
 refine ls F W Aa (Ag F Aa).q fun a w F W => ?_
 refine Ae (Ab (AN ?_))
 subst H
 refine Bz (.inl Aa) F W Aa (Az F Aa) ?_
 exact ⟨rfl, W.done⟩
theorem LM : Has Try.prog 39 := ⟨fun args w => An Try.func39 rfl (by decide) args w⟩
def BC (p0 : Int × Int × Int × (Int × Int × Int × Int) × Int × Int) (p1 : Int × Int × Int × (Int × Int × Int × Int) × Int × Int) : Int := (Ct p0.2.2.2.2.2 p1.2.2.2.2.2)
theorem Da (Y : Nat → Prop) (w0 : World)  (p0 : Int × Int × Int × (Int × Int × Int × Int) × Int × Int) (p1 : Int × Int × Int × (Int × Int × Int × Int) × Int × Int) (r : Int) (H : BC p0 p1 = r)  :
    Calls Try.prog 29 #[.agg #[.int .i64 p0.1, .int .i64 p0.2.1, .int .i64 p0.2.2.1, .int .i64 p0.2.2.2.1.1, .int .i64 p0.2.2.2.1.2.1, .int .i64 p0.2.2.2.1.2.2.1, .int .i64 p0.2.2.2.1.2.2.2, .int .i64 p0.2.2.2.2.1, .int .i64 p0.2.2.2.2.2], .agg #[.int .i64 p1.1, .int .i64 p1.2.1, .int .i64 p1.2.2.1, .int .i64 p1.2.2.2.1.1, .int .i64 p1.2.2.2.1.2.1, .int .i64 p1.2.2.2.1.2.2.1, .int .i64 p1.2.2.2.1.2.2.2, .int .i64 p1.2.2.2.2.1, .int .i64 p1.2.2.2.2.2]] w0 fun e w' => e = .returned (.int .i64 r) ∧ Below w0.heap.size w0 w' := by
 refine enter Try.func29 Aa Try.ntmps29 Aa fun a F => ?_
 have W := Stw.start Y w0
 unfold BC at H
 refine Ai (Ac ?_)
 refine DW (cs := (DQ p0)) F W Aa Aa Aa fun b1 a w F W => ?_
 refine DW (cs := (DQ p1)) F W Aa Aa Aa fun b2 a w F W => ?_
 refine ls F W Aa (Ag F Aa).q fun a w F W => ?_
 refine Ae (Ab (Ai (Ac ?_)))
 refine ls F W Aa (Ah Ge Aa Aa Aa T3 F Aa 8 Aa).q fun a w F W => ?_
 refine ls F W Aa (Ao (v := Value.int .i64 p0.2.2.2.2.2) 1 F Aa Aa T3 Aa).q fun a w F W => ?_
 refine ls F W Aa (Ah Ge Aa Aa Aa T3 F Aa 8 Aa).q fun a w F W => ?_
 refine ls F W Aa (Ao (v := Value.int .i64 p1.2.2.2.2.2) 0 F Aa Aa T3 Aa).q fun a w F W => ?_
 refine ls F W Aa (B3 (v := Value.int .i64 (Ct p0.2.2.2.2.2 p1.2.2.2.2.2)) F LM Aa (fun w W => FK any w p0.2.2.2.2.2 p1.2.2.2.2.2 _ Aa)) fun a w F W => ?_
 refine ls F W Aa (Ag F Aa).q fun a w F W => ?_
 refine Ae (Ab (AN ?_))
 subst H
 refine Bz (.inl Aa) F W Aa (Az F Aa) ?_
 exact ⟨rfl, W.done⟩
theorem KE : Has Try.prog 29 := ⟨fun args w => An Try.func29 rfl (by decide) args w⟩
abbrev J8 (a0 : Nat) (a1 : Int × Int × Int × (Int × Int × Int × Int) × Int × Int) (a2 : Nat) : List (Nat × List Value) := [(a0, [.int .i64 a1.1, .int .i64 a1.2.1, .int .i64 a1.2.2.1, .int .i64 a1.2.2.2.1.1, .int .i64 a1.2.2.2.1.2.1, .int .i64 a1.2.2.2.1.2.2.1, .int .i64 a1.2.2.2.1.2.2.2, .int .i64 a1.2.2.2.2.1, .int .i64 a1.2.2.2.2.2]), (a2, [.int .i64 0, .int .i64 0, .int .i64 0, .int .i64 0, .int .i64 0, .int .i64 0, .int .i64 0, .int .i64 0, .int .i64 0])]
abbrev GW (a0 : Int) (a1 : Int) (a2 : Int) (a3 : Int) (a4 : Int) (a5 : Int) (a6 : Int) (a7 : Int) (a8 : Int) : List Value := [.int .i64 a0, .int .i64 a1, .int .i64 a2, .int .i64 a3, .int .i64 a4, .int .i64 a5, .int .i64 a6, .int .i64 a7, .int .i64 a8]
noncomputable def AV (p0 : List (Int × Int × Int × (Int × Int × Int × Int) × Int × Int)) : (Int × Int × Int × Int × Int × Int × Int × Int × Int × Int) → Option ((Int × Int × Int × Int × Int × Int × Int × Int × Int × Int) ⊕ (Int × Int × Int × Int × Int × Int × Int × Int × Int))
  | (x11, x12, x13, x14, x15, x16, x17, x18, x19, x20) => (if x11 < (p0.length : Int) then ((ix p0 x11).bind fun x30 => (if (BC x30 (x12, x13, x14, (x15, x16, x17, x18), x19, x20)) < 0 then (ix p0 x11).bind fun x31 => some (x31.1, x31.2.1, x31.2.2.1, x31.2.2.2.1.1, x31.2.2.2.1.2.1, x31.2.2.2.1.2.2.1, x31.2.2.2.1.2.2.2, x31.2.2.2.2.1, x31.2.2.2.2.2) else some (x12, x13, x14, x15, x16, x17, x18, x19, x20))).bind fun (x21, x22, x23, x24, x25, x26, x27, x28, x29) => some (.inl (Ay (x11 + 1), x21, x22, x23, x24, x25, x26, x27, x28, x29)) else some (.inr (x12, x13, x14, x15, x16, x17, x18, x19, x20)))
noncomputable def AH (p0 : List (Int × Int × Int × (Int × Int × Int × Int) × Int × Int)) : Option (Int × Int × Int × (Int × Int × Int × Int) × Int × Int) := (if (p0.length : Int) < 1 then none else (ix p0 0).bind fun x1 => (AM (AV p0) (1, x1.1, x1.2.1, x1.2.2.1, x1.2.2.2.1.1, x1.2.2.2.1.2.1, x1.2.2.2.1.2.2.1, x1.2.2.2.1.2.2.2, x1.2.2.2.2.1, x1.2.2.2.2.2)).bind fun (x2, x3, x4, x5, x6, x7, x8, x9, x10) => some (x2, x3, x4, (x5, x6, x7, x8), x9, x10))
theorem Df (Y : Nat → Prop) (w0 : World) (v1 : Value) (p0 : List (Int × Int × Int × (Int × Int × Int × Int) × Int × Int)) (r : (Int × Int × Int × (Int × Int × Int × Int) × Int × Int)) (H : AH p0 = some r) (h_v1 : Sl w0 (NX []) AB v1 p0) :
    Calls Try.prog 28 #[v1, .func (.func 29) #[] #[]] w0 fun e w' => e = .returned (.agg #[.int .i64 r.1, .int .i64 r.2.1, .int .i64 r.2.2.1, .int .i64 r.2.2.2.1.1, .int .i64 r.2.2.2.1.2.1, .int .i64 r.2.2.2.1.2.2.1, .int .i64 r.2.2.2.1.2.2.2, .int .i64 r.2.2.2.2.1, .int .i64 r.2.2.2.2.2]) ∧ Below w0.heap.size w0 w' := by
 refine enter Try.func28 Aa Try.ntmps28 Aa fun a F => ?_
 have W := Stw.start Y w0
 unfold AH at H
 refine Ai (Ac ?_)
 refine BZ (cs := (CD)) F W Aa Hg Aa fun b1 a w F W => ?_
 refine Ae (Ab (Ai (Ai (Ac ?_))))
 refine ls F W Aa (Ad F Aa).q fun a w F W => ?_
 refine ls F W Aa (Cp (r := AB) (l := p0) Gf Aa F Aa (Ap h_v1)).q fun a w F W => ?_
 refine ls F W Aa (Bm F Aa Aa).q fun a w F W => ?_
 refine Ae (Ab ?_)
 refine AC F Aa (fun hb => ?_) fun hb => ?_
 ·
  have H := A5 (BJ hb) H
  rw [hb] at F
  clear hb
  refine Ac ?_
  refine ls F W Aa (HQ I9 F Aa).q fun a w F W => ?_
  exact nomatch H
 have H := A6 (BK hb) H
 rw [hb] at F
 clear hb
 refine As (Ab (Ai (Ac ?_)))
 refine ls F W Aa (Ad F Aa).q fun a w F W => ?_
 obtain ⟨x1, h1, H⟩ := Al H
 refine ls F W Aa (AW (r := AB) Ea F Aa Aa (Ap h_v1) h1).q fun a w F W => ?_
 refine ls F W Aa (Av (y := Value.agg #[.int .i64 x1.1, .int .i64 x1.2.1, .int .i64 x1.2.2.1, .int .i64 x1.2.2.2.1.1, .int .i64 x1.2.2.2.1.2.1, .int .i64 x1.2.2.2.1.2.2.1, .int .i64 x1.2.2.2.1.2.2.2, .int .i64 x1.2.2.2.2.1, .int .i64 x1.2.2.2.2.2]) (j := 0) (i := 0) F Aa Aa (Ap h_v1) h1 EM.to Dk Aa).q fun a w F W => ?_
 refine BZ (cs := (CD)) F W Aa Hg Aa fun b2 a w F W => ?_
 refine Bl (vs := (DQ x1)) (M' := (J8 b2 x1 b1)) 0 F W Aa Aa Aa Dk Aa Aa Aa Aa Aa fun w W => ?_
 refine Ae (Ab ?_)
 obtain ⟨o1, G1, K1⟩ := Al H
 refine AO (fun a w => ∃ x2 : Int, ∃ x3 : Int, ∃ x4 : Int, ∃ x5 : Int, ∃ x6 : Int, ∃ x7 : Int, ∃ x8 : Int, ∃ x9 : Int, ∃ x10 : Int, some ((x2, x3, x4, x5, x6, x7, x8, x9, x10)) = some o1 ∧ Fr 33 [] [(4, .pointer (some ⟨b1, 0, none⟩)), (5, .pointer (some ⟨b2, 0, none⟩))] a ∧ Stw ⟨Y, [], w0⟩ [(b2, (GW x2 x3 x4 x5 x6 x7 x8 x9 x10)), (b1, (CD))] [] w) ?_ ?_
 ·
  have H := G1
  clear G1 K1
  refine Ai (Ac ?_)
  refine ls F W Aa (Ag F Aa).q fun a w F W => ?_
  refine Ae (Ab (AA ?_))
  have W := W.frontM (i := 1) Aa Aa
  have W := W.frontM (i := 1) Aa Aa
  refine BG H (fun s a w => Fr 33 [] [(0, v1), (1, .func (.func 29) #[] #[]), (4, .pointer (some ⟨b1, 0, none⟩)), (5, .pointer (some ⟨b2, 0, none⟩)), (6, .int .i64 s.1)] a ∧ Stw ⟨Y, [], w0⟩ [(b2, [.int .i64 s.2.1, .int .i64 s.2.2.1, .int .i64 s.2.2.2.1, .int .i64 s.2.2.2.2.1, .int .i64 s.2.2.2.2.2.1, .int .i64 s.2.2.2.2.2.2.1, .int .i64 s.2.2.2.2.2.2.2.1, .int .i64 s.2.2.2.2.2.2.2.2.1, .int .i64 s.2.2.2.2.2.2.2.2.2]), (b1, (CD))] [] w) ⟨F.re ⟨rfl, Aa, Aa, Aa, Aa, trivial⟩, W⟩ fun s o a w H L2 hR => ?_
  obtain ⟨x11, x12, x13, x14, x15, x16, x17, x18, x19, x20⟩ := s
  obtain ⟨F, W⟩ := hR
  have F : Fr 33 [] [(0, v1), (1, .func (.func 29) #[] #[]), (4, .pointer (some ⟨b1, 0, none⟩)), (5, .pointer (some ⟨b2, 0, none⟩)), (6, .int .i64 x11)] a := F
  have W : Stw ⟨Y, [], w0⟩ [(b2, (GW x12 x13 x14 x15 x16 x17 x18 x19 x20)), (b1, (CD))] [] w := W
  rw [AV] at H
  refine Ai (Ai (Ac ?_))
  iterate 2 refine ls F W Aa (Ad F Aa).q fun a w F W => ?_
  refine ls F W Aa (Cp (r := AB) (l := p0) Gf Aa F Aa (Ap h_v1)).q fun a w F W => ?_
  refine ls F W Aa (Bm F Aa Aa).q fun a w F W => ?_
  refine Ae (Ab ?_)
  refine AC F Aa (fun hb => ?_) fun hb => ?_
  ·
   have H := A5 (BJ hb) H
   rw [hb] at F
   clear hb
   refine As (Ab ?_)
   obtain ⟨o3, G3, K3⟩ := Al H
   refine AO (fun a w => ∃ x21 : Int, ∃ x22 : Int, ∃ x23 : Int, ∃ x24 : Int, ∃ x25 : Int, ∃ x26 : Int, ∃ x27 : Int, ∃ x28 : Int, ∃ x29 : Int, some ((x21, x22, x23, x24, x25, x26, x27, x28, x29)) = some o3 ∧ Fr 33 [] [(0, v1), (1, .func (.func 29) #[] #[]), (4, .pointer (some ⟨b1, 0, none⟩)), (5, .pointer (some ⟨b2, 0, none⟩)), (6, .int .i64 x11)] a ∧ Stw ⟨Y, [], w0⟩ [(b2, (GW x21 x22 x23 x24 x25 x26 x27 x28 x29)), (b1, (CD))] [] w) ?_ ?_
   ·
    have H := G3
    clear G3 K3
    refine AA (Ai ?_)
    refine CB W MO (by kernel_rfl) ?_
    iterate 3 refine qs F Aa (Ad F Aa).q fun a F => ?_
    obtain ⟨x30, h2, H⟩ := Al H
    refine qs F Aa (AW (r := AB) Ea F Aa Aa (Ap h_v1) h2).q fun a F => ?_
    refine qs F Aa (Av (y := Value.agg #[.int .i64 x30.1, .int .i64 x30.2.1, .int .i64 x30.2.2.1, .int .i64 x30.2.2.2.1.1, .int .i64 x30.2.2.2.1.2.1, .int .i64 x30.2.2.2.1.2.2.1, .int .i64 x30.2.2.2.1.2.2.2, .int .i64 x30.2.2.2.2.1, .int .i64 x30.2.2.2.2.2]) (j := 0) (i := x11) F Aa Aa (Ap h_v1) h2 EM.to Dk Aa).q fun a F => ?_
    refine qs F Aa (Ao (v := Value.agg #[.int .i64 x12, .int .i64 x13, .int .i64 x14, .int .i64 x15, .int .i64 x16, .int .i64 x17, .int .i64 x18, .int .i64 x19, .int .i64 x20]) 0 F Aa Aa Dk Aa).q fun a F => ?_
    refine qs F Aa (E7 (ws := [.agg #[.int .i64 x30.1, .int .i64 x30.2.1, .int .i64 x30.2.2.1, .int .i64 x30.2.2.2.1.1, .int .i64 x30.2.2.2.1.2.1, .int .i64 x30.2.2.2.1.2.2.1, .int .i64 x30.2.2.2.1.2.2.2, .int .i64 x30.2.2.2.2.1, .int .i64 x30.2.2.2.2.2], .agg #[.int .i64 x12, .int .i64 x13, .int .i64 x14, .int .i64 x15, .int .i64 x16, .int .i64 x17, .int .i64 x18, .int .i64 x19, .int .i64 x20]]) (v := Value.int .i64 (BC x30 (x12, x13, x14, (x15, x16, x17, x18), x19, x20))) F KE Aa (fun w W => Da any w x30 (x12, x13, x14, (x15, x16, x17, x18), x19, x20) _ Aa)) fun a F => ?_
    refine qs F Aa (Bm F Aa Aa).q fun a F => ?_
    refine BL fun w W => ?_
    refine Ab ?_
    refine AC F Aa (fun hb => ?_) fun hb => ?_
    ·
     have H := A5 (BJ hb) H
     rw [hb] at F
     clear hb
     refine Ac ?_
     iterate 2 refine ls F W Aa (Ad F Aa).q fun a w F W => ?_
     obtain ⟨x31, h3, H⟩ := Al H
     refine ls F W Aa (AW (r := AB) Ea F Aa Aa (Ap h_v1) h3).q fun a w F W => ?_
     refine ls F W Aa (Av (y := Value.agg #[.int .i64 x31.1, .int .i64 x31.2.1, .int .i64 x31.2.2.1, .int .i64 x31.2.2.2.1.1, .int .i64 x31.2.2.2.1.2.1, .int .i64 x31.2.2.2.1.2.2.1, .int .i64 x31.2.2.2.1.2.2.2, .int .i64 x31.2.2.2.2.1, .int .i64 x31.2.2.2.2.2]) (j := 0) (i := x11) F Aa Aa (Ap h_v1) h3 EM.to Dk Aa).q fun a w F W => ?_
     refine Bl (vs := (DQ x31)) (M' := (J8 b2 x31 b1)) 0 F W Aa Aa Aa Dk Aa Aa Aa Aa Aa fun w W => ?_
     refine Ae (AZ (Ab ?_))
     have W := W.frontM (i := 1) Aa Aa
     have W := W.frontM (i := 1) Aa Aa
     exact ⟨_, _, _, _, _, _, _, _, _, H, F.re ⟨rfl, Aa, Aa, Aa, Aa, trivial⟩, W⟩
    have H := A6 (BK hb) H
    rw [hb] at F
    clear hb
    refine As (AZ (Ab ?_))
    have W := W.frontM (i := 1) Aa Aa
    have W := W.frontM (i := 1) Aa Aa
    exact ⟨_, _, _, _, _, _, _, _, _, H, F.re ⟨rfl, Aa, Aa, Aa, Aa, trivial⟩, W⟩
   rintro a w ⟨x21, x22, x23, x24, x25, x26, x27, x28, x29, hj, F, W⟩
   have hj := Bg hj
   subst hj
   have H := K3
   clear G3 K3
   refine Ac ?_
   refine ls F W Aa (Ad F Aa).q fun a w F W => ?_
   refine ls F W Aa (BE F Aa Aa Aa).q fun a w F W => ?_
   refine ls F W Aa (Ag F Aa).q fun a w F W => ?_
   refine Ae (Ab ?_)
   have W := W.frontM (i := 1) Aa Aa
   have W := W.frontM (i := 1) Aa Aa
   exact ⟨_, H, F.re ⟨rfl, Aa, Aa, Aa, Aa, trivial⟩, W⟩
  have H := A6 (BK hb) H
  rw [hb] at F
  clear hb
  refine BF ?_
  iterate 2 refine Cf ?_
  refine BI (Ab ?_)
  have W := W.frontM (i := 1) Aa Aa
  have W := W.frontM (i := 1) Aa Aa
  have H := L2 _ H
  exact ⟨_, _, _, _, _, _, _, _, _, H, F.re ⟨rfl, Aa, trivial⟩, W⟩
 rintro a w ⟨x2, x3, x4, x5, x6, x7, x8, x9, x10, hj, F, W⟩
 have hj := Bg hj
 subst hj
 have H := K1
 clear G1 K1
 refine Ai (Ac ?_)
 refine ls F W Aa (Ao (v := Value.agg #[.int .i64 x2, .int .i64 x3, .int .i64 x4, .int .i64 x5, .int .i64 x6, .int .i64 x7, .int .i64 x8, .int .i64 x9, .int .i64 x10]) 0 F Aa Aa Dk Aa).q fun a w F W => ?_
 refine Bl (vs := (GW x2 x3 x4 x5 x6 x7 x8 x9 x10)) (M' := [(b2, (GW x2 x3 x4 x5 x6 x7 x8 x9 x10)), (b1, (GW x2 x3 x4 x5 x6 x7 x8 x9 x10))]) 1 F W Aa Aa Aa Dk Aa Aa Aa Aa Aa fun w W => ?_
 refine Ae (Ab (AN ?_))
 have H := Bg H
 subst H
 refine Bz (.inl Aa) F W Aa (Ei 1 F Aa Aa Dk Aa) ?_
 exact ⟨rfl, W.done⟩
theorem Md : Has Try.prog 28 := ⟨fun args w => An Try.func28 rfl (by decide) args w⟩
noncomputable def BS (p0 : (Int × (List (Int × Int × Int × Int × Int × Int)) × (List (Int × Int))) × (List (Int × Int × Int × (Int × Int × Int × Int) × Int × Int))) : Option Int := (if (BN p0) = 0 then some (-1) else (AH p0.2).bind fun x1 => some x1.2.2.2.2.2)
theorem Dw (Y : Nat → Prop) (w0 : World) (q_p0 : Nat) (v1 : Value) (v2 : Value) (v3 : Value) (p0 : (Int × (List (Int × Int × Int × Int × Int × Int)) × (List (Int × Int))) × (List (Int × Int × Int × (Int × Int × Int × Int) × Int × Int))) (r : Int) (H : BS p0 = some r) (h_v1 : Sl w0 (NX []) Bx v1 p0.1.2.1) (h_v2 : Sl w0 (NX []) Cb v2 p0.1.2.2) (h_v3 : Sl w0 (NX []) AB v3 p0.2) (a_q_p0 : At ⟨Y, [], w0⟩ q_p0 0 [.int .i64 p0.1.1, v1, v2, v3]) :
    Calls Try.prog 12 #[.pointer (some ⟨q_p0, 0, none⟩)] w0 fun e w' => e = .returned (.int .i64 r) ∧ Below w0.heap.size w0 w' := by
 refine enter Try.func12 Aa Try.ntmps12 Aa fun a F => ?_
 have W := Stw.start Y w0
 unfold BS at H
 refine Ai (Ac ?_)
 refine ls F W Aa (Ag F Aa).q fun a w F W => ?_
 refine Ae (Ab (Ai (Ai (Ac ?_))))
 refine ls F W Aa (Ad F Aa).q fun a w F W => ?_
 refine ls F W Aa (B3 (v := Value.int .i64 (BN p0)) F Lx Aa (fun w W => Ew any w q_p0 (v1) (v2) (v3) p0 _ Aa (((Ap h_v1) : DT _ _ _ _ _ _) w W).nx (((Ap h_v2) : DT _ _ _ _ _ _) w W).nx (((Ap h_v3) : DT _ _ _ _ _ _) w W).nx (At.re a_q_p0 W))) fun a w F W => ?_
 refine ls F W Aa (Cm F Aa Aa).q fun a w F W => ?_
 refine Ae (Ab ?_)
 refine AC F Aa (fun hb => ?_) fun hb => ?_
 ·
  have H := A5 (BJ hb) H
  rw [hb] at F
  clear hb
  refine Ai (Ac ?_)
  refine ls F W Aa (Ag F Aa).q fun a w F W => ?_
  refine Ae (Ab (AN (AY ?_)))
  have H := Bg H
  subst H
  refine Bz (.inl Aa) F W Aa (Az F Aa) ?_
  exact ⟨rfl, W.done⟩
 have H := A6 (BK hb) H
 rw [hb] at F
 clear hb
 refine As (Ab (Ai (Ac ?_)))
 refine ls F W Aa (Ad F Aa).q fun a w F W => ?_
 refine ls F W Aa (Ca F Aa).q fun a w F W => ?_
 refine ls F W Aa (Ah FM Aa Aa Aa GI F Aa 3 Aa).q fun a w F W => ?_
 refine ls F W Aa (E6 (y := v3) (j := 3) F Aa (Nat.zero_add _).symm a_q_p0 GI Aa).q fun a w F W => ?_
 obtain ⟨x1, h1, H⟩ := Al H
 refine ls F W Aa (B3 (v := Value.agg #[.int .i64 x1.1, .int .i64 x1.2.1, .int .i64 x1.2.2.1, .int .i64 x1.2.2.2.1.1, .int .i64 x1.2.2.2.1.2.1, .int .i64 x1.2.2.2.1.2.2.1, .int .i64 x1.2.2.2.1.2.2.2, .int .i64 x1.2.2.2.2.1, .int .i64 x1.2.2.2.2.2]) F Md Aa (fun w W => Df any w (v3) p0.2 _ h1 (((Ap h_v3) : DT _ _ _ _ _ _) w W).nx)) fun a w F W => ?_
 refine ls F W Aa (JW (v := Value.int .i64 x1.2.2.2.2.2) Ge Aa Aa Aa T3 F Aa Aa).q fun a w F W => ?_
 refine ls F W Aa (Ag F Aa).q fun a w F W => ?_
 refine Ae (Ab (AN ?_))
 have H := Bg H
 subst H
 refine Bz (.inl Aa) F W Aa (Az F Aa) ?_
 exact ⟨rfl, W.done⟩
theorem La : Has Try.prog 12 := ⟨fun args w => An Try.func12 rfl (by decide) args w⟩
def Eu (p1 : Int) (p2 : Int) (p3 : Int) (p4 : Int) (p5 : Int × Int × Int × Int) : Unit := ()
theorem Fo (Y : Nat → Prop) (w0 : World)  (p1 : Int) (p2 : Int) (p3 : Int) (p4 : Int) (p5 : Int × Int × Int × Int) (r : Unit) (H : Eu p1 p2 p3 p4 p5 = r)  :
    Calls Try.prog 18 #[.pointer none, .int .i64 p1, .int .i64 p2, .int .i64 p3, .int .i64 p4, .agg #[.int .i64 p5.1, .int .i64 p5.2.1, .int .i64 p5.2.2.1, .int .i64 p5.2.2.2]] w0 fun e w' => e = .returned (.int .i64 1) ∧ Below w0.heap.size w0 w' := by
 refine enter Try.func18 Aa Try.ntmps18 Aa fun a F => ?_
 have W := Stw.start Y w0
 unfold Eu at H
 refine Ai (Ac ?_)
 refine DW (cs := (Iv p5)) F W Aa Aa Aa fun b1 a w F W => ?_
 refine ls F W Aa (Ag F Aa).q fun a w F W => ?_
 refine Ae (Ab (Ai (Ai (Ac ?_))))
 refine ls F W Aa (Ad F Aa).q fun a w F W => ?_
 refine ls F W Aa (El HT F Aa Aa).q fun a w F W => ?_
 refine Ae (Ab ?_)
 refine D6 F Aa ?_
 refine Ai (Ac ?_)
 refine ls F W Aa (Ag F Aa).q fun a w F W => ?_
 refine Ae (Ab (AN (AY ?_)))
 subst H
 refine Bz (.inl Aa) F W Aa (Az F Aa) ?_
 exact ⟨rfl, W.done⟩
def Ef (p1 : Int) : Unit := ()
theorem E9 (Y : Nat → Prop) (w0 : World)  (p1 : Int) (r : Unit) (H : Ef p1 = r)  :
    Calls Try.prog 19 #[.pointer none, .int .i64 p1] w0 fun e w' => e = .returned (.tuple #[.agg #[.int .i64 0, .int .i64 0, .int .i64 0, .int .i64 0, .int .i64 0, .int .i64 0, .int .i64 0, .int .i64 0, .int .i64 0], .int .i64 1]) ∧ Below w0.heap.size w0 w' := by
 refine enter Try.func19 Aa Try.ntmps19 Aa fun a F => ?_
 have W := Stw.start Y w0
 unfold Ef at H
 refine Ai (Ac ?_)
 refine BZ (cs := (CD)) F W Aa Hg Aa fun b1 a w F W => ?_
 refine ls F W Aa (Ag F Aa).q fun a w F W => ?_
 refine Ae (Ab (Ai (Ai (Ac ?_))))
 refine ls F W Aa (Ad F Aa).q fun a w F W => ?_
 refine ls F W Aa (El HT F Aa Aa).q fun a w F W => ?_
 refine Ae (Ab ?_)
 refine D6 F Aa ?_
 refine Ai (Ac ?_)
 refine ls F W Aa (Cx (v := Value.agg #[.int .i64 0, .int .i64 0, .int .i64 0, .int .i64 0, .int .i64 0, .int .i64 0, .int .i64 0, .int .i64 0, .int .i64 0]) KC F Aa Aa Aa).q fun a w F W => ?_
 refine Bl (vs := (CD)) (M' := (Id b1)) 0 F W Aa Aa Aa Dk Aa Aa Aa Aa Aa fun w W => ?_
 refine ls F W Aa (Ag F Aa).q fun a w F W => ?_
 refine Ae (Ab (AN (AY ?_)))
 subst H
 refine FP (.inl Aa) F W Aa (Ei 0 F Aa Aa Dk Aa) (Az F Aa) ?_
 exact ⟨rfl, W.done⟩
abbrev Jr (a0 : Nat) (a1 : Nat) : List (Nat × List Value) := [(a0, [.int .i64 0, .int .i64 0, .int .i64 0, .int .i64 0, .int .i64 0, .int .i64 0, .int .i64 0, .int .i64 0, .int .i64 0]), (a1, [.int .i64 0, .int .i64 0, .int .i64 0, .int .i64 0, .int .i64 0, .int .i64 0, .int .i64 0, .int .i64 0, .int .i64 0])]
def Ed (p1 : Int) (p2 : Int) : Unit := ()
theorem DX (Y : Nat → Prop) (w0 : World)  (p1 : Int) (p2 : Int) (r : Unit) (H : Ed p1 p2 = r)  :
    Calls Try.prog 16 #[.pointer none, .int .i64 p1, .int .i64 p2] w0 fun e w' => e = .returned (.tuple #[.agg #[.int .i64 0, .int .i64 0, .int .i64 0, .int .i64 0, .int .i64 0, .int .i64 0, .int .i64 0, .int .i64 0, .int .i64 0], .int .i64 1]) ∧ Below w0.heap.size w0 w' := by
 refine enter Try.func16 Aa Try.ntmps16 Aa fun a F => ?_
 have W := Stw.start Y w0
 unfold Ed at H
 refine Ai (Ac ?_)
 refine BZ (cs := (CD)) F W Aa Hg Aa fun b1 a w F W => ?_
 refine ls F W Aa (Ag F Aa).q fun a w F W => ?_
 refine Ae (Ab (Ai (Ac ?_)))
 iterate 2 refine ls F W Aa (Ad F Aa).q fun a w F W => ?_
 refine ls F W Aa (B3 (v := Value.tuple #[.agg #[.int .i64 0, .int .i64 0, .int .i64 0, .int .i64 0, .int .i64 0, .int .i64 0, .int .i64 0, .int .i64 0, .int .i64 0], .int .i64 1]) F LF Aa (fun w W => E9 any w p2 _ Aa)) fun a w F W => ?_
 refine ls F W Aa (Ad F Aa).q fun a w F W => ?_
 refine ls F W Aa (AU (v := Value.agg #[.int .i64 0, .int .i64 0, .int .i64 0, .int .i64 0, .int .i64 0, .int .i64 0, .int .i64 0, .int .i64 0, .int .i64 0]) F Aa Aa).q fun a w F W => ?_
 refine ls F W Aa (AU (v := Value.int .i64 1) F Aa Aa).q fun a w F W => ?_
 refine BZ (cs := (CD)) F W Aa Hg Aa fun b2 a w F W => ?_
 refine Bl (vs := (CD)) (M' := (Jr b2 b1)) 0 F W Aa Aa Aa Dk Aa Aa Aa Aa Aa fun w W => ?_
 refine ls F W Aa (Ag F Aa).q fun a w F W => ?_
 refine Ae (Ab (Ai (Ai (Ac ?_))))
 refine ls F W Aa (Ad F Aa).q fun a w F W => ?_
 refine ls F W Aa (G0 F Aa Aa).q fun a w F W => ?_
 rw [show decide ((1 : Int) ≠ 0) = true from by decide] at F
 refine Ae (Ab ?_)
 refine D6 F Aa ?_
 refine Ai (Ac ?_)
 refine ls F W Aa (Cx (v := Value.agg #[.int .i64 0, .int .i64 0, .int .i64 0, .int .i64 0, .int .i64 0, .int .i64 0, .int .i64 0, .int .i64 0, .int .i64 0]) KC F Aa Aa Aa).q fun a w F W => ?_
 refine ls F W Aa (Ad F Aa).q fun a w F W => ?_
 refine Bl (vs := (CD)) (M' := (Jr b2 b1)) 1 F W Aa Aa Aa Dk Aa Aa Aa Aa Aa fun w W => ?_
 refine ls F W Aa (Ag F Aa).q fun a w F W => ?_
 refine Ae (Ab (AN (AY ?_)))
 subst H
 refine FP (.inl Aa) F W Aa (Ei 1 F Aa Aa Dk Aa) (Az F Aa) ?_
 exact ⟨rfl, W.done⟩
def EA  : Unit := ()
theorem Ff (Y : Nat → Prop) (w0 : World)   (r : Unit) (H : EA  = r)  :
    Calls Try.prog 11 #[.pointer none] w0 fun e w' => e = .returned (.int .i64 0) ∧ Below w0.heap.size w0 w' := by
 refine enter Try.func11 Aa Try.ntmps11 Aa fun a F => ?_
 have W := Stw.start Y w0
 unfold EA at H
 refine Ai (Ac ?_)
 refine ls F W Aa (Ag F Aa).q fun a w F W => ?_
 refine Ae (Ab (Ai (Ai (Ac ?_))))
 refine ls F W Aa (Ad F Aa).q fun a w F W => ?_
 refine ls F W Aa (El HT F Aa Aa).q fun a w F W => ?_
 refine Ae (Ab ?_)
 refine D6 F Aa ?_
 refine Ai (Ac ?_)
 refine ls F W Aa (Ag F Aa).q fun a w F W => ?_
 refine Ae (Ab (AN (AY ?_)))
 subst H
 refine Bz (.inl Aa) F W Aa (Az F Aa) ?_
 exact ⟨rfl, W.done⟩
def Ec  : Unit := ()
theorem E8 (Y : Nat → Prop) (w0 : World)   (r : Unit) (H : Ec  = r)  :
    Calls Try.prog 12 #[.pointer none] w0 fun e w' => e = .returned (.int .i64 (-1)) ∧ Below w0.heap.size w0 w' := by
 refine enter Try.func12 Aa Try.ntmps12 Aa fun a F => ?_
 have W := Stw.start Y w0
 unfold Ec at H
 refine Ai (Ac ?_)
 refine ls F W Aa (Ag F Aa).q fun a w F W => ?_
 refine Ae (Ab (Ai (Ai (Ac ?_))))
 refine ls F W Aa (Ad F Aa).q fun a w F W => ?_
 refine ls F W Aa (B3 (v := Value.int .i64 0) F Lx Aa (fun w W => Ff any w _ Aa)) fun a w F W => ?_
 refine ls F W Aa (Cm F Aa Aa).q fun a w F W => ?_
 rw [show decide ((0 : Int) = 0) = true from by decide] at F
 refine Ae (Ab ?_)
 refine D6 F Aa ?_
 refine Ai (Ac ?_)
 refine ls F W Aa (Ag F Aa).q fun a w F W => ?_
 refine Ae (Ab (AN (AY ?_)))
 subst H
 refine Bz (.inl Aa) F W Aa (Az F Aa) ?_
 exact ⟨rfl, W.done⟩
abbrev Hd (a0 : (Int × Int × Int × (Int × Int × Int × Int) × Int × Int) × Int × ((Int × (List (Int × Int × Int × Int × Int × Int)) × (List (Int × Int))) × (List (Int × Int × Int × (Int × Int × Int × Int) × Int × Int)))) : List Value := [.int .i64 a0.1.1, .int .i64 a0.1.2.1, .int .i64 a0.1.2.2.1, .int .i64 a0.1.2.2.2.1.1, .int .i64 a0.1.2.2.2.1.2.1, .int .i64 a0.1.2.2.2.1.2.2.1, .int .i64 a0.1.2.2.2.1.2.2.2, .int .i64 a0.1.2.2.2.2.1, .int .i64 a0.1.2.2.2.2.2]
abbrev EZ (a0 : Nat) (a1 : (Int × Int × Int × (Int × Int × Int × Int) × Int × Int) × Int × ((Int × (List (Int × Int × Int × Int × Int × Int)) × (List (Int × Int))) × (List (Int × Int × Int × (Int × Int × Int × Int) × Int × Int)))) (a2 : Nat) (a3 : Value) (a4 : Value) (a5 : Value) (a6 : Nat) (a7 : (Int × Int × Int × (Int × Int × Int × Int) × Int × Int) × Int × ((Int × (List (Int × Int × Int × Int × Int × Int)) × (List (Int × Int))) × (List (Int × Int × Int × (Int × Int × Int × Int) × Int × Int)))) : List (Nat × List Value) := [(a0, [.int .i64 a1.1.1, .int .i64 a1.1.2.1, .int .i64 a1.1.2.2.1, .int .i64 a1.1.2.2.2.1.1, .int .i64 a1.1.2.2.2.1.2.1, .int .i64 a1.1.2.2.2.1.2.2.1, .int .i64 a1.1.2.2.2.1.2.2.2, .int .i64 a1.1.2.2.2.2.1, .int .i64 a1.1.2.2.2.2.2]), (a2, [.int .i64 a1.2.2.1.1, a3, a4, a5]), (a6, [.int .i64 a7.1.1, .int .i64 a7.1.2.1, .int .i64 a7.1.2.2.1, .int .i64 a7.1.2.2.2.1.1, .int .i64 a7.1.2.2.2.1.2.1, .int .i64 a7.1.2.2.2.1.2.2.1, .int .i64 a7.1.2.2.2.1.2.2.2, .int .i64 a7.1.2.2.2.2.1, .int .i64 a7.1.2.2.2.2.2])]
noncomputable def C5  : Option Bool := (DR (2, ([(0, 0, 1, 3, 2, 5)] : List (Int × Int × Int × Int × Int × Int)), ([] : List (Int × Int)))).bind fun x1 => H8 x1 (fun x2 => (B5 x2 10 0 0 7 (1, 0, 0, 0)).bind fun x4 => (Bv x4.2 11 0).bind fun x5 => (BS x5.2.2).bind fun x6 => (Bv x5.2.2 12 0).bind fun x7 => (if x4.1 = 0 then (if x5.2.1 = 15 then (if x6 = 15 then (if x7.2.1 = 0 then (if x7.1.1 = 7 then (if x7.1.2.1 = 1 then (if x7.1.2.2.1 = 3 then (if (BN x7.2.2) = 0 then (BS x7.2.2).bind fun x9 => some (decide (x9 = (-1))) else some false) else some false) else some false) else some false) else some false) else some false) else some false) else some false).bind fun x8 => some x8) (fun x3 => some false)
theorem ER (Y : Nat → Prop) (w0 : World)   (r : Bool) (H : C5  = some r)  :
    Calls Try.prog 6 #[] w0 fun e w' => e = .returned (.bool r) ∧ Below w0.heap.size w0 w' := by
 refine enter Try.func6 Aa Try.ntmps6 Aa fun a F => ?_
 have W := Stw.start Y w0
 unfold C5 at H
 refine Ai (Ac ?_)
 refine ls F W Aa (Ag F Aa).q fun a w F W => ?_
 refine Ae (Ab (Ai (Ac ?_)))
 refine ls F W Aa (Cx (v := Value.agg #[.int .i64 0, .int .i64 0, .int .i64 1, .int .i64 3, .int .i64 2, .int .i64 5]) My F Aa Aa Aa).q fun a w F W => ?_
 refine EU (z := Value.agg #[.int .i64 0, .int .i64 0, .int .i64 0, .int .i64 0, .int .i64 0, .int .i64 0]) (cs := [.int .i64 0, .int .i64 0, .int .i64 1, .int .i64 3, .int .i64 2, .int .i64 5]) Bx ([(0, 0, 1, 3, 2, 5)] : List (Int × Int × Int × Int × Int × Int)) F W Aa I0 Ka Aa Aa Aa Aa Aa Aa (Jo.repL _ _ ([(0, 0, 1, 3, 2, 5)] : List (Int × Int × Int × Int × Int × Int))) fun v1 a w F W => ?_
 refine ls F W Aa (Cx (v := Value.agg #[.int .i64 2, v1, .slice none 0 0]) Mo F Aa (FX Aa Aa Aa (FX Aa (He (W.one (k := 0) Aa)) Aa HH)) Aa).q fun a w F W => ?_
 obtain ⟨x1, h1, H⟩ := Al H
 rcases x1 with x2 | x3
 ·
  have H := KK H
  have W := W.freeze
  refine BT (Ml := []) (Zl := []) (M := []) (Z := [Be v1 Bx ([(0, 0, 1, 3, 2, 5)] : List (Int × Int × Int × Int × Int × Int))]) (β := Nat × Value × Value × Value) (rv := fun x => .tuple #[.pointer (some ⟨x.1, 0, none⟩), .int .i64 0]) (MM := fun x => [(x.1, [.int .i64 x2.1.1, x.2.1, x.2.2.1, x.2.2.2])]) (ZZ := fun x => [Be x.2.1 Bx x2.1.2.1, Be x.2.2.1 Cb x2.1.2.2, row x.2.2.2 51 AB x2.2]) F W H7 Aa Aa (fun hL => EI _ w (v1) (Value.slice none 0 0) (2, ([(0, 0, 1, 3, 2, 5)] : List (Int × Int × Int × Int × Int × Int)), ([] : List (Int × Int))) _ h1 (W.item (i := 0) Aa) Sl.nil) fun x a w F W => ?_
  obtain ⟨b1, v2, v3, v4⟩ := x
  have W : Stw ⟨Y, [], w0⟩ [(b1, [.int .i64 x2.1.1, v2, v3, v4])] [Be v2 Bx x2.1.2.1, Be v3 Cb x2.1.2.2, row v4 51 AB x2.2, Be v1 Bx ([(0, 0, 1, 3, 2, 5)] : List (Int × Int × Int × Int × Int × Int))] w := W
  refine ls F W Aa (Ad F Aa).q fun a w F W => ?_
  refine ls F W Aa (AU (v := Value.pointer (some ⟨b1, 0, none⟩)) F Aa Aa).q fun a w F W => ?_
  refine ls F W Aa (AU (v := Value.int .i64 0) F Aa Aa).q fun a w F W => ?_
  iterate 2 refine ls F W Aa (Ag F Aa).q fun a w F W => ?_
  refine Ae (Ab (Ai (Ac ?_)))
  refine ls F W Aa (Ad F Aa).q fun a w F W => ?_
  refine ls F W Aa (HK (v := Value.agg #[.int .i64 1, .int .i64 0, .int .i64 0, .int .i64 0]) KP KD F Aa Aa Aa).q fun a w F W => ?_
  obtain ⟨x4, h2, H⟩ := Al H
  have W := W.frontZ (i := 2) Aa Aa
  have W := W.frontZ (i := 2) Aa Aa
  have W := W.frontZ (i := 2) Aa Aa
  refine BT (Ml := [(b1, [.int .i64 x2.1.1, v2, v3, v4])]) (Zl := [Be v2 Bx x2.1.2.1, Be v3 Cb x2.1.2.2, row v4 51 AB x2.2]) (M := []) (Z := [Be v1 Bx ([(0, 0, 1, 3, 2, 5)] : List (Int × Int × Int × Int × Int × Int))]) (β := Value × Value × Value) (rv := fun x => .int .i64 x4.1) (MM := fun x => [(b1, [.int .i64 x4.2.1.1, x.1, x.2.1, x.2.2])]) (ZZ := fun x => [Be x.1 Bx x4.2.1.2.1, Be x.2.1 Cb x4.2.1.2.2, row x.2.2 51 AB x4.2.2]) F W LB Aa Aa (fun hL => Er _ _ w b1 (v2) (v3) (v4) x2 10 0 0 7 (1, 0, 0, 0) _ h2 hL) fun x a w F W => ?_
  obtain ⟨v5, v6, v7⟩ := x
  have W : Stw ⟨Y, [], w0⟩ [(b1, [.int .i64 x4.2.1.1, v5, v6, v7])] [Be v5 Bx x4.2.1.2.1, Be v6 Cb x4.2.1.2.2, row v7 51 AB x4.2.2, Be v1 Bx ([(0, 0, 1, 3, 2, 5)] : List (Int × Int × Int × Int × Int × Int))] w := W
  refine ls F W Aa (Ag F Aa).q fun a w F W => ?_
  refine Ae (Ab (Ai (Ac ?_)))
  refine ls F W Aa (Ad F Aa).q fun a w F W => ?_
  obtain ⟨x5, h3, H⟩ := Al H
  have W := W.frontZ (i := 2) Aa Aa
  have W := W.frontZ (i := 2) Aa Aa
  have W := W.frontZ (i := 2) Aa Aa
  refine BT (Ml := [(b1, [.int .i64 x4.2.1.1, v5, v6, v7])]) (Zl := [Be v5 Bx x4.2.1.2.1, Be v6 Cb x4.2.1.2.2, row v7 51 AB x4.2.2]) (M := []) (Z := [Be v1 Bx ([(0, 0, 1, 3, 2, 5)] : List (Int × Int × Int × Int × Int × Int))]) (β := Value × Value × Value) (rv := fun x => .tuple #[.agg #[.int .i64 x5.1.1, .int .i64 x5.1.2.1, .int .i64 x5.1.2.2.1, .int .i64 x5.1.2.2.2.1.1, .int .i64 x5.1.2.2.2.1.2.1, .int .i64 x5.1.2.2.2.1.2.2.1, .int .i64 x5.1.2.2.2.1.2.2.2, .int .i64 x5.1.2.2.2.2.1, .int .i64 x5.1.2.2.2.2.2], .int .i64 x5.2.1]) (MM := fun x => [(b1, [.int .i64 x5.2.2.1.1, x.1, x.2.1, x.2.2])]) (ZZ := fun x => [Be x.1 Bx x5.2.2.1.2.1, Be x.2.1 Cb x5.2.2.1.2.2, row x.2.2 51 AB x5.2.2.2]) F W KQ Aa Aa (fun hL => DB _ _ w b1 (v5) (v6) (v7) x4.2 11 0 _ h3 hL) fun x a w F W => ?_
  obtain ⟨v8, v9, v10⟩ := x
  have W : Stw ⟨Y, [], w0⟩ [(b1, [.int .i64 x5.2.2.1.1, v8, v9, v10])] [Be v8 Bx x5.2.2.1.2.1, Be v9 Cb x5.2.2.1.2.2, row v10 51 AB x5.2.2.2, Be v1 Bx ([(0, 0, 1, 3, 2, 5)] : List (Int × Int × Int × Int × Int × Int))] w := W
  refine ls F W Aa (Ad F Aa).q fun a w F W => ?_
  refine ls F W Aa (AU (v := Value.agg #[.int .i64 x5.1.1, .int .i64 x5.1.2.1, .int .i64 x5.1.2.2.1, .int .i64 x5.1.2.2.2.1.1, .int .i64 x5.1.2.2.2.1.2.1, .int .i64 x5.1.2.2.2.1.2.2.1, .int .i64 x5.1.2.2.2.1.2.2.2, .int .i64 x5.1.2.2.2.2.1, .int .i64 x5.1.2.2.2.2.2]) F Aa Aa).q fun a w F W => ?_
  refine ls F W Aa (AU (v := Value.int .i64 x5.2.1) F Aa Aa).q fun a w F W => ?_
  refine BZ (cs := (CD)) F W Aa Hg Aa fun b2 a w F W => ?_
  refine Bl (vs := (Hd x5)) (M' := [(b2, [.int .i64 x5.1.1, .int .i64 x5.1.2.1, .int .i64 x5.1.2.2.1, .int .i64 x5.1.2.2.2.1.1, .int .i64 x5.1.2.2.2.1.2.1, .int .i64 x5.1.2.2.2.1.2.2.1, .int .i64 x5.1.2.2.2.1.2.2.2, .int .i64 x5.1.2.2.2.2.1, .int .i64 x5.1.2.2.2.2.2]), (b1, [.int .i64 x5.2.2.1.1, v8, v9, v10])]) 0 F W Aa Aa Aa Dk Aa Aa Aa Aa Aa fun w W => ?_
  refine ls F W Aa (Ag F Aa).q fun a w F W => ?_
  refine Ae (Ab (Ai (Ac ?_)))
  refine ls F W Aa (Ad F Aa).q fun a w F W => ?_
  obtain ⟨x6, h4, H⟩ := Al H
  refine ls F W Aa (B3 (v := Value.int .i64 x6) F La Aa (fun w W => Dw any w b1 (v8) (v9) (v10) x5.2.2 _ h4 (((CP 0 Aa) : DT _ _ _ _ _ _) w W).nx (((CP 1 Aa) : DT _ _ _ _ _ _) w W).nx (((Aw 2 Aa) : DT _ _ _ _ _ _) w W).nx (I7 W 1 Aa))) fun a w F W => ?_
  refine ls F W Aa (Ag F Aa).q fun a w F W => ?_
  refine Ae (Ab (Ai (Ac ?_)))
  refine ls F W Aa (Ad F Aa).q fun a w F W => ?_
  obtain ⟨x7, h5, H⟩ := Al H
  have W := W.frontZ (i := 2) Aa Aa
  have W := W.frontZ (i := 2) Aa Aa
  have W := W.frontZ (i := 2) Aa Aa
  have W := W.frontM (i := 1) Aa Aa
  refine BT (Ml := [(b1, [.int .i64 x5.2.2.1.1, v8, v9, v10])]) (Zl := [Be v8 Bx x5.2.2.1.2.1, Be v9 Cb x5.2.2.1.2.2, row v10 51 AB x5.2.2.2]) (M := [(b2, [.int .i64 x5.1.1, .int .i64 x5.1.2.1, .int .i64 x5.1.2.2.1, .int .i64 x5.1.2.2.2.1.1, .int .i64 x5.1.2.2.2.1.2.1, .int .i64 x5.1.2.2.2.1.2.2.1, .int .i64 x5.1.2.2.2.1.2.2.2, .int .i64 x5.1.2.2.2.2.1, .int .i64 x5.1.2.2.2.2.2])]) (Z := [Be v1 Bx ([(0, 0, 1, 3, 2, 5)] : List (Int × Int × Int × Int × Int × Int))]) (β := Value × Value × Value) (rv := fun x => .tuple #[.agg #[.int .i64 x7.1.1, .int .i64 x7.1.2.1, .int .i64 x7.1.2.2.1, .int .i64 x7.1.2.2.2.1.1, .int .i64 x7.1.2.2.2.1.2.1, .int .i64 x7.1.2.2.2.1.2.2.1, .int .i64 x7.1.2.2.2.1.2.2.2, .int .i64 x7.1.2.2.2.2.1, .int .i64 x7.1.2.2.2.2.2], .int .i64 x7.2.1]) (MM := fun x => [(b1, [.int .i64 x7.2.2.1.1, x.1, x.2.1, x.2.2])]) (ZZ := fun x => [Be x.1 Bx x7.2.2.1.2.1, Be x.2.1 Cb x7.2.2.1.2.2, row x.2.2 51 AB x7.2.2.2]) F W KQ Aa Aa (fun hL => DB _ _ w b1 (v8) (v9) (v10) x5.2.2 12 0 _ h5 hL) fun x a w F W => ?_
  obtain ⟨v11, v12, v13⟩ := x
  have W : Stw ⟨Y, [], w0⟩ [(b1, [.int .i64 x7.2.2.1.1, v11, v12, v13]), (b2, [.int .i64 x5.1.1, .int .i64 x5.1.2.1, .int .i64 x5.1.2.2.1, .int .i64 x5.1.2.2.2.1.1, .int .i64 x5.1.2.2.2.1.2.1, .int .i64 x5.1.2.2.2.1.2.2.1, .int .i64 x5.1.2.2.2.1.2.2.2, .int .i64 x5.1.2.2.2.2.1, .int .i64 x5.1.2.2.2.2.2])] [Be v11 Bx x7.2.2.1.2.1, Be v12 Cb x7.2.2.1.2.2, row v13 51 AB x7.2.2.2, Be v1 Bx ([(0, 0, 1, 3, 2, 5)] : List (Int × Int × Int × Int × Int × Int))] w := W
  refine ls F W Aa (Ad F Aa).q fun a w F W => ?_
  refine ls F W Aa (AU (v := Value.agg #[.int .i64 x7.1.1, .int .i64 x7.1.2.1, .int .i64 x7.1.2.2.1, .int .i64 x7.1.2.2.2.1.1, .int .i64 x7.1.2.2.2.1.2.1, .int .i64 x7.1.2.2.2.1.2.2.1, .int .i64 x7.1.2.2.2.1.2.2.2, .int .i64 x7.1.2.2.2.2.1, .int .i64 x7.1.2.2.2.2.2]) F Aa Aa).q fun a w F W => ?_
  refine ls F W Aa (AU (v := Value.int .i64 x7.2.1) F Aa Aa).q fun a w F W => ?_
  refine BZ (cs := (CD)) F W Aa Hg Aa fun b3 a w F W => ?_
  refine Bl (vs := (Hd x7)) (M' := (EZ b3 x7 b1 v11 v12 v13 b2 x5)) 0 F W Aa Aa Aa Dk Aa Aa Aa Aa Aa fun w W => ?_
  refine ls F W Aa (Ag F Aa).q fun a w F W => ?_
  refine Ae (Ab ?_)
  obtain ⟨o1, G1, K1⟩ := Al H
  refine AO (fun a w => ∃ x8 : Bool, some (x8) = some o1 ∧ Fr 74 [] [(0, .bool x8)] a ∧ Stw ⟨Y, [], w0⟩ (EZ b3 x7 b1 v11 v12 v13 b2 x5) [Be v11 Bx x7.2.2.1.2.1, Be v12 Cb x7.2.2.1.2.2, row v13 51 AB x7.2.2.2] w) ?_ ?_
  ·
   have H := G1
   clear G1 K1
   refine Ac ?_
   refine ls F W Aa (Ad F Aa).q fun a w F W => ?_
   refine ls F W Aa (Cm F Aa Aa).q fun a w F W => ?_
   rw [show decide ((0 : Int) = 0) = true from by decide] at F
   refine ls F W Aa (Ad F Aa).q fun a w F W => ?_
   refine Ax F W (Af F Aa Aa Aa Aa) Aa (Aj Aa) (Ad F Aa).q fun a w F W => ?_
   refine Ax F W (Af F Aa Aa Aa Aa) Aa (Aj Aa) (Cm F Aa Aa).q fun a w F W => ?_
   refine ls F W Aa (Am F Aa Aa Aa).q fun a w F W => ?_
   refine ls F W Aa (Ad F Aa).q fun a w F W => ?_
   rcases Bool.eq_false_or_eq_true (decide (x4.1 = 0)) with hb | hb
   ·
    have H := A5 (BJ hb) H
    rw [hb] at F
    clear hb
    refine Ax F W (Af F Aa Aa Aa Aa) Aa (Aj Aa) (Ad F Aa).q fun a w F W => ?_
    refine Ax F W (Af F Aa Aa Aa Aa) Aa (Aj Aa) (Cm F Aa Aa).q fun a w F W => ?_
    refine ls F W Aa (Am F Aa Aa Aa).q fun a w F W => ?_
    refine ls F W Aa (Ad F Aa).q fun a w F W => ?_
    rcases Bool.eq_false_or_eq_true (decide (x5.2.1 = 15)) with hb | hb
    ·
     have H := A5 (BJ hb) H
     rw [hb] at F
     clear hb
     refine Ax F W (Af F Aa Aa Aa Aa) Aa (Aj Aa) (Ad F Aa).q fun a w F W => ?_
     refine Ax F W (Af F Aa Aa Aa Aa) Aa (Aj Aa) (Cm F Aa Aa).q fun a w F W => ?_
     refine ls F W Aa (Am F Aa Aa Aa).q fun a w F W => ?_
     refine ls F W Aa (Ad F Aa).q fun a w F W => ?_
     rcases Bool.eq_false_or_eq_true (decide (x6 = 15)) with hb | hb
     ·
      have H := A5 (BJ hb) H
      rw [hb] at F
      clear hb
      refine Ax F W (Af F Aa Aa Aa Aa) Aa (Aj Aa) (Ad F Aa).q fun a w F W => ?_
      refine Ax F W (Af F Aa Aa Aa Aa) Aa (Aj Aa) (Cm F Aa Aa).q fun a w F W => ?_
      refine ls F W Aa (Am F Aa Aa Aa).q fun a w F W => ?_
      refine ls F W Aa (Ad F Aa).q fun a w F W => ?_
      rcases Bool.eq_false_or_eq_true (decide (x7.2.1 = 0)) with hb | hb
      ·
       have H := A5 (BJ hb) H
       rw [hb] at F
       clear hb
       refine Ax F W (Af F Aa Aa Aa Aa) Aa (Aj Aa) (Ah Ge Aa Aa Aa T3 F Aa 0 Aa).q fun a w F W => ?_
       refine Ax F W (Af F Aa Aa Aa Aa) Aa (Aj Aa) (Ao (v := Value.int .i64 x7.1.1) 0 F Aa Aa T3 Aa).q fun a w F W => ?_
       refine Ax F W (Af F Aa Aa Aa Aa) Aa (Aj Aa) (Cm F Aa Aa).q fun a w F W => ?_
       refine ls F W Aa (Am F Aa Aa Aa).q fun a w F W => ?_
       refine ls F W Aa (Ad F Aa).q fun a w F W => ?_
       rcases Bool.eq_false_or_eq_true (decide (x7.1.1 = 7)) with hb | hb
       ·
        have H := A5 (BJ hb) H
        rw [hb] at F
        clear hb
        refine Ax F W (Af F Aa Aa Aa Aa) Aa (Aj Aa) (Ah Ge Aa Aa Aa T3 F Aa 1 Aa).q fun a w F W => ?_
        refine Ax F W (Af F Aa Aa Aa Aa) Aa (Aj Aa) (Ao (v := Value.int .i64 x7.1.2.1) 0 F Aa Aa T3 Aa).q fun a w F W => ?_
        refine Ax F W (Af F Aa Aa Aa Aa) Aa (Aj Aa) (Cm F Aa Aa).q fun a w F W => ?_
        refine ls F W Aa (Am F Aa Aa Aa).q fun a w F W => ?_
        refine ls F W Aa (Ad F Aa).q fun a w F W => ?_
        rcases Bool.eq_false_or_eq_true (decide (x7.1.2.1 = 1)) with hb | hb
        ·
         have H := A5 (BJ hb) H
         rw [hb] at F
         clear hb
         refine Ax F W (Af F Aa Aa Aa Aa) Aa (Aj Aa) (Ah Ge Aa Aa Aa T3 F Aa 2 Aa).q fun a w F W => ?_
         refine Ax F W (Af F Aa Aa Aa Aa) Aa (Aj Aa) (Ao (v := Value.int .i64 x7.1.2.2.1) 0 F Aa Aa T3 Aa).q fun a w F W => ?_
         refine Ax F W (Af F Aa Aa Aa Aa) Aa (Aj Aa) (Cm F Aa Aa).q fun a w F W => ?_
         refine ls F W Aa (Am F Aa Aa Aa).q fun a w F W => ?_
         refine ls F W Aa (Ad F Aa).q fun a w F W => ?_
         rcases Bool.eq_false_or_eq_true (decide (x7.1.2.2.1 = 3)) with hb | hb
         ·
          have H := A5 (BJ hb) H
          rw [hb] at F
          clear hb
          refine Ax F W (Af F Aa Aa Aa Aa) Aa (Aj Aa) (Ad F Aa).q fun a w F W => ?_
          refine IM (Af F Aa Aa Aa Aa) ?_
          refine ls F W Aa (B3 (v := Value.int .i64 (BN x7.2.2)) F Lx Aa (fun w W => Ew any w b1 (v11) (v12) (v13) x7.2.2 _ Aa (((CP 0 Aa) : DT _ _ _ _ _ _) w W).nx (((CP 1 Aa) : DT _ _ _ _ _ _) w W).nx (((Aw 2 Aa) : DT _ _ _ _ _ _) w W).nx (I7 W 1 Aa))) fun a w F W => ?_
          refine Ax F W (Af F Aa Aa Aa Aa) Aa (Aj Aa) (Cm F Aa Aa).q fun a w F W => ?_
          refine ls F W Aa (Am F Aa Aa Aa).q fun a w F W => ?_
          refine ls F W Aa (Ad F Aa).q fun a w F W => ?_
          rcases Bool.eq_false_or_eq_true (decide ((BN x7.2.2) = 0)) with hb | hb
          ·
           have H := A5 (BJ hb) H
           rw [hb] at F
           clear hb
           refine Ax F W (Af F Aa Aa Aa Aa) Aa (Aj Aa) (Ad F Aa).q fun a w F W => ?_
           refine IM (Af F Aa Aa Aa Aa) ?_
           obtain ⟨x9, h6, H⟩ := Al H
           refine ls F W Aa (B3 (v := Value.int .i64 x9) F La Aa (fun w W => Dw any w b1 (v11) (v12) (v13) x7.2.2 _ h6 (((CP 0 Aa) : DT _ _ _ _ _ _) w W).nx (((CP 1 Aa) : DT _ _ _ _ _ _) w W).nx (((Aw 2 Aa) : DT _ _ _ _ _ _) w W).nx (I7 W 1 Aa))) fun a w F W => ?_
           refine Ax F W (Af F Aa Aa Aa Aa) Aa (Aj Aa) (Cm F Aa Aa).q fun a w F W => ?_
           refine ls F W Aa (Am F Aa Aa Aa).q fun a w F W => ?_
           refine ls F W Aa (Ag F Aa).q fun a w F W => ?_
           refine Ae (Ab ?_)
           have W := W.frontZ (i := 2) Aa Aa
           have W := W.frontZ (i := 2) Aa Aa
           have W := W.frontZ (i := 2) Aa Aa
           have W := W.frontM (i := 2) Aa Aa
           have W := W.frontM (i := 2) Aa Aa
           have W := W.frontM (i := 2) Aa Aa
           have W := W.sub (M' := (EZ b3 x7 b1 v11 v12 v13 b2 x5)) (Z' := [Be v11 Bx x7.2.2.1.2.1, Be v12 Cb x7.2.2.1.2.2, row v13 51 AB x7.2.2.2]) (List.Sublist.refl _) (List.Sublist.cons_cons _ (List.Sublist.cons_cons _ (List.Sublist.cons_cons _ (List.nil_sublist _))))
           exact ⟨_, H, F.re ⟨rfl, trivial⟩, W⟩
          have H := A6 (BK hb) H
          rw [hb] at F
          clear hb
          iterate 3 refine B7 F Aa Aa Aa Aa Aa Aa Aa fun a F => ?_
          refine ls F W Aa (Ak F Aa Aa Aa).q fun a w F W => ?_
          refine ls F W Aa (Ag F Aa).q fun a w F W => ?_
          refine Ae (Ab ?_)
          have W := W.frontZ (i := 2) Aa Aa
          have W := W.frontZ (i := 2) Aa Aa
          have W := W.frontZ (i := 2) Aa Aa
          have W := W.frontM (i := 2) Aa Aa
          have W := W.frontM (i := 2) Aa Aa
          have W := W.frontM (i := 2) Aa Aa
          have W := W.sub (M' := (EZ b3 x7 b1 v11 v12 v13 b2 x5)) (Z' := [Be v11 Bx x7.2.2.1.2.1, Be v12 Cb x7.2.2.1.2.2, row v13 51 AB x7.2.2.2]) (List.Sublist.refl _) (List.Sublist.cons_cons _ (List.Sublist.cons_cons _ (List.Sublist.cons_cons _ (List.nil_sublist _))))
          exact ⟨_, H, F.re ⟨rfl, trivial⟩, W⟩
         have H := A6 (BK hb) H
         rw [hb] at F
         clear hb
         iterate 3 refine B7 F Aa Aa Aa Aa Aa Aa Aa fun a F => ?_
         refine ls F W Aa (Ak F Aa Aa Aa).q fun a w F W => ?_
         refine ls F W Aa (Ad F Aa).q fun a w F W => ?_
         iterate 3 refine B7 F Aa Aa Aa Aa Aa Aa Aa fun a F => ?_
         refine ls F W Aa (Ak F Aa Aa Aa).q fun a w F W => ?_
         refine ls F W Aa (Ag F Aa).q fun a w F W => ?_
         refine Ae (Ab ?_)
         have W := W.frontZ (i := 2) Aa Aa
         have W := W.frontZ (i := 2) Aa Aa
         have W := W.frontZ (i := 2) Aa Aa
         have W := W.frontM (i := 2) Aa Aa
         have W := W.frontM (i := 2) Aa Aa
         have W := W.frontM (i := 2) Aa Aa
         have W := W.sub (M' := (EZ b3 x7 b1 v11 v12 v13 b2 x5)) (Z' := [Be v11 Bx x7.2.2.1.2.1, Be v12 Cb x7.2.2.1.2.2, row v13 51 AB x7.2.2.2]) (List.Sublist.refl _) (List.Sublist.cons_cons _ (List.Sublist.cons_cons _ (List.Sublist.cons_cons _ (List.nil_sublist _))))
         exact ⟨_, H, F.re ⟨rfl, trivial⟩, W⟩
        have H := A6 (BK hb) H
        rw [hb] at F
        clear hb
        iterate 3 refine B7 F Aa Aa Aa Aa Aa Aa Aa fun a F => ?_
        refine ls F W Aa (Ak F Aa Aa Aa).q fun a w F W => ?_
        refine ls F W Aa (Ad F Aa).q fun a w F W => ?_
        iterate 3 refine B7 F Aa Aa Aa Aa Aa Aa Aa fun a F => ?_
        refine ls F W Aa (Ak F Aa Aa Aa).q fun a w F W => ?_
        refine ls F W Aa (Ad F Aa).q fun a w F W => ?_
        iterate 3 refine B7 F Aa Aa Aa Aa Aa Aa Aa fun a F => ?_
        refine ls F W Aa (Ak F Aa Aa Aa).q fun a w F W => ?_
        refine ls F W Aa (Ag F Aa).q fun a w F W => ?_
        refine Ae (Ab ?_)
        have W := W.frontZ (i := 2) Aa Aa
        have W := W.frontZ (i := 2) Aa Aa
        have W := W.frontZ (i := 2) Aa Aa
        have W := W.frontM (i := 2) Aa Aa
        have W := W.frontM (i := 2) Aa Aa
        have W := W.frontM (i := 2) Aa Aa
        have W := W.sub (M' := (EZ b3 x7 b1 v11 v12 v13 b2 x5)) (Z' := [Be v11 Bx x7.2.2.1.2.1, Be v12 Cb x7.2.2.1.2.2, row v13 51 AB x7.2.2.2]) (List.Sublist.refl _) (List.Sublist.cons_cons _ (List.Sublist.cons_cons _ (List.Sublist.cons_cons _ (List.nil_sublist _))))
        exact ⟨_, H, F.re ⟨rfl, trivial⟩, W⟩
       have H := A6 (BK hb) H
       rw [hb] at F
       clear hb
       iterate 3 refine B7 F Aa Aa Aa Aa Aa Aa Aa fun a F => ?_
       refine ls F W Aa (Ak F Aa Aa Aa).q fun a w F W => ?_
       refine ls F W Aa (Ad F Aa).q fun a w F W => ?_
       iterate 3 refine B7 F Aa Aa Aa Aa Aa Aa Aa fun a F => ?_
       refine ls F W Aa (Ak F Aa Aa Aa).q fun a w F W => ?_
       refine ls F W Aa (Ad F Aa).q fun a w F W => ?_
       iterate 3 refine B7 F Aa Aa Aa Aa Aa Aa Aa fun a F => ?_
       refine ls F W Aa (Ak F Aa Aa Aa).q fun a w F W => ?_
       refine ls F W Aa (Ad F Aa).q fun a w F W => ?_
       iterate 3 refine B7 F Aa Aa Aa Aa Aa Aa Aa fun a F => ?_
       refine ls F W Aa (Ak F Aa Aa Aa).q fun a w F W => ?_
       refine ls F W Aa (Ag F Aa).q fun a w F W => ?_
       refine Ae (Ab ?_)
       have W := W.frontZ (i := 2) Aa Aa
       have W := W.frontZ (i := 2) Aa Aa
       have W := W.frontZ (i := 2) Aa Aa
       have W := W.frontM (i := 2) Aa Aa
       have W := W.frontM (i := 2) Aa Aa
       have W := W.frontM (i := 2) Aa Aa
       have W := W.sub (M' := (EZ b3 x7 b1 v11 v12 v13 b2 x5)) (Z' := [Be v11 Bx x7.2.2.1.2.1, Be v12 Cb x7.2.2.1.2.2, row v13 51 AB x7.2.2.2]) (List.Sublist.refl _) (List.Sublist.cons_cons _ (List.Sublist.cons_cons _ (List.Sublist.cons_cons _ (List.nil_sublist _))))
       exact ⟨_, H, F.re ⟨rfl, trivial⟩, W⟩
      have H := A6 (BK hb) H
      rw [hb] at F
      clear hb
      iterate 3 refine B7 F Aa Aa Aa Aa Aa Aa Aa fun a F => ?_
      refine ls F W Aa (Ak F Aa Aa Aa).q fun a w F W => ?_
      refine ls F W Aa (Ad F Aa).q fun a w F W => ?_
      iterate 3 refine B7 F Aa Aa Aa Aa Aa Aa Aa fun a F => ?_
      refine ls F W Aa (Ak F Aa Aa Aa).q fun a w F W => ?_
      refine ls F W Aa (Ad F Aa).q fun a w F W => ?_
      iterate 3 refine B7 F Aa Aa Aa Aa Aa Aa Aa fun a F => ?_
      refine ls F W Aa (Ak F Aa Aa Aa).q fun a w F W => ?_
      refine ls F W Aa (Ad F Aa).q fun a w F W => ?_
      iterate 3 refine B7 F Aa Aa Aa Aa Aa Aa Aa fun a F => ?_
      refine ls F W Aa (Ak F Aa Aa Aa).q fun a w F W => ?_
      refine ls F W Aa (Ad F Aa).q fun a w F W => ?_
      iterate 3 refine B7 F Aa Aa Aa Aa Aa Aa Aa fun a F => ?_
      refine ls F W Aa (Ak F Aa Aa Aa).q fun a w F W => ?_
      refine ls F W Aa (Ag F Aa).q fun a w F W => ?_
      refine Ae (Ab ?_)
      have W := W.frontZ (i := 2) Aa Aa
      have W := W.frontZ (i := 2) Aa Aa
      have W := W.frontZ (i := 2) Aa Aa
      have W := W.frontM (i := 2) Aa Aa
      have W := W.frontM (i := 2) Aa Aa
      have W := W.frontM (i := 2) Aa Aa
      have W := W.sub (M' := (EZ b3 x7 b1 v11 v12 v13 b2 x5)) (Z' := [Be v11 Bx x7.2.2.1.2.1, Be v12 Cb x7.2.2.1.2.2, row v13 51 AB x7.2.2.2]) (List.Sublist.refl _) (List.Sublist.cons_cons _ (List.Sublist.cons_cons _ (List.Sublist.cons_cons _ (List.nil_sublist _))))
      exact ⟨_, H, F.re ⟨rfl, trivial⟩, W⟩
     have H := A6 (BK hb) H
     rw [hb] at F
     clear hb
     iterate 2 refine B7 F Aa Aa Aa Aa Aa Aa Aa fun a F => ?_
     refine ls F W Aa (Ak F Aa Aa Aa).q fun a w F W => ?_
     refine ls F W Aa (Ad F Aa).q fun a w F W => ?_
     iterate 3 refine B7 F Aa Aa Aa Aa Aa Aa Aa fun a F => ?_
     refine ls F W Aa (Ak F Aa Aa Aa).q fun a w F W => ?_
     refine ls F W Aa (Ad F Aa).q fun a w F W => ?_
     iterate 3 refine B7 F Aa Aa Aa Aa Aa Aa Aa fun a F => ?_
     refine ls F W Aa (Ak F Aa Aa Aa).q fun a w F W => ?_
     refine ls F W Aa (Ad F Aa).q fun a w F W => ?_
     iterate 3 refine B7 F Aa Aa Aa Aa Aa Aa Aa fun a F => ?_
     refine ls F W Aa (Ak F Aa Aa Aa).q fun a w F W => ?_
     refine ls F W Aa (Ad F Aa).q fun a w F W => ?_
     iterate 3 refine B7 F Aa Aa Aa Aa Aa Aa Aa fun a F => ?_
     refine ls F W Aa (Ak F Aa Aa Aa).q fun a w F W => ?_
     refine ls F W Aa (Ad F Aa).q fun a w F W => ?_
     iterate 3 refine B7 F Aa Aa Aa Aa Aa Aa Aa fun a F => ?_
     refine ls F W Aa (Ak F Aa Aa Aa).q fun a w F W => ?_
     refine ls F W Aa (Ag F Aa).q fun a w F W => ?_
     refine Ae (Ab ?_)
     have W := W.frontZ (i := 2) Aa Aa
     have W := W.frontZ (i := 2) Aa Aa
     have W := W.frontZ (i := 2) Aa Aa
     have W := W.frontM (i := 2) Aa Aa
     have W := W.frontM (i := 2) Aa Aa
     have W := W.frontM (i := 2) Aa Aa
     have W := W.sub (M' := (EZ b3 x7 b1 v11 v12 v13 b2 x5)) (Z' := [Be v11 Bx x7.2.2.1.2.1, Be v12 Cb x7.2.2.1.2.2, row v13 51 AB x7.2.2.2]) (List.Sublist.refl _) (List.Sublist.cons_cons _ (List.Sublist.cons_cons _ (List.Sublist.cons_cons _ (List.nil_sublist _))))
     exact ⟨_, H, F.re ⟨rfl, trivial⟩, W⟩
    have H := A6 (BK hb) H
    rw [hb] at F
    clear hb
    iterate 2 refine B7 F Aa Aa Aa Aa Aa Aa Aa fun a F => ?_
    refine ls F W Aa (Ak F Aa Aa Aa).q fun a w F W => ?_
    refine ls F W Aa (Ad F Aa).q fun a w F W => ?_
    iterate 2 refine B7 F Aa Aa Aa Aa Aa Aa Aa fun a F => ?_
    refine ls F W Aa (Ak F Aa Aa Aa).q fun a w F W => ?_
    refine ls F W Aa (Ad F Aa).q fun a w F W => ?_
    iterate 3 refine B7 F Aa Aa Aa Aa Aa Aa Aa fun a F => ?_
    refine ls F W Aa (Ak F Aa Aa Aa).q fun a w F W => ?_
    refine ls F W Aa (Ad F Aa).q fun a w F W => ?_
    iterate 3 refine B7 F Aa Aa Aa Aa Aa Aa Aa fun a F => ?_
    refine ls F W Aa (Ak F Aa Aa Aa).q fun a w F W => ?_
    refine ls F W Aa (Ad F Aa).q fun a w F W => ?_
    iterate 3 refine B7 F Aa Aa Aa Aa Aa Aa Aa fun a F => ?_
    refine ls F W Aa (Ak F Aa Aa Aa).q fun a w F W => ?_
    refine ls F W Aa (Ad F Aa).q fun a w F W => ?_
    iterate 3 refine B7 F Aa Aa Aa Aa Aa Aa Aa fun a F => ?_
    refine ls F W Aa (Ak F Aa Aa Aa).q fun a w F W => ?_
    refine ls F W Aa (Ad F Aa).q fun a w F W => ?_
    iterate 3 refine B7 F Aa Aa Aa Aa Aa Aa Aa fun a F => ?_
    refine ls F W Aa (Ak F Aa Aa Aa).q fun a w F W => ?_
    refine ls F W Aa (Ag F Aa).q fun a w F W => ?_
    refine Ae (Ab ?_)
    have W := W.frontZ (i := 2) Aa Aa
    have W := W.frontZ (i := 2) Aa Aa
    have W := W.frontZ (i := 2) Aa Aa
    have W := W.frontM (i := 2) Aa Aa
    have W := W.frontM (i := 2) Aa Aa
    have W := W.frontM (i := 2) Aa Aa
    have W := W.sub (M' := (EZ b3 x7 b1 v11 v12 v13 b2 x5)) (Z' := [Be v11 Bx x7.2.2.1.2.1, Be v12 Cb x7.2.2.1.2.2, row v13 51 AB x7.2.2.2]) (List.Sublist.refl _) (List.Sublist.cons_cons _ (List.Sublist.cons_cons _ (List.Sublist.cons_cons _ (List.nil_sublist _))))
    exact ⟨_, H, F.re ⟨rfl, trivial⟩, W⟩
   have H := A6 (BK hb) H
   rw [hb] at F
   clear hb
   iterate 2 refine B7 F Aa Aa Aa Aa Aa Aa Aa fun a F => ?_
   refine ls F W Aa (Ak F Aa Aa Aa).q fun a w F W => ?_
   refine ls F W Aa (Ad F Aa).q fun a w F W => ?_
   iterate 2 refine B7 F Aa Aa Aa Aa Aa Aa Aa fun a F => ?_
   refine ls F W Aa (Ak F Aa Aa Aa).q fun a w F W => ?_
   refine ls F W Aa (Ad F Aa).q fun a w F W => ?_
   iterate 2 refine B7 F Aa Aa Aa Aa Aa Aa Aa fun a F => ?_
   refine ls F W Aa (Ak F Aa Aa Aa).q fun a w F W => ?_
   refine ls F W Aa (Ad F Aa).q fun a w F W => ?_
   iterate 3 refine B7 F Aa Aa Aa Aa Aa Aa Aa fun a F => ?_
   refine ls F W Aa (Ak F Aa Aa Aa).q fun a w F W => ?_
   refine ls F W Aa (Ad F Aa).q fun a w F W => ?_
   iterate 3 refine B7 F Aa Aa Aa Aa Aa Aa Aa fun a F => ?_
   refine ls F W Aa (Ak F Aa Aa Aa).q fun a w F W => ?_
   refine ls F W Aa (Ad F Aa).q fun a w F W => ?_
   iterate 3 refine B7 F Aa Aa Aa Aa Aa Aa Aa fun a F => ?_
   refine ls F W Aa (Ak F Aa Aa Aa).q fun a w F W => ?_
   refine ls F W Aa (Ad F Aa).q fun a w F W => ?_
   iterate 3 refine B7 F Aa Aa Aa Aa Aa Aa Aa fun a F => ?_
   refine ls F W Aa (Ak F Aa Aa Aa).q fun a w F W => ?_
   refine ls F W Aa (Ad F Aa).q fun a w F W => ?_
   iterate 3 refine B7 F Aa Aa Aa Aa Aa Aa Aa fun a F => ?_
   refine ls F W Aa (Ak F Aa Aa Aa).q fun a w F W => ?_
   refine ls F W Aa (Ag F Aa).q fun a w F W => ?_
   refine Ae (Ab ?_)
   have W := W.frontZ (i := 2) Aa Aa
   have W := W.frontZ (i := 2) Aa Aa
   have W := W.frontZ (i := 2) Aa Aa
   have W := W.frontM (i := 2) Aa Aa
   have W := W.frontM (i := 2) Aa Aa
   have W := W.frontM (i := 2) Aa Aa
   have W := W.sub (M' := (EZ b3 x7 b1 v11 v12 v13 b2 x5)) (Z' := [Be v11 Bx x7.2.2.1.2.1, Be v12 Cb x7.2.2.1.2.2, row v13 51 AB x7.2.2.2]) (List.Sublist.refl _) (List.Sublist.cons_cons _ (List.Sublist.cons_cons _ (List.Sublist.cons_cons _ (List.nil_sublist _))))
   exact ⟨_, H, F.re ⟨rfl, trivial⟩, W⟩
  rintro a w ⟨x8, hj, F, W⟩
  have hj := Bg hj
  subst hj
  have H := K1
  clear G1 K1
  refine AN ?_
  have H := Bg H
  subst H
  refine Bz (.inl Aa) F W Aa (Az F Aa) ?_
  exact ⟨rfl, W.done⟩
 have H := KL H
 have W := W.freeze
 refine BT (Ml := []) (Zl := []) (M := []) (Z := [Be v1 Bx ([(0, 0, 1, 3, 2, 5)] : List (Int × Int × Int × Int × Int × Int))]) (β := Unit) (rv := fun x => .tuple #[.pointer none, .int .i64 2]) (MM := fun x => []) (ZZ := fun x => []) F W H7 Aa Aa (fun hL => EI _ w (v1) (Value.slice none 0 0) (2, ([(0, 0, 1, 3, 2, 5)] : List (Int × Int × Int × Int × Int × Int)), ([] : List (Int × Int))) _ h1 (W.item (i := 0) Aa) Sl.nil) fun x a w F W => ?_
 have W : Stw ⟨Y, [], w0⟩ [] [Be v1 Bx ([(0, 0, 1, 3, 2, 5)] : List (Int × Int × Int × Int × Int × Int))] w := W
 refine ls F W Aa (Ad F Aa).q fun a w F W => ?_
 refine ls F W Aa (AU (v := Value.pointer none) F Aa Aa).q fun a w F W => ?_
 refine ls F W Aa (AU (v := Value.int .i64 2) F Aa Aa).q fun a w F W => ?_
 iterate 2 refine ls F W Aa (Ag F Aa).q fun a w F W => ?_
 refine Ae (Ab (Ai (Ac ?_)))
 refine ls F W Aa (Ad F Aa).q fun a w F W => ?_
 refine ls F W Aa (HK (v := Value.agg #[.int .i64 1, .int .i64 0, .int .i64 0, .int .i64 0]) KP KD F Aa Aa Aa).q fun a w F W => ?_
 refine ls F W Aa (B3 (v := Value.int .i64 1) F LB Aa (fun w W => Fo any w 10 0 0 7 (1, 0, 0, 0) _ Aa)) fun a w F W => ?_
 refine ls F W Aa (Ag F Aa).q fun a w F W => ?_
 refine Ae (Ab (Ai (Ac ?_)))
 refine ls F W Aa (Ad F Aa).q fun a w F W => ?_
 refine ls F W Aa (B3 (v := Value.tuple #[.agg #[.int .i64 0, .int .i64 0, .int .i64 0, .int .i64 0, .int .i64 0, .int .i64 0, .int .i64 0, .int .i64 0, .int .i64 0], .int .i64 1]) F KQ Aa (fun w W => DX any w 11 0 _ Aa)) fun a w F W => ?_
 refine ls F W Aa (Ad F Aa).q fun a w F W => ?_
 refine ls F W Aa (AU (v := Value.agg #[.int .i64 0, .int .i64 0, .int .i64 0, .int .i64 0, .int .i64 0, .int .i64 0, .int .i64 0, .int .i64 0, .int .i64 0]) F Aa Aa).q fun a w F W => ?_
 refine ls F W Aa (AU (v := Value.int .i64 1) F Aa Aa).q fun a w F W => ?_
 refine BZ (cs := (CD)) F W Aa Hg Aa fun b4 a w F W => ?_
 refine Bl (vs := (CD)) (M' := (Id b4)) 0 F W Aa Aa Aa Dk Aa Aa Aa Aa Aa fun w W => ?_
 refine ls F W Aa (Ag F Aa).q fun a w F W => ?_
 refine Ae (Ab (Ai (Ac ?_)))
 refine ls F W Aa (Ad F Aa).q fun a w F W => ?_
 refine ls F W Aa (B3 (v := Value.int .i64 (-1)) F La Aa (fun w W => E8 any w _ Aa)) fun a w F W => ?_
 refine ls F W Aa (Ag F Aa).q fun a w F W => ?_
 refine Ae (Ab (Ai (Ac ?_)))
 refine ls F W Aa (Ad F Aa).q fun a w F W => ?_
 refine ls F W Aa (B3 (v := Value.tuple #[.agg #[.int .i64 0, .int .i64 0, .int .i64 0, .int .i64 0, .int .i64 0, .int .i64 0, .int .i64 0, .int .i64 0, .int .i64 0], .int .i64 1]) F KQ Aa (fun w W => DX any w 12 0 _ Aa)) fun a w F W => ?_
 refine ls F W Aa (Ad F Aa).q fun a w F W => ?_
 refine ls F W Aa (AU (v := Value.agg #[.int .i64 0, .int .i64 0, .int .i64 0, .int .i64 0, .int .i64 0, .int .i64 0, .int .i64 0, .int .i64 0, .int .i64 0]) F Aa Aa).q fun a w F W => ?_
 refine ls F W Aa (AU (v := Value.int .i64 1) F Aa Aa).q fun a w F W => ?_
 refine BZ (cs := (CD)) F W Aa Hg Aa fun b5 a w F W => ?_
 refine Bl (vs := (CD)) (M' := (Jr b5 b4)) 0 F W Aa Aa Aa Dk Aa Aa Aa Aa Aa fun w W => ?_
 refine ls F W Aa (Ag F Aa).q fun a w F W => ?_
 refine Ae (Ab (Ai (Ac ?_)))
 refine ls F W Aa (Ad F Aa).q fun a w F W => ?_
 refine ls F W Aa (Cm F Aa Aa).q fun a w F W => ?_
 rw [show decide ((2 : Int) = 0) = false from by decide] at F
 refine ls F W Aa (Ad F Aa).q fun a w F W => ?_
 iterate 2 refine B7 F Aa Aa Aa Aa Aa Aa Aa fun a F => ?_
 refine ls F W Aa (Ak F Aa Aa Aa).q fun a w F W => ?_
 refine ls F W Aa (Ad F Aa).q fun a w F W => ?_
 iterate 2 refine B7 F Aa Aa Aa Aa Aa Aa Aa fun a F => ?_
 refine ls F W Aa (Ak F Aa Aa Aa).q fun a w F W => ?_
 refine ls F W Aa (Ad F Aa).q fun a w F W => ?_
 iterate 2 refine B7 F Aa Aa Aa Aa Aa Aa Aa fun a F => ?_
 refine ls F W Aa (Ak F Aa Aa Aa).q fun a w F W => ?_
 refine ls F W Aa (Ad F Aa).q fun a w F W => ?_
 iterate 2 refine B7 F Aa Aa Aa Aa Aa Aa Aa fun a F => ?_
 refine ls F W Aa (Ak F Aa Aa Aa).q fun a w F W => ?_
 refine ls F W Aa (Ad F Aa).q fun a w F W => ?_
 iterate 3 refine B7 F Aa Aa Aa Aa Aa Aa Aa fun a F => ?_
 refine ls F W Aa (Ak F Aa Aa Aa).q fun a w F W => ?_
 refine ls F W Aa (Ad F Aa).q fun a w F W => ?_
 iterate 3 refine B7 F Aa Aa Aa Aa Aa Aa Aa fun a F => ?_
 refine ls F W Aa (Ak F Aa Aa Aa).q fun a w F W => ?_
 refine ls F W Aa (Ad F Aa).q fun a w F W => ?_
 iterate 3 refine B7 F Aa Aa Aa Aa Aa Aa Aa fun a F => ?_
 refine ls F W Aa (Ak F Aa Aa Aa).q fun a w F W => ?_
 refine ls F W Aa (Ad F Aa).q fun a w F W => ?_
 iterate 3 refine B7 F Aa Aa Aa Aa Aa Aa Aa fun a F => ?_
 refine ls F W Aa (Ak F Aa Aa Aa).q fun a w F W => ?_
 refine ls F W Aa (Ad F Aa).q fun a w F W => ?_
 iterate 3 refine B7 F Aa Aa Aa Aa Aa Aa Aa fun a F => ?_
 refine ls F W Aa (Ak F Aa Aa Aa).q fun a w F W => ?_
 refine ls F W Aa (Ag F Aa).q fun a w F W => ?_
 refine Ae (Ab (AN ?_))
 have H := Bg H
 subst H
 refine Bz (.inl Aa) F W Aa (Az F Aa) ?_
 exact ⟨rfl, W.done⟩
theorem H6 : Has Try.prog 6 := ⟨fun args w => An Try.func6 rfl (by decide) args w⟩
noncomputable def Dj (p0 : Int × (List (Int × Int × Int × Int × Int × Int)) × (List (Int × Int))) (p1 : Int) (p2 : Int) : (Int × Int) → Option ((Int × Int) ⊕ Int)
  | (x2, x3) => (if x3 < (p0.2.1.length : Int) then ((ix p0.2.1 x3).bind fun x5 => (if (decide (x5.1 = p1) && decide (x5.2.1 = p2)) = true then some (Ay (x2 + 1)) else some x2).bind fun x6 => (if (decide (x5.2.2.1 = p1) && decide (x5.2.2.2.1 = p2)) = true then some (Ay (x6 + 1)) else some x6)).bind fun x4 => some (.inl (x4, Ay (x3 + 1))) else some (.inr x2))
noncomputable def Dl (p0 : Int × (List (Int × Int × Int × Int × Int × Int)) × (List (Int × Int))) (p1 : Int) (p2 : Int) : (Int × Int) → Option ((Int × Int) ⊕ Int)
  | (x8, x9) => (if x9 < (p0.2.2.length : Int) then (((ix p0.2.2 x9).bind fun x12 => (if x12.1 = p1 then (ix p0.2.2 x9).bind fun x13 => some (decide (x13.2 = p2)) else some false)).bind fun x11 => (if x11 = true then some (Ay (x8 + 1)) else some x8)).bind fun x10 => some (.inl (x10, Ay (x9 + 1))) else some (.inr x8))
noncomputable def D4 (p0 : Int × (List (Int × Int × Int × Int × Int × Int)) × (List (Int × Int))) (p1 : Int) (p2 : Int) : Option Bool := (AM (Dj p0 p1 p2) (0, 0)).bind fun x1 => (AM (Dl p0 p1 p2) (x1, 0)).bind fun x7 => some (decide (0 ≤ p1) && (decide (p1 < p0.1) && (decide (0 ≤ p2) && (decide (p2 ≤ 7) && decide (x7 = 1)))))
theorem Fi (Y : Nat → Prop) (w0 : World) (v1 : Value) (v2 : Value) (p0 : Int × (List (Int × Int × Int × Int × Int × Int)) × (List (Int × Int))) (p1 : Int) (p2 : Int) (r : Bool) (H : D4 p0 p1 p2 = some r) (h_v1 : Sl w0 (NX []) Bx v1 p0.2.1) (h_v2 : Sl w0 (NX []) Cb v2 p0.2.2) :
    Calls Try.prog 30 #[.agg #[.int .i64 p0.1, v1, v2], .int .i64 p1, .int .i64 p2] w0 fun e w' => e = .returned (.bool r) ∧ Below w0.heap.size w0 w' := by
 refine enter Try.func30 Aa Try.ntmps30 Aa fun a F => ?_
 have W := Stw.start Y w0
 unfold D4 at H
 refine Ai (Ac ?_)
 refine DW (cs := [.int .i64 p0.1, v1, v2]) F W Aa Aa Aa fun b1 a w F W => ?_
 refine ls F W Aa (Ag F Aa).q fun a w F W => ?_
 refine Ae (Ab (Ai (Ac ?_)))
 refine ls F W Aa (Ag F Aa).q fun a w F W => ?_
 refine Ae (Ab ?_)
 obtain ⟨o1, G1, K1⟩ := Al H
 refine AO (fun a w => ∃ x1 : Int, some (x1) = some o1 ∧ Fr 94 [] [(1, .int .i64 p1), (2, .int .i64 p2), (3, .pointer (some ⟨b1, 0, none⟩)), (6, .bool false), (7, .int .i64 x1)] a ∧ Stw ⟨Y, [], w0⟩ [(b1, [.int .i64 p0.1, v1, v2])] [] w) ?_ ?_
 ·
  have H := G1
  clear G1 K1
  refine Ai (Ac ?_)
  refine ls F W Aa (Ag F Aa).q fun a w F W => ?_
  refine Ae (Ab (AA ?_))
  refine BG H (fun s a w => Fr 94 [] [(1, .int .i64 p1), (2, .int .i64 p2), (3, .pointer (some ⟨b1, 0, none⟩)), (6, .bool false), (7, .int .i64 s.1), (8, .int .i64 s.2)] a ∧ Stw ⟨Y, [], w0⟩ [(b1, [.int .i64 p0.1, v1, v2])] [] w) ⟨F.re ⟨rfl, Aa, Aa, Aa, Aa, Aa, trivial⟩, W⟩ fun s o a w H L2 hR => ?_
  obtain ⟨x2, x3⟩ := s
  obtain ⟨F, W⟩ := hR
  have F : Fr 94 [] [(1, .int .i64 p1), (2, .int .i64 p2), (3, .pointer (some ⟨b1, 0, none⟩)), (6, .bool false), (7, .int .i64 x2), (8, .int .i64 x3)] a := F
  have W : Stw ⟨Y, [], w0⟩ [(b1, [.int .i64 p0.1, v1, v2])] [] w := W
  rw [Dj] at H
  refine Ai (Ai (Ac ?_))
  refine ls F W Aa (Ad F Aa).q fun a w F W => ?_
  refine ls F W Aa (Ah CZ Aa Aa Aa E5 F Aa 1 Aa).q fun a w F W => ?_
  refine ls F W Aa (Ao (v := v1) 0 F Aa Aa E5 Aa).q fun a w F W => ?_
  refine ls F W Aa (Cp (r := Bx) (l := p0.2.1) Gx Aa F Aa (Ap h_v1)).q fun a w F W => ?_
  refine ls F W Aa (Bm F Aa Aa).q fun a w F W => ?_
  refine Ae (Ab ?_)
  refine AC F Aa (fun hb => ?_) fun hb => ?_
  ·
   have H := A5 (BJ hb) H
   rw [hb] at F
   clear hb
   refine As (Ab ?_)
   obtain ⟨o3, G3, K3⟩ := Al H
   refine AO (fun a w => ∃ x4 : Int, some (x4) = some o3 ∧ Fr 94 [] [(1, .int .i64 p1), (2, .int .i64 p2), (3, .pointer (some ⟨b1, 0, none⟩)), (6, .bool false), (7, .int .i64 x4), (8, .int .i64 x3)] a ∧ Stw ⟨Y, [], w0⟩ [(b1, [.int .i64 p0.1, v1, v2])] [] w) ?_ ?_
   ·
    have H := G3
    clear G3 K3
    refine AA (Ai (Ac ?_))
    refine ls F W Aa (Ah CZ Aa Aa Aa E5 F Aa 1 Aa).q fun a w F W => ?_
    refine ls F W Aa (Ao (v := v1) 0 F Aa Aa E5 Aa).q fun a w F W => ?_
    refine ls F W Aa (Ad F Aa).q fun a w F W => ?_
    obtain ⟨x5, h1, H⟩ := Al H
    refine ls F W Aa (AW (r := Bx) I0 F Aa Aa (Ap h_v1) h1).q fun a w F W => ?_
    refine ls F W Aa (Av (y := Value.agg #[.int .i64 x5.1, .int .i64 x5.2.1, .int .i64 x5.2.2.1, .int .i64 x5.2.2.2.1, .int .i64 x5.2.2.2.2.1, .int .i64 x5.2.2.2.2.2]) (j := 0) (i := x3) F Aa Aa (Ap h_v1) h1 Jo.to IA Aa).q fun a w F W => ?_
    refine BZ (cs := (IU)) F W Aa Ka Aa fun b2 a w F W => ?_
    refine Bl (vs := (Gv x5)) (M' := (Gy b2 x5 b1 p0 v1 v2)) 0 F W Aa Aa Aa IA Aa Aa Aa Aa Aa fun w W => ?_
    refine Ae (Ab ?_)
    obtain ⟨o4, G4, K4⟩ := Al H
    refine AO (fun a w => ∃ x6 : Int, some (x6) = some o4 ∧ Fr 94 [] [(1, .int .i64 p1), (2, .int .i64 p2), (3, .pointer (some ⟨b1, 0, none⟩)), (6, .bool false), (7, .int .i64 x6), (8, .int .i64 x3), (9, .pointer (some ⟨b2, 0, none⟩))] a ∧ Stw ⟨Y, [], w0⟩ (Gy b2 x5 b1 p0 v1 v2) [] w) ?_ ?_
    ·
     have H := G4
     clear G4 K4
     refine AO (fun a w => Fr 94 [] [(1, .int .i64 p1), (2, .int .i64 p2), (3, .pointer (some ⟨b1, 0, none⟩)), (6, .bool false), (7, .int .i64 x2), (8, .int .i64 x3), (9, .pointer (some ⟨b2, 0, none⟩)), (32, .bool (decide (x5.1 = p1) && decide (x5.2.1 = p2)))] a ∧ Stw ⟨Y, [], w0⟩ (Gy b2 x5 b1 p0 v1 v2) [] w) ?_ ?_
     ·
      refine Ac ?_
      refine ls F W Aa (Ah Cs Aa Aa Aa T3 F Aa 0 Aa).q fun a w F W => ?_
      refine ls F W Aa (Ao (v := Value.int .i64 x5.1) 0 F Aa Aa T3 Aa).q fun a w F W => ?_
      refine ls F W Aa (Ad F Aa).q fun a w F W => ?_
      refine ls F W Aa (Cm F Aa Aa).q fun a w F W => ?_
      refine ls F W Aa (Ad F Aa).q fun a w F W => ?_
      rcases Bool.eq_false_or_eq_true (decide (x5.1 = p1)) with hb0 | hb0
      ·
       rw [hb0] at F
       refine Ax F W (Af F Aa Aa Aa Aa) Aa (Aj Aa) (Ah Cs Aa Aa Aa T3 F Aa 1 Aa).q fun a w F W => ?_
       refine Ax F W (Af F Aa Aa Aa Aa) Aa (Aj Aa) (Ao (v := Value.int .i64 x5.2.1) 0 F Aa Aa T3 Aa).q fun a w F W => ?_
       refine Ax F W (Af F Aa Aa Aa Aa) Aa (Aj Aa) (Ad F Aa).q fun a w F W => ?_
       refine Ax F W (Af F Aa Aa Aa Aa) Aa (Aj Aa) (Cm F Aa Aa).q fun a w F W => ?_
       refine ls F W Aa (Am F Aa Aa Aa).q fun a w F W => ?_
       refine Ae (Ab ?_)
       exact ⟨F.re ⟨rfl, Aa, Aa, Aa, Aa, Aa, Aa, (Ev (by try rw [hb0]; all_goals simp only [Ez])), trivial⟩, W⟩
      rw [hb0] at F
      iterate 4 refine B7 F Aa Aa Aa Aa Aa Aa Aa fun a F => ?_
      refine ls F W Aa (Ak F Aa Aa Aa).q fun a w F W => ?_
      refine Ae (Ab ?_)
      exact ⟨F.re ⟨rfl, Aa, Aa, Aa, Aa, Aa, Aa, (Ev (by try rw [hb0]; all_goals simp only [Ez])), trivial⟩, W⟩
     rintro a w ⟨F, W⟩
     refine AC F Aa (fun hb => ?_) fun hb => ?_
     ·
      have H := A5 hb H
      rw [hb] at F
      clear hb
      refine Ac ?_
      refine ls F W Aa (Ad F Aa).q fun a w F W => ?_
      refine ls F W Aa (BE F Aa Aa Aa).q fun a w F W => ?_
      refine ls F W Aa (Ag F Aa).q fun a w F W => ?_
      refine Ae (Ab ?_)
      have W := W.frontM (i := 1) Aa Aa
      have W := W.frontM (i := 1) Aa Aa
      exact ⟨_, H, F.re ⟨rfl, Aa, Aa, Aa, Aa, Aa, Aa, trivial⟩, W⟩
     have H := A6 (by rw [hb]; decide) H
     rw [hb] at F
     clear hb
     refine As (Ab ?_)
     have W := W.frontM (i := 1) Aa Aa
     have W := W.frontM (i := 1) Aa Aa
     exact ⟨_, H, F.re ⟨rfl, Aa, Aa, Aa, Aa, Aa, Aa, trivial⟩, W⟩
    rintro a w ⟨x6, hj, F, W⟩
    have hj := Bg hj
    subst hj
    have H := K4
    clear G4 K4
    refine AO (fun a w => Fr 94 [] [(1, .int .i64 p1), (2, .int .i64 p2), (3, .pointer (some ⟨b1, 0, none⟩)), (6, .bool false), (7, .int .i64 x6), (8, .int .i64 x3), (44, .bool (decide (x5.2.2.1 = p1) && decide (x5.2.2.2.1 = p2)))] a ∧ Stw ⟨Y, [], w0⟩ (Gy b2 x5 b1 p0 v1 v2) [] w) ?_ ?_
    ·
     refine Ac ?_
     refine ls F W Aa (Ah Cs Aa Aa Aa T3 F Aa 2 Aa).q fun a w F W => ?_
     refine ls F W Aa (Ao (v := Value.int .i64 x5.2.2.1) 0 F Aa Aa T3 Aa).q fun a w F W => ?_
     refine ls F W Aa (Ad F Aa).q fun a w F W => ?_
     refine ls F W Aa (Cm F Aa Aa).q fun a w F W => ?_
     refine ls F W Aa (Ad F Aa).q fun a w F W => ?_
     rcases Bool.eq_false_or_eq_true (decide (x5.2.2.1 = p1)) with hb0 | hb0
     ·
      rw [hb0] at F
      refine Ax F W (Af F Aa Aa Aa Aa) Aa (Aj Aa) (Ah Cs Aa Aa Aa T3 F Aa 3 Aa).q fun a w F W => ?_
      refine Ax F W (Af F Aa Aa Aa Aa) Aa (Aj Aa) (Ao (v := Value.int .i64 x5.2.2.2.1) 0 F Aa Aa T3 Aa).q fun a w F W => ?_
      refine Ax F W (Af F Aa Aa Aa Aa) Aa (Aj Aa) (Ad F Aa).q fun a w F W => ?_
      refine Ax F W (Af F Aa Aa Aa Aa) Aa (Aj Aa) (Cm F Aa Aa).q fun a w F W => ?_
      refine ls F W Aa (Am F Aa Aa Aa).q fun a w F W => ?_
      refine Ae (Ab ?_)
      exact ⟨F.re ⟨rfl, Aa, Aa, Aa, Aa, Aa, (Ev (by try rw [hb0]; all_goals simp only [Ez])), trivial⟩, W⟩
     rw [hb0] at F
     iterate 4 refine B7 F Aa Aa Aa Aa Aa Aa Aa fun a F => ?_
     refine ls F W Aa (Ak F Aa Aa Aa).q fun a w F W => ?_
     refine Ae (Ab ?_)
     exact ⟨F.re ⟨rfl, Aa, Aa, Aa, Aa, Aa, (Ev (by try rw [hb0]; all_goals simp only [Ez])), trivial⟩, W⟩
    rintro a w ⟨F, W⟩
    refine AC F Aa (fun hb => ?_) fun hb => ?_
    ·
     have H := A5 hb H
     rw [hb] at F
     clear hb
     refine Ac ?_
     refine ls F W Aa (Ad F Aa).q fun a w F W => ?_
     refine ls F W Aa (BE F Aa Aa Aa).q fun a w F W => ?_
     refine ls F W Aa (Ag F Aa).q fun a w F W => ?_
     refine Ae (AZ (Ab ?_))
     have W := W.frontM (i := 1) Aa Aa
     have W := W.sub (M' := [(b1, [.int .i64 p0.1, v1, v2])]) (Z' := []) (List.Sublist.cons_cons _ (List.nil_sublist _)) (List.Sublist.refl _)
     exact ⟨_, H, F.re ⟨rfl, Aa, Aa, Aa, Aa, Aa, trivial⟩, W⟩
    have H := A6 (by rw [hb]; decide) H
    rw [hb] at F
    clear hb
    refine As (AZ (Ab ?_))
    have W := W.frontM (i := 1) Aa Aa
    have W := W.sub (M' := [(b1, [.int .i64 p0.1, v1, v2])]) (Z' := []) (List.Sublist.cons_cons _ (List.nil_sublist _)) (List.Sublist.refl _)
    exact ⟨_, H, F.re ⟨rfl, Aa, Aa, Aa, Aa, Aa, trivial⟩, W⟩
   rintro a w ⟨x4, hj, F, W⟩
   have hj := Bg hj
   subst hj
   have H := K3
   clear G3 K3
   refine Ac ?_
   refine ls F W Aa (Ad F Aa).q fun a w F W => ?_
   refine ls F W Aa (BE F Aa Aa Aa).q fun a w F W => ?_
   refine ls F W Aa (Ag F Aa).q fun a w F W => ?_
   refine Ae (Ab ?_)
   exact ⟨_, H, F.re ⟨rfl, Aa, Aa, Aa, Aa, Aa, trivial⟩, W⟩
  have H := A6 (BK hb) H
  rw [hb] at F
  clear hb
  refine BF ?_
  iterate 2 refine Cf ?_
  refine BI (Ab ?_)
  have H := L2 _ H
  exact ⟨_, H, F.re ⟨rfl, Aa, Aa, Aa, Aa, trivial⟩, W⟩
 rintro a w ⟨x1, hj, F, W⟩
 have hj := Bg hj
 subst hj
 have H := K1
 clear G1 K1
 obtain ⟨o5, G5, K5⟩ := Al H
 refine AO (fun a w => ∃ x7 : Int, some (x7) = some o5 ∧ Fr 94 [] [(1, .int .i64 p1), (2, .int .i64 p2), (3, .pointer (some ⟨b1, 0, none⟩)), (6, .bool false), (7, .int .i64 x7)] a ∧ Stw ⟨Y, [], w0⟩ [(b1, [.int .i64 p0.1, v1, v2])] [] w) ?_ ?_
 ·
  have H := G5
  clear G5 K5
  refine Ai (Ac ?_)
  refine ls F W Aa (Ag F Aa).q fun a w F W => ?_
  refine Ae (Ab (AA ?_))
  refine BG H (fun s a w => Fr 94 [] [(1, .int .i64 p1), (2, .int .i64 p2), (3, .pointer (some ⟨b1, 0, none⟩)), (6, .bool false), (7, .int .i64 s.1), (10, .int .i64 s.2)] a ∧ Stw ⟨Y, [], w0⟩ [(b1, [.int .i64 p0.1, v1, v2])] [] w) ⟨F.re ⟨rfl, Aa, Aa, Aa, Aa, Aa, trivial⟩, W⟩ fun s o a w H L6 hR => ?_
  obtain ⟨x8, x9⟩ := s
  obtain ⟨F, W⟩ := hR
  have F : Fr 94 [] [(1, .int .i64 p1), (2, .int .i64 p2), (3, .pointer (some ⟨b1, 0, none⟩)), (6, .bool false), (7, .int .i64 x8), (10, .int .i64 x9)] a := F
  have W : Stw ⟨Y, [], w0⟩ [(b1, [.int .i64 p0.1, v1, v2])] [] w := W
  rw [Dl] at H
  refine Ai (Ai (Ac ?_))
  refine ls F W Aa (Ad F Aa).q fun a w F W => ?_
  refine ls F W Aa (Ah CZ Aa Aa Aa GH F Aa 2 Aa).q fun a w F W => ?_
  refine ls F W Aa (Ao (v := v2) 0 F Aa Aa GH Aa).q fun a w F W => ?_
  refine ls F W Aa (Cp (r := Cb) (l := p0.2.2) HX Aa F Aa (Ap h_v2)).q fun a w F W => ?_
  refine ls F W Aa (Bm F Aa Aa).q fun a w F W => ?_
  refine Ae (Ab ?_)
  refine AC F Aa (fun hb => ?_) fun hb => ?_
  ·
   have H := A5 (BJ hb) H
   rw [hb] at F
   clear hb
   refine As (Ab ?_)
   obtain ⟨o7, G7, K7⟩ := Al H
   refine AO (fun a w => ∃ x10 : Int, some (x10) = some o7 ∧ Fr 94 [] [(1, .int .i64 p1), (2, .int .i64 p2), (3, .pointer (some ⟨b1, 0, none⟩)), (6, .bool false), (7, .int .i64 x10), (10, .int .i64 x9)] a ∧ Stw ⟨Y, [], w0⟩ [(b1, [.int .i64 p0.1, v1, v2])] [] w) ?_ ?_
   ·
    have H := G7
    clear G7 K7
    refine AA ?_
    obtain ⟨o8, G8, K8⟩ := Al H
    refine AO (fun a w => ∃ x11 : Bool, some (x11) = some o8 ∧ Fr 94 [] [(1, .int .i64 p1), (2, .int .i64 p2), (3, .pointer (some ⟨b1, 0, none⟩)), (6, .bool false), (7, .int .i64 x8), (10, .int .i64 x9), (71, .bool x11)] a ∧ Stw ⟨Y, [], w0⟩ [(b1, [.int .i64 p0.1, v1, v2])] [] w) ?_ ?_
    ·
     have H := G8
     clear G8 K8
     refine Ac ?_
     refine ls F W Aa (Ah CZ Aa Aa Aa GH F Aa 2 Aa).q fun a w F W => ?_
     refine ls F W Aa (Ao (v := v2) 0 F Aa Aa GH Aa).q fun a w F W => ?_
     refine ls F W Aa (Ad F Aa).q fun a w F W => ?_
     obtain ⟨x12, h2, H⟩ := Al H
     refine ls F W Aa (AW (r := Cb) KM F Aa Aa (Ap h_v2) h2).q fun a w F W => ?_
     refine ls F W Aa (Ah IC Aa Aa Aa T3 F Aa (Dd v2 + (x9).toNat * 2) Aa).q fun a w F W => ?_
     refine ls F W Aa (Av (y := Value.int .i64 x12.1) (j := 0) (i := x9) F Aa Aa (Ap h_v2) h2 KV.to T3 Aa).q fun a w F W => ?_
     refine ls F W Aa (Ad F Aa).q fun a w F W => ?_
     refine ls F W Aa (Cm F Aa Aa).q fun a w F W => ?_
     refine ls F W Aa (Ad F Aa).q fun a w F W => ?_
     rcases Bool.eq_false_or_eq_true (decide (x12.1 = p1)) with hb | hb
     ·
      have H := A5 (BJ hb) H
      rw [hb] at F
      clear hb
      refine Ax F W (Af F Aa Aa Aa Aa) Aa (Aj Aa) (Ah CZ Aa Aa Aa GH F Aa 2 Aa).q fun a w F W => ?_
      refine Ax F W (Af F Aa Aa Aa Aa) Aa (Aj Aa) (Ao (v := v2) 0 F Aa Aa GH Aa).q fun a w F W => ?_
      refine Ax F W (Af F Aa Aa Aa Aa) Aa (Aj Aa) (Ad F Aa).q fun a w F W => ?_
      obtain ⟨x13, h3, H⟩ := Al H
      refine Ax F W (Af F Aa Aa Aa Aa) Aa (Aj Aa) (AW (r := Cb) KM F Aa Aa (Ap h_v2) h3).q fun a w F W => ?_
      refine Ax F W (Af F Aa Aa Aa Aa) Aa (Aj Aa) (Ah IC Aa Aa Aa T3 F Aa (Dd v2 + (x9).toNat * 2 + 1) Aa).q fun a w F W => ?_
      refine Ax F W (Af F Aa Aa Aa Aa) Aa (Aj Aa) (Av (y := Value.int .i64 x13.2) (j := 1) (i := x9) F Aa Aa (Ap h_v2) h3 KV.to T3 Aa).q fun a w F W => ?_
      refine Ax F W (Af F Aa Aa Aa Aa) Aa (Aj Aa) (Ad F Aa).q fun a w F W => ?_
      refine Ax F W (Af F Aa Aa Aa Aa) Aa (Aj Aa) (Cm F Aa Aa).q fun a w F W => ?_
      refine ls F W Aa (Am F Aa Aa Aa).q fun a w F W => ?_
      refine Ae (Ab ?_)
      exact ⟨_, H, F.re ⟨rfl, Aa, Aa, Aa, Aa, Aa, Aa, trivial⟩, W⟩
     have H := A6 (BK hb) H
     rw [hb] at F
     clear hb
     iterate 8 refine B7 F Aa Aa Aa Aa Aa Aa Aa fun a F => ?_
     refine ls F W Aa (Ak F Aa Aa Aa).q fun a w F W => ?_
     refine Ae (Ab ?_)
     exact ⟨_, H, F.re ⟨rfl, Aa, Aa, Aa, Aa, Aa, Aa, trivial⟩, W⟩
    rintro a w ⟨x11, hj, F, W⟩
    have hj := Bg hj
    subst hj
    have H := K8
    clear G8 K8
    refine AC F Aa (fun hb => ?_) fun hb => ?_
    ·
     have H := A5 hb H
     rw [hb] at F
     clear hb
     refine Ac ?_
     refine ls F W Aa (Ad F Aa).q fun a w F W => ?_
     refine ls F W Aa (BE F Aa Aa Aa).q fun a w F W => ?_
     refine ls F W Aa (Ag F Aa).q fun a w F W => ?_
     refine Ae (AZ (Ab ?_))
     exact ⟨_, H, F.re ⟨rfl, Aa, Aa, Aa, Aa, Aa, trivial⟩, W⟩
    have H := A6 (by rw [hb]; decide) H
    rw [hb] at F
    clear hb
    refine As (AZ (Ab ?_))
    exact ⟨_, H, F.re ⟨rfl, Aa, Aa, Aa, Aa, Aa, trivial⟩, W⟩
   rintro a w ⟨x10, hj, F, W⟩
   have hj := Bg hj
   subst hj
   have H := K7
   clear G7 K7
   refine Ac ?_
   refine ls F W Aa (Ad F Aa).q fun a w F W => ?_
   refine ls F W Aa (BE F Aa Aa Aa).q fun a w F W => ?_
   refine ls F W Aa (Ag F Aa).q fun a w F W => ?_
   refine Ae (Ab ?_)
   exact ⟨_, H, F.re ⟨rfl, Aa, Aa, Aa, Aa, Aa, trivial⟩, W⟩
  have H := A6 (BK hb) H
  rw [hb] at F
  clear hb
  refine BF ?_
  iterate 2 refine Cf ?_
  refine BI (Ab ?_)
  have H := L6 _ H
  exact ⟨_, H, F.re ⟨rfl, Aa, Aa, Aa, Aa, trivial⟩, W⟩
 rintro a w ⟨x7, hj, F, W⟩
 have hj := Bg hj
 subst hj
 have H := K5
 clear G5 K5
 refine AO (fun a w => Fr 94 [] [(6, .bool (decide (0 ≤ p1) && (decide (p1 < p0.1) && (decide (0 ≤ p2) && (decide (p2 ≤ 7) && decide (x7 = 1))))))] a ∧ Stw ⟨Y, [], w0⟩ [(b1, [.int .i64 p0.1, v1, v2])] [] w) ?_ ?_
 ·
  refine Ac ?_
  refine ls F W Aa (Ad F Aa).q fun a w F W => ?_
  refine ls F W Aa (Fe F Aa Aa).q fun a w F W => ?_
  refine ls F W Aa (Ad F Aa).q fun a w F W => ?_
  rcases Bool.eq_false_or_eq_true (decide (0 ≤ p1)) with hb0 | hb0
  ·
   rw [hb0] at F
   refine Ax F W (Af F Aa Aa Aa Aa) Aa (Aj Aa) (Ad F Aa).q fun a w F W => ?_
   refine Ax F W (Af F Aa Aa Aa Aa) Aa (Aj Aa) (Ah CZ Aa Aa Aa T3 F Aa 0 Aa).q fun a w F W => ?_
   refine Ax F W (Af F Aa Aa Aa Aa) Aa (Aj Aa) (Ao (v := Value.int .i64 p0.1) 0 F Aa Aa T3 Aa).q fun a w F W => ?_
   refine Ax F W (Af F Aa Aa Aa Aa) Aa (Aj Aa) (Bm F Aa Aa).q fun a w F W => ?_
   refine ls F W Aa (Am F Aa Aa Aa).q fun a w F W => ?_
   refine ls F W Aa (Ad F Aa).q fun a w F W => ?_
   rcases Bool.eq_false_or_eq_true (decide (p1 < p0.1)) with hb1 | hb1
   ·
    rw [hb1] at F
    refine Ax F W (Af F Aa Aa Aa Aa) Aa (Aj Aa) (Ad F Aa).q fun a w F W => ?_
    refine Ax F W (Af F Aa Aa Aa Aa) Aa (Aj Aa) (Fe F Aa Aa).q fun a w F W => ?_
    refine ls F W Aa (Am F Aa Aa Aa).q fun a w F W => ?_
    refine ls F W Aa (Ad F Aa).q fun a w F W => ?_
    rcases Bool.eq_false_or_eq_true (decide (0 ≤ p2)) with hb2 | hb2
    ·
     rw [hb2] at F
     refine Ax F W (Af F Aa Aa Aa Aa) Aa (Aj Aa) (Ad F Aa).q fun a w F W => ?_
     refine Ax F W (Af F Aa Aa Aa Aa) Aa (Aj Aa) (HD F Aa Aa).q fun a w F W => ?_
     refine ls F W Aa (Am F Aa Aa Aa).q fun a w F W => ?_
     refine ls F W Aa (Ad F Aa).q fun a w F W => ?_
     rcases Bool.eq_false_or_eq_true (decide (p2 ≤ 7)) with hb3 | hb3
     ·
      rw [hb3] at F
      refine Ax F W (Af F Aa Aa Aa Aa) Aa (Aj Aa) (Ad F Aa).q fun a w F W => ?_
      refine Ax F W (Af F Aa Aa Aa Aa) Aa (Aj Aa) (Cm F Aa Aa).q fun a w F W => ?_
      refine ls F W Aa (Am F Aa Aa Aa).q fun a w F W => ?_
      refine ls F W Aa (Ag F Aa).q fun a w F W => ?_
      refine Ae (Ab ?_)
      exact ⟨F.re ⟨(Ev (by try rw [hb1]; try rw [hb0]; try rw [hb2]; try rw [hb3]; all_goals simp only [Ez])), trivial⟩, W⟩
     rw [hb3] at F
     iterate 2 refine B7 F Aa Aa Aa Aa Aa Aa Aa fun a F => ?_
     refine ls F W Aa (Ak F Aa Aa Aa).q fun a w F W => ?_
     refine ls F W Aa (Ag F Aa).q fun a w F W => ?_
     refine Ae (Ab ?_)
     exact ⟨F.re ⟨(Ev (by try rw [hb1]; try rw [hb0]; try rw [hb2]; try rw [hb3]; all_goals simp only [Ez])), trivial⟩, W⟩
    rw [hb2] at F
    iterate 2 refine B7 F Aa Aa Aa Aa Aa Aa Aa fun a F => ?_
    refine ls F W Aa (Ak F Aa Aa Aa).q fun a w F W => ?_
    refine ls F W Aa (Ad F Aa).q fun a w F W => ?_
    iterate 2 refine B7 F Aa Aa Aa Aa Aa Aa Aa fun a F => ?_
    refine ls F W Aa (Ak F Aa Aa Aa).q fun a w F W => ?_
    refine ls F W Aa (Ag F Aa).q fun a w F W => ?_
    refine Ae (Ab ?_)
    exact ⟨F.re ⟨(Ev (by try rw [hb1]; try rw [hb0]; try rw [hb2]; all_goals simp only [Ez])), trivial⟩, W⟩
   rw [hb1] at F
   iterate 2 refine B7 F Aa Aa Aa Aa Aa Aa Aa fun a F => ?_
   refine ls F W Aa (Ak F Aa Aa Aa).q fun a w F W => ?_
   refine ls F W Aa (Ad F Aa).q fun a w F W => ?_
   iterate 2 refine B7 F Aa Aa Aa Aa Aa Aa Aa fun a F => ?_
   refine ls F W Aa (Ak F Aa Aa Aa).q fun a w F W => ?_
   refine ls F W Aa (Ad F Aa).q fun a w F W => ?_
   iterate 2 refine B7 F Aa Aa Aa Aa Aa Aa Aa fun a F => ?_
   refine ls F W Aa (Ak F Aa Aa Aa).q fun a w F W => ?_
   refine ls F W Aa (Ag F Aa).q fun a w F W => ?_
   refine Ae (Ab ?_)
   exact ⟨F.re ⟨(Ev (by try rw [hb1]; try rw [hb0]; all_goals simp only [Ez])), trivial⟩, W⟩
  rw [hb0] at F
  iterate 4 refine B7 F Aa Aa Aa Aa Aa Aa Aa fun a F => ?_
  refine ls F W Aa (Ak F Aa Aa Aa).q fun a w F W => ?_
  refine ls F W Aa (Ad F Aa).q fun a w F W => ?_
  iterate 2 refine B7 F Aa Aa Aa Aa Aa Aa Aa fun a F => ?_
  refine ls F W Aa (Ak F Aa Aa Aa).q fun a w F W => ?_
  refine ls F W Aa (Ad F Aa).q fun a w F W => ?_
  iterate 2 refine B7 F Aa Aa Aa Aa Aa Aa Aa fun a F => ?_
  refine ls F W Aa (Ak F Aa Aa Aa).q fun a w F W => ?_
  refine ls F W Aa (Ad F Aa).q fun a w F W => ?_
  iterate 2 refine B7 F Aa Aa Aa Aa Aa Aa Aa fun a F => ?_
  refine ls F W Aa (Ak F Aa Aa Aa).q fun a w F W => ?_
  refine ls F W Aa (Ag F Aa).q fun a w F W => ?_
  refine Ae (Ab ?_)
  exact ⟨F.re ⟨(Ev (by try rw [hb0]; all_goals simp only [Ez])), trivial⟩, W⟩
 rintro a w ⟨F, W⟩
 refine AN ?_
 have H := Bg H
 subst H
 refine Bz (.inl Aa) F W Aa (Az F Aa) ?_
 exact ⟨rfl, W.done⟩
end Go.Proofs.Ytemacefkdopgaaa
