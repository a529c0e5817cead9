/- The functions of layer 35, EV. Conditions: none. -/
import Derived.Test.YtemacefkdopgaaabA0
namespace Go.Proofs.Ytemacefkdopgaaa
open Go Go.RowKit
set_option linter.unusedVariables false
set_option linter.unusedSimpArgs false
set_option maxRecDepth 20000
theorem Mj : Has Try.prog 42 := ⟨fun args w => Ak Try.func42 rfl (by decide) args w⟩
def CA (p0 : Int) (p1 : Int) : Int := (if (Cv p0) = true then (if (Cv p1) = true then 0 else (-1)) else (if (Cv p1) = true then 1 else (if p0 < p1 then (-1) else (if p1 < p0 then 1 else 0))))
theorem FT (Y : Nat → Prop) (w0 : World)  (p0 : Int) (p1 : Int) (r : Int) (H : CA p0 p1 = r)  :
    Calls Try.prog 39 #[.int .i64 p0, .int .i64 p1] w0 fun e w' => e = .returned (.int .i64 r) ∧ Below w0.heap.size w0 w' := by
 refine enter Try.func39 Aa Try.ntmps39 Aa fun a F => ?_
 have W := Stw.start Y w0
 unfold CA at H
 refine Ai (Ab ?_)
 refine ls F W Aa (Af F Aa).q fun a w F W => ?_
 refine Ae (Ac (Ai (Ab ?_)))
 refine ls F W Aa (Ad F Aa).q fun a w F W => ?_
 refine ls F W Aa (Bv (v := Value.bool (Cv p0)) F Mj Aa (fun w W => E0 any w p0 _ Aa)) fun a w F W => ?_
 refine ls F W Aa (Af F Aa).q fun a w F W => ?_
 refine Ae (Ac (Ai (Ab ?_)))
 refine ls F W Aa (Ad F Aa).q fun a w F W => ?_
 refine ls F W Aa (Bv (v := Value.bool (Cv p1)) F Mj Aa (fun w W => E0 any w p1 _ Aa)) fun a w F W => ?_
 refine ls F W Aa (Af F Aa).q fun a w F W => ?_
 refine Ae (Ac (Ai (Ai (Ab ?_))))
 refine ls F W Aa (Ad F Aa).q fun a w F W => ?_
 refine Ae (Ac ?_)
 refine Ay F Aa (fun hb => ?_) fun hb => ?_
 ·
  have H := A8 hb H
  rw [hb] at F
  clear hb
  refine Ai (Ai (Ab ?_))
  refine ls F W Aa (Ad F Aa).q fun a w F W => ?_
  refine Ae (Ac ?_)
  refine Ay F Aa (fun hb => ?_) fun hb => ?_
  ·
   have H := A8 hb H
   rw [hb] at F
   clear hb
   refine Ai (Ab ?_)
   refine ls F W Aa (Af F Aa).q fun a w F W => ?_
   refine Ae (Ac (AB ?_))
   iterate 2 refine AQ ?_
   subst H
   refine Bh (.inl Aa) F W Aa (Aq F Aa) ?_
   exact ⟨rfl, W.done⟩
  have H := A9 (by rw [hb]; decide) H
  rw [hb] at F
  clear hb
  refine Ap (Ac (Ai (Ab ?_)))
  refine ls F W Aa (Af F Aa).q fun a w F W => ?_
  refine Ae (Ac (AB (AQ ?_)))
  subst H
  refine Bh (.inl Aa) F W Aa (Aq F Aa) ?_
  exact ⟨rfl, W.done⟩
 have H := A9 (by rw [hb]; decide) H
 rw [hb] at F
 clear hb
 refine Ap (Ac (Ai (Ai (Ab ?_))))
 refine ls F W Aa (Ad F Aa).q fun a w F W => ?_
 refine Ae (Ac ?_)
 refine Ay F Aa (fun hb => ?_) fun hb => ?_
 ·
  have H := A8 hb H
  rw [hb] at F
  clear hb
  refine Ai (Ab ?_)
  refine ls F W Aa (Af F Aa).q fun a w F W => ?_
  refine Ae (Ac (AB (AQ ?_)))
  subst H
  refine Bh (.inl Aa) F W Aa (Aq F Aa) ?_
  exact ⟨rfl, W.done⟩
 have H := A9 (by rw [hb]; decide) H
 rw [hb] at F
 clear hb
 refine Ap (Ac (Ai (Ai (Ab ?_))))
 iterate 2 refine ls F W Aa (Ad F Aa).q fun a w F W => ?_
 refine ls F W Aa (BD F Aa Aa).q fun a w F W => ?_
 refine Ae (Ac ?_)
 refine Ay F Aa (fun hb => ?_) fun hb => ?_
 ·
  have H := A8 (BI hb) H
  rw [hb] at F
  clear hb
  refine Ai (Ab ?_)
  refine ls F W Aa (Af F Aa).q fun a w F W => ?_
  refine Ae (Ac (AB (AQ ?_)))
  subst H
  refine Bh (.inl Aa) F W Aa (Aq F Aa) ?_
  exact ⟨rfl, W.done⟩
 have H := A9 (BH hb) H
 rw [hb] at F
 clear hb
 refine Ap (Ac (Ai (Ai (Ab ?_))))
 iterate 2 refine ls F W Aa (Ad F Aa).q fun a w F W => ?_
 refine ls F W Aa (DF F Aa Aa).q fun a w F W => ?_
 refine Ae (Ac ?_)
 refine Ay F Aa (fun hb => ?_) fun hb => ?_
 ·
  have H := A8 (BI hb) H
  rw [hb] at F
  clear hb
  refine Ai (Ab ?_)
  refine ls F W Aa (Af F Aa).q fun a w F W => ?_
  refine Ae (Ac (AB (AQ ?_)))
  subst H
  refine Bh (.inl Aa) F W Aa (Aq F Aa) ?_
  exact ⟨rfl, W.done⟩
 have H := A9 (BH hb) H
 rw [hb] at F
 clear hb
 refine Ap (Ac (Ai (Ab ?_)))
 refine ls F W Aa (Af F Aa).q fun a w F W => ?_
 refine Ae (Ac (AB ?_))
 subst H
 refine Bh (.inl Aa) F W Aa (Aq F Aa) ?_
 exact ⟨rfl, W.done⟩
theorem ME : Has Try.prog 39 := ⟨fun args w => Ak Try.func39 rfl (by decide) args w⟩
def BT (p0 : Int × Int × Int × (Int × Int × Int × Int) × Int × Int) (p1 : Int × Int × Int × (Int × Int × Int × Int) × Int × Int) : Int := (CA p0.2.2.2.2.2 p1.2.2.2.2.2)
theorem Dm (Y : Nat → Prop) (w0 : World)  (p0 : Int × Int × Int × (Int × Int × Int × Int) × Int × Int) (p1 : Int × Int × Int × (Int × Int × Int × Int) × Int × Int) (r : Int) (H : BT p0 p1 = r)  :
    Calls Try.prog 29 #[.agg #[.int .i64 p0.1, .int .i64 p0.2.1, .int .i64 p0.2.2.1, .int .i64 p0.2.2.2.1.1, .int .i64 p0.2.2.2.1.2.1, .int .i64 p0.2.2.2.1.2.2.1, .int .i64 p0.2.2.2.1.2.2.2, .int .i64 p0.2.2.2.2.1, .int .i64 p0.2.2.2.2.2], .agg #[.int .i64 p1.1, .int .i64 p1.2.1, .int .i64 p1.2.2.1, .int .i64 p1.2.2.2.1.1, .int .i64 p1.2.2.2.1.2.1, .int .i64 p1.2.2.2.1.2.2.1, .int .i64 p1.2.2.2.1.2.2.2, .int .i64 p1.2.2.2.2.1, .int .i64 p1.2.2.2.2.2]] w0 fun e w' => e = .returned (.int .i64 r) ∧ Below w0.heap.size w0 w' := by
 refine enter Try.func29 Aa Try.ntmps29 Aa fun a F => ?_
 have W := Stw.start Y w0
 unfold BT at H
 refine Ai (Ab ?_)
 refine Dv (cs := (Dl p0)) F W Aa Aa Aa fun b1 a w F W => ?_
 refine Dv (cs := (Dl p1)) F W Aa Aa Aa fun b2 a w F W => ?_
 refine ls F W Aa (Af F Aa).q fun a w F W => ?_
 refine Ae (Ac (Ai (Ab ?_)))
 refine ls F W Aa (Ag FL Aa Aa Aa T3 F Aa 8 Aa).q fun a w F W => ?_
 refine ls F W Aa (Al (v := Value.int .i64 p0.2.2.2.2.2) 1 F Aa Aa T3 Aa).q fun a w F W => ?_
 refine ls F W Aa (Ag FL Aa Aa Aa T3 F Aa 8 Aa).q fun a w F W => ?_
 refine ls F W Aa (Al (v := Value.int .i64 p1.2.2.2.2.2) 0 F Aa Aa T3 Aa).q fun a w F W => ?_
 refine ls F W Aa (Bv (v := Value.int .i64 (CA p0.2.2.2.2.2 p1.2.2.2.2.2)) F ME Aa (fun w W => FT any w p0.2.2.2.2.2 p1.2.2.2.2.2 _ Aa)) fun a w F W => ?_
 refine ls F W Aa (Af F Aa).q fun a w F W => ?_
 refine Ae (Ac (AB ?_))
 subst H
 refine Bh (.inl Aa) F W Aa (Aq F Aa) ?_
 exact ⟨rfl, W.done⟩
theorem Lg : Has Try.prog 29 := ⟨fun args w => Ak Try.func29 rfl (by decide) args w⟩
abbrev KC (a0 : Nat) (a1 : Int × Int × Int × (Int × Int × Int × Int) × Int × Int) (a2 : Nat) : List (Nat × List Value) := [(a0, [.int .i64 a1.1, .int .i64 a1.2.1, .int .i64 a1.2.2.1, .int .i64 a1.2.2.2.1.1, .int .i64 a1.2.2.2.1.2.1, .int .i64 a1.2.2.2.1.2.2.1, .int .i64 a1.2.2.2.1.2.2.2, .int .i64 a1.2.2.2.2.1, .int .i64 a1.2.2.2.2.2]), (a2, [.int .i64 0, .int .i64 0, .int .i64 0, .int .i64 0, .int .i64 0, .int .i64 0, .int .i64 0, .int .i64 0, .int .i64 0])]
abbrev HC (a0 : Int) (a1 : Int) (a2 : Int) (a3 : Int) (a4 : Int) (a5 : Int) (a6 : Int) (a7 : Int) (a8 : Int) : List Value := [.int .i64 a0, .int .i64 a1, .int .i64 a2, .int .i64 a3, .int .i64 a4, .int .i64 a5, .int .i64 a6, .int .i64 a7, .int .i64 a8]
noncomputable def A4 (p0 : List (Int × Int × Int × (Int × Int × Int × Int) × Int × Int)) : (Int × Int × Int × Int × Int × Int × Int × Int × Int × Int) → Option ((Int × Int × Int × Int × Int × Int × Int × Int × Int × Int) ⊕ (Int × Int × Int × Int × Int × Int × Int × Int × Int))
  | (x11, x12, x13, x14, x15, x16, x17, x18, x19, x20) => (if x11 < (p0.length : Int) then ((ix p0 x11).bind fun x30 => (if (BT x30 (x12, x13, x14, (x15, x16, x17, x18), x19, x20)) < 0 then (ix p0 x11).bind fun x31 => some (x31.1, x31.2.1, x31.2.2.1, x31.2.2.2.1.1, x31.2.2.2.1.2.1, x31.2.2.2.1.2.2.1, x31.2.2.2.1.2.2.2, x31.2.2.2.2.1, x31.2.2.2.2.2) else some (x12, x13, x14, x15, x16, x17, x18, x19, x20))).bind fun (x21, x22, x23, x24, x25, x26, x27, x28, x29) => some (.inl (AD (x11 + 1), x21, x22, x23, x24, x25, x26, x27, x28, x29)) else some (.inr (x12, x13, x14, x15, x16, x17, x18, x19, x20)))
noncomputable def AP (p0 : List (Int × Int × Int × (Int × Int × Int × Int) × Int × Int)) : Option (Int × Int × Int × (Int × Int × Int × Int) × Int × Int) := (if (p0.length : Int) < 1 then none else (ix p0 0).bind fun x1 => (AU (A4 p0) (1, x1.1, x1.2.1, x1.2.2.1, x1.2.2.2.1.1, x1.2.2.2.1.2.1, x1.2.2.2.1.2.2.1, x1.2.2.2.1.2.2.2, x1.2.2.2.2.1, x1.2.2.2.2.2)).bind fun (x2, x3, x4, x5, x6, x7, x8, x9, x10) => some (x2, x3, x4, (x5, x6, x7, x8), x9, x10))
theorem Dt (Y : Nat → Prop) (w0 : World) (v1 : Value) (p0 : List (Int × Int × Int × (Int × Int × Int × Int) × Int × Int)) (r : (Int × Int × Int × (Int × Int × Int × Int) × Int × Int)) (H : AP p0 = some r) (h_v1 : Sl w0 (NX []) AF v1 p0) :
    Calls Try.prog 28 #[v1, .func (.func 29) #[] #[]] w0 fun e w' => e = .returned (.agg #[.int .i64 r.1, .int .i64 r.2.1, .int .i64 r.2.2.1, .int .i64 r.2.2.2.1.1, .int .i64 r.2.2.2.1.2.1, .int .i64 r.2.2.2.1.2.2.1, .int .i64 r.2.2.2.1.2.2.2, .int .i64 r.2.2.2.2.1, .int .i64 r.2.2.2.2.2]) ∧ Below w0.heap.size w0 w' := by
 refine enter Try.func28 Aa Try.ntmps28 Aa fun a F => ?_
 have W := Stw.start Y w0
 unfold AP at H
 refine Ai (Ab ?_)
 refine Bx (cs := (Cm)) F W Aa HQ Aa fun b1 a w F W => ?_
 refine Ae (Ac (Ai (Ai (Ab ?_))))
 refine ls F W Aa (Ad F Aa).q fun a w F W => ?_
 refine ls F W Aa (Cg (r := AF) (l := p0) Gf Aa F Aa (Av h_v1)).q fun a w F W => ?_
 refine ls F W Aa (BD F Aa Aa).q fun a w F W => ?_
 refine Ae (Ac ?_)
 refine Ay F Aa (fun hb => ?_) fun hb => ?_
 ·
  have H := A8 (BI hb) H
  rw [hb] at F
  clear hb
  refine Ab ?_
  refine ls F W Aa (HY I9 F Aa).q fun a w F W => ?_
  exact nomatch H
 have H := A9 (BH hb) H
 rw [hb] at F
 clear hb
 refine Ap (Ac (Ai (Ab ?_)))
 refine ls F W Aa (Ad F Aa).q fun a w F W => ?_
 obtain ⟨x1, h1, H⟩ := An H
 refine ls F W Aa (Be (r := AF) EJ F Aa Aa (Av h_v1) h1).q fun a w F W => ?_
 refine ls F W Aa (AE (y := Value.agg #[.int .i64 x1.1, .int .i64 x1.2.1, .int .i64 x1.2.2.1, .int .i64 x1.2.2.2.1.1, .int .i64 x1.2.2.2.1.2.1, .int .i64 x1.2.2.2.1.2.2.1, .int .i64 x1.2.2.2.1.2.2.2, .int .i64 x1.2.2.2.2.1, .int .i64 x1.2.2.2.2.2]) (j := 0) (i := 0) F Aa Aa (Av h_v1) h1 Ft.to Do Aa).q fun a w F W => ?_
 refine Bx (cs := (Cm)) F W Aa HQ Aa fun b2 a w F W => ?_
 refine Ba (vs := (Dl x1)) (M' := (KC b2 x1 b1)) 0 F W Aa Aa Aa Do Aa Aa Aa Aa Aa fun w W => ?_
 refine Ae (Ac ?_)
 obtain ⟨o1, G1, K1⟩ := An H
 refine AN (fun a w => ∃ x2 : Int, ∃ x3 : Int, ∃ x4 : Int, ∃ x5 : Int, ∃ x6 : Int, ∃ x7 : Int, ∃ x8 : Int, ∃ x9 : Int, ∃ x10 : Int, some ((x2, x3, x4, x5, x6, x7, x8, x9, x10)) = some o1 ∧ Fr 33 [] [(4, .pointer (some ⟨b1, 0, none⟩)), (5, .pointer (some ⟨b2, 0, none⟩))] a ∧ Stw ⟨Y, [], w0⟩ [(b2, (HC x2 x3 x4 x5 x6 x7 x8 x9 x10)), (b1, (Cm))] [] w) ?_ ?_
 ·
  have H := G1
  clear G1 K1
  refine Ai (Ab ?_)
  refine ls F W Aa (Af F Aa).q fun a w F W => ?_
  refine Ae (Ac (Ax ?_))
  have W := W.frontM (i := 1) Aa Aa
  have W := W.frontM (i := 1) Aa Aa
  refine BA H (fun s a w => Fr 33 [] [(0, v1), (1, .func (.func 29) #[] #[]), (4, .pointer (some ⟨b1, 0, none⟩)), (5, .pointer (some ⟨b2, 0, none⟩)), (6, .int .i64 s.1)] a ∧ Stw ⟨Y, [], w0⟩ [(b2, [.int .i64 s.2.1, .int .i64 s.2.2.1, .int .i64 s.2.2.2.1, .int .i64 s.2.2.2.2.1, .int .i64 s.2.2.2.2.2.1, .int .i64 s.2.2.2.2.2.2.1, .int .i64 s.2.2.2.2.2.2.2.1, .int .i64 s.2.2.2.2.2.2.2.2.1, .int .i64 s.2.2.2.2.2.2.2.2.2]), (b1, (Cm))] [] w) ⟨F.re ⟨rfl, Aa, Aa, Aa, Aa, trivial⟩, W⟩ fun s o a w H L2 hR => ?_
  obtain ⟨x11, x12, x13, x14, x15, x16, x17, x18, x19, x20⟩ := s
  obtain ⟨F, W⟩ := hR
  have F : Fr 33 [] [(0, v1), (1, .func (.func 29) #[] #[]), (4, .pointer (some ⟨b1, 0, none⟩)), (5, .pointer (some ⟨b2, 0, none⟩)), (6, .int .i64 x11)] a := F
  have W : Stw ⟨Y, [], w0⟩ [(b2, (HC x12 x13 x14 x15 x16 x17 x18 x19 x20)), (b1, (Cm))] [] w := W
  rw [A4] at H
  refine Ai (Ai (Ab ?_))
  iterate 2 refine ls F W Aa (Ad F Aa).q fun a w F W => ?_
  refine ls F W Aa (Cg (r := AF) (l := p0) Gf Aa F Aa (Av h_v1)).q fun a w F W => ?_
  refine ls F W Aa (BD F Aa Aa).q fun a w F W => ?_
  refine Ae (Ac ?_)
  refine Ay F Aa (fun hb => ?_) fun hb => ?_
  ·
   have H := A8 (BI hb) H
   rw [hb] at F
   clear hb
   refine Ap (Ac ?_)
   obtain ⟨o3, G3, K3⟩ := An H
   refine AN (fun a w => ∃ x21 : Int, ∃ x22 : Int, ∃ x23 : Int, ∃ x24 : Int, ∃ x25 : Int, ∃ x26 : Int, ∃ x27 : Int, ∃ x28 : Int, ∃ x29 : Int, some ((x21, x22, x23, x24, x25, x26, x27, x28, x29)) = some o3 ∧ Fr 33 [] [(0, v1), (1, .func (.func 29) #[] #[]), (4, .pointer (some ⟨b1, 0, none⟩)), (5, .pointer (some ⟨b2, 0, none⟩)), (6, .int .i64 x11)] a ∧ Stw ⟨Y, [], w0⟩ [(b2, (HC x21 x22 x23 x24 x25 x26 x27 x28 x29)), (b1, (Cm))] [] w) ?_ ?_
   ·
    have H := G3
    clear G3 K3
    refine Ax (Ai ?_)
    refine CF W MO (by kernel_rfl) ?_
    iterate 3 refine qs F Aa (Ad F Aa).q fun a F => ?_
    obtain ⟨x30, h2, H⟩ := An H
    refine qs F Aa (Be (r := AF) EJ F Aa Aa (Av h_v1) h2).q fun a F => ?_
    refine qs F Aa (AE (y := Value.agg #[.int .i64 x30.1, .int .i64 x30.2.1, .int .i64 x30.2.2.1, .int .i64 x30.2.2.2.1.1, .int .i64 x30.2.2.2.1.2.1, .int .i64 x30.2.2.2.1.2.2.1, .int .i64 x30.2.2.2.1.2.2.2, .int .i64 x30.2.2.2.2.1, .int .i64 x30.2.2.2.2.2]) (j := 0) (i := x11) F Aa Aa (Av h_v1) h2 Ft.to Do Aa).q fun a F => ?_
    refine qs F Aa (Al (v := Value.agg #[.int .i64 x12, .int .i64 x13, .int .i64 x14, .int .i64 x15, .int .i64 x16, .int .i64 x17, .int .i64 x18, .int .i64 x19, .int .i64 x20]) 0 F Aa Aa Do Aa).q fun a F => ?_
    refine qs F Aa (Fu (ws := [.agg #[.int .i64 x30.1, .int .i64 x30.2.1, .int .i64 x30.2.2.1, .int .i64 x30.2.2.2.1.1, .int .i64 x30.2.2.2.1.2.1, .int .i64 x30.2.2.2.1.2.2.1, .int .i64 x30.2.2.2.1.2.2.2, .int .i64 x30.2.2.2.2.1, .int .i64 x30.2.2.2.2.2], .agg #[.int .i64 x12, .int .i64 x13, .int .i64 x14, .int .i64 x15, .int .i64 x16, .int .i64 x17, .int .i64 x18, .int .i64 x19, .int .i64 x20]]) (v := Value.int .i64 (BT x30 (x12, x13, x14, (x15, x16, x17, x18), x19, x20))) F Lg Aa (fun w W => Dm any w x30 (x12, x13, x14, (x15, x16, x17, x18), x19, x20) _ Aa)) fun a F => ?_
    refine qs F Aa (BD F Aa Aa).q fun a F => ?_
    refine Cw fun w W => ?_
    refine Ac ?_
    refine Ay F Aa (fun hb => ?_) fun hb => ?_
    ·
     have H := A8 (BI hb) H
     rw [hb] at F
     clear hb
     refine Ab ?_
     iterate 2 refine ls F W Aa (Ad F Aa).q fun a w F W => ?_
     obtain ⟨x31, h3, H⟩ := An H
     refine ls F W Aa (Be (r := AF) EJ F Aa Aa (Av h_v1) h3).q fun a w F W => ?_
     refine ls F W Aa (AE (y := Value.agg #[.int .i64 x31.1, .int .i64 x31.2.1, .int .i64 x31.2.2.1, .int .i64 x31.2.2.2.1.1, .int .i64 x31.2.2.2.1.2.1, .int .i64 x31.2.2.2.1.2.2.1, .int .i64 x31.2.2.2.1.2.2.2, .int .i64 x31.2.2.2.2.1, .int .i64 x31.2.2.2.2.2]) (j := 0) (i := x11) F Aa Aa (Av h_v1) h3 Ft.to Do Aa).q fun a w F W => ?_
     refine Ba (vs := (Dl x31)) (M' := (KC b2 x31 b1)) 0 F W Aa Aa Aa Do Aa Aa Aa Aa Aa fun w W => ?_
     refine Ae (AV (Ac ?_))
     have W := W.frontM (i := 1) Aa Aa
     have W := W.frontM (i := 1) Aa Aa
     exact ⟨_, _, _, _, _, _, _, _, _, H, F.re ⟨rfl, Aa, Aa, Aa, Aa, trivial⟩, W⟩
    have H := A9 (BH hb) H
    rw [hb] at F
    clear hb
    refine Ap (AV (Ac ?_))
    have W := W.frontM (i := 1) Aa Aa
    have W := W.frontM (i := 1) Aa Aa
    exact ⟨_, _, _, _, _, _, _, _, _, H, F.re ⟨rfl, Aa, Aa, Aa, Aa, trivial⟩, W⟩
   rintro a w ⟨x21, x22, x23, x24, x25, x26, x27, x28, x29, hj, F, W⟩
   have hj := A3 hj
   subst hj
   have H := K3
   clear G3 K3
   refine Ab ?_
   refine ls F W Aa (Ad F Aa).q fun a w F W => ?_
   refine ls F W Aa (BN F Aa Aa Aa).q fun a w F W => ?_
   refine ls F W Aa (Af F Aa).q fun a w F W => ?_
   refine Ae (Ac ?_)
   have W := W.frontM (i := 1) Aa Aa
   have W := W.frontM (i := 1) Aa Aa
   exact ⟨_, H, F.re ⟨rfl, Aa, Aa, Aa, Aa, trivial⟩, W⟩
  have H := A9 (BH hb) H
  rw [hb] at F
  clear hb
  refine Bz ?_
  iterate 2 refine B9 ?_
  refine BC (Ac ?_)
  have W := W.frontM (i := 1) Aa Aa
  have W := W.frontM (i := 1) Aa Aa
  have H := L2 _ H
  exact ⟨_, _, _, _, _, _, _, _, _, H, F.re ⟨rfl, Aa, trivial⟩, W⟩
 rintro a w ⟨x2, x3, x4, x5, x6, x7, x8, x9, x10, hj, F, W⟩
 have hj := A3 hj
 subst hj
 have H := K1
 clear G1 K1
 refine Ai (Ab ?_)
 refine ls F W Aa (Al (v := Value.agg #[.int .i64 x2, .int .i64 x3, .int .i64 x4, .int .i64 x5, .int .i64 x6, .int .i64 x7, .int .i64 x8, .int .i64 x9, .int .i64 x10]) 0 F Aa Aa Do Aa).q fun a w F W => ?_
 refine Ba (vs := (HC x2 x3 x4 x5 x6 x7 x8 x9 x10)) (M' := [(b2, (HC x2 x3 x4 x5 x6 x7 x8 x9 x10)), (b1, (HC x2 x3 x4 x5 x6 x7 x8 x9 x10))]) 1 F W Aa Aa Aa Do Aa Aa Aa Aa Aa fun w W => ?_
 refine Ae (Ac (AB ?_))
 have H := A3 H
 subst H
 refine Bh (.inl Aa) F W Aa (Dc 1 F Aa Aa Do Aa) ?_
 exact ⟨rfl, W.done⟩
theorem MT : Has Try.prog 28 := ⟨fun args w => Ak Try.func28 rfl (by decide) args w⟩
noncomputable def B0 (p0 : (Int × (List (Int × Int × Int × Int × Int × Int)) × (List (Int × Int))) × (List (Int × Int × Int × (Int × Int × Int × Int) × Int × Int))) : Option Int := (if (Bp p0) = 0 then some (-1) else (AP p0.2).bind fun x1 => some x1.2.2.2.2.2)
theorem DG (Y : Nat → Prop) (w0 : World) (q_p0 : Nat) (v1 : Value) (v2 : Value) (v3 : Value) (p0 : (Int × (List (Int × Int × Int × Int × Int × Int)) × (List (Int × Int))) × (List (Int × Int × Int × (Int × Int × Int × Int) × Int × Int))) (r : Int) (H : B0 p0 = some r) (h_v1 : Sl w0 (NX []) A6 v1 p0.1.2.1) (h_v2 : Sl w0 (NX []) Bg v2 p0.1.2.2) (h_v3 : Sl w0 (NX []) AF v3 p0.2) (a_q_p0 : At ⟨Y, [], w0⟩ q_p0 0 [.int .i64 p0.1.1, v1, v2, v3]) :
    Calls Try.prog 12 #[.pointer (some ⟨q_p0, 0, none⟩)] w0 fun e w' => e = .returned (.int .i64 r) ∧ Below w0.heap.size w0 w' := by
 refine enter Try.func12 Aa Try.ntmps12 Aa fun a F => ?_
 have W := Stw.start Y w0
 unfold B0 at H
 refine Ai (Ab ?_)
 refine ls F W Aa (Af F Aa).q fun a w F W => ?_
 refine Ae (Ac (Ai (Ai (Ab ?_))))
 refine ls F W Aa (Ad F Aa).q fun a w F W => ?_
 refine ls F W Aa (Bv (v := Value.int .i64 (Bp p0)) F LC Aa (fun w W => DX any w q_p0 (v1) (v2) (v3) p0 _ Aa (((Av h_v1) : CY _ _ _ _ _ _) w W).nx (((Av h_v2) : CY _ _ _ _ _ _) w W).nx (((Av h_v3) : CY _ _ _ _ _ _) w W).nx (At.re a_q_p0 W))) fun a w F W => ?_
 refine ls F W Aa (BQ F Aa Aa).q fun a w F W => ?_
 refine Ae (Ac ?_)
 refine Ay F Aa (fun hb => ?_) fun hb => ?_
 ·
  have H := A8 (BI hb) H
  rw [hb] at F
  clear hb
  refine Ai (Ab ?_)
  refine ls F W Aa (Af F Aa).q fun a w F W => ?_
  refine Ae (Ac (AB (AQ ?_)))
  have H := A3 H
  subst H
  refine Bh (.inl Aa) F W Aa (Aq F Aa) ?_
  exact ⟨rfl, W.done⟩
 have H := A9 (BH hb) H
 rw [hb] at F
 clear hb
 refine Ap (Ac (Ai (Ab ?_)))
 refine ls F W Aa (Ad F Aa).q fun a w F W => ?_
 refine ls F W Aa (AM F Aa).q fun a w F W => ?_
 refine ls F W Aa (Ag FY Aa Aa Aa Hf F Aa 3 Aa).q fun a w F W => ?_
 refine ls F W Aa (CD (y := v3) (j := 3) F Aa (Nat.zero_add _).symm a_q_p0 Hf Aa).q fun a w F W => ?_
 obtain ⟨x1, h1, H⟩ := An H
 refine ls F W Aa (Bv (v := Value.agg #[.int .i64 x1.1, .int .i64 x1.2.1, .int .i64 x1.2.2.1, .int .i64 x1.2.2.2.1.1, .int .i64 x1.2.2.2.1.2.1, .int .i64 x1.2.2.2.1.2.2.1, .int .i64 x1.2.2.2.1.2.2.2, .int .i64 x1.2.2.2.2.1, .int .i64 x1.2.2.2.2.2]) F MT Aa (fun w W => Dt any w (v3) p0.2 _ h1 (((Av h_v3) : CY _ _ _ _ _ _) w W).nx)) fun a w F W => ?_
 refine ls F W Aa (Kn (v := Value.int .i64 x1.2.2.2.2.2) FL Aa Aa Aa T3 F Aa Aa).q fun a w F W => ?_
 refine ls F W Aa (Af F Aa).q fun a w F W => ?_
 refine Ae (Ac (AB ?_))
 have H := A3 H
 subst H
 refine Bh (.inl Aa) F W Aa (Aq F Aa) ?_
 exact ⟨rfl, W.done⟩
theorem LG : Has Try.prog 12 := ⟨fun args w => Ak Try.func12 rfl (by decide) args w⟩
def ER (p1 : Int) (p2 : Int) (p3 : Int) (p4 : Int) (p5 : Int × Int × Int × Int) : Unit := ()
theorem FO (Y : Nat → Prop) (w0 : World)  (p1 : Int) (p2 : Int) (p3 : Int) (p4 : Int) (p5 : Int × Int × Int × Int) (r : Unit) (H : ER p1 p2 p3 p4 p5 = r)  :
    Calls Try.prog 18 #[.pointer none, .int .i64 p1, .int .i64 p2, .int .i64 p3, .int .i64 p4, .agg #[.int .i64 p5.1, .int .i64 p5.2.1, .int .i64 p5.2.2.1, .int .i64 p5.2.2.2]] w0 fun e w' => e = .returned (.int .i64 1) ∧ Below w0.heap.size w0 w' := by
 refine enter Try.func18 Aa Try.ntmps18 Aa fun a F => ?_
 have W := Stw.start Y w0
 unfold ER at H
 refine Ai (Ab ?_)
 refine Dv (cs := (FB p5)) F W Aa Aa Aa fun b1 a w F W => ?_
 refine ls F W Aa (Af F Aa).q fun a w F W => ?_
 refine Ae (Ac (Ai (Ai (Ab ?_))))
 refine ls F W Aa (Ad F Aa).q fun a w F W => ?_
 refine ls F W Aa (CP HK F Aa Aa).q fun a w F W => ?_
 refine Ae (Ac ?_)
 refine DL F Aa ?_
 refine Ai (Ab ?_)
 refine ls F W Aa (Af F Aa).q fun a w F W => ?_
 refine Ae (Ac (AB (AQ ?_)))
 subst H
 refine Bh (.inl Aa) F W Aa (Aq F Aa) ?_
 exact ⟨rfl, W.done⟩
def Er (p1 : Int) : Unit := ()
theorem Fw (Y : Nat → Prop) (w0 : World)  (p1 : Int) (r : Unit) (H : Er p1 = r)  :
    Calls Try.prog 19 #[.pointer none, .int .i64 p1] w0 fun e w' => e = .returned (.tuple #[.agg #[.int .i64 0, .int .i64 0, .int .i64 0, .int .i64 0, .int .i64 0, .int .i64 0, .int .i64 0, .int .i64 0, .int .i64 0], .int .i64 1]) ∧ Below w0.heap.size w0 w' := by
 refine enter Try.func19 Aa Try.ntmps19 Aa fun a F => ?_
 have W := Stw.start Y w0
 unfold Er at H
 refine Ai (Ab ?_)
 refine Bx (cs := (Cm)) F W Aa HQ Aa fun b1 a w F W => ?_
 refine ls F W Aa (Af F Aa).q fun a w F W => ?_
 refine Ae (Ac (Ai (Ai (Ab ?_))))
 refine ls F W Aa (Ad F Aa).q fun a w F W => ?_
 refine ls F W Aa (CP HK F Aa Aa).q fun a w F W => ?_
 refine Ae (Ac ?_)
 refine DL F Aa ?_
 refine Ai (Ab ?_)
 refine ls F W Aa (Cr (v := Value.agg #[.int .i64 0, .int .i64 0, .int .i64 0, .int .i64 0, .int .i64 0, .int .i64 0, .int .i64 0, .int .i64 0, .int .i64 0]) Lc F Aa Aa Aa).q fun a w F W => ?_
 refine Ba (vs := (Cm)) (M' := (Hs b1)) 0 F W Aa Aa Aa Do Aa Aa Aa Aa Aa fun w W => ?_
 refine ls F W Aa (Af F Aa).q fun a w F W => ?_
 refine Ae (Ac (AB (AQ ?_)))
 subst H
 refine Ez (.inl Aa) F W Aa (Dc 0 F Aa Aa Do Aa) (Aq F Aa) ?_
 exact ⟨rfl, W.done⟩
abbrev JU (a0 : Nat) (a1 : Nat) : List (Nat × List Value) := [(a0, [.int .i64 0, .int .i64 0, .int .i64 0, .int .i64 0, .int .i64 0, .int .i64 0, .int .i64 0, .int .i64 0, .int .i64 0]), (a1, [.int .i64 0, .int .i64 0, .int .i64 0, .int .i64 0, .int .i64 0, .int .i64 0, .int .i64 0, .int .i64 0, .int .i64 0])]
def Ev (p1 : Int) (p2 : Int) : Unit := ()
theorem Eb (Y : Nat → Prop) (w0 : World)  (p1 : Int) (p2 : Int) (r : Unit) (H : Ev p1 p2 = r)  :
    Calls Try.prog 16 #[.pointer none, .int .i64 p1, .int .i64 p2] w0 fun e w' => e = .returned (.tuple #[.agg #[.int .i64 0, .int .i64 0, .int .i64 0, .int .i64 0, .int .i64 0, .int .i64 0, .int .i64 0, .int .i64 0, .int .i64 0], .int .i64 1]) ∧ Below w0.heap.size w0 w' := by
 refine enter Try.func16 Aa Try.ntmps16 Aa fun a F => ?_
 have W := Stw.start Y w0
 unfold Ev at H
 refine Ai (Ab ?_)
 refine Bx (cs := (Cm)) F W Aa HQ Aa fun b1 a w F W => ?_
 refine ls F W Aa (Af F Aa).q fun a w F W => ?_
 refine Ae (Ac (Ai (Ab ?_)))
 iterate 2 refine ls F W Aa (Ad F Aa).q fun a w F W => ?_
 refine ls F W Aa (Bv (v := Value.tuple #[.agg #[.int .i64 0, .int .i64 0, .int .i64 0, .int .i64 0, .int .i64 0, .int .i64 0, .int .i64 0, .int .i64 0, .int .i64 0], .int .i64 1]) F LQ Aa (fun w W => Fw any w p2 _ Aa)) fun a w F W => ?_
 refine ls F W Aa (Ad F Aa).q fun a w F W => ?_
 refine ls F W Aa (AK (v := Value.agg #[.int .i64 0, .int .i64 0, .int .i64 0, .int .i64 0, .int .i64 0, .int .i64 0, .int .i64 0, .int .i64 0, .int .i64 0]) F Aa Aa).q fun a w F W => ?_
 refine ls F W Aa (AK (v := Value.int .i64 1) F Aa Aa).q fun a w F W => ?_
 refine Bx (cs := (Cm)) F W Aa HQ Aa fun b2 a w F W => ?_
 refine Ba (vs := (Cm)) (M' := (JU b2 b1)) 0 F W Aa Aa Aa Do Aa Aa Aa Aa Aa fun w W => ?_
 refine ls F W Aa (Af F Aa).q fun a w F W => ?_
 refine Ae (Ac (Ai (Ai (Ab ?_))))
 refine ls F W Aa (Ad F Aa).q fun a w F W => ?_
 refine ls F W Aa (Fk F Aa Aa).q fun a w F W => ?_
 rw [show decide ((1 : Int) ≠ 0) = true from by decide] at F
 refine Ae (Ac ?_)
 refine DL F Aa ?_
 refine Ai (Ab ?_)
 refine ls F W Aa (Cr (v := Value.agg #[.int .i64 0, .int .i64 0, .int .i64 0, .int .i64 0, .int .i64 0, .int .i64 0, .int .i64 0, .int .i64 0, .int .i64 0]) Lc F Aa Aa Aa).q fun a w F W => ?_
 refine ls F W Aa (Ad F Aa).q fun a w F W => ?_
 refine Ba (vs := (Cm)) (M' := (JU b2 b1)) 1 F W Aa Aa Aa Do Aa Aa Aa Aa Aa fun w W => ?_
 refine ls F W Aa (Af F Aa).q fun a w F W => ?_
 refine Ae (Ac (AB (AQ ?_)))
 subst H
 refine Ez (.inl Aa) F W Aa (Dc 1 F Aa Aa Do Aa) (Aq F Aa) ?_
 exact ⟨rfl, W.done⟩
def EO  : Unit := ()
theorem FF (Y : Nat → Prop) (w0 : World)   (r : Unit) (H : EO  = r)  :
    Calls Try.prog 11 #[.pointer none] w0 fun e w' => e = .returned (.int .i64 0) ∧ Below w0.heap.size w0 w' := by
 refine enter Try.func11 Aa Try.ntmps11 Aa fun a F => ?_
 have W := Stw.start Y w0
 unfold EO at H
 refine Ai (Ab ?_)
 refine ls F W Aa (Af F Aa).q fun a w F W => ?_
 refine Ae (Ac (Ai (Ai (Ab ?_))))
 refine ls F W Aa (Ad F Aa).q fun a w F W => ?_
 refine ls F W Aa (CP HK F Aa Aa).q fun a w F W => ?_
 refine Ae (Ac ?_)
 refine DL F Aa ?_
 refine Ai (Ab ?_)
 refine ls F W Aa (Af F Aa).q fun a w F W => ?_
 refine Ae (Ac (AB (AQ ?_)))
 subst H
 refine Bh (.inl Aa) F W Aa (Aq F Aa) ?_
 exact ⟨rfl, W.done⟩
def Ey  : Unit := ()
theorem Fv (Y : Nat → Prop) (w0 : World)   (r : Unit) (H : Ey  = r)  :
    Calls Try.prog 12 #[.pointer none] w0 fun e w' => e = .returned (.int .i64 (-1)) ∧ Below w0.heap.size w0 w' := by
 refine enter Try.func12 Aa Try.ntmps12 Aa fun a F => ?_
 have W := Stw.start Y w0
 unfold Ey at H
 refine Ai (Ab ?_)
 refine ls F W Aa (Af F Aa).q fun a w F W => ?_
 refine Ae (Ac (Ai (Ai (Ab ?_))))
 refine ls F W Aa (Ad F Aa).q fun a w F W => ?_
 refine ls F W Aa (Bv (v := Value.int .i64 0) F LC Aa (fun w W => FF any w _ Aa)) fun a w F W => ?_
 refine ls F W Aa (BQ F Aa Aa).q fun a w F W => ?_
 rw [show decide ((0 : Int) = 0) = true from by decide] at F
 refine Ae (Ac ?_)
 refine DL F Aa ?_
 refine Ai (Ab ?_)
 refine ls F W Aa (Af F Aa).q fun a w F W => ?_
 refine Ae (Ac (AB (AQ ?_)))
 subst H
 refine Bh (.inl Aa) F W Aa (Aq F Aa) ?_
 exact ⟨rfl, W.done⟩
abbrev FA (a0 : (Int × Int × Int × (Int × Int × Int × Int) × Int × Int) × Int × ((Int × (List (Int × Int × Int × Int × Int × Int)) × (List (Int × Int))) × (List (Int × Int × Int × (Int × Int × Int × Int) × Int × Int)))) : List Value := [.int .i64 a0.1.1, .int .i64 a0.1.2.1, .int .i64 a0.1.2.2.1, .int .i64 a0.1.2.2.2.1.1, .int .i64 a0.1.2.2.2.1.2.1, .int .i64 a0.1.2.2.2.1.2.2.1, .int .i64 a0.1.2.2.2.1.2.2.2, .int .i64 a0.1.2.2.2.2.1, .int .i64 a0.1.2.2.2.2.2]
abbrev Fa (a0 : Nat) (a1 : (Int × Int × Int × (Int × Int × Int × Int) × Int × Int) × Int × ((Int × (List (Int × Int × Int × Int × Int × Int)) × (List (Int × Int))) × (List (Int × Int × Int × (Int × Int × Int × Int) × Int × Int)))) (a2 : Nat) (a3 : Value) (a4 : Value) (a5 : Value) (a6 : Nat) (a7 : (Int × Int × Int × (Int × Int × Int × Int) × Int × Int) × Int × ((Int × (List (Int × Int × Int × Int × Int × Int)) × (List (Int × Int))) × (List (Int × Int × Int × (Int × Int × Int × Int) × Int × Int)))) : List (Nat × List Value) := [(a0, [.int .i64 a1.1.1, .int .i64 a1.1.2.1, .int .i64 a1.1.2.2.1, .int .i64 a1.1.2.2.2.1.1, .int .i64 a1.1.2.2.2.1.2.1, .int .i64 a1.1.2.2.2.1.2.2.1, .int .i64 a1.1.2.2.2.1.2.2.2, .int .i64 a1.1.2.2.2.2.1, .int .i64 a1.1.2.2.2.2.2]), (a2, [.int .i64 a1.2.2.1.1, a3, a4, a5]), (a6, [.int .i64 a7.1.1, .int .i64 a7.1.2.1, .int .i64 a7.1.2.2.1, .int .i64 a7.1.2.2.2.1.1, .int .i64 a7.1.2.2.2.1.2.1, .int .i64 a7.1.2.2.2.1.2.2.1, .int .i64 a7.1.2.2.2.1.2.2.2, .int .i64 a7.1.2.2.2.2.1, .int .i64 a7.1.2.2.2.2.2])]
noncomputable def CI  : Option Bool := (D5 (2, ([(0, 0, 1, 3, 2, 5)] : List (Int × Int × Int × Int × Int × Int)), ([] : List (Int × Int)))).bind fun x1 => HO x1 (fun x2 => (Cn x2 10 0 0 7 (1, 0, 0, 0)).bind fun x4 => (B4 x4.2 11 0).bind fun x5 => (B0 x5.2.2).bind fun x6 => (B4 x5.2.2 12 0).bind fun x7 => (if x4.1 = 0 then (if x5.2.1 = 15 then (if x6 = 15 then (if x7.2.1 = 0 then (if x7.1.1 = 7 then (if x7.1.2.1 = 1 then (if x7.1.2.2.1 = 3 then (if (Bp x7.2.2) = 0 then (B0 x7.2.2).bind fun x9 => some (decide (x9 = (-1))) else some false) else some false) else some false) else some false) else some false) else some false) else some false) else some false).bind fun x8 => some x8) (fun x3 => some false)
theorem EB (Y : Nat → Prop) (w0 : World)   (r : Bool) (H : CI  = some r)  :
    Calls Try.prog 6 #[] w0 fun e w' => e = .returned (.bool r) ∧ Below w0.heap.size w0 w' := by
 refine enter Try.func6 Aa Try.ntmps6 Aa fun a F => ?_
 have W := Stw.start Y w0
 unfold CI at H
 refine Ai (Ab ?_)
 refine ls F W Aa (Af F Aa).q fun a w F W => ?_
 refine Ae (Ac (Ai (Ab ?_)))
 refine ls F W Aa (Cr (v := Value.agg #[.int .i64 0, .int .i64 0, .int .i64 1, .int .i64 3, .int .i64 2, .int .i64 5]) MQ F Aa Aa Aa).q fun a w F W => ?_
 refine Fy (z := Value.agg #[.int .i64 0, .int .i64 0, .int .i64 0, .int .i64 0, .int .i64 0, .int .i64 0]) (cs := [.int .i64 0, .int .i64 0, .int .i64 1, .int .i64 3, .int .i64 2, .int .i64 5]) A6 ([(0, 0, 1, 3, 2, 5)] : List (Int × Int × Int × Int × Int × Int)) F W Aa Jo KD Aa Aa Aa Aa Aa Aa (Jq.repL _ _ ([(0, 0, 1, 3, 2, 5)] : List (Int × Int × Int × Int × Int × Int))) fun v1 a w F W => ?_
 refine ls F W Aa (Cr (v := Value.agg #[.int .i64 2, v1, .slice none 0 0]) Mu F Aa (Fs Aa Aa Aa (Fs Aa (Hu (W.one (k := 0) Aa)) Aa GV)) Aa).q fun a w F W => ?_
 obtain ⟨x1, h1, H⟩ := An H
 rcases x1 with x2 | x3
 ·
  have H := J4 H
  have W := W.freeze
  refine Bq (Ml := []) (Zl := []) (M := []) (Z := [AC v1 A6 ([(0, 0, 1, 3, 2, 5)] : List (Int × Int × Int × Int × Int × Int))]) (β := Nat × Value × Value × Value) (rv := fun x => .tuple #[.pointer (some ⟨x.1, 0, none⟩), .int .i64 0]) (MM := fun x => [(x.1, [.int .i64 x2.1.1, x.2.1, x.2.2.1, x.2.2.2])]) (ZZ := fun x => [AC x.2.1 A6 x2.1.2.1, AC x.2.2.1 Bg x2.1.2.2, row x.2.2.2 51 AF x2.2]) F W H7 Aa Aa (fun hL => EU _ w (v1) (Value.slice none 0 0) (2, ([(0, 0, 1, 3, 2, 5)] : List (Int × Int × Int × Int × Int × Int)), ([] : List (Int × Int))) _ h1 (W.item (i := 0) Aa) Sl.nil) fun x a w F W => ?_
  obtain ⟨b1, v2, v3, v4⟩ := x
  have W : Stw ⟨Y, [], w0⟩ [(b1, [.int .i64 x2.1.1, v2, v3, v4])] [AC v2 A6 x2.1.2.1, AC v3 Bg x2.1.2.2, row v4 51 AF x2.2, AC v1 A6 ([(0, 0, 1, 3, 2, 5)] : List (Int × Int × Int × Int × Int × Int))] w := W
  refine ls F W Aa (Ad F Aa).q fun a w F W => ?_
  refine ls F W Aa (AK (v := Value.pointer (some ⟨b1, 0, none⟩)) F Aa Aa).q fun a w F W => ?_
  refine ls F W Aa (AK (v := Value.int .i64 0) F Aa Aa).q fun a w F W => ?_
  iterate 2 refine ls F W Aa (Af F Aa).q fun a w F W => ?_
  refine Ae (Ac (Ai (Ab ?_)))
  refine ls F W Aa (Ad F Aa).q fun a w F W => ?_
  refine ls F W Aa (Ia (v := Value.agg #[.int .i64 1, .int .i64 0, .int .i64 0, .int .i64 0]) KR Li F Aa Aa Aa).q fun a w F W => ?_
  obtain ⟨x4, h2, H⟩ := An H
  have W := W.frontZ (i := 2) Aa Aa
  have W := W.frontZ (i := 2) Aa Aa
  have W := W.frontZ (i := 2) Aa Aa
  refine Bq (Ml := [(b1, [.int .i64 x2.1.1, v2, v3, v4])]) (Zl := [AC v2 A6 x2.1.2.1, AC v3 Bg x2.1.2.2, row v4 51 AF x2.2]) (M := []) (Z := [AC v1 A6 ([(0, 0, 1, 3, 2, 5)] : List (Int × Int × Int × Int × Int × Int))]) (β := Value × Value × Value) (rv := fun x => .int .i64 x4.1) (MM := fun x => [(b1, [.int .i64 x4.2.1.1, x.1, x.2.1, x.2.2])]) (ZZ := fun x => [AC x.1 A6 x4.2.1.2.1, AC x.2.1 Bg x4.2.1.2.2, row x.2.2 51 AF x4.2.2]) F W LT Aa Aa (fun hL => EN _ _ w b1 (v2) (v3) (v4) x2 10 0 0 7 (1, 0, 0, 0) _ h2 hL) fun x a w F W => ?_
  obtain ⟨v5, v6, v7⟩ := x
  have W : Stw ⟨Y, [], w0⟩ [(b1, [.int .i64 x4.2.1.1, v5, v6, v7])] [AC v5 A6 x4.2.1.2.1, AC v6 Bg x4.2.1.2.2, row v7 51 AF x4.2.2, AC v1 A6 ([(0, 0, 1, 3, 2, 5)] : List (Int × Int × Int × Int × Int × Int))] w := W
  refine ls F W Aa (Af F Aa).q fun a w F W => ?_
  refine Ae (Ac (Ai (Ab ?_)))
  refine ls F W Aa (Ad F Aa).q fun a w F W => ?_
  obtain ⟨x5, h3, H⟩ := An H
  have W := W.frontZ (i := 2) Aa Aa
  have W := W.frontZ (i := 2) Aa Aa
  have W := W.frontZ (i := 2) Aa Aa
  refine Bq (Ml := [(b1, [.int .i64 x4.2.1.1, v5, v6, v7])]) (Zl := [AC v5 A6 x4.2.1.2.1, AC v6 Bg x4.2.1.2.2, row v7 51 AF x4.2.2]) (M := []) (Z := [AC v1 A6 ([(0, 0, 1, 3, 2, 5)] : List (Int × Int × Int × Int × Int × Int))]) (β := Value × Value × Value) (rv := fun x => .tuple #[.agg #[.int .i64 x5.1.1, .int .i64 x5.1.2.1, .int .i64 x5.1.2.2.1, .int .i64 x5.1.2.2.2.1.1, .int .i64 x5.1.2.2.2.1.2.1, .int .i64 x5.1.2.2.2.1.2.2.1, .int .i64 x5.1.2.2.2.1.2.2.2, .int .i64 x5.1.2.2.2.2.1, .int .i64 x5.1.2.2.2.2.2], .int .i64 x5.2.1]) (MM := fun x => [(b1, [.int .i64 x5.2.2.1.1, x.1, x.2.1, x.2.2])]) (ZZ := fun x => [AC x.1 A6 x5.2.2.1.2.1, AC x.2.1 Bg x5.2.2.1.2.2, row x.2.2 51 AF x5.2.2.2]) F W Lj Aa Aa (fun hL => DN _ _ w b1 (v5) (v6) (v7) x4.2 11 0 _ h3 hL) fun x a w F W => ?_
  obtain ⟨v8, v9, v10⟩ := x
  have W : Stw ⟨Y, [], w0⟩ [(b1, [.int .i64 x5.2.2.1.1, v8, v9, v10])] [AC v8 A6 x5.2.2.1.2.1, AC v9 Bg x5.2.2.1.2.2, row v10 51 AF x5.2.2.2, AC v1 A6 ([(0, 0, 1, 3, 2, 5)] : List (Int × Int × Int × Int × Int × Int))] w := W
  refine ls F W Aa (Ad F Aa).q fun a w F W => ?_
  refine ls F W Aa (AK (v := Value.agg #[.int .i64 x5.1.1, .int .i64 x5.1.2.1, .int .i64 x5.1.2.2.1, .int .i64 x5.1.2.2.2.1.1, .int .i64 x5.1.2.2.2.1.2.1, .int .i64 x5.1.2.2.2.1.2.2.1, .int .i64 x5.1.2.2.2.1.2.2.2, .int .i64 x5.1.2.2.2.2.1, .int .i64 x5.1.2.2.2.2.2]) F Aa Aa).q fun a w F W => ?_
  refine ls F W Aa (AK (v := Value.int .i64 x5.2.1) F Aa Aa).q fun a w F W => ?_
  refine Bx (cs := (Cm)) F W Aa HQ Aa fun b2 a w F W => ?_
  refine Ba (vs := (FA x5)) (M' := [(b2, [.int .i64 x5.1.1, .int .i64 x5.1.2.1, .int .i64 x5.1.2.2.1, .int .i64 x5.1.2.2.2.1.1, .int .i64 x5.1.2.2.2.1.2.1, .int .i64 x5.1.2.2.2.1.2.2.1, .int .i64 x5.1.2.2.2.1.2.2.2, .int .i64 x5.1.2.2.2.2.1, .int .i64 x5.1.2.2.2.2.2]), (b1, [.int .i64 x5.2.2.1.1, v8, v9, v10])]) 0 F W Aa Aa Aa Do Aa Aa Aa Aa Aa fun w W => ?_
  refine ls F W Aa (Af F Aa).q fun a w F W => ?_
  refine Ae (Ac (Ai (Ab ?_)))
  refine ls F W Aa (Ad F Aa).q fun a w F W => ?_
  obtain ⟨x6, h4, H⟩ := An H
  refine ls F W Aa (Bv (v := Value.int .i64 x6) F LG Aa (fun w W => DG any w b1 (v8) (v9) (v10) x5.2.2 _ h4 (((Br 0 Aa) : CY _ _ _ _ _ _) w W).nx (((Br 1 Aa) : CY _ _ _ _ _ _) w W).nx (((AA 2 Aa) : CY _ _ _ _ _ _) w W).nx (GD W 1 Aa))) fun a w F W => ?_
  refine ls F W Aa (Af F Aa).q fun a w F W => ?_
  refine Ae (Ac (Ai (Ab ?_)))
  refine ls F W Aa (Ad F Aa).q fun a w F W => ?_
  obtain ⟨x7, h5, H⟩ := An H
  have W := W.frontZ (i := 2) Aa Aa
  have W := W.frontZ (i := 2) Aa Aa
  have W := W.frontZ (i := 2) Aa Aa
  have W := W.frontM (i := 1) Aa Aa
  refine Bq (Ml := [(b1, [.int .i64 x5.2.2.1.1, v8, v9, v10])]) (Zl := [AC v8 A6 x5.2.2.1.2.1, AC v9 Bg x5.2.2.1.2.2, row v10 51 AF x5.2.2.2]) (M := [(b2, [.int .i64 x5.1.1, .int .i64 x5.1.2.1, .int .i64 x5.1.2.2.1, .int .i64 x5.1.2.2.2.1.1, .int .i64 x5.1.2.2.2.1.2.1, .int .i64 x5.1.2.2.2.1.2.2.1, .int .i64 x5.1.2.2.2.1.2.2.2, .int .i64 x5.1.2.2.2.2.1, .int .i64 x5.1.2.2.2.2.2])]) (Z := [AC v1 A6 ([(0, 0, 1, 3, 2, 5)] : List (Int × Int × Int × Int × Int × Int))]) (β := Value × Value × Value) (rv := fun x => .tuple #[.agg #[.int .i64 x7.1.1, .int .i64 x7.1.2.1, .int .i64 x7.1.2.2.1, .int .i64 x7.1.2.2.2.1.1, .int .i64 x7.1.2.2.2.1.2.1, .int .i64 x7.1.2.2.2.1.2.2.1, .int .i64 x7.1.2.2.2.1.2.2.2, .int .i64 x7.1.2.2.2.2.1, .int .i64 x7.1.2.2.2.2.2], .int .i64 x7.2.1]) (MM := fun x => [(b1, [.int .i64 x7.2.2.1.1, x.1, x.2.1, x.2.2])]) (ZZ := fun x => [AC x.1 A6 x7.2.2.1.2.1, AC x.2.1 Bg x7.2.2.1.2.2, row x.2.2 51 AF x7.2.2.2]) F W Lj Aa Aa (fun hL => DN _ _ w b1 (v8) (v9) (v10) x5.2.2 12 0 _ h5 hL) fun x a w F W => ?_
  obtain ⟨v11, v12, v13⟩ := x
  have W : Stw ⟨Y, [], w0⟩ [(b1, [.int .i64 x7.2.2.1.1, v11, v12, v13]), (b2, [.int .i64 x5.1.1, .int .i64 x5.1.2.1, .int .i64 x5.1.2.2.1, .int .i64 x5.1.2.2.2.1.1, .int .i64 x5.1.2.2.2.1.2.1, .int .i64 x5.1.2.2.2.1.2.2.1, .int .i64 x5.1.2.2.2.1.2.2.2, .int .i64 x5.1.2.2.2.2.1, .int .i64 x5.1.2.2.2.2.2])] [AC v11 A6 x7.2.2.1.2.1, AC v12 Bg x7.2.2.1.2.2, row v13 51 AF x7.2.2.2, AC v1 A6 ([(0, 0, 1, 3, 2, 5)] : List (Int × Int × Int × Int × Int × Int))] w := W
  refine ls F W Aa (Ad F Aa).q fun a w F W => ?_
  refine ls F W Aa (AK (v := Value.agg #[.int .i64 x7.1.1, .int .i64 x7.1.2.1, .int .i64 x7.1.2.2.1, .int .i64 x7.1.2.2.2.1.1, .int .i64 x7.1.2.2.2.1.2.1, .int .i64 x7.1.2.2.2.1.2.2.1, .int .i64 x7.1.2.2.2.1.2.2.2, .int .i64 x7.1.2.2.2.2.1, .int .i64 x7.1.2.2.2.2.2]) F Aa Aa).q fun a w F W => ?_
  refine ls F W Aa (AK (v := Value.int .i64 x7.2.1) F Aa Aa).q fun a w F W => ?_
  refine Bx (cs := (Cm)) F W Aa HQ Aa fun b3 a w F W => ?_
  refine Ba (vs := (FA x7)) (M' := (Fa b3 x7 b1 v11 v12 v13 b2 x5)) 0 F W Aa Aa Aa Do Aa Aa Aa Aa Aa fun w W => ?_
  refine ls F W Aa (Af F Aa).q fun a w F W => ?_
  refine Ae (Ac ?_)
  obtain ⟨o1, G1, K1⟩ := An H
  refine AN (fun a w => ∃ x8 : Bool, some (x8) = some o1 ∧ Fr 74 [] [(0, .bool x8)] a ∧ Stw ⟨Y, [], w0⟩ (Fa b3 x7 b1 v11 v12 v13 b2 x5) [AC v11 A6 x7.2.2.1.2.1, AC v12 Bg x7.2.2.1.2.2, row v13 51 AF x7.2.2.2] w) ?_ ?_
  ·
   have H := G1
   clear G1 K1
   refine Ab ?_
   refine ls F W Aa (Ad F Aa).q fun a w F W => ?_
   refine ls F W Aa (BQ F Aa Aa).q fun a w F W => ?_
   rw [show decide ((0 : Int) = 0) = true from by decide] at F
   refine ls F W Aa (Ad F Aa).q fun a w F W => ?_
   refine Az F W (Ah F Aa Aa Aa Aa) Aa (Am Aa) (Ad F Aa).q fun a w F W => ?_
   refine Az F W (Ah F Aa Aa Aa Aa) Aa (Am Aa) (BQ F Aa Aa).q fun a w F W => ?_
   refine ls F W Aa (Ao F Aa Aa Aa).q fun a w F W => ?_
   refine ls F W Aa (Ad F Aa).q fun a w F W => ?_
   rcases Bool.eq_false_or_eq_true (decide (x4.1 = 0)) with hb | hb
   ·
    have H := A8 (BI hb) H
    rw [hb] at F
    clear hb
    refine Az F W (Ah F Aa Aa Aa Aa) Aa (Am Aa) (Ad F Aa).q fun a w F W => ?_
    refine Az F W (Ah F Aa Aa Aa Aa) Aa (Am Aa) (BQ F Aa Aa).q fun a w F W => ?_
    refine ls F W Aa (Ao F Aa Aa Aa).q fun a w F W => ?_
    refine ls F W Aa (Ad F Aa).q fun a w F W => ?_
    rcases Bool.eq_false_or_eq_true (decide (x5.2.1 = 15)) with hb | hb
    ·
     have H := A8 (BI hb) H
     rw [hb] at F
     clear hb
     refine Az F W (Ah F Aa Aa Aa Aa) Aa (Am Aa) (Ad F Aa).q fun a w F W => ?_
     refine Az F W (Ah F Aa Aa Aa Aa) Aa (Am Aa) (BQ F Aa Aa).q fun a w F W => ?_
     refine ls F W Aa (Ao F Aa Aa Aa).q fun a w F W => ?_
     refine ls F W Aa (Ad F Aa).q fun a w F W => ?_
     rcases Bool.eq_false_or_eq_true (decide (x6 = 15)) with hb | hb
     ·
      have H := A8 (BI hb) H
      rw [hb] at F
      clear hb
      refine Az F W (Ah F Aa Aa Aa Aa) Aa (Am Aa) (Ad F Aa).q fun a w F W => ?_
      refine Az F W (Ah F Aa Aa Aa Aa) Aa (Am Aa) (BQ F Aa Aa).q fun a w F W => ?_
      refine ls F W Aa (Ao F Aa Aa Aa).q fun a w F W => ?_
      refine ls F W Aa (Ad F Aa).q fun a w F W => ?_
      rcases Bool.eq_false_or_eq_true (decide (x7.2.1 = 0)) with hb | hb
      ·
       have H := A8 (BI hb) H
       rw [hb] at F
       clear hb
       refine Az F W (Ah F Aa Aa Aa Aa) Aa (Am Aa) (Ag FL Aa Aa Aa T3 F Aa 0 Aa).q fun a w F W => ?_
       refine Az F W (Ah F Aa Aa Aa Aa) Aa (Am Aa) (Al (v := Value.int .i64 x7.1.1) 0 F Aa Aa T3 Aa).q fun a w F W => ?_
       refine Az F W (Ah F Aa Aa Aa Aa) Aa (Am Aa) (BQ F Aa Aa).q fun a w F W => ?_
       refine ls F W Aa (Ao F Aa Aa Aa).q fun a w F W => ?_
       refine ls F W Aa (Ad F Aa).q fun a w F W => ?_
       rcases Bool.eq_false_or_eq_true (decide (x7.1.1 = 7)) with hb | hb
       ·
        have H := A8 (BI hb) H
        rw [hb] at F
        clear hb
        refine Az F W (Ah F Aa Aa Aa Aa) Aa (Am Aa) (Ag FL Aa Aa Aa T3 F Aa 1 Aa).q fun a w F W => ?_
        refine Az F W (Ah F Aa Aa Aa Aa) Aa (Am Aa) (Al (v := Value.int .i64 x7.1.2.1) 0 F Aa Aa T3 Aa).q fun a w F W => ?_
        refine Az F W (Ah F Aa Aa Aa Aa) Aa (Am Aa) (BQ F Aa Aa).q fun a w F W => ?_
        refine ls F W Aa (Ao F Aa Aa Aa).q fun a w F W => ?_
        refine ls F W Aa (Ad F Aa).q fun a w F W => ?_
        rcases Bool.eq_false_or_eq_true (decide (x7.1.2.1 = 1)) with hb | hb
        ·
         have H := A8 (BI hb) H
         rw [hb] at F
         clear hb
         refine Az F W (Ah F Aa Aa Aa Aa) Aa (Am Aa) (Ag FL Aa Aa Aa T3 F Aa 2 Aa).q fun a w F W => ?_
         refine Az F W (Ah F Aa Aa Aa Aa) Aa (Am Aa) (Al (v := Value.int .i64 x7.1.2.2.1) 0 F Aa Aa T3 Aa).q fun a w F W => ?_
         refine Az F W (Ah F Aa Aa Aa Aa) Aa (Am Aa) (BQ F Aa Aa).q fun a w F W => ?_
         refine ls F W Aa (Ao F Aa Aa Aa).q fun a w F W => ?_
         refine ls F W Aa (Ad F Aa).q fun a w F W => ?_
         rcases Bool.eq_false_or_eq_true (decide (x7.1.2.2.1 = 3)) with hb | hb
         ·
          have H := A8 (BI hb) H
          rw [hb] at F
          clear hb
          refine Az F W (Ah F Aa Aa Aa Aa) Aa (Am Aa) (Ad F Aa).q fun a w F W => ?_
          refine HD (Ah F Aa Aa Aa Aa) ?_
          refine ls F W Aa (Bv (v := Value.int .i64 (Bp x7.2.2)) F LC Aa (fun w W => DX any w b1 (v11) (v12) (v13) x7.2.2 _ Aa (((Br 0 Aa) : CY _ _ _ _ _ _) w W).nx (((Br 1 Aa) : CY _ _ _ _ _ _) w W).nx (((AA 2 Aa) : CY _ _ _ _ _ _) w W).nx (GD W 1 Aa))) fun a w F W => ?_
          refine Az F W (Ah F Aa Aa Aa Aa) Aa (Am Aa) (BQ F Aa Aa).q fun a w F W => ?_
          refine ls F W Aa (Ao F Aa Aa Aa).q fun a w F W => ?_
          refine ls F W Aa (Ad F Aa).q fun a w F W => ?_
          rcases Bool.eq_false_or_eq_true (decide ((Bp x7.2.2) = 0)) with hb | hb
          ·
           have H := A8 (BI hb) H
           rw [hb] at F
           clear hb
           refine Az F W (Ah F Aa Aa Aa Aa) Aa (Am Aa) (Ad F Aa).q fun a w F W => ?_
           refine HD (Ah F Aa Aa Aa Aa) ?_
           obtain ⟨x9, h6, H⟩ := An H
           refine ls F W Aa (Bv (v := Value.int .i64 x9) F LG Aa (fun w W => DG any w b1 (v11) (v12) (v13) x7.2.2 _ h6 (((Br 0 Aa) : CY _ _ _ _ _ _) w W).nx (((Br 1 Aa) : CY _ _ _ _ _ _) w W).nx (((AA 2 Aa) : CY _ _ _ _ _ _) w W).nx (GD W 1 Aa))) fun a w F W => ?_
           refine Az F W (Ah F Aa Aa Aa Aa) Aa (Am Aa) (BQ F Aa Aa).q fun a w F W => ?_
           refine ls F W Aa (Ao F Aa Aa Aa).q fun a w F W => ?_
           refine ls F W Aa (Af F Aa).q fun a w F W => ?_
           refine Ae (Ac ?_)
           have W := W.frontZ (i := 2) Aa Aa
           have W := W.frontZ (i := 2) Aa Aa
           have W := W.frontZ (i := 2) Aa Aa
           have W := W.frontM (i := 2) Aa Aa
           have W := W.frontM (i := 2) Aa Aa
           have W := W.frontM (i := 2) Aa Aa
           have W := W.sub (M' := (Fa b3 x7 b1 v11 v12 v13 b2 x5)) (Z' := [AC v11 A6 x7.2.2.1.2.1, AC v12 Bg x7.2.2.1.2.2, row v13 51 AF x7.2.2.2]) (List.Sublist.refl _) (List.Sublist.cons_cons _ (List.Sublist.cons_cons _ (List.Sublist.cons_cons _ (List.nil_sublist _))))
           exact ⟨_, H, F.re ⟨rfl, trivial⟩, W⟩
          have H := A9 (BH hb) H
          rw [hb] at F
          clear hb
          iterate 3 refine BX F Aa Aa Aa Aa Aa Aa Aa fun a F => ?_
          refine ls F W Aa (Aj F Aa Aa Aa).q fun a w F W => ?_
          refine ls F W Aa (Af F Aa).q fun a w F W => ?_
          refine Ae (Ac ?_)
          have W := W.frontZ (i := 2) Aa Aa
          have W := W.frontZ (i := 2) Aa Aa
          have W := W.frontZ (i := 2) Aa Aa
          have W := W.frontM (i := 2) Aa Aa
          have W := W.frontM (i := 2) Aa Aa
          have W := W.frontM (i := 2) Aa Aa
          have W := W.sub (M' := (Fa b3 x7 b1 v11 v12 v13 b2 x5)) (Z' := [AC v11 A6 x7.2.2.1.2.1, AC v12 Bg x7.2.2.1.2.2, row v13 51 AF x7.2.2.2]) (List.Sublist.refl _) (List.Sublist.cons_cons _ (List.Sublist.cons_cons _ (List.Sublist.cons_cons _ (List.nil_sublist _))))
          exact ⟨_, H, F.re ⟨rfl, trivial⟩, W⟩
         have H := A9 (BH hb) H
         rw [hb] at F
         clear hb
         iterate 3 refine BX F Aa Aa Aa Aa Aa Aa Aa fun a F => ?_
         refine ls F W Aa (Aj F Aa Aa Aa).q fun a w F W => ?_
         refine ls F W Aa (Ad F Aa).q fun a w F W => ?_
         iterate 3 refine BX F Aa Aa Aa Aa Aa Aa Aa fun a F => ?_
         refine ls F W Aa (Aj F Aa Aa Aa).q fun a w F W => ?_
         refine ls F W Aa (Af F Aa).q fun a w F W => ?_
         refine Ae (Ac ?_)
         have W := W.frontZ (i := 2) Aa Aa
         have W := W.frontZ (i := 2) Aa Aa
         have W := W.frontZ (i := 2) Aa Aa
         have W := W.frontM (i := 2) Aa Aa
         have W := W.frontM (i := 2) Aa Aa
         have W := W.frontM (i := 2) Aa Aa
         have W := W.sub (M' := (Fa b3 x7 b1 v11 v12 v13 b2 x5)) (Z' := [AC v11 A6 x7.2.2.1.2.1, AC v12 Bg x7.2.2.1.2.2, row v13 51 AF x7.2.2.2]) (List.Sublist.refl _) (List.Sublist.cons_cons _ (List.Sublist.cons_cons _ (List.Sublist.cons_cons _ (List.nil_sublist _))))
         exact ⟨_, H, F.re ⟨rfl, trivial⟩, W⟩
        have H := A9 (BH hb) H
        rw [hb] at F
        clear hb
        iterate 3 refine BX F Aa Aa Aa Aa Aa Aa Aa fun a F => ?_
        refine ls F W Aa (Aj F Aa Aa Aa).q fun a w F W => ?_
        refine ls F W Aa (Ad F Aa).q fun a w F W => ?_
        iterate 3 refine BX F Aa Aa Aa Aa Aa Aa Aa fun a F => ?_
        refine ls F W Aa (Aj F Aa Aa Aa).q fun a w F W => ?_
        refine ls F W Aa (Ad F Aa).q fun a w F W => ?_
        iterate 3 refine BX F Aa Aa Aa Aa Aa Aa Aa fun a F => ?_
        refine ls F W Aa (Aj F Aa Aa Aa).q fun a w F W => ?_
        refine ls F W Aa (Af F Aa).q fun a w F W => ?_
        refine Ae (Ac ?_)
        have W := W.frontZ (i := 2) Aa Aa
        have W := W.frontZ (i := 2) Aa Aa
        have W := W.frontZ (i := 2) Aa Aa
        have W := W.frontM (i := 2) Aa Aa
        have W := W.frontM (i := 2) Aa Aa
        have W := W.frontM (i := 2) Aa Aa
        have W := W.sub (M' := (Fa b3 x7 b1 v11 v12 v13 b2 x5)) (Z' := [AC v11 A6 x7.2.2.1.2.1, AC v12 Bg x7.2.2.1.2.2, row v13 51 AF x7.2.2.2]) (List.Sublist.refl _) (List.Sublist.cons_cons _ (List.Sublist.cons_cons _ (List.Sublist.cons_cons _ (List.nil_sublist _))))
        exact ⟨_, H, F.re ⟨rfl, trivial⟩, W⟩
       have H := A9 (BH hb) H
       rw [hb] at F
       clear hb
       iterate 3 refine BX F Aa Aa Aa Aa Aa Aa Aa fun a F => ?_
       refine ls F W Aa (Aj F Aa Aa Aa).q fun a w F W => ?_
       refine ls F W Aa (Ad F Aa).q fun a w F W => ?_
       iterate 3 refine BX F Aa Aa Aa Aa Aa Aa Aa fun a F => ?_
       refine ls F W Aa (Aj F Aa Aa Aa).q fun a w F W => ?_
       refine ls F W Aa (Ad F Aa).q fun a w F W => ?_
       iterate 3 refine BX F Aa Aa Aa Aa Aa Aa Aa fun a F => ?_
       refine ls F W Aa (Aj F Aa Aa Aa).q fun a w F W => ?_
       refine ls F W Aa (Ad F Aa).q fun a w F W => ?_
       iterate 3 refine BX F Aa Aa Aa Aa Aa Aa Aa fun a F => ?_
       refine ls F W Aa (Aj F Aa Aa Aa).q fun a w F W => ?_
       refine ls F W Aa (Af F Aa).q fun a w F W => ?_
       refine Ae (Ac ?_)
       have W := W.frontZ (i := 2) Aa Aa
       have W := W.frontZ (i := 2) Aa Aa
       have W := W.frontZ (i := 2) Aa Aa
       have W := W.frontM (i := 2) Aa Aa
       have W := W.frontM (i := 2) Aa Aa
       have W := W.frontM (i := 2) Aa Aa
       have W := W.sub (M' := (Fa b3 x7 b1 v11 v12 v13 b2 x5)) (Z' := [AC v11 A6 x7.2.2.1.2.1, AC v12 Bg x7.2.2.1.2.2, row v13 51 AF x7.2.2.2]) (List.Sublist.refl _) (List.Sublist.cons_cons _ (List.Sublist.cons_cons _ (List.Sublist.cons_cons _ (List.nil_sublist _))))
       exact ⟨_, H, F.re ⟨rfl, trivial⟩, W⟩
      have H := A9 (BH hb) H
      rw [hb] at F
      clear hb
      iterate 3 refine BX F Aa Aa Aa Aa Aa Aa Aa fun a F => ?_
      refine ls F W Aa (Aj F Aa Aa Aa).q fun a w F W => ?_
      refine ls F W Aa (Ad F Aa).q fun a w F W => ?_
      iterate 3 refine BX F Aa Aa Aa Aa Aa Aa Aa fun a F => ?_
      refine ls F W Aa (Aj F Aa Aa Aa).q fun a w F W => ?_
      refine ls F W Aa (Ad F Aa).q fun a w F W => ?_
      iterate 3 refine BX F Aa Aa Aa Aa Aa Aa Aa fun a F => ?_
      refine ls F W Aa (Aj F Aa Aa Aa).q fun a w F W => ?_
      refine ls F W Aa (Ad F Aa).q fun a w F W => ?_
      iterate 3 refine BX F Aa Aa Aa Aa Aa Aa Aa fun a F => ?_
      refine ls F W Aa (Aj F Aa Aa Aa).q fun a w F W => ?_
      refine ls F W Aa (Ad F Aa).q fun a w F W => ?_
      iterate 3 refine BX F Aa Aa Aa Aa Aa Aa Aa fun a F => ?_
      refine ls F W Aa (Aj F Aa Aa Aa).q fun a w F W => ?_
      refine ls F W Aa (Af F Aa).q fun a w F W => ?_
      refine Ae (Ac ?_)
      have W := W.frontZ (i := 2) Aa Aa
      have W := W.frontZ (i := 2) Aa Aa
      have W := W.frontZ (i := 2) Aa Aa
      have W := W.frontM (i := 2) Aa Aa
      have W := W.frontM (i := 2) Aa Aa
      have W := W.frontM (i := 2) Aa Aa
      have W := W.sub (M' := (Fa b3 x7 b1 v11 v12 v13 b2 x5)) (Z' := [AC v11 A6 x7.2.2.1.2.1, AC v12 Bg x7.2.2.1.2.2, row v13 51 AF x7.2.2.2]) (List.Sublist.refl _) (List.Sublist.cons_cons _ (List.Sublist.cons_cons _ (List.Sublist.cons_cons _ (List.nil_sublist _))))
      exact ⟨_, H, F.re ⟨rfl, trivial⟩, W⟩
     have H := A9 (BH hb) H
     rw [hb] at F
     clear hb
     iterate 2 refine BX F Aa Aa Aa Aa Aa Aa Aa fun a F => ?_
     refine ls F W Aa (Aj F Aa Aa Aa).q fun a w F W => ?_
     refine ls F W Aa (Ad F Aa).q fun a w F W => ?_
     iterate 3 refine BX F Aa Aa Aa Aa Aa Aa Aa fun a F => ?_
     refine ls F W Aa (Aj F Aa Aa Aa).q fun a w F W => ?_
     refine ls F W Aa (Ad F Aa).q fun a w F W => ?_
     iterate 3 refine BX F Aa Aa Aa Aa Aa Aa Aa fun a F => ?_
     refine ls F W Aa (Aj F Aa Aa Aa).q fun a w F W => ?_
     refine ls F W Aa (Ad F Aa).q fun a w F W => ?_
     iterate 3 refine BX F Aa Aa Aa Aa Aa Aa Aa fun a F => ?_
     refine ls F W Aa (Aj F Aa Aa Aa).q fun a w F W => ?_
     refine ls F W Aa (Ad F Aa).q fun a w F W => ?_
     iterate 3 refine BX F Aa Aa Aa Aa Aa Aa Aa fun a F => ?_
     refine ls F W Aa (Aj F Aa Aa Aa).q fun a w F W => ?_
     refine ls F W Aa (Ad F Aa).q fun a w F W => ?_
     iterate 3 refine BX F Aa Aa Aa Aa Aa Aa Aa fun a F => ?_
     refine ls F W Aa (Aj F Aa Aa Aa).q fun a w F W => ?_
     refine ls F W Aa (Af F Aa).q fun a w F W => ?_
     refine Ae (Ac ?_)
     have W := W.frontZ (i := 2) Aa Aa
     have W := W.frontZ (i := 2) Aa Aa
     have W := W.frontZ (i := 2) Aa Aa
     have W := W.frontM (i := 2) Aa Aa
     have W := W.frontM (i := 2) Aa Aa
     have W := W.frontM (i := 2) Aa Aa
     have W := W.sub (M' := (Fa b3 x7 b1 v11 v12 v13 b2 x5)) (Z' := [AC v11 A6 x7.2.2.1.2.1, AC v12 Bg x7.2.2.1.2.2, row v13 51 AF x7.2.2.2]) (List.Sublist.refl _) (List.Sublist.cons_cons _ (List.Sublist.cons_cons _ (List.Sublist.cons_cons _ (List.nil_sublist _))))
     exact ⟨_, H, F.re ⟨rfl, trivial⟩, W⟩
    have H := A9 (BH hb) H
    rw [hb] at F
    clear hb
    iterate 2 refine BX F Aa Aa Aa Aa Aa Aa Aa fun a F => ?_
    refine ls F W Aa (Aj F Aa Aa Aa).q fun a w F W => ?_
    refine ls F W Aa (Ad F Aa).q fun a w F W => ?_
    iterate 2 refine BX F Aa Aa Aa Aa Aa Aa Aa fun a F => ?_
    refine ls F W Aa (Aj F Aa Aa Aa).q fun a w F W => ?_
    refine ls F W Aa (Ad F Aa).q fun a w F W => ?_
    iterate 3 refine BX F Aa Aa Aa Aa Aa Aa Aa fun a F => ?_
    refine ls F W Aa (Aj F Aa Aa Aa).q fun a w F W => ?_
    refine ls F W Aa (Ad F Aa).q fun a w F W => ?_
    iterate 3 refine BX F Aa Aa Aa Aa Aa Aa Aa fun a F => ?_
    refine ls F W Aa (Aj F Aa Aa Aa).q fun a w F W => ?_
    refine ls F W Aa (Ad F Aa).q fun a w F W => ?_
    iterate 3 refine BX F Aa Aa Aa Aa Aa Aa Aa fun a F => ?_
    refine ls F W Aa (Aj F Aa Aa Aa).q fun a w F W => ?_
    refine ls F W Aa (Ad F Aa).q fun a w F W => ?_
    iterate 3 refine BX F Aa Aa Aa Aa Aa Aa Aa fun a F => ?_
    refine ls F W Aa (Aj F Aa Aa Aa).q fun a w F W => ?_
    refine ls F W Aa (Ad F Aa).q fun a w F W => ?_
    iterate 3 refine BX F Aa Aa Aa Aa Aa Aa Aa fun a F => ?_
    refine ls F W Aa (Aj F Aa Aa Aa).q fun a w F W => ?_
    refine ls F W Aa (Af F Aa).q fun a w F W => ?_
    refine Ae (Ac ?_)
    have W := W.frontZ (i := 2) Aa Aa
    have W := W.frontZ (i := 2) Aa Aa
    have W := W.frontZ (i := 2) Aa Aa
    have W := W.frontM (i := 2) Aa Aa
    have W := W.frontM (i := 2) Aa Aa
    have W := W.frontM (i := 2) Aa Aa
    have W := W.sub (M' := (Fa b3 x7 b1 v11 v12 v13 b2 x5)) (Z' := [AC v11 A6 x7.2.2.1.2.1, AC v12 Bg x7.2.2.1.2.2, row v13 51 AF x7.2.2.2]) (List.Sublist.refl _) (List.Sublist.cons_cons _ (List.Sublist.cons_cons _ (List.Sublist.cons_cons _ (List.nil_sublist _))))
    exact ⟨_, H, F.re ⟨rfl, trivial⟩, W⟩
   have H := A9 (BH hb) H
   rw [hb] at F
   clear hb
   iterate 2 refine BX F Aa Aa Aa Aa Aa Aa Aa fun a F => ?_
   refine ls F W Aa (Aj F Aa Aa Aa).q fun a w F W => ?_
   refine ls F W Aa (Ad F Aa).q fun a w F W => ?_
   iterate 2 refine BX F Aa Aa Aa Aa Aa Aa Aa fun a F => ?_
   refine ls F W Aa (Aj F Aa Aa Aa).q fun a w F W => ?_
   refine ls F W Aa (Ad F Aa).q fun a w F W => ?_
   iterate 2 refine BX F Aa Aa Aa Aa Aa Aa Aa fun a F => ?_
   refine ls F W Aa (Aj F Aa Aa Aa).q fun a w F W => ?_
   refine ls F W Aa (Ad F Aa).q fun a w F W => ?_
   iterate 3 refine BX F Aa Aa Aa Aa Aa Aa Aa fun a F => ?_
   refine ls F W Aa (Aj F Aa Aa Aa).q fun a w F W => ?_
   refine ls F W Aa (Ad F Aa).q fun a w F W => ?_
   iterate 3 refine BX F Aa Aa Aa Aa Aa Aa Aa fun a F => ?_
   refine ls F W Aa (Aj F Aa Aa Aa).q fun a w F W => ?_
   refine ls F W Aa (Ad F Aa).q fun a w F W => ?_
   iterate 3 refine BX F Aa Aa Aa Aa Aa Aa Aa fun a F => ?_
   refine ls F W Aa (Aj F Aa Aa Aa).q fun a w F W => ?_
   refine ls F W Aa (Ad F Aa).q fun a w F W => ?_
   iterate 3 refine BX F Aa Aa Aa Aa Aa Aa Aa fun a F => ?_
   refine ls F W Aa (Aj F Aa Aa Aa).q fun a w F W => ?_
   refine ls F W Aa (Ad F Aa).q fun a w F W => ?_
   iterate 3 refine BX F Aa Aa Aa Aa Aa Aa Aa fun a F => ?_
   refine ls F W Aa (Aj F Aa Aa Aa).q fun a w F W => ?_
   refine ls F W Aa (Af F Aa).q fun a w F W => ?_
   refine Ae (Ac ?_)
   have W := W.frontZ (i := 2) Aa Aa
   have W := W.frontZ (i := 2) Aa Aa
   have W := W.frontZ (i := 2) Aa Aa
   have W := W.frontM (i := 2) Aa Aa
   have W := W.frontM (i := 2) Aa Aa
   have W := W.frontM (i := 2) Aa Aa
   have W := W.sub (M' := (Fa b3 x7 b1 v11 v12 v13 b2 x5)) (Z' := [AC v11 A6 x7.2.2.1.2.1, AC v12 Bg x7.2.2.1.2.2, row v13 51 AF x7.2.2.2]) (List.Sublist.refl _) (List.Sublist.cons_cons _ (List.Sublist.cons_cons _ (List.Sublist.cons_cons _ (List.nil_sublist _))))
   exact ⟨_, H, F.re ⟨rfl, trivial⟩, W⟩
  rintro a w ⟨x8, hj, F, W⟩
  have hj := A3 hj
  subst hj
  have H := K1
  clear G1 K1
  refine AB ?_
  have H := A3 H
  subst H
  refine Bh (.inl Aa) F W Aa (Aq F Aa) ?_
  exact ⟨rfl, W.done⟩
 have H := Kf H
 have W := W.freeze
 refine Bq (Ml := []) (Zl := []) (M := []) (Z := [AC v1 A6 ([(0, 0, 1, 3, 2, 5)] : List (Int × Int × Int × Int × Int × Int))]) (β := Unit) (rv := fun x => .tuple #[.pointer none, .int .i64 2]) (MM := fun x => []) (ZZ := fun x => []) F W H7 Aa Aa (fun hL => EU _ w (v1) (Value.slice none 0 0) (2, ([(0, 0, 1, 3, 2, 5)] : List (Int × Int × Int × Int × Int × Int)), ([] : List (Int × Int))) _ h1 (W.item (i := 0) Aa) Sl.nil) fun x a w F W => ?_
 have W : Stw ⟨Y, [], w0⟩ [] [AC v1 A6 ([(0, 0, 1, 3, 2, 5)] : List (Int × Int × Int × Int × Int × Int))] w := W
 refine ls F W Aa (Ad F Aa).q fun a w F W => ?_
 refine ls F W Aa (AK (v := Value.pointer none) F Aa Aa).q fun a w F W => ?_
 refine ls F W Aa (AK (v := Value.int .i64 2) F Aa Aa).q fun a w F W => ?_
 iterate 2 refine ls F W Aa (Af F Aa).q fun a w F W => ?_
 refine Ae (Ac (Ai (Ab ?_)))
 refine ls F W Aa (Ad F Aa).q fun a w F W => ?_
 refine ls F W Aa (Ia (v := Value.agg #[.int .i64 1, .int .i64 0, .int .i64 0, .int .i64 0]) KR Li F Aa Aa Aa).q fun a w F W => ?_
 refine ls F W Aa (Bv (v := Value.int .i64 1) F LT Aa (fun w W => FO any w 10 0 0 7 (1, 0, 0, 0) _ Aa)) fun a w F W => ?_
 refine ls F W Aa (Af F Aa).q fun a w F W => ?_
 refine Ae (Ac (Ai (Ab ?_)))
 refine ls F W Aa (Ad F Aa).q fun a w F W => ?_
 refine ls F W Aa (Bv (v := Value.tuple #[.agg #[.int .i64 0, .int .i64 0, .int .i64 0, .int .i64 0, .int .i64 0, .int .i64 0, .int .i64 0, .int .i64 0, .int .i64 0], .int .i64 1]) F Lj Aa (fun w W => Eb any w 11 0 _ Aa)) fun a w F W => ?_
 refine ls F W Aa (Ad F Aa).q fun a w F W => ?_
 refine ls F W Aa (AK (v := Value.agg #[.int .i64 0, .int .i64 0, .int .i64 0, .int .i64 0, .int .i64 0, .int .i64 0, .int .i64 0, .int .i64 0, .int .i64 0]) F Aa Aa).q fun a w F W => ?_
 refine ls F W Aa (AK (v := Value.int .i64 1) F Aa Aa).q fun a w F W => ?_
 refine Bx (cs := (Cm)) F W Aa HQ Aa fun b4 a w F W => ?_
 refine Ba (vs := (Cm)) (M' := (Hs b4)) 0 F W Aa Aa Aa Do Aa Aa Aa Aa Aa fun w W => ?_
 refine ls F W Aa (Af F Aa).q fun a w F W => ?_
 refine Ae (Ac (Ai (Ab ?_)))
 refine ls F W Aa (Ad F Aa).q fun a w F W => ?_
 refine ls F W Aa (Bv (v := Value.int .i64 (-1)) F LG Aa (fun w W => Fv any w _ Aa)) fun a w F W => ?_
 refine ls F W Aa (Af F Aa).q fun a w F W => ?_
 refine Ae (Ac (Ai (Ab ?_)))
 refine ls F W Aa (Ad F Aa).q fun a w F W => ?_
 refine ls F W Aa (Bv (v := Value.tuple #[.agg #[.int .i64 0, .int .i64 0, .int .i64 0, .int .i64 0, .int .i64 0, .int .i64 0, .int .i64 0, .int .i64 0, .int .i64 0], .int .i64 1]) F Lj Aa (fun w W => Eb any w 12 0 _ Aa)) fun a w F W => ?_
 refine ls F W Aa (Ad F Aa).q fun a w F W => ?_
 refine ls F W Aa (AK (v := Value.agg #[.int .i64 0, .int .i64 0, .int .i64 0, .int .i64 0, .int .i64 0, .int .i64 0, .int .i64 0, .int .i64 0, .int .i64 0]) F Aa Aa).q fun a w F W => ?_
 refine ls F W Aa (AK (v := Value.int .i64 1) F Aa Aa).q fun a w F W => ?_
 refine Bx (cs := (Cm)) F W Aa HQ Aa fun b5 a w F W => ?_
 refine Ba (vs := (Cm)) (M' := (JU b5 b4)) 0 F W Aa Aa Aa Do Aa Aa Aa Aa Aa fun w W => ?_
 refine ls F W Aa (Af F Aa).q fun a w F W => ?_
 refine Ae (Ac (Ai (Ab ?_)))
 refine ls F W Aa (Ad F Aa).q fun a w F W => ?_
 refine ls F W Aa (BQ F Aa Aa).q fun a w F W => ?_
 rw [show decide ((2 : Int) = 0) = false from by decide] at F
 refine ls F W Aa (Ad F Aa).q fun a w F W => ?_
 iterate 2 refine BX F Aa Aa Aa Aa Aa Aa Aa fun a F => ?_
 refine ls F W Aa (Aj F Aa Aa Aa).q fun a w F W => ?_
 refine ls F W Aa (Ad F Aa).q fun a w F W => ?_
 iterate 2 refine BX F Aa Aa Aa Aa Aa Aa Aa fun a F => ?_
 refine ls F W Aa (Aj F Aa Aa Aa).q fun a w F W => ?_
 refine ls F W Aa (Ad F Aa).q fun a w F W => ?_
 iterate 2 refine BX F Aa Aa Aa Aa Aa Aa Aa fun a F => ?_
 refine ls F W Aa (Aj F Aa Aa Aa).q fun a w F W => ?_
 refine ls F W Aa (Ad F Aa).q fun a w F W => ?_
 iterate 2 refine BX F Aa Aa Aa Aa Aa Aa Aa fun a F => ?_
 refine ls F W Aa (Aj F Aa Aa Aa).q fun a w F W => ?_
 refine ls F W Aa (Ad F Aa).q fun a w F W => ?_
 iterate 3 refine BX F Aa Aa Aa Aa Aa Aa Aa fun a F => ?_
 refine ls F W Aa (Aj F Aa Aa Aa).q fun a w F W => ?_
 refine ls F W Aa (Ad F Aa).q fun a w F W => ?_
 iterate 3 refine BX F Aa Aa Aa Aa Aa Aa Aa fun a F => ?_
 refine ls F W Aa (Aj F Aa Aa Aa).q fun a w F W => ?_
 refine ls F W Aa (Ad F Aa).q fun a w F W => ?_
 iterate 3 refine BX F Aa Aa Aa Aa Aa Aa Aa fun a F => ?_
 refine ls F W Aa (Aj F Aa Aa Aa).q fun a w F W => ?_
 refine ls F W Aa (Ad F Aa).q fun a w F W => ?_
 iterate 3 refine BX F Aa Aa Aa Aa Aa Aa Aa fun a F => ?_
 refine ls F W Aa (Aj F Aa Aa Aa).q fun a w F W => ?_
 refine ls F W Aa (Ad F Aa).q fun a w F W => ?_
 iterate 3 refine BX F Aa Aa Aa Aa Aa Aa Aa fun a F => ?_
 refine ls F W Aa (Aj F Aa Aa Aa).q fun a w F W => ?_
 refine ls F W Aa (Af F Aa).q fun a w F W => ?_
 refine Ae (Ac (AB ?_))
 have H := A3 H
 subst H
 refine Bh (.inl Aa) F W Aa (Aq F Aa) ?_
 exact ⟨rfl, W.done⟩
theorem H6 : Has Try.prog 6 := ⟨fun args w => Ak Try.func6 rfl (by decide) args w⟩
noncomputable def Dx (p0 : Int × (List (Int × Int × Int × Int × Int × Int)) × (List (Int × Int))) (p1 : Int) (p2 : Int) : (Int × Int) → Option ((Int × Int) ⊕ Int)
  | (x2, x3) => (if x3 < (p0.2.1.length : Int) then ((ix p0.2.1 x3).bind fun x5 => (if (decide (x5.1 = p1) && decide (x5.2.1 = p2)) = true then some (AD (x2 + 1)) else some x2).bind fun x6 => (if (decide (x5.2.2.1 = p1) && decide (x5.2.2.2.1 = p2)) = true then some (AD (x6 + 1)) else some x6)).bind fun x4 => some (.inl (x4, AD (x3 + 1))) else some (.inr x2))
noncomputable def Dw (p0 : Int × (List (Int × Int × Int × Int × Int × Int)) × (List (Int × Int))) (p1 : Int) (p2 : Int) : (Int × Int) → Option ((Int × Int) ⊕ Int)
  | (x8, x9) => (if x9 < (p0.2.2.length : Int) then (((ix p0.2.2 x9).bind fun x12 => (if x12.1 = p1 then (ix p0.2.2 x9).bind fun x13 => some (decide (x13.2 = p2)) else some false)).bind fun x11 => (if x11 = true then some (AD (x8 + 1)) else some x8)).bind fun x10 => some (.inl (x10, AD (x9 + 1))) else some (.inr x8))
noncomputable def Ek (p0 : Int × (List (Int × Int × Int × Int × Int × Int)) × (List (Int × Int))) (p1 : Int) (p2 : Int) : Option Bool := (AU (Dx p0 p1 p2) (0, 0)).bind fun x1 => (AU (Dw p0 p1 p2) (x1, 0)).bind fun x7 => some (decide (0 ≤ p1) && (decide (p1 < p0.1) && (decide (0 ≤ p2) && (decide (p2 ≤ 7) && decide (x7 = 1)))))
theorem FJ (Y : Nat → Prop) (w0 : World) (v1 : Value) (v2 : Value) (p0 : Int × (List (Int × Int × Int × Int × Int × Int)) × (List (Int × Int))) (p1 : Int) (p2 : Int) (r : Bool) (H : Ek p0 p1 p2 = some r) (h_v1 : Sl w0 (NX []) A6 v1 p0.2.1) (h_v2 : Sl w0 (NX []) Bg v2 p0.2.2) :
    Calls Try.prog 30 #[.agg #[.int .i64 p0.1, v1, v2], .int .i64 p1, .int .i64 p2] w0 fun e w' => e = .returned (.bool r) ∧ Below w0.heap.size w0 w' := by
 refine enter Try.func30 Aa Try.ntmps30 Aa fun a F => ?_
 have W := Stw.start Y w0
 unfold Ek at H
 refine Ai (Ab ?_)
 refine Dv (cs := [.int .i64 p0.1, v1, v2]) F W Aa Aa Aa fun b1 a w F W => ?_
 refine ls F W Aa (Af F Aa).q fun a w F W => ?_
 refine Ae (Ac (Ai (Ab ?_)))
 refine ls F W Aa (Af F Aa).q fun a w F W => ?_
 refine Ae (Ac ?_)
 obtain ⟨o1, G1, K1⟩ := An H
 refine AN (fun a w => ∃ x1 : Int, some (x1) = some o1 ∧ Fr 94 [] [(1, .int .i64 p1), (2, .int .i64 p2), (3, .pointer (some ⟨b1, 0, none⟩)), (6, .bool false), (7, .int .i64 x1)] a ∧ Stw ⟨Y, [], w0⟩ [(b1, [.int .i64 p0.1, v1, v2])] [] w) ?_ ?_
 ·
  have H := G1
  clear G1 K1
  refine Ai (Ab ?_)
  refine ls F W Aa (Af F Aa).q fun a w F W => ?_
  refine Ae (Ac (Ax ?_))
  refine BA H (fun s a w => Fr 94 [] [(1, .int .i64 p1), (2, .int .i64 p2), (3, .pointer (some ⟨b1, 0, none⟩)), (6, .bool false), (7, .int .i64 s.1), (8, .int .i64 s.2)] a ∧ Stw ⟨Y, [], w0⟩ [(b1, [.int .i64 p0.1, v1, v2])] [] w) ⟨F.re ⟨rfl, Aa, Aa, Aa, Aa, Aa, trivial⟩, W⟩ fun s o a w H L2 hR => ?_
  obtain ⟨x2, x3⟩ := s
  obtain ⟨F, W⟩ := hR
  have F : Fr 94 [] [(1, .int .i64 p1), (2, .int .i64 p2), (3, .pointer (some ⟨b1, 0, none⟩)), (6, .bool false), (7, .int .i64 x2), (8, .int .i64 x3)] a := F
  have W : Stw ⟨Y, [], w0⟩ [(b1, [.int .i64 p0.1, v1, v2])] [] w := W
  rw [Dx] at H
  refine Ai (Ai (Ab ?_))
  refine ls F W Aa (Ad F Aa).q fun a w F W => ?_
  refine ls F W Aa (Ag C5 Aa Aa Aa Fn F Aa 1 Aa).q fun a w F W => ?_
  refine ls F W Aa (Al (v := v1) 0 F Aa Aa Fn Aa).q fun a w F W => ?_
  refine ls F W Aa (Cg (r := A6) (l := p0.2.1) GZ Aa F Aa (Av h_v1)).q fun a w F W => ?_
  refine ls F W Aa (BD F Aa Aa).q fun a w F W => ?_
  refine Ae (Ac ?_)
  refine Ay F Aa (fun hb => ?_) fun hb => ?_
  ·
   have H := A8 (BI hb) H
   rw [hb] at F
   clear hb
   refine Ap (Ac ?_)
   obtain ⟨o3, G3, K3⟩ := An H
   refine AN (fun a w => ∃ x4 : Int, some (x4) = some o3 ∧ Fr 94 [] [(1, .int .i64 p1), (2, .int .i64 p2), (3, .pointer (some ⟨b1, 0, none⟩)), (6, .bool false), (7, .int .i64 x4), (8, .int .i64 x3)] a ∧ Stw ⟨Y, [], w0⟩ [(b1, [.int .i64 p0.1, v1, v2])] [] w) ?_ ?_
   ·
    have H := G3
    clear G3 K3
    refine Ax (Ai (Ab ?_))
    refine ls F W Aa (Ag C5 Aa Aa Aa Fn F Aa 1 Aa).q fun a w F W => ?_
    refine ls F W Aa (Al (v := v1) 0 F Aa Aa Fn Aa).q fun a w F W => ?_
    refine ls F W Aa (Ad F Aa).q fun a w F W => ?_
    obtain ⟨x5, h1, H⟩ := An H
    refine ls F W Aa (Be (r := A6) Jo F Aa Aa (Av h_v1) h1).q fun a w F W => ?_
    refine ls F W Aa (AE (y := Value.agg #[.int .i64 x5.1, .int .i64 x5.2.1, .int .i64 x5.2.2.1, .int .i64 x5.2.2.2.1, .int .i64 x5.2.2.2.2.1, .int .i64 x5.2.2.2.2.2]) (j := 0) (i := x3) F Aa Aa (Av h_v1) h1 Jq.to I1 Aa).q fun a w F W => ?_
    refine Bx (cs := (I5)) F W Aa KD Aa fun b2 a w F W => ?_
    refine Ba (vs := (GQ x5)) (M' := (GY b2 x5 b1 p0 v1 v2)) 0 F W Aa Aa Aa I1 Aa Aa Aa Aa Aa fun w W => ?_
    refine Ae (Ac ?_)
    obtain ⟨o4, G4, K4⟩ := An H
    refine AN (fun a w => ∃ x6 : Int, some (x6) = some o4 ∧ Fr 94 [] [(1, .int .i64 p1), (2, .int .i64 p2), (3, .pointer (some ⟨b1, 0, none⟩)), (6, .bool false), (7, .int .i64 x6), (8, .int .i64 x3), (9, .pointer (some ⟨b2, 0, none⟩))] a ∧ Stw ⟨Y, [], w0⟩ (GY b2 x5 b1 p0 v1 v2) [] w) ?_ ?_
    ·
     have H := G4
     clear G4 K4
     refine AN (fun a w => Fr 94 [] [(1, .int .i64 p1), (2, .int .i64 p2), (3, .pointer (some ⟨b1, 0, none⟩)), (6, .bool false), (7, .int .i64 x2), (8, .int .i64 x3), (9, .pointer (some ⟨b2, 0, none⟩)), (32, .bool (decide (x5.1 = p1) && decide (x5.2.1 = p2)))] a ∧ Stw ⟨Y, [], w0⟩ (GY b2 x5 b1 p0 v1 v2) [] w) ?_ ?_
     ·
      refine Ab ?_
      refine ls F W Aa (Ag Cz Aa Aa Aa T3 F Aa 0 Aa).q fun a w F W => ?_
      refine ls F W Aa (Al (v := Value.int .i64 x5.1) 0 F Aa Aa T3 Aa).q fun a w F W => ?_
      refine ls F W Aa (Ad F Aa).q fun a w F W => ?_
      refine ls F W Aa (BQ F Aa Aa).q fun a w F W => ?_
      refine ls F W Aa (Ad F Aa).q fun a w F W => ?_
      rcases Bool.eq_false_or_eq_true (decide (x5.1 = p1)) with hb0 | hb0
      ·
       rw [hb0] at F
       refine Az F W (Ah F Aa Aa Aa Aa) Aa (Am Aa) (Ag Cz Aa Aa Aa T3 F Aa 1 Aa).q fun a w F W => ?_
       refine Az F W (Ah F Aa Aa Aa Aa) Aa (Am Aa) (Al (v := Value.int .i64 x5.2.1) 0 F Aa Aa T3 Aa).q fun a w F W => ?_
       refine Az F W (Ah F Aa Aa Aa Aa) Aa (Am Aa) (Ad F Aa).q fun a w F W => ?_
       refine Az F W (Ah F Aa Aa Aa Aa) Aa (Am Aa) (BQ F Aa Aa).q fun a w F W => ?_
       refine ls F W Aa (Ao F Aa Aa Aa).q fun a w F W => ?_
       refine Ae (Ac ?_)
       exact ⟨F.re ⟨rfl, Aa, Aa, Aa, Aa, Aa, Aa, (DZ (by try rw [hb0]; all_goals simp only [DT])), trivial⟩, W⟩
      rw [hb0] at F
      iterate 4 refine BX F Aa Aa Aa Aa Aa Aa Aa fun a F => ?_
      refine ls F W Aa (Aj F Aa Aa Aa).q fun a w F W => ?_
      refine Ae (Ac ?_)
      exact ⟨F.re ⟨rfl, Aa, Aa, Aa, Aa, Aa, Aa, (DZ (by try rw [hb0]; all_goals simp only [DT])), trivial⟩, W⟩
     rintro a w ⟨F, W⟩
     refine Ay F Aa (fun hb => ?_) fun hb => ?_
     ·
      have H := A8 hb H
      rw [hb] at F
      clear hb
      refine Ab ?_
      refine ls F W Aa (Ad F Aa).q fun a w F W => ?_
      refine ls F W Aa (BN F Aa Aa Aa).q fun a w F W => ?_
      refine ls F W Aa (Af F Aa).q fun a w F W => ?_
      refine Ae (Ac ?_)
      have W := W.frontM (i := 1) Aa Aa
      have W := W.frontM (i := 1) Aa Aa
      exact ⟨_, H, F.re ⟨rfl, Aa, Aa, Aa, Aa, Aa, Aa, trivial⟩, W⟩
     have H := A9 (by rw [hb]; decide) H
     rw [hb] at F
     clear hb
     refine Ap (Ac ?_)
     have W := W.frontM (i := 1) Aa Aa
     have W := W.frontM (i := 1) Aa Aa
     exact ⟨_, H, F.re ⟨rfl, Aa, Aa, Aa, Aa, Aa, Aa, trivial⟩, W⟩
    rintro a w ⟨x6, hj, F, W⟩
    have hj := A3 hj
    subst hj
    have H := K4
    clear G4 K4
    refine AN (fun a w => Fr 94 [] [(1, .int .i64 p1), (2, .int .i64 p2), (3, .pointer (some ⟨b1, 0, none⟩)), (6, .bool false), (7, .int .i64 x6), (8, .int .i64 x3), (44, .bool (decide (x5.2.2.1 = p1) && decide (x5.2.2.2.1 = p2)))] a ∧ Stw ⟨Y, [], w0⟩ (GY b2 x5 b1 p0 v1 v2) [] w) ?_ ?_
    ·
     refine Ab ?_
     refine ls F W Aa (Ag Cz Aa Aa Aa T3 F Aa 2 Aa).q fun a w F W => ?_
     refine ls F W Aa (Al (v := Value.int .i64 x5.2.2.1) 0 F Aa Aa T3 Aa).q fun a w F W => ?_
     refine ls F W Aa (Ad F Aa).q fun a w F W => ?_
     refine ls F W Aa (BQ F Aa Aa).q fun a w F W => ?_
     refine ls F W Aa (Ad F Aa).q fun a w F W => ?_
     rcases Bool.eq_false_or_eq_true (decide (x5.2.2.1 = p1)) with hb0 | hb0
     ·
      rw [hb0] at F
      refine Az F W (Ah F Aa Aa Aa Aa) Aa (Am Aa) (Ag Cz Aa Aa Aa T3 F Aa 3 Aa).q fun a w F W => ?_
      refine Az F W (Ah F Aa Aa Aa Aa) Aa (Am Aa) (Al (v := Value.int .i64 x5.2.2.2.1) 0 F Aa Aa T3 Aa).q fun a w F W => ?_
      refine Az F W (Ah F Aa Aa Aa Aa) Aa (Am Aa) (Ad F Aa).q fun a w F W => ?_
      refine Az F W (Ah F Aa Aa Aa Aa) Aa (Am Aa) (BQ F Aa Aa).q fun a w F W => ?_
      refine ls F W Aa (Ao F Aa Aa Aa).q fun a w F W => ?_
      refine Ae (Ac ?_)
      exact ⟨F.re ⟨rfl, Aa, Aa, Aa, Aa, Aa, (DZ (by try rw [hb0]; all_goals simp only [DT])), trivial⟩, W⟩
     rw [hb0] at F
     iterate 4 refine BX F Aa Aa Aa Aa Aa Aa Aa fun a F => ?_
     refine ls F W Aa (Aj F Aa Aa Aa).q fun a w F W => ?_
     refine Ae (Ac ?_)
     exact ⟨F.re ⟨rfl, Aa, Aa, Aa, Aa, Aa, (DZ (by try rw [hb0]; all_goals simp only [DT])), trivial⟩, W⟩
    rintro a w ⟨F, W⟩
    refine Ay F Aa (fun hb => ?_) fun hb => ?_
    ·
     have H := A8 hb H
     rw [hb] at F
     clear hb
     refine Ab ?_
     refine ls F W Aa (Ad F Aa).q fun a w F W => ?_
     refine ls F W Aa (BN F Aa Aa Aa).q fun a w F W => ?_
     refine ls F W Aa (Af F Aa).q fun a w F W => ?_
     refine Ae (AV (Ac ?_))
     have W := W.frontM (i := 1) Aa Aa
     have W := W.sub (M' := [(b1, [.int .i64 p0.1, v1, v2])]) (Z' := []) (List.Sublist.cons_cons _ (List.nil_sublist _)) (List.Sublist.refl _)
     exact ⟨_, H, F.re ⟨rfl, Aa, Aa, Aa, Aa, Aa, trivial⟩, W⟩
    have H := A9 (by rw [hb]; decide) H
    rw [hb] at F
    clear hb
    refine Ap (AV (Ac ?_))
    have W := W.frontM (i := 1) Aa Aa
    have W := W.sub (M' := [(b1, [.int .i64 p0.1, v1, v2])]) (Z' := []) (List.Sublist.cons_cons _ (List.nil_sublist _)) (List.Sublist.refl _)
    exact ⟨_, H, F.re ⟨rfl, Aa, Aa, Aa, Aa, Aa, trivial⟩, W⟩
   rintro a w ⟨x4, hj, F, W⟩
   have hj := A3 hj
   subst hj
   have H := K3
   clear G3 K3
   refine Ab ?_
   refine ls F W Aa (Ad F Aa).q fun a w F W => ?_
   refine ls F W Aa (BN F Aa Aa Aa).q fun a w F W => ?_
   refine ls F W Aa (Af F Aa).q fun a w F W => ?_
   refine Ae (Ac ?_)
   exact ⟨_, H, F.re ⟨rfl, Aa, Aa, Aa, Aa, Aa, trivial⟩, W⟩
  have H := A9 (BH hb) H
  rw [hb] at F
  clear hb
  refine Bz ?_
  iterate 2 refine B9 ?_
  refine BC (Ac ?_)
  have H := L2 _ H
  exact ⟨_, H, F.re ⟨rfl, Aa, Aa, Aa, Aa, trivial⟩, W⟩
 rintro a w ⟨x1, hj, F, W⟩
 have hj := A3 hj
 subst hj
 have H := K1
 clear G1 K1
 obtain ⟨o5, G5, K5⟩ := An H
 refine AN (fun a w => ∃ x7 : Int, some (x7) = some o5 ∧ Fr 94 [] [(1, .int .i64 p1), (2, .int .i64 p2), (3, .pointer (some ⟨b1, 0, none⟩)), (6, .bool false), (7, .int .i64 x7)] a ∧ Stw ⟨Y, [], w0⟩ [(b1, [.int .i64 p0.1, v1, v2])] [] w) ?_ ?_
 ·
  have H := G5
  clear G5 K5
  refine Ai (Ab ?_)
  refine ls F W Aa (Af F Aa).q fun a w F W => ?_
  refine Ae (Ac (Ax ?_))
  refine BA H (fun s a w => Fr 94 [] [(1, .int .i64 p1), (2, .int .i64 p2), (3, .pointer (some ⟨b1, 0, none⟩)), (6, .bool false), (7, .int .i64 s.1), (10, .int .i64 s.2)] a ∧ Stw ⟨Y, [], w0⟩ [(b1, [.int .i64 p0.1, v1, v2])] [] w) ⟨F.re ⟨rfl, Aa, Aa, Aa, Aa, Aa, trivial⟩, W⟩ fun s o a w H L6 hR => ?_
  obtain ⟨x8, x9⟩ := s
  obtain ⟨F, W⟩ := hR
  have F : Fr 94 [] [(1, .int .i64 p1), (2, .int .i64 p2), (3, .pointer (some ⟨b1, 0, none⟩)), (6, .bool false), (7, .int .i64 x8), (10, .int .i64 x9)] a := F
  have W : Stw ⟨Y, [], w0⟩ [(b1, [.int .i64 p0.1, v1, v2])] [] w := W
  rw [Dw] at H
  refine Ai (Ai (Ab ?_))
  refine ls F W Aa (Ad F Aa).q fun a w F W => ?_
  refine ls F W Aa (Ag C5 Aa Aa Aa He F Aa 2 Aa).q fun a w F W => ?_
  refine ls F W Aa (Al (v := v2) 0 F Aa Aa He Aa).q fun a w F W => ?_
  refine ls F W Aa (Cg (r := Bg) (l := p0.2.2) Ix Aa F Aa (Av h_v2)).q fun a w F W => ?_
  refine ls F W Aa (BD F Aa Aa).q fun a w F W => ?_
  refine Ae (Ac ?_)
  refine Ay F Aa (fun hb => ?_) fun hb => ?_
  ·
   have H := A8 (BI hb) H
   rw [hb] at F
   clear hb
   refine Ap (Ac ?_)
   obtain ⟨o7, G7, K7⟩ := An H
   refine AN (fun a w => ∃ x10 : Int, some (x10) = some o7 ∧ Fr 94 [] [(1, .int .i64 p1), (2, .int .i64 p2), (3, .pointer (some ⟨b1, 0, none⟩)), (6, .bool false), (7, .int .i64 x10), (10, .int .i64 x9)] a ∧ Stw ⟨Y, [], w0⟩ [(b1, [.int .i64 p0.1, v1, v2])] [] w) ?_ ?_
   ·
    have H := G7
    clear G7 K7
    refine Ax ?_
    obtain ⟨o8, G8, K8⟩ := An H
    refine AN (fun a w => ∃ x11 : Bool, some (x11) = some o8 ∧ Fr 94 [] [(1, .int .i64 p1), (2, .int .i64 p2), (3, .pointer (some ⟨b1, 0, none⟩)), (6, .bool false), (7, .int .i64 x8), (10, .int .i64 x9), (71, .bool x11)] a ∧ Stw ⟨Y, [], w0⟩ [(b1, [.int .i64 p0.1, v1, v2])] [] w) ?_ ?_
    ·
     have H := G8
     clear G8 K8
     refine Ab ?_
     refine ls F W Aa (Ag C5 Aa Aa Aa He F Aa 2 Aa).q fun a w F W => ?_
     refine ls F W Aa (Al (v := v2) 0 F Aa Aa He Aa).q fun a w F W => ?_
     refine ls F W Aa (Ad F Aa).q fun a w F W => ?_
     obtain ⟨x12, h2, H⟩ := An H
     refine ls F W Aa (Be (r := Bg) Lu F Aa Aa (Av h_v2) h2).q fun a w F W => ?_
     refine ls F W Aa (Ag Ji Aa Aa Aa T3 F Aa (D8 v2 + (x9).toNat * 2) Aa).q fun a w F W => ?_
     refine ls F W Aa (AE (y := Value.int .i64 x12.1) (j := 0) (i := x9) F Aa Aa (Av h_v2) h2 Ll.to T3 Aa).q fun a w F W => ?_
     refine ls F W Aa (Ad F Aa).q fun a w F W => ?_
     refine ls F W Aa (BQ F Aa Aa).q fun a w F W => ?_
     refine ls F W Aa (Ad F Aa).q fun a w F W => ?_
     rcases Bool.eq_false_or_eq_true (decide (x12.1 = p1)) with hb | hb
     ·
      have H := A8 (BI hb) H
      rw [hb] at F
      clear hb
      refine Az F W (Ah F Aa Aa Aa Aa) Aa (Am Aa) (Ag C5 Aa Aa Aa He F Aa 2 Aa).q fun a w F W => ?_
      refine Az F W (Ah F Aa Aa Aa Aa) Aa (Am Aa) (Al (v := v2) 0 F Aa Aa He Aa).q fun a w F W => ?_
      refine Az F W (Ah F Aa Aa Aa Aa) Aa (Am Aa) (Ad F Aa).q fun a w F W => ?_
      obtain ⟨x13, h3, H⟩ := An H
      refine Az F W (Ah F Aa Aa Aa Aa) Aa (Am Aa) (Be (r := Bg) Lu F Aa Aa (Av h_v2) h3).q fun a w F W => ?_
      refine Az F W (Ah F Aa Aa Aa Aa) Aa (Am Aa) (Ag Ji Aa Aa Aa T3 F Aa (D8 v2 + (x9).toNat * 2 + 1) Aa).q fun a w F W => ?_
      refine Az F W (Ah F Aa Aa Aa Aa) Aa (Am Aa) (AE (y := Value.int .i64 x13.2) (j := 1) (i := x9) F Aa Aa (Av h_v2) h3 Ll.to T3 Aa).q fun a w F W => ?_
      refine Az F W (Ah F Aa Aa Aa Aa) Aa (Am Aa) (Ad F Aa).q fun a w F W => ?_
      refine Az F W (Ah F Aa Aa Aa Aa) Aa (Am Aa) (BQ F Aa Aa).q fun a w F W => ?_
      refine ls F W Aa (Ao F Aa Aa Aa).q fun a w F W => ?_
      refine Ae (Ac ?_)
      exact ⟨_, H, F.re ⟨rfl, Aa, Aa, Aa, Aa, Aa, Aa, trivial⟩, W⟩
     have H := A9 (BH hb) H
     rw [hb] at F
     clear hb
     iterate 8 refine BX F Aa Aa Aa Aa Aa Aa Aa fun a F => ?_
     refine ls F W Aa (Aj F Aa Aa Aa).q fun a w F W => ?_
     refine Ae (Ac ?_)
     exact ⟨_, H, F.re ⟨rfl, Aa, Aa, Aa, Aa, Aa, Aa, trivial⟩, W⟩
    rintro a w ⟨x11, hj, F, W⟩
    have hj := A3 hj
    subst hj
    have H := K8
    clear G8 K8
    refine Ay F Aa (fun hb => ?_) fun hb => ?_
    ·
     have H := A8 hb H
     rw [hb] at F
     clear hb
     refine Ab ?_
     refine ls F W Aa (Ad F Aa).q fun a w F W => ?_
     refine ls F W Aa (BN F Aa Aa Aa).q fun a w F W => ?_
     refine ls F W Aa (Af F Aa).q fun a w F W => ?_
     refine Ae (AV (Ac ?_))
     exact ⟨_, H, F.re ⟨rfl, Aa, Aa, Aa, Aa, Aa, trivial⟩, W⟩
    have H := A9 (by rw [hb]; decide) H
    rw [hb] at F
    clear hb
    refine Ap (AV (Ac ?_))
    exact ⟨_, H, F.re ⟨rfl, Aa, Aa, Aa, Aa, Aa, trivial⟩, W⟩
   rintro a w ⟨x10, hj, F, W⟩
   have hj := A3 hj
   subst hj
   have H := K7
   clear G7 K7
   refine Ab ?_
   refine ls F W Aa (Ad F Aa).q fun a w F W => ?_
   refine ls F W Aa (BN F Aa Aa Aa).q fun a w F W => ?_
   refine ls F W Aa (Af F Aa).q fun a w F W => ?_
   refine Ae (Ac ?_)
   exact ⟨_, H, F.re ⟨rfl, Aa, Aa, Aa, Aa, Aa, trivial⟩, W⟩
  have H := A9 (BH hb) H
  rw [hb] at F
  clear hb
  refine Bz ?_
  iterate 2 refine B9 ?_
  refine BC (Ac ?_)
  have H := L6 _ H
  exact ⟨_, H, F.re ⟨rfl, Aa, Aa, Aa, Aa, trivial⟩, W⟩
 rintro a w ⟨x7, hj, F, W⟩
 have hj := A3 hj
 subst hj
 have H := K5
 clear G5 K5
 refine AN (fun a w => Fr 94 [] [(6, .bool (decide (0 ≤ p1) && (decide (p1 < p0.1) && (decide (0 ≤ p2) && (decide (p2 ≤ 7) && decide (x7 = 1))))))] a ∧ Stw ⟨Y, [], w0⟩ [(b1, [.int .i64 p0.1, v1, v2])] [] w) ?_ ?_
 ·
  refine Ab ?_
  refine ls F W Aa (Ad F Aa).q fun a w F W => ?_
  refine ls F W Aa (FC F Aa Aa).q fun a w F W => ?_
  refine ls F W Aa (Ad F Aa).q fun a w F W => ?_
  rcases Bool.eq_false_or_eq_true (decide (0 ≤ p1)) with hb0 | hb0
  ·
   rw [hb0] at F
   refine Az F W (Ah F Aa Aa Aa Aa) Aa (Am Aa) (Ad F Aa).q fun a w F W => ?_
   refine Az F W (Ah F Aa Aa Aa Aa) Aa (Am Aa) (Ag C5 Aa Aa Aa T3 F Aa 0 Aa).q fun a w F W => ?_
   refine Az F W (Ah F Aa Aa Aa Aa) Aa (Am Aa) (Al (v := Value.int .i64 p0.1) 0 F Aa Aa T3 Aa).q fun a w F W => ?_
   refine Az F W (Ah F Aa Aa Aa Aa) Aa (Am Aa) (BD F Aa Aa).q fun a w F W => ?_
   refine ls F W Aa (Ao F Aa Aa Aa).q fun a w F W => ?_
   refine ls F W Aa (Ad F Aa).q fun a w F W => ?_
   rcases Bool.eq_false_or_eq_true (decide (p1 < p0.1)) with hb1 | hb1
   ·
    rw [hb1] at F
    refine Az F W (Ah F Aa Aa Aa Aa) Aa (Am Aa) (Ad F Aa).q fun a w F W => ?_
    refine Az F W (Ah F Aa Aa Aa Aa) Aa (Am Aa) (FC F Aa Aa).q fun a w F W => ?_
    refine ls F W Aa (Ao F Aa Aa Aa).q fun a w F W => ?_
    refine ls F W Aa (Ad F Aa).q fun a w F W => ?_
    rcases Bool.eq_false_or_eq_true (decide (0 ≤ p2)) with hb2 | hb2
    ·
     rw [hb2] at F
     refine Az F W (Ah F Aa Aa Aa Aa) Aa (Am Aa) (Ad F Aa).q fun a w F W => ?_
     refine Az F W (Ah F Aa Aa Aa Aa) Aa (Am Aa) (Hx F Aa Aa).q fun a w F W => ?_
     refine ls F W Aa (Ao F Aa Aa Aa).q fun a w F W => ?_
     refine ls F W Aa (Ad F Aa).q fun a w F W => ?_
     rcases Bool.eq_false_or_eq_true (decide (p2 ≤ 7)) with hb3 | hb3
     ·
      rw [hb3] at F
      refine Az F W (Ah F Aa Aa Aa Aa) Aa (Am Aa) (Ad F Aa).q fun a w F W => ?_
      refine Az F W (Ah F Aa Aa Aa Aa) Aa (Am Aa) (BQ F Aa Aa).q fun a w F W => ?_
      refine ls F W Aa (Ao F Aa Aa Aa).q fun a w F W => ?_
      refine ls F W Aa (Af F Aa).q fun a w F W => ?_
      refine Ae (Ac ?_)
      exact ⟨F.re ⟨(DZ (by try rw [hb1]; try rw [hb0]; try rw [hb2]; try rw [hb3]; all_goals simp only [DT])), trivial⟩, W⟩
     rw [hb3] at F
     iterate 2 refine BX F Aa Aa Aa Aa Aa Aa Aa fun a F => ?_
     refine ls F W Aa (Aj F Aa Aa Aa).q fun a w F W => ?_
     refine ls F W Aa (Af F Aa).q fun a w F W => ?_
     refine Ae (Ac ?_)
     exact ⟨F.re ⟨(DZ (by try rw [hb1]; try rw [hb0]; try rw [hb2]; try rw [hb3]; all_goals simp only [DT])), trivial⟩, W⟩
    rw [hb2] at F
    iterate 2 refine BX F Aa Aa Aa Aa Aa Aa Aa fun a F => ?_
    refine ls F W Aa (Aj F Aa Aa Aa).q fun a w F W => ?_
    refine ls F W Aa (Ad F Aa).q fun a w F W => ?_
    iterate 2 refine BX F Aa Aa Aa Aa Aa Aa Aa fun a F => ?_
    refine ls F W Aa (Aj F Aa Aa Aa).q fun a w F W => ?_
    refine ls F W Aa (Af F Aa).q fun a w F W => ?_
    refine Ae (Ac ?_)
    exact ⟨F.re ⟨(DZ (by try rw [hb1]; try rw [hb0]; try rw [hb2]; all_goals simp only [DT])), trivial⟩, W⟩
   rw [hb1] at F
   iterate 2 refine BX F Aa Aa Aa Aa Aa Aa Aa fun a F => ?_
   refine ls F W Aa (Aj F Aa Aa Aa).q fun a w F W => ?_
   refine ls F W Aa (Ad F Aa).q fun a w F W => ?_
   iterate 2 refine BX F Aa Aa Aa Aa Aa Aa Aa fun a F => ?_
   refine ls F W Aa (Aj F Aa Aa Aa).q fun a w F W => ?_
   refine ls F W Aa (Ad F Aa).q fun a w F W => ?_
   iterate 2 refine BX F Aa Aa Aa Aa Aa Aa Aa fun a F => ?_
   refine ls F W Aa (Aj F Aa Aa Aa).q fun a w F W => ?_
   refine ls F W Aa (Af F Aa).q fun a w F W => ?_
   refine Ae (Ac ?_)
   exact ⟨F.re ⟨(DZ (by try rw [hb1]; try rw [hb0]; all_goals simp only [DT])), trivial⟩, W⟩
  rw [hb0] at F
  iterate 4 refine BX F Aa Aa Aa Aa Aa Aa Aa fun a F => ?_
  refine ls F W Aa (Aj F Aa Aa Aa).q fun a w F W => ?_
  refine ls F W Aa (Ad F Aa).q fun a w F W => ?_
  iterate 2 refine BX F Aa Aa Aa Aa Aa Aa Aa fun a F => ?_
  refine ls F W Aa (Aj F Aa Aa Aa).q fun a w F W => ?_
  refine ls F W Aa (Ad F Aa).q fun a w F W => ?_
  iterate 2 refine BX F Aa Aa Aa Aa Aa Aa Aa fun a F => ?_
  refine ls F W Aa (Aj F Aa Aa Aa).q fun a w F W => ?_
  refine ls F W Aa (Ad F Aa).q fun a w F W => ?_
  iterate 2 refine BX F Aa Aa Aa Aa Aa Aa Aa fun a F => ?_
  refine ls F W Aa (Aj F Aa Aa Aa).q fun a w F W => ?_
  refine ls F W Aa (Af F Aa).q fun a w F W => ?_
  refine Ae (Ac ?_)
  exact ⟨F.re ⟨(DZ (by try rw [hb0]; all_goals simp only [DT])), trivial⟩, W⟩
 rintro a w ⟨F, W⟩
 refine AB ?_
 have H := A3 H
 subst H
 refine Bh (.inl Aa) F W Aa (Aq F Aa) ?_
 exact ⟨rfl, W.done⟩
end Go.Proofs.Ytemacefkdopgaaa
