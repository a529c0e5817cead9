/- The functions of layer 19, FD. Conditions: none. -/
import Derived.Test.YtbogijdfacoccaacA0
namespace Go.Proofs.Ytbogijdfacoccaa
open Go Go.RowKit
set_option linter.unusedVariables false
set_option linter.unusedSimpArgs false
set_option maxRecDepth 20000
theorem QW : Has Try.prog 54 := ⟨fun args w => Aj Try.func54 rfl (by decide) args w⟩
noncomputable def Cw (p0 : Nat) (p1 : Nat) : Option Int := (C7 p0).bind fun x1 => (C7 p1).bind fun x2 => (if x1 < x2 then some (-1) else (if x2 < x1 then some 1 else (if (Kr p0 p1) = true then some (-1) else (if (Nb p0 p1) = true then some 1 else some 0))))
theorem Ie (Y : Nat → Prop) (w0 : World)  (p0 : Nat) (p1 : Nat) (r : Int) (H : Cw p0 p1 = some r)  :
    Calls Try.prog 33 #[.float .f64 p0, .float .f64 p1] w0 fun e w' => e = .returned (.int .i64 r) ∧ Below w0.heap.size w0 w' := by
 refine enter Try.func33 Aa Try.ntmps33 Aa fun a F => ?_
 have W := Stw.start Y w0
 unfold Cw at H
 refine Ah (Ab ?_)
 refine ls F W Aa (Ae F Aa).q fun a w F W => ?_
 refine Ad (Ac (Ah (Ah (Ab ?_))))
 refine ls F W Aa (Af F Aa).q fun a w F W => ?_
 obtain ⟨x1, h1, H⟩ := Al H
 refine ls F W Aa (AZ (v := Value.int .i64 x1) F QW Aa (fun w W => GR any w p0 _ h1)) fun a w F W => ?_
 refine ls F W Aa (Af F Aa).q fun a w F W => ?_
 obtain ⟨x2, h2, H⟩ := Al H
 refine ls F W Aa (AZ (v := Value.int .i64 x2) F QW Aa (fun w W => GR any w p1 _ h2)) fun a w F W => ?_
 iterate 2 refine ls F W Aa (Ae F Aa).q fun a w F W => ?_
 refine Ad (Ac (As (Ah (Ab ?_))))
 iterate 2 refine ls F W Aa (Af F Aa).q fun a w F W => ?_
 refine ls F W Aa (Bl F Aa Aa).q fun a w F W => ?_
 refine ls F W Aa (Ae F Aa).q fun a w F W => ?_
 refine Ad (Ac ?_)
 refine AC F Aa (fun hb => ?_) fun hb => ?_
 ·
  have H := AW (BB hb) H
  rw [hb] at F
  clear hb
  refine Ah (Ab ?_)
  refine ls F W Aa (Ae F Aa).q fun a w F W => ?_
  refine Ad (Ac (Az (A3 (AU ?_))))
  have H := AX H
  subst H
  refine A0 (.inl Aa) F W Aa (Au F Aa) ?_
  exact ⟨rfl, W.done⟩
 have H := AV (BD hb) H
 rw [hb] at F
 clear hb
 refine Ah (Ab ?_)
 iterate 2 refine ls F W Aa (Af F Aa).q fun a w F W => ?_
 refine ls F W Aa (DM F Aa Aa).q fun a w F W => ?_
 refine ls F W Aa (Ae F Aa).q fun a w F W => ?_
 refine Ad (Ac ?_)
 refine AC F Aa (fun hb => ?_) fun hb => ?_
 ·
  have H := AW (BB hb) H
  rw [hb] at F
  clear hb
  refine Ah (Ab ?_)
  refine ls F W Aa (Ae F Aa).q fun a w F W => ?_
  refine Ad (Ac (Az (A3 (AU ?_))))
  have H := AX H
  subst H
  refine A0 (.inl Aa) F W Aa (Au F Aa) ?_
  exact ⟨rfl, W.done⟩
 have H := AV (BD hb) H
 rw [hb] at F
 clear hb
 refine Ah (Ab ?_)
 iterate 2 refine ls F W Aa (Af F Aa).q fun a w F W => ?_
 refine ls F W Aa (JZ F Aa Aa).q fun a w F W => ?_
 refine ls F W Aa (Ae F Aa).q fun a w F W => ?_
 refine Ad (Ac ?_)
 refine AC F Aa (fun hb => ?_) fun hb => ?_
 ·
  have H := AW hb H
  rw [hb] at F
  clear hb
  refine Ah (Ab ?_)
  refine ls F W Aa (Ae F Aa).q fun a w F W => ?_
  refine Ad (Ac (Az (A3 (AU ?_))))
  have H := AX H
  subst H
  refine A0 (.inl Aa) F W Aa (Au F Aa) ?_
  exact ⟨rfl, W.done⟩
 have H := AV (by rw [hb]; decide) H
 rw [hb] at F
 clear hb
 refine Ah (Ab ?_)
 iterate 2 refine ls F W Aa (Af F Aa).q fun a w F W => ?_
 refine ls F W Aa (Lp F Aa Aa).q fun a w F W => ?_
 refine ls F W Aa (Ae F Aa).q fun a w F W => ?_
 refine Ad (Ac ?_)
 refine AC F Aa (fun hb => ?_) fun hb => ?_
 ·
  have H := AW hb H
  rw [hb] at F
  clear hb
  refine Ah (Ab ?_)
  refine ls F W Aa (Ae F Aa).q fun a w F W => ?_
  refine Ad (Ac (Az (A3 (AU ?_))))
  have H := AX H
  subst H
  refine A0 (.inl Aa) F W Aa (Au F Aa) ?_
  exact ⟨rfl, W.done⟩
 have H := AV (by rw [hb]; decide) H
 rw [hb] at F
 clear hb
 refine Ax (AO (Ac (Ah (Ab ?_))))
 refine ls F W Aa (Ae F Aa).q fun a w F W => ?_
 refine Ad (Ac (Az ?_))
 have H := AX H
 subst H
 refine A0 (.inl Aa) F W Aa (Au F Aa) ?_
 exact ⟨rfl, W.done⟩
theorem Rn : Has Try.prog 33 := ⟨fun args w => Aj Try.func33 rfl (by decide) args w⟩
noncomputable def Cx (p0 : Int) (p1 : Int) (p2 : List Nat) : Option Int := (ix p2 p0).bind fun x1 => (ix p2 p1).bind fun x2 => (Cw x1 x2).bind fun x3 => some x3
theorem H6 (Y : Nat → Prop) (w0 : World) (q_p2 : Nat) (v1 : Value) (p0 : Int) (p1 : Int) (p2 : List Nat) (r : Int) (H : Cx p0 p1 p2 = some r) (h_v1 : Sl w0 (NX []) (Rp.flt .f64) v1 p2) (a_q_p2 : At ⟨Y, [], w0⟩ q_p2 0 [v1]) :
    Calls Try.prog 32 #[.int .i64 p0, .int .i64 p1, .pointer (some ⟨q_p2, 0, none⟩)] w0 fun e w' => e = .returned (.int .i64 r) ∧ Below w0.heap.size w0 w' := by
 refine enter Try.func32 Aa Try.ntmps32 Aa fun a F => ?_
 have W := Stw.start Y w0
 unfold Cx at H
 refine Ah (Ab ?_)
 refine ls F W Aa (Ae F Aa).q fun a w F W => ?_
 refine Ad (Ac (Ah ?_))
 refine CF W MO (by kernel_rfl) ?_
 refine qs F Aa (JF (y := v1) (j := 0) F Aa (Nat.zero_add _).symm a_q_p2 Mc Aa).q fun a F => ?_
 refine qs F Aa (Af F Aa).q fun a F => ?_
 obtain ⟨x1, h1, H⟩ := Al H
 refine qs F Aa (AF (r := (Rp.flt .f64)) Hy F Aa Aa (Am h_v1) h1).q fun a F => ?_
 refine qs F Aa (Aw (y := Value.float .f64 x1) (j := 0) (i := p0) F Aa Aa (Am h_v1) h1 Fl.flt.to Ih Aa).q fun a F => ?_
 refine qs F Aa (JF (y := v1) (j := 0) F Aa (Nat.zero_add _).symm a_q_p2 Mc Aa).q fun a F => ?_
 refine qs F Aa (Af F Aa).q fun a F => ?_
 obtain ⟨x2, h2, H⟩ := Al H
 refine qs F Aa (AF (r := (Rp.flt .f64)) Hy F Aa Aa (Am h_v1) h2).q fun a F => ?_
 refine qs F Aa (Aw (y := Value.float .f64 x2) (j := 0) (i := p1) F Aa Aa (Am h_v1) h2 Fl.flt.to Ih Aa).q fun a F => ?_
 obtain ⟨x3, h3, H⟩ := Al H
 refine qs F Aa (AZ (v := Value.int .i64 x3) F Rn Aa (fun w W => Ie any w x1 x2 _ h3)) fun a F => ?_
 refine qs F Aa (Ae F Aa).q fun a F => ?_
 refine A9 fun w W => ?_
 refine Ac (Az ?_)
 have H := AX H
 subst H
 refine A0 (.inl Aa) F W Aa (Au F Aa) ?_
 exact ⟨rfl, W.done⟩
theorem RM : Has Try.prog 32 := ⟨fun args w => Aj Try.func32 rfl (by decide) args w⟩
noncomputable def AP (p1 : Int) (p3c0 : List Nat) : (List Int × Int) → Option ((List Int × Int) ⊕ (List Int))
  | (x4, x5) => (if p1 < x5 then (ix x4 x5).bind fun x7 => (ix x4 (BN (x5 - 1))).bind fun x8 => (Cx x7 x8 p3c0).bind fun x9 => some (decide (x9 < 0)) else some false).bind fun x6 => (if x6 = true then (ix x4 (BN (x5 - 1))).bind fun x10 => (ix x4 x5).bind fun x11 => (ix x4 x5).bind fun x12 => (ix (AA x4 x5 x10) (BN (x5 - 1))).bind fun x13 => some (.inl ((AA (AA x4 x5 x10) (BN (x5 - 1)) x11), BN (x5 - 1))) else some (.inr x4))
noncomputable def AH (p1 : Int) (p2 : Int) (p3c0 : List Nat) : (List Int × Int) → Option ((List Int × Int) ⊕ (List Int))
  | (x1, x2) => (if x2 < p2 then (AM (AP p1 p3c0) (x1, x2)).bind fun x3 => some (.inl (x3, BN (x2 + 1))) else some (.inr x1))
noncomputable def A2 (p0 : List Int) (p1 : Int) (p2 : Int) (p3c0 : List Nat) : Option (List Int) := AM (AH p1 p2 p3c0) (p0, BN (p1 + 1))
theorem DN (Y : Nat → Prop) (X : List Nat) (w0 : World) (v1 : Value) (q_p3c0 : Nat) (v2 : Value) (p0 : List Int) (p1 : Int) (p2 : Int) (p3c0 : List Nat) (r : List Int) (H : A2 p0 p1 p2 p3c0 = some r) (h_v2 : Sl w0 (NX X) (Rp.flt .f64) v2 p3c0) (a_q_p3c0 : At ⟨Y, X, w0⟩ q_p3c0 0 [v2]) (hL : Stw ⟨Y, X, w0⟩ [] [row v1 3 (Rp.int .i64) p0] w0) :
    Calls Try.prog 69 #[v1, .int .i64 p1, .int .i64 p2, .func (.func 32) #[] #[.pointer (some ⟨q_p3c0, 0, none⟩)]] w0 fun e w' => ∃ x : Unit, e = .returned (.tuple #[]) ∧ Stw ⟨Y, X, w0⟩ [] [row v1 3 (Rp.int .i64) r] w' := by
 refine enter Try.func69 Aa Try.ntmps69 Aa fun a F => ?_
 have W := hL
 unfold A2 at H
 refine Ah (Ab ?_)
 refine ls F W Aa (Af F Aa).q fun a w F W => ?_
 refine ls F W Aa (BQ F Aa Aa Aa).q fun a w F W => ?_
 refine ls F W Aa (Ae F Aa).q fun a w F W => ?_
 refine Ad (Ac (As ?_))
 refine Be H (fun s a w => Fr 53 [] [(0, v1), (1, .int .i64 p1), (2, .int .i64 p2), (3, .func (.func 32) #[] #[.pointer (some ⟨q_p3c0, 0, none⟩)]), (8, .int .i64 s.2)] a ∧ Stw ⟨Y, X, w0⟩ [] [row v1 3 (Rp.int .i64) s.1] w) ⟨F.re ⟨rfl, Aa, Aa, Aa, Aa, trivial⟩, W⟩ fun s o a w H L1 hR => ?_
 obtain ⟨x1, x2⟩ := s
 obtain ⟨F, W⟩ := hR
 have F : Fr 53 [] [(0, v1), (1, .int .i64 p1), (2, .int .i64 p2), (3, .func (.func 32) #[] #[.pointer (some ⟨q_p3c0, 0, none⟩)]), (8, .int .i64 x2)] a := F
 have W : Stw ⟨Y, X, w0⟩ [] [row v1 3 (Rp.int .i64) x1] w := W
 rw [AH] at H
 refine Ah (Ah (Ab ?_))
 iterate 2 refine ls F W Aa (Af F Aa).q fun a w F W => ?_
 refine ls F W Aa (Bl F Aa Aa).q fun a w F W => ?_
 refine Ad (Ac ?_)
 refine AC F Aa (fun hb => ?_) fun hb => ?_
 ·
  have H := AW (BB hb) H
  rw [hb] at F
  clear hb
  refine Ax (Ac ?_)
  obtain ⟨o2, G2, K2⟩ := Al H
  refine AJ (fun a w => ∃ x3 : List Int, some (x3) = some o2 ∧ Fr 53 [] [(0, v1), (1, .int .i64 p1), (2, .int .i64 p2), (3, .func (.func 32) #[] #[.pointer (some ⟨q_p3c0, 0, none⟩)]), (8, .int .i64 x2)] a ∧ Stw ⟨Y, X, w0⟩ [] [row v1 3 (Rp.int .i64) x3] w) ?_ ?_
  ·
   have H := G2
   clear G2 K2
   refine As (Ah (Ab ?_))
   refine ls F W Aa (Af F Aa).q fun a w F W => ?_
   refine ls F W Aa (Ae F Aa).q fun a w F W => ?_
   refine Ad (Ac (As ?_))
   refine Be H (fun s a w => Fr 53 [] [(0, v1), (1, .int .i64 p1), (2, .int .i64 p2), (3, .func (.func 32) #[] #[.pointer (some ⟨q_p3c0, 0, none⟩)]), (8, .int .i64 x2), (9, .int .i64 s.2)] a ∧ Stw ⟨Y, X, w0⟩ [] [row v1 3 (Rp.int .i64) s.1] w) ⟨F.re ⟨rfl, Aa, Aa, Aa, Aa, Aa, trivial⟩, W⟩ fun s o a w H L3 hR => ?_
   obtain ⟨x4, x5⟩ := s
   obtain ⟨F, W⟩ := hR
   have F : Fr 53 [] [(0, v1), (1, .int .i64 p1), (2, .int .i64 p2), (3, .func (.func 32) #[] #[.pointer (some ⟨q_p3c0, 0, none⟩)]), (8, .int .i64 x2), (9, .int .i64 x5)] a := F
   have W : Stw ⟨Y, X, w0⟩ [] [row v1 3 (Rp.int .i64) x4] w := W
   rw [AP] at H
   refine Ah ?_
   obtain ⟨o4, G4, K4⟩ := Al H
   refine AJ (fun a w => ∃ x6 : Bool, some (x6) = some o4 ∧ Fr 53 [] [(0, v1), (1, .int .i64 p1), (2, .int .i64 p2), (3, .func (.func 32) #[] #[.pointer (some ⟨q_p3c0, 0, none⟩)]), (8, .int .i64 x2), (9, .int .i64 x5), (34, .bool x6)] a ∧ Stw ⟨Y, X, w0⟩ [] [row v1 3 (Rp.int .i64) x4] w) ?_ ?_
   ·
    have H := G4
    clear G4 K4
    refine CF W MO (by kernel_rfl) ?_
    iterate 2 refine qs F Aa (Af F Aa).q fun a F => ?_
    refine qs F Aa (DM F Aa Aa).q fun a F => ?_
    refine qs F Aa (Af F Aa).q fun a F => ?_
    rcases Bool.eq_false_or_eq_true (decide (p1 < x5)) with hb | hb
    ·
     have H := AW (BB hb) H
     rw [hb] at F
     clear hb
     iterate 3 refine Bz F (Ag F Aa Aa Aa Aa) Aa (Ak Aa) (Af F Aa).q fun a F => ?_
     obtain ⟨x7, h1, H⟩ := Al H
     refine Bz F (Ag F Aa Aa Aa Aa) Aa (Ak Aa) (AF (r := (Rp.int .i64)) FM F Aa Aa (Av 0 Aa) h1).q fun a F => ?_
     refine Bz F (Ag F Aa Aa Aa Aa) Aa (Ak Aa) (Aw (y := Value.int .i64 x7) (j := 0) (i := x5) F Aa Aa (Av 0 Aa) h1 Fl.int.to T3 Aa).q fun a F => ?_
     iterate 2 refine Bz F (Ag F Aa Aa Aa Aa) Aa (Ak Aa) (Af F Aa).q fun a F => ?_
     refine Bz F (Ag F Aa Aa Aa Aa) Aa (Ak Aa) (Fx F Aa Aa Aa).q fun a F => ?_
     obtain ⟨x8, h2, H⟩ := Al H
     refine Bz F (Ag F Aa Aa Aa Aa) Aa (Ak Aa) (AF (r := (Rp.int .i64)) FM F Aa Aa (Av 0 Aa) h2).q fun a F => ?_
     refine Bz F (Ag F Aa Aa Aa Aa) Aa (Ak Aa) (Aw (y := Value.int .i64 x8) (j := 0) (i := BN (x5 - 1)) F Aa Aa (Av 0 Aa) h2 Fl.int.to T3 Aa).q fun a F => ?_
     obtain ⟨x9, h3, H⟩ := Al H
     refine Bz F (Ag F Aa Aa Aa Aa) Aa (Ak Aa) (Km (ws := [.int .i64 x7, .int .i64 x8, .pointer (some ⟨q_p3c0, 0, none⟩)]) (v := Value.int .i64 x9) F RM Aa (fun w W => H6 any w q_p3c0 (v2) x7 x8 p3c0 _ h3 (((Am h_v2) : D6 _ _ _ _ _ _) w W).nx (At.re a_q_p3c0 W))) fun a F => ?_
     refine Bz F (Ag F Aa Aa Aa Aa) Aa (Ak Aa) (Bl F Aa Aa).q fun a F => ?_
     refine qs F Aa (Ao F Aa Aa Aa).q fun a F => ?_
     refine A9 fun w W => ?_
     refine Ac ?_
     exact ⟨_, H, F.re ⟨rfl, Aa, Aa, Aa, Aa, Aa, Aa, trivial⟩, W⟩
    have H := AV (BD hb) H
    rw [hb] at F
    clear hb
    iterate 12 refine CP F (Ca F Aa Aa Aa Aa Aa) Aa Aa fun a F => ?_
    refine qs F Aa (Aq F Aa Aa Aa).q fun a F => ?_
    refine A9 fun w W => ?_
    refine Ac ?_
    exact ⟨_, H, F.re ⟨rfl, Aa, Aa, Aa, Aa, Aa, Aa, trivial⟩, W⟩
   rintro a w ⟨x6, hj, F, W⟩
   have hj := AX hj
   subst hj
   have H := K4
   clear G4 K4
   refine AC F Aa (fun hb => ?_) fun hb => ?_
   ·
    have H := AW hb H
    rw [hb] at F
    clear hb
    refine Ax (Ac (Ah (As ?_)))
    refine Kz [(true, 0), (true, 1), (true, 2), (true, 3), (true, 4), (true, 5), (true, 6), (true, 7), (true, 8), (true, 9), (true, 10), (true, 11), (true, 12), (true, 13), (true, 14), (false, 15), (true, 16), (false, 17)] (CN ⟨Y, X, w0⟩ [] [(some 15, row v1 3 (Rp.int .i64) x4)]) (fun ch a d v w h => by cases d <;> exact h) MO (by kernel_rfl) W (fun w W => ⟨_, _, W, AQ, (all_cons (fun _ => (.head _)) AQ)⟩) fun w W => ?_
    iterate 4 refine E6 (R := []) F Aa Aa (yC fun M Z hN hZ => Af F Aa) Aa Aa fun a F => ?_
    refine E6 (R := []) F Aa Aa (yC fun M Z hN hZ => Fx F Aa Aa Aa) Aa Aa fun a F => ?_
    iterate 2 refine E6 (R := []) F Aa Aa (yC fun M Z hN hZ => Af F Aa) Aa Aa fun a F => ?_
    refine E6 (R := []) F Aa Aa (yC fun M Z hN hZ => Fx F Aa Aa Aa) Aa Aa fun a F => ?_
    obtain ⟨x10, h4, H⟩ := Al H
    refine E6 (R := []) F Aa Aa (yC fun M Z hN hZ => Eu (r := (Rp.int .i64)) FM F Aa Aa (HQ W (Av 0 Aa)) h4) Aa Aa fun a F => ?_
    refine E6 (R := [15]) F Aa Aa (yC fun M Z hN hZ => Aw (y := Value.int .i64 x10) (j := 0) (i := BN (x5 - 1)) F Aa Aa (Hr (hZ ((some 15), row v1 3 (Rp.int .i64) x4) (.head _) Aa)) h4 Fl.int.to T3 Aa) (by kernel_rfl) Aa fun a F => ?_
    iterate 2 refine E6 (R := []) F Aa Aa (yC fun M Z hN hZ => Af F Aa) Aa Aa fun a F => ?_
    obtain ⟨x11, h5, H⟩ := Al H
    refine E6 (R := []) F Aa Aa (yC fun M Z hN hZ => Eu (r := (Rp.int .i64)) FM F Aa Aa (HQ W (Av 0 Aa)) h5) Aa Aa fun a F => ?_
    refine E6 (R := [15]) F Aa Aa (yC fun M Z hN hZ => Aw (y := Value.int .i64 x11) (j := 0) (i := x5) F Aa Aa (Hr (hZ ((some 15), row v1 3 (Rp.int .i64) x4) (.head _) Aa)) h5 Fl.int.to T3 Aa) (by kernel_rfl) Aa fun a F => ?_
    obtain ⟨x12, h6, H⟩ := Al H
    refine E6 (R := []) F Aa Aa (yC fun M Z hN hZ => Eu (r := (Rp.int .i64)) FM F Aa Aa (HQ W (Av 0 Aa)) h6) Aa Aa fun a F => ?_
    refine O8 Aa ?_
    refine CO (i := x5) (j := 0) (vs := [.int .i64 x10]) (x' := x10) F W Aa Aa Aa (k := 0) Aa Aa h6 T3 Aa Aa Aa Aa (fun A cs _ => Fl.int.sto (by rfl) _ _ _) fun w W => ?_
    refine Ik (N2 := []) (NZ2 := []) (N3 := []) (NZ3 := [(some 15, row v1 3 (Rp.int .i64) x4)]) W Aa Aa AQ (all_cons (fun h => CI (by kernel_rfl) h) AQ) ?_
    obtain ⟨x13, h7, H⟩ := Al H
    refine E6 (R := []) F Aa Aa (yC fun M Z hN hZ => Eu (r := (Rp.int .i64)) FM F Aa Aa (HQ W (Av 0 Aa)) h7) Aa Aa fun a F => ?_
    refine O8 Aa ?_
    refine CO (i := BN (x5 - 1)) (j := 0) (vs := [.int .i64 x11]) (x' := x11) F W Aa Aa Aa (k := 0) Aa Aa h7 T3 Aa Aa Aa Aa (fun A cs _ => Fl.int.sto (by rfl) _ _ _) fun w W => ?_
    refine Ik (N2 := []) (NZ2 := []) (N3 := []) (NZ3 := [(some 15, row v1 3 (Rp.int .i64) x4)]) W Aa Aa AQ (all_cons (fun h => CI (by kernel_rfl) h) AQ) ?_
    refine NM (AO (Ac (Ab ?_)))
    refine ls F W Aa (Af F Aa).q fun a w F W => ?_
    refine ls F W Aa (Fx F Aa Aa Aa).q fun a w F W => ?_
    refine ls F W Aa (Ae F Aa).q fun a w F W => ?_
    refine Ad (Ac ?_)
    exact ⟨_, H, F.re ⟨rfl, Aa, Aa, Aa, Aa, Aa, trivial⟩, W⟩
   have H := AV (by rw [hb]; decide) H
   rw [hb] at F
   clear hb
   refine Bg ?_
   iterate 2 refine BJ ?_
   refine Bh (AO (Ac ?_))
   have H := L3 _ H
   exact ⟨_, H, F.re ⟨rfl, Aa, Aa, Aa, Aa, trivial⟩, W⟩
  rintro a w ⟨x3, hj, F, W⟩
  have hj := AX hj
  subst hj
  have H := K2
  clear G2 K2
  refine Ab ?_
  refine ls F W Aa (Af F Aa).q fun a w F W => ?_
  refine ls F W Aa (BQ F Aa Aa Aa).q fun a w F W => ?_
  refine ls F W Aa (Ae F Aa).q fun a w F W => ?_
  refine Ad (Ac ?_)
  exact ⟨_, H, F.re ⟨rfl, Aa, Aa, Aa, Aa, trivial⟩, W⟩
 have H := AV (BD hb) H
 rw [hb] at F
 clear hb
 refine Bg ?_
 iterate 2 refine BJ ?_
 refine Bh ?_
 have H := L1 _ H
 have H := AX H
 subst H
 refine HU (.inr Aa) F Aa ?_
 exact ⟨(), Aa, W⟩
theorem R9 : Has Try.prog 69 := ⟨fun args w => Aj Try.func69 rfl (by decide) args w⟩
noncomputable def Bf (p0 : List Int) (p1 : Int) (p2 : Int) (p4c0 : List Nat) : Unit → Option (Unit ⊕ (List Int))
  | _ => (if (BN (p2 - p1)) ≤ 12 then (A2 p0 p1 p2 p4c0).bind fun x1 => some (.inr x1) else none)
noncomputable def A6 (p0 : List Int) (p1 : Int) (p2 : Int) (p3 : Int) (p4c0 : List Nat) : Option (List Int) := AM (Bf p0 p1 p2 p4c0) ()
theorem EK (Y : Nat → Prop) (X : List Nat) (w0 : World) (v1 : Value) (q_p4c0 : Nat) (v2 : Value) (p0 : List Int) (p1 : Int) (p2 : Int) (p3 : Int) (p4c0 : List Nat) (r : List Int) (H : A6 p0 p1 p2 p3 p4c0 = some r) (h_v2 : Sl w0 (NX X) (Rp.flt .f64) v2 p4c0) (a_q_p4c0 : At ⟨Y, X, w0⟩ q_p4c0 0 [v2]) (hL : Stw ⟨Y, X, w0⟩ [] [row v1 3 (Rp.int .i64) p0] w0) :
    Calls Try.prog 52 #[v1, .int .i64 p1, .int .i64 p2, .int .i64 p3, .func (.func 32) #[] #[.pointer (some ⟨q_p4c0, 0, none⟩)]] w0 fun e w' => ∃ x : Unit, e = .returned (.tuple #[]) ∧ Stw ⟨Y, X, w0⟩ [] [row v1 3 (Rp.int .i64) r] w' := by
 refine enter Try.func52 Aa Try.ntmps52 Aa fun a F => ?_
 have W := hL
 unfold A6 at H
 refine Ah (Ab ?_)
 refine ls F W Aa (Ae F Aa).q fun a w F W => ?_
 refine Ad (Ac (Ah (Ab ?_)))
 refine ls F W Aa (Ae F Aa).q fun a w F W => ?_
 refine Ad (Ac (As ?_))
 refine Be H (fun s a w => Fr 148 [] [(0, v1), (1, .int .i64 p1), (2, .int .i64 p2), (3, .int .i64 p3), (4, .func (.func 32) #[] #[.pointer (some ⟨q_p4c0, 0, none⟩)]), (10, .bool true), (11, .bool true)] a ∧ Stw ⟨Y, X, w0⟩ [] [row v1 3 (Rp.int .i64) p0] w) ⟨F.re ⟨rfl, Aa, Aa, Aa, Aa, Aa, Aa, trivial⟩, W⟩ fun s o a w H L1 hR => ?_
 obtain ⟨F, W⟩ := hR
 have F : Fr 148 [] [(0, v1), (1, .int .i64 p1), (2, .int .i64 p2), (3, .int .i64 p3), (4, .func (.func 32) #[] #[.pointer (some ⟨q_p4c0, 0, none⟩)]), (10, .bool true), (11, .bool true)] a := F
 have W : Stw ⟨Y, X, w0⟩ [] [row v1 3 (Rp.int .i64) p0] w := W
 rw [Bf] at H
 refine As (Ah (Ab ?_))
 iterate 2 refine ls F W Aa (Af F Aa).q fun a w F W => ?_
 refine ls F W Aa (Fx F Aa Aa Aa).q fun a w F W => ?_
 refine ls F W Aa (Ae F Aa).q fun a w F W => ?_
 refine Ad (Ac (Ah (Ah (Ab ?_))))
 refine ls F W Aa (Af F Aa).q fun a w F W => ?_
 refine ls F W Aa (IV F Aa Aa).q fun a w F W => ?_
 refine Ad (Ac ?_)
 refine AC F Aa (fun hb => ?_) fun hb => ?_
 ·
  have H := AW (BB hb) H
  rw [hb] at F
  clear hb
  refine Ah (Ab ?_)
  iterate 4 refine ls F W Aa (Af F Aa).q fun a w F W => ?_
  obtain ⟨x1, h1, H⟩ := Al H
  refine BO (Ml := []) (Zl := [row v1 3 (Rp.int .i64) p0]) (M := []) (Z := []) (β := Unit) (rv := fun x => .tuple #[]) (MM := fun x => []) (ZZ := fun x => [row v1 3 (Rp.int .i64) x1]) F W R9 Aa Aa (fun hL => DN _ _ w (v1) q_p4c0 (v2) p0 p1 p2 p4c0 _ h1 (W.roX h_v2 (fun g hg => LX hg)) (At.reX (Ml := []) (Zl := [row v1 3 (Rp.int .i64) p0]) (M := []) (Z := []) a_q_p4c0 W) hL) fun x a w F W => ?_
  have W : Stw ⟨Y, X, w0⟩ [] [row v1 3 (Rp.int .i64) x1] w := W
  refine Ad (Ac (Az (AU (A3 (AU (A3 ?_))))))
  have H := L1 _ H
  have H := AX H
  subst H
  refine HU (.inl Aa) F Aa ?_
  exact ⟨(), Aa, W⟩
 have H := AV (BD hb) H
 rw [hb] at F
 clear hb
 exact nomatch H
theorem RC : Has Try.prog 52 := ⟨fun args w => Aj Try.func52 rfl (by decide) args w⟩
noncomputable def Bb (p0 : List Int) (p1c0 : List Nat) : Option (List Int) := (Cg (IntKind.u64.wrap (p0.length : Int))).bind fun x1 => (A6 p0 0 (p0.length : Int) x1 p1c0).bind fun x2 => some x2
theorem E7 (Y : Nat → Prop) (X : List Nat) (w0 : World) (v1 : Value) (q_p1c0 : Nat) (v2 : Value) (p0 : List Int) (p1c0 : List Nat) (r : List Int) (H : Bb p0 p1c0 = some r) (h_v2 : Sl w0 (NX X) (Rp.flt .f64) v2 p1c0) (a_q_p1c0 : At ⟨Y, X, w0⟩ q_p1c0 0 [v2]) (hL : Stw ⟨Y, X, w0⟩ [] [row v1 3 (Rp.int .i64) p0] w0) :
    Calls Try.prog 31 #[v1, .func (.func 32) #[] #[.pointer (some ⟨q_p1c0, 0, none⟩)]] w0 fun e w' => ∃ x : Unit, e = .returned (.tuple #[]) ∧ Stw ⟨Y, X, w0⟩ [] [row v1 3 (Rp.int .i64) r] w' := by
 refine enter Try.func31 Aa Try.ntmps31 Aa fun a F => ?_
 have W := hL
 unfold Bb at H
 refine Ah (Ab ?_)
 refine ls F W Aa (Af F Aa).q fun a w F W => ?_
 refine ls F W Aa (Br (r := (Rp.int .i64)) (l := p0) Jd Aa F Aa (Av 0 Aa)).q fun a w F W => ?_
 refine ls F W Aa (Ae F Aa).q fun a w F W => ?_
 refine Ad (Ac (Ab ?_))
 iterate 3 refine ls F W Aa (Af F Aa).q fun a w F W => ?_
 refine ls F W Aa (DQ MU Kt F Aa).q fun a w F W => ?_
 obtain ⟨x1, h1, H⟩ := Al H
 refine ls F W Aa (AZ (v := Value.int .i64 x1) F Ra Aa (fun w W => FQ any w (IntKind.u64.wrap (p0.length : Int)) _ h1)) fun a w F W => ?_
 refine ls F W Aa (Af F Aa).q fun a w F W => ?_
 obtain ⟨x2, h2, H⟩ := Al H
 refine BO (Ml := []) (Zl := [row v1 3 (Rp.int .i64) p0]) (M := []) (Z := []) (β := Unit) (rv := fun x => .tuple #[]) (MM := fun x => []) (ZZ := fun x => [row v1 3 (Rp.int .i64) x2]) F W RC Aa Aa (fun hL => EK _ _ w (v1) q_p1c0 (v2) p0 0 (p0.length : Int) x1 p1c0 _ h2 (W.roX h_v2 (fun g hg => LX hg)) (At.reX (Ml := []) (Zl := [row v1 3 (Rp.int .i64) p0]) (M := []) (Z := []) a_q_p1c0 W) hL) fun x a w F W => ?_
 have W : Stw ⟨Y, X, w0⟩ [] [row v1 3 (Rp.int .i64) x2] w := W
 refine Ad ?_
 have H := AX H
 subst H
 refine HU (.inr Aa) F Aa ?_
 exact ⟨(), Aa, W⟩
theorem NJ : type_of% Try.underlying71 := Try.underlying71
theorem Gv : type_of% Try.underlying74 := Try.underlying74
theorem Ry : Has Try.prog 31 := ⟨fun args w => Aj Try.func31 rfl (by decide) args w⟩
theorem Re : Bt Try.prog 74 [.int .i64 0, .int .i64 0, .int .i64 0] [(0, 1), (1, 1), (2, 1)] := ⟨⟨.agg #[.int .i64 0, .int .i64 0, .int .i64 0], by kernel_rfl, rfl⟩, ⟨_, Gv, fun w => by kernel_rfl⟩⟩
theorem Ql : (Try.prog.info? 74).bind (·.zero) = some (.agg #[.int .i64 0, .int .i64 0, .int .i64 0]) := by kernel_rfl
abbrev CD : Rp (Int × Int × Int) := (Rp.pair (Rp.int .i64) (Rp.pair (Rp.int .i64) (Rp.int .i64)))
def RF (a : Int × Int × Int) : List Value := [.int .i64 a.1, .int .i64 a.2.1, .int .i64 a.2.2]
theorem Oj : Fl CD RF := (Fl.pair Fl.int (Fl.pair Fl.int Fl.int))
theorem MP : Et Try.prog 71 74 3 24 := Et.of NJ (by kernel_rfl) (by kernel_rfl) (by kernel_rfl) (by decide)
theorem Nc : Ty Try.prog 74 true 3 := ⟨by kernel_rfl, by kernel_rfl⟩
def Cf (p0 : Int) : Bool := decide (p0 ≠ p0)
theorem FR (Y : Nat → Prop) (w0 : World)  (p0 : Int) (r : Bool) (H : Cf p0 = r)  :
    Calls Try.prog 81 #[.int .i64 p0] w0 fun e w' => e = .returned (.bool r) ∧ Below w0.heap.size w0 w' := by
 refine enter Try.func81 Aa Try.ntmps81 Aa fun a F => ?_
 have W := Stw.start Y w0
 unfold Cf at H
 refine Ah (Ab ?_)
 refine ls F W Aa (Ae F Aa).q fun a w F W => ?_
 refine Ad (Ac (Ah (Ab ?_)))
 iterate 2 refine ls F W Aa (Af F Aa).q fun a w F W => ?_
 refine ls F W Aa (Nz F Aa Aa).q fun a w F W => ?_
 refine ls F W Aa (Ae F Aa).q fun a w F W => ?_
 refine Ad (Ac (Az ?_))
 subst H
 refine A0 (.inl Aa) F W Aa (Au F Aa) ?_
 exact ⟨rfl, W.done⟩
theorem Q7 : Has Try.prog 81 := ⟨fun args w => Aj Try.func81 rfl (by decide) args w⟩
def Cn (p0 : Int) (p1 : Int) : Int := (if (Cf p0) = true then (if (Cf p1) = true then 0 else (-1)) else (if (Cf p1) = true then 1 else (if p0 < p1 then (-1) else (if p1 < p0 then 1 else 0))))
theorem GV (Y : Nat → Prop) (w0 : World)  (p0 : Int) (p1 : Int) (r : Int) (H : Cn p0 p1 = r)  :
    Calls Try.prog 57 #[.int .i64 p0, .int .i64 p1] w0 fun e w' => e = .returned (.int .i64 r) ∧ Below w0.heap.size w0 w' := by
 refine enter Try.func57 Aa Try.ntmps57 Aa fun a F => ?_
 have W := Stw.start Y w0
 unfold Cn at H
 refine Ah (Ab ?_)
 refine ls F W Aa (Ae F Aa).q fun a w F W => ?_
 refine Ad (Ac (Ah (Ab ?_)))
 refine ls F W Aa (Af F Aa).q fun a w F W => ?_
 refine ls F W Aa (AZ (v := Value.bool (Cf p0)) F Q7 Aa (fun w W => FR any w p0 _ Aa)) fun a w F W => ?_
 refine ls F W Aa (Ae F Aa).q fun a w F W => ?_
 refine Ad (Ac (Ah (Ab ?_)))
 refine ls F W Aa (Af F Aa).q fun a w F W => ?_
 refine ls F W Aa (AZ (v := Value.bool (Cf p1)) F Q7 Aa (fun w W => FR any w p1 _ Aa)) fun a w F W => ?_
 refine ls F W Aa (Ae F Aa).q fun a w F W => ?_
 refine Ad (Ac (Ah (Ah (Ab ?_))))
 refine ls F W Aa (Af F Aa).q fun a w F W => ?_
 refine Ad (Ac ?_)
 refine AC F Aa (fun hb => ?_) fun hb => ?_
 ·
  have H := AW hb H
  rw [hb] at F
  clear hb
  refine Ah (Ah (Ab ?_))
  refine ls F W Aa (Af F Aa).q fun a w F W => ?_
  refine Ad (Ac ?_)
  refine AC F Aa (fun hb => ?_) fun hb => ?_
  ·
   have H := AW hb H
   rw [hb] at F
   clear hb
   refine Ah (Ab ?_)
   refine ls F W Aa (Ae F Aa).q fun a w F W => ?_
   refine Ad (Ac (Az ?_))
   iterate 2 refine AU ?_
   subst H
   refine A0 (.inl Aa) F W Aa (Au F Aa) ?_
   exact ⟨rfl, W.done⟩
  have H := AV (by rw [hb]; decide) H
  rw [hb] at F
  clear hb
  refine Ax (Ac (Ah (Ab ?_)))
  refine ls F W Aa (Ae F Aa).q fun a w F W => ?_
  refine Ad (Ac (Az (AU ?_)))
  subst H
  refine A0 (.inl Aa) F W Aa (Au F Aa) ?_
  exact ⟨rfl, W.done⟩
 have H := AV (by rw [hb]; decide) H
 rw [hb] at F
 clear hb
 refine Ax (Ac (Ah (Ah (Ab ?_))))
 refine ls F W Aa (Af F Aa).q fun a w F W => ?_
 refine Ad (Ac ?_)
 refine AC F Aa (fun hb => ?_) fun hb => ?_
 ·
  have H := AW hb H
  rw [hb] at F
  clear hb
  refine Ah (Ab ?_)
  refine ls F W Aa (Ae F Aa).q fun a w F W => ?_
  refine Ad (Ac (Az (AU ?_)))
  subst H
  refine A0 (.inl Aa) F W Aa (Au F Aa) ?_
  exact ⟨rfl, W.done⟩
 have H := AV (by rw [hb]; decide) H
 rw [hb] at F
 clear hb
 refine Ax (Ac (Ah (Ah (Ab ?_))))
 iterate 2 refine ls F W Aa (Af F Aa).q fun a w F W => ?_
 refine ls F W Aa (Bl F Aa Aa).q fun a w F W => ?_
 refine Ad (Ac ?_)
 refine AC F Aa (fun hb => ?_) fun hb => ?_
 ·
  have H := AW (BB hb) H
  rw [hb] at F
  clear hb
  refine Ah (Ab ?_)
  refine ls F W Aa (Ae F Aa).q fun a w F W => ?_
  refine Ad (Ac (Az (AU ?_)))
  subst H
  refine A0 (.inl Aa) F W Aa (Au F Aa) ?_
  exact ⟨rfl, W.done⟩
 have H := AV (BD hb) H
 rw [hb] at F
 clear hb
 refine Ax (Ac (Ah (Ah (Ab ?_))))
 iterate 2 refine ls F W Aa (Af F Aa).q fun a w F W => ?_
 refine ls F W Aa (DM F Aa Aa).q fun a w F W => ?_
 refine Ad (Ac ?_)
 refine AC F Aa (fun hb => ?_) fun hb => ?_
 ·
  have H := AW (BB hb) H
  rw [hb] at F
  clear hb
  refine Ah (Ab ?_)
  refine ls F W Aa (Ae F Aa).q fun a w F W => ?_
  refine Ad (Ac (Az (AU ?_)))
  subst H
  refine A0 (.inl Aa) F W Aa (Au F Aa) ?_
  exact ⟨rfl, W.done⟩
 have H := AV (BD hb) H
 rw [hb] at F
 clear hb
 refine Ax (Ac (Ah (Ab ?_)))
 refine ls F W Aa (Ae F Aa).q fun a w F W => ?_
 refine Ad (Ac (Az ?_))
 subst H
 refine A0 (.inl Aa) F W Aa (Au F Aa) ?_
 exact ⟨rfl, W.done⟩
theorem Rj : Has Try.prog 57 := ⟨fun args w => Aj Try.func57 rfl (by decide) args w⟩
def DI (p0 : Int × Int × Int) (p1 : Int × Int × Int) : Int := (Cn p0.1 p1.1)
theorem Jn (Y : Nat → Prop) (w0 : World)  (p0 : Int × Int × Int) (p1 : Int × Int × Int) (r : Int) (H : DI p0 p1 = r)  :
    Calls Try.prog 56 #[.agg #[.int .i64 p0.1, .int .i64 p0.2.1, .int .i64 p0.2.2], .agg #[.int .i64 p1.1, .int .i64 p1.2.1, .int .i64 p1.2.2]] w0 fun e w' => e = .returned (.int .i64 r) ∧ Below w0.heap.size w0 w' := by
 refine enter Try.func56 Aa Try.ntmps56 Aa fun a F => ?_
 have W := Stw.start Y w0
 unfold DI at H
 refine Ah (Ab ?_)
 refine DX (cs := [.int .i64 p0.1, .int .i64 p0.2.1, .int .i64 p0.2.2]) F W Aa Aa Aa fun b1 a w F W => ?_
 refine DX (cs := [.int .i64 p1.1, .int .i64 p1.2.1, .int .i64 p1.2.2]) F W Aa Aa Aa fun b2 a w F W => ?_
 refine ls F W Aa (Ae F Aa).q fun a w F W => ?_
 refine Ad (Ac (Ah (Ab ?_)))
 refine ls F W Aa (Ai Gv Aa Aa Aa T3 F Aa 0 Aa).q fun a w F W => ?_
 refine ls F W Aa (An (v := Value.int .i64 p0.1) 1 F Aa Aa T3 Aa).q fun a w F W => ?_
 refine ls F W Aa (Ai Gv Aa Aa Aa T3 F Aa 0 Aa).q fun a w F W => ?_
 refine ls F W Aa (An (v := Value.int .i64 p1.1) 0 F Aa Aa T3 Aa).q fun a w F W => ?_
 refine ls F W Aa (AZ (v := Value.int .i64 (Cn p0.1 p1.1)) F Rj Aa (fun w W => GV any w p0.1 p1.1 _ Aa)) fun a w F W => ?_
 refine ls F W Aa (Ae F Aa).q fun a w F W => ?_
 refine Ad (Ac (Az ?_))
 subst H
 refine A0 (.inl Aa) F W Aa (Au F Aa) ?_
 exact ⟨rfl, W.done⟩
theorem Rm : Has Try.prog 56 := ⟨fun args w => Aj Try.func56 rfl (by decide) args w⟩
noncomputable def AE (p1 : Int) : ((List (Int × Int × Int)) × Int) → Option (((List (Int × Int × Int)) × Int) ⊕ (List (Int × Int × Int)))
  | (x4, x5) => (if p1 < x5 then (ix x4 x5).bind fun x7 => (ix x4 (BN (x5 - 1))).bind fun x8 => some (decide ((DI x7 x8) < 0)) else some false).bind fun x6 => (if x6 = true then (ix x4 (BN (x5 - 1))).bind fun x9 => (ix x4 x5).bind fun x10 => (ix x4 x5).bind fun x11 => (ix (AA x4 x5 x9) (BN (x5 - 1))).bind fun x12 => some (.inl ((AA (AA x4 x5 x9) (BN (x5 - 1)) x10), BN (x5 - 1))) else some (.inr x4))
noncomputable def AD (p1 : Int) (p2 : Int) : ((List (Int × Int × Int)) × Int) → Option (((List (Int × Int × Int)) × Int) ⊕ (List (Int × Int × Int)))
  | (x1, x2) => (if x2 < p2 then (AM (AE p1) (x1, x2)).bind fun x3 => some (.inl (x3, BN (x2 + 1))) else some (.inr x1))
noncomputable def AR (p0 : List (Int × Int × Int)) (p1 : Int) (p2 : Int) : Option (List (Int × Int × Int)) := AM (AD p1 p2) (p0, BN (p1 + 1))
theorem C3 (Y : Nat → Prop) (X : List Nat) (w0 : World) (v1 : Value) (p0 : List (Int × Int × Int)) (p1 : Int) (p2 : Int) (r : (List (Int × Int × Int))) (H : AR p0 p1 p2 = some r) (hL : Stw ⟨Y, X, w0⟩ [] [row v1 74 CD p0] w0) :
    Calls Try.prog 91 #[v1, .int .i64 p1, .int .i64 p2, .func (.func 56) #[] #[]] w0 fun e w' => ∃ x : Unit, e = .returned (.tuple #[]) ∧ Stw ⟨Y, X, w0⟩ [] [row v1 74 CD r] w' := by
 refine enter Try.func91 Aa Try.ntmps91 Aa fun a F => ?_
 have W := hL
 unfold AR at H
 refine Ah (Ab ?_)
 refine ls F W Aa (Af F Aa).q fun a w F W => ?_
 refine ls F W Aa (BQ F Aa Aa Aa).q fun a w F W => ?_
 refine ls F W Aa (Ae F Aa).q fun a w F W => ?_
 refine Ad (Ac (As ?_))
 refine Be H (fun s a w => Fr 53 [] [(0, v1), (1, .int .i64 p1), (2, .int .i64 p2), (3, .func (.func 56) #[] #[]), (8, .int .i64 s.2)] a ∧ Stw ⟨Y, X, w0⟩ [] [row v1 74 CD s.1] w) ⟨F.re ⟨rfl, Aa, Aa, Aa, Aa, trivial⟩, W⟩ fun s o a w H L1 hR => ?_
 obtain ⟨x1, x2⟩ := s
 obtain ⟨F, W⟩ := hR
 have F : Fr 53 [] [(0, v1), (1, .int .i64 p1), (2, .int .i64 p2), (3, .func (.func 56) #[] #[]), (8, .int .i64 x2)] a := F
 have W : Stw ⟨Y, X, w0⟩ [] [row v1 74 CD x1] w := W
 rw [AD] at H
 refine Ah (Ah (Ab ?_))
 iterate 2 refine ls F W Aa (Af F Aa).q fun a w F W => ?_
 refine ls F W Aa (Bl F Aa Aa).q fun a w F W => ?_
 refine Ad (Ac ?_)
 refine AC F Aa (fun hb => ?_) fun hb => ?_
 ·
  have H := AW (BB hb) H
  rw [hb] at F
  clear hb
  refine Ax (Ac ?_)
  obtain ⟨o2, G2, K2⟩ := Al H
  refine AJ (fun a w => ∃ x3 : List (Int × Int × Int), some (x3) = some o2 ∧ Fr 53 [] [(0, v1), (1, .int .i64 p1), (2, .int .i64 p2), (3, .func (.func 56) #[] #[]), (8, .int .i64 x2)] a ∧ Stw ⟨Y, X, w0⟩ [] [row v1 74 CD x3] w) ?_ ?_
  ·
   have H := G2
   clear G2 K2
   refine As (Ah (Ab ?_))
   refine ls F W Aa (Af F Aa).q fun a w F W => ?_
   refine ls F W Aa (Ae F Aa).q fun a w F W => ?_
   refine Ad (Ac (As ?_))
   refine Be H (fun s a w => Fr 53 [] [(0, v1), (1, .int .i64 p1), (2, .int .i64 p2), (3, .func (.func 56) #[] #[]), (8, .int .i64 x2), (9, .int .i64 s.2)] a ∧ Stw ⟨Y, X, w0⟩ [] [row v1 74 CD s.1] w) ⟨F.re ⟨rfl, Aa, Aa, Aa, Aa, Aa, trivial⟩, W⟩ fun s o a w H L3 hR => ?_
   obtain ⟨x4, x5⟩ := s
   obtain ⟨F, W⟩ := hR
   have F : Fr 53 [] [(0, v1), (1, .int .i64 p1), (2, .int .i64 p2), (3, .func (.func 56) #[] #[]), (8, .int .i64 x2), (9, .int .i64 x5)] a := F
   have W : Stw ⟨Y, X, w0⟩ [] [row v1 74 CD x4] w := W
   rw [AE] at H
   refine Ah ?_
   obtain ⟨o4, G4, K4⟩ := Al H
   refine AJ (fun a w => ∃ x6 : Bool, some (x6) = some o4 ∧ Fr 53 [] [(0, v1), (1, .int .i64 p1), (2, .int .i64 p2), (3, .func (.func 56) #[] #[]), (8, .int .i64 x2), (9, .int .i64 x5), (34, .bool x6)] a ∧ Stw ⟨Y, X, w0⟩ [] [row v1 74 CD x4] w) ?_ ?_
   ·
    have H := G4
    clear G4 K4
    refine CF W MO (by kernel_rfl) ?_
    iterate 2 refine qs F Aa (Af F Aa).q fun a F => ?_
    refine qs F Aa (DM F Aa Aa).q fun a F => ?_
    refine qs F Aa (Af F Aa).q fun a F => ?_
    rcases Bool.eq_false_or_eq_true (decide (p1 < x5)) with hb | hb
    ·
     have H := AW (BB hb) H
     rw [hb] at F
     clear hb
     iterate 3 refine Bz F (Ag F Aa Aa Aa Aa) Aa (Ak Aa) (Af F Aa).q fun a F => ?_
     obtain ⟨x7, h1, H⟩ := Al H
     refine Bz F (Ag F Aa Aa Aa Aa) Aa (Ak Aa) (AF (r := CD) MP F Aa Aa (Av 0 Aa) h1).q fun a F => ?_
     refine Bz F (Ag F Aa Aa Aa Aa) Aa (Ak Aa) (Aw (y := Value.agg #[.int .i64 x7.1, .int .i64 x7.2.1, .int .i64 x7.2.2]) (j := 0) (i := x5) F Aa Aa (Av 0 Aa) h1 Oj.to Nc Aa).q fun a F => ?_
     iterate 2 refine Bz F (Ag F Aa Aa Aa Aa) Aa (Ak Aa) (Af F Aa).q fun a F => ?_
     refine Bz F (Ag F Aa Aa Aa Aa) Aa (Ak Aa) (Fx F Aa Aa Aa).q fun a F => ?_
     obtain ⟨x8, h2, H⟩ := Al H
     refine Bz F (Ag F Aa Aa Aa Aa) Aa (Ak Aa) (AF (r := CD) MP F Aa Aa (Av 0 Aa) h2).q fun a F => ?_
     refine Bz F (Ag F Aa Aa Aa Aa) Aa (Ak Aa) (Aw (y := Value.agg #[.int .i64 x8.1, .int .i64 x8.2.1, .int .i64 x8.2.2]) (j := 0) (i := BN (x5 - 1)) F Aa Aa (Av 0 Aa) h2 Oj.to Nc Aa).q fun a F => ?_
     refine Bz F (Ag F Aa Aa Aa Aa) Aa (Ak Aa) (Km (ws := [.agg #[.int .i64 x7.1, .int .i64 x7.2.1, .int .i64 x7.2.2], .agg #[.int .i64 x8.1, .int .i64 x8.2.1, .int .i64 x8.2.2]]) (v := Value.int .i64 (DI x7 x8)) F Rm Aa (fun w W => Jn any w x7 x8 _ Aa)) fun a F => ?_
     refine Bz F (Ag F Aa Aa Aa Aa) Aa (Ak Aa) (Bl F Aa Aa).q fun a F => ?_
     refine qs F Aa (Ao F Aa Aa Aa).q fun a F => ?_
     refine A9 fun w W => ?_
     refine Ac ?_
     exact ⟨_, H, F.re ⟨rfl, Aa, Aa, Aa, Aa, Aa, Aa, trivial⟩, W⟩
    have H := AV (BD hb) H
    rw [hb] at F
    clear hb
    iterate 12 refine CP F (Ca F Aa Aa Aa Aa Aa) Aa Aa fun a F => ?_
    refine qs F Aa (Aq F Aa Aa Aa).q fun a F => ?_
    refine A9 fun w W => ?_
    refine Ac ?_
    exact ⟨_, H, F.re ⟨rfl, Aa, Aa, Aa, Aa, Aa, Aa, trivial⟩, W⟩
   rintro a w ⟨x6, hj, F, W⟩
   have hj := AX hj
   subst hj
   have H := K4
   clear G4 K4
   refine AC F Aa (fun hb => ?_) fun hb => ?_
   ·
    have H := AW hb H
    rw [hb] at F
    clear hb
    refine Ax (Ac (Ah (As ?_)))
    refine Kz [(true, 0), (true, 1), (true, 2), (true, 3), (true, 4), (true, 5), (true, 6), (true, 7), (true, 8), (true, 9), (true, 10), (true, 11), (true, 12), (true, 13), (true, 14), (false, 15), (true, 16), (false, 17)] (CN ⟨Y, X, w0⟩ [] [(some 15, row v1 74 CD x4)]) (fun ch a d v w h => by cases d <;> exact h) MO (by kernel_rfl) W (fun w W => ⟨_, _, W, AQ, (all_cons (fun _ => (.head _)) AQ)⟩) fun w W => ?_
    iterate 4 refine E6 (R := []) F Aa Aa (yC fun M Z hN hZ => Af F Aa) Aa Aa fun a F => ?_
    refine E6 (R := []) F Aa Aa (yC fun M Z hN hZ => Fx F Aa Aa Aa) Aa Aa fun a F => ?_
    iterate 2 refine E6 (R := []) F Aa Aa (yC fun M Z hN hZ => Af F Aa) Aa Aa fun a F => ?_
    refine E6 (R := []) F Aa Aa (yC fun M Z hN hZ => Fx F Aa Aa Aa) Aa Aa fun a F => ?_
    obtain ⟨x9, h3, H⟩ := Al H
    refine E6 (R := []) F Aa Aa (yC fun M Z hN hZ => Eu (r := CD) MP F Aa Aa (HQ W (Av 0 Aa)) h3) Aa Aa fun a F => ?_
    refine E6 (R := [15]) F Aa Aa (yC fun M Z hN hZ => Aw (y := Value.agg #[.int .i64 x9.1, .int .i64 x9.2.1, .int .i64 x9.2.2]) (j := 0) (i := BN (x5 - 1)) F Aa Aa (Hr (hZ ((some 15), row v1 74 CD x4) (.head _) Aa)) h3 Oj.to Nc Aa) (by kernel_rfl) Aa fun a F => ?_
    iterate 2 refine E6 (R := []) F Aa Aa (yC fun M Z hN hZ => Af F Aa) Aa Aa fun a F => ?_
    obtain ⟨x10, h4, H⟩ := Al H
    refine E6 (R := []) F Aa Aa (yC fun M Z hN hZ => Eu (r := CD) MP F Aa Aa (HQ W (Av 0 Aa)) h4) Aa Aa fun a F => ?_
    refine E6 (R := [15]) F Aa Aa (yC fun M Z hN hZ => Aw (y := Value.agg #[.int .i64 x10.1, .int .i64 x10.2.1, .int .i64 x10.2.2]) (j := 0) (i := x5) F Aa Aa (Hr (hZ ((some 15), row v1 74 CD x4) (.head _) Aa)) h4 Oj.to Nc Aa) (by kernel_rfl) Aa fun a F => ?_
    obtain ⟨x11, h5, H⟩ := Al H
    refine E6 (R := []) F Aa Aa (yC fun M Z hN hZ => Eu (r := CD) MP F Aa Aa (HQ W (Av 0 Aa)) h5) Aa Aa fun a F => ?_
    refine O8 Aa ?_
    refine CO (i := x5) (j := 0) (vs := [.int .i64 x9.1, .int .i64 x9.2.1, .int .i64 x9.2.2]) (x' := x9) F W Aa Aa Aa (k := 0) Aa Aa h5 Nc Aa Aa Aa Aa (fun A cs _ => Oj.sto (by rfl) _ _ _) fun w W => ?_
    refine Ik (N2 := []) (NZ2 := []) (N3 := []) (NZ3 := [(some 15, row v1 74 CD x4)]) W Aa Aa AQ (all_cons (fun h => CI (by kernel_rfl) h) AQ) ?_
    obtain ⟨x12, h6, H⟩ := Al H
    refine E6 (R := []) F Aa Aa (yC fun M Z hN hZ => Eu (r := CD) MP F Aa Aa (HQ W (Av 0 Aa)) h6) Aa Aa fun a F => ?_
    refine O8 Aa ?_
    refine CO (i := BN (x5 - 1)) (j := 0) (vs := [.int .i64 x10.1, .int .i64 x10.2.1, .int .i64 x10.2.2]) (x' := x10) F W Aa Aa Aa (k := 0) Aa Aa h6 Nc Aa Aa Aa Aa (fun A cs _ => Oj.sto (by rfl) _ _ _) fun w W => ?_
    refine Ik (N2 := []) (NZ2 := []) (N3 := []) (NZ3 := [(some 15, row v1 74 CD x4)]) W Aa Aa AQ (all_cons (fun h => CI (by kernel_rfl) h) AQ) ?_
    refine NM (AO (Ac (Ab ?_)))
    refine ls F W Aa (Af F Aa).q fun a w F W => ?_
    refine ls F W Aa (Fx F Aa Aa Aa).q fun a w F W => ?_
    refine ls F W Aa (Ae F Aa).q fun a w F W => ?_
    refine Ad (Ac ?_)
    exact ⟨_, H, F.re ⟨rfl, Aa, Aa, Aa, Aa, Aa, trivial⟩, W⟩
   have H := AV (by rw [hb]; decide) H
   rw [hb] at F
   clear hb
   refine Bg ?_
   iterate 2 refine BJ ?_
   refine Bh (AO (Ac ?_))
   have H := L3 _ H
   exact ⟨_, H, F.re ⟨rfl, Aa, Aa, Aa, Aa, trivial⟩, W⟩
  rintro a w ⟨x3, hj, F, W⟩
  have hj := AX hj
  subst hj
  have H := K2
  clear G2 K2
  refine Ab ?_
  refine ls F W Aa (Af F Aa).q fun a w F W => ?_
  refine ls F W Aa (BQ F Aa Aa Aa).q fun a w F W => ?_
  refine ls F W Aa (Ae F Aa).q fun a w F W => ?_
  refine Ad (Ac ?_)
  exact ⟨_, H, F.re ⟨rfl, Aa, Aa, Aa, Aa, trivial⟩, W⟩
 have H := AV (BD hb) H
 rw [hb] at F
 clear hb
 refine Bg ?_
 iterate 2 refine BJ ?_
 refine Bh ?_
 have H := L1 _ H
 have H := AX H
 subst H
 refine HU (.inr Aa) F Aa ?_
 exact ⟨(), Aa, W⟩
theorem Rq : Has Try.prog 91 := ⟨fun args w => Aj Try.func91 rfl (by decide) args w⟩
noncomputable def A5 (p0 : List (Int × Int × Int)) (p1 : Int) (p2 : Int) : Unit → Option (Unit ⊕ (List (Int × Int × Int)))
  | _ => (if (BN (p2 - p1)) ≤ 12 then (AR p0 p1 p2).bind fun x1 => some (.inr x1) else none)
noncomputable def AY (p0 : List (Int × Int × Int)) (p1 : Int) (p2 : Int) (p3 : Int) : Option (List (Int × Int × Int)) := AM (A5 p0 p1 p2) ()
theorem DO (Y : Nat → Prop) (X : List Nat) (w0 : World) (v1 : Value) (p0 : List (Int × Int × Int)) (p1 : Int) (p2 : Int) (p3 : Int) (r : (List (Int × Int × Int))) (H : AY p0 p1 p2 p3 = some r) (hL : Stw ⟨Y, X, w0⟩ [] [row v1 74 CD p0] w0) :
    Calls Try.prog 80 #[v1, .int .i64 p1, .int .i64 p2, .int .i64 p3, .func (.func 56) #[] #[]] w0 fun e w' => ∃ x : Unit, e = .returned (.tuple #[]) ∧ Stw ⟨Y, X, w0⟩ [] [row v1 74 CD r] w' := by
 refine enter Try.func80 Aa Try.ntmps80 Aa fun a F => ?_
 have W := hL
 unfold AY at H
 refine Ah (Ab ?_)
 refine ls F W Aa (Ae F Aa).q fun a w F W => ?_
 refine Ad (Ac (Ah (Ab ?_)))
 refine ls F W Aa (Ae F Aa).q fun a w F W => ?_
 refine Ad (Ac (As ?_))
 refine Be H (fun s a w => Fr 148 [] [(0, v1), (1, .int .i64 p1), (2, .int .i64 p2), (3, .int .i64 p3), (4, .func (.func 56) #[] #[]), (10, .bool true), (11, .bool true)] a ∧ Stw ⟨Y, X, w0⟩ [] [row v1 74 CD p0] w) ⟨F.re ⟨rfl, Aa, Aa, Aa, Aa, Aa, Aa, trivial⟩, W⟩ fun s o a w H L1 hR => ?_
 obtain ⟨F, W⟩ := hR
 have F : Fr 148 [] [(0, v1), (1, .int .i64 p1), (2, .int .i64 p2), (3, .int .i64 p3), (4, .func (.func 56) #[] #[]), (10, .bool true), (11, .bool true)] a := F
 have W : Stw ⟨Y, X, w0⟩ [] [row v1 74 CD p0] w := W
 rw [A5] at H
 refine As (Ah (Ab ?_))
 iterate 2 refine ls F W Aa (Af F Aa).q fun a w F W => ?_
 refine ls F W Aa (Fx F Aa Aa Aa).q fun a w F W => ?_
 refine ls F W Aa (Ae F Aa).q fun a w F W => ?_
 refine Ad (Ac (Ah (Ah (Ab ?_))))
 refine ls F W Aa (Af F Aa).q fun a w F W => ?_
 refine ls F W Aa (IV F Aa Aa).q fun a w F W => ?_
 refine Ad (Ac ?_)
 refine AC F Aa (fun hb => ?_) fun hb => ?_
 ·
  have H := AW (BB hb) H
  rw [hb] at F
  clear hb
  refine Ah (Ab ?_)
  iterate 4 refine ls F W Aa (Af F Aa).q fun a w F W => ?_
  obtain ⟨x1, h1, H⟩ := Al H
  refine BO (Ml := []) (Zl := [row v1 74 CD p0]) (M := []) (Z := []) (β := Unit) (rv := fun x => .tuple #[]) (MM := fun x => []) (ZZ := fun x => [row v1 74 CD x1]) F W Rq Aa Aa (fun hL => C3 _ _ w (v1) p0 p1 p2 _ h1 hL) fun x a w F W => ?_
  have W : Stw ⟨Y, X, w0⟩ [] [row v1 74 CD x1] w := W
  refine Ad (Ac (Az (AU (A3 (AU (A3 ?_))))))
  have H := L1 _ H
  have H := AX H
  subst H
  refine HU (.inl Aa) F Aa ?_
  exact ⟨(), Aa, W⟩
 have H := AV (BD hb) H
 rw [hb] at F
 clear hb
 exact nomatch H
theorem Ro : Has Try.prog 80 := ⟨fun args w => Aj Try.func80 rfl (by decide) args w⟩
noncomputable def AN (p0 : List (Int × Int × Int)) : Option (List (Int × Int × Int)) := (Cg (IntKind.u64.wrap (p0.length : Int))).bind fun x1 => (AY p0 0 (p0.length : Int) x1).bind fun x2 => some x2
theorem Di (Y : Nat → Prop) (X : List Nat) (w0 : World) (v1 : Value) (p0 : List (Int × Int × Int)) (r : (List (Int × Int × Int))) (H : AN p0 = some r) (hL : Stw ⟨Y, X, w0⟩ [] [row v1 74 CD p0] w0) :
    Calls Try.prog 55 #[v1, .func (.func 56) #[] #[]] w0 fun e w' => ∃ x : Unit, e = .returned (.tuple #[]) ∧ Stw ⟨Y, X, w0⟩ [] [row v1 74 CD r] w' := by
 refine enter Try.func55 Aa Try.ntmps55 Aa fun a F => ?_
 have W := hL
 unfold AN at H
 refine Ah (Ab ?_)
 refine ls F W Aa (Af F Aa).q fun a w F W => ?_
 refine ls F W Aa (Br (r := CD) (l := p0) NJ Aa F Aa (Av 0 Aa)).q fun a w F W => ?_
 refine ls F W Aa (Ae F Aa).q fun a w F W => ?_
 refine Ad (Ac (Ab ?_))
 iterate 3 refine ls F W Aa (Af F Aa).q fun a w F W => ?_
 refine ls F W Aa (DQ MU Kt F Aa).q fun a w F W => ?_
 obtain ⟨x1, h1, H⟩ := Al H
 refine ls F W Aa (AZ (v := Value.int .i64 x1) F Ra Aa (fun w W => FQ any w (IntKind.u64.wrap (p0.length : Int)) _ h1)) fun a w F W => ?_
 refine ls F W Aa (Af F Aa).q fun a w F W => ?_
 obtain ⟨x2, h2, H⟩ := Al H
 refine BO (Ml := []) (Zl := [row v1 74 CD p0]) (M := []) (Z := []) (β := Unit) (rv := fun x => .tuple #[]) (MM := fun x => []) (ZZ := fun x => [row v1 74 CD x2]) F W Ro Aa Aa (fun hL => DO _ _ w (v1) p0 0 (p0.length : Int) x1 _ h2 hL) fun x a w F W => ?_
 have W : Stw ⟨Y, X, w0⟩ [] [row v1 74 CD x2] w := W
 refine Ad ?_
 have H := AX H
 subst H
 refine HU (.inr Aa) F Aa ?_
 exact ⟨(), Aa, W⟩
theorem R6 : Has Try.prog 55 := ⟨fun args w => Aj Try.func55 rfl (by decide) args w⟩
noncomputable def Cq (p0 : Int × (List (Int × Int × Int × Int × Int × Int)) × (List (Int × Int))) (p1 : Int) : ((List (Int × Int × Int)) × Int) → Option (((List (Int × Int × Int)) × Int) ⊕ (List (Int × Int × Int)))
  | (x2, x3) => (if x3 < (p0.2.1.length : Int) then ((ix p0.2.1 x3).bind fun x5 => (if p1 = x5.1 then (Hs x2 ([(x5.2.1, x5.2.2.1, x3)] : List (Int × Int × Int))).bind fun x6 => some x6 else (if p1 = x5.2.2.1 then (Hs x2 ([(x5.2.2.2.1, x5.1, x3)] : List (Int × Int × Int))).bind fun x7 => some x7 else some x2))).bind fun x4 => some (.inl (x4, BN (x3 + 1))) else some (.inr x2))
noncomputable def CG (p0 : Int × (List (Int × Int × Int × Int × Int × Int)) × (List (Int × Int))) (p1 : Int) : Option (List (Int × Int × Int)) := (AM (Cq p0 p1) ([], 0)).bind fun x1 => (AN x1).bind fun x8 => some x8
theorem F6 (Y : Nat → Prop) (w0 : World) (v1 : Value) (v2 : Value) (p0 : Int × (List (Int × Int × Int × Int × Int × Int)) × (List (Int × Int))) (p1 : Int) (r : (List (Int × Int × Int))) (H : CG p0 p1 = some r) (h_v1 : Sl w0 (NX []) E5 v1 p0.2.1) (h_v2 : Sl w0 (NX []) Fk v2 p0.2.2) :
    Calls Try.prog 34 #[.agg #[.int .i64 p0.1, v1, v2], .int .i64 p1] w0 fun e w' => ∃ x : Value, e = .returned (x) ∧ Stw ⟨Y, [], w0⟩ [] [row (x) 74 CD r] w' := by
 refine enter Try.func34 Aa Try.ntmps34 Aa fun a F => ?_
 have W := Stw.start Y w0
 unfold CG at H
 refine Ah (Ab ?_)
 refine DX (cs := [.int .i64 p0.1, v1, v2]) F W Aa Aa Aa fun b1 a w F W => ?_
 refine ls F W Aa (Ae F Aa).q fun a w F W => ?_
 refine Ad (Ac (Ah (Ab ?_)))
 refine ls F W Aa (Ae F Aa).q fun a w F W => ?_
 refine Ad (Ac ?_)
 obtain ⟨o1, G1, K1⟩ := Al H
 refine AJ (fun a w => ∃ x1 : List (Int × Int × Int), ∃ v3 : Value, some (x1) = some o1 ∧ Fr 47 [] [(4, .slice none 0 0), (5, v3)] a ∧ Stw ⟨Y, [], w0⟩ [(b1, [.int .i64 p0.1, v1, v2])] [row v3 74 CD x1] w) ?_ ?_
 ·
  have H := G1
  clear G1 K1
  refine Ah (Ab ?_)
  refine ls F W Aa (Ai CA Aa Aa Aa Hu F Aa 1 Aa).q fun a w F W => ?_
  refine ls F W Aa (An (v := v1) 0 F Aa Aa Hu Aa).q fun a w F W => ?_
  refine ls F W Aa (Br (r := E5) (l := p0.2.1) Ic Aa F Aa (Am h_v1)).q fun a w F W => ?_
  refine ls F W Aa (Af F Aa).q fun a w F W => ?_
  refine Ad (Ac (As ?_))
  have W := W.nilRow 74 CD
  refine Be H (fun s a w => ∃ v4 : Value, Fr 47 [] [(1, .int .i64 p1), (4, .slice none 0 0), (5, v4), (9, v1), (10, .int .i64 (p0.2.1.length : Int)), (11, .int .i64 s.2)] a ∧ Stw ⟨Y, [], w0⟩ [(b1, [.int .i64 p0.1, v1, v2])] [row v4 74 CD s.1] w) ⟨(Value.slice none 0 0), F.re ⟨rfl, Aa, Aa, Aa, Aa, Aa, trivial⟩, W⟩ fun s o a w H L2 hR => ?_
  obtain ⟨x2, x3⟩ := s
  obtain ⟨v4, F, W⟩ := hR
  have F : Fr 47 [] [(1, .int .i64 p1), (4, .slice none 0 0), (5, v4), (9, v1), (10, .int .i64 (p0.2.1.length : Int)), (11, .int .i64 x3)] a := F
  have W : Stw ⟨Y, [], w0⟩ [(b1, [.int .i64 p0.1, v1, v2])] [row v4 74 CD x2] w := W
  rw [Cq] at H
  refine Ah (Ab ?_)
  refine ls F W Aa (Bl F Aa Aa).q fun a w F W => ?_
  refine Ad (Ac (Ah ?_))
  refine AC F Aa (fun hb => ?_) fun hb => ?_
  ·
   have H := AW (BB hb) H
   rw [hb] at F
   clear hb
   refine Ax (Ac ?_)
   obtain ⟨o3, G3, K3⟩ := Al H
   refine AJ (fun a w => ∃ x4 : List (Int × Int × Int), ∃ v5 : Value, some (x4) = some o3 ∧ Fr 47 [] [(1, .int .i64 p1), (4, .slice none 0 0), (5, v5), (9, v1), (10, .int .i64 (p0.2.1.length : Int)), (11, .int .i64 x3)] a ∧ Stw ⟨Y, [], w0⟩ [(b1, [.int .i64 p0.1, v1, v2])] [row v5 74 CD x4] w) ?_ ?_
   ·
    have H := G3
    clear G3 K3
    refine As (Ah (Ab ?_))
    refine ls F W Aa (Af F Aa).q fun a w F W => ?_
    obtain ⟨x5, h1, H⟩ := Al H
    refine ls F W Aa (AF (r := E5) Pp F Aa Aa (Am h_v1) h1).q fun a w F W => ?_
    refine ls F W Aa (Aw (y := Value.agg #[.int .i64 x5.1, .int .i64 x5.2.1, .int .i64 x5.2.2.1, .int .i64 x5.2.2.2.1, .int .i64 x5.2.2.2.2.1, .int .i64 x5.2.2.2.2.2]) (j := 0) (i := x3) F Aa Aa (Am h_v1) h1 PG.to NR Aa).q fun a w F W => ?_
    refine Ck (cs := [.int .i64 0, .int .i64 0, .int .i64 0, .int .i64 0, .int .i64 0, .int .i64 0]) F W Aa PZ Aa fun b2 a w F W => ?_
    refine ls F W Aa (Ae F Aa).q fun a w F W => ?_
    refine Cs (vs := [.int .i64 x5.1, .int .i64 x5.2.1, .int .i64 x5.2.2.1, .int .i64 x5.2.2.2.1, .int .i64 x5.2.2.2.2.1, .int .i64 x5.2.2.2.2.2]) (M' := [(b2, [.int .i64 x5.1, .int .i64 x5.2.1, .int .i64 x5.2.2.1, .int .i64 x5.2.2.2.1, .int .i64 x5.2.2.2.2.1, .int .i64 x5.2.2.2.2.2]), (b1, [.int .i64 p0.1, v1, v2])]) 0 F W Aa Aa Aa NR Aa Aa Aa Aa Aa fun w W => ?_
    refine Ad (Ac (Ah (Ab ?_)))
    refine ls F W Aa (Af F Aa).q fun a w F W => ?_
    refine Ad (Ac (As (Ah (Ab ?_))))
    refine ls F W Aa (Ai CR Aa Aa Aa T3 F Aa 0 Aa).q fun a w F W => ?_
    refine ls F W Aa (An (v := Value.int .i64 x5.1) 0 F Aa Aa T3 Aa).q fun a w F W => ?_
    refine ls F W Aa (CM F Aa Aa).q fun a w F W => ?_
    refine ls F W Aa (Ae F Aa).q fun a w F W => ?_
    refine Ad (Ac ?_)
    refine AC F Aa (fun hb => ?_) fun hb => ?_
    ·
     have H := AW (BB hb) H
     rw [hb] at F
     clear hb
     refine Ab ?_
     refine ls F W Aa (Af F Aa).q fun a w F W => ?_
     refine ls F W Aa (Ai CR Aa Aa Aa T3 F Aa 1 Aa).q fun a w F W => ?_
     refine ls F W Aa (An (v := Value.int .i64 x5.2.1) 0 F Aa Aa T3 Aa).q fun a w F W => ?_
     refine ls F W Aa (Ai CR Aa Aa Aa T3 F Aa 2 Aa).q fun a w F W => ?_
     refine ls F W Aa (An (v := Value.int .i64 x5.2.2.1) 0 F Aa Aa T3 Aa).q fun a w F W => ?_
     refine ls F W Aa (Af F Aa).q fun a w F W => ?_
     refine ls F W Aa (DU (v := Value.agg #[.int .i64 x5.2.1, .int .i64 x5.2.2.1, .int .i64 x3]) Re F Aa Aa Aa).q fun a w F W => ?_
     refine D9 (z := Value.agg #[.int .i64 0, .int .i64 0, .int .i64 0]) (cs := [.int .i64 x5.2.1, .int .i64 x5.2.2.1, .int .i64 x3]) CD ([(x5.2.1, x5.2.2.1, x3)] : List (Int × Int × Int)) F W Aa MP Ql Aa Aa Aa Aa Aa Aa (Oj.repL _ _ ([(x5.2.1, x5.2.2.1, x3)] : List (Int × Int × Int))) fun v6 a w F W => ?_
     obtain ⟨x6, h2, H⟩ := Al H
     refine Dr (r := CD) (i := 1) F W Aa MP Aa Aa Aa Aa (DA W 0 Aa) h2 Aa fun v7 a w F W => ?_
     have W : Stw ⟨Y, [], w0⟩ [(b2, [.int .i64 x5.1, .int .i64 x5.2.1, .int .i64 x5.2.2.1, .int .i64 x5.2.2.2.1, .int .i64 x5.2.2.2.2.1, .int .i64 x5.2.2.2.2.2]), (b1, [.int .i64 p0.1, v1, v2])] [row v7 74 CD x6, row v6 74 CD ([(x5.2.1, x5.2.2.1, x3)] : List (Int × Int × Int))] w := W
     refine ls F W Aa (Ae F Aa).q fun a w F W => ?_
     refine Ad ?_
     iterate 2 refine AO ?_
     refine Ac ?_
     have W := W.frontM (i := 1) Aa Aa
     have W := W.sub (M' := [(b1, [.int .i64 p0.1, v1, v2])]) (Z' := [row v7 74 CD x6]) (List.Sublist.cons_cons _ (List.nil_sublist _)) (List.Sublist.cons_cons _ (List.nil_sublist _))
     exact ⟨_, (v7), H, F.re ⟨rfl, Aa, Aa, Aa, Aa, Aa, trivial⟩, W⟩
    have H := AV (BD hb) H
    rw [hb] at F
    clear hb
    refine Ah (Ab ?_)
    refine ls F W Aa (Ai CR Aa Aa Aa T3 F Aa 2 Aa).q fun a w F W => ?_
    refine ls F W Aa (An (v := Value.int .i64 x5.2.2.1) 0 F Aa Aa T3 Aa).q fun a w F W => ?_
    refine ls F W Aa (CM F Aa Aa).q fun a w F W => ?_
    refine ls F W Aa (Ae F Aa).q fun a w F W => ?_
    refine Ad (Ac ?_)
    refine AC F Aa (fun hb => ?_) fun hb => ?_
    ·
     have H := AW (BB hb) H
     rw [hb] at F
     clear hb
     refine Ab ?_
     refine ls F W Aa (Af F Aa).q fun a w F W => ?_
     refine ls F W Aa (Ai CR Aa Aa Aa T3 F Aa 3 Aa).q fun a w F W => ?_
     refine ls F W Aa (An (v := Value.int .i64 x5.2.2.2.1) 0 F Aa Aa T3 Aa).q fun a w F W => ?_
     refine ls F W Aa (Ai CR Aa Aa Aa T3 F Aa 0 Aa).q fun a w F W => ?_
     refine ls F W Aa (An (v := Value.int .i64 x5.1) 0 F Aa Aa T3 Aa).q fun a w F W => ?_
     refine ls F W Aa (Af F Aa).q fun a w F W => ?_
     refine ls F W Aa (DU (v := Value.agg #[.int .i64 x5.2.2.2.1, .int .i64 x5.1, .int .i64 x3]) Re F Aa Aa Aa).q fun a w F W => ?_
     refine D9 (z := Value.agg #[.int .i64 0, .int .i64 0, .int .i64 0]) (cs := [.int .i64 x5.2.2.2.1, .int .i64 x5.1, .int .i64 x3]) CD ([(x5.2.2.2.1, x5.1, x3)] : List (Int × Int × Int)) F W Aa MP Ql Aa Aa Aa Aa Aa Aa (Oj.repL _ _ ([(x5.2.2.2.1, x5.1, x3)] : List (Int × Int × Int))) fun v8 a w F W => ?_
     obtain ⟨x7, h3, H⟩ := Al H
     refine Dr (r := CD) (i := 1) F W Aa MP Aa Aa Aa Aa (DA W 0 Aa) h3 Aa fun v9 a w F W => ?_
     have W : Stw ⟨Y, [], w0⟩ [(b2, [.int .i64 x5.1, .int .i64 x5.2.1, .int .i64 x5.2.2.1, .int .i64 x5.2.2.2.1, .int .i64 x5.2.2.2.2.1, .int .i64 x5.2.2.2.2.2]), (b1, [.int .i64 p0.1, v1, v2])] [row v9 74 CD x7, row v8 74 CD ([(x5.2.2.2.1, x5.1, x3)] : List (Int × Int × Int))] w := W
     refine ls F W Aa (Ae F Aa).q fun a w F W => ?_
     refine Ad ?_
     iterate 2 refine AO ?_
     refine Ac ?_
     have W := W.frontM (i := 1) Aa Aa
     have W := W.sub (M' := [(b1, [.int .i64 p0.1, v1, v2])]) (Z' := [row v9 74 CD x7]) (List.Sublist.cons_cons _ (List.nil_sublist _)) (List.Sublist.cons_cons _ (List.nil_sublist _))
     exact ⟨_, (v9), H, F.re ⟨rfl, Aa, Aa, Aa, Aa, Aa, trivial⟩, W⟩
    have H := AV (BD hb) H
    rw [hb] at F
    clear hb
    refine Ax ?_
    iterate 2 refine AO ?_
    refine Ac ?_
    have W := W.frontM (i := 1) Aa Aa
    have W := W.sub (M' := [(b1, [.int .i64 p0.1, v1, v2])]) (Z' := [row v4 74 CD x2]) (List.Sublist.cons_cons _ (List.nil_sublist _)) (List.Sublist.refl _)
    exact ⟨_, (v4), H, F.re ⟨rfl, Aa, Aa, Aa, Aa, Aa, trivial⟩, W⟩
   rintro a w ⟨x4, v5, hj, F, W⟩
   have hj := AX hj
   subst hj
   have H := K3
   clear G3 K3
   refine Ab ?_
   refine ls F W Aa (BQ F Aa Aa Aa).q fun a w F W => ?_
   refine ls F W Aa (Af F Aa).q fun a w F W => ?_
   refine Ad (Ac ?_)
   exact ⟨_, H, (v5), F.re ⟨rfl, Aa, Aa, Aa, Aa, Aa, trivial⟩, W⟩
  have H := AV (BD hb) H
  rw [hb] at F
  clear hb
  refine Bg ?_
  iterate 2 refine BJ ?_
  refine Bh (Ac ?_)
  have H := L2 _ H
  exact ⟨_, (v4), H, F.re ⟨rfl, Aa, trivial⟩, W⟩
 rintro a w ⟨x1, v3, hj, F, W⟩
 have hj := AX hj
 subst hj
 have H := K1
 clear G1 K1
 refine Ah (Ab ?_)
 refine ls F W Aa (Af F Aa).q fun a w F W => ?_
 obtain ⟨x8, h4, H⟩ := Al H
 refine BO (Ml := []) (Zl := [row v3 74 CD x1]) (M := [(b1, [.int .i64 p0.1, v1, v2])]) (Z := []) (β := Unit) (rv := fun x => .tuple #[]) (MM := fun x => []) (ZZ := fun x => [row v3 74 CD x8]) F W R6 Aa Aa (fun hL => Di _ _ w (v3) x1 _ h4 hL) fun x a w F W => ?_
 have W : Stw ⟨Y, [], w0⟩ [(b1, [.int .i64 p0.1, v1, v2])] [row v3 74 CD x8] w := W
 refine Ad (Ac (Ah (Ab ?_)))
 refine ls F W Aa (Af F Aa).q fun a w F W => ?_
 refine ls F W Aa (Ae F Aa).q fun a w F W => ?_
 refine Ad (Ac (Az ?_))
 have H := AX H
 subst H
 refine A0 (.inl Aa) F W Aa (Au F Aa) ?_
 have W := W.sub (M' := []) (Z' := [row v3 74 CD x8]) (List.nil_sublist _) (List.Sublist.refl _)
 exact ⟨(v3), Aa, W⟩
theorem QQ : Has Try.prog 34 := ⟨fun args w => Aj Try.func34 rfl (by decide) args w⟩
def B2 (p0 : List Nat) (p1 : Int) : Bool := (decide (0 ≤ p1) && decide (p1 < (p0.length : Int)))
theorem F3 (Y : Nat → Prop) (w0 : World) (v1 : Value) (p0 : List Nat) (p1 : Int) (r : Bool) (H : B2 p0 p1 = r) (h_v1 : Sl w0 (NX []) (Rp.flt .f64) v1 p0) :
    Calls Try.prog 43 #[v1, .int .i64 p1] w0 fun e w' => e = .returned (.bool r) ∧ Below w0.heap.size w0 w' := by
 refine enter Try.func43 Aa Try.ntmps43 Aa fun a F => ?_
 have W := Stw.start Y w0
 unfold B2 at H
 refine Ah (Ab ?_)
 refine ls F W Aa (Ae F Aa).q fun a w F W => ?_
 refine Ad (Ac ?_)
 refine AJ (fun a w => Fr 13 [] [(4, .bool (decide (0 ≤ p1) && decide (p1 < (p0.length : Int))))] a ∧ Stw ⟨Y, [], w0⟩ [] [] w) ?_ ?_
 ·
  refine Ab ?_
  refine ls F W Aa (Af F Aa).q fun a w F W => ?_
  refine ls F W Aa (Fa F Aa Aa).q fun a w F W => ?_
  refine ls F W Aa (Af F Aa).q fun a w F W => ?_
  rcases Bool.eq_false_or_eq_true (decide (0 ≤ p1)) with hb0 | hb0
  ·
   rw [hb0] at F
   iterate 2 refine AB F W (Ag F Aa Aa Aa Aa) Aa (Ak Aa) (Af F Aa).q fun a w F W => ?_
   refine AB F W (Ag F Aa Aa Aa Aa) Aa (Ak Aa) (Br (r := (Rp.flt .f64)) (l := p0) JQ Aa F Aa (Am h_v1)).q fun a w F W => ?_
   refine AB F W (Ag F Aa Aa Aa Aa) Aa (Ak Aa) (Bl F Aa Aa).q fun a w F W => ?_
   refine ls F W Aa (Ao F Aa Aa Aa).q fun a w F W => ?_
   refine ls F W Aa (Ae F Aa).q fun a w F W => ?_
   refine Ad (Ac ?_)
   exact ⟨F.re ⟨(by show some (Value.bool (decide (p1 < (p0.length : Int)))) = some (Value.bool (decide (0 ≤ p1) && decide (p1 < (p0.length : Int)))); try rw [hb0]; all_goals simp only [Bool.not_true, Bool.not_false, Bool.true_and, Bool.false_and, Bool.true_or, Bool.false_or, Bool.and_true, Bool.or_false, cond_true, cond_false]), trivial⟩, W⟩
  rw [hb0] at F
  iterate 4 refine Ct F Aa Aa Aa Aa Aa Aa Aa fun a F => ?_
  refine ls F W Aa (Aq F Aa Aa Aa).q fun a w F W => ?_
  refine ls F W Aa (Ae F Aa).q fun a w F W => ?_
  refine Ad (Ac ?_)
  exact ⟨F.re ⟨(by show some (Value.bool false) = some (Value.bool (decide (0 ≤ p1) && decide (p1 < (p0.length : Int)))); try rw [hb0]; all_goals simp only [Bool.not_true, Bool.not_false, Bool.true_and, Bool.false_and, Bool.true_or, Bool.false_or, Bool.and_true, Bool.or_false, cond_true, cond_false]), trivial⟩, W⟩
 rintro a w ⟨F, W⟩
 refine Az ?_
 subst H
 refine A0 (.inl Aa) F W Aa (Au F Aa) ?_
 exact ⟨rfl, W.done⟩
theorem QV : Has Try.prog 43 := ⟨fun args w => Aj Try.func43 rfl (by decide) args w⟩
noncomputable def Dv (p0 : List Nat) (p1 : Int) : Option Bool := (if (B2 p0 p1) = true then (ix p0 p1).bind fun x2 => (CV 1).bind fun x3 => some (Kr x2 x3) else some false).bind fun x1 => some x1
theorem GC (Y : Nat → Prop) (w0 : World) (v1 : Value) (p0 : List Nat) (p1 : Int) (r : Bool) (H : Dv p0 p1 = some r) (h_v1 : Sl w0 (NX []) (Rp.flt .f64) v1 p0) :
    Calls Try.prog 22 #[v1, .int .i64 p1] w0 fun e w' => e = .returned (.bool r) ∧ Below w0.heap.size w0 w' := by
 refine enter Try.func22 Aa Try.ntmps22 Aa fun a F => ?_
 have W := Stw.start Y w0
 unfold Dv at H
 refine Ah (Ab ?_)
 refine ls F W Aa (Ae F Aa).q fun a w F W => ?_
 refine Ad (Ac ?_)
 obtain ⟨o1, G1, K1⟩ := Al H
 refine AJ (fun a w => ∃ x1 : Bool, some (x1) = some o1 ∧ Fr 16 [] [(4, .bool x1)] a ∧ Stw ⟨Y, [], w0⟩ [] [] w) ?_ ?_
 ·
  have H := G1
  clear G1 K1
  refine CF W MO (by kernel_rfl) ?_
  iterate 2 refine qs F Aa (Af F Aa).q fun a F => ?_
  refine qs F Aa (AZ (v := Value.bool (B2 p0 p1)) F QV Aa (fun w W => F3 any w (v1) p0 p1 _ Aa (((Am h_v1) : D6 _ _ _ _ _ _) w W).nx)) fun a F => ?_
  refine qs F Aa (Af F Aa).q fun a F => ?_
  rcases Bool.eq_false_or_eq_true (B2 p0 p1) with hb | hb
  ·
   have H := AW hb H
   rw [hb] at F
   clear hb
   iterate 2 refine Bz F (Ag F Aa Aa Aa Aa) Aa (Ak Aa) (Af F Aa).q fun a F => ?_
   obtain ⟨x2, h1, H⟩ := Al H
   refine Bz F (Ag F Aa Aa Aa Aa) Aa (Ak Aa) (AF (r := (Rp.flt .f64)) Hy F Aa Aa (Am h_v1) h1).q fun a F => ?_
   refine Bz F (Ag F Aa Aa Aa Aa) Aa (Ak Aa) (Aw (y := Value.float .f64 x2) (j := 0) (i := p1) F Aa Aa (Am h_v1) h1 Fl.flt.to Ih Aa).q fun a F => ?_
   obtain ⟨x3, h2, H⟩ := Al H
   refine Bz F (Ag F Aa Aa Aa Aa) Aa (Ak Aa) (AZ (v := Value.float .f64 x3) F P9 Aa (fun w W => EV any w 1 _ h2)) fun a F => ?_
   refine Bz F (Ag F Aa Aa Aa Aa) Aa (Ak Aa) (JZ F Aa Aa).q fun a F => ?_
   refine qs F Aa (Ao F Aa Aa Aa).q fun a F => ?_
   refine qs F Aa (Ae F Aa).q fun a F => ?_
   refine A9 fun w W => ?_
   refine Ac ?_
   exact ⟨_, H, F.re ⟨rfl, trivial⟩, W⟩
  have H := AV (by rw [hb]; decide) H
  rw [hb] at F
  clear hb
  iterate 6 refine CP F (Ca F Aa Aa Aa Aa Aa) Aa Aa fun a F => ?_
  refine qs F Aa (Aq F Aa Aa Aa).q fun a F => ?_
  refine qs F Aa (Ae F Aa).q fun a F => ?_
  refine A9 fun w W => ?_
  refine Ac ?_
  exact ⟨_, H, F.re ⟨rfl, trivial⟩, W⟩
 rintro a w ⟨x1, hj, F, W⟩
 have hj := AX hj
 subst hj
 have H := K1
 clear G1 K1
 refine Az ?_
 have H := AX H
 subst H
 refine A0 (.inl Aa) F W Aa (Au F Aa) ?_
 exact ⟨rfl, W.done⟩
theorem Qv : Has Try.prog 22 := ⟨fun args w => Aj Try.func22 rfl (by decide) args w⟩
def Bn (p0 : Nat) : Nat := (if (BZ p0) = true then 9221120237041090561 else p0)
theorem Gy (Y : Nat → Prop) (w0 : World)  (p0 : Nat) (r : Nat) (H : Bn p0 = r)  :
    Calls Try.prog 45 #[.float .f64 p0] w0 fun e w' => e = .returned (.float .f64 r) ∧ Below w0.heap.size w0 w' := by
 refine enter Try.func45 Aa Try.ntmps45 Aa fun a F => ?_
 have W := Stw.start Y w0
 unfold Bn at H
 refine Ah (Ab ?_)
 refine ls F W Aa (Ae F Aa).q fun a w F W => ?_
 refine Ad (Ac (Ah (Ah (Ab ?_))))
 refine ls F W Aa (Af F Aa).q fun a w F W => ?_
 refine ls F W Aa (AZ (v := Value.bool (BZ p0)) F Rc Aa (fun w W => Ha any w p0 _ Aa)) fun a w F W => ?_
 refine Ad (Ac ?_)
 refine AC F Aa (fun hb => ?_) fun hb => ?_
 ·
  have H := AW hb H
  rw [hb] at F
  clear hb
  refine Ah (Ab ?_)
  refine ls F W Aa (Jq (v := Value.float .f64 9221120237041090561) F Qs Aa (fun w => rfl)).q fun a w F W => ?_
  refine ls F W Aa (Ae F Aa).q fun a w F W => ?_
  refine Ad (Ac (Az (AU ?_)))
  subst H
  refine A0 (.inl Aa) F W Aa (Au F Aa) ?_
  exact ⟨rfl, W.done⟩
 have H := AV (by rw [hb]; decide) H
 rw [hb] at F
 clear hb
 refine Ax (Ac (Ah (Ab ?_)))
 refine ls F W Aa (Af F Aa).q fun a w F W => ?_
 refine ls F W Aa (Ae F Aa).q fun a w F W => ?_
 refine Ad (Ac (Az ?_))
 subst H
 refine A0 (.inl Aa) F W Aa (Au F Aa) ?_
 exact ⟨rfl, W.done⟩
theorem IG {a b : Nat} (h : FX a = FX b) : Bn a = Bn b := by
  refine Qd (f := fun a : Nat => Bn a) (fun a h => ?_) h
  first
  | (have e1 : BZ a = true := by unfold BZ; rw [LR h]; rfl
     have e2 : BZ 9221120237041090561 = true := by unfold BZ; rw [LR (by decide)]; rfl
     show Bn a = Bn 9221120237041090561
     unfold Bn
     simp only [e1, e2, if_true]; done)
  | exact I7 h
theorem Q0 : Has Try.prog 45 := ⟨fun args w => Aj Try.func45 rfl (by decide) args w⟩
def A4 (p0 : Nat) (p1 : Nat) : Nat := (if (JP (Bn (FK p0 p1)) 0) = true then 0 else (Bn (FK p0 p1)))
theorem FI (Y : Nat → Prop) (w0 : World)  (p0 : Nat) (p1 : Nat) (r : Nat) (H : A4 p0 p1 = r)  :
    Calls Try.prog 35 #[.float .f64 p0, .float .f64 p1] w0 fun e w' => e = .returned (.float .f64 r) ∧ Below w0.heap.size w0 w' := by
 refine enter Try.func35 Aa Try.ntmps35 Aa fun a F => ?_
 have W := Stw.start Y w0
 unfold A4 at H
 refine Ah (Ab ?_)
 refine ls F W Aa (Ae F Aa).q fun a w F W => ?_
 refine Ad (Ac (Ah (Ab ?_)))
 iterate 2 refine ls F W Aa (Af F Aa).q fun a w F W => ?_
 refine Px F W Aa Aa Aa fun b1 a w c_b1 F W => ?_
 refine ls F W Aa (AZ (v := Value.float .f64 (Bn b1)) F Q0 Aa (fun w W => Gy any w b1 _ Aa)) fun a w F W => ?_
 rw [IG c_b1] at F
 refine ls F W Aa (Ae F Aa).q fun a w F W => ?_
 refine Ad (Ac (Ah (Ah (Ab ?_))))
 refine ls F W Aa (Af F Aa).q fun a w F W => ?_
 refine ls F W Aa (LD F Aa Aa).q fun a w F W => ?_
 refine Ad (Ac ?_)
 refine AC F Aa (fun hb => ?_) fun hb => ?_
 ·
  have H := AW hb H
  rw [hb] at F
  clear hb
  refine Ah (Ab ?_)
  refine ls F W Aa (Ae F Aa).q fun a w F W => ?_
  refine Ad (Ac (Az (AU ?_)))
  subst H
  refine A0 (.inl Aa) F W Aa (Au F Aa) ?_
  exact ⟨rfl, W.done⟩
 have H := AV (by rw [hb]; decide) H
 rw [hb] at F
 clear hb
 refine Ax (Ac (Ah (Ab ?_)))
 refine ls F W Aa (Af F Aa).q fun a w F W => ?_
 refine ls F W Aa (Ae F Aa).q fun a w F W => ?_
 refine Ad (Ac (Az ?_))
 subst H
 refine A0 (.inl Aa) F W Aa (Au F Aa) ?_
 exact ⟨rfl, W.done⟩
theorem Qz : Has Try.prog 35 := ⟨fun args w => Aj Try.func35 rfl (by decide) args w⟩
noncomputable def B3 (p2 : Int) (x4 : List Nat) : (List Int × Int) → Option ((List Int × Int) ⊕ (List Int))
  | (x7, x8) => (if x8 < ((AA x4 p2 0).length : Int) then (Hs x7 ([x8] : List Int)).bind fun x9 => some (.inl (x9, BN (x8 + 1))) else some (.inr x7))
noncomputable def BC (p1 : List Nat) (x13 : List Int) (x14 : Int) (x16 : (List (Int × Int × Int))) : (Int × List Nat) → Option ((Int × List Nat) ⊕ ((List Int × List Nat) ⊕ (List Nat)))
  | (x17, x18) => (if x17 < (x16.length : Int) then ((ix x16 x17).bind fun x20 => (Dv p1 x20.2.2).bind fun x21 => (if x21 = true then (ix x18 x20.2.1).bind fun x22 => (ix p1 x20.2.2).bind fun x23 => (ix x18 x14).bind fun x24 => (IC x22 (A4 x23 x24)).bind fun x25 => (ix x18 x20.2.1).bind fun x26 => some (AA x18 x20.2.1 x25) else some x18)).bind fun x19 => some (.inl (BN (x17 + 1), x19)) else (EM x13 1 (x13.length : Int)).bind fun x27 => some (.inr (.inl (x27, x18))))
noncomputable def B4 (p0 : Int × (List (Int × Int × Int × Int × Int × Int)) × (List (Int × Int))) (p1 : List Nat) : (List Int × List Nat) → Option ((List Int × List Nat) ⊕ (List Nat))
  | (x11, x12) => (if 0 < (x11.length : Int) then (Bb x11 x12).bind fun x13 => (ix x13 0).bind fun x14 => (EM x13 1 (x13.length : Int)).bind fun x15 => (CG p0 x14).bind fun x16 => AM (BC p1 x13 x14 x16) (0, x12) else some (.inr x12))
noncomputable def B6 (p0 : Int × (List (Int × Int × Int × Int × Int × Int)) × (List (Int × Int))) (p1 : List Nat) (p2 : Int) : Option (List Nat) := ((Cr p0 p1).bind fun x2 => (if (!x2) = true then some true else (if p2 < 0 then some true else some (decide (p0.1 ≤ p2))))).bind fun x1 => (if x1 = true then some ([] : List Nat) else (CV 1).bind fun x3 => (AL ([x3] : List Nat) p0.1).bind fun x4 => (ix x4 p2).bind fun x5 => (AM (B3 p2 x4) ([], 0)).bind fun x6 => (AM (B4 p0 p1) (x6, (AA x4 p2 0))).bind fun x10 => (Qu x10).bind fun x28 => some x10)
theorem Fc (Y : Nat → Prop) (w0 : World) (v1 : Value) (v2 : Value) (v3 : Value) (p0 : Int × (List (Int × Int × Int × Int × Int × Int)) × (List (Int × Int))) (p1 : List Nat) (p2 : Int) (r : List Nat) (H : B6 p0 p1 p2 = some r) (h_v1 : Sl w0 (NX []) E5 v1 p0.2.1) (h_v2 : Sl w0 (NX []) Fk v2 p0.2.2) (h_v3 : Sl w0 (NX []) (Rp.flt .f64) v3 p1) :
    Calls Try.prog 12 #[.agg #[.int .i64 p0.1, v1, v2], v3, .int .i64 p2] w0 fun e w' => ∃ x : {x : Value // NN x (r)}, e = .returned (x.1) ∧ Stw ⟨Y, [], w0⟩ [] [row (x.1) 56 (Rp.flt .f64) r] w' := by
 refine enter Try.func12 Aa Try.ntmps12 Aa fun a F => ?_
 have W := Stw.start Y w0
 unfold B6 at H
 refine Ah (Ab ?_)
 refine DX (cs := [.int .i64 p0.1, v1, v2]) F W Aa Aa Aa fun b1 a w F W => ?_
 refine ls F W Aa (Ae F Aa).q fun a w F W => ?_
 refine Ad (Ac (Ah ?_))
 obtain ⟨o1, G1, K1⟩ := Al H
 refine AJ (fun a w => ∃ x1 : Bool, some (x1) = some o1 ∧ Fr 90 [] [(1, v3), (2, .int .i64 p2), (3, .pointer (some ⟨b1, 0, none⟩)), (6, .slice none 0 0), (26, .bool x1)] a ∧ Stw ⟨Y, [], w0⟩ [(b1, [.int .i64 p0.1, v1, v2])] [] w) ?_ ?_
 ·
  have H := G1
  clear G1 K1
  refine Ab ?_
  refine ls F W Aa (An (v := Value.agg #[.int .i64 p0.1, v1, v2]) 0 F Aa Aa I2 Aa).q fun a w F W => ?_
  refine ls F W Aa (Af F Aa).q fun a w F W => ?_
  obtain ⟨x2, h1, H⟩ := Al H
  refine ls F W Aa (AZ (v := Value.bool x2) F Qw Aa (fun w W => Fi any w (v1) (v2) (v3) p0 p1 _ h1 (((Am h_v1) : D6 _ _ _ _ _ _) w W).nx (((Am h_v2) : D6 _ _ _ _ _ _) w W).nx (((Am h_v3) : D6 _ _ _ _ _ _) w W).nx)) fun a w F W => ?_
  refine ls F W Aa (FP F Aa).q fun a w F W => ?_
  refine ls F W Aa (Af F Aa).q fun a w F W => ?_
  rcases Bool.eq_false_or_eq_true (!x2) with hb | hb
  ·
   have H := AW hb H
   rw [hb] at F
   clear hb
   iterate 2 refine Ct F Aa Aa Aa Aa Aa Aa Aa fun a F => ?_
   refine ls F W Aa (Ao F Aa Aa Aa).q fun a w F W => ?_
   refine ls F W Aa (Af F Aa).q fun a w F W => ?_
   iterate 4 refine Ct F Aa Aa Aa Aa Aa Aa Aa fun a F => ?_
   refine ls F W Aa (Ao F Aa Aa Aa).q fun a w F W => ?_
   refine Ad (Ac ?_)
   exact ⟨_, H, F.re ⟨rfl, Aa, Aa, Aa, Aa, trivial⟩, W⟩
  have H := AV (by rw [hb]; decide) H
  rw [hb] at F
  clear hb
  refine AB F W (Ag F Aa Aa Aa Aa) Aa (Ak Aa) (Af F Aa).q fun a w F W => ?_
  refine AB F W (Ag F Aa Aa Aa Aa) Aa (Ak Aa) (Bl F Aa Aa).q fun a w F W => ?_
  refine ls F W Aa (Aq F Aa Aa Aa).q fun a w F W => ?_
  refine ls F W Aa (Af F Aa).q fun a w F W => ?_
  rcases Bool.eq_false_or_eq_true (decide (p2 < 0)) with hb | hb
  ·
   have H := AW (BB hb) H
   rw [hb] at F
   clear hb
   iterate 4 refine Ct F Aa Aa Aa Aa Aa Aa Aa fun a F => ?_
   refine ls F W Aa (Ao F Aa Aa Aa).q fun a w F W => ?_
   refine Ad (Ac ?_)
   exact ⟨_, H, F.re ⟨rfl, Aa, Aa, Aa, Aa, trivial⟩, W⟩
  have H := AV (BD hb) H
  rw [hb] at F
  clear hb
  refine AB F W (Ag F Aa Aa Aa Aa) Aa (Ak Aa) (Af F Aa).q fun a w F W => ?_
  refine AB F W (Ag F Aa Aa Aa Aa) Aa (Ak Aa) (Ai CA Aa Aa Aa T3 F Aa 0 Aa).q fun a w F W => ?_
  refine AB F W (Ag F Aa Aa Aa Aa) Aa (Ak Aa) (An (v := Value.int .i64 p0.1) 0 F Aa Aa T3 Aa).q fun a w F W => ?_
  refine AB F W (Ag F Aa Aa Aa Aa) Aa (Ak Aa) (Fa F Aa Aa).q fun a w F W => ?_
  refine ls F W Aa (Aq F Aa Aa Aa).q fun a w F W => ?_
  refine Ad (Ac ?_)
  exact ⟨_, H, F.re ⟨rfl, Aa, Aa, Aa, Aa, trivial⟩, W⟩
 rintro a w ⟨x1, hj, F, W⟩
 have hj := AX hj
 subst hj
 have H := K1
 clear G1 K1
 refine AC F Aa (fun hb => ?_) fun hb => ?_
 ·
  have H := AW hb H
  rw [hb] at F
  clear hb
  refine Ah (Ab ?_)
  refine ls F W Aa (Ae F Aa).q fun a w F W => ?_
  refine Ad (Ac (Az (AU ?_)))
  have H := AX H
  subst H
  refine A0 (.inl Aa) F W Aa (Au F Aa) ?_
  have W := W.nilRow 56 (Rp.flt .f64)
  have W := W.sub (M' := []) (Z' := [row (Value.slice none 0 0) 56 (Rp.flt .f64) ([])]) (List.nil_sublist _) (List.Sublist.refl _)
  exact ⟨⟨Value.slice none 0 0, fun h => nomatch h⟩, Aa, W⟩
 have H := AV (by rw [hb]; decide) H
 rw [hb] at F
 clear hb
 refine Ax (Ac (Ah ?_))
 obtain ⟨x3, h2, H⟩ := Al H
 obtain ⟨x4, h3, H⟩ := Al H
 refine O6 (fun a w => ∃ b2 : Nat, ∃ v4 : Value, ∃ v5 : Value, Fr 90 [] [(1, v3), (2, .int .i64 p2), (3, .pointer (some ⟨b1, 0, none⟩)), (6, .slice none 0 0), (7, .pointer (some ⟨b2, 0, none⟩)), (26, .bool false), (27, .float .f64 x3), (28, v4), (29, .pointer (some ⟨b1, 0, none⟩)), (30, .int .i64 p0.1), (31, v5)] a ∧ Stw ⟨Y, [], w0⟩ [(b2, [v5]), (b1, [.int .i64 p0.1, v1, v2])] [row v5 56 (Rp.flt .f64) x4, Lf v4 (Rp.flt .f64) ([x3] : List Nat)] w) ?_ ?_
 ·
  refine Oy (PT.st 2 (PT.st 3 (PT.alt 0 (PT.alt 1 (PT.alt 4 (PT.alt 5 (PT.alt 6 PT.done PT.stop) PT.stop) (PT.alt 5 (PT.alt 4 (PT.alt 6 PT.done PT.stop) PT.stop) PT.stop)) (PT.alt 5 (PT.alt 1 (PT.alt 4 (PT.alt 6 PT.done PT.stop) PT.stop) PT.stop) PT.stop)) (PT.alt 5 (PT.alt 0 (PT.alt 1 (PT.alt 4 (PT.alt 6 PT.done PT.stop) PT.stop) PT.stop) PT.stop) PT.stop)))) (CN ⟨Y, [], w0⟩ [(some 4, b1, [.int .i64 p0.1, v1, v2])] []) (fun ch a d v w h => by cases d <;> exact h) MO (by kernel_rfl) W (fun w W => ⟨_, _, W, (all_cons (fun _ => (.head _)) AQ), AQ⟩) fun w W => ?_
  refine P3 (R := []) F Aa Aa (yC fun M Z hN hZ => Ai CA Aa Aa Aa T3 F Aa 0 Aa) Aa Aa fun a F => ?_
  refine P3 (R := [4]) F Aa Aa (yC fun M Z hN hZ => Oh (cs := [.int .i64 p0.1, v1, v2]) (v := Value.int .i64 p0.1) F Aa (hN ((some 4), b1, [.int .i64 p0.1, v1, v2]) (.head _) Aa) T3 Aa) (by kernel_rfl) Aa fun a F => ?_
  refine Lw Aa ?_ ?_
  ·
   refine ls F W Aa (AZ (v := Value.float .f64 x3) F P9 Aa (fun w W => EV any w 1 _ h2)) fun a w F W => ?_
   refine Cu (N2 := []) (NZ2 := []) (N3 := [(some 4, b1, [.int .i64 p0.1, v1, v2])]) (NZ3 := []) W Aa Aa (all_cons (fun _ => (.head _)) AQ) AQ ?_
   refine Lw Aa ?_ ?_
   ·
    refine D9 (z := Value.float .f64 0) (cs := [.float .f64 x3]) (Rp.flt .f64) ([x3] : List Nat) F W Aa Hy Pj Aa Aa Aa Aa Aa Aa (Fl.flt.repL _ _ ([x3] : List Nat)) fun v4 a w F W => ?_
    refine Cu (N2 := []) (NZ2 := []) (N3 := [(some 4, b1, [.int .i64 p0.1, v1, v2])]) (NZ3 := []) W Aa Aa (all_cons (fun _ => (.head _)) AQ) AQ ?_
    refine Lw Aa ?_ ?_
    ·
     have W := W.freeze
     refine BO (Ml := []) (Zl := []) (M := [(b1, [.int .i64 p0.1, v1, v2])]) (Z := [Lf v4 (Rp.flt .f64) ([x3] : List Nat)]) (β := Value) (rv := fun x => x) (MM := fun x => []) (ZZ := fun x => [row x 56 (Rp.flt .f64) x4]) F W Qq Aa Aa (fun hL => Bm _ w (v4) ([x3] : List Nat) p0.1 _ h3 (W.item (i := 0) Aa)) fun x a w F W => ?_
     obtain ⟨v5, rfl⟩ : ∃ y, y = x := ⟨x, rfl⟩
     have W : Stw ⟨Y, [], w0⟩ [(b1, [.int .i64 p0.1, v1, v2])] [row v5 56 (Rp.flt .f64) x4, Lf v4 (Rp.flt .f64) ([x3] : List Nat)] w := W
     refine Cu (N2 := []) (NZ2 := []) (N3 := [(some 4, b1, [.int .i64 p0.1, v1, v2])]) (NZ3 := []) W Aa Aa (all_cons (fun h => CI (by kernel_rfl) h) AQ) AQ ?_
     refine Gl Aa ?_
     refine Ck (cs := [.slice none 0 0]) F W Aa Qp Aa fun b2 a w F W => ?_
     refine Cu (N2 := []) (NZ2 := []) (N3 := [(some 4, b1, [.int .i64 p0.1, v1, v2])]) (NZ3 := []) W Aa Aa (all_cons (fun h => CI (by kernel_rfl) h) AQ) AQ ?_
     refine Gl Aa ?_
     refine Hp (M' := [(b2, [v5]), (b1, [.int .i64 p0.1, v1, v2])]) 0 F W Aa Aa Aa Mc (W.one (k := 0) Aa) Aa Aa fun w W => ?_
     refine Cu (N2 := []) (NZ2 := []) (N3 := [(some 4, b1, [.int .i64 p0.1, v1, v2])]) (NZ3 := []) W Aa Aa (all_cons (fun h => CI (by kernel_rfl) h) AQ) AQ ?_
     have W := W.frontZ (i := 1) Aa Aa
     have W := W.frontZ (i := 1) Aa Aa
     have W := W.frontM (i := 1) Aa Aa
     have W := W.frontM (i := 1) Aa Aa
     refine JT ?_
     exact ⟨b2, v4, v5, F.re ⟨rfl, Aa, Aa, Aa, Aa, Aa, Aa, Aa, Aa, Aa, Aa, trivial⟩, W⟩
    refine Lw Aa ?_ ?_
    ·
     refine Ck (cs := [.slice none 0 0]) F W Aa Qp Aa fun b2 a w F W => ?_
     refine Cu (N2 := []) (NZ2 := []) (N3 := [(some 4, b1, [.int .i64 p0.1, v1, v2])]) (NZ3 := []) W Aa Aa (all_cons (fun _ => (.tail _ (.head _))) AQ) AQ ?_
     refine Gl Aa ?_
     have W := W.freeze
     refine BO (Ml := []) (Zl := []) (M := [(b2, [.slice none 0 0]), (b1, [.int .i64 p0.1, v1, v2])]) (Z := [Lf v4 (Rp.flt .f64) ([x3] : List Nat)]) (β := Value) (rv := fun x => x) (MM := fun x => []) (ZZ := fun x => [row x 56 (Rp.flt .f64) x4]) F W Qq Aa Aa (fun hL => Bm _ w (v4) ([x3] : List Nat) p0.1 _ h3 (W.item (i := 0) Aa)) fun x a w F W => ?_
     obtain ⟨v5, rfl⟩ : ∃ y, y = x := ⟨x, rfl⟩
     have W : Stw ⟨Y, [], w0⟩ [(b2, [.slice none 0 0]), (b1, [.int .i64 p0.1, v1, v2])] [row v5 56 (Rp.flt .f64) x4, Lf v4 (Rp.flt .f64) ([x3] : List Nat)] w := W
     refine Cu (N2 := []) (NZ2 := []) (N3 := [(some 4, b1, [.int .i64 p0.1, v1, v2])]) (NZ3 := []) W Aa Aa (all_cons (fun h => CI (by kernel_rfl) h) AQ) AQ ?_
     refine Gl Aa ?_
     refine Hp (M' := [(b2, [v5]), (b1, [.int .i64 p0.1, v1, v2])]) 0 F W Aa Aa Aa Mc (W.one (k := 0) Aa) Aa Aa fun w W => ?_
     refine Cu (N2 := []) (NZ2 := []) (N3 := [(some 4, b1, [.int .i64 p0.1, v1, v2])]) (NZ3 := []) W Aa Aa (all_cons (fun h => CI (by kernel_rfl) h) AQ) AQ ?_
     have W := W.frontZ (i := 1) Aa Aa
     have W := W.frontZ (i := 1) Aa Aa
     have W := W.frontM (i := 1) Aa Aa
     have W := W.frontM (i := 1) Aa Aa
     refine JT ?_
     exact ⟨b2, v4, v5, F.re ⟨rfl, Aa, Aa, Aa, Aa, Aa, Aa, Aa, Aa, Aa, Aa, trivial⟩, W⟩
    exact trivial
   refine Lw Aa ?_ ?_
   ·
    refine Ck (cs := [.slice none 0 0]) F W Aa Qp Aa fun b2 a w F W => ?_
    refine Cu (N2 := []) (NZ2 := []) (N3 := [(some 4, b1, [.int .i64 p0.1, v1, v2])]) (NZ3 := []) W Aa Aa (all_cons (fun _ => (.tail _ (.head _))) AQ) AQ ?_
    refine Gl Aa ?_
    refine D9 (z := Value.float .f64 0) (cs := [.float .f64 x3]) (Rp.flt .f64) ([x3] : List Nat) F W Aa Hy Pj Aa Aa Aa Aa Aa Aa (Fl.flt.repL _ _ ([x3] : List Nat)) fun v4 a w F W => ?_
    refine Cu (N2 := []) (NZ2 := []) (N3 := [(some 4, b1, [.int .i64 p0.1, v1, v2])]) (NZ3 := []) W Aa Aa (all_cons (fun _ => (.tail _ (.head _))) AQ) AQ ?_
    refine Gl Aa ?_
    have W := W.freeze
    refine BO (Ml := []) (Zl := []) (M := [(b2, [.slice none 0 0]), (b1, [.int .i64 p0.1, v1, v2])]) (Z := [Lf v4 (Rp.flt .f64) ([x3] : List Nat)]) (β := Value) (rv := fun x => x) (MM := fun x => []) (ZZ := fun x => [row x 56 (Rp.flt .f64) x4]) F W Qq Aa Aa (fun hL => Bm _ w (v4) ([x3] : List Nat) p0.1 _ h3 (W.item (i := 0) Aa)) fun x a w F W => ?_
    obtain ⟨v5, rfl⟩ : ∃ y, y = x := ⟨x, rfl⟩
    have W : Stw ⟨Y, [], w0⟩ [(b2, [.slice none 0 0]), (b1, [.int .i64 p0.1, v1, v2])] [row v5 56 (Rp.flt .f64) x4, Lf v4 (Rp.flt .f64) ([x3] : List Nat)] w := W
    refine Cu (N2 := []) (NZ2 := []) (N3 := [(some 4, b1, [.int .i64 p0.1, v1, v2])]) (NZ3 := []) W Aa Aa (all_cons (fun h => CI (by kernel_rfl) h) AQ) AQ ?_
    refine Gl Aa ?_
    refine Hp (M' := [(b2, [v5]), (b1, [.int .i64 p0.1, v1, v2])]) 0 F W Aa Aa Aa Mc (W.one (k := 0) Aa) Aa Aa fun w W => ?_
    refine Cu (N2 := []) (NZ2 := []) (N3 := [(some 4, b1, [.int .i64 p0.1, v1, v2])]) (NZ3 := []) W Aa Aa (all_cons (fun h => CI (by kernel_rfl) h) AQ) AQ ?_
    have W := W.frontZ (i := 1) Aa Aa
    have W := W.frontZ (i := 1) Aa Aa
    have W := W.frontM (i := 1) Aa Aa
    have W := W.frontM (i := 1) Aa Aa
    refine JT ?_
    exact ⟨b2, v4, v5, F.re ⟨rfl, Aa, Aa, Aa, Aa, Aa, Aa, Aa, Aa, Aa, Aa, trivial⟩, W⟩
   exact trivial
  refine Lw Aa ?_ ?_
  ·
   refine Ck (cs := [.slice none 0 0]) F W Aa Qp Aa fun b2 a w F W => ?_
   refine Cu (N2 := []) (NZ2 := []) (N3 := [(some 4, b1, [.int .i64 p0.1, v1, v2])]) (NZ3 := []) W Aa Aa (all_cons (fun _ => (.tail _ (.head _))) AQ) AQ ?_
   refine Gl Aa ?_
   refine ls F W Aa (AZ (v := Value.float .f64 x3) F P9 Aa (fun w W => EV any w 1 _ h2)) fun a w F W => ?_
   refine Cu (N2 := []) (NZ2 := []) (N3 := [(some 4, b1, [.int .i64 p0.1, v1, v2])]) (NZ3 := []) W Aa Aa (all_cons (fun _ => (.tail _ (.head _))) AQ) AQ ?_
   refine Gl Aa ?_
   refine D9 (z := Value.float .f64 0) (cs := [.float .f64 x3]) (Rp.flt .f64) ([x3] : List Nat) F W Aa Hy Pj Aa Aa Aa Aa Aa Aa (Fl.flt.repL _ _ ([x3] : List Nat)) fun v4 a w F W => ?_
   refine Cu (N2 := []) (NZ2 := []) (N3 := [(some 4, b1, [.int .i64 p0.1, v1, v2])]) (NZ3 := []) W Aa Aa (all_cons (fun _ => (.tail _ (.head _))) AQ) AQ ?_
   refine Gl Aa ?_
   have W := W.freeze
   refine BO (Ml := []) (Zl := []) (M := [(b2, [.slice none 0 0]), (b1, [.int .i64 p0.1, v1, v2])]) (Z := [Lf v4 (Rp.flt .f64) ([x3] : List Nat)]) (β := Value) (rv := fun x => x) (MM := fun x => []) (ZZ := fun x => [row x 56 (Rp.flt .f64) x4]) F W Qq Aa Aa (fun hL => Bm _ w (v4) ([x3] : List Nat) p0.1 _ h3 (W.item (i := 0) Aa)) fun x a w F W => ?_
   obtain ⟨v5, rfl⟩ : ∃ y, y = x := ⟨x, rfl⟩
   have W : Stw ⟨Y, [], w0⟩ [(b2, [.slice none 0 0]), (b1, [.int .i64 p0.1, v1, v2])] [row v5 56 (Rp.flt .f64) x4, Lf v4 (Rp.flt .f64) ([x3] : List Nat)] w := W
   refine Cu (N2 := []) (NZ2 := []) (N3 := [(some 4, b1, [.int .i64 p0.1, v1, v2])]) (NZ3 := []) W Aa Aa (all_cons (fun h => CI (by kernel_rfl) h) AQ) AQ ?_
   refine Gl Aa ?_
   refine Hp (M' := [(b2, [v5]), (b1, [.int .i64 p0.1, v1, v2])]) 0 F W Aa Aa Aa Mc (W.one (k := 0) Aa) Aa Aa fun w W => ?_
   refine Cu (N2 := []) (NZ2 := []) (N3 := [(some 4, b1, [.int .i64 p0.1, v1, v2])]) (NZ3 := []) W Aa Aa (all_cons (fun h => CI (by kernel_rfl) h) AQ) AQ ?_
   have W := W.frontZ (i := 1) Aa Aa
   have W := W.frontZ (i := 1) Aa Aa
   have W := W.frontM (i := 1) Aa Aa
   have W := W.frontM (i := 1) Aa Aa
   refine JT ?_
   exact ⟨b2, v4, v5, F.re ⟨rfl, Aa, Aa, Aa, Aa, Aa, Aa, Aa, Aa, Aa, Aa, trivial⟩, W⟩
  exact trivial
 rintro a w ⟨b2, v4, v5, F, W⟩
 refine Ac (Ah (Ab ?_))
 refine ls F W Aa (An (v := v5) 0 F Aa Aa Mc Aa).q fun a w F W => ?_
 refine ls F W Aa (Af F Aa).q fun a w F W => ?_
 obtain ⟨x5, h4, H⟩ := Al H
 refine ls F W Aa (AF (r := (Rp.flt .f64)) Hy F Aa Aa (Av 0 Aa) h4).q fun a w F W => ?_
 refine CO (i := p2) (j := 0) (vs := [.float .f64 0]) (x' := 0) F W Aa Aa Aa (k := 0) Aa Aa h4 Ih Aa Aa Aa Aa (fun A cs _ => Fl.flt.sto (by rfl) _ _ _) fun w W => ?_
 refine Ad (Ac (Ah (Ab ?_)))
 refine ls F W Aa (Ae F Aa).q fun a w F W => ?_
 refine Ad (Ac ?_)
 obtain ⟨o2, G2, K2⟩ := Al H
 refine AJ (fun a w => ∃ x6 : List Int, ∃ v6 : Value, some (x6) = some o2 ∧ Fr 90 [] [(1, v3), (3, .pointer (some ⟨b1, 0, none⟩)), (6, .slice none 0 0), (7, .pointer (some ⟨b2, 0, none⟩)), (8, v6)] a ∧ Stw ⟨Y, [], w0⟩ [(b2, [v5]), (b1, [.int .i64 p0.1, v1, v2])] [row v6 3 (Rp.int .i64) x6, row v5 56 (Rp.flt .f64) (AA x4 p2 0)] w) ?_ ?_
 ·
  have H := G2
  clear G2 K2
  refine Ah (Ab ?_)
  refine ls F W Aa (An (v := v5) 0 F Aa Aa Mc Aa).q fun a w F W => ?_
  refine ls F W Aa (Br (r := (Rp.flt .f64)) (l := (AA x4 p2 0)) JQ Aa F Aa (Av 0 Aa)).q fun a w F W => ?_
  refine ls F W Aa (Af F Aa).q fun a w F W => ?_
  refine Ad (Ac (As ?_))
  have W := W.nilRow 3 (Rp.int .i64)
  have W := W.frontZ (i := 1) Aa Aa
  have W := W.frontZ (i := 1) Aa Aa
  have W := W.frontM (i := 1) Aa Aa
  have W := W.frontM (i := 1) Aa Aa
  have W := W.sub (M' := [(b2, [v5]), (b1, [.int .i64 p0.1, v1, v2])]) (Z' := [row (Value.slice none 0 0) 3 (Rp.int .i64) ([]), row v5 56 (Rp.flt .f64) (AA x4 p2 0)]) (List.Sublist.refl _) (List.Sublist.cons_cons _ (List.Sublist.cons_cons _ (List.nil_sublist _)))
  refine Be H (fun s a w => ∃ v7 : Value, Fr 90 [] [(1, v3), (3, .pointer (some ⟨b1, 0, none⟩)), (6, .slice none 0 0), (7, .pointer (some ⟨b2, 0, none⟩)), (8, v7), (36, .int .i64 ((AA x4 p2 0).length : Int)), (37, .int .i64 s.2)] a ∧ Stw ⟨Y, [], w0⟩ [(b2, [v5]), (b1, [.int .i64 p0.1, v1, v2])] [row v7 3 (Rp.int .i64) s.1, row v5 56 (Rp.flt .f64) (AA x4 p2 0)] w) ⟨(Value.slice none 0 0), F.re ⟨rfl, Aa, Aa, Aa, Aa, Aa, Aa, trivial⟩, W⟩ fun s o a w H L3 hR => ?_
  obtain ⟨x7, x8⟩ := s
  obtain ⟨v7, F, W⟩ := hR
  have F : Fr 90 [] [(1, v3), (3, .pointer (some ⟨b1, 0, none⟩)), (6, .slice none 0 0), (7, .pointer (some ⟨b2, 0, none⟩)), (8, v7), (36, .int .i64 ((AA x4 p2 0).length : Int)), (37, .int .i64 x8)] a := F
  have W : Stw ⟨Y, [], w0⟩ [(b2, [v5]), (b1, [.int .i64 p0.1, v1, v2])] [row v7 3 (Rp.int .i64) x7, row v5 56 (Rp.flt .f64) (AA x4 p2 0)] w := W
  rw [B3] at H
  refine Ah (Ab ?_)
  refine ls F W Aa (Bl F Aa Aa).q fun a w F W => ?_
  refine Ad (Ac (Ah ?_))
  refine AC F Aa (fun hb => ?_) fun hb => ?_
  ·
   have H := AW (BB hb) H
   rw [hb] at F
   clear hb
   refine Ax (Ac (Ah (As (Ah (Ab ?_)))))
   refine ls F W Aa (Af F Aa).q fun a w F W => ?_
   refine ls F W Aa (Ae F Aa).q fun a w F W => ?_
   refine Ad (Ac (Ab ?_))
   iterate 2 refine ls F W Aa (Af F Aa).q fun a w F W => ?_
   refine D9 (z := Value.int .i64 0) (cs := [.int .i64 x8]) (Rp.int .i64) ([x8] : List Int) F W Aa FM Z3 Aa Aa Aa Aa Aa Aa (Fl.int.repL _ _ ([x8] : List Int)) fun v8 a w F W => ?_
   obtain ⟨x9, h5, H⟩ := Al H
   refine Dr (r := (Rp.int .i64)) (i := 1) F W Aa FM Aa Aa Aa Aa (DA W 0 Aa) h5 Aa fun v9 a w F W => ?_
   have W : Stw ⟨Y, [], w0⟩ [(b2, [v5]), (b1, [.int .i64 p0.1, v1, v2])] [row v9 3 (Rp.int .i64) x9, row v8 3 (Rp.int .i64) ([x8] : List Int), row v5 56 (Rp.flt .f64) (AA x4 p2 0)] w := W
   refine ls F W Aa (Ae F Aa).q fun a w F W => ?_
   refine Ad (AO (Ac (Ab ?_)))
   refine ls F W Aa (BQ F Aa Aa Aa).q fun a w F W => ?_
   refine ls F W Aa (Af F Aa).q fun a w F W => ?_
   refine Ad (Ac ?_)
   have W := W.frontZ (i := 2) Aa Aa
   have W := W.frontZ (i := 1) Aa Aa
   have W := W.frontM (i := 1) Aa Aa
   have W := W.frontM (i := 1) Aa Aa
   have W := W.sub (M' := [(b2, [v5]), (b1, [.int .i64 p0.1, v1, v2])]) (Z' := [row v9 3 (Rp.int .i64) x9, row v5 56 (Rp.flt .f64) (AA x4 p2 0)]) (List.Sublist.refl _) (List.Sublist.cons_cons _ (List.Sublist.cons_cons _ (List.nil_sublist _)))
   exact ⟨_, H, (v9), F.re ⟨rfl, Aa, Aa, Aa, Aa, Aa, Aa, trivial⟩, W⟩
  have H := AV (BD hb) H
  rw [hb] at F
  clear hb
  refine Bg ?_
  iterate 2 refine BJ ?_
  refine Bh (Ac ?_)
  have W := W.frontZ (i := 1) Aa Aa
  have W := W.frontZ (i := 1) Aa Aa
  have W := W.frontM (i := 1) Aa Aa
  have W := W.frontM (i := 1) Aa Aa
  have H := L3 _ H
  exact ⟨_, (v7), H, F.re ⟨rfl, Aa, Aa, Aa, Aa, trivial⟩, W⟩
 rintro a w ⟨x6, v6, hj, F, W⟩
 have hj := AX hj
 subst hj
 have H := K2
 clear G2 K2
 obtain ⟨o4, G4, K4⟩ := Al H
 refine AJ (fun a w => ∃ x10 : List Nat, some (x10) = some o4 ∧ Fr 90 [] [(6, .slice none 0 0), (7, .pointer (some ⟨b2, 0, none⟩))] a ∧ Stw ⟨Y, [], w0⟩ [(b2, [v5]), (b1, [.int .i64 p0.1, v1, v2])] [row v5 56 (Rp.flt .f64) x10] w) ?_ ?_
 ·
  have H := G4
  clear G4 K4
  refine As ?_
  have W := W.frontZ (i := 1) Aa Aa
  have W := W.frontZ (i := 1) Aa Aa
  have W := W.frontM (i := 1) Aa Aa
  have W := W.frontM (i := 1) Aa Aa
  refine Be H (fun s a w => ∃ v10 : Value, Fr 90 [] [(1, v3), (3, .pointer (some ⟨b1, 0, none⟩)), (6, .slice none 0 0), (7, .pointer (some ⟨b2, 0, none⟩)), (8, v10)] a ∧ Stw ⟨Y, [], w0⟩ [(b2, [v5]), (b1, [.int .i64 p0.1, v1, v2])] [row v10 3 (Rp.int .i64) s.1, row v5 56 (Rp.flt .f64) s.2] w) ⟨(v6), F.re ⟨rfl, Aa, Aa, Aa, Aa, trivial⟩, W⟩ fun s o a w H L5 hR => ?_
  obtain ⟨x11, x12⟩ := s
  obtain ⟨v10, F, W⟩ := hR
  have F : Fr 90 [] [(1, v3), (3, .pointer (some ⟨b1, 0, none⟩)), (6, .slice none 0 0), (7, .pointer (some ⟨b2, 0, none⟩)), (8, v10)] a := F
  have W : Stw ⟨Y, [], w0⟩ [(b2, [v5]), (b1, [.int .i64 p0.1, v1, v2])] [row v10 3 (Rp.int .i64) x11, row v5 56 (Rp.flt .f64) x12] w := W
  rw [B4] at H
  refine Ah (Ah (Ab ?_))
  refine ls F W Aa (Af F Aa).q fun a w F W => ?_
  refine ls F W Aa (Br (r := (Rp.int .i64)) (l := x11) Jd Aa F Aa (Av 0 Aa)).q fun a w F W => ?_
  refine ls F W Aa (DM F Aa Aa).q fun a w F W => ?_
  refine Ad (Ac ?_)
  refine AC F Aa (fun hb => ?_) fun hb => ?_
  ·
   have H := AW (BB hb) H
   rw [hb] at F
   clear hb
   refine Ax (Ac (As (Ah (Ab ?_))))
   refine ls F W Aa (Af F Aa).q fun a w F W => ?_
   refine ls F W Aa (Iw (us := []) (vs := [.pointer (some ⟨b2, 0, none⟩)]) F Aa Aa).q fun a w F W => ?_
   obtain ⟨x13, h6, H⟩ := Al H
   refine BO (Ml := []) (Zl := [row v10 3 (Rp.int .i64) x11]) (M := [(b2, [v5]), (b1, [.int .i64 p0.1, v1, v2])]) (Z := [row v5 56 (Rp.flt .f64) x12]) (β := Unit) (rv := fun x => .tuple #[]) (MM := fun x => []) (ZZ := fun x => [row v10 3 (Rp.int .i64) x13]) F W Ry Aa Aa (fun hL => E7 _ _ w (v10) b2 (v5) x11 x12 _ h6 (Qy (Ml := []) (Zl := [row v10 3 (Rp.int .i64) x11]) (M := [(b2, [v5]), (b1, [.int .i64 p0.1, v1, v2])]) (Z := [row v5 56 (Rp.flt .f64) x12]) W 0 Aa) (P7 (Ml := []) (Zl := [row v10 3 (Rp.int .i64) x11]) W 0 Aa) hL) fun x a w F W => ?_
   have W : Stw ⟨Y, [], w0⟩ [(b2, [v5]), (b1, [.int .i64 p0.1, v1, v2])] [row v10 3 (Rp.int .i64) x13, row v5 56 (Rp.flt .f64) x12] w := W
   refine Ad (Ac (Ah (Ab ?_)))
   refine ls F W Aa (Af F Aa).q fun a w F W => ?_
   obtain ⟨x14, h7, H⟩ := Al H
   refine ls F W Aa (AF (r := (Rp.int .i64)) FM F Aa Aa (Av 0 Aa) h7).q fun a w F W => ?_
   refine ls F W Aa (Aw (y := Value.int .i64 x14) (j := 0) (i := 0) F Aa Aa (Av 0 Aa) h7 Fl.int.to T3 Aa).q fun a w F W => ?_
   refine ls F W Aa (Ae F Aa).q fun a w F W => ?_
   refine Ad (Ac (Ah (Ab ?_)))
   refine ls F W Aa (Af F Aa).q fun a w F W => ?_
   obtain ⟨x15, h8, H⟩ := Al H
   refine ls F W Aa (Gu (r := (Rp.int .i64)) FM F Aa Aa Aa (Av 0 Aa) h8).q fun a w F W => ?_
   refine ls F W Aa (Ae F Aa).q fun a w F W => ?_
   refine Ad (Ac (Ah (Ab ?_)))
   refine ls F W Aa (An (v := Value.agg #[.int .i64 p0.1, v1, v2]) 1 F Aa Aa I2 Aa).q fun a w F W => ?_
   refine ls F W Aa (Af F Aa).q fun a w F W => ?_
   obtain ⟨x16, h9, H⟩ := Al H
   refine BO (Ml := []) (Zl := []) (M := [(b2, [v5]), (b1, [.int .i64 p0.1, v1, v2])]) (Z := [row v10 3 (Rp.int .i64) x13, row v5 56 (Rp.flt .f64) x12]) (β := Value) (rv := fun x => x) (MM := fun x => []) (ZZ := fun x => [row x 74 CD x16]) F W QQ Aa Aa (fun hL => F6 _ w (v1) (v2) p0 x14 _ h9 ((Am h_v1) w W).nx ((Am h_v2) w W).nx) fun x a w F W => ?_
   obtain ⟨v11, rfl⟩ : ∃ y, y = x := ⟨x, rfl⟩
   have W : Stw ⟨Y, [], w0⟩ [(b2, [v5]), (b1, [.int .i64 p0.1, v1, v2])] [row v11 74 CD x16, row v10 3 (Rp.int .i64) x13, row v5 56 (Rp.flt .f64) x12] w := W
   refine ls F W Aa (Br (r := CD) (l := x16) NJ Aa F Aa (Av 0 Aa)).q fun a w F W => ?_
   refine ls F W Aa (Af F Aa).q fun a w F W => ?_
   refine Ad (Ac (As ?_))
   have W := W.frontZ (i := 2) Aa Aa
   have W := W.frontZ (i := 1) Aa Aa
   have W := W.frontZ (i := 2) Aa Aa
   have W := W.frontM (i := 1) Aa Aa
   have W := W.frontM (i := 1) Aa Aa
   refine Be H (fun s a w => Fr 90 [] [(1, v3), (3, .pointer (some ⟨b1, 0, none⟩)), (6, .slice none 0 0), (7, .pointer (some ⟨b2, 0, none⟩)), (8, (Cl v10 (1 : Int) (x13.length : Int) 1)), (10, .int .i64 x14), (58, v11), (59, .int .i64 (x16.length : Int)), (60, .int .i64 s.1)] a ∧ Stw ⟨Y, [], w0⟩ [(b2, [v5]), (b1, [.int .i64 p0.1, v1, v2])] [row v10 3 (Rp.int .i64) x13, row v11 74 CD x16, row v5 56 (Rp.flt .f64) s.2] w) ⟨F.re ⟨rfl, Aa, Aa, Aa, Aa, Aa, Aa, Aa, Aa, trivial⟩, W⟩ fun s o a w H L6 hR => ?_
   obtain ⟨x17, x18⟩ := s
   obtain ⟨F, W⟩ := hR
   have F : Fr 90 [] [(1, v3), (3, .pointer (some ⟨b1, 0, none⟩)), (6, .slice none 0 0), (7, .pointer (some ⟨b2, 0, none⟩)), (8, (Cl v10 (1 : Int) (x13.length : Int) 1)), (10, .int .i64 x14), (58, v11), (59, .int .i64 (x16.length : Int)), (60, .int .i64 x17)] a := F
   have W : Stw ⟨Y, [], w0⟩ [(b2, [v5]), (b1, [.int .i64 p0.1, v1, v2])] [row v10 3 (Rp.int .i64) x13, row v11 74 CD x16, row v5 56 (Rp.flt .f64) x18] w := W
   rw [BC] at H
   refine Ah (Ab ?_)
   refine ls F W Aa (Bl F Aa Aa).q fun a w F W => ?_
   refine Ad (Ac (Ah ?_))
   refine AC F Aa (fun hb => ?_) fun hb => ?_
   ·
    have H := AW (BB hb) H
    rw [hb] at F
    clear hb
    refine Ax (Ac ?_)
    obtain ⟨o7, G7, K7⟩ := Al H
    refine AJ (fun a w => ∃ x19 : List Nat, some (x19) = some o7 ∧ Fr 90 [] [(1, v3), (3, .pointer (some ⟨b1, 0, none⟩)), (6, .slice none 0 0), (7, .pointer (some ⟨b2, 0, none⟩)), (8, (Cl v10 (1 : Int) (x13.length : Int) 1)), (10, .int .i64 x14), (58, v11), (59, .int .i64 (x16.length : Int)), (60, .int .i64 x17)] a ∧ Stw ⟨Y, [], w0⟩ [(b2, [v5]), (b1, [.int .i64 p0.1, v1, v2])] [row v10 3 (Rp.int .i64) x13, row v11 74 CD x16, row v5 56 (Rp.flt .f64) x19] w) ?_ ?_
    ·
     have H := G7
     clear G7 K7
     refine As (Ah (Ab ?_))
     obtain ⟨x20, h10, H⟩ := Al H
     refine ls F W Aa (AF (r := CD) MP F Aa Aa (Av 1 Aa) h10).q fun a w F W => ?_
     refine ls F W Aa (Aw (y := Value.agg #[.int .i64 x20.1, .int .i64 x20.2.1, .int .i64 x20.2.2]) (j := 0) (i := x17) F Aa Aa (Av 1 Aa) h10 Oj.to Nc Aa).q fun a w F W => ?_
     refine Ck (cs := [.int .i64 0, .int .i64 0, .int .i64 0]) F W Aa Ql Aa fun b3 a w F W => ?_
     refine Cs (vs := [.int .i64 x20.1, .int .i64 x20.2.1, .int .i64 x20.2.2]) (M' := [(b3, [.int .i64 x20.1, .int .i64 x20.2.1, .int .i64 x20.2.2]), (b2, [v5]), (b1, [.int .i64 p0.1, v1, v2])]) 0 F W Aa Aa Aa Nc Aa Aa Aa Aa Aa fun w W => ?_
     refine Ad (Ac (Ah (Ab ?_)))
     refine ls F W Aa (Af F Aa).q fun a w F W => ?_
     refine ls F W Aa (Ai Gv Aa Aa Aa T3 F Aa 2 Aa).q fun a w F W => ?_
     refine ls F W Aa (An (v := Value.int .i64 x20.2.2) 0 F Aa Aa T3 Aa).q fun a w F W => ?_
     obtain ⟨x21, h11, H⟩ := Al H
     refine ls F W Aa (AZ (v := Value.bool x21) F Qv Aa (fun w W => GC any w (v3) p1 x20.2.2 _ h11 (((Am h_v3) : D6 _ _ _ _ _ _) w W).nx)) fun a w F W => ?_
     refine Ad (Ac ?_)
     refine AC F Aa (fun hb => ?_) fun hb => ?_
     ·
      have H := AW hb H
      rw [hb] at F
      clear hb
      refine IZ 20 W MO (by kernel_rfl) ?_
      refine qs F Aa (An (v := v5) 1 F Aa Aa Mc Aa).q fun a F => ?_
      refine qs F Aa (Ai Gv Aa Aa Aa T3 F Aa 1 Aa).q fun a F => ?_
      refine qs F Aa (An (v := Value.int .i64 x20.2.1) 0 F Aa Aa T3 Aa).q fun a F => ?_
      refine qs F Aa (An (v := v5) 1 F Aa Aa Mc Aa).q fun a F => ?_
      refine qs F Aa (Ai Gv Aa Aa Aa T3 F Aa 1 Aa).q fun a F => ?_
      refine qs F Aa (An (v := Value.int .i64 x20.2.1) 0 F Aa Aa T3 Aa).q fun a F => ?_
      obtain ⟨x22, h12, H⟩ := Al H
      refine qs F Aa (AF (r := (Rp.flt .f64)) Hy F Aa Aa (Av 2 Aa) h12).q fun a F => ?_
      refine qs F Aa (Aw (y := Value.float .f64 x22) (j := 0) (i := x20.2.1) F Aa Aa (Av 2 Aa) h12 Fl.flt.to Ih Aa).q fun a F => ?_
      refine qs F Aa (Af F Aa).q fun a F => ?_
      refine qs F Aa (Ai Gv Aa Aa Aa T3 F Aa 2 Aa).q fun a F => ?_
      refine qs F Aa (An (v := Value.int .i64 x20.2.2) 0 F Aa Aa T3 Aa).q fun a F => ?_
      obtain ⟨x23, h13, H⟩ := Al H
      refine qs F Aa (AF (r := (Rp.flt .f64)) Hy F Aa Aa (Am h_v3) h13).q fun a F => ?_
      refine qs F Aa (Aw (y := Value.float .f64 x23) (j := 0) (i := x20.2.2) F Aa Aa (Am h_v3) h13 Fl.flt.to Ih Aa).q fun a F => ?_
      refine qs F Aa (An (v := v5) 1 F Aa Aa Mc Aa).q fun a F => ?_
      refine qs F Aa (Af F Aa).q fun a F => ?_
      obtain ⟨x24, h14, H⟩ := Al H
      refine qs F Aa (AF (r := (Rp.flt .f64)) Hy F Aa Aa (Av 2 Aa) h14).q fun a F => ?_
      refine qs F Aa (Aw (y := Value.float .f64 x24) (j := 0) (i := x14) F Aa Aa (Av 2 Aa) h14 Fl.flt.to Ih Aa).q fun a F => ?_
      refine qs F Aa (AZ (v := Value.float .f64 (A4 x23 x24)) F Qz Aa (fun w W => FI any w x23 x24 _ Aa)) fun a F => ?_
      obtain ⟨x25, h15, H⟩ := Al H
      refine qs F Aa (PJ F Aa Aa h15).q fun a F => ?_
      obtain ⟨x26, h16, H⟩ := Al H
      refine qs F Aa (AF (r := (Rp.flt .f64)) Hy F Aa Aa (Av 2 Aa) h16).q fun a F => ?_
      refine A9 fun w W => ?_
      refine CO (i := x20.2.1) (j := 0) (vs := [.float .f64 x25]) (x' := x25) F W Aa Aa Aa (k := 2) Aa Aa h16 Ih Aa Aa Aa Aa (fun A cs _ => Fl.flt.sto (by rfl) _ _ _) fun w W => ?_
      refine Ad (AO (Ac ?_))
      have W := W.frontZ (i := 2) Aa Aa
      have W := W.frontZ (i := 2) Aa Aa
      have W := W.frontM (i := 2) Aa Aa
      have W := W.frontM (i := 2) Aa Aa
      have W := W.sub (M' := [(b2, [v5]), (b1, [.int .i64 p0.1, v1, v2])]) (Z' := [row v10 3 (Rp.int .i64) x13, row v11 74 CD x16, row v5 56 (Rp.flt .f64) (AA x18 x20.2.1 x25)]) (List.Sublist.cons_cons _ (List.Sublist.cons_cons _ (List.nil_sublist _))) (List.Sublist.refl _)
      exact ⟨_, H, F.re ⟨rfl, Aa, Aa, Aa, Aa, Aa, Aa, Aa, Aa, trivial⟩, W⟩
     have H := AV (by rw [hb]; decide) H
     rw [hb] at F
     clear hb
     refine Ax (AO (Ac ?_))
     have W := W.frontZ (i := 2) Aa Aa
     have W := W.frontZ (i := 2) Aa Aa
     have W := W.frontZ (i := 2) Aa Aa
     have W := W.frontM (i := 2) Aa Aa
     have W := W.frontM (i := 2) Aa Aa
     have W := W.sub (M' := [(b2, [v5]), (b1, [.int .i64 p0.1, v1, v2])]) (Z' := [row v10 3 (Rp.int .i64) x13, row v11 74 CD x16, row v5 56 (Rp.flt .f64) x18]) (List.Sublist.cons_cons _ (List.Sublist.cons_cons _ (List.nil_sublist _))) (List.Sublist.refl _)
     exact ⟨_, H, F.re ⟨rfl, Aa, Aa, Aa, Aa, Aa, Aa, Aa, Aa, trivial⟩, W⟩
    rintro a w ⟨x19, hj, F, W⟩
    have hj := AX hj
    subst hj
    have H := K7
    clear G7 K7
    refine Ab ?_
    refine ls F W Aa (BQ F Aa Aa Aa).q fun a w F W => ?_
    refine ls F W Aa (Af F Aa).q fun a w F W => ?_
    refine Ad (Ac ?_)
    have W := W.frontZ (i := 2) Aa Aa
    have W := W.frontZ (i := 2) Aa Aa
    have W := W.frontZ (i := 2) Aa Aa
    have W := W.frontM (i := 1) Aa Aa
    have W := W.frontM (i := 1) Aa Aa
    exact ⟨_, H, F.re ⟨rfl, Aa, Aa, Aa, Aa, Aa, Aa, Aa, Aa, trivial⟩, W⟩
   have H := AV (BD hb) H
   rw [hb] at F
   clear hb
   refine Bg ?_
   iterate 2 refine BJ ?_
   refine Bh (AO (Ac ?_))
   obtain ⟨x27, h17, H⟩ := Al H
   have W := W.subRow (k := 0) Aa Aa h17
   have W := W.frontZ (i := 2) Aa Aa
   have W := W.frontZ (i := 1) Aa Aa
   have W := W.frontM (i := 1) Aa Aa
   have W := W.frontM (i := 1) Aa Aa
   have W := W.sub (M' := [(b2, [v5]), (b1, [.int .i64 p0.1, v1, v2])]) (Z' := [row (Cl v10 (1 : Int) (x13.length : Int) 1) 3 (Rp.int .i64) x27, row v5 56 (Rp.flt .f64) x18]) (List.Sublist.refl _) (List.Sublist.cons_cons _ (List.Sublist.cons_cons _ (List.nil_sublist _)))
   have H := L6 _ H
   exact ⟨_, H, ((Cl v10 (1 : Int) (x13.length : Int) 1)), F.re ⟨rfl, Aa, Aa, Aa, Aa, trivial⟩, W⟩
  have H := AV (BD hb) H
  rw [hb] at F
  clear hb
  refine Bg ?_
  iterate 2 refine BJ ?_
  refine Bh (Ac ?_)
  have W := W.frontZ (i := 1) Aa Aa
  have W := W.frontM (i := 1) Aa Aa
  have W := W.frontM (i := 1) Aa Aa
  have W := W.sub (M' := [(b2, [v5]), (b1, [.int .i64 p0.1, v1, v2])]) (Z' := [row v5 56 (Rp.flt .f64) x12]) (List.Sublist.refl _) (List.Sublist.cons_cons _ (List.nil_sublist _))
  have H := L5 _ H
  exact ⟨_, H, F.re ⟨rfl, Aa, trivial⟩, W⟩
 rintro a w ⟨x10, hj, F, W⟩
 have hj := AX hj
 subst hj
 have H := K4
 clear G4 K4
 refine Ah (Ab ?_)
 refine ls F W Aa (An (v := v5) 0 F Aa Aa Mc Aa).q fun a w F W => ?_
 refine ls F W Aa (Ae F Aa).q fun a w F W => ?_
 refine Ad (Ac (Az ?_))
 obtain ⟨x28, h18, H⟩ := Al H
 have H := AX H
 subst H
 refine A0 (.inl Aa) F W Aa (Au F Aa) ?_
 have W := W.sub (M' := []) (Z' := [row v5 56 (Rp.flt .f64) x10]) (List.nil_sublist _) (List.Sublist.refl _)
 exact ⟨⟨v5, fun _ => PC h18⟩, Aa, W⟩
end Go.Proofs.Ytbogijdfacoccaa
