/- The functions of layer 19, F7. Conditions: none. -/
import Derived.Test.YtbogijdfacoccaabA0
namespace Go.Proofs.Ytbogijdfacoccaa
open Go Go.RowKit
set_option linter.unusedVariables false
set_option linter.unusedSimpArgs false
set_option maxRecDepth 20000
theorem R2 : Has Try.prog 54 := ⟨fun args w => Aj Try.func54 rfl (by decide) args w⟩
noncomputable def CH (p0 : Nat) (p1 : Nat) : Option Int := (Dm p0).bind fun x1 => (Dm p1).bind fun x2 => (if x1 < x2 then some (-1) else (if x2 < x1 then some 1 else (if (Ng p0 p1) = true then some (-1) else (if (N8 p0 p1) = true then some 1 else some 0))))
theorem IH (Y : Nat → Prop) (w0 : World)  (p0 : Nat) (p1 : Nat) (r : Int) (H : CH p0 p1 = some r)  :
    Calls Try.prog 33 #[.float .f64 p0, .float .f64 p1] w0 fun e w' => e = .returned (.int .i64 r) ∧ Below w0.heap.size w0 w' := by
 refine enter Try.func33 Aa Try.ntmps33 Aa fun a F => ?_
 have W := Stw.start Y w0
 unfold CH at H
 refine Ah (Ab ?_)
 refine ls F W Aa (Af F Aa).q fun a w F W => ?_
 refine Ad (Ac (Ah (Ah (Ab ?_))))
 refine ls F W Aa (Ae F Aa).q fun a w F W => ?_
 obtain ⟨x1, h1, H⟩ := Al H
 refine ls F W Aa (AZ (v := Value.int .i64 x1) F R2 Aa (fun w W => HL any w p0 _ h1)) fun a w F W => ?_
 refine ls F W Aa (Ae F Aa).q fun a w F W => ?_
 obtain ⟨x2, h2, H⟩ := Al H
 refine ls F W Aa (AZ (v := Value.int .i64 x2) F R2 Aa (fun w W => HL any w p1 _ h2)) fun a w F W => ?_
 iterate 2 refine ls F W Aa (Af F Aa).q fun a w F W => ?_
 refine Ad (Ac (Ay (Ah (Ab ?_))))
 iterate 2 refine ls F W Aa (Ae F Aa).q fun a w F W => ?_
 refine ls F W Aa (Bo F Aa Aa).q fun a w F W => ?_
 refine ls F W Aa (Af F Aa).q fun a w F W => ?_
 refine Ad (Ac ?_)
 refine AE F Aa (fun hb => ?_) fun hb => ?_
 ·
  have H := AU (Bz hb) H
  rw [hb] at F
  clear hb
  refine Ah (Ab ?_)
  refine ls F W Aa (Af F Aa).q fun a w F W => ?_
  refine Ad (Ac (AC (A5 (AO ?_))))
  have H := A1 H
  subst H
  refine A2 (.inl Aa) F W Aa (Aw F Aa) ?_
  exact ⟨rfl, W.done⟩
 have H := AV (Bw hb) H
 rw [hb] at F
 clear hb
 refine Ah (Ab ?_)
 iterate 2 refine ls F W Aa (Ae F Aa).q fun a w F W => ?_
 refine ls F W Aa (En F Aa Aa).q fun a w F W => ?_
 refine ls F W Aa (Af F Aa).q fun a w F W => ?_
 refine Ad (Ac ?_)
 refine AE F Aa (fun hb => ?_) fun hb => ?_
 ·
  have H := AU (Bz hb) H
  rw [hb] at F
  clear hb
  refine Ah (Ab ?_)
  refine ls F W Aa (Af F Aa).q fun a w F W => ?_
  refine Ad (Ac (AC (A5 (AO ?_))))
  have H := A1 H
  subst H
  refine A2 (.inl Aa) F W Aa (Aw F Aa) ?_
  exact ⟨rfl, W.done⟩
 have H := AV (Bw hb) H
 rw [hb] at F
 clear hb
 refine Ah (Ab ?_)
 iterate 2 refine ls F W Aa (Ae F Aa).q fun a w F W => ?_
 refine ls F W Aa (KR F Aa Aa).q fun a w F W => ?_
 refine ls F W Aa (Af F Aa).q fun a w F W => ?_
 refine Ad (Ac ?_)
 refine AE F Aa (fun hb => ?_) fun hb => ?_
 ·
  have H := AU hb H
  rw [hb] at F
  clear hb
  refine Ah (Ab ?_)
  refine ls F W Aa (Af F Aa).q fun a w F W => ?_
  refine Ad (Ac (AC (A5 (AO ?_))))
  have H := A1 H
  subst H
  refine A2 (.inl Aa) F W Aa (Aw F Aa) ?_
  exact ⟨rfl, W.done⟩
 have H := AV (by rw [hb]; decide) H
 rw [hb] at F
 clear hb
 refine Ah (Ab ?_)
 iterate 2 refine ls F W Aa (Ae F Aa).q fun a w F W => ?_
 refine ls F W Aa (MD F Aa Aa).q fun a w F W => ?_
 refine ls F W Aa (Af F Aa).q fun a w F W => ?_
 refine Ad (Ac ?_)
 refine AE F Aa (fun hb => ?_) fun hb => ?_
 ·
  have H := AU hb H
  rw [hb] at F
  clear hb
  refine Ah (Ab ?_)
  refine ls F W Aa (Af F Aa).q fun a w F W => ?_
  refine Ad (Ac (AC (A5 (AO ?_))))
  have H := A1 H
  subst H
  refine A2 (.inl Aa) F W Aa (Aw F Aa) ?_
  exact ⟨rfl, W.done⟩
 have H := AV (by rw [hb]; decide) H
 rw [hb] at F
 clear hb
 refine Az (AS (Ac (Ah (Ab ?_))))
 refine ls F W Aa (Af F Aa).q fun a w F W => ?_
 refine Ad (Ac (AC ?_))
 have H := A1 H
 subst H
 refine A2 (.inl Aa) F W Aa (Aw F Aa) ?_
 exact ⟨rfl, W.done⟩
theorem SO : Has Try.prog 33 := ⟨fun args w => Aj Try.func33 rfl (by decide) args w⟩
noncomputable def CF (p0 : Int) (p1 : Int) (p2 : List Nat) : Option Int := (ix p2 p0).bind fun x1 => (ix p2 p1).bind fun x2 => (CH x1 x2).bind fun x3 => some x3
theorem IU (Y : Nat → Prop) (w0 : World) (q_p2 : Nat) (v1 : Value) (p0 : Int) (p1 : Int) (p2 : List Nat) (r : Int) (H : CF p0 p1 p2 = some r) (h_v1 : Sl w0 (NX []) (Rp.flt .f64) v1 p2) (a_q_p2 : At ⟨Y, [], w0⟩ q_p2 0 [v1]) :
    Calls Try.prog 32 #[.int .i64 p0, .int .i64 p1, .pointer (some ⟨q_p2, 0, none⟩)] w0 fun e w' => e = .returned (.int .i64 r) ∧ Below w0.heap.size w0 w' := by
 refine enter Try.func32 Aa Try.ntmps32 Aa fun a F => ?_
 have W := Stw.start Y w0
 unfold CF at H
 refine Ah (Ab ?_)
 refine ls F W Aa (Af F Aa).q fun a w F W => ?_
 refine Ad (Ac (Ah ?_))
 refine CS W MO (by kernel_rfl) ?_
 refine qs F Aa (J5 (y := v1) (j := 0) F Aa (Nat.zero_add _).symm a_q_p2 MI Aa).q fun a F => ?_
 refine qs F Aa (Ae F Aa).q fun a F => ?_
 obtain ⟨x1, h1, H⟩ := Al H
 refine qs F Aa (AH (r := (Rp.flt .f64)) Iy F Aa Aa (Am h_v1) h1).q fun a F => ?_
 refine qs F Aa (Ax (y := Value.float .f64 x1) (j := 0) (i := p0) F Aa Aa (Am h_v1) h1 Fl.flt.to JB Aa).q fun a F => ?_
 refine qs F Aa (J5 (y := v1) (j := 0) F Aa (Nat.zero_add _).symm a_q_p2 MI Aa).q fun a F => ?_
 refine qs F Aa (Ae F Aa).q fun a F => ?_
 obtain ⟨x2, h2, H⟩ := Al H
 refine qs F Aa (AH (r := (Rp.flt .f64)) Iy F Aa Aa (Am h_v1) h2).q fun a F => ?_
 refine qs F Aa (Ax (y := Value.float .f64 x2) (j := 0) (i := p1) F Aa Aa (Am h_v1) h2 Fl.flt.to JB Aa).q fun a F => ?_
 obtain ⟨x3, h3, H⟩ := Al H
 refine qs F Aa (AZ (v := Value.int .i64 x3) F SO Aa (fun w W => IH any w x1 x2 _ h3)) fun a F => ?_
 refine qs F Aa (Af F Aa).q fun a F => ?_
 refine Be fun w W => ?_
 refine Ac (AC ?_)
 have H := A1 H
 subst H
 refine A2 (.inl Aa) F W Aa (Aw F Aa) ?_
 exact ⟨rfl, W.done⟩
theorem Sn : Has Try.prog 32 := ⟨fun args w => Aj Try.func32 rfl (by decide) args w⟩
noncomputable def AR (p1 : Int) (p3c0 : List Nat) : (List Int × Int) → Option ((List Int × Int) ⊕ (List Int))
  | (x4, x5) => (if p1 < x5 then (ix x4 x5).bind fun x7 => (ix x4 (BH (x5 - 1))).bind fun x8 => (CF x7 x8 p3c0).bind fun x9 => some (decide (x9 < 0)) else some false).bind fun x6 => (if x6 = true then (ix x4 (BH (x5 - 1))).bind fun x10 => (ix x4 x5).bind fun x11 => (ix x4 x5).bind fun x12 => (ix (AA x4 x5 x10) (BH (x5 - 1))).bind fun x13 => some (.inl ((AA (AA x4 x5 x10) (BH (x5 - 1)) x11), BH (x5 - 1))) else some (.inr x4))
noncomputable def AL (p1 : Int) (p2 : Int) (p3c0 : List Nat) : (List Int × Int) → Option ((List Int × Int) ⊕ (List Int))
  | (x1, x2) => (if x2 < p2 then (AF (AR p1 p3c0) (x1, x2)).bind fun x3 => some (.inl (x3, BH (x2 + 1))) else some (.inr x1))
noncomputable def A7 (p0 : List Int) (p1 : Int) (p2 : Int) (p3c0 : List Nat) : Option (List Int) := AF (AL p1 p2 p3c0) (p0, BH (p1 + 1))
theorem D7 (Y : Nat → Prop) (X : List Nat) (w0 : World) (v1 : Value) (q_p3c0 : Nat) (v2 : Value) (p0 : List Int) (p1 : Int) (p2 : Int) (p3c0 : List Nat) (r : List Int) (H : A7 p0 p1 p2 p3c0 = some r) (h_v2 : Sl w0 (NX X) (Rp.flt .f64) v2 p3c0) (a_q_p3c0 : At ⟨Y, X, w0⟩ q_p3c0 0 [v2]) (hL : Stw ⟨Y, X, w0⟩ [] [row v1 3 (Rp.int .i64) p0] w0) :
    Calls Try.prog 69 #[v1, .int .i64 p1, .int .i64 p2, .func (.func 32) #[] #[.pointer (some ⟨q_p3c0, 0, none⟩)]] w0 fun e w' => ∃ x : Unit, e = .returned (.tuple #[]) ∧ Stw ⟨Y, X, w0⟩ [] [row v1 3 (Rp.int .i64) r] w' := by
 refine enter Try.func69 Aa Try.ntmps69 Aa fun a F => ?_
 have W := hL
 unfold A7 at H
 refine Ah (Ab ?_)
 refine ls F W Aa (Ae F Aa).q fun a w F W => ?_
 refine ls F W Aa (BZ F Aa Aa Aa).q fun a w F W => ?_
 refine ls F W Aa (Af F Aa).q fun a w F W => ?_
 refine Ad (Ac (Ay ?_))
 refine Bi H (fun s a w => Fr 53 [] [(0, v1), (1, .int .i64 p1), (2, .int .i64 p2), (3, .func (.func 32) #[] #[.pointer (some ⟨q_p3c0, 0, none⟩)]), (8, .int .i64 s.2)] a ∧ Stw ⟨Y, X, w0⟩ [] [row v1 3 (Rp.int .i64) s.1] w) ⟨F.re ⟨rfl, Aa, Aa, Aa, Aa, trivial⟩, W⟩ fun s o a w H L1 hR => ?_
 obtain ⟨x1, x2⟩ := s
 obtain ⟨F, W⟩ := hR
 have F : Fr 53 [] [(0, v1), (1, .int .i64 p1), (2, .int .i64 p2), (3, .func (.func 32) #[] #[.pointer (some ⟨q_p3c0, 0, none⟩)]), (8, .int .i64 x2)] a := F
 have W : Stw ⟨Y, X, w0⟩ [] [row v1 3 (Rp.int .i64) x1] w := W
 rw [AL] at H
 refine Ah (Ah (Ab ?_))
 iterate 2 refine ls F W Aa (Ae F Aa).q fun a w F W => ?_
 refine ls F W Aa (Bo F Aa Aa).q fun a w F W => ?_
 refine Ad (Ac ?_)
 refine AE F Aa (fun hb => ?_) fun hb => ?_
 ·
  have H := AU (Bz hb) H
  rw [hb] at F
  clear hb
  refine Az (Ac ?_)
  obtain ⟨o2, G2, K2⟩ := Al H
  refine AN (fun a w => ∃ x3 : List Int, some (x3) = some o2 ∧ Fr 53 [] [(0, v1), (1, .int .i64 p1), (2, .int .i64 p2), (3, .func (.func 32) #[] #[.pointer (some ⟨q_p3c0, 0, none⟩)]), (8, .int .i64 x2)] a ∧ Stw ⟨Y, X, w0⟩ [] [row v1 3 (Rp.int .i64) x3] w) ?_ ?_
  ·
   have H := G2
   clear G2 K2
   refine Ay (Ah (Ab ?_))
   refine ls F W Aa (Ae F Aa).q fun a w F W => ?_
   refine ls F W Aa (Af F Aa).q fun a w F W => ?_
   refine Ad (Ac (Ay ?_))
   refine Bi H (fun s a w => Fr 53 [] [(0, v1), (1, .int .i64 p1), (2, .int .i64 p2), (3, .func (.func 32) #[] #[.pointer (some ⟨q_p3c0, 0, none⟩)]), (8, .int .i64 x2), (9, .int .i64 s.2)] a ∧ Stw ⟨Y, X, w0⟩ [] [row v1 3 (Rp.int .i64) s.1] w) ⟨F.re ⟨rfl, Aa, Aa, Aa, Aa, Aa, trivial⟩, W⟩ fun s o a w H L3 hR => ?_
   obtain ⟨x4, x5⟩ := s
   obtain ⟨F, W⟩ := hR
   have F : Fr 53 [] [(0, v1), (1, .int .i64 p1), (2, .int .i64 p2), (3, .func (.func 32) #[] #[.pointer (some ⟨q_p3c0, 0, none⟩)]), (8, .int .i64 x2), (9, .int .i64 x5)] a := F
   have W : Stw ⟨Y, X, w0⟩ [] [row v1 3 (Rp.int .i64) x4] w := W
   rw [AR] at H
   refine Ah ?_
   obtain ⟨o4, G4, K4⟩ := Al H
   refine AN (fun a w => ∃ x6 : Bool, some (x6) = some o4 ∧ Fr 53 [] [(0, v1), (1, .int .i64 p1), (2, .int .i64 p2), (3, .func (.func 32) #[] #[.pointer (some ⟨q_p3c0, 0, none⟩)]), (8, .int .i64 x2), (9, .int .i64 x5), (34, .bool x6)] a ∧ Stw ⟨Y, X, w0⟩ [] [row v1 3 (Rp.int .i64) x4] w) ?_ ?_
   ·
    have H := G4
    clear G4 K4
    refine CS W MO (by kernel_rfl) ?_
    iterate 2 refine qs F Aa (Ae F Aa).q fun a F => ?_
    refine qs F Aa (En F Aa Aa).q fun a F => ?_
    refine qs F Aa (Ae F Aa).q fun a F => ?_
    rcases Bool.eq_false_or_eq_true (decide (p1 < x5)) with hb | hb
    ·
     have H := AU (Bz hb) H
     rw [hb] at F
     clear hb
     iterate 3 refine Bu F (Ag F Aa Aa Aa Aa) Aa (Ak Aa) (Ae F Aa).q fun a F => ?_
     obtain ⟨x7, h1, H⟩ := Al H
     refine Bu F (Ag F Aa Aa Aa Aa) Aa (Ak Aa) (AH (r := (Rp.int .i64)) FI F Aa Aa (Au 0 Aa) h1).q fun a F => ?_
     refine Bu F (Ag F Aa Aa Aa Aa) Aa (Ak Aa) (Ax (y := Value.int .i64 x7) (j := 0) (i := x5) F Aa Aa (Au 0 Aa) h1 Fl.int.to T3 Aa).q fun a F => ?_
     iterate 2 refine Bu F (Ag F Aa Aa Aa Aa) Aa (Ak Aa) (Ae F Aa).q fun a F => ?_
     refine Bu F (Ag F Aa Aa Aa Aa) Aa (Ak Aa) (FN F Aa Aa Aa).q fun a F => ?_
     obtain ⟨x8, h2, H⟩ := Al H
     refine Bu F (Ag F Aa Aa Aa Aa) Aa (Ak Aa) (AH (r := (Rp.int .i64)) FI F Aa Aa (Au 0 Aa) h2).q fun a F => ?_
     refine Bu F (Ag F Aa Aa Aa Aa) Aa (Ak Aa) (Ax (y := Value.int .i64 x8) (j := 0) (i := BH (x5 - 1)) F Aa Aa (Au 0 Aa) h2 Fl.int.to T3 Aa).q fun a F => ?_
     obtain ⟨x9, h3, H⟩ := Al H
     refine Bu F (Ag F Aa Aa Aa Aa) Aa (Ak Aa) (Ku (ws := [.int .i64 x7, .int .i64 x8, .pointer (some ⟨q_p3c0, 0, none⟩)]) (v := Value.int .i64 x9) F Sn Aa (fun w W => IU any w q_p3c0 (v2) x7 x8 p3c0 _ h3 (((Am h_v2) : Ee _ _ _ _ _ _) w W).nx (At.re a_q_p3c0 W))) fun a F => ?_
     refine Bu F (Ag F Aa Aa Aa Aa) Aa (Ak Aa) (Bo F Aa Aa).q fun a F => ?_
     refine qs F Aa (Ao F Aa Aa Aa).q fun a F => ?_
     refine Be fun w W => ?_
     refine Ac ?_
     exact ⟨_, H, F.re ⟨rfl, Aa, Aa, Aa, Aa, Aa, Aa, trivial⟩, W⟩
    have H := AV (Bw hb) H
    rw [hb] at F
    clear hb
    iterate 12 refine C0 F (Cg F Aa Aa Aa Aa Aa) Aa Aa fun a F => ?_
    refine qs F Aa (Ap F Aa Aa Aa).q fun a F => ?_
    refine Be fun w W => ?_
    refine Ac ?_
    exact ⟨_, H, F.re ⟨rfl, Aa, Aa, Aa, Aa, Aa, Aa, trivial⟩, W⟩
   rintro a w ⟨x6, hj, F, W⟩
   have hj := A1 hj
   subst hj
   have H := K4
   clear G4 K4
   refine AE F Aa (fun hb => ?_) fun hb => ?_
   ·
    have H := AU hb H
    rw [hb] at F
    clear hb
    refine Az (Ac (Ah (Ay ?_)))
    refine Lz [(true, 0), (true, 1), (true, 2), (true, 3), (true, 4), (true, 5), (true, 6), (true, 7), (true, 8), (true, 9), (true, 10), (true, 11), (true, 12), (true, 13), (true, 14), (false, 15), (true, 16), (false, 17)] (CN ⟨Y, X, w0⟩ [] [(some 15, row v1 3 (Rp.int .i64) x4)]) (fun ch a d v w h => by cases d <;> exact h) MO (by kernel_rfl) W (fun w W => ⟨_, _, W, AX, (all_cons (fun _ => (.head _)) AX)⟩) fun w W => ?_
    iterate 4 refine Fp (R := []) F Aa Aa (yC fun M Z hN hZ => Ae F Aa) Aa Aa fun a F => ?_
    refine Fp (R := []) F Aa Aa (yC fun M Z hN hZ => FN F Aa Aa Aa) Aa Aa fun a F => ?_
    iterate 2 refine Fp (R := []) F Aa Aa (yC fun M Z hN hZ => Ae F Aa) Aa Aa fun a F => ?_
    refine Fp (R := []) F Aa Aa (yC fun M Z hN hZ => FN F Aa Aa Aa) Aa Aa fun a F => ?_
    obtain ⟨x10, h4, H⟩ := Al H
    refine Fp (R := []) F Aa Aa (yC fun M Z hN hZ => EP (r := (Rp.int .i64)) FI F Aa Aa (IF W (Au 0 Aa)) h4) Aa Aa fun a F => ?_
    refine Fp (R := [15]) F Aa Aa (yC fun M Z hN hZ => Ax (y := Value.int .i64 x10) (j := 0) (i := BH (x5 - 1)) F Aa Aa (HD (hZ ((some 15), row v1 3 (Rp.int .i64) x4) (.head _) Aa)) h4 Fl.int.to T3 Aa) (by kernel_rfl) Aa fun a F => ?_
    iterate 2 refine Fp (R := []) F Aa Aa (yC fun M Z hN hZ => Ae F Aa) Aa Aa fun a F => ?_
    obtain ⟨x11, h5, H⟩ := Al H
    refine Fp (R := []) F Aa Aa (yC fun M Z hN hZ => EP (r := (Rp.int .i64)) FI F Aa Aa (IF W (Au 0 Aa)) h5) Aa Aa fun a F => ?_
    refine Fp (R := [15]) F Aa Aa (yC fun M Z hN hZ => Ax (y := Value.int .i64 x11) (j := 0) (i := x5) F Aa Aa (HD (hZ ((some 15), row v1 3 (Rp.int .i64) x4) (.head _) Aa)) h5 Fl.int.to T3 Aa) (by kernel_rfl) Aa fun a F => ?_
    obtain ⟨x12, h6, H⟩ := Al H
    refine Fp (R := []) F Aa Aa (yC fun M Z hN hZ => EP (r := (Rp.int .i64)) FI F Aa Aa (IF W (Au 0 Aa)) h6) Aa Aa fun a F => ?_
    refine PF Aa ?_
    refine C1 (i := x5) (j := 0) (vs := [.int .i64 x10]) (x' := x10) F W Aa Aa Aa (k := 0) Aa Aa h6 T3 Aa Aa Aa Aa (fun A cs _ => Fl.int.sto (by rfl) _ _ _) fun w W => ?_
    refine IZ (N2 := []) (NZ2 := []) (N3 := []) (NZ3 := [(some 15, row v1 3 (Rp.int .i64) x4)]) W Aa Aa AX (all_cons (fun h => CT (by kernel_rfl) h) AX) ?_
    obtain ⟨x13, h7, H⟩ := Al H
    refine Fp (R := []) F Aa Aa (yC fun M Z hN hZ => EP (r := (Rp.int .i64)) FI F Aa Aa (IF W (Au 0 Aa)) h7) Aa Aa fun a F => ?_
    refine PF Aa ?_
    refine C1 (i := BH (x5 - 1)) (j := 0) (vs := [.int .i64 x11]) (x' := x11) F W Aa Aa Aa (k := 0) Aa Aa h7 T3 Aa Aa Aa Aa (fun A cs _ => Fl.int.sto (by rfl) _ _ _) fun w W => ?_
    refine IZ (N2 := []) (NZ2 := []) (N3 := []) (NZ3 := [(some 15, row v1 3 (Rp.int .i64) x4)]) W Aa Aa AX (all_cons (fun h => CT (by kernel_rfl) h) AX) ?_
    refine Ow (AS (Ac (Ab ?_)))
    refine ls F W Aa (Ae F Aa).q fun a w F W => ?_
    refine ls F W Aa (FN F Aa Aa Aa).q fun a w F W => ?_
    refine ls F W Aa (Af F Aa).q fun a w F W => ?_
    refine Ad (Ac ?_)
    exact ⟨_, H, F.re ⟨rfl, Aa, Aa, Aa, Aa, Aa, trivial⟩, W⟩
   have H := AV (by rw [hb]; decide) H
   rw [hb] at F
   clear hb
   refine Bm ?_
   iterate 2 refine BT ?_
   refine Bn (AS (Ac ?_))
   have H := L3 _ H
   exact ⟨_, H, F.re ⟨rfl, Aa, Aa, Aa, Aa, trivial⟩, W⟩
  rintro a w ⟨x3, hj, F, W⟩
  have hj := A1 hj
  subst hj
  have H := K2
  clear G2 K2
  refine Ab ?_
  refine ls F W Aa (Ae F Aa).q fun a w F W => ?_
  refine ls F W Aa (BZ F Aa Aa Aa).q fun a w F W => ?_
  refine ls F W Aa (Af F Aa).q fun a w F W => ?_
  refine Ad (Ac ?_)
  exact ⟨_, H, F.re ⟨rfl, Aa, Aa, Aa, Aa, trivial⟩, W⟩
 have H := AV (Bw hb) H
 rw [hb] at F
 clear hb
 refine Bm ?_
 iterate 2 refine BT ?_
 refine Bn ?_
 have H := L1 _ H
 have H := A1 H
 subst H
 refine IE (.inr Aa) F Aa ?_
 exact ⟨(), Aa, W⟩
theorem Ss : Has Try.prog 69 := ⟨fun args w => Aj Try.func69 rfl (by decide) args w⟩
noncomputable def Bk (p0 : List Int) (p1 : Int) (p2 : Int) (p4c0 : List Nat) : Unit → Option (Unit ⊕ (List Int))
  | _ => (if (BH (p2 - p1)) ≤ 12 then (A7 p0 p1 p2 p4c0).bind fun x1 => some (.inr x1) else none)
noncomputable def Ba (p0 : List Int) (p1 : Int) (p2 : Int) (p3 : Int) (p4c0 : List Nat) : Option (List Int) := AF (Bk p0 p1 p2 p4c0) ()
theorem E2 (Y : Nat → Prop) (X : List Nat) (w0 : World) (v1 : Value) (q_p4c0 : Nat) (v2 : Value) (p0 : List Int) (p1 : Int) (p2 : Int) (p3 : Int) (p4c0 : List Nat) (r : List Int) (H : Ba p0 p1 p2 p3 p4c0 = some r) (h_v2 : Sl w0 (NX X) (Rp.flt .f64) v2 p4c0) (a_q_p4c0 : At ⟨Y, X, w0⟩ q_p4c0 0 [v2]) (hL : Stw ⟨Y, X, w0⟩ [] [row v1 3 (Rp.int .i64) p0] w0) :
    Calls Try.prog 52 #[v1, .int .i64 p1, .int .i64 p2, .int .i64 p3, .func (.func 32) #[] #[.pointer (some ⟨q_p4c0, 0, none⟩)]] w0 fun e w' => ∃ x : Unit, e = .returned (.tuple #[]) ∧ Stw ⟨Y, X, w0⟩ [] [row v1 3 (Rp.int .i64) r] w' := by
 refine enter Try.func52 Aa Try.ntmps52 Aa fun a F => ?_
 have W := hL
 unfold Ba at H
 refine Ah (Ab ?_)
 refine ls F W Aa (Af F Aa).q fun a w F W => ?_
 refine Ad (Ac (Ah (Ab ?_)))
 refine ls F W Aa (Af F Aa).q fun a w F W => ?_
 refine Ad (Ac (Ay ?_))
 refine Bi H (fun s a w => Fr 148 [] [(0, v1), (1, .int .i64 p1), (2, .int .i64 p2), (3, .int .i64 p3), (4, .func (.func 32) #[] #[.pointer (some ⟨q_p4c0, 0, none⟩)]), (10, .bool true), (11, .bool true)] a ∧ Stw ⟨Y, X, w0⟩ [] [row v1 3 (Rp.int .i64) p0] w) ⟨F.re ⟨rfl, Aa, Aa, Aa, Aa, Aa, Aa, trivial⟩, W⟩ fun s o a w H L1 hR => ?_
 obtain ⟨F, W⟩ := hR
 have F : Fr 148 [] [(0, v1), (1, .int .i64 p1), (2, .int .i64 p2), (3, .int .i64 p3), (4, .func (.func 32) #[] #[.pointer (some ⟨q_p4c0, 0, none⟩)]), (10, .bool true), (11, .bool true)] a := F
 have W : Stw ⟨Y, X, w0⟩ [] [row v1 3 (Rp.int .i64) p0] w := W
 rw [Bk] at H
 refine Ay (Ah (Ab ?_))
 iterate 2 refine ls F W Aa (Ae F Aa).q fun a w F W => ?_
 refine ls F W Aa (FN F Aa Aa Aa).q fun a w F W => ?_
 refine ls F W Aa (Af F Aa).q fun a w F W => ?_
 refine Ad (Ac (Ah (Ah (Ab ?_))))
 refine ls F W Aa (Ae F Aa).q fun a w F W => ?_
 refine ls F W Aa (Ju F Aa Aa).q fun a w F W => ?_
 refine Ad (Ac ?_)
 refine AE F Aa (fun hb => ?_) fun hb => ?_
 ·
  have H := AU (Bz hb) H
  rw [hb] at F
  clear hb
  refine Ah (Ab ?_)
  iterate 4 refine ls F W Aa (Ae F Aa).q fun a w F W => ?_
  obtain ⟨x1, h1, H⟩ := Al H
  refine BS (Ml := []) (Zl := [row v1 3 (Rp.int .i64) p0]) (M := []) (Z := []) (β := Unit) (rv := fun x => .tuple #[]) (MM := fun x => []) (ZZ := fun x => [row v1 3 (Rp.int .i64) x1]) F W Ss Aa Aa (fun hL => D7 _ _ w (v1) q_p4c0 (v2) p0 p1 p2 p4c0 _ h1 (W.roX h_v2 (fun g hg => MF hg)) (At.reX (Ml := []) (Zl := [row v1 3 (Rp.int .i64) p0]) (M := []) (Z := []) a_q_p4c0 W) hL) fun x a w F W => ?_
  have W : Stw ⟨Y, X, w0⟩ [] [row v1 3 (Rp.int .i64) x1] w := W
  refine Ad (Ac (AC (AO (A5 (AO (A5 ?_))))))
  have H := L1 _ H
  have H := A1 H
  subst H
  refine IE (.inl Aa) F Aa ?_
  exact ⟨(), Aa, W⟩
 have H := AV (Bw hb) H
 rw [hb] at F
 clear hb
 exact nomatch H
theorem Sk : Has Try.prog 52 := ⟨fun args w => Aj Try.func52 rfl (by decide) args w⟩
noncomputable def Bg (p0 : List Int) (p1c0 : List Nat) : Option (List Int) := (Cn (IntKind.u64.wrap (p0.length : Int))).bind fun x1 => (Ba p0 0 (p0.length : Int) x1 p1c0).bind fun x2 => some x2
theorem Fq (Y : Nat → Prop) (X : List Nat) (w0 : World) (v1 : Value) (q_p1c0 : Nat) (v2 : Value) (p0 : List Int) (p1c0 : List Nat) (r : List Int) (H : Bg p0 p1c0 = some r) (h_v2 : Sl w0 (NX X) (Rp.flt .f64) v2 p1c0) (a_q_p1c0 : At ⟨Y, X, w0⟩ q_p1c0 0 [v2]) (hL : Stw ⟨Y, X, w0⟩ [] [row v1 3 (Rp.int .i64) p0] w0) :
    Calls Try.prog 31 #[v1, .func (.func 32) #[] #[.pointer (some ⟨q_p1c0, 0, none⟩)]] w0 fun e w' => ∃ x : Unit, e = .returned (.tuple #[]) ∧ Stw ⟨Y, X, w0⟩ [] [row v1 3 (Rp.int .i64) r] w' := by
 refine enter Try.func31 Aa Try.ntmps31 Aa fun a F => ?_
 have W := hL
 unfold Bg at H
 refine Ah (Ab ?_)
 refine ls F W Aa (Ae F Aa).q fun a w F W => ?_
 refine ls F W Aa (BB (r := (Rp.int .i64)) (l := p0) JN Aa F Aa (Au 0 Aa)).q fun a w F W => ?_
 refine ls F W Aa (Af F Aa).q fun a w F W => ?_
 refine Ad (Ac (Ab ?_))
 iterate 3 refine ls F W Aa (Ae F Aa).q fun a w F W => ?_
 refine ls F W Aa (Ej NY KX F Aa).q fun a w F W => ?_
 obtain ⟨x1, h1, H⟩ := Al H
 refine ls F W Aa (AZ (v := Value.int .i64 x1) F RT Aa (fun w W => Gc any w (IntKind.u64.wrap (p0.length : Int)) _ h1)) fun a w F W => ?_
 refine ls F W Aa (Ae F Aa).q fun a w F W => ?_
 obtain ⟨x2, h2, H⟩ := Al H
 refine BS (Ml := []) (Zl := [row v1 3 (Rp.int .i64) p0]) (M := []) (Z := []) (β := Unit) (rv := fun x => .tuple #[]) (MM := fun x => []) (ZZ := fun x => [row v1 3 (Rp.int .i64) x2]) F W Sk Aa Aa (fun hL => E2 _ _ w (v1) q_p1c0 (v2) p0 0 (p0.length : Int) x1 p1c0 _ h2 (W.roX h_v2 (fun g hg => MF hg)) (At.reX (Ml := []) (Zl := [row v1 3 (Rp.int .i64) p0]) (M := []) (Z := []) a_q_p1c0 W) hL) fun x a w F W => ?_
 have W : Stw ⟨Y, X, w0⟩ [] [row v1 3 (Rp.int .i64) x2] w := W
 refine Ad ?_
 have H := A1 H
 subst H
 refine IE (.inr Aa) F Aa ?_
 exact ⟨(), Aa, W⟩
theorem O1 : type_of% Try.underlying71 := Try.underlying71
theorem GY : type_of% Try.underlying74 := Try.underlying74
theorem Sv : Has Try.prog 31 := ⟨fun args w => Aj Try.func31 rfl (by decide) args w⟩
theorem Sf : Bt Try.prog 74 [.int .i64 0, .int .i64 0, .int .i64 0] [(0, 1), (1, 1), (2, 1)] := ⟨⟨.agg #[.int .i64 0, .int .i64 0, .int .i64 0], by kernel_rfl, rfl⟩, ⟨_, GY, fun w => by kernel_rfl⟩⟩
theorem Rc : (Try.prog.info? 74).bind (·.zero) = some (.agg #[.int .i64 0, .int .i64 0, .int .i64 0]) := by kernel_rfl
abbrev CL : Rp (Int × Int × Int) := (Rp.pair (Rp.int .i64) (Rp.pair (Rp.int .i64) (Rp.int .i64)))
def SZ (a : Int × Int × Int) : List Value := [.int .i64 a.1, .int .i64 a.2.1, .int .i64 a.2.2]
theorem OX : Fl CL SZ := (Fl.pair Fl.int (Fl.pair Fl.int Fl.int))
theorem N1 : Et Try.prog 71 74 3 24 := Et.of O1 (by kernel_rfl) (by kernel_rfl) (by kernel_rfl) (by decide)
theorem N6 : Ty Try.prog 74 true 3 := ⟨by kernel_rfl, by kernel_rfl⟩
def Co (p0 : Int) : Bool := decide (p0 ≠ p0)
theorem Gh (Y : Nat → Prop) (w0 : World)  (p0 : Int) (r : Bool) (H : Co p0 = r)  :
    Calls Try.prog 81 #[.int .i64 p0] w0 fun e w' => e = .returned (.bool r) ∧ Below w0.heap.size w0 w' := by
 refine enter Try.func81 Aa Try.ntmps81 Aa fun a F => ?_
 have W := Stw.start Y w0
 unfold Co at H
 refine Ah (Ab ?_)
 refine ls F W Aa (Af F Aa).q fun a w F W => ?_
 refine Ad (Ac (Ah (Ab ?_)))
 iterate 2 refine ls F W Aa (Ae F Aa).q fun a w F W => ?_
 refine ls F W Aa (Ja F Aa Aa).q fun a w F W => ?_
 refine ls F W Aa (Af F Aa).q fun a w F W => ?_
 refine Ad (Ac (AC ?_))
 subst H
 refine A2 (.inl Aa) F W Aa (Aw F Aa) ?_
 exact ⟨rfl, W.done⟩
theorem R4 : Has Try.prog 81 := ⟨fun args w => Aj Try.func81 rfl (by decide) args w⟩
def Cz (p0 : Int) (p1 : Int) : Int := (if (Co p0) = true then (if (Co p1) = true then 0 else (-1)) else (if (Co p1) = true then 1 else (if p0 < p1 then (-1) else (if p1 < p0 then 1 else 0))))
theorem Ht (Y : Nat → Prop) (w0 : World)  (p0 : Int) (p1 : Int) (r : Int) (H : Cz p0 p1 = r)  :
    Calls Try.prog 57 #[.int .i64 p0, .int .i64 p1] w0 fun e w' => e = .returned (.int .i64 r) ∧ Below w0.heap.size w0 w' := by
 refine enter Try.func57 Aa Try.ntmps57 Aa fun a F => ?_
 have W := Stw.start Y w0
 unfold Cz at H
 refine Ah (Ab ?_)
 refine ls F W Aa (Af F Aa).q fun a w F W => ?_
 refine Ad (Ac (Ah (Ab ?_)))
 refine ls F W Aa (Ae F Aa).q fun a w F W => ?_
 refine ls F W Aa (AZ (v := Value.bool (Co p0)) F R4 Aa (fun w W => Gh any w p0 _ Aa)) fun a w F W => ?_
 refine ls F W Aa (Af F Aa).q fun a w F W => ?_
 refine Ad (Ac (Ah (Ab ?_)))
 refine ls F W Aa (Ae F Aa).q fun a w F W => ?_
 refine ls F W Aa (AZ (v := Value.bool (Co p1)) F R4 Aa (fun w W => Gh any w p1 _ Aa)) fun a w F W => ?_
 refine ls F W Aa (Af F Aa).q fun a w F W => ?_
 refine Ad (Ac (Ah (Ah (Ab ?_))))
 refine ls F W Aa (Ae F Aa).q fun a w F W => ?_
 refine Ad (Ac ?_)
 refine AE F Aa (fun hb => ?_) fun hb => ?_
 ·
  have H := AU hb H
  rw [hb] at F
  clear hb
  refine Ah (Ah (Ab ?_))
  refine ls F W Aa (Ae F Aa).q fun a w F W => ?_
  refine Ad (Ac ?_)
  refine AE F Aa (fun hb => ?_) fun hb => ?_
  ·
   have H := AU hb H
   rw [hb] at F
   clear hb
   refine Ah (Ab ?_)
   refine ls F W Aa (Af F Aa).q fun a w F W => ?_
   refine Ad (Ac (AC ?_))
   iterate 2 refine AO ?_
   subst H
   refine A2 (.inl Aa) F W Aa (Aw F Aa) ?_
   exact ⟨rfl, W.done⟩
  have H := AV (by rw [hb]; decide) H
  rw [hb] at F
  clear hb
  refine Az (Ac (Ah (Ab ?_)))
  refine ls F W Aa (Af F Aa).q fun a w F W => ?_
  refine Ad (Ac (AC (AO ?_)))
  subst H
  refine A2 (.inl Aa) F W Aa (Aw F Aa) ?_
  exact ⟨rfl, W.done⟩
 have H := AV (by rw [hb]; decide) H
 rw [hb] at F
 clear hb
 refine Az (Ac (Ah (Ah (Ab ?_))))
 refine ls F W Aa (Ae F Aa).q fun a w F W => ?_
 refine Ad (Ac ?_)
 refine AE F Aa (fun hb => ?_) fun hb => ?_
 ·
  have H := AU hb H
  rw [hb] at F
  clear hb
  refine Ah (Ab ?_)
  refine ls F W Aa (Af F Aa).q fun a w F W => ?_
  refine Ad (Ac (AC (AO ?_)))
  subst H
  refine A2 (.inl Aa) F W Aa (Aw F Aa) ?_
  exact ⟨rfl, W.done⟩
 have H := AV (by rw [hb]; decide) H
 rw [hb] at F
 clear hb
 refine Az (Ac (Ah (Ah (Ab ?_))))
 iterate 2 refine ls F W Aa (Ae F Aa).q fun a w F W => ?_
 refine ls F W Aa (Bo F Aa Aa).q fun a w F W => ?_
 refine Ad (Ac ?_)
 refine AE F Aa (fun hb => ?_) fun hb => ?_
 ·
  have H := AU (Bz hb) H
  rw [hb] at F
  clear hb
  refine Ah (Ab ?_)
  refine ls F W Aa (Af F Aa).q fun a w F W => ?_
  refine Ad (Ac (AC (AO ?_)))
  subst H
  refine A2 (.inl Aa) F W Aa (Aw F Aa) ?_
  exact ⟨rfl, W.done⟩
 have H := AV (Bw hb) H
 rw [hb] at F
 clear hb
 refine Az (Ac (Ah (Ah (Ab ?_))))
 iterate 2 refine ls F W Aa (Ae F Aa).q fun a w F W => ?_
 refine ls F W Aa (En F Aa Aa).q fun a w F W => ?_
 refine Ad (Ac ?_)
 refine AE F Aa (fun hb => ?_) fun hb => ?_
 ·
  have H := AU (Bz hb) H
  rw [hb] at F
  clear hb
  refine Ah (Ab ?_)
  refine ls F W Aa (Af F Aa).q fun a w F W => ?_
  refine Ad (Ac (AC (AO ?_)))
  subst H
  refine A2 (.inl Aa) F W Aa (Aw F Aa) ?_
  exact ⟨rfl, W.done⟩
 have H := AV (Bw hb) H
 rw [hb] at F
 clear hb
 refine Az (Ac (Ah (Ab ?_)))
 refine ls F W Aa (Af F Aa).q fun a w F W => ?_
 refine Ad (Ac (AC ?_))
 subst H
 refine A2 (.inl Aa) F W Aa (Aw F Aa) ?_
 exact ⟨rfl, W.done⟩
theorem SX : Has Try.prog 57 := ⟨fun args w => Aj Try.func57 rfl (by decide) args w⟩
def DZ (p0 : Int × Int × Int) (p1 : Int × Int × Int) : Int := (Cz p0.1 p1.1)
theorem JW (Y : Nat → Prop) (w0 : World)  (p0 : Int × Int × Int) (p1 : Int × Int × Int) (r : Int) (H : DZ p0 p1 = r)  :
    Calls Try.prog 56 #[.agg #[.int .i64 p0.1, .int .i64 p0.2.1, .int .i64 p0.2.2], .agg #[.int .i64 p1.1, .int .i64 p1.2.1, .int .i64 p1.2.2]] w0 fun e w' => e = .returned (.int .i64 r) ∧ Below w0.heap.size w0 w' := by
 refine enter Try.func56 Aa Try.ntmps56 Aa fun a F => ?_
 have W := Stw.start Y w0
 unfold DZ at H
 refine Ah (Ab ?_)
 refine Eo (cs := [.int .i64 p0.1, .int .i64 p0.2.1, .int .i64 p0.2.2]) F W Aa Aa Aa fun b1 a w F W => ?_
 refine Eo (cs := [.int .i64 p1.1, .int .i64 p1.2.1, .int .i64 p1.2.2]) F W Aa Aa Aa fun b2 a w F W => ?_
 refine ls F W Aa (Af F Aa).q fun a w F W => ?_
 refine Ad (Ac (Ah (Ab ?_)))
 refine ls F W Aa (Ai GY Aa Aa Aa T3 F Aa 0 Aa).q fun a w F W => ?_
 refine ls F W Aa (An (v := Value.int .i64 p0.1) 1 F Aa Aa T3 Aa).q fun a w F W => ?_
 refine ls F W Aa (Ai GY Aa Aa Aa T3 F Aa 0 Aa).q fun a w F W => ?_
 refine ls F W Aa (An (v := Value.int .i64 p1.1) 0 F Aa Aa T3 Aa).q fun a w F W => ?_
 refine ls F W Aa (AZ (v := Value.int .i64 (Cz p0.1 p1.1)) F SX Aa (fun w W => Ht any w p0.1 p1.1 _ Aa)) fun a w F W => ?_
 refine ls F W Aa (Af F Aa).q fun a w F W => ?_
 refine Ad (Ac (AC ?_))
 subst H
 refine A2 (.inl Aa) F W Aa (Aw F Aa) ?_
 exact ⟨rfl, W.done⟩
theorem SF : Has Try.prog 56 := ⟨fun args w => Aj Try.func56 rfl (by decide) args w⟩
noncomputable def AJ (p1 : Int) : ((List (Int × Int × Int)) × Int) → Option (((List (Int × Int × Int)) × Int) ⊕ (List (Int × Int × Int)))
  | (x4, x5) => (if p1 < x5 then (ix x4 x5).bind fun x7 => (ix x4 (BH (x5 - 1))).bind fun x8 => some (decide ((DZ x7 x8) < 0)) else some false).bind fun x6 => (if x6 = true then (ix x4 (BH (x5 - 1))).bind fun x9 => (ix x4 x5).bind fun x10 => (ix x4 x5).bind fun x11 => (ix (AA x4 x5 x9) (BH (x5 - 1))).bind fun x12 => some (.inl ((AA (AA x4 x5 x9) (BH (x5 - 1)) x10), BH (x5 - 1))) else some (.inr x4))
noncomputable def AG (p1 : Int) (p2 : Int) : ((List (Int × Int × Int)) × Int) → Option (((List (Int × Int × Int)) × Int) ⊕ (List (Int × Int × Int)))
  | (x1, x2) => (if x2 < p2 then (AF (AJ p1) (x1, x2)).bind fun x3 => some (.inl (x3, BH (x2 + 1))) else some (.inr x1))
noncomputable def AW (p0 : List (Int × Int × Int)) (p1 : Int) (p2 : Int) : Option (List (Int × Int × Int)) := AF (AG p1 p2) (p0, BH (p1 + 1))
theorem Dg (Y : Nat → Prop) (X : List Nat) (w0 : World) (v1 : Value) (p0 : List (Int × Int × Int)) (p1 : Int) (p2 : Int) (r : (List (Int × Int × Int))) (H : AW p0 p1 p2 = some r) (hL : Stw ⟨Y, X, w0⟩ [] [row v1 74 CL p0] w0) :
    Calls Try.prog 91 #[v1, .int .i64 p1, .int .i64 p2, .func (.func 56) #[] #[]] w0 fun e w' => ∃ x : Unit, e = .returned (.tuple #[]) ∧ Stw ⟨Y, X, w0⟩ [] [row v1 74 CL r] w' := by
 refine enter Try.func91 Aa Try.ntmps91 Aa fun a F => ?_
 have W := hL
 unfold AW at H
 refine Ah (Ab ?_)
 refine ls F W Aa (Ae F Aa).q fun a w F W => ?_
 refine ls F W Aa (BZ F Aa Aa Aa).q fun a w F W => ?_
 refine ls F W Aa (Af F Aa).q fun a w F W => ?_
 refine Ad (Ac (Ay ?_))
 refine Bi H (fun s a w => Fr 53 [] [(0, v1), (1, .int .i64 p1), (2, .int .i64 p2), (3, .func (.func 56) #[] #[]), (8, .int .i64 s.2)] a ∧ Stw ⟨Y, X, w0⟩ [] [row v1 74 CL s.1] w) ⟨F.re ⟨rfl, Aa, Aa, Aa, Aa, trivial⟩, W⟩ fun s o a w H L1 hR => ?_
 obtain ⟨x1, x2⟩ := s
 obtain ⟨F, W⟩ := hR
 have F : Fr 53 [] [(0, v1), (1, .int .i64 p1), (2, .int .i64 p2), (3, .func (.func 56) #[] #[]), (8, .int .i64 x2)] a := F
 have W : Stw ⟨Y, X, w0⟩ [] [row v1 74 CL x1] w := W
 rw [AG] at H
 refine Ah (Ah (Ab ?_))
 iterate 2 refine ls F W Aa (Ae F Aa).q fun a w F W => ?_
 refine ls F W Aa (Bo F Aa Aa).q fun a w F W => ?_
 refine Ad (Ac ?_)
 refine AE F Aa (fun hb => ?_) fun hb => ?_
 ·
  have H := AU (Bz hb) H
  rw [hb] at F
  clear hb
  refine Az (Ac ?_)
  obtain ⟨o2, G2, K2⟩ := Al H
  refine AN (fun a w => ∃ x3 : List (Int × Int × Int), some (x3) = some o2 ∧ Fr 53 [] [(0, v1), (1, .int .i64 p1), (2, .int .i64 p2), (3, .func (.func 56) #[] #[]), (8, .int .i64 x2)] a ∧ Stw ⟨Y, X, w0⟩ [] [row v1 74 CL x3] w) ?_ ?_
  ·
   have H := G2
   clear G2 K2
   refine Ay (Ah (Ab ?_))
   refine ls F W Aa (Ae F Aa).q fun a w F W => ?_
   refine ls F W Aa (Af F Aa).q fun a w F W => ?_
   refine Ad (Ac (Ay ?_))
   refine Bi H (fun s a w => Fr 53 [] [(0, v1), (1, .int .i64 p1), (2, .int .i64 p2), (3, .func (.func 56) #[] #[]), (8, .int .i64 x2), (9, .int .i64 s.2)] a ∧ Stw ⟨Y, X, w0⟩ [] [row v1 74 CL s.1] w) ⟨F.re ⟨rfl, Aa, Aa, Aa, Aa, Aa, trivial⟩, W⟩ fun s o a w H L3 hR => ?_
   obtain ⟨x4, x5⟩ := s
   obtain ⟨F, W⟩ := hR
   have F : Fr 53 [] [(0, v1), (1, .int .i64 p1), (2, .int .i64 p2), (3, .func (.func 56) #[] #[]), (8, .int .i64 x2), (9, .int .i64 x5)] a := F
   have W : Stw ⟨Y, X, w0⟩ [] [row v1 74 CL x4] w := W
   rw [AJ] at H
   refine Ah ?_
   obtain ⟨o4, G4, K4⟩ := Al H
   refine AN (fun a w => ∃ x6 : Bool, some (x6) = some o4 ∧ Fr 53 [] [(0, v1), (1, .int .i64 p1), (2, .int .i64 p2), (3, .func (.func 56) #[] #[]), (8, .int .i64 x2), (9, .int .i64 x5), (34, .bool x6)] a ∧ Stw ⟨Y, X, w0⟩ [] [row v1 74 CL x4] w) ?_ ?_
   ·
    have H := G4
    clear G4 K4
    refine CS W MO (by kernel_rfl) ?_
    iterate 2 refine qs F Aa (Ae F Aa).q fun a F => ?_
    refine qs F Aa (En F Aa Aa).q fun a F => ?_
    refine qs F Aa (Ae F Aa).q fun a F => ?_
    rcases Bool.eq_false_or_eq_true (decide (p1 < x5)) with hb | hb
    ·
     have H := AU (Bz hb) H
     rw [hb] at F
     clear hb
     iterate 3 refine Bu F (Ag F Aa Aa Aa Aa) Aa (Ak Aa) (Ae F Aa).q fun a F => ?_
     obtain ⟨x7, h1, H⟩ := Al H
     refine Bu F (Ag F Aa Aa Aa Aa) Aa (Ak Aa) (AH (r := CL) N1 F Aa Aa (Au 0 Aa) h1).q fun a F => ?_
     refine Bu F (Ag F Aa Aa Aa Aa) Aa (Ak Aa) (Ax (y := Value.agg #[.int .i64 x7.1, .int .i64 x7.2.1, .int .i64 x7.2.2]) (j := 0) (i := x5) F Aa Aa (Au 0 Aa) h1 OX.to N6 Aa).q fun a F => ?_
     iterate 2 refine Bu F (Ag F Aa Aa Aa Aa) Aa (Ak Aa) (Ae F Aa).q fun a F => ?_
     refine Bu F (Ag F Aa Aa Aa Aa) Aa (Ak Aa) (FN F Aa Aa Aa).q fun a F => ?_
     obtain ⟨x8, h2, H⟩ := Al H
     refine Bu F (Ag F Aa Aa Aa Aa) Aa (Ak Aa) (AH (r := CL) N1 F Aa Aa (Au 0 Aa) h2).q fun a F => ?_
     refine Bu F (Ag F Aa Aa Aa Aa) Aa (Ak Aa) (Ax (y := Value.agg #[.int .i64 x8.1, .int .i64 x8.2.1, .int .i64 x8.2.2]) (j := 0) (i := BH (x5 - 1)) F Aa Aa (Au 0 Aa) h2 OX.to N6 Aa).q fun a F => ?_
     refine Bu F (Ag F Aa Aa Aa Aa) Aa (Ak Aa) (Ku (ws := [.agg #[.int .i64 x7.1, .int .i64 x7.2.1, .int .i64 x7.2.2], .agg #[.int .i64 x8.1, .int .i64 x8.2.1, .int .i64 x8.2.2]]) (v := Value.int .i64 (DZ x7 x8)) F SF Aa (fun w W => JW any w x7 x8 _ Aa)) fun a F => ?_
     refine Bu F (Ag F Aa Aa Aa Aa) Aa (Ak Aa) (Bo F Aa Aa).q fun a F => ?_
     refine qs F Aa (Ao F Aa Aa Aa).q fun a F => ?_
     refine Be fun w W => ?_
     refine Ac ?_
     exact ⟨_, H, F.re ⟨rfl, Aa, Aa, Aa, Aa, Aa, Aa, trivial⟩, W⟩
    have H := AV (Bw hb) H
    rw [hb] at F
    clear hb
    iterate 12 refine C0 F (Cg F Aa Aa Aa Aa Aa) Aa Aa fun a F => ?_
    refine qs F Aa (Ap F Aa Aa Aa).q fun a F => ?_
    refine Be fun w W => ?_
    refine Ac ?_
    exact ⟨_, H, F.re ⟨rfl, Aa, Aa, Aa, Aa, Aa, Aa, trivial⟩, W⟩
   rintro a w ⟨x6, hj, F, W⟩
   have hj := A1 hj
   subst hj
   have H := K4
   clear G4 K4
   refine AE F Aa (fun hb => ?_) fun hb => ?_
   ·
    have H := AU hb H
    rw [hb] at F
    clear hb
    refine Az (Ac (Ah (Ay ?_)))
    refine Lz [(true, 0), (true, 1), (true, 2), (true, 3), (true, 4), (true, 5), (true, 6), (true, 7), (true, 8), (true, 9), (true, 10), (true, 11), (true, 12), (true, 13), (true, 14), (false, 15), (true, 16), (false, 17)] (CN ⟨Y, X, w0⟩ [] [(some 15, row v1 74 CL x4)]) (fun ch a d v w h => by cases d <;> exact h) MO (by kernel_rfl) W (fun w W => ⟨_, _, W, AX, (all_cons (fun _ => (.head _)) AX)⟩) fun w W => ?_
    iterate 4 refine Fp (R := []) F Aa Aa (yC fun M Z hN hZ => Ae F Aa) Aa Aa fun a F => ?_
    refine Fp (R := []) F Aa Aa (yC fun M Z hN hZ => FN F Aa Aa Aa) Aa Aa fun a F => ?_
    iterate 2 refine Fp (R := []) F Aa Aa (yC fun M Z hN hZ => Ae F Aa) Aa Aa fun a F => ?_
    refine Fp (R := []) F Aa Aa (yC fun M Z hN hZ => FN F Aa Aa Aa) Aa Aa fun a F => ?_
    obtain ⟨x9, h3, H⟩ := Al H
    refine Fp (R := []) F Aa Aa (yC fun M Z hN hZ => EP (r := CL) N1 F Aa Aa (IF W (Au 0 Aa)) h3) Aa Aa fun a F => ?_
    refine Fp (R := [15]) F Aa Aa (yC fun M Z hN hZ => Ax (y := Value.agg #[.int .i64 x9.1, .int .i64 x9.2.1, .int .i64 x9.2.2]) (j := 0) (i := BH (x5 - 1)) F Aa Aa (HD (hZ ((some 15), row v1 74 CL x4) (.head _) Aa)) h3 OX.to N6 Aa) (by kernel_rfl) Aa fun a F => ?_
    iterate 2 refine Fp (R := []) F Aa Aa (yC fun M Z hN hZ => Ae F Aa) Aa Aa fun a F => ?_
    obtain ⟨x10, h4, H⟩ := Al H
    refine Fp (R := []) F Aa Aa (yC fun M Z hN hZ => EP (r := CL) N1 F Aa Aa (IF W (Au 0 Aa)) h4) Aa Aa fun a F => ?_
    refine Fp (R := [15]) F Aa Aa (yC fun M Z hN hZ => Ax (y := Value.agg #[.int .i64 x10.1, .int .i64 x10.2.1, .int .i64 x10.2.2]) (j := 0) (i := x5) F Aa Aa (HD (hZ ((some 15), row v1 74 CL x4) (.head _) Aa)) h4 OX.to N6 Aa) (by kernel_rfl) Aa fun a F => ?_
    obtain ⟨x11, h5, H⟩ := Al H
    refine Fp (R := []) F Aa Aa (yC fun M Z hN hZ => EP (r := CL) N1 F Aa Aa (IF W (Au 0 Aa)) h5) Aa Aa fun a F => ?_
    refine PF Aa ?_
    refine C1 (i := x5) (j := 0) (vs := [.int .i64 x9.1, .int .i64 x9.2.1, .int .i64 x9.2.2]) (x' := x9) F W Aa Aa Aa (k := 0) Aa Aa h5 N6 Aa Aa Aa Aa (fun A cs _ => OX.sto (by rfl) _ _ _) fun w W => ?_
    refine IZ (N2 := []) (NZ2 := []) (N3 := []) (NZ3 := [(some 15, row v1 74 CL x4)]) W Aa Aa AX (all_cons (fun h => CT (by kernel_rfl) h) AX) ?_
    obtain ⟨x12, h6, H⟩ := Al H
    refine Fp (R := []) F Aa Aa (yC fun M Z hN hZ => EP (r := CL) N1 F Aa Aa (IF W (Au 0 Aa)) h6) Aa Aa fun a F => ?_
    refine PF Aa ?_
    refine C1 (i := BH (x5 - 1)) (j := 0) (vs := [.int .i64 x10.1, .int .i64 x10.2.1, .int .i64 x10.2.2]) (x' := x10) F W Aa Aa Aa (k := 0) Aa Aa h6 N6 Aa Aa Aa Aa (fun A cs _ => OX.sto (by rfl) _ _ _) fun w W => ?_
    refine IZ (N2 := []) (NZ2 := []) (N3 := []) (NZ3 := [(some 15, row v1 74 CL x4)]) W Aa Aa AX (all_cons (fun h => CT (by kernel_rfl) h) AX) ?_
    refine Ow (AS (Ac (Ab ?_)))
    refine ls F W Aa (Ae F Aa).q fun a w F W => ?_
    refine ls F W Aa (FN F Aa Aa Aa).q fun a w F W => ?_
    refine ls F W Aa (Af F Aa).q fun a w F W => ?_
    refine Ad (Ac ?_)
    exact ⟨_, H, F.re ⟨rfl, Aa, Aa, Aa, Aa, Aa, trivial⟩, W⟩
   have H := AV (by rw [hb]; decide) H
   rw [hb] at F
   clear hb
   refine Bm ?_
   iterate 2 refine BT ?_
   refine Bn (AS (Ac ?_))
   have H := L3 _ H
   exact ⟨_, H, F.re ⟨rfl, Aa, Aa, Aa, Aa, trivial⟩, W⟩
  rintro a w ⟨x3, hj, F, W⟩
  have hj := A1 hj
  subst hj
  have H := K2
  clear G2 K2
  refine Ab ?_
  refine ls F W Aa (Ae F Aa).q fun a w F W => ?_
  refine ls F W Aa (BZ F Aa Aa Aa).q fun a w F W => ?_
  refine ls F W Aa (Af F Aa).q fun a w F W => ?_
  refine Ad (Ac ?_)
  exact ⟨_, H, F.re ⟨rfl, Aa, Aa, Aa, Aa, trivial⟩, W⟩
 have H := AV (Bw hb) H
 rw [hb] at F
 clear hb
 refine Bm ?_
 iterate 2 refine BT ?_
 refine Bn ?_
 have H := L1 _ H
 have H := A1 H
 subst H
 refine IE (.inr Aa) F Aa ?_
 exact ⟨(), Aa, W⟩
theorem Sh : Has Try.prog 91 := ⟨fun args w => Aj Try.func91 rfl (by decide) args w⟩
noncomputable def A8 (p0 : List (Int × Int × Int)) (p1 : Int) (p2 : Int) : Unit → Option (Unit ⊕ (List (Int × Int × Int)))
  | _ => (if (BH (p2 - p1)) ≤ 12 then (AW p0 p1 p2).bind fun x1 => some (.inr x1) else none)
noncomputable def A3 (p0 : List (Int × Int × Int)) (p1 : Int) (p2 : Int) (p3 : Int) : Option (List (Int × Int × Int)) := AF (A8 p0 p1 p2) ()
theorem D8 (Y : Nat → Prop) (X : List Nat) (w0 : World) (v1 : Value) (p0 : List (Int × Int × Int)) (p1 : Int) (p2 : Int) (p3 : Int) (r : (List (Int × Int × Int))) (H : A3 p0 p1 p2 p3 = some r) (hL : Stw ⟨Y, X, w0⟩ [] [row v1 74 CL p0] w0) :
    Calls Try.prog 80 #[v1, .int .i64 p1, .int .i64 p2, .int .i64 p3, .func (.func 56) #[] #[]] w0 fun e w' => ∃ x : Unit, e = .returned (.tuple #[]) ∧ Stw ⟨Y, X, w0⟩ [] [row v1 74 CL r] w' := by
 refine enter Try.func80 Aa Try.ntmps80 Aa fun a F => ?_
 have W := hL
 unfold A3 at H
 refine Ah (Ab ?_)
 refine ls F W Aa (Af F Aa).q fun a w F W => ?_
 refine Ad (Ac (Ah (Ab ?_)))
 refine ls F W Aa (Af F Aa).q fun a w F W => ?_
 refine Ad (Ac (Ay ?_))
 refine Bi H (fun s a w => Fr 148 [] [(0, v1), (1, .int .i64 p1), (2, .int .i64 p2), (3, .int .i64 p3), (4, .func (.func 56) #[] #[]), (10, .bool true), (11, .bool true)] a ∧ Stw ⟨Y, X, w0⟩ [] [row v1 74 CL p0] w) ⟨F.re ⟨rfl, Aa, Aa, Aa, Aa, Aa, Aa, trivial⟩, W⟩ fun s o a w H L1 hR => ?_
 obtain ⟨F, W⟩ := hR
 have F : Fr 148 [] [(0, v1), (1, .int .i64 p1), (2, .int .i64 p2), (3, .int .i64 p3), (4, .func (.func 56) #[] #[]), (10, .bool true), (11, .bool true)] a := F
 have W : Stw ⟨Y, X, w0⟩ [] [row v1 74 CL p0] w := W
 rw [A8] at H
 refine Ay (Ah (Ab ?_))
 iterate 2 refine ls F W Aa (Ae F Aa).q fun a w F W => ?_
 refine ls F W Aa (FN F Aa Aa Aa).q fun a w F W => ?_
 refine ls F W Aa (Af F Aa).q fun a w F W => ?_
 refine Ad (Ac (Ah (Ah (Ab ?_))))
 refine ls F W Aa (Ae F Aa).q fun a w F W => ?_
 refine ls F W Aa (Ju F Aa Aa).q fun a w F W => ?_
 refine Ad (Ac ?_)
 refine AE F Aa (fun hb => ?_) fun hb => ?_
 ·
  have H := AU (Bz hb) H
  rw [hb] at F
  clear hb
  refine Ah (Ab ?_)
  iterate 4 refine ls F W Aa (Ae F Aa).q fun a w F W => ?_
  obtain ⟨x1, h1, H⟩ := Al H
  refine BS (Ml := []) (Zl := [row v1 74 CL p0]) (M := []) (Z := []) (β := Unit) (rv := fun x => .tuple #[]) (MM := fun x => []) (ZZ := fun x => [row v1 74 CL x1]) F W Sh Aa Aa (fun hL => Dg _ _ w (v1) p0 p1 p2 _ h1 hL) fun x a w F W => ?_
  have W : Stw ⟨Y, X, w0⟩ [] [row v1 74 CL x1] w := W
  refine Ad (Ac (AC (AO (A5 (AO (A5 ?_))))))
  have H := L1 _ H
  have H := A1 H
  subst H
  refine IE (.inl Aa) F Aa ?_
  exact ⟨(), Aa, W⟩
 have H := AV (Bw hb) H
 rw [hb] at F
 clear hb
 exact nomatch H
theorem SW : Has Try.prog 80 := ⟨fun args w => Aj Try.func80 rfl (by decide) args w⟩
noncomputable def AQ (p0 : List (Int × Int × Int)) : Option (List (Int × Int × Int)) := (Cn (IntKind.u64.wrap (p0.length : Int))).bind fun x1 => (A3 p0 0 (p0.length : Int) x1).bind fun x2 => some x2
theorem DC (Y : Nat → Prop) (X : List Nat) (w0 : World) (v1 : Value) (p0 : List (Int × Int × Int)) (r : (List (Int × Int × Int))) (H : AQ p0 = some r) (hL : Stw ⟨Y, X, w0⟩ [] [row v1 74 CL p0] w0) :
    Calls Try.prog 55 #[v1, .func (.func 56) #[] #[]] w0 fun e w' => ∃ x : Unit, e = .returned (.tuple #[]) ∧ Stw ⟨Y, X, w0⟩ [] [row v1 74 CL r] w' := by
 refine enter Try.func55 Aa Try.ntmps55 Aa fun a F => ?_
 have W := hL
 unfold AQ at H
 refine Ah (Ab ?_)
 refine ls F W Aa (Ae F Aa).q fun a w F W => ?_
 refine ls F W Aa (BB (r := CL) (l := p0) O1 Aa F Aa (Au 0 Aa)).q fun a w F W => ?_
 refine ls F W Aa (Af F Aa).q fun a w F W => ?_
 refine Ad (Ac (Ab ?_))
 iterate 3 refine ls F W Aa (Ae F Aa).q fun a w F W => ?_
 refine ls F W Aa (Ej NY KX F Aa).q fun a w F W => ?_
 obtain ⟨x1, h1, H⟩ := Al H
 refine ls F W Aa (AZ (v := Value.int .i64 x1) F RT Aa (fun w W => Gc any w (IntKind.u64.wrap (p0.length : Int)) _ h1)) fun a w F W => ?_
 refine ls F W Aa (Ae F Aa).q fun a w F W => ?_
 obtain ⟨x2, h2, H⟩ := Al H
 refine BS (Ml := []) (Zl := [row v1 74 CL p0]) (M := []) (Z := []) (β := Unit) (rv := fun x => .tuple #[]) (MM := fun x => []) (ZZ := fun x => [row v1 74 CL x2]) F W SW Aa Aa (fun hL => D8 _ _ w (v1) p0 0 (p0.length : Int) x1 _ h2 hL) fun x a w F W => ?_
 have W : Stw ⟨Y, X, w0⟩ [] [row v1 74 CL x2] w := W
 refine Ad ?_
 have H := A1 H
 subst H
 refine IE (.inr Aa) F Aa ?_
 exact ⟨(), Aa, W⟩
theorem SJ : Has Try.prog 55 := ⟨fun args w => Aj Try.func55 rfl (by decide) args w⟩
noncomputable def CB (p0 : Int × (List (Int × Int × Int × Int × Int × Int)) × (List (Int × Int))) (p1 : Int) : ((List (Int × Int × Int)) × Int) → Option (((List (Int × Int × Int)) × Int) ⊕ (List (Int × Int × Int)))
  | (x2, x3) => (if x3 < (p0.2.1.length : Int) then ((ix p0.2.1 x3).bind fun x5 => (if p1 = x5.1 then (HV x2 ([(x5.2.1, x5.2.2.1, x3)] : List (Int × Int × Int))).bind fun x6 => some x6 else (if p1 = x5.2.2.1 then (HV x2 ([(x5.2.2.2.1, x5.1, x3)] : List (Int × Int × Int))).bind fun x7 => some x7 else some x2))).bind fun x4 => some (.inl (x4, BH (x3 + 1))) else some (.inr x2))
noncomputable def CO (p0 : Int × (List (Int × Int × Int × Int × Int × Int)) × (List (Int × Int))) (p1 : Int) : Option (List (Int × Int × Int)) := (AF (CB p0 p1) ([], 0)).bind fun x1 => (AQ x1).bind fun x8 => some x8
theorem Gz (Y : Nat → Prop) (w0 : World) (v1 : Value) (v2 : Value) (p0 : Int × (List (Int × Int × Int × Int × Int × Int)) × (List (Int × Int))) (p1 : Int) (r : (List (Int × Int × Int))) (H : CO p0 p1 = some r) (h_v1 : Sl w0 (NX []) Fm v1 p0.2.1) (h_v2 : Sl w0 (NX []) Fo v2 p0.2.2) :
    Calls Try.prog 34 #[.agg #[.int .i64 p0.1, v1, v2], .int .i64 p1] w0 fun e w' => ∃ x : Value, e = .returned (x) ∧ Stw ⟨Y, [], w0⟩ [] [row (x) 74 CL r] w' := by
 refine enter Try.func34 Aa Try.ntmps34 Aa fun a F => ?_
 have W := Stw.start Y w0
 unfold CO at H
 refine Ah (Ab ?_)
 refine Eo (cs := [.int .i64 p0.1, v1, v2]) F W Aa Aa Aa fun b1 a w F W => ?_
 refine ls F W Aa (Af F Aa).q fun a w F W => ?_
 refine Ad (Ac (Ah (Ab ?_)))
 refine ls F W Aa (Af F Aa).q fun a w F W => ?_
 refine Ad (Ac ?_)
 obtain ⟨o1, G1, K1⟩ := Al H
 refine AN (fun a w => ∃ x1 : List (Int × Int × Int), ∃ v3 : Value, some (x1) = some o1 ∧ Fr 47 [] [(4, .slice none 0 0), (5, v3)] a ∧ Stw ⟨Y, [], w0⟩ [(b1, [.int .i64 p0.1, v1, v2])] [row v3 74 CL x1] w) ?_ ?_
 ·
  have H := G1
  clear G1 K1
  refine Ah (Ab ?_)
  refine ls F W Aa (Ai Ct Aa Aa Aa IC F Aa 1 Aa).q fun a w F W => ?_
  refine ls F W Aa (An (v := v1) 0 F Aa Aa IC Aa).q fun a w F W => ?_
  refine ls F W Aa (BB (r := Fm) (l := p0.2.1) IR Aa F Aa (Am h_v1)).q fun a w F W => ?_
  refine ls F W Aa (Ae F Aa).q fun a w F W => ?_
  refine Ad (Ac (Ay ?_))
  have W := W.nilRow 74 CL
  refine Bi H (fun s a w => ∃ v4 : Value, Fr 47 [] [(1, .int .i64 p1), (4, .slice none 0 0), (5, v4), (9, v1), (10, .int .i64 (p0.2.1.length : Int)), (11, .int .i64 s.2)] a ∧ Stw ⟨Y, [], w0⟩ [(b1, [.int .i64 p0.1, v1, v2])] [row v4 74 CL s.1] w) ⟨(Value.slice none 0 0), F.re ⟨rfl, Aa, Aa, Aa, Aa, Aa, trivial⟩, W⟩ fun s o a w H L2 hR => ?_
  obtain ⟨x2, x3⟩ := s
  obtain ⟨v4, F, W⟩ := hR
  have F : Fr 47 [] [(1, .int .i64 p1), (4, .slice none 0 0), (5, v4), (9, v1), (10, .int .i64 (p0.2.1.length : Int)), (11, .int .i64 x3)] a := F
  have W : Stw ⟨Y, [], w0⟩ [(b1, [.int .i64 p0.1, v1, v2])] [row v4 74 CL x2] w := W
  rw [CB] at H
  refine Ah (Ab ?_)
  refine ls F W Aa (Bo F Aa Aa).q fun a w F W => ?_
  refine Ad (Ac (Ah ?_))
  refine AE F Aa (fun hb => ?_) fun hb => ?_
  ·
   have H := AU (Bz hb) H
   rw [hb] at F
   clear hb
   refine Az (Ac ?_)
   obtain ⟨o3, G3, K3⟩ := Al H
   refine AN (fun a w => ∃ x4 : List (Int × Int × Int), ∃ v5 : Value, some (x4) = some o3 ∧ Fr 47 [] [(1, .int .i64 p1), (4, .slice none 0 0), (5, v5), (9, v1), (10, .int .i64 (p0.2.1.length : Int)), (11, .int .i64 x3)] a ∧ Stw ⟨Y, [], w0⟩ [(b1, [.int .i64 p0.1, v1, v2])] [row v5 74 CL x4] w) ?_ ?_
   ·
    have H := G3
    clear G3 K3
    refine Ay (Ah (Ab ?_))
    refine ls F W Aa (Ae F Aa).q fun a w F W => ?_
    obtain ⟨x5, h1, H⟩ := Al H
    refine ls F W Aa (AH (r := Fm) Qm F Aa Aa (Am h_v1) h1).q fun a w F W => ?_
    refine ls F W Aa (Ax (y := Value.agg #[.int .i64 x5.1, .int .i64 x5.2.1, .int .i64 x5.2.2.1, .int .i64 x5.2.2.2.1, .int .i64 x5.2.2.2.2.1, .int .i64 x5.2.2.2.2.2]) (j := 0) (i := x3) F Aa Aa (Am h_v1) h1 QC.to ON Aa).q fun a w F W => ?_
    refine Ck (cs := [.int .i64 0, .int .i64 0, .int .i64 0, .int .i64 0, .int .i64 0, .int .i64 0]) F W Aa QO Aa fun b2 a w F W => ?_
    refine ls F W Aa (Af F Aa).q fun a w F W => ?_
    refine Cw (vs := [.int .i64 x5.1, .int .i64 x5.2.1, .int .i64 x5.2.2.1, .int .i64 x5.2.2.2.1, .int .i64 x5.2.2.2.2.1, .int .i64 x5.2.2.2.2.2]) (M' := [(b2, [.int .i64 x5.1, .int .i64 x5.2.1, .int .i64 x5.2.2.1, .int .i64 x5.2.2.2.1, .int .i64 x5.2.2.2.2.1, .int .i64 x5.2.2.2.2.2]), (b1, [.int .i64 p0.1, v1, v2])]) 0 F W Aa Aa Aa ON Aa Aa Aa Aa Aa fun w W => ?_
    refine Ad (Ac (Ah (Ab ?_)))
    refine ls F W Aa (Ae F Aa).q fun a w F W => ?_
    refine Ad (Ac (Ay (Ah (Ab ?_))))
    refine ls F W Aa (Ai C2 Aa Aa Aa T3 F Aa 0 Aa).q fun a w F W => ?_
    refine ls F W Aa (An (v := Value.int .i64 x5.1) 0 F Aa Aa T3 Aa).q fun a w F W => ?_
    refine ls F W Aa (Du F Aa Aa).q fun a w F W => ?_
    refine ls F W Aa (Af F Aa).q fun a w F W => ?_
    refine Ad (Ac ?_)
    refine AE F Aa (fun hb => ?_) fun hb => ?_
    ·
     have H := AU (Bz hb) H
     rw [hb] at F
     clear hb
     refine Ab ?_
     refine ls F W Aa (Ae F Aa).q fun a w F W => ?_
     refine ls F W Aa (Ai C2 Aa Aa Aa T3 F Aa 1 Aa).q fun a w F W => ?_
     refine ls F W Aa (An (v := Value.int .i64 x5.2.1) 0 F Aa Aa T3 Aa).q fun a w F W => ?_
     refine ls F W Aa (Ai C2 Aa Aa Aa T3 F Aa 2 Aa).q fun a w F W => ?_
     refine ls F W Aa (An (v := Value.int .i64 x5.2.2.1) 0 F Aa Aa T3 Aa).q fun a w F W => ?_
     refine ls F W Aa (Ae F Aa).q fun a w F W => ?_
     refine ls F W Aa (Dd (v := Value.agg #[.int .i64 x5.2.1, .int .i64 x5.2.2.1, .int .i64 x3]) Sf F Aa Aa Aa).q fun a w F W => ?_
     refine Ey (z := Value.agg #[.int .i64 0, .int .i64 0, .int .i64 0]) (cs := [.int .i64 x5.2.1, .int .i64 x5.2.2.1, .int .i64 x3]) CL ([(x5.2.1, x5.2.2.1, x3)] : List (Int × Int × Int)) F W Aa N1 Rc Aa Aa Aa Aa Aa Aa (OX.repL _ _ ([(x5.2.1, x5.2.2.1, x3)] : List (Int × Int × Int))) fun v6 a w F W => ?_
     obtain ⟨x6, h2, H⟩ := Al H
     refine DM (r := CL) (i := 1) F W Aa N1 Aa Aa Aa Aa (DT W 0 Aa) h2 Aa fun v7 a w F W => ?_
     have W : Stw ⟨Y, [], w0⟩ [(b2, [.int .i64 x5.1, .int .i64 x5.2.1, .int .i64 x5.2.2.1, .int .i64 x5.2.2.2.1, .int .i64 x5.2.2.2.2.1, .int .i64 x5.2.2.2.2.2]), (b1, [.int .i64 p0.1, v1, v2])] [row v7 74 CL x6, row v6 74 CL ([(x5.2.1, x5.2.2.1, x3)] : List (Int × Int × Int))] w := W
     refine ls F W Aa (Af F Aa).q fun a w F W => ?_
     refine Ad ?_
     iterate 2 refine AS ?_
     refine Ac ?_
     have W := W.frontM (i := 1) Aa Aa
     have W := W.sub (M' := [(b1, [.int .i64 p0.1, v1, v2])]) (Z' := [row v7 74 CL x6]) (List.Sublist.cons_cons _ (List.nil_sublist _)) (List.Sublist.cons_cons _ (List.nil_sublist _))
     exact ⟨_, (v7), H, F.re ⟨rfl, Aa, Aa, Aa, Aa, Aa, trivial⟩, W⟩
    have H := AV (Bw hb) H
    rw [hb] at F
    clear hb
    refine Ah (Ab ?_)
    refine ls F W Aa (Ai C2 Aa Aa Aa T3 F Aa 2 Aa).q fun a w F W => ?_
    refine ls F W Aa (An (v := Value.int .i64 x5.2.2.1) 0 F Aa Aa T3 Aa).q fun a w F W => ?_
    refine ls F W Aa (Du F Aa Aa).q fun a w F W => ?_
    refine ls F W Aa (Af F Aa).q fun a w F W => ?_
    refine Ad (Ac ?_)
    refine AE F Aa (fun hb => ?_) fun hb => ?_
    ·
     have H := AU (Bz hb) H
     rw [hb] at F
     clear hb
     refine Ab ?_
     refine ls F W Aa (Ae F Aa).q fun a w F W => ?_
     refine ls F W Aa (Ai C2 Aa Aa Aa T3 F Aa 3 Aa).q fun a w F W => ?_
     refine ls F W Aa (An (v := Value.int .i64 x5.2.2.2.1) 0 F Aa Aa T3 Aa).q fun a w F W => ?_
     refine ls F W Aa (Ai C2 Aa Aa Aa T3 F Aa 0 Aa).q fun a w F W => ?_
     refine ls F W Aa (An (v := Value.int .i64 x5.1) 0 F Aa Aa T3 Aa).q fun a w F W => ?_
     refine ls F W Aa (Ae F Aa).q fun a w F W => ?_
     refine ls F W Aa (Dd (v := Value.agg #[.int .i64 x5.2.2.2.1, .int .i64 x5.1, .int .i64 x3]) Sf F Aa Aa Aa).q fun a w F W => ?_
     refine Ey (z := Value.agg #[.int .i64 0, .int .i64 0, .int .i64 0]) (cs := [.int .i64 x5.2.2.2.1, .int .i64 x5.1, .int .i64 x3]) CL ([(x5.2.2.2.1, x5.1, x3)] : List (Int × Int × Int)) F W Aa N1 Rc Aa Aa Aa Aa Aa Aa (OX.repL _ _ ([(x5.2.2.2.1, x5.1, x3)] : List (Int × Int × Int))) fun v8 a w F W => ?_
     obtain ⟨x7, h3, H⟩ := Al H
     refine DM (r := CL) (i := 1) F W Aa N1 Aa Aa Aa Aa (DT W 0 Aa) h3 Aa fun v9 a w F W => ?_
     have W : Stw ⟨Y, [], w0⟩ [(b2, [.int .i64 x5.1, .int .i64 x5.2.1, .int .i64 x5.2.2.1, .int .i64 x5.2.2.2.1, .int .i64 x5.2.2.2.2.1, .int .i64 x5.2.2.2.2.2]), (b1, [.int .i64 p0.1, v1, v2])] [row v9 74 CL x7, row v8 74 CL ([(x5.2.2.2.1, x5.1, x3)] : List (Int × Int × Int))] w := W
     refine ls F W Aa (Af F Aa).q fun a w F W => ?_
     refine Ad ?_
     iterate 2 refine AS ?_
     refine Ac ?_
     have W := W.frontM (i := 1) Aa Aa
     have W := W.sub (M' := [(b1, [.int .i64 p0.1, v1, v2])]) (Z' := [row v9 74 CL x7]) (List.Sublist.cons_cons _ (List.nil_sublist _)) (List.Sublist.cons_cons _ (List.nil_sublist _))
     exact ⟨_, (v9), H, F.re ⟨rfl, Aa, Aa, Aa, Aa, Aa, trivial⟩, W⟩
    have H := AV (Bw hb) H
    rw [hb] at F
    clear hb
    refine Az ?_
    iterate 2 refine AS ?_
    refine Ac ?_
    have W := W.frontM (i := 1) Aa Aa
    have W := W.sub (M' := [(b1, [.int .i64 p0.1, v1, v2])]) (Z' := [row v4 74 CL x2]) (List.Sublist.cons_cons _ (List.nil_sublist _)) (List.Sublist.refl _)
    exact ⟨_, (v4), H, F.re ⟨rfl, Aa, Aa, Aa, Aa, Aa, trivial⟩, W⟩
   rintro a w ⟨x4, v5, hj, F, W⟩
   have hj := A1 hj
   subst hj
   have H := K3
   clear G3 K3
   refine Ab ?_
   refine ls F W Aa (BZ F Aa Aa Aa).q fun a w F W => ?_
   refine ls F W Aa (Ae F Aa).q fun a w F W => ?_
   refine Ad (Ac ?_)
   exact ⟨_, H, (v5), F.re ⟨rfl, Aa, Aa, Aa, Aa, Aa, trivial⟩, W⟩
  have H := AV (Bw hb) H
  rw [hb] at F
  clear hb
  refine Bm ?_
  iterate 2 refine BT ?_
  refine Bn (Ac ?_)
  have H := L2 _ H
  exact ⟨_, (v4), H, F.re ⟨rfl, Aa, trivial⟩, W⟩
 rintro a w ⟨x1, v3, hj, F, W⟩
 have hj := A1 hj
 subst hj
 have H := K1
 clear G1 K1
 refine Ah (Ab ?_)
 refine ls F W Aa (Ae F Aa).q fun a w F W => ?_
 obtain ⟨x8, h4, H⟩ := Al H
 refine BS (Ml := []) (Zl := [row v3 74 CL x1]) (M := [(b1, [.int .i64 p0.1, v1, v2])]) (Z := []) (β := Unit) (rv := fun x => .tuple #[]) (MM := fun x => []) (ZZ := fun x => [row v3 74 CL x8]) F W SJ Aa Aa (fun hL => DC _ _ w (v3) x1 _ h4 hL) fun x a w F W => ?_
 have W : Stw ⟨Y, [], w0⟩ [(b1, [.int .i64 p0.1, v1, v2])] [row v3 74 CL x8] w := W
 refine Ad (Ac (Ah (Ab ?_)))
 refine ls F W Aa (Ae F Aa).q fun a w F W => ?_
 refine ls F W Aa (Af F Aa).q fun a w F W => ?_
 refine Ad (Ac (AC ?_))
 have H := A1 H
 subst H
 refine A2 (.inl Aa) F W Aa (Aw F Aa) ?_
 have W := W.sub (M' := []) (Z' := [row v3 74 CL x8]) (List.nil_sublist _) (List.Sublist.refl _)
 exact ⟨(v3), Aa, W⟩
theorem Rz : Has Try.prog 34 := ⟨fun args w => Aj Try.func34 rfl (by decide) args w⟩
def B8 (p0 : List Nat) (p1 : Int) : Bool := (decide (0 ≤ p1) && decide (p1 < (p0.length : Int)))
theorem Gq (Y : Nat → Prop) (w0 : World) (v1 : Value) (p0 : List Nat) (p1 : Int) (r : Bool) (H : B8 p0 p1 = r) (h_v1 : Sl w0 (NX []) (Rp.flt .f64) v1 p0) :
    Calls Try.prog 43 #[v1, .int .i64 p1] w0 fun e w' => e = .returned (.bool r) ∧ Below w0.heap.size w0 w' := by
 refine enter Try.func43 Aa Try.ntmps43 Aa fun a F => ?_
 have W := Stw.start Y w0
 unfold B8 at H
 refine Ah (Ab ?_)
 refine ls F W Aa (Af F Aa).q fun a w F W => ?_
 refine Ad (Ac ?_)
 refine AN (fun a w => Fr 13 [] [(4, .bool (decide (0 ≤ p1) && decide (p1 < (p0.length : Int))))] a ∧ Stw ⟨Y, [], w0⟩ [] [] w) ?_ ?_
 ·
  refine Ab ?_
  refine ls F W Aa (Ae F Aa).q fun a w F W => ?_
  refine ls F W Aa (E0 F Aa Aa).q fun a w F W => ?_
  refine ls F W Aa (Ae F Aa).q fun a w F W => ?_
  rcases Bool.eq_false_or_eq_true (decide (0 ≤ p1)) with hb0 | hb0
  ·
   rw [hb0] at F
   iterate 2 refine AD F W (Ag F Aa Aa Aa Aa) Aa (Ak Aa) (Ae F Aa).q fun a w F W => ?_
   refine AD F W (Ag F Aa Aa Aa Aa) Aa (Ak Aa) (BB (r := (Rp.flt .f64)) (l := p0) KJ Aa F Aa (Am h_v1)).q fun a w F W => ?_
   refine AD F W (Ag F Aa Aa Aa Aa) Aa (Ak Aa) (Bo F Aa Aa).q fun a w F W => ?_
   refine ls F W Aa (Ao F Aa Aa Aa).q fun a w F W => ?_
   refine ls F W Aa (Af F Aa).q fun a w F W => ?_
   refine Ad (Ac ?_)
   exact ⟨F.re ⟨(by show some (Value.bool (decide (p1 < (p0.length : Int)))) = some (Value.bool (decide (0 ≤ p1) && decide (p1 < (p0.length : Int)))); try rw [hb0]; all_goals simp only [Bool.not_true, Bool.not_false, Bool.true_and, Bool.false_and, Bool.true_or, Bool.false_or, Bool.and_true, Bool.or_false, cond_true, cond_false]), trivial⟩, W⟩
  rw [hb0] at F
  iterate 4 refine Cs F Aa Aa Aa Aa Aa Aa Aa fun a F => ?_
  refine ls F W Aa (Ap F Aa Aa Aa).q fun a w F W => ?_
  refine ls F W Aa (Af F Aa).q fun a w F W => ?_
  refine Ad (Ac ?_)
  exact ⟨F.re ⟨(by show some (Value.bool false) = some (Value.bool (decide (0 ≤ p1) && decide (p1 < (p0.length : Int)))); try rw [hb0]; all_goals simp only [Bool.not_true, Bool.not_false, Bool.true_and, Bool.false_and, Bool.true_or, Bool.false_or, Bool.and_true, Bool.or_false, cond_true, cond_false]), trivial⟩, W⟩
 rintro a w ⟨F, W⟩
 refine AC ?_
 subst H
 refine A2 (.inl Aa) F W Aa (Aw F Aa) ?_
 exact ⟨rfl, W.done⟩
theorem R9 : Has Try.prog 43 := ⟨fun args w => Aj Try.func43 rfl (by decide) args w⟩
noncomputable def Di (p0 : List Nat) (p1 : Int) : Option Bool := (if (B8 p0 p1) = true then (ix p0 p1).bind fun x2 => (C6 1).bind fun x3 => some (Ng x2 x3) else some false).bind fun x1 => some x1
theorem F2 (Y : Nat → Prop) (w0 : World) (v1 : Value) (p0 : List Nat) (p1 : Int) (r : Bool) (H : Di p0 p1 = some r) (h_v1 : Sl w0 (NX []) (Rp.flt .f64) v1 p0) :
    Calls Try.prog 22 #[v1, .int .i64 p1] w0 fun e w' => e = .returned (.bool r) ∧ Below w0.heap.size w0 w' := by
 refine enter Try.func22 Aa Try.ntmps22 Aa fun a F => ?_
 have W := Stw.start Y w0
 unfold Di at H
 refine Ah (Ab ?_)
 refine ls F W Aa (Af F Aa).q fun a w F W => ?_
 refine Ad (Ac ?_)
 obtain ⟨o1, G1, K1⟩ := Al H
 refine AN (fun a w => ∃ x1 : Bool, some (x1) = some o1 ∧ Fr 16 [] [(4, .bool x1)] a ∧ Stw ⟨Y, [], w0⟩ [] [] w) ?_ ?_
 ·
  have H := G1
  clear G1 K1
  refine CS W MO (by kernel_rfl) ?_
  iterate 2 refine qs F Aa (Ae F Aa).q fun a F => ?_
  refine qs F Aa (AZ (v := Value.bool (B8 p0 p1)) F R9 Aa (fun w W => Gq any w (v1) p0 p1 _ Aa (((Am h_v1) : Ee _ _ _ _ _ _) w W).nx)) fun a F => ?_
  refine qs F Aa (Ae F Aa).q fun a F => ?_
  rcases Bool.eq_false_or_eq_true (B8 p0 p1) with hb | hb
  ·
   have H := AU hb H
   rw [hb] at F
   clear hb
   iterate 2 refine Bu F (Ag F Aa Aa Aa Aa) Aa (Ak Aa) (Ae F Aa).q fun a F => ?_
   obtain ⟨x2, h1, H⟩ := Al H
   refine Bu F (Ag F Aa Aa Aa Aa) Aa (Ak Aa) (AH (r := (Rp.flt .f64)) Iy F Aa Aa (Am h_v1) h1).q fun a F => ?_
   refine Bu F (Ag F Aa Aa Aa Aa) Aa (Ak Aa) (Ax (y := Value.float .f64 x2) (j := 0) (i := p1) F Aa Aa (Am h_v1) h1 Fl.flt.to JB Aa).q fun a F => ?_
   obtain ⟨x3, h2, H⟩ := Al H
   refine Bu F (Ag F Aa Aa Aa Aa) Aa (Ak Aa) (AZ (v := Value.float .f64 x3) F QW Aa (fun w W => Fj any w 1 _ h2)) fun a F => ?_
   refine Bu F (Ag F Aa Aa Aa Aa) Aa (Ak Aa) (KR F Aa Aa).q fun a F => ?_
   refine qs F Aa (Ao F Aa Aa Aa).q fun a F => ?_
   refine qs F Aa (Af F Aa).q fun a F => ?_
   refine Be fun w W => ?_
   refine Ac ?_
   exact ⟨_, H, F.re ⟨rfl, trivial⟩, W⟩
  have H := AV (by rw [hb]; decide) H
  rw [hb] at F
  clear hb
  iterate 6 refine C0 F (Cg F Aa Aa Aa Aa Aa) Aa Aa fun a F => ?_
  refine qs F Aa (Ap F Aa Aa Aa).q fun a F => ?_
  refine qs F Aa (Af F Aa).q fun a F => ?_
  refine Be fun w W => ?_
  refine Ac ?_
  exact ⟨_, H, F.re ⟨rfl, trivial⟩, W⟩
 rintro a w ⟨x1, hj, F, W⟩
 have hj := A1 hj
 subst hj
 have H := K1
 clear G1 K1
 refine AC ?_
 have H := A1 H
 subst H
 refine A2 (.inl Aa) F W Aa (Aw F Aa) ?_
 exact ⟨rfl, W.done⟩
theorem Rf : Has Try.prog 22 := ⟨fun args w => Aj Try.func22 rfl (by decide) args w⟩
def Bx (p0 : Nat) : Nat := (if (B4 p0) = true then 9221120237041090561 else p0)
theorem Hd (Y : Nat → Prop) (w0 : World)  (p0 : Nat) (r : Nat) (H : Bx p0 = r)  :
    Calls Try.prog 45 #[.float .f64 p0] w0 fun e w' => e = .returned (.float .f64 r) ∧ Below w0.heap.size w0 w' := by
 refine enter Try.func45 Aa Try.ntmps45 Aa fun a F => ?_
 have W := Stw.start Y w0
 unfold Bx at H
 refine Ah (Ab ?_)
 refine ls F W Aa (Af F Aa).q fun a w F W => ?_
 refine Ad (Ac (Ah (Ah (Ab ?_))))
 refine ls F W Aa (Ae F Aa).q fun a w F W => ?_
 refine ls F W Aa (AZ (v := Value.bool (B4 p0)) F Se Aa (fun w W => HX any w p0 _ Aa)) fun a w F W => ?_
 refine Ad (Ac ?_)
 refine AE F Aa (fun hb => ?_) fun hb => ?_
 ·
  have H := AU hb H
  rw [hb] at F
  clear hb
  refine Ah (Ab ?_)
  refine ls F W Aa (J0 (v := Value.float .f64 9221120237041090561) F Rj Aa (fun w => rfl)).q fun a w F W => ?_
  refine ls F W Aa (Af F Aa).q fun a w F W => ?_
  refine Ad (Ac (AC (AO ?_)))
  subst H
  refine A2 (.inl Aa) F W Aa (Aw F Aa) ?_
  exact ⟨rfl, W.done⟩
 have H := AV (by rw [hb]; decide) H
 rw [hb] at F
 clear hb
 refine Az (Ac (Ah (Ab ?_)))
 refine ls F W Aa (Ae F Aa).q fun a w F W => ?_
 refine ls F W Aa (Af F Aa).q fun a w F W => ?_
 refine Ad (Ac (AC ?_))
 subst H
 refine A2 (.inl Aa) F W Aa (Aw F Aa) ?_
 exact ⟨rfl, W.done⟩
theorem JC {a b : Nat} (h : FG a = FG b) : Bx a = Bx b := by
  refine Q1 (f := fun a : Nat => Bx a) (fun a h => ?_) h
  first
  | (have e1 : B4 a = true := by unfold B4; rw [M0 h]; rfl
     have e2 : B4 9221120237041090561 = true := by unfold B4; rw [M0 (by decide)]; rfl
     show Bx a = Bx 9221120237041090561
     unfold Bx
     simp only [e1, e2, if_true]; done)
  | exact JR h
theorem RW : Has Try.prog 45 := ⟨fun args w => Aj Try.func45 rfl (by decide) args w⟩
def A6 (p0 : Nat) (p1 : Nat) : Nat := (if (LM (Bx (Fy p0 p1)) 0) = true then 0 else (Bx (Fy p0 p1)))
theorem FX (Y : Nat → Prop) (w0 : World)  (p0 : Nat) (p1 : Nat) (r : Nat) (H : A6 p0 p1 = r)  :
    Calls Try.prog 35 #[.float .f64 p0, .float .f64 p1] w0 fun e w' => e = .returned (.float .f64 r) ∧ Below w0.heap.size w0 w' := by
 refine enter Try.func35 Aa Try.ntmps35 Aa fun a F => ?_
 have W := Stw.start Y w0
 unfold A6 at H
 refine Ah (Ab ?_)
 refine ls F W Aa (Af F Aa).q fun a w F W => ?_
 refine Ad (Ac (Ah (Ab ?_)))
 iterate 2 refine ls F W Aa (Ae F Aa).q fun a w F W => ?_
 refine Qo F W Aa Aa Aa fun b1 a w c_b1 F W => ?_
 refine ls F W Aa (AZ (v := Value.float .f64 (Bx b1)) F RW Aa (fun w W => Hd any w b1 _ Aa)) fun a w F W => ?_
 rw [JC c_b1] at F
 refine ls F W Aa (Af F Aa).q fun a w F W => ?_
 refine Ad (Ac (Ah (Ah (Ab ?_))))
 refine ls F W Aa (Ae F Aa).q fun a w F W => ?_
 refine ls F W Aa (Mr F Aa Aa).q fun a w F W => ?_
 refine Ad (Ac ?_)
 refine AE F Aa (fun hb => ?_) fun hb => ?_
 ·
  have H := AU hb H
  rw [hb] at F
  clear hb
  refine Ah (Ab ?_)
  refine ls F W Aa (Af F Aa).q fun a w F W => ?_
  refine Ad (Ac (AC (AO ?_)))
  subst H
  refine A2 (.inl Aa) F W Aa (Aw F Aa) ?_
  exact ⟨rfl, W.done⟩
 have H := AV (by rw [hb]; decide) H
 rw [hb] at F
 clear hb
 refine Az (Ac (Ah (Ab ?_)))
 refine ls F W Aa (Ae F Aa).q fun a w F W => ?_
 refine ls F W Aa (Af F Aa).q fun a w F W => ?_
 refine Ad (Ac (AC ?_))
 subst H
 refine A2 (.inl Aa) F W Aa (Aw F Aa) ?_
 exact ⟨rfl, W.done⟩
theorem Ro : Has Try.prog 35 := ⟨fun args w => Aj Try.func35 rfl (by decide) args w⟩
noncomputable def Ca (p2 : Int) (x4 : List Nat) : (List Int × Int) → Option ((List Int × Int) ⊕ (List Int))
  | (x7, x8) => (if x8 < ((AA x4 p2 0).length : Int) then (HV x7 ([x8] : List Int)).bind fun x9 => some (.inl (x9, BH (x8 + 1))) else some (.inr x7))
noncomputable def BK (p1 : List Nat) (x13 : List Int) (x14 : Int) (x16 : (List (Int × Int × Int))) : (Int × List Nat) → Option ((Int × List Nat) ⊕ ((List Int × List Nat) ⊕ (List Nat)))
  | (x17, x18) => (if x17 < (x16.length : Int) then ((ix x16 x17).bind fun x20 => (Di p1 x20.2.2).bind fun x21 => (if x21 = true then (ix x18 x20.2.1).bind fun x22 => (ix p1 x20.2.2).bind fun x23 => (ix x18 x14).bind fun x24 => (I5 x22 (A6 x23 x24)).bind fun x25 => (ix x18 x20.2.1).bind fun x26 => some (AA x18 x20.2.1 x25) else some x18)).bind fun x19 => some (.inl (BH (x17 + 1), x19)) else (E6 x13 1 (x13.length : Int)).bind fun x27 => some (.inr (.inl (x27, x18))))
noncomputable def Cd (p0 : Int × (List (Int × Int × Int × Int × Int × Int)) × (List (Int × Int))) (p1 : List Nat) : (List Int × List Nat) → Option ((List Int × List Nat) ⊕ (List Nat))
  | (x11, x12) => (if 0 < (x11.length : Int) then (Bg x11 x12).bind fun x13 => (ix x13 0).bind fun x14 => (E6 x13 1 (x13.length : Int)).bind fun x15 => (CO p0 x14).bind fun x16 => AF (BK p1 x13 x14 x16) (0, x12) else some (.inr x12))
noncomputable def Ce (p0 : Int × (List (Int × Int × Int × Int × Int × Int)) × (List (Int × Int))) (p1 : List Nat) (p2 : Int) : Option (List Nat) := ((CE p0 p1).bind fun x2 => (if (!x2) = true then some true else (if p2 < 0 then some true else some (decide (p0.1 ≤ p2))))).bind fun x1 => (if x1 = true then some ([] : List Nat) else (C6 1).bind fun x3 => (AP ([x3] : List Nat) p0.1).bind fun x4 => (ix x4 p2).bind fun x5 => (AF (Ca p2 x4) ([], 0)).bind fun x6 => (AF (Cd p0 p1) (x6, (AA x4 p2 0))).bind fun x10 => (Rk x10).bind fun x28 => some x10)
theorem Fw (Y : Nat → Prop) (w0 : World) (v1 : Value) (v2 : Value) (v3 : Value) (p0 : Int × (List (Int × Int × Int × Int × Int × Int)) × (List (Int × Int))) (p1 : List Nat) (p2 : Int) (r : List Nat) (H : Ce p0 p1 p2 = some r) (h_v1 : Sl w0 (NX []) Fm v1 p0.2.1) (h_v2 : Sl w0 (NX []) Fo v2 p0.2.2) (h_v3 : Sl w0 (NX []) (Rp.flt .f64) v3 p1) :
    Calls Try.prog 12 #[.agg #[.int .i64 p0.1, v1, v2], v3, .int .i64 p2] w0 fun e w' => ∃ x : {x : Value // NN x (r)}, e = .returned (x.1) ∧ Stw ⟨Y, [], w0⟩ [] [row (x.1) 56 (Rp.flt .f64) r] w' := by
 refine enter Try.func12 Aa Try.ntmps12 Aa fun a F => ?_
 have W := Stw.start Y w0
 unfold Ce at H
 refine Ah (Ab ?_)
 refine Eo (cs := [.int .i64 p0.1, v1, v2]) F W Aa Aa Aa fun b1 a w F W => ?_
 refine ls F W Aa (Af F Aa).q fun a w F W => ?_
 refine Ad (Ac (Ah ?_))
 obtain ⟨o1, G1, K1⟩ := Al H
 refine AN (fun a w => ∃ x1 : Bool, some (x1) = some o1 ∧ Fr 90 [] [(1, v3), (2, .int .i64 p2), (3, .pointer (some ⟨b1, 0, none⟩)), (6, .slice none 0 0), (26, .bool x1)] a ∧ Stw ⟨Y, [], w0⟩ [(b1, [.int .i64 p0.1, v1, v2])] [] w) ?_ ?_
 ·
  have H := G1
  clear G1 K1
  refine Ab ?_
  refine ls F W Aa (An (v := Value.agg #[.int .i64 p0.1, v1, v2]) 0 F Aa Aa Jj Aa).q fun a w F W => ?_
  refine ls F W Aa (Ae F Aa).q fun a w F W => ?_
  obtain ⟨x2, h1, H⟩ := Al H
  refine ls F W Aa (AZ (v := Value.bool x2) F Rr Aa (fun w W => FF any w (v1) (v2) (v3) p0 p1 _ h1 (((Am h_v1) : Ee _ _ _ _ _ _) w W).nx (((Am h_v2) : Ee _ _ _ _ _ _) w W).nx (((Am h_v3) : Ee _ _ _ _ _ _) w W).nx)) fun a w F W => ?_
  refine ls F W Aa (Fa F Aa).q fun a w F W => ?_
  refine ls F W Aa (Ae F Aa).q fun a w F W => ?_
  rcases Bool.eq_false_or_eq_true (!x2) with hb | hb
  ·
   have H := AU hb H
   rw [hb] at F
   clear hb
   iterate 2 refine Cs F Aa Aa Aa Aa Aa Aa Aa fun a F => ?_
   refine ls F W Aa (Ao F Aa Aa Aa).q fun a w F W => ?_
   refine ls F W Aa (Ae F Aa).q fun a w F W => ?_
   iterate 4 refine Cs F Aa Aa Aa Aa Aa Aa Aa fun a F => ?_
   refine ls F W Aa (Ao F Aa Aa Aa).q fun a w F W => ?_
   refine Ad (Ac ?_)
   exact ⟨_, H, F.re ⟨rfl, Aa, Aa, Aa, Aa, trivial⟩, W⟩
  have H := AV (by rw [hb]; decide) H
  rw [hb] at F
  clear hb
  refine AD F W (Ag F Aa Aa Aa Aa) Aa (Ak Aa) (Ae F Aa).q fun a w F W => ?_
  refine AD F W (Ag F Aa Aa Aa Aa) Aa (Ak Aa) (Bo F Aa Aa).q fun a w F W => ?_
  refine ls F W Aa (Ap F Aa Aa Aa).q fun a w F W => ?_
  refine ls F W Aa (Ae F Aa).q fun a w F W => ?_
  rcases Bool.eq_false_or_eq_true (decide (p2 < 0)) with hb | hb
  ·
   have H := AU (Bz hb) H
   rw [hb] at F
   clear hb
   iterate 4 refine Cs F Aa Aa Aa Aa Aa Aa Aa fun a F => ?_
   refine ls F W Aa (Ao F Aa Aa Aa).q fun a w F W => ?_
   refine Ad (Ac ?_)
   exact ⟨_, H, F.re ⟨rfl, Aa, Aa, Aa, Aa, trivial⟩, W⟩
  have H := AV (Bw hb) H
  rw [hb] at F
  clear hb
  refine AD F W (Ag F Aa Aa Aa Aa) Aa (Ak Aa) (Ae F Aa).q fun a w F W => ?_
  refine AD F W (Ag F Aa Aa Aa Aa) Aa (Ak Aa) (Ai Ct Aa Aa Aa T3 F Aa 0 Aa).q fun a w F W => ?_
  refine AD F W (Ag F Aa Aa Aa Aa) Aa (Ak Aa) (An (v := Value.int .i64 p0.1) 0 F Aa Aa T3 Aa).q fun a w F W => ?_
  refine AD F W (Ag F Aa Aa Aa Aa) Aa (Ak Aa) (E0 F Aa Aa).q fun a w F W => ?_
  refine ls F W Aa (Ap F Aa Aa Aa).q fun a w F W => ?_
  refine Ad (Ac ?_)
  exact ⟨_, H, F.re ⟨rfl, Aa, Aa, Aa, Aa, trivial⟩, W⟩
 rintro a w ⟨x1, hj, F, W⟩
 have hj := A1 hj
 subst hj
 have H := K1
 clear G1 K1
 refine AE F Aa (fun hb => ?_) fun hb => ?_
 ·
  have H := AU hb H
  rw [hb] at F
  clear hb
  refine Ah (Ab ?_)
  refine ls F W Aa (Af F Aa).q fun a w F W => ?_
  refine Ad (Ac (AC (AO ?_)))
  have H := A1 H
  subst H
  refine A2 (.inl Aa) F W Aa (Aw F Aa) ?_
  have W := W.nilRow 56 (Rp.flt .f64)
  have W := W.sub (M' := []) (Z' := [row (Value.slice none 0 0) 56 (Rp.flt .f64) ([])]) (List.nil_sublist _) (List.Sublist.refl _)
  exact ⟨⟨Value.slice none 0 0, fun h => nomatch h⟩, Aa, W⟩
 have H := AV (by rw [hb]; decide) H
 rw [hb] at F
 clear hb
 refine Az (Ac (Ah ?_))
 obtain ⟨x3, h2, H⟩ := Al H
 obtain ⟨x4, h3, H⟩ := Al H
 refine PU (fun a w => ∃ b2 : Nat, ∃ v4 : Value, ∃ v5 : Value, Fr 90 [] [(1, v3), (2, .int .i64 p2), (3, .pointer (some ⟨b1, 0, none⟩)), (6, .slice none 0 0), (7, .pointer (some ⟨b2, 0, none⟩)), (26, .bool false), (27, .float .f64 x3), (28, v4), (29, .pointer (some ⟨b1, 0, none⟩)), (30, .int .i64 p0.1), (31, v5)] a ∧ Stw ⟨Y, [], w0⟩ [(b2, [v5]), (b1, [.int .i64 p0.1, v1, v2])] [row v5 56 (Rp.flt .f64) x4, LW v4 (Rp.flt .f64) ([x3] : List Nat)] w) ?_ ?_
 ·
  refine OC (PT.st 2 (PT.st 3 (PT.alt 0 (PT.alt 1 (PT.alt 4 (PT.alt 5 (PT.alt 6 PT.done PT.stop) PT.stop) (PT.alt 5 (PT.alt 4 (PT.alt 6 PT.done PT.stop) PT.stop) PT.stop)) (PT.alt 5 (PT.alt 1 (PT.alt 4 (PT.alt 6 PT.done PT.stop) PT.stop) PT.stop) PT.stop)) (PT.alt 5 (PT.alt 0 (PT.alt 1 (PT.alt 4 (PT.alt 6 PT.done PT.stop) PT.stop) PT.stop) PT.stop) PT.stop)))) (CN ⟨Y, [], w0⟩ [(some 4, b1, [.int .i64 p0.1, v1, v2])] []) (fun ch a d v w h => by cases d <;> exact h) MO (by kernel_rfl) W (fun w W => ⟨_, _, W, (all_cons (fun _ => (.head _)) AX), AX⟩) fun w W => ?_
  refine QY (R := []) F Aa Aa (yC fun M Z hN hZ => Ai Ct Aa Aa Aa T3 F Aa 0 Aa) Aa Aa fun a F => ?_
  refine QY (R := [4]) F Aa Aa (yC fun M Z hN hZ => Oh (cs := [.int .i64 p0.1, v1, v2]) (v := Value.int .i64 p0.1) F Aa (hN ((some 4), b1, [.int .i64 p0.1, v1, v2]) (.head _) Aa) T3 Aa) (by kernel_rfl) Aa fun a F => ?_
  refine Mq Aa ?_ ?_
  ·
   refine ls F W Aa (AZ (v := Value.float .f64 x3) F QW Aa (fun w W => Fj any w 1 _ h2)) fun a w F W => ?_
   refine CD (N2 := []) (NZ2 := []) (N3 := [(some 4, b1, [.int .i64 p0.1, v1, v2])]) (NZ3 := []) W Aa Aa (all_cons (fun _ => (.head _)) AX) AX ?_
   refine Mq Aa ?_ ?_
   ·
    refine Ey (z := Value.float .f64 0) (cs := [.float .f64 x3]) (Rp.flt .f64) ([x3] : List Nat) F W Aa Iy Qe Aa Aa Aa Aa Aa Aa (Fl.flt.repL _ _ ([x3] : List Nat)) fun v4 a w F W => ?_
    refine CD (N2 := []) (NZ2 := []) (N3 := [(some 4, b1, [.int .i64 p0.1, v1, v2])]) (NZ3 := []) W Aa Aa (all_cons (fun _ => (.head _)) AX) AX ?_
    refine Mq Aa ?_ ?_
    ·
     have W := W.freeze
     refine BS (Ml := []) (Zl := []) (M := [(b1, [.int .i64 p0.1, v1, v2])]) (Z := [LW v4 (Rp.flt .f64) ([x3] : List Nat)]) (β := Value) (rv := fun x => x) (MM := fun x => []) (ZZ := fun x => [row x 56 (Rp.flt .f64) x4]) F W Rh Aa Aa (fun hL => Bv _ w (v4) ([x3] : List Nat) p0.1 _ h3 (W.item (i := 0) Aa)) fun x a w F W => ?_
     obtain ⟨v5, rfl⟩ : ∃ y, y = x := ⟨x, rfl⟩
     have W : Stw ⟨Y, [], w0⟩ [(b1, [.int .i64 p0.1, v1, v2])] [row v5 56 (Rp.flt .f64) x4, LW v4 (Rp.flt .f64) ([x3] : List Nat)] w := W
     refine CD (N2 := []) (NZ2 := []) (N3 := [(some 4, b1, [.int .i64 p0.1, v1, v2])]) (NZ3 := []) W Aa Aa (all_cons (fun h => CT (by kernel_rfl) h) AX) AX ?_
     refine GI Aa ?_
     refine Ck (cs := [.slice none 0 0]) F W Aa Rl Aa fun b2 a w F W => ?_
     refine CD (N2 := []) (NZ2 := []) (N3 := [(some 4, b1, [.int .i64 p0.1, v1, v2])]) (NZ3 := []) W Aa Aa (all_cons (fun h => CT (by kernel_rfl) h) AX) AX ?_
     refine GI Aa ?_
     refine HF (M' := [(b2, [v5]), (b1, [.int .i64 p0.1, v1, v2])]) 0 F W Aa Aa Aa MI (W.one (k := 0) Aa) Aa Aa fun w W => ?_
     refine CD (N2 := []) (NZ2 := []) (N3 := [(some 4, b1, [.int .i64 p0.1, v1, v2])]) (NZ3 := []) W Aa Aa (all_cons (fun h => CT (by kernel_rfl) h) AX) AX ?_
     have W := W.frontZ (i := 1) Aa Aa
     have W := W.frontZ (i := 1) Aa Aa
     have W := W.frontM (i := 1) Aa Aa
     have W := W.frontM (i := 1) Aa Aa
     refine KN ?_
     exact ⟨b2, v4, v5, F.re ⟨rfl, Aa, Aa, Aa, Aa, Aa, Aa, Aa, Aa, Aa, Aa, trivial⟩, W⟩
    refine Mq Aa ?_ ?_
    ·
     refine Ck (cs := [.slice none 0 0]) F W Aa Rl Aa fun b2 a w F W => ?_
     refine CD (N2 := []) (NZ2 := []) (N3 := [(some 4, b1, [.int .i64 p0.1, v1, v2])]) (NZ3 := []) W Aa Aa (all_cons (fun _ => (.tail _ (.head _))) AX) AX ?_
     refine GI Aa ?_
     have W := W.freeze
     refine BS (Ml := []) (Zl := []) (M := [(b2, [.slice none 0 0]), (b1, [.int .i64 p0.1, v1, v2])]) (Z := [LW v4 (Rp.flt .f64) ([x3] : List Nat)]) (β := Value) (rv := fun x => x) (MM := fun x => []) (ZZ := fun x => [row x 56 (Rp.flt .f64) x4]) F W Rh Aa Aa (fun hL => Bv _ w (v4) ([x3] : List Nat) p0.1 _ h3 (W.item (i := 0) Aa)) fun x a w F W => ?_
     obtain ⟨v5, rfl⟩ : ∃ y, y = x := ⟨x, rfl⟩
     have W : Stw ⟨Y, [], w0⟩ [(b2, [.slice none 0 0]), (b1, [.int .i64 p0.1, v1, v2])] [row v5 56 (Rp.flt .f64) x4, LW v4 (Rp.flt .f64) ([x3] : List Nat)] w := W
     refine CD (N2 := []) (NZ2 := []) (N3 := [(some 4, b1, [.int .i64 p0.1, v1, v2])]) (NZ3 := []) W Aa Aa (all_cons (fun h => CT (by kernel_rfl) h) AX) AX ?_
     refine GI Aa ?_
     refine HF (M' := [(b2, [v5]), (b1, [.int .i64 p0.1, v1, v2])]) 0 F W Aa Aa Aa MI (W.one (k := 0) Aa) Aa Aa fun w W => ?_
     refine CD (N2 := []) (NZ2 := []) (N3 := [(some 4, b1, [.int .i64 p0.1, v1, v2])]) (NZ3 := []) W Aa Aa (all_cons (fun h => CT (by kernel_rfl) h) AX) AX ?_
     have W := W.frontZ (i := 1) Aa Aa
     have W := W.frontZ (i := 1) Aa Aa
     have W := W.frontM (i := 1) Aa Aa
     have W := W.frontM (i := 1) Aa Aa
     refine KN ?_
     exact ⟨b2, v4, v5, F.re ⟨rfl, Aa, Aa, Aa, Aa, Aa, Aa, Aa, Aa, Aa, Aa, trivial⟩, W⟩
    exact trivial
   refine Mq Aa ?_ ?_
   ·
    refine Ck (cs := [.slice none 0 0]) F W Aa Rl Aa fun b2 a w F W => ?_
    refine CD (N2 := []) (NZ2 := []) (N3 := [(some 4, b1, [.int .i64 p0.1, v1, v2])]) (NZ3 := []) W Aa Aa (all_cons (fun _ => (.tail _ (.head _))) AX) AX ?_
    refine GI Aa ?_
    refine Ey (z := Value.float .f64 0) (cs := [.float .f64 x3]) (Rp.flt .f64) ([x3] : List Nat) F W Aa Iy Qe Aa Aa Aa Aa Aa Aa (Fl.flt.repL _ _ ([x3] : List Nat)) fun v4 a w F W => ?_
    refine CD (N2 := []) (NZ2 := []) (N3 := [(some 4, b1, [.int .i64 p0.1, v1, v2])]) (NZ3 := []) W Aa Aa (all_cons (fun _ => (.tail _ (.head _))) AX) AX ?_
    refine GI Aa ?_
    have W := W.freeze
    refine BS (Ml := []) (Zl := []) (M := [(b2, [.slice none 0 0]), (b1, [.int .i64 p0.1, v1, v2])]) (Z := [LW v4 (Rp.flt .f64) ([x3] : List Nat)]) (β := Value) (rv := fun x => x) (MM := fun x => []) (ZZ := fun x => [row x 56 (Rp.flt .f64) x4]) F W Rh Aa Aa (fun hL => Bv _ w (v4) ([x3] : List Nat) p0.1 _ h3 (W.item (i := 0) Aa)) fun x a w F W => ?_
    obtain ⟨v5, rfl⟩ : ∃ y, y = x := ⟨x, rfl⟩
    have W : Stw ⟨Y, [], w0⟩ [(b2, [.slice none 0 0]), (b1, [.int .i64 p0.1, v1, v2])] [row v5 56 (Rp.flt .f64) x4, LW v4 (Rp.flt .f64) ([x3] : List Nat)] w := W
    refine CD (N2 := []) (NZ2 := []) (N3 := [(some 4, b1, [.int .i64 p0.1, v1, v2])]) (NZ3 := []) W Aa Aa (all_cons (fun h => CT (by kernel_rfl) h) AX) AX ?_
    refine GI Aa ?_
    refine HF (M' := [(b2, [v5]), (b1, [.int .i64 p0.1, v1, v2])]) 0 F W Aa Aa Aa MI (W.one (k := 0) Aa) Aa Aa fun w W => ?_
    refine CD (N2 := []) (NZ2 := []) (N3 := [(some 4, b1, [.int .i64 p0.1, v1, v2])]) (NZ3 := []) W Aa Aa (all_cons (fun h => CT (by kernel_rfl) h) AX) AX ?_
    have W := W.frontZ (i := 1) Aa Aa
    have W := W.frontZ (i := 1) Aa Aa
    have W := W.frontM (i := 1) Aa Aa
    have W := W.frontM (i := 1) Aa Aa
    refine KN ?_
    exact ⟨b2, v4, v5, F.re ⟨rfl, Aa, Aa, Aa, Aa, Aa, Aa, Aa, Aa, Aa, Aa, trivial⟩, W⟩
   exact trivial
  refine Mq Aa ?_ ?_
  ·
   refine Ck (cs := [.slice none 0 0]) F W Aa Rl Aa fun b2 a w F W => ?_
   refine CD (N2 := []) (NZ2 := []) (N3 := [(some 4, b1, [.int .i64 p0.1, v1, v2])]) (NZ3 := []) W Aa Aa (all_cons (fun _ => (.tail _ (.head _))) AX) AX ?_
   refine GI Aa ?_
   refine ls F W Aa (AZ (v := Value.float .f64 x3) F QW Aa (fun w W => Fj any w 1 _ h2)) fun a w F W => ?_
   refine CD (N2 := []) (NZ2 := []) (N3 := [(some 4, b1, [.int .i64 p0.1, v1, v2])]) (NZ3 := []) W Aa Aa (all_cons (fun _ => (.tail _ (.head _))) AX) AX ?_
   refine GI Aa ?_
   refine Ey (z := Value.float .f64 0) (cs := [.float .f64 x3]) (Rp.flt .f64) ([x3] : List Nat) F W Aa Iy Qe Aa Aa Aa Aa Aa Aa (Fl.flt.repL _ _ ([x3] : List Nat)) fun v4 a w F W => ?_
   refine CD (N2 := []) (NZ2 := []) (N3 := [(some 4, b1, [.int .i64 p0.1, v1, v2])]) (NZ3 := []) W Aa Aa (all_cons (fun _ => (.tail _ (.head _))) AX) AX ?_
   refine GI Aa ?_
   have W := W.freeze
   refine BS (Ml := []) (Zl := []) (M := [(b2, [.slice none 0 0]), (b1, [.int .i64 p0.1, v1, v2])]) (Z := [LW v4 (Rp.flt .f64) ([x3] : List Nat)]) (β := Value) (rv := fun x => x) (MM := fun x => []) (ZZ := fun x => [row x 56 (Rp.flt .f64) x4]) F W Rh Aa Aa (fun hL => Bv _ w (v4) ([x3] : List Nat) p0.1 _ h3 (W.item (i := 0) Aa)) fun x a w F W => ?_
   obtain ⟨v5, rfl⟩ : ∃ y, y = x := ⟨x, rfl⟩
   have W : Stw ⟨Y, [], w0⟩ [(b2, [.slice none 0 0]), (b1, [.int .i64 p0.1, v1, v2])] [row v5 56 (Rp.flt .f64) x4, LW v4 (Rp.flt .f64) ([x3] : List Nat)] w := W
   refine CD (N2 := []) (NZ2 := []) (N3 := [(some 4, b1, [.int .i64 p0.1, v1, v2])]) (NZ3 := []) W Aa Aa (all_cons (fun h => CT (by kernel_rfl) h) AX) AX ?_
   refine GI Aa ?_
   refine HF (M' := [(b2, [v5]), (b1, [.int .i64 p0.1, v1, v2])]) 0 F W Aa Aa Aa MI (W.one (k := 0) Aa) Aa Aa fun w W => ?_
   refine CD (N2 := []) (NZ2 := []) (N3 := [(some 4, b1, [.int .i64 p0.1, v1, v2])]) (NZ3 := []) W Aa Aa (all_cons (fun h => CT (by kernel_rfl) h) AX) AX ?_
   have W := W.frontZ (i := 1) Aa Aa
   have W := W.frontZ (i := 1) Aa Aa
   have W := W.frontM (i := 1) Aa Aa
   have W := W.frontM (i := 1) Aa Aa
   refine KN ?_
   exact ⟨b2, v4, v5, F.re ⟨rfl, Aa, Aa, Aa, Aa, Aa, Aa, Aa, Aa, Aa, Aa, trivial⟩, W⟩
  exact trivial
 rintro a w ⟨b2, v4, v5, F, W⟩
 refine Ac (Ah (Ab ?_))
 refine ls F W Aa (An (v := v5) 0 F Aa Aa MI Aa).q fun a w F W => ?_
 refine ls F W Aa (Ae F Aa).q fun a w F W => ?_
 obtain ⟨x5, h4, H⟩ := Al H
 refine ls F W Aa (AH (r := (Rp.flt .f64)) Iy F Aa Aa (Au 0 Aa) h4).q fun a w F W => ?_
 refine C1 (i := p2) (j := 0) (vs := [.float .f64 0]) (x' := 0) F W Aa Aa Aa (k := 0) Aa Aa h4 JB Aa Aa Aa Aa (fun A cs _ => Fl.flt.sto (by rfl) _ _ _) fun w W => ?_
 refine Ad (Ac (Ah (Ab ?_)))
 refine ls F W Aa (Af F Aa).q fun a w F W => ?_
 refine Ad (Ac ?_)
 obtain ⟨o2, G2, K2⟩ := Al H
 refine AN (fun a w => ∃ x6 : List Int, ∃ v6 : Value, some (x6) = some o2 ∧ Fr 90 [] [(1, v3), (3, .pointer (some ⟨b1, 0, none⟩)), (6, .slice none 0 0), (7, .pointer (some ⟨b2, 0, none⟩)), (8, v6)] a ∧ Stw ⟨Y, [], w0⟩ [(b2, [v5]), (b1, [.int .i64 p0.1, v1, v2])] [row v6 3 (Rp.int .i64) x6, row v5 56 (Rp.flt .f64) (AA x4 p2 0)] w) ?_ ?_
 ·
  have H := G2
  clear G2 K2
  refine Ah (Ab ?_)
  refine ls F W Aa (An (v := v5) 0 F Aa Aa MI Aa).q fun a w F W => ?_
  refine ls F W Aa (BB (r := (Rp.flt .f64)) (l := (AA x4 p2 0)) KJ Aa F Aa (Au 0 Aa)).q fun a w F W => ?_
  refine ls F W Aa (Ae F Aa).q fun a w F W => ?_
  refine Ad (Ac (Ay ?_))
  have W := W.nilRow 3 (Rp.int .i64)
  have W := W.frontZ (i := 1) Aa Aa
  have W := W.frontZ (i := 1) Aa Aa
  have W := W.frontM (i := 1) Aa Aa
  have W := W.frontM (i := 1) Aa Aa
  have W := W.sub (M' := [(b2, [v5]), (b1, [.int .i64 p0.1, v1, v2])]) (Z' := [row (Value.slice none 0 0) 3 (Rp.int .i64) ([]), row v5 56 (Rp.flt .f64) (AA x4 p2 0)]) (List.Sublist.refl _) (List.Sublist.cons_cons _ (List.Sublist.cons_cons _ (List.nil_sublist _)))
  refine Bi H (fun s a w => ∃ v7 : Value, Fr 90 [] [(1, v3), (3, .pointer (some ⟨b1, 0, none⟩)), (6, .slice none 0 0), (7, .pointer (some ⟨b2, 0, none⟩)), (8, v7), (36, .int .i64 ((AA x4 p2 0).length : Int)), (37, .int .i64 s.2)] a ∧ Stw ⟨Y, [], w0⟩ [(b2, [v5]), (b1, [.int .i64 p0.1, v1, v2])] [row v7 3 (Rp.int .i64) s.1, row v5 56 (Rp.flt .f64) (AA x4 p2 0)] w) ⟨(Value.slice none 0 0), F.re ⟨rfl, Aa, Aa, Aa, Aa, Aa, Aa, trivial⟩, W⟩ fun s o a w H L3 hR => ?_
  obtain ⟨x7, x8⟩ := s
  obtain ⟨v7, F, W⟩ := hR
  have F : Fr 90 [] [(1, v3), (3, .pointer (some ⟨b1, 0, none⟩)), (6, .slice none 0 0), (7, .pointer (some ⟨b2, 0, none⟩)), (8, v7), (36, .int .i64 ((AA x4 p2 0).length : Int)), (37, .int .i64 x8)] a := F
  have W : Stw ⟨Y, [], w0⟩ [(b2, [v5]), (b1, [.int .i64 p0.1, v1, v2])] [row v7 3 (Rp.int .i64) x7, row v5 56 (Rp.flt .f64) (AA x4 p2 0)] w := W
  rw [Ca] at H
  refine Ah (Ab ?_)
  refine ls F W Aa (Bo F Aa Aa).q fun a w F W => ?_
  refine Ad (Ac (Ah ?_))
  refine AE F Aa (fun hb => ?_) fun hb => ?_
  ·
   have H := AU (Bz hb) H
   rw [hb] at F
   clear hb
   refine Az (Ac (Ah (Ay (Ah (Ab ?_)))))
   refine ls F W Aa (Ae F Aa).q fun a w F W => ?_
   refine ls F W Aa (Af F Aa).q fun a w F W => ?_
   refine Ad (Ac (Ab ?_))
   iterate 2 refine ls F W Aa (Ae F Aa).q fun a w F W => ?_
   refine Ey (z := Value.int .i64 0) (cs := [.int .i64 x8]) (Rp.int .i64) ([x8] : List Int) F W Aa FI Z3 Aa Aa Aa Aa Aa Aa (Fl.int.repL _ _ ([x8] : List Int)) fun v8 a w F W => ?_
   obtain ⟨x9, h5, H⟩ := Al H
   refine DM (r := (Rp.int .i64)) (i := 1) F W Aa FI Aa Aa Aa Aa (DT W 0 Aa) h5 Aa fun v9 a w F W => ?_
   have W : Stw ⟨Y, [], w0⟩ [(b2, [v5]), (b1, [.int .i64 p0.1, v1, v2])] [row v9 3 (Rp.int .i64) x9, row v8 3 (Rp.int .i64) ([x8] : List Int), row v5 56 (Rp.flt .f64) (AA x4 p2 0)] w := W
   refine ls F W Aa (Af F Aa).q fun a w F W => ?_
   refine Ad (AS (Ac (Ab ?_)))
   refine ls F W Aa (BZ F Aa Aa Aa).q fun a w F W => ?_
   refine ls F W Aa (Ae F Aa).q fun a w F W => ?_
   refine Ad (Ac ?_)
   have W := W.frontZ (i := 2) Aa Aa
   have W := W.frontZ (i := 1) Aa Aa
   have W := W.frontM (i := 1) Aa Aa
   have W := W.frontM (i := 1) Aa Aa
   have W := W.sub (M' := [(b2, [v5]), (b1, [.int .i64 p0.1, v1, v2])]) (Z' := [row v9 3 (Rp.int .i64) x9, row v5 56 (Rp.flt .f64) (AA x4 p2 0)]) (List.Sublist.refl _) (List.Sublist.cons_cons _ (List.Sublist.cons_cons _ (List.nil_sublist _)))
   exact ⟨_, H, (v9), F.re ⟨rfl, Aa, Aa, Aa, Aa, Aa, Aa, trivial⟩, W⟩
  have H := AV (Bw hb) H
  rw [hb] at F
  clear hb
  refine Bm ?_
  iterate 2 refine BT ?_
  refine Bn (Ac ?_)
  have W := W.frontZ (i := 1) Aa Aa
  have W := W.frontZ (i := 1) Aa Aa
  have W := W.frontM (i := 1) Aa Aa
  have W := W.frontM (i := 1) Aa Aa
  have H := L3 _ H
  exact ⟨_, (v7), H, F.re ⟨rfl, Aa, Aa, Aa, Aa, trivial⟩, W⟩
 rintro a w ⟨x6, v6, hj, F, W⟩
 have hj := A1 hj
 subst hj
 have H := K2
 clear G2 K2
 obtain ⟨o4, G4, K4⟩ := Al H
 refine AN (fun a w => ∃ x10 : List Nat, some (x10) = some o4 ∧ Fr 90 [] [(6, .slice none 0 0), (7, .pointer (some ⟨b2, 0, none⟩))] a ∧ Stw ⟨Y, [], w0⟩ [(b2, [v5]), (b1, [.int .i64 p0.1, v1, v2])] [row v5 56 (Rp.flt .f64) x10] w) ?_ ?_
 ·
  have H := G4
  clear G4 K4
  refine Ay ?_
  have W := W.frontZ (i := 1) Aa Aa
  have W := W.frontZ (i := 1) Aa Aa
  have W := W.frontM (i := 1) Aa Aa
  have W := W.frontM (i := 1) Aa Aa
  refine Bi H (fun s a w => ∃ v10 : Value, Fr 90 [] [(1, v3), (3, .pointer (some ⟨b1, 0, none⟩)), (6, .slice none 0 0), (7, .pointer (some ⟨b2, 0, none⟩)), (8, v10)] a ∧ Stw ⟨Y, [], w0⟩ [(b2, [v5]), (b1, [.int .i64 p0.1, v1, v2])] [row v10 3 (Rp.int .i64) s.1, row v5 56 (Rp.flt .f64) s.2] w) ⟨(v6), F.re ⟨rfl, Aa, Aa, Aa, Aa, trivial⟩, W⟩ fun s o a w H L5 hR => ?_
  obtain ⟨x11, x12⟩ := s
  obtain ⟨v10, F, W⟩ := hR
  have F : Fr 90 [] [(1, v3), (3, .pointer (some ⟨b1, 0, none⟩)), (6, .slice none 0 0), (7, .pointer (some ⟨b2, 0, none⟩)), (8, v10)] a := F
  have W : Stw ⟨Y, [], w0⟩ [(b2, [v5]), (b1, [.int .i64 p0.1, v1, v2])] [row v10 3 (Rp.int .i64) x11, row v5 56 (Rp.flt .f64) x12] w := W
  rw [Cd] at H
  refine Ah (Ah (Ab ?_))
  refine ls F W Aa (Ae F Aa).q fun a w F W => ?_
  refine ls F W Aa (BB (r := (Rp.int .i64)) (l := x11) JN Aa F Aa (Au 0 Aa)).q fun a w F W => ?_
  refine ls F W Aa (En F Aa Aa).q fun a w F W => ?_
  refine Ad (Ac ?_)
  refine AE F Aa (fun hb => ?_) fun hb => ?_
  ·
   have H := AU (Bz hb) H
   rw [hb] at F
   clear hb
   refine Az (Ac (Ay (Ah (Ab ?_))))
   refine ls F W Aa (Ae F Aa).q fun a w F W => ?_
   refine ls F W Aa (Js (us := []) (vs := [.pointer (some ⟨b2, 0, none⟩)]) F Aa Aa).q fun a w F W => ?_
   obtain ⟨x13, h6, H⟩ := Al H
   refine BS (Ml := []) (Zl := [row v10 3 (Rp.int .i64) x11]) (M := [(b2, [v5]), (b1, [.int .i64 p0.1, v1, v2])]) (Z := [row v5 56 (Rp.flt .f64) x12]) (β := Unit) (rv := fun x => .tuple #[]) (MM := fun x => []) (ZZ := fun x => [row v10 3 (Rp.int .i64) x13]) F W Sv Aa Aa (fun hL => Fq _ _ w (v10) b2 (v5) x11 x12 _ h6 (RA (Ml := []) (Zl := [row v10 3 (Rp.int .i64) x11]) (M := [(b2, [v5]), (b1, [.int .i64 p0.1, v1, v2])]) (Z := [row v5 56 (Rp.flt .f64) x12]) W 0 Aa) (Q6 (Ml := []) (Zl := [row v10 3 (Rp.int .i64) x11]) W 0 Aa) hL) fun x a w F W => ?_
   have W : Stw ⟨Y, [], w0⟩ [(b2, [v5]), (b1, [.int .i64 p0.1, v1, v2])] [row v10 3 (Rp.int .i64) x13, row v5 56 (Rp.flt .f64) x12] w := W
   refine Ad (Ac (Ah (Ab ?_)))
   refine ls F W Aa (Ae F Aa).q fun a w F W => ?_
   obtain ⟨x14, h7, H⟩ := Al H
   refine ls F W Aa (AH (r := (Rp.int .i64)) FI F Aa Aa (Au 0 Aa) h7).q fun a w F W => ?_
   refine ls F W Aa (Ax (y := Value.int .i64 x14) (j := 0) (i := 0) F Aa Aa (Au 0 Aa) h7 Fl.int.to T3 Aa).q fun a w F W => ?_
   refine ls F W Aa (Af F Aa).q fun a w F W => ?_
   refine Ad (Ac (Ah (Ab ?_)))
   refine ls F W Aa (Ae F Aa).q fun a w F W => ?_
   obtain ⟨x15, h8, H⟩ := Al H
   refine ls F W Aa (GW (r := (Rp.int .i64)) FI F Aa Aa Aa (Au 0 Aa) h8).q fun a w F W => ?_
   refine ls F W Aa (Af F Aa).q fun a w F W => ?_
   refine Ad (Ac (Ah (Ab ?_)))
   refine ls F W Aa (An (v := Value.agg #[.int .i64 p0.1, v1, v2]) 1 F Aa Aa Jj Aa).q fun a w F W => ?_
   refine ls F W Aa (Ae F Aa).q fun a w F W => ?_
   obtain ⟨x16, h9, H⟩ := Al H
   refine BS (Ml := []) (Zl := []) (M := [(b2, [v5]), (b1, [.int .i64 p0.1, v1, v2])]) (Z := [row v10 3 (Rp.int .i64) x13, row v5 56 (Rp.flt .f64) x12]) (β := Value) (rv := fun x => x) (MM := fun x => []) (ZZ := fun x => [row x 74 CL x16]) F W Rz Aa Aa (fun hL => Gz _ w (v1) (v2) p0 x14 _ h9 ((Am h_v1) w W).nx ((Am h_v2) w W).nx) fun x a w F W => ?_
   obtain ⟨v11, rfl⟩ : ∃ y, y = x := ⟨x, rfl⟩
   have W : Stw ⟨Y, [], w0⟩ [(b2, [v5]), (b1, [.int .i64 p0.1, v1, v2])] [row v11 74 CL x16, row v10 3 (Rp.int .i64) x13, row v5 56 (Rp.flt .f64) x12] w := W
   refine ls F W Aa (BB (r := CL) (l := x16) O1 Aa F Aa (Au 0 Aa)).q fun a w F W => ?_
   refine ls F W Aa (Ae F Aa).q fun a w F W => ?_
   refine Ad (Ac (Ay ?_))
   have W := W.frontZ (i := 2) Aa Aa
   have W := W.frontZ (i := 1) Aa Aa
   have W := W.frontZ (i := 2) Aa Aa
   have W := W.frontM (i := 1) Aa Aa
   have W := W.frontM (i := 1) Aa Aa
   refine Bi H (fun s a w => Fr 90 [] [(1, v3), (3, .pointer (some ⟨b1, 0, none⟩)), (6, .slice none 0 0), (7, .pointer (some ⟨b2, 0, none⟩)), (8, (Cx v10 (1 : Int) (x13.length : Int) 1)), (10, .int .i64 x14), (58, v11), (59, .int .i64 (x16.length : Int)), (60, .int .i64 s.1)] a ∧ Stw ⟨Y, [], w0⟩ [(b2, [v5]), (b1, [.int .i64 p0.1, v1, v2])] [row v10 3 (Rp.int .i64) x13, row v11 74 CL x16, row v5 56 (Rp.flt .f64) s.2] w) ⟨F.re ⟨rfl, Aa, Aa, Aa, Aa, Aa, Aa, Aa, Aa, trivial⟩, W⟩ fun s o a w H L6 hR => ?_
   obtain ⟨x17, x18⟩ := s
   obtain ⟨F, W⟩ := hR
   have F : Fr 90 [] [(1, v3), (3, .pointer (some ⟨b1, 0, none⟩)), (6, .slice none 0 0), (7, .pointer (some ⟨b2, 0, none⟩)), (8, (Cx v10 (1 : Int) (x13.length : Int) 1)), (10, .int .i64 x14), (58, v11), (59, .int .i64 (x16.length : Int)), (60, .int .i64 x17)] a := F
   have W : Stw ⟨Y, [], w0⟩ [(b2, [v5]), (b1, [.int .i64 p0.1, v1, v2])] [row v10 3 (Rp.int .i64) x13, row v11 74 CL x16, row v5 56 (Rp.flt .f64) x18] w := W
   rw [BK] at H
   refine Ah (Ab ?_)
   refine ls F W Aa (Bo F Aa Aa).q fun a w F W => ?_
   refine Ad (Ac (Ah ?_))
   refine AE F Aa (fun hb => ?_) fun hb => ?_
   ·
    have H := AU (Bz hb) H
    rw [hb] at F
    clear hb
    refine Az (Ac ?_)
    obtain ⟨o7, G7, K7⟩ := Al H
    refine AN (fun a w => ∃ x19 : List Nat, some (x19) = some o7 ∧ Fr 90 [] [(1, v3), (3, .pointer (some ⟨b1, 0, none⟩)), (6, .slice none 0 0), (7, .pointer (some ⟨b2, 0, none⟩)), (8, (Cx v10 (1 : Int) (x13.length : Int) 1)), (10, .int .i64 x14), (58, v11), (59, .int .i64 (x16.length : Int)), (60, .int .i64 x17)] a ∧ Stw ⟨Y, [], w0⟩ [(b2, [v5]), (b1, [.int .i64 p0.1, v1, v2])] [row v10 3 (Rp.int .i64) x13, row v11 74 CL x16, row v5 56 (Rp.flt .f64) x19] w) ?_ ?_
    ·
     have H := G7
     clear G7 K7
     refine Ay (Ah (Ab ?_))
     obtain ⟨x20, h10, H⟩ := Al H
     refine ls F W Aa (AH (r := CL) N1 F Aa Aa (Au 1 Aa) h10).q fun a w F W => ?_
     refine ls F W Aa (Ax (y := Value.agg #[.int .i64 x20.1, .int .i64 x20.2.1, .int .i64 x20.2.2]) (j := 0) (i := x17) F Aa Aa (Au 1 Aa) h10 OX.to N6 Aa).q fun a w F W => ?_
     refine Ck (cs := [.int .i64 0, .int .i64 0, .int .i64 0]) F W Aa Rc Aa fun b3 a w F W => ?_
     refine Cw (vs := [.int .i64 x20.1, .int .i64 x20.2.1, .int .i64 x20.2.2]) (M' := [(b3, [.int .i64 x20.1, .int .i64 x20.2.1, .int .i64 x20.2.2]), (b2, [v5]), (b1, [.int .i64 p0.1, v1, v2])]) 0 F W Aa Aa Aa N6 Aa Aa Aa Aa Aa fun w W => ?_
     refine Ad (Ac (Ah (Ab ?_)))
     refine ls F W Aa (Ae F Aa).q fun a w F W => ?_
     refine ls F W Aa (Ai GY Aa Aa Aa T3 F Aa 2 Aa).q fun a w F W => ?_
     refine ls F W Aa (An (v := Value.int .i64 x20.2.2) 0 F Aa Aa T3 Aa).q fun a w F W => ?_
     obtain ⟨x21, h11, H⟩ := Al H
     refine ls F W Aa (AZ (v := Value.bool x21) F Rf Aa (fun w W => F2 any w (v3) p1 x20.2.2 _ h11 (((Am h_v3) : Ee _ _ _ _ _ _) w W).nx)) fun a w F W => ?_
     refine Ad (Ac ?_)
     refine AE F Aa (fun hb => ?_) fun hb => ?_
     ·
      have H := AU hb H
      rw [hb] at F
      clear hb
      refine JA 20 W MO (by kernel_rfl) ?_
      refine qs F Aa (An (v := v5) 1 F Aa Aa MI Aa).q fun a F => ?_
      refine qs F Aa (Ai GY Aa Aa Aa T3 F Aa 1 Aa).q fun a F => ?_
      refine qs F Aa (An (v := Value.int .i64 x20.2.1) 0 F Aa Aa T3 Aa).q fun a F => ?_
      refine qs F Aa (An (v := v5) 1 F Aa Aa MI Aa).q fun a F => ?_
      refine qs F Aa (Ai GY Aa Aa Aa T3 F Aa 1 Aa).q fun a F => ?_
      refine qs F Aa (An (v := Value.int .i64 x20.2.1) 0 F Aa Aa T3 Aa).q fun a F => ?_
      obtain ⟨x22, h12, H⟩ := Al H
      refine qs F Aa (AH (r := (Rp.flt .f64)) Iy F Aa Aa (Au 2 Aa) h12).q fun a F => ?_
      refine qs F Aa (Ax (y := Value.float .f64 x22) (j := 0) (i := x20.2.1) F Aa Aa (Au 2 Aa) h12 Fl.flt.to JB Aa).q fun a F => ?_
      refine qs F Aa (Ae F Aa).q fun a F => ?_
      refine qs F Aa (Ai GY Aa Aa Aa T3 F Aa 2 Aa).q fun a F => ?_
      refine qs F Aa (An (v := Value.int .i64 x20.2.2) 0 F Aa Aa T3 Aa).q fun a F => ?_
      obtain ⟨x23, h13, H⟩ := Al H
      refine qs F Aa (AH (r := (Rp.flt .f64)) Iy F Aa Aa (Am h_v3) h13).q fun a F => ?_
      refine qs F Aa (Ax (y := Value.float .f64 x23) (j := 0) (i := x20.2.2) F Aa Aa (Am h_v3) h13 Fl.flt.to JB Aa).q fun a F => ?_
      refine qs F Aa (An (v := v5) 1 F Aa Aa MI Aa).q fun a F => ?_
      refine qs F Aa (Ae F Aa).q fun a F => ?_
      obtain ⟨x24, h14, H⟩ := Al H
      refine qs F Aa (AH (r := (Rp.flt .f64)) Iy F Aa Aa (Au 2 Aa) h14).q fun a F => ?_
      refine qs F Aa (Ax (y := Value.float .f64 x24) (j := 0) (i := x14) F Aa Aa (Au 2 Aa) h14 Fl.flt.to JB Aa).q fun a F => ?_
      refine qs F Aa (AZ (v := Value.float .f64 (A6 x23 x24)) F Ro Aa (fun w W => FX any w x23 x24 _ Aa)) fun a F => ?_
      obtain ⟨x25, h15, H⟩ := Al H
      refine qs F Aa (Qf F Aa Aa h15).q fun a F => ?_
      obtain ⟨x26, h16, H⟩ := Al H
      refine qs F Aa (AH (r := (Rp.flt .f64)) Iy F Aa Aa (Au 2 Aa) h16).q fun a F => ?_
      refine Be fun w W => ?_
      refine C1 (i := x20.2.1) (j := 0) (vs := [.float .f64 x25]) (x' := x25) F W Aa Aa Aa (k := 2) Aa Aa h16 JB Aa Aa Aa Aa (fun A cs _ => Fl.flt.sto (by rfl) _ _ _) fun w W => ?_
      refine Ad (AS (Ac ?_))
      have W := W.frontZ (i := 2) Aa Aa
      have W := W.frontZ (i := 2) Aa Aa
      have W := W.frontM (i := 2) Aa Aa
      have W := W.frontM (i := 2) Aa Aa
      have W := W.sub (M' := [(b2, [v5]), (b1, [.int .i64 p0.1, v1, v2])]) (Z' := [row v10 3 (Rp.int .i64) x13, row v11 74 CL x16, row v5 56 (Rp.flt .f64) (AA x18 x20.2.1 x25)]) (List.Sublist.cons_cons _ (List.Sublist.cons_cons _ (List.nil_sublist _))) (List.Sublist.refl _)
      exact ⟨_, H, F.re ⟨rfl, Aa, Aa, Aa, Aa, Aa, Aa, Aa, Aa, trivial⟩, W⟩
     have H := AV (by rw [hb]; decide) H
     rw [hb] at F
     clear hb
     refine Az (AS (Ac ?_))
     have W := W.frontZ (i := 2) Aa Aa
     have W := W.frontZ (i := 2) Aa Aa
     have W := W.frontZ (i := 2) Aa Aa
     have W := W.frontM (i := 2) Aa Aa
     have W := W.frontM (i := 2) Aa Aa
     have W := W.sub (M' := [(b2, [v5]), (b1, [.int .i64 p0.1, v1, v2])]) (Z' := [row v10 3 (Rp.int .i64) x13, row v11 74 CL x16, row v5 56 (Rp.flt .f64) x18]) (List.Sublist.cons_cons _ (List.Sublist.cons_cons _ (List.nil_sublist _))) (List.Sublist.refl _)
     exact ⟨_, H, F.re ⟨rfl, Aa, Aa, Aa, Aa, Aa, Aa, Aa, Aa, trivial⟩, W⟩
    rintro a w ⟨x19, hj, F, W⟩
    have hj := A1 hj
    subst hj
    have H := K7
    clear G7 K7
    refine Ab ?_
    refine ls F W Aa (BZ F Aa Aa Aa).q fun a w F W => ?_
    refine ls F W Aa (Ae F Aa).q fun a w F W => ?_
    refine Ad (Ac ?_)
    have W := W.frontZ (i := 2) Aa Aa
    have W := W.frontZ (i := 2) Aa Aa
    have W := W.frontZ (i := 2) Aa Aa
    have W := W.frontM (i := 1) Aa Aa
    have W := W.frontM (i := 1) Aa Aa
    exact ⟨_, H, F.re ⟨rfl, Aa, Aa, Aa, Aa, Aa, Aa, Aa, Aa, trivial⟩, W⟩
   have H := AV (Bw hb) H
   rw [hb] at F
   clear hb
   refine Bm ?_
   iterate 2 refine BT ?_
   refine Bn (AS (Ac ?_))
   obtain ⟨x27, h17, H⟩ := Al H
   have W := W.subRow (k := 0) Aa Aa h17
   have W := W.frontZ (i := 2) Aa Aa
   have W := W.frontZ (i := 1) Aa Aa
   have W := W.frontM (i := 1) Aa Aa
   have W := W.frontM (i := 1) Aa Aa
   have W := W.sub (M' := [(b2, [v5]), (b1, [.int .i64 p0.1, v1, v2])]) (Z' := [row (Cx v10 (1 : Int) (x13.length : Int) 1) 3 (Rp.int .i64) x27, row v5 56 (Rp.flt .f64) x18]) (List.Sublist.refl _) (List.Sublist.cons_cons _ (List.Sublist.cons_cons _ (List.nil_sublist _)))
   have H := L6 _ H
   exact ⟨_, H, ((Cx v10 (1 : Int) (x13.length : Int) 1)), F.re ⟨rfl, Aa, Aa, Aa, Aa, trivial⟩, W⟩
  have H := AV (Bw hb) H
  rw [hb] at F
  clear hb
  refine Bm ?_
  iterate 2 refine BT ?_
  refine Bn (Ac ?_)
  have W := W.frontZ (i := 1) Aa Aa
  have W := W.frontM (i := 1) Aa Aa
  have W := W.frontM (i := 1) Aa Aa
  have W := W.sub (M' := [(b2, [v5]), (b1, [.int .i64 p0.1, v1, v2])]) (Z' := [row v5 56 (Rp.flt .f64) x12]) (List.Sublist.refl _) (List.Sublist.cons_cons _ (List.nil_sublist _))
  have H := L5 _ H
  exact ⟨_, H, F.re ⟨rfl, Aa, trivial⟩, W⟩
 rintro a w ⟨x10, hj, F, W⟩
 have hj := A1 hj
 subst hj
 have H := K4
 clear G4 K4
 refine Ah (Ab ?_)
 refine ls F W Aa (An (v := v5) 0 F Aa Aa MI Aa).q fun a w F W => ?_
 refine ls F W Aa (Af F Aa).q fun a w F W => ?_
 refine Ad (Ac (AC ?_))
 obtain ⟨x28, h18, H⟩ := Al H
 have H := A1 H
 subst H
 refine A2 (.inl Aa) F W Aa (Aw F Aa) ?_
 have W := W.sub (M' := []) (Z' := [row v5 56 (Rp.flt .f64) x10]) (List.nil_sublist _) (List.Sublist.refl _)
 exact ⟨⟨v5, fun _ => Qn h18⟩, Aa, W⟩
end Go.Proofs.Ytbogijdfacoccaa
