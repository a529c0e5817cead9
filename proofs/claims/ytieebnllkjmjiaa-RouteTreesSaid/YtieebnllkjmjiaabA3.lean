/- The functions of layer 21, G0. Conditions: none. -/
import Derived.Test.YtieebnllkjmjiaabA2
namespace Go.Proofs.Ytieebnllkjmjiaa
open Go Go.RowKit
set_option linter.unusedVariables false
set_option linter.unusedSimpArgs false
set_option maxRecDepth 20000
theorem R7 : Has Try.prog 47 := ⟨fun args w => Aj Try.func47 rfl (by decide) args w⟩
noncomputable def A0 (p1 : Int) : ((List (Int × Int × Int)) × Int) → Option (((List (Int × Int × Int)) × Int) ⊕ (List (Int × Int × Int)))
  | (x4, x5) => (if p1 < x5 then (ix x4 x5).bind fun x7 => (ix x4 (BV (x5 - 1))).bind fun x8 => some (decide ((ED x7 x8) < 0)) else some false).bind fun x6 => (if x6 = true then (ix x4 (BV (x5 - 1))).bind fun x9 => (ix x4 x5).bind fun x10 => (ix x4 x5).bind fun x11 => (ix (AE x4 x5 x9) (BV (x5 - 1))).bind fun x12 => some (.inl ((AE (AE x4 x5 x9) (BV (x5 - 1)) x10), BV (x5 - 1))) else some (.inr x4))
noncomputable def AX (p1 : Int) (p2 : Int) : ((List (Int × Int × Int)) × Int) → Option (((List (Int × Int × Int)) × Int) ⊕ (List (Int × Int × Int)))
  | (x1, x2) => (if x2 < p2 then (AA (A0 p1) (x1, x2)).bind fun x3 => some (.inl (x3, BV (x2 + 1))) else some (.inr x1))
noncomputable def Bl (p0 : List (Int × Int × Int)) (p1 : Int) (p2 : Int) : Option (List (Int × Int × Int)) := AA (AX p1 p2) (p0, BV (p1 + 1))
theorem C8 (Y : Nat → Prop) (X : List Nat) (w0 : World) (v1 : Value) (p0 : List (Int × Int × Int)) (p1 : Int) (p2 : Int) (r : (List (Int × Int × Int))) (H : Bl p0 p1 p2 = some r) (hL : Stw ⟨Y, X, w0⟩ [] [row v1 60 CF p0] w0) :
    Calls Try.prog 74 #[v1, .int .i64 p1, .int .i64 p2, .func (.func 47) #[] #[]] w0 fun e w' => ∃ x : Unit, e = .returned (.tuple #[]) ∧ Stw ⟨Y, X, w0⟩ [] [row v1 60 CF r] w' := by
 refine enter Try.func74 Aa Try.ntmps74 Aa fun a F => ?_
 have W := hL
 unfold Bl at H
 refine Ah (Ab ?_)
 refine ls F W Aa (Af F Aa).q fun a w F W => ?_
 refine ls F W Aa (BB F Aa Aa Aa).q fun a w F W => ?_
 refine ls F W Aa (Ae F Aa).q fun a w F W => ?_
 refine Ad (Ac (As ?_))
 refine A4 H (fun s a w => Fr 53 [] [(0, v1), (1, .int .i64 p1), (2, .int .i64 p2), (3, .func (.func 47) #[] #[]), (8, .int .i64 s.2)] a ∧ Stw ⟨Y, X, w0⟩ [] [row v1 60 CF s.1] w) ⟨F.re ⟨rfl, Aa, Aa, Aa, Aa, trivial⟩, W⟩ fun s o a w H L1 hR => ?_
 obtain ⟨x1, x2⟩ := s
 obtain ⟨F, W⟩ := hR
 have F : Fr 53 [] [(0, v1), (1, .int .i64 p1), (2, .int .i64 p2), (3, .func (.func 47) #[] #[]), (8, .int .i64 x2)] a := F
 have W : Stw ⟨Y, X, w0⟩ [] [row v1 60 CF x1] w := W
 rw [AX] at H
 refine Ah (Ah (Ab ?_))
 iterate 2 refine ls F W Aa (Af F Aa).q fun a w F W => ?_
 refine ls F W Aa (Bg F Aa Aa).q fun a w F W => ?_
 refine Ad (Ac ?_)
 refine Aw F Aa (fun hb => ?_) fun hb => ?_
 ·
  have H := AM (Bj hb) H
  rw [hb] at F
  clear hb
  refine Aq (Ac ?_)
  obtain ⟨o2, G2, K2⟩ := Am H
  refine AJ (fun a w => ∃ x3 : List (Int × Int × Int), some (x3) = some o2 ∧ Fr 53 [] [(0, v1), (1, .int .i64 p1), (2, .int .i64 p2), (3, .func (.func 47) #[] #[]), (8, .int .i64 x2)] a ∧ Stw ⟨Y, X, w0⟩ [] [row v1 60 CF x3] w) ?_ ?_
  ·
   have H := G2
   clear G2 K2
   refine As (Ah (Ab ?_))
   refine ls F W Aa (Af F Aa).q fun a w F W => ?_
   refine ls F W Aa (Ae F Aa).q fun a w F W => ?_
   refine Ad (Ac (As ?_))
   refine A4 H (fun s a w => Fr 53 [] [(0, v1), (1, .int .i64 p1), (2, .int .i64 p2), (3, .func (.func 47) #[] #[]), (8, .int .i64 x2), (9, .int .i64 s.2)] a ∧ Stw ⟨Y, X, w0⟩ [] [row v1 60 CF s.1] w) ⟨F.re ⟨rfl, Aa, Aa, Aa, Aa, Aa, trivial⟩, W⟩ fun s o a w H L3 hR => ?_
   obtain ⟨x4, x5⟩ := s
   obtain ⟨F, W⟩ := hR
   have F : Fr 53 [] [(0, v1), (1, .int .i64 p1), (2, .int .i64 p2), (3, .func (.func 47) #[] #[]), (8, .int .i64 x2), (9, .int .i64 x5)] a := F
   have W : Stw ⟨Y, X, w0⟩ [] [row v1 60 CF x4] w := W
   rw [A0] at H
   refine Ah ?_
   obtain ⟨o4, G4, K4⟩ := Am H
   refine AJ (fun a w => ∃ x6 : Bool, some (x6) = some o4 ∧ Fr 53 [] [(0, v1), (1, .int .i64 p1), (2, .int .i64 p2), (3, .func (.func 47) #[] #[]), (8, .int .i64 x2), (9, .int .i64 x5), (34, .bool x6)] a ∧ Stw ⟨Y, X, w0⟩ [] [row v1 60 CF x4] w) ?_ ?_
   ·
    have H := G4
    clear G4 K4
    refine Cn W MO (by kernel_rfl) ?_
    iterate 2 refine qs F Aa (Af F Aa).q fun a F => ?_
    refine qs F Aa (DI F Aa Aa).q fun a F => ?_
    refine qs F Aa (Af F Aa).q fun a F => ?_
    rcases Bool.eq_false_or_eq_true (decide (p1 < x5)) with hb | hb
    ·
     have H := AM (Bj hb) H
     rw [hb] at F
     clear hb
     iterate 3 refine BW F (Ag F Aa Aa Aa Aa) Aa (Al Aa) (Af F Aa).q fun a F => ?_
     obtain ⟨x7, h1, H⟩ := Am H
     refine BW F (Ag F Aa Aa Aa Aa) Aa (Al Aa) (AK (r := CF) ND F Aa Aa (Ax 0 Aa) h1).q fun a F => ?_
     refine BW F (Ag F Aa Aa Aa Aa) Aa (Al Aa) (Ay (y := Value.agg #[.int .i64 x7.1, .int .i64 x7.2.1, .int .i64 x7.2.2]) (j := 0) (i := x5) F Aa Aa (Ax 0 Aa) h1 Oy.to NP Aa).q fun a F => ?_
     iterate 2 refine BW F (Ag F Aa Aa Aa Aa) Aa (Al Aa) (Af F Aa).q fun a F => ?_
     refine BW F (Ag F Aa Aa Aa Aa) Aa (Al Aa) (Gi F Aa Aa Aa).q fun a F => ?_
     obtain ⟨x8, h2, H⟩ := Am H
     refine BW F (Ag F Aa Aa Aa Aa) Aa (Al Aa) (AK (r := CF) ND F Aa Aa (Ax 0 Aa) h2).q fun a F => ?_
     refine BW F (Ag F Aa Aa Aa Aa) Aa (Al Aa) (Ay (y := Value.agg #[.int .i64 x8.1, .int .i64 x8.2.1, .int .i64 x8.2.2]) (j := 0) (i := BV (x5 - 1)) F Aa Aa (Ax 0 Aa) h2 Oy.to NP Aa).q fun a F => ?_
     refine BW F (Ag F Aa Aa Aa Aa) Aa (Al Aa) (IM (ws := [.agg #[.int .i64 x7.1, .int .i64 x7.2.1, .int .i64 x7.2.2], .agg #[.int .i64 x8.1, .int .i64 x8.2.1, .int .i64 x8.2.2]]) (v := Value.int .i64 (ED x7 x8)) F R7 Aa (fun w W => JO any w x7 x8 _ Aa)) fun a F => ?_
     refine BW F (Ag F Aa Aa Aa Aa) Aa (Al Aa) (Bg F Aa Aa).q fun a F => ?_
     refine qs F Aa (Ao F Aa Aa Aa).q fun a F => ?_
     refine Bo fun w W => ?_
     refine Ac ?_
     exact ⟨_, H, F.re ⟨rfl, Aa, Aa, Aa, Aa, Aa, Aa, trivial⟩, W⟩
    have H := AN (Bk hb) H
    rw [hb] at F
    clear hb
    iterate 12 refine ER F (DN F Aa Aa Aa Aa Aa) Aa Aa fun a F => ?_
    refine qs F Aa (Au F Aa Aa Aa).q fun a F => ?_
    refine Bo fun w W => ?_
    refine Ac ?_
    exact ⟨_, H, F.re ⟨rfl, Aa, Aa, Aa, Aa, Aa, Aa, trivial⟩, W⟩
   rintro a w ⟨x6, hj, F, W⟩
   have hj := AP hj
   subst hj
   have H := K4
   clear G4 K4
   refine Aw F Aa (fun hb => ?_) fun hb => ?_
   ·
    have H := AM hb H
    rw [hb] at F
    clear hb
    refine Aq (Ac (Ah (As ?_)))
    refine I5 [(true, 0), (true, 1), (true, 2), (true, 3), (true, 4), (true, 5), (true, 6), (true, 7), (true, 8), (true, 9), (true, 10), (true, 11), (true, 12), (true, 13), (true, 14), (false, 15), (true, 16), (false, 17)] (CN ⟨Y, X, w0⟩ [] [(some 15, row v1 60 CF x4)]) (fun ch a d v w h => by cases d <;> exact h) MO (by kernel_rfl) W (fun w W => ⟨_, _, W, AL, (all_cons (fun _ => (.head _)) AL)⟩) fun w W => ?_
    iterate 4 refine Er (R := []) F Aa Aa (yC fun M Z hN hZ => Af F Aa) Aa Aa fun a F => ?_
    refine Er (R := []) F Aa Aa (yC fun M Z hN hZ => Gi F Aa Aa Aa) Aa Aa fun a F => ?_
    iterate 2 refine Er (R := []) F Aa Aa (yC fun M Z hN hZ => Af F Aa) Aa Aa fun a F => ?_
    refine Er (R := []) F Aa Aa (yC fun M Z hN hZ => Gi F Aa Aa Aa) Aa Aa fun a F => ?_
    obtain ⟨x9, h3, H⟩ := Am H
    refine Er (R := []) F Aa Aa (yC fun M Z hN hZ => EA (r := CF) ND F Aa Aa (Iz W (Ax 0 Aa)) h3) Aa Aa fun a F => ?_
    refine Er (R := [15]) F Aa Aa (yC fun M Z hN hZ => Ay (y := Value.agg #[.int .i64 x9.1, .int .i64 x9.2.1, .int .i64 x9.2.2]) (j := 0) (i := BV (x5 - 1)) F Aa Aa (HJ (hZ ((some 15), row v1 60 CF x4) (.head _) Aa)) h3 Oy.to NP Aa) (by kernel_rfl) Aa fun a F => ?_
    iterate 2 refine Er (R := []) F Aa Aa (yC fun M Z hN hZ => Af F Aa) Aa Aa fun a F => ?_
    obtain ⟨x10, h4, H⟩ := Am H
    refine Er (R := []) F Aa Aa (yC fun M Z hN hZ => EA (r := CF) ND F Aa Aa (Iz W (Ax 0 Aa)) h4) Aa Aa fun a F => ?_
    refine Er (R := [15]) F Aa Aa (yC fun M Z hN hZ => Ay (y := Value.agg #[.int .i64 x10.1, .int .i64 x10.2.1, .int .i64 x10.2.2]) (j := 0) (i := x5) F Aa Aa (HJ (hZ ((some 15), row v1 60 CF x4) (.head _) Aa)) h4 Oy.to NP Aa) (by kernel_rfl) Aa fun a F => ?_
    obtain ⟨x11, h5, H⟩ := Am H
    refine Er (R := []) F Aa Aa (yC fun M Z hN hZ => EA (r := CF) ND F Aa Aa (Iz W (Ax 0 Aa)) h5) Aa Aa fun a F => ?_
    refine Lm Aa ?_
    refine CT (i := x5) (j := 0) (vs := [.int .i64 x9.1, .int .i64 x9.2.1, .int .i64 x9.2.2]) (x' := x9) F W Aa Aa Aa (k := 0) Aa Aa h5 NP Aa Aa Aa Aa (fun A cs _ => Oy.sto (by rfl) _ _ _) fun w W => ?_
    refine Fd (N2 := []) (NZ2 := []) (N3 := []) (NZ3 := [(some 15, row v1 60 CF x4)]) W Aa Aa AL (all_cons (fun h => Cf (by kernel_rfl) h) AL) ?_
    obtain ⟨x12, h6, H⟩ := Am H
    refine Er (R := []) F Aa Aa (yC fun M Z hN hZ => EA (r := CF) ND F Aa Aa (Iz W (Ax 0 Aa)) h6) Aa Aa fun a F => ?_
    refine Lm Aa ?_
    refine CT (i := BV (x5 - 1)) (j := 0) (vs := [.int .i64 x10.1, .int .i64 x10.2.1, .int .i64 x10.2.2]) (x' := x10) F W Aa Aa Aa (k := 0) Aa Aa h6 NP Aa Aa Aa Aa (fun A cs _ => Oy.sto (by rfl) _ _ _) fun w W => ?_
    refine Fd (N2 := []) (NZ2 := []) (N3 := []) (NZ3 := [(some 15, row v1 60 CF x4)]) W Aa Aa AL (all_cons (fun h => Cf (by kernel_rfl) h) AL) ?_
    refine Mk (AR (Ac (Ab ?_)))
    refine ls F W Aa (Af F Aa).q fun a w F W => ?_
    refine ls F W Aa (Gi F Aa Aa Aa).q fun a w F W => ?_
    refine ls F W Aa (Ae F Aa).q fun a w F W => ?_
    refine Ad (Ac ?_)
    exact ⟨_, H, F.re ⟨rfl, Aa, Aa, Aa, Aa, Aa, trivial⟩, W⟩
   have H := AN (by rw [hb]; decide) H
   rw [hb] at F
   clear hb
   refine Ba ?_
   iterate 2 refine Br ?_
   refine Bb (AR (Ac ?_))
   have H := L3 _ H
   exact ⟨_, H, F.re ⟨rfl, Aa, Aa, Aa, Aa, trivial⟩, W⟩
  rintro a w ⟨x3, hj, F, W⟩
  have hj := AP hj
  subst hj
  have H := K2
  clear G2 K2
  refine Ab ?_
  refine ls F W Aa (Af F Aa).q fun a w F W => ?_
  refine ls F W Aa (BB F Aa Aa Aa).q fun a w F W => ?_
  refine ls F W Aa (Ae F Aa).q fun a w F W => ?_
  refine Ad (Ac ?_)
  exact ⟨_, H, F.re ⟨rfl, Aa, Aa, Aa, Aa, trivial⟩, W⟩
 have H := AN (Bk hb) H
 rw [hb] at F
 clear hb
 refine Ba ?_
 iterate 2 refine Br ?_
 refine Bb ?_
 have H := L1 _ H
 have H := AP H
 subst H
 refine Kc (.inr Aa) F Aa ?_
 exact ⟨(), Aa, W⟩
theorem R1 : Has Try.prog 74 := ⟨fun args w => Aj Try.func74 rfl (by decide) args w⟩
noncomputable def BN (p0 : List (Int × Int × Int)) (p1 : Int) (p2 : Int) : Unit → Option (Unit ⊕ (List (Int × Int × Int)))
  | _ => (if (BV (p2 - p1)) ≤ 12 then (Bl p0 p1 p2).bind fun x1 => some (.inr x1) else none)
noncomputable def Bm (p0 : List (Int × Int × Int)) (p1 : Int) (p2 : Int) (p3 : Int) : Option (List (Int × Int × Int)) := AA (BN p0 p1 p2) ()
theorem DZ (Y : Nat → Prop) (X : List Nat) (w0 : World) (v1 : Value) (p0 : List (Int × Int × Int)) (p1 : Int) (p2 : Int) (p3 : Int) (r : (List (Int × Int × Int))) (H : Bm p0 p1 p2 p3 = some r) (hL : Stw ⟨Y, X, w0⟩ [] [row v1 60 CF p0] w0) :
    Calls Try.prog 59 #[v1, .int .i64 p1, .int .i64 p2, .int .i64 p3, .func (.func 47) #[] #[]] w0 fun e w' => ∃ x : Unit, e = .returned (.tuple #[]) ∧ Stw ⟨Y, X, w0⟩ [] [row v1 60 CF r] w' := by
 refine enter Try.func59 Aa Try.ntmps59 Aa fun a F => ?_
 have W := hL
 unfold Bm at H
 refine Ah (Ab ?_)
 refine ls F W Aa (Ae F Aa).q fun a w F W => ?_
 refine Ad (Ac (Ah (Ab ?_)))
 refine ls F W Aa (Ae F Aa).q fun a w F W => ?_
 refine Ad (Ac (As ?_))
 refine A4 H (fun s a w => Fr 148 [] [(0, v1), (1, .int .i64 p1), (2, .int .i64 p2), (3, .int .i64 p3), (4, .func (.func 47) #[] #[]), (10, .bool true), (11, .bool true)] a ∧ Stw ⟨Y, X, w0⟩ [] [row v1 60 CF p0] w) ⟨F.re ⟨rfl, Aa, Aa, Aa, Aa, Aa, Aa, trivial⟩, W⟩ fun s o a w H L1 hR => ?_
 obtain ⟨F, W⟩ := hR
 have F : Fr 148 [] [(0, v1), (1, .int .i64 p1), (2, .int .i64 p2), (3, .int .i64 p3), (4, .func (.func 47) #[] #[]), (10, .bool true), (11, .bool true)] a := F
 have W : Stw ⟨Y, X, w0⟩ [] [row v1 60 CF p0] w := W
 rw [BN] at H
 refine As (Ah (Ab ?_))
 iterate 2 refine ls F W Aa (Af F Aa).q fun a w F W => ?_
 refine ls F W Aa (Gi F Aa Aa Aa).q fun a w F W => ?_
 refine ls F W Aa (Ae F Aa).q fun a w F W => ?_
 refine Ad (Ac (Ah (Ah (Ab ?_))))
 refine ls F W Aa (Af F Aa).q fun a w F W => ?_
 refine ls F W Aa (I3 F Aa Aa).q fun a w F W => ?_
 refine Ad (Ac ?_)
 refine Aw F Aa (fun hb => ?_) fun hb => ?_
 ·
  have H := AM (Bj hb) H
  rw [hb] at F
  clear hb
  refine Ah (Ab ?_)
  iterate 4 refine ls F W Aa (Af F Aa).q fun a w F W => ?_
  obtain ⟨x1, h1, H⟩ := Am H
  refine BK (Ml := []) (Zl := [row v1 60 CF p0]) (M := []) (Z := []) (β := Unit) (rv := fun x => .tuple #[]) (MM := fun x => []) (ZZ := fun x => [row v1 60 CF x1]) F W R1 Aa Aa (fun hL => C8 _ _ w (v1) p0 p1 p2 _ h1 hL) fun x a w F W => ?_
  have W : Stw ⟨Y, X, w0⟩ [] [row v1 60 CF x1] w := W
  refine Ad (Ac (Av (AH (AU (AH (AU ?_))))))
  have H := L1 _ H
  have H := AP H
  subst H
  refine Kc (.inl Aa) F Aa ?_
  exact ⟨(), Aa, W⟩
 have H := AN (Bk hb) H
 rw [hb] at F
 clear hb
 exact nomatch H
theorem SK : Has Try.prog 59 := ⟨fun args w => Aj Try.func59 rfl (by decide) args w⟩
noncomputable def A6 (p0 : List (Int × Int × Int)) : Option (List (Int × Int × Int)) := (CZ (IntKind.u64.wrap (p0.length : Int))).bind fun x1 => (Bm p0 0 (p0.length : Int) x1).bind fun x2 => some x2
theorem DA (Y : Nat → Prop) (X : List Nat) (w0 : World) (v1 : Value) (p0 : List (Int × Int × Int)) (r : (List (Int × Int × Int))) (H : A6 p0 = some r) (hL : Stw ⟨Y, X, w0⟩ [] [row v1 60 CF p0] w0) :
    Calls Try.prog 46 #[v1, .func (.func 47) #[] #[]] w0 fun e w' => ∃ x : Unit, e = .returned (.tuple #[]) ∧ Stw ⟨Y, X, w0⟩ [] [row v1 60 CF r] w' := by
 refine enter Try.func46 Aa Try.ntmps46 Aa fun a F => ?_
 have W := hL
 unfold A6 at H
 refine Ah (Ab ?_)
 refine ls F W Aa (Af F Aa).q fun a w F W => ?_
 refine ls F W Aa (Bh (r := CF) (l := p0) OS Aa F Aa (Ax 0 Aa)).q fun a w F W => ?_
 refine ls F W Aa (Ae F Aa).q fun a w F W => ?_
 refine Ad (Ac (Ab ?_))
 iterate 3 refine ls F W Aa (Af F Aa).q fun a w F W => ?_
 refine ls F W Aa (Ec LS Lz F Aa).q fun a w F W => ?_
 obtain ⟨x1, h1, H⟩ := Am H
 refine ls F W Aa (AW (v := Value.int .i64 x1) F RQ Aa (fun w W => FZ any w (IntKind.u64.wrap (p0.length : Int)) _ h1)) fun a w F W => ?_
 refine ls F W Aa (Af F Aa).q fun a w F W => ?_
 obtain ⟨x2, h2, H⟩ := Am H
 refine BK (Ml := []) (Zl := [row v1 60 CF p0]) (M := []) (Z := []) (β := Unit) (rv := fun x => .tuple #[]) (MM := fun x => []) (ZZ := fun x => [row v1 60 CF x2]) F W SK Aa Aa (fun hL => DZ _ _ w (v1) p0 0 (p0.length : Int) x1 _ h2 hL) fun x a w F W => ?_
 have W : Stw ⟨Y, X, w0⟩ [] [row v1 60 CF x2] w := W
 refine Ad ?_
 have H := AP H
 subst H
 refine Kc (.inr Aa) F Aa ?_
 exact ⟨(), Aa, W⟩
theorem RY : Has Try.prog 46 := ⟨fun args w => Aj Try.func46 rfl (by decide) args w⟩
noncomputable def Dy (p0 : Int × (List (Int × Int × Int × Int × Int × Int)) × (List (Int × Int))) (p1 : Int) : ((List (Int × Int × Int)) × Int) → Option (((List (Int × Int × Int)) × Int) ⊕ (List (Int × Int × Int)))
  | (x2, x3) => (if x3 < (p0.2.1.length : Int) then ((ix p0.2.1 x3).bind fun x5 => (if p1 = x5.1 then (IQ x2 ([(x5.2.1, x5.2.2.1, x3)] : List (Int × Int × Int))).bind fun x6 => some x6 else (if p1 = x5.2.2.1 then (IQ x2 ([(x5.2.2.2.1, x5.1, x3)] : List (Int × Int × Int))).bind fun x7 => some x7 else some x2))).bind fun x4 => some (.inl (x4, BV (x3 + 1))) else some (.inr x2))
noncomputable def Dv (p0 : Int × (List (Int × Int × Int × Int × Int × Int)) × (List (Int × Int))) (p1 : Int) : Option (List (Int × Int × Int)) := (AA (Dy p0 p1) ([], 0)).bind fun x1 => (A6 x1).bind fun x8 => some x8
theorem F6 (Y : Nat → Prop) (w0 : World) (v1 : Value) (v2 : Value) (p0 : Int × (List (Int × Int × Int × Int × Int × Int)) × (List (Int × Int))) (p1 : Int) (r : (List (Int × Int × Int))) (H : Dv p0 p1 = some r) (h_v1 : Sl w0 (NX []) Ev v1 p0.2.1) (h_v2 : Sl w0 (NX []) Ep v2 p0.2.2) :
    Calls Try.prog 25 #[.agg #[.int .i64 p0.1, v1, v2], .int .i64 p1] w0 fun e w' => ∃ x : Value, e = .returned (x) ∧ Stw ⟨Y, [], w0⟩ [] [row (x) 60 CF r] w' := by
 refine enter Try.func25 Aa Try.ntmps25 Aa fun a F => ?_
 have W := Stw.start Y w0
 unfold Dv at H
 refine Ah (Ab ?_)
 refine C5 (cs := [.int .i64 p0.1, v1, v2]) F W Aa Aa Aa fun b1 a w F W => ?_
 refine ls F W Aa (Ae F Aa).q fun a w F W => ?_
 refine Ad (Ac (Ah (Ab ?_)))
 refine ls F W Aa (Ae F Aa).q fun a w F W => ?_
 refine Ad (Ac ?_)
 obtain ⟨o1, G1, K1⟩ := Am H
 refine AJ (fun a w => ∃ x1 : List (Int × Int × Int), ∃ v3 : Value, some (x1) = some o1 ∧ Fr 47 [] [(4, .slice none 0 0), (5, v3)] a ∧ Stw ⟨Y, [], w0⟩ [(b1, [.int .i64 p0.1, v1, v2])] [row v3 60 CF x1] w) ?_ ?_
 ·
  have H := G1
  clear G1 K1
  refine Ah (Ab ?_)
  refine ls F W Aa (Ai CC Aa Aa Aa Il F Aa 1 Aa).q fun a w F W => ?_
  refine ls F W Aa (An (v := v1) 0 F Aa Aa Il Aa).q fun a w F W => ?_
  refine ls F W Aa (Bh (r := Ev) (l := p0.2.1) IC Aa F Aa (Ak h_v1)).q fun a w F W => ?_
  refine ls F W Aa (Af F Aa).q fun a w F W => ?_
  refine Ad (Ac (As ?_))
  have W := W.nilRow 60 CF
  refine A4 H (fun s a w => ∃ v4 : Value, Fr 47 [] [(1, .int .i64 p1), (4, .slice none 0 0), (5, v4), (9, v1), (10, .int .i64 (p0.2.1.length : Int)), (11, .int .i64 s.2)] a ∧ Stw ⟨Y, [], w0⟩ [(b1, [.int .i64 p0.1, v1, v2])] [row v4 60 CF s.1] w) ⟨(Value.slice none 0 0), F.re ⟨rfl, Aa, Aa, Aa, Aa, Aa, trivial⟩, W⟩ fun s o a w H L2 hR => ?_
  obtain ⟨x2, x3⟩ := s
  obtain ⟨v4, F, W⟩ := hR
  have F : Fr 47 [] [(1, .int .i64 p1), (4, .slice none 0 0), (5, v4), (9, v1), (10, .int .i64 (p0.2.1.length : Int)), (11, .int .i64 x3)] a := F
  have W : Stw ⟨Y, [], w0⟩ [(b1, [.int .i64 p0.1, v1, v2])] [row v4 60 CF x2] w := W
  rw [Dy] at H
  refine Ah (Ab ?_)
  refine ls F W Aa (Bg F Aa Aa).q fun a w F W => ?_
  refine Ad (Ac (Ah ?_))
  refine Aw F Aa (fun hb => ?_) fun hb => ?_
  ·
   have H := AM (Bj hb) H
   rw [hb] at F
   clear hb
   refine Aq (Ac ?_)
   obtain ⟨o3, G3, K3⟩ := Am H
   refine AJ (fun a w => ∃ x4 : List (Int × Int × Int), ∃ v5 : Value, some (x4) = some o3 ∧ Fr 47 [] [(1, .int .i64 p1), (4, .slice none 0 0), (5, v5), (9, v1), (10, .int .i64 (p0.2.1.length : Int)), (11, .int .i64 x3)] a ∧ Stw ⟨Y, [], w0⟩ [(b1, [.int .i64 p0.1, v1, v2])] [row v5 60 CF x4] w) ?_ ?_
   ·
    have H := G3
    clear G3 K3
    refine As (Ah (Ab ?_))
    refine ls F W Aa (Af F Aa).q fun a w F W => ?_
    obtain ⟨x5, h1, H⟩ := Am H
    refine ls F W Aa (AK (r := Ev) P9 F Aa Aa (Ak h_v1) h1).q fun a w F W => ?_
    refine ls F W Aa (Ay (y := Value.agg #[.int .i64 x5.1, .int .i64 x5.2.1, .int .i64 x5.2.2.1, .int .i64 x5.2.2.2.1, .int .i64 x5.2.2.2.2.1, .int .i64 x5.2.2.2.2.2]) (j := 0) (i := x3) F Aa Aa (Ak h_v1) h1 P1.to OW Aa).q fun a w F W => ?_
    refine CB (cs := [.int .i64 0, .int .i64 0, .int .i64 0, .int .i64 0, .int .i64 0, .int .i64 0]) F W Aa Qw Aa fun b2 a w F W => ?_
    refine ls F W Aa (Ae F Aa).q fun a w F W => ?_
    refine C4 (vs := [.int .i64 x5.1, .int .i64 x5.2.1, .int .i64 x5.2.2.1, .int .i64 x5.2.2.2.1, .int .i64 x5.2.2.2.2.1, .int .i64 x5.2.2.2.2.2]) (M' := [(b2, [.int .i64 x5.1, .int .i64 x5.2.1, .int .i64 x5.2.2.1, .int .i64 x5.2.2.2.1, .int .i64 x5.2.2.2.2.1, .int .i64 x5.2.2.2.2.2]), (b1, [.int .i64 p0.1, v1, v2])]) 0 F W Aa Aa Aa OW Aa Aa Aa Aa Aa fun w W => ?_
    refine Ad (Ac (Ah (Ab ?_)))
    refine ls F W Aa (Af F Aa).q fun a w F W => ?_
    refine Ad (Ac (As (Ah (Ab ?_))))
    refine ls F W Aa (Ai CQ Aa Aa Aa T3 F Aa 0 Aa).q fun a w F W => ?_
    refine ls F W Aa (An (v := Value.int .i64 x5.1) 0 F Aa Aa T3 Aa).q fun a w F W => ?_
    refine ls F W Aa (DO F Aa Aa).q fun a w F W => ?_
    refine ls F W Aa (Ae F Aa).q fun a w F W => ?_
    refine Ad (Ac ?_)
    refine Aw F Aa (fun hb => ?_) fun hb => ?_
    ·
     have H := AM (Bj hb) H
     rw [hb] at F
     clear hb
     refine Ab ?_
     refine ls F W Aa (Af F Aa).q fun a w F W => ?_
     refine ls F W Aa (Ai CQ Aa Aa Aa T3 F Aa 1 Aa).q fun a w F W => ?_
     refine ls F W Aa (An (v := Value.int .i64 x5.2.1) 0 F Aa Aa T3 Aa).q fun a w F W => ?_
     refine ls F W Aa (Ai CQ Aa Aa Aa T3 F Aa 2 Aa).q fun a w F W => ?_
     refine ls F W Aa (An (v := Value.int .i64 x5.2.2.1) 0 F Aa Aa T3 Aa).q fun a w F W => ?_
     refine ls F W Aa (Af F Aa).q fun a w F W => ?_
     refine ls F W Aa (Dr (v := Value.agg #[.int .i64 x5.2.1, .int .i64 x5.2.2.1, .int .i64 x3]) Rx F Aa Aa Aa).q fun a w F W => ?_
     refine Cr (z := Value.agg #[.int .i64 0, .int .i64 0, .int .i64 0]) (cs := [.int .i64 x5.2.1, .int .i64 x5.2.2.1, .int .i64 x3]) CF ([(x5.2.1, x5.2.2.1, x3)] : List (Int × Int × Int)) F W Aa ND QF Aa Aa Aa Aa Aa Aa (Oy.repL _ _ ([(x5.2.1, x5.2.2.1, x3)] : List (Int × Int × Int))) fun v6 a w F W => ?_
     obtain ⟨x6, h2, H⟩ := Am H
     refine DM (r := CF) (i := 1) F W Aa ND Aa Aa Aa Aa (DP W 0 Aa) h2 Aa fun v7 a w F W => ?_
     have W : Stw ⟨Y, [], w0⟩ [(b2, [.int .i64 x5.1, .int .i64 x5.2.1, .int .i64 x5.2.2.1, .int .i64 x5.2.2.2.1, .int .i64 x5.2.2.2.2.1, .int .i64 x5.2.2.2.2.2]), (b1, [.int .i64 p0.1, v1, v2])] [row v7 60 CF x6, row v6 60 CF ([(x5.2.1, x5.2.2.1, x3)] : List (Int × Int × Int))] w := W
     refine ls F W Aa (Ae F Aa).q fun a w F W => ?_
     refine Ad ?_
     iterate 2 refine AR ?_
     refine Ac ?_
     have W := W.frontM (i := 1) Aa Aa
     have W := W.sub (M' := [(b1, [.int .i64 p0.1, v1, v2])]) (Z' := [row v7 60 CF x6]) (List.Sublist.cons_cons _ (List.nil_sublist _)) (List.Sublist.cons_cons _ (List.nil_sublist _))
     exact ⟨_, (v7), H, F.re ⟨rfl, Aa, Aa, Aa, Aa, Aa, trivial⟩, W⟩
    have H := AN (Bk hb) H
    rw [hb] at F
    clear hb
    refine Ah (Ab ?_)
    refine ls F W Aa (Ai CQ Aa Aa Aa T3 F Aa 2 Aa).q fun a w F W => ?_
    refine ls F W Aa (An (v := Value.int .i64 x5.2.2.1) 0 F Aa Aa T3 Aa).q fun a w F W => ?_
    refine ls F W Aa (DO F Aa Aa).q fun a w F W => ?_
    refine ls F W Aa (Ae F Aa).q fun a w F W => ?_
    refine Ad (Ac ?_)
    refine Aw F Aa (fun hb => ?_) fun hb => ?_
    ·
     have H := AM (Bj hb) H
     rw [hb] at F
     clear hb
     refine Ab ?_
     refine ls F W Aa (Af F Aa).q fun a w F W => ?_
     refine ls F W Aa (Ai CQ Aa Aa Aa T3 F Aa 3 Aa).q fun a w F W => ?_
     refine ls F W Aa (An (v := Value.int .i64 x5.2.2.2.1) 0 F Aa Aa T3 Aa).q fun a w F W => ?_
     refine ls F W Aa (Ai CQ Aa Aa Aa T3 F Aa 0 Aa).q fun a w F W => ?_
     refine ls F W Aa (An (v := Value.int .i64 x5.1) 0 F Aa Aa T3 Aa).q fun a w F W => ?_
     refine ls F W Aa (Af F Aa).q fun a w F W => ?_
     refine ls F W Aa (Dr (v := Value.agg #[.int .i64 x5.2.2.2.1, .int .i64 x5.1, .int .i64 x3]) Rx F Aa Aa Aa).q fun a w F W => ?_
     refine Cr (z := Value.agg #[.int .i64 0, .int .i64 0, .int .i64 0]) (cs := [.int .i64 x5.2.2.2.1, .int .i64 x5.1, .int .i64 x3]) CF ([(x5.2.2.2.1, x5.1, x3)] : List (Int × Int × Int)) F W Aa ND QF Aa Aa Aa Aa Aa Aa (Oy.repL _ _ ([(x5.2.2.2.1, x5.1, x3)] : List (Int × Int × Int))) fun v8 a w F W => ?_
     obtain ⟨x7, h3, H⟩ := Am H
     refine DM (r := CF) (i := 1) F W Aa ND Aa Aa Aa Aa (DP W 0 Aa) h3 Aa fun v9 a w F W => ?_
     have W : Stw ⟨Y, [], w0⟩ [(b2, [.int .i64 x5.1, .int .i64 x5.2.1, .int .i64 x5.2.2.1, .int .i64 x5.2.2.2.1, .int .i64 x5.2.2.2.2.1, .int .i64 x5.2.2.2.2.2]), (b1, [.int .i64 p0.1, v1, v2])] [row v9 60 CF x7, row v8 60 CF ([(x5.2.2.2.1, x5.1, x3)] : List (Int × Int × Int))] w := W
     refine ls F W Aa (Ae F Aa).q fun a w F W => ?_
     refine Ad ?_
     iterate 2 refine AR ?_
     refine Ac ?_
     have W := W.frontM (i := 1) Aa Aa
     have W := W.sub (M' := [(b1, [.int .i64 p0.1, v1, v2])]) (Z' := [row v9 60 CF x7]) (List.Sublist.cons_cons _ (List.nil_sublist _)) (List.Sublist.cons_cons _ (List.nil_sublist _))
     exact ⟨_, (v9), H, F.re ⟨rfl, Aa, Aa, Aa, Aa, Aa, trivial⟩, W⟩
    have H := AN (Bk hb) H
    rw [hb] at F
    clear hb
    refine Aq ?_
    iterate 2 refine AR ?_
    refine Ac ?_
    have W := W.frontM (i := 1) Aa Aa
    have W := W.sub (M' := [(b1, [.int .i64 p0.1, v1, v2])]) (Z' := [row v4 60 CF x2]) (List.Sublist.cons_cons _ (List.nil_sublist _)) (List.Sublist.refl _)
    exact ⟨_, (v4), H, F.re ⟨rfl, Aa, Aa, Aa, Aa, Aa, trivial⟩, W⟩
   rintro a w ⟨x4, v5, hj, F, W⟩
   have hj := AP hj
   subst hj
   have H := K3
   clear G3 K3
   refine Ab ?_
   refine ls F W Aa (BB F Aa Aa Aa).q fun a w F W => ?_
   refine ls F W Aa (Af F Aa).q fun a w F W => ?_
   refine Ad (Ac ?_)
   exact ⟨_, H, (v5), F.re ⟨rfl, Aa, Aa, Aa, Aa, Aa, trivial⟩, W⟩
  have H := AN (Bk hb) H
  rw [hb] at F
  clear hb
  refine Ba ?_
  iterate 2 refine Br ?_
  refine Bb (Ac ?_)
  have H := L2 _ H
  exact ⟨_, (v4), H, F.re ⟨rfl, Aa, trivial⟩, W⟩
 rintro a w ⟨x1, v3, hj, F, W⟩
 have hj := AP hj
 subst hj
 have H := K1
 clear G1 K1
 refine Ah (Ab ?_)
 refine ls F W Aa (Af F Aa).q fun a w F W => ?_
 obtain ⟨x8, h4, H⟩ := Am H
 refine BK (Ml := []) (Zl := [row v3 60 CF x1]) (M := [(b1, [.int .i64 p0.1, v1, v2])]) (Z := []) (β := Unit) (rv := fun x => .tuple #[]) (MM := fun x => []) (ZZ := fun x => [row v3 60 CF x8]) F W RY Aa Aa (fun hL => DA _ _ w (v3) x1 _ h4 hL) fun x a w F W => ?_
 have W : Stw ⟨Y, [], w0⟩ [(b1, [.int .i64 p0.1, v1, v2])] [row v3 60 CF x8] w := W
 refine Ad (Ac (Ah (Ab ?_)))
 refine ls F W Aa (Af F Aa).q fun a w F W => ?_
 refine ls F W Aa (Ae F Aa).q fun a w F W => ?_
 refine Ad (Ac (Av ?_))
 have H := AP H
 subst H
 refine AQ (.inl Aa) F W Aa (Ap F Aa) ?_
 have W := W.sub (M' := []) (Z' := [row v3 60 CF x8]) (List.nil_sublist _) (List.Sublist.refl _)
 exact ⟨(v3), Aa, W⟩
theorem Rf : Has Try.prog 25 := ⟨fun args w => Aj Try.func25 rfl (by decide) args w⟩
def CU (p0 : List Nat) (p1 : Int) : Bool := (decide (0 ≤ p1) && decide (p1 < (p0.length : Int)))
theorem IY (Y : Nat → Prop) (w0 : World) (v1 : Value) (p0 : List Nat) (p1 : Int) (r : Bool) (H : CU p0 p1 = r) (h_v1 : Sl w0 (NX []) (Rp.flt .f64) v1 p0) :
    Calls Try.prog 58 #[v1, .int .i64 p1] w0 fun e w' => e = .returned (.bool r) ∧ Below w0.heap.size w0 w' := by
 refine enter Try.func58 Aa Try.ntmps58 Aa fun a F => ?_
 have W := Stw.start Y w0
 unfold CU at H
 refine Ah (Ab ?_)
 refine ls F W Aa (Ae F Aa).q fun a w F W => ?_
 refine Ad (Ac ?_)
 refine AJ (fun a w => Fr 13 [] [(4, .bool (decide (0 ≤ p1) && decide (p1 < (p0.length : Int))))] a ∧ Stw ⟨Y, [], w0⟩ [] [] w) ?_ ?_
 ·
  refine Ab ?_
  refine ls F W Aa (Af F Aa).q fun a w F W => ?_
  refine ls F W Aa (Ei F Aa Aa).q fun a w F W => ?_
  refine ls F W Aa (Af F Aa).q fun a w F W => ?_
  rcases Bool.eq_false_or_eq_true (decide (0 ≤ p1)) with hb0 | hb0
  ·
   rw [hb0] at F
   iterate 2 refine AF F W (Ag F Aa Aa Aa Aa) Aa (Al Aa) (Af F Aa).q fun a w F W => ?_
   refine AF F W (Ag F Aa Aa Aa Aa) Aa (Al Aa) (Bh (r := (Rp.flt .f64)) (l := p0) KT Aa F Aa (Ak h_v1)).q fun a w F W => ?_
   refine AF F W (Ag F Aa Aa Aa Aa) Aa (Al Aa) (Bg F Aa Aa).q fun a w F W => ?_
   refine ls F W Aa (Ao F Aa Aa Aa).q fun a w F W => ?_
   refine ls F W Aa (Ae F Aa).q fun a w F W => ?_
   refine Ad (Ac ?_)
   exact ⟨F.re ⟨(by show some (Value.bool (decide (p1 < (p0.length : Int)))) = some (Value.bool (decide (0 ≤ p1) && decide (p1 < (p0.length : Int)))); try rw [hb0]; all_goals simp only [Bool.not_true, Bool.not_false, Bool.true_and, Bool.false_and, Bool.true_or, Bool.false_or, Bool.and_true, Bool.or_false, cond_true, cond_false]), trivial⟩, W⟩
  rw [hb0] at F
  iterate 4 refine Cd F Aa Aa Aa Aa Aa Aa Aa fun a F => ?_
  refine ls F W Aa (Au F Aa Aa Aa).q fun a w F W => ?_
  refine ls F W Aa (Ae F Aa).q fun a w F W => ?_
  refine Ad (Ac ?_)
  exact ⟨F.re ⟨(by show some (Value.bool false) = some (Value.bool (decide (0 ≤ p1) && decide (p1 < (p0.length : Int)))); try rw [hb0]; all_goals simp only [Bool.not_true, Bool.not_false, Bool.true_and, Bool.false_and, Bool.true_or, Bool.false_or, Bool.and_true, Bool.or_false, cond_true, cond_false]), trivial⟩, W⟩
 rintro a w ⟨F, W⟩
 refine Av ?_
 subst H
 refine AQ (.inl Aa) F W Aa (Ap F Aa) ?_
 exact ⟨rfl, W.done⟩
theorem R5 : Has Try.prog 58 := ⟨fun args w => Aj Try.func58 rfl (by decide) args w⟩
noncomputable def E5 (p0 : List Nat) (p1 : Int) : Option Bool := (if (CU p0 p1) = true then (ix p0 p1).bind fun x2 => (Ed 1).bind fun x3 => some (Pd x2 x3) else some false).bind fun x1 => some x1
theorem IV (Y : Nat → Prop) (w0 : World) (v1 : Value) (p0 : List Nat) (p1 : Int) (r : Bool) (H : E5 p0 p1 = some r) (h_v1 : Sl w0 (NX []) (Rp.flt .f64) v1 p0) :
    Calls Try.prog 43 #[v1, .int .i64 p1] w0 fun e w' => e = .returned (.bool r) ∧ Below w0.heap.size w0 w' := by
 refine enter Try.func43 Aa Try.ntmps43 Aa fun a F => ?_
 have W := Stw.start Y w0
 unfold E5 at H
 refine Ah (Ab ?_)
 refine ls F W Aa (Ae F Aa).q fun a w F W => ?_
 refine Ad (Ac ?_)
 obtain ⟨o1, G1, K1⟩ := Am H
 refine AJ (fun a w => ∃ x1 : Bool, some (x1) = some o1 ∧ Fr 16 [] [(4, .bool x1)] a ∧ Stw ⟨Y, [], w0⟩ [] [] w) ?_ ?_
 ·
  have H := G1
  clear G1 K1
  refine Cn W MO (by kernel_rfl) ?_
  iterate 2 refine qs F Aa (Af F Aa).q fun a F => ?_
  refine qs F Aa (AW (v := Value.bool (CU p0 p1)) F R5 Aa (fun w W => IY any w (v1) p0 p1 _ Aa (((Ak h_v1) : CE _ _ _ _ _ _) w W).nx)) fun a F => ?_
  refine qs F Aa (Af F Aa).q fun a F => ?_
  rcases Bool.eq_false_or_eq_true (CU p0 p1) with hb | hb
  ·
   have H := AM hb H
   rw [hb] at F
   clear hb
   iterate 2 refine BW F (Ag F Aa Aa Aa Aa) Aa (Al Aa) (Af F Aa).q fun a F => ?_
   obtain ⟨x2, h1, H⟩ := Am H
   refine BW F (Ag F Aa Aa Aa Aa) Aa (Al Aa) (AK (r := (Rp.flt .f64)) I4 F Aa Aa (Ak h_v1) h1).q fun a F => ?_
   refine BW F (Ag F Aa Aa Aa Aa) Aa (Al Aa) (Ay (y := Value.float .f64 x2) (j := 0) (i := p1) F Aa Aa (Ak h_v1) h1 Fl.flt.to NO Aa).q fun a F => ?_
   obtain ⟨x3, h2, H⟩ := Am H
   refine BW F (Ag F Aa Aa Aa Aa) Aa (Al Aa) (AW (v := Value.float .f64 x3) F Q1 Aa (fun w W => FM any w 1 _ h2)) fun a F => ?_
   refine BW F (Ag F Aa Aa Aa Aa) Aa (Al Aa) (KD F Aa Aa).q fun a F => ?_
   refine qs F Aa (Ao F Aa Aa Aa).q fun a F => ?_
   refine qs F Aa (Ae F Aa).q fun a F => ?_
   refine Bo fun w W => ?_
   refine Ac ?_
   exact ⟨_, H, F.re ⟨rfl, trivial⟩, W⟩
  have H := AN (by rw [hb]; decide) H
  rw [hb] at F
  clear hb
  iterate 6 refine ER F (DN F Aa Aa Aa Aa Aa) Aa Aa fun a F => ?_
  refine qs F Aa (Au F Aa Aa Aa).q fun a F => ?_
  refine qs F Aa (Ae F Aa).q fun a F => ?_
  refine Bo fun w W => ?_
  refine Ac ?_
  exact ⟨_, H, F.re ⟨rfl, trivial⟩, W⟩
 rintro a w ⟨x1, hj, F, W⟩
 have hj := AP hj
 subst hj
 have H := K1
 clear G1 K1
 refine Av ?_
 have H := AP H
 subst H
 refine AQ (.inl Aa) F W Aa (Ap F Aa) ?_
 exact ⟨rfl, W.done⟩
theorem Ja {a b : Nat} (h : Fw a = Fw b) : BA a = BA b := by
  refine QV (f := fun a : Nat => BA a) (fun a h => ?_) h
  first
  | (have e1 : B9 a = true := by unfold B9; rw [Nb h]; rfl
     have e2 : B9 9221120237041090561 = true := by unfold B9; rw [Nb (by decide)]; rfl
     show BA a = BA 9221120237041090561
     unfold BA
     simp only [e1, e2, if_true]; done)
  | exact r03_Clean_nan h
theorem RT : Has Try.prog 43 := ⟨fun args w => Aj Try.func43 rfl (by decide) args w⟩
def Bp (p0 : Nat) (p1 : Nat) : Nat := (if (MT (BA (Fo p0 p1)) 0) = true then 0 else (BA (Fo p0 p1)))
theorem HE (Y : Nat → Prop) (w0 : World)  (p0 : Nat) (p1 : Nat) (r : Nat) (H : Bp p0 p1 = r)  :
    Calls Try.prog 44 #[.float .f64 p0, .float .f64 p1] w0 fun e w' => e = .returned (.float .f64 r) ∧ Below w0.heap.size w0 w' := by
 refine enter Try.func44 Aa Try.ntmps44 Aa fun a F => ?_
 have W := Stw.start Y w0
 unfold Bp at H
 refine Ah (Ab ?_)
 refine ls F W Aa (Ae F Aa).q fun a w F W => ?_
 refine Ad (Ac (Ah (Ab ?_)))
 iterate 2 refine ls F W Aa (Af F Aa).q fun a w F W => ?_
 refine P2 F W Aa Aa Aa fun b1 a w c_b1 F W => ?_
 refine ls F W Aa (AW (v := Value.float .f64 (BA b1)) F Rz Aa (fun w W => GV any w b1 _ Aa)) fun a w F W => ?_
 rw [Ja c_b1] at F
 refine ls F W Aa (Ae F Aa).q fun a w F W => ?_
 refine Ad (Ac (Ah (Ah (Ab ?_))))
 refine ls F W Aa (Af F Aa).q fun a w F W => ?_
 refine ls F W Aa (Od F Aa Aa).q fun a w F W => ?_
 refine Ad (Ac ?_)
 refine Aw F Aa (fun hb => ?_) fun hb => ?_
 ·
  have H := AM hb H
  rw [hb] at F
  clear hb
  refine Ah (Ab ?_)
  refine ls F W Aa (Ae F Aa).q fun a w F W => ?_
  refine Ad (Ac (Av (AH ?_)))
  subst H
  refine AQ (.inl Aa) F W Aa (Ap F Aa) ?_
  exact ⟨rfl, W.done⟩
 have H := AN (by rw [hb]; decide) H
 rw [hb] at F
 clear hb
 refine Aq (Ac (Ah (Ab ?_)))
 refine ls F W Aa (Af F Aa).q fun a w F W => ?_
 refine ls F W Aa (Ae F Aa).q fun a w F W => ?_
 refine Ad (Ac (Av ?_))
 subst H
 refine AQ (.inl Aa) F W Aa (Ap F Aa) ?_
 exact ⟨rfl, W.done⟩
theorem RB : Has Try.prog 44 := ⟨fun args w => Aj Try.func44 rfl (by decide) args w⟩
noncomputable def CG (p2 : Int) (x4 : List Nat) : (List Int × Int) → Option ((List Int × Int) ⊕ (List Int))
  | (x7, x8) => (if x8 < ((AE x4 p2 0).length : Int) then (IQ x7 ([x8] : List Int)).bind fun x9 => some (.inl (x9, BV (x8 + 1))) else some (.inr x7))
noncomputable def B6 (p1 : List Nat) (x13 : List Int) (x14 : Int) (x16 : (List (Int × Int × Int))) : (Int × List Nat) → Option ((Int × List Nat) ⊕ ((List Int × List Nat) ⊕ (List Nat)))
  | (x17, x18) => (if x17 < (x16.length : Int) then ((ix x16 x17).bind fun x20 => (E5 p1 x20.2.2).bind fun x21 => (if x21 = true then (ix x18 x20.2.1).bind fun x22 => (ix p1 x20.2.2).bind fun x23 => (ix x18 x14).bind fun x24 => (JU x22 (Bp x23 x24)).bind fun x25 => (ix x18 x20.2.1).bind fun x26 => some (AE x18 x20.2.1 x25) else some x18)).bind fun x19 => some (.inl (BV (x17 + 1), x19)) else (Gp x13 1 (x13.length : Int)).bind fun x27 => some (.inr (.inl (x27, x18))))
noncomputable def CI (p0 : Int × (List (Int × Int × Int × Int × Int × Int)) × (List (Int × Int))) (p1 : List Nat) : (List Int × List Nat) → Option ((List Int × List Nat) ⊕ (List Nat))
  | (x11, x12) => (if 0 < (x11.length : Int) then (BO x11 x12).bind fun x13 => (ix x13 0).bind fun x14 => (Gp x13 1 (x13.length : Int)).bind fun x15 => (Dv p0 x14).bind fun x16 => AA (B6 p1 x13 x14 x16) (0, x12) else some (.inr x12))
noncomputable def CL (p0 : Int × (List (Int × Int × Int × Int × Int × Int)) × (List (Int × Int))) (p1 : List Nat) (p2 : Int) : Option (List Nat) := ((Df p0 p1).bind fun x2 => (if (!x2) = true then some true else (if p2 < 0 then some true else some (decide (p0.1 ≤ p2))))).bind fun x1 => (if x1 = true then some ([] : List Nat) else (Ed 1).bind fun x3 => (A3 ([x3] : List Nat) p0.1).bind fun x4 => (ix x4 p2).bind fun x5 => (AA (CG p2 x4) ([], 0)).bind fun x6 => (AA (CI p0 p1) (x6, (AE x4 p2 0))).bind fun x10 => (Rh x10).bind fun x28 => some x10)
theorem GQ (Y : Nat → Prop) (w0 : World) (v1 : Value) (v2 : Value) (v3 : Value) (p0 : Int × (List (Int × Int × Int × Int × Int × Int)) × (List (Int × Int))) (p1 : List Nat) (p2 : Int) (r : List Nat) (H : CL p0 p1 p2 = some r) (h_v1 : Sl w0 (NX []) Ev v1 p0.2.1) (h_v2 : Sl w0 (NX []) Ep v2 p0.2.2) (h_v3 : Sl w0 (NX []) (Rp.flt .f64) v3 p1) :
    Calls Try.prog 23 #[.agg #[.int .i64 p0.1, v1, v2], v3, .int .i64 p2] w0 fun e w' => ∃ x : {x : Value // NN x (r)}, e = .returned (x.1) ∧ Stw ⟨Y, [], w0⟩ [] [row (x.1) 50 (Rp.flt .f64) r] w' := by
 refine enter Try.func23 Aa Try.ntmps23 Aa fun a F => ?_
 have W := Stw.start Y w0
 unfold CL at H
 refine Ah (Ab ?_)
 refine C5 (cs := [.int .i64 p0.1, v1, v2]) F W Aa Aa Aa fun b1 a w F W => ?_
 refine ls F W Aa (Ae F Aa).q fun a w F W => ?_
 refine Ad (Ac (Ah ?_))
 obtain ⟨o1, G1, K1⟩ := Am H
 refine AJ (fun a w => ∃ x1 : Bool, some (x1) = some o1 ∧ Fr 90 [] [(1, v3), (2, .int .i64 p2), (3, .pointer (some ⟨b1, 0, none⟩)), (6, .slice none 0 0), (26, .bool x1)] a ∧ Stw ⟨Y, [], w0⟩ [(b1, [.int .i64 p0.1, v1, v2])] [] w) ?_ ?_
 ·
  have H := G1
  clear G1 K1
  refine Ab ?_
  refine ls F W Aa (An (v := Value.agg #[.int .i64 p0.1, v1, v2]) 0 F Aa Aa GI Aa).q fun a w F W => ?_
  refine ls F W Aa (Af F Aa).q fun a w F W => ?_
  obtain ⟨x2, h1, H⟩ := Am H
  refine ls F W Aa (AW (v := Value.bool x2) F Q9 Aa (fun w W => Fp any w (v1) (v2) (v3) p0 p1 _ h1 (((Ak h_v1) : CE _ _ _ _ _ _) w W).nx (((Ak h_v2) : CE _ _ _ _ _ _) w W).nx (((Ak h_v3) : CE _ _ _ _ _ _) w W).nx)) fun a w F W => ?_
  refine ls F W Aa (EP F Aa).q fun a w F W => ?_
  refine ls F W Aa (Af F Aa).q fun a w F W => ?_
  rcases Bool.eq_false_or_eq_true (!x2) with hb | hb
  ·
   have H := AM hb H
   rw [hb] at F
   clear hb
   iterate 2 refine Cd F Aa Aa Aa Aa Aa Aa Aa fun a F => ?_
   refine ls F W Aa (Ao F Aa Aa Aa).q fun a w F W => ?_
   refine ls F W Aa (Af F Aa).q fun a w F W => ?_
   iterate 4 refine Cd F Aa Aa Aa Aa Aa Aa Aa fun a F => ?_
   refine ls F W Aa (Ao F Aa Aa Aa).q fun a w F W => ?_
   refine Ad (Ac ?_)
   exact ⟨_, H, F.re ⟨rfl, Aa, Aa, Aa, Aa, trivial⟩, W⟩
  have H := AN (by rw [hb]; decide) H
  rw [hb] at F
  clear hb
  refine AF F W (Ag F Aa Aa Aa Aa) Aa (Al Aa) (Af F Aa).q fun a w F W => ?_
  refine AF F W (Ag F Aa Aa Aa Aa) Aa (Al Aa) (Bg F Aa Aa).q fun a w F W => ?_
  refine ls F W Aa (Au F Aa Aa Aa).q fun a w F W => ?_
  refine ls F W Aa (Af F Aa).q fun a w F W => ?_
  rcases Bool.eq_false_or_eq_true (decide (p2 < 0)) with hb | hb
  ·
   have H := AM (Bj hb) H
   rw [hb] at F
   clear hb
   iterate 4 refine Cd F Aa Aa Aa Aa Aa Aa Aa fun a F => ?_
   refine ls F W Aa (Ao F Aa Aa Aa).q fun a w F W => ?_
   refine Ad (Ac ?_)
   exact ⟨_, H, F.re ⟨rfl, Aa, Aa, Aa, Aa, trivial⟩, W⟩
  have H := AN (Bk hb) H
  rw [hb] at F
  clear hb
  refine AF F W (Ag F Aa Aa Aa Aa) Aa (Al Aa) (Af F Aa).q fun a w F W => ?_
  refine AF F W (Ag F Aa Aa Aa Aa) Aa (Al Aa) (Ai CC Aa Aa Aa T3 F Aa 0 Aa).q fun a w F W => ?_
  refine AF F W (Ag F Aa Aa Aa Aa) Aa (Al Aa) (An (v := Value.int .i64 p0.1) 0 F Aa Aa T3 Aa).q fun a w F W => ?_
  refine AF F W (Ag F Aa Aa Aa Aa) Aa (Al Aa) (Ei F Aa Aa).q fun a w F W => ?_
  refine ls F W Aa (Au F Aa Aa Aa).q fun a w F W => ?_
  refine Ad (Ac ?_)
  exact ⟨_, H, F.re ⟨rfl, Aa, Aa, Aa, Aa, trivial⟩, W⟩
 rintro a w ⟨x1, hj, F, W⟩
 have hj := AP hj
 subst hj
 have H := K1
 clear G1 K1
 refine Aw F Aa (fun hb => ?_) fun hb => ?_
 ·
  have H := AM hb H
  rw [hb] at F
  clear hb
  refine Ah (Ab ?_)
  refine ls F W Aa (Ae F Aa).q fun a w F W => ?_
  refine Ad (Ac (Av (AH ?_)))
  have H := AP H
  subst H
  refine AQ (.inl Aa) F W Aa (Ap F Aa) ?_
  have W := W.nilRow 50 (Rp.flt .f64)
  have W := W.sub (M' := []) (Z' := [row (Value.slice none 0 0) 50 (Rp.flt .f64) ([])]) (List.nil_sublist _) (List.Sublist.refl _)
  exact ⟨⟨Value.slice none 0 0, fun h => nomatch h⟩, Aa, W⟩
 have H := AN (by rw [hb]; decide) H
 rw [hb] at F
 clear hb
 refine Aq (Ac (Ah ?_))
 obtain ⟨x3, h2, H⟩ := Am H
 obtain ⟨x4, h3, H⟩ := Am H
 refine PJ (fun a w => ∃ b2 : Nat, ∃ v4 : Value, ∃ v5 : Value, Fr 90 [] [(1, v3), (2, .int .i64 p2), (3, .pointer (some ⟨b1, 0, none⟩)), (6, .slice none 0 0), (7, .pointer (some ⟨b2, 0, none⟩)), (26, .bool false), (27, .float .f64 x3), (28, v4), (29, .pointer (some ⟨b1, 0, none⟩)), (30, .int .i64 p0.1), (31, v5)] a ∧ Stw ⟨Y, [], w0⟩ [(b2, [v5]), (b1, [.int .i64 p0.1, v1, v2])] [row v5 50 (Rp.flt .f64) x4, HA v4 (Rp.flt .f64) ([x3] : List Nat)] w) ?_ ?_
 ·
  refine Ok (PT.st 2 (PT.st 3 (PT.alt 0 (PT.alt 1 (PT.alt 4 (PT.alt 5 (PT.alt 6 PT.done PT.stop) PT.stop) (PT.alt 5 (PT.alt 4 (PT.alt 6 PT.done PT.stop) PT.stop) PT.stop)) (PT.alt 5 (PT.alt 1 (PT.alt 4 (PT.alt 6 PT.done PT.stop) PT.stop) PT.stop) PT.stop)) (PT.alt 5 (PT.alt 0 (PT.alt 1 (PT.alt 4 (PT.alt 6 PT.done PT.stop) PT.stop) PT.stop) PT.stop) PT.stop)))) (CN ⟨Y, [], w0⟩ [(some 4, b1, [.int .i64 p0.1, v1, v2])] []) (fun ch a d v w h => by cases d <;> exact h) MO (by kernel_rfl) W (fun w W => ⟨_, _, W, (all_cons (fun _ => (.head _)) AL), AL⟩) fun w W => ?_
  refine QD (R := []) F Aa Aa (yC fun M Z hN hZ => Ai CC Aa Aa Aa T3 F Aa 0 Aa) Aa Aa fun a F => ?_
  refine QD (R := [4]) F Aa Aa (yC fun M Z hN hZ => LF (cs := [.int .i64 p0.1, v1, v2]) (v := Value.int .i64 p0.1) F Aa (hN ((some 4), b1, [.int .i64 p0.1, v1, v2]) (.head _) Aa) T3 Aa) (by kernel_rfl) Aa fun a F => ?_
  refine LV Aa ?_ ?_
  ·
   refine ls F W Aa (AW (v := Value.float .f64 x3) F Q1 Aa (fun w W => FM any w 1 _ h2)) fun a w F W => ?_
   refine CA (N2 := []) (NZ2 := []) (N3 := [(some 4, b1, [.int .i64 p0.1, v1, v2])]) (NZ3 := []) W Aa Aa (all_cons (fun _ => (.head _)) AL) AL ?_
   refine LV Aa ?_ ?_
   ·
    refine Cr (z := Value.float .f64 0) (cs := [.float .f64 x3]) (Rp.flt .f64) ([x3] : List Nat) F W Aa I4 QG Aa Aa Aa Aa Aa Aa (Fl.flt.repL _ _ ([x3] : List Nat)) fun v4 a w F W => ?_
    refine CA (N2 := []) (NZ2 := []) (N3 := [(some 4, b1, [.int .i64 p0.1, v1, v2])]) (NZ3 := []) W Aa Aa (all_cons (fun _ => (.head _)) AL) AL ?_
    refine LV Aa ?_ ?_
    ·
     have W := W.freeze
     refine BK (Ml := []) (Zl := []) (M := [(b1, [.int .i64 p0.1, v1, v2])]) (Z := [HA v4 (Rp.flt .f64) ([x3] : List Nat)]) (β := Value) (rv := fun x => x) (MM := fun x => []) (ZZ := fun x => [row x 50 (Rp.flt .f64) x4]) F W Q0 Aa Aa (fun hL => Bz _ w (v4) ([x3] : List Nat) p0.1 _ h3 (W.item (i := 0) Aa)) fun x a w F W => ?_
     obtain ⟨v5, rfl⟩ : ∃ y, y = x := ⟨x, rfl⟩
     have W : Stw ⟨Y, [], w0⟩ [(b1, [.int .i64 p0.1, v1, v2])] [row v5 50 (Rp.flt .f64) x4, HA v4 (Rp.flt .f64) ([x3] : List Nat)] w := W
     refine CA (N2 := []) (NZ2 := []) (N3 := [(some 4, b1, [.int .i64 p0.1, v1, v2])]) (NZ3 := []) W Aa Aa (all_cons (fun h => Cf (by kernel_rfl) h) AL) AL ?_
     refine Gw Aa ?_
     refine CB (cs := [.slice none 0 0]) F W Aa Q2 Aa fun b2 a w F W => ?_
     refine CA (N2 := []) (NZ2 := []) (N3 := [(some 4, b1, [.int .i64 p0.1, v1, v2])]) (NZ3 := []) W Aa Aa (all_cons (fun h => Cf (by kernel_rfl) h) AL) AL ?_
     refine Gw Aa ?_
     refine Hp (M' := [(b2, [v5]), (b1, [.int .i64 p0.1, v1, v2])]) 0 F W Aa Aa Aa NS (W.one (k := 0) Aa) Aa Aa fun w W => ?_
     refine CA (N2 := []) (NZ2 := []) (N3 := [(some 4, b1, [.int .i64 p0.1, v1, v2])]) (NZ3 := []) W Aa Aa (all_cons (fun h => Cf (by kernel_rfl) h) AL) AL ?_
     have W := W.frontZ (i := 1) Aa Aa
     have W := W.frontZ (i := 1) Aa Aa
     have W := W.frontM (i := 1) Aa Aa
     have W := W.frontM (i := 1) Aa Aa
     refine Kk ?_
     exact ⟨b2, v4, v5, F.re ⟨rfl, Aa, Aa, Aa, Aa, Aa, Aa, Aa, Aa, Aa, Aa, trivial⟩, W⟩
    refine LV Aa ?_ ?_
    ·
     refine CB (cs := [.slice none 0 0]) F W Aa Q2 Aa fun b2 a w F W => ?_
     refine CA (N2 := []) (NZ2 := []) (N3 := [(some 4, b1, [.int .i64 p0.1, v1, v2])]) (NZ3 := []) W Aa Aa (all_cons (fun _ => (.tail _ (.head _))) AL) AL ?_
     refine Gw Aa ?_
     have W := W.freeze
     refine BK (Ml := []) (Zl := []) (M := [(b2, [.slice none 0 0]), (b1, [.int .i64 p0.1, v1, v2])]) (Z := [HA v4 (Rp.flt .f64) ([x3] : List Nat)]) (β := Value) (rv := fun x => x) (MM := fun x => []) (ZZ := fun x => [row x 50 (Rp.flt .f64) x4]) F W Q0 Aa Aa (fun hL => Bz _ w (v4) ([x3] : List Nat) p0.1 _ h3 (W.item (i := 0) Aa)) fun x a w F W => ?_
     obtain ⟨v5, rfl⟩ : ∃ y, y = x := ⟨x, rfl⟩
     have W : Stw ⟨Y, [], w0⟩ [(b2, [.slice none 0 0]), (b1, [.int .i64 p0.1, v1, v2])] [row v5 50 (Rp.flt .f64) x4, HA v4 (Rp.flt .f64) ([x3] : List Nat)] w := W
     refine CA (N2 := []) (NZ2 := []) (N3 := [(some 4, b1, [.int .i64 p0.1, v1, v2])]) (NZ3 := []) W Aa Aa (all_cons (fun h => Cf (by kernel_rfl) h) AL) AL ?_
     refine Gw Aa ?_
     refine Hp (M' := [(b2, [v5]), (b1, [.int .i64 p0.1, v1, v2])]) 0 F W Aa Aa Aa NS (W.one (k := 0) Aa) Aa Aa fun w W => ?_
     refine CA (N2 := []) (NZ2 := []) (N3 := [(some 4, b1, [.int .i64 p0.1, v1, v2])]) (NZ3 := []) W Aa Aa (all_cons (fun h => Cf (by kernel_rfl) h) AL) AL ?_
     have W := W.frontZ (i := 1) Aa Aa
     have W := W.frontZ (i := 1) Aa Aa
     have W := W.frontM (i := 1) Aa Aa
     have W := W.frontM (i := 1) Aa Aa
     refine Kk ?_
     exact ⟨b2, v4, v5, F.re ⟨rfl, Aa, Aa, Aa, Aa, Aa, Aa, Aa, Aa, Aa, Aa, trivial⟩, W⟩
    exact trivial
   refine LV Aa ?_ ?_
   ·
    refine CB (cs := [.slice none 0 0]) F W Aa Q2 Aa fun b2 a w F W => ?_
    refine CA (N2 := []) (NZ2 := []) (N3 := [(some 4, b1, [.int .i64 p0.1, v1, v2])]) (NZ3 := []) W Aa Aa (all_cons (fun _ => (.tail _ (.head _))) AL) AL ?_
    refine Gw Aa ?_
    refine Cr (z := Value.float .f64 0) (cs := [.float .f64 x3]) (Rp.flt .f64) ([x3] : List Nat) F W Aa I4 QG Aa Aa Aa Aa Aa Aa (Fl.flt.repL _ _ ([x3] : List Nat)) fun v4 a w F W => ?_
    refine CA (N2 := []) (NZ2 := []) (N3 := [(some 4, b1, [.int .i64 p0.1, v1, v2])]) (NZ3 := []) W Aa Aa (all_cons (fun _ => (.tail _ (.head _))) AL) AL ?_
    refine Gw Aa ?_
    have W := W.freeze
    refine BK (Ml := []) (Zl := []) (M := [(b2, [.slice none 0 0]), (b1, [.int .i64 p0.1, v1, v2])]) (Z := [HA v4 (Rp.flt .f64) ([x3] : List Nat)]) (β := Value) (rv := fun x => x) (MM := fun x => []) (ZZ := fun x => [row x 50 (Rp.flt .f64) x4]) F W Q0 Aa Aa (fun hL => Bz _ w (v4) ([x3] : List Nat) p0.1 _ h3 (W.item (i := 0) Aa)) fun x a w F W => ?_
    obtain ⟨v5, rfl⟩ : ∃ y, y = x := ⟨x, rfl⟩
    have W : Stw ⟨Y, [], w0⟩ [(b2, [.slice none 0 0]), (b1, [.int .i64 p0.1, v1, v2])] [row v5 50 (Rp.flt .f64) x4, HA v4 (Rp.flt .f64) ([x3] : List Nat)] w := W
    refine CA (N2 := []) (NZ2 := []) (N3 := [(some 4, b1, [.int .i64 p0.1, v1, v2])]) (NZ3 := []) W Aa Aa (all_cons (fun h => Cf (by kernel_rfl) h) AL) AL ?_
    refine Gw Aa ?_
    refine Hp (M' := [(b2, [v5]), (b1, [.int .i64 p0.1, v1, v2])]) 0 F W Aa Aa Aa NS (W.one (k := 0) Aa) Aa Aa fun w W => ?_
    refine CA (N2 := []) (NZ2 := []) (N3 := [(some 4, b1, [.int .i64 p0.1, v1, v2])]) (NZ3 := []) W Aa Aa (all_cons (fun h => Cf (by kernel_rfl) h) AL) AL ?_
    have W := W.frontZ (i := 1) Aa Aa
    have W := W.frontZ (i := 1) Aa Aa
    have W := W.frontM (i := 1) Aa Aa
    have W := W.frontM (i := 1) Aa Aa
    refine Kk ?_
    exact ⟨b2, v4, v5, F.re ⟨rfl, Aa, Aa, Aa, Aa, Aa, Aa, Aa, Aa, Aa, Aa, trivial⟩, W⟩
   exact trivial
  refine LV Aa ?_ ?_
  ·
   refine CB (cs := [.slice none 0 0]) F W Aa Q2 Aa fun b2 a w F W => ?_
   refine CA (N2 := []) (NZ2 := []) (N3 := [(some 4, b1, [.int .i64 p0.1, v1, v2])]) (NZ3 := []) W Aa Aa (all_cons (fun _ => (.tail _ (.head _))) AL) AL ?_
   refine Gw Aa ?_
   refine ls F W Aa (AW (v := Value.float .f64 x3) F Q1 Aa (fun w W => FM any w 1 _ h2)) fun a w F W => ?_
   refine CA (N2 := []) (NZ2 := []) (N3 := [(some 4, b1, [.int .i64 p0.1, v1, v2])]) (NZ3 := []) W Aa Aa (all_cons (fun _ => (.tail _ (.head _))) AL) AL ?_
   refine Gw Aa ?_
   refine Cr (z := Value.float .f64 0) (cs := [.float .f64 x3]) (Rp.flt .f64) ([x3] : List Nat) F W Aa I4 QG Aa Aa Aa Aa Aa Aa (Fl.flt.repL _ _ ([x3] : List Nat)) fun v4 a w F W => ?_
   refine CA (N2 := []) (NZ2 := []) (N3 := [(some 4, b1, [.int .i64 p0.1, v1, v2])]) (NZ3 := []) W Aa Aa (all_cons (fun _ => (.tail _ (.head _))) AL) AL ?_
   refine Gw Aa ?_
   have W := W.freeze
   refine BK (Ml := []) (Zl := []) (M := [(b2, [.slice none 0 0]), (b1, [.int .i64 p0.1, v1, v2])]) (Z := [HA v4 (Rp.flt .f64) ([x3] : List Nat)]) (β := Value) (rv := fun x => x) (MM := fun x => []) (ZZ := fun x => [row x 50 (Rp.flt .f64) x4]) F W Q0 Aa Aa (fun hL => Bz _ w (v4) ([x3] : List Nat) p0.1 _ h3 (W.item (i := 0) Aa)) fun x a w F W => ?_
   obtain ⟨v5, rfl⟩ : ∃ y, y = x := ⟨x, rfl⟩
   have W : Stw ⟨Y, [], w0⟩ [(b2, [.slice none 0 0]), (b1, [.int .i64 p0.1, v1, v2])] [row v5 50 (Rp.flt .f64) x4, HA v4 (Rp.flt .f64) ([x3] : List Nat)] w := W
   refine CA (N2 := []) (NZ2 := []) (N3 := [(some 4, b1, [.int .i64 p0.1, v1, v2])]) (NZ3 := []) W Aa Aa (all_cons (fun h => Cf (by kernel_rfl) h) AL) AL ?_
   refine Gw Aa ?_
   refine Hp (M' := [(b2, [v5]), (b1, [.int .i64 p0.1, v1, v2])]) 0 F W Aa Aa Aa NS (W.one (k := 0) Aa) Aa Aa fun w W => ?_
   refine CA (N2 := []) (NZ2 := []) (N3 := [(some 4, b1, [.int .i64 p0.1, v1, v2])]) (NZ3 := []) W Aa Aa (all_cons (fun h => Cf (by kernel_rfl) h) AL) AL ?_
   have W := W.frontZ (i := 1) Aa Aa
   have W := W.frontZ (i := 1) Aa Aa
   have W := W.frontM (i := 1) Aa Aa
   have W := W.frontM (i := 1) Aa Aa
   refine Kk ?_
   exact ⟨b2, v4, v5, F.re ⟨rfl, Aa, Aa, Aa, Aa, Aa, Aa, Aa, Aa, Aa, Aa, trivial⟩, W⟩
  exact trivial
 rintro a w ⟨b2, v4, v5, F, W⟩
 refine Ac (Ah (Ab ?_))
 refine ls F W Aa (An (v := v5) 0 F Aa Aa NS Aa).q fun a w F W => ?_
 refine ls F W Aa (Af F Aa).q fun a w F W => ?_
 obtain ⟨x5, h4, H⟩ := Am H
 refine ls F W Aa (AK (r := (Rp.flt .f64)) I4 F Aa Aa (Ax 0 Aa) h4).q fun a w F W => ?_
 refine CT (i := p2) (j := 0) (vs := [.float .f64 0]) (x' := 0) F W Aa Aa Aa (k := 0) Aa Aa h4 NO Aa Aa Aa Aa (fun A cs _ => Fl.flt.sto (by rfl) _ _ _) fun w W => ?_
 refine Ad (Ac (Ah (Ab ?_)))
 refine ls F W Aa (Ae F Aa).q fun a w F W => ?_
 refine Ad (Ac ?_)
 obtain ⟨o2, G2, K2⟩ := Am H
 refine AJ (fun a w => ∃ x6 : List Int, ∃ v6 : Value, some (x6) = some o2 ∧ Fr 90 [] [(1, v3), (3, .pointer (some ⟨b1, 0, none⟩)), (6, .slice none 0 0), (7, .pointer (some ⟨b2, 0, none⟩)), (8, v6)] a ∧ Stw ⟨Y, [], w0⟩ [(b2, [v5]), (b1, [.int .i64 p0.1, v1, v2])] [row v6 3 (Rp.int .i64) x6, row v5 50 (Rp.flt .f64) (AE x4 p2 0)] w) ?_ ?_
 ·
  have H := G2
  clear G2 K2
  refine Ah (Ab ?_)
  refine ls F W Aa (An (v := v5) 0 F Aa Aa NS Aa).q fun a w F W => ?_
  refine ls F W Aa (Bh (r := (Rp.flt .f64)) (l := (AE x4 p2 0)) KT Aa F Aa (Ax 0 Aa)).q fun a w F W => ?_
  refine ls F W Aa (Af F Aa).q fun a w F W => ?_
  refine Ad (Ac (As ?_))
  have W := W.nilRow 3 (Rp.int .i64)
  have W := W.frontZ (i := 1) Aa Aa
  have W := W.frontZ (i := 1) Aa Aa
  have W := W.frontM (i := 1) Aa Aa
  have W := W.frontM (i := 1) Aa Aa
  have W := W.sub (M' := [(b2, [v5]), (b1, [.int .i64 p0.1, v1, v2])]) (Z' := [row (Value.slice none 0 0) 3 (Rp.int .i64) ([]), row v5 50 (Rp.flt .f64) (AE x4 p2 0)]) (List.Sublist.refl _) (List.Sublist.cons_cons _ (List.Sublist.cons_cons _ (List.nil_sublist _)))
  refine A4 H (fun s a w => ∃ v7 : Value, Fr 90 [] [(1, v3), (3, .pointer (some ⟨b1, 0, none⟩)), (6, .slice none 0 0), (7, .pointer (some ⟨b2, 0, none⟩)), (8, v7), (36, .int .i64 ((AE x4 p2 0).length : Int)), (37, .int .i64 s.2)] a ∧ Stw ⟨Y, [], w0⟩ [(b2, [v5]), (b1, [.int .i64 p0.1, v1, v2])] [row v7 3 (Rp.int .i64) s.1, row v5 50 (Rp.flt .f64) (AE x4 p2 0)] w) ⟨(Value.slice none 0 0), F.re ⟨rfl, Aa, Aa, Aa, Aa, Aa, Aa, trivial⟩, W⟩ fun s o a w H L3 hR => ?_
  obtain ⟨x7, x8⟩ := s
  obtain ⟨v7, F, W⟩ := hR
  have F : Fr 90 [] [(1, v3), (3, .pointer (some ⟨b1, 0, none⟩)), (6, .slice none 0 0), (7, .pointer (some ⟨b2, 0, none⟩)), (8, v7), (36, .int .i64 ((AE x4 p2 0).length : Int)), (37, .int .i64 x8)] a := F
  have W : Stw ⟨Y, [], w0⟩ [(b2, [v5]), (b1, [.int .i64 p0.1, v1, v2])] [row v7 3 (Rp.int .i64) x7, row v5 50 (Rp.flt .f64) (AE x4 p2 0)] w := W
  rw [CG] at H
  refine Ah (Ab ?_)
  refine ls F W Aa (Bg F Aa Aa).q fun a w F W => ?_
  refine Ad (Ac (Ah ?_))
  refine Aw F Aa (fun hb => ?_) fun hb => ?_
  ·
   have H := AM (Bj hb) H
   rw [hb] at F
   clear hb
   refine Aq (Ac (Ah (As (Ah (Ab ?_)))))
   refine ls F W Aa (Af F Aa).q fun a w F W => ?_
   refine ls F W Aa (Ae F Aa).q fun a w F W => ?_
   refine Ad (Ac (Ab ?_))
   iterate 2 refine ls F W Aa (Af F Aa).q fun a w F W => ?_
   refine Cr (z := Value.int .i64 0) (cs := [.int .i64 x8]) (Rp.int .i64) ([x8] : List Int) F W Aa EQ Z3 Aa Aa Aa Aa Aa Aa (Fl.int.repL _ _ ([x8] : List Int)) fun v8 a w F W => ?_
   obtain ⟨x9, h5, H⟩ := Am H
   refine DM (r := (Rp.int .i64)) (i := 1) F W Aa EQ Aa Aa Aa Aa (DP W 0 Aa) h5 Aa fun v9 a w F W => ?_
   have W : Stw ⟨Y, [], w0⟩ [(b2, [v5]), (b1, [.int .i64 p0.1, v1, v2])] [row v9 3 (Rp.int .i64) x9, row v8 3 (Rp.int .i64) ([x8] : List Int), row v5 50 (Rp.flt .f64) (AE x4 p2 0)] w := W
   refine ls F W Aa (Ae F Aa).q fun a w F W => ?_
   refine Ad (AR (Ac (Ab ?_)))
   refine ls F W Aa (BB F Aa Aa Aa).q fun a w F W => ?_
   refine ls F W Aa (Af F Aa).q fun a w F W => ?_
   refine Ad (Ac ?_)
   have W := W.frontZ (i := 2) Aa Aa
   have W := W.frontZ (i := 1) Aa Aa
   have W := W.frontM (i := 1) Aa Aa
   have W := W.frontM (i := 1) Aa Aa
   have W := W.sub (M' := [(b2, [v5]), (b1, [.int .i64 p0.1, v1, v2])]) (Z' := [row v9 3 (Rp.int .i64) x9, row v5 50 (Rp.flt .f64) (AE x4 p2 0)]) (List.Sublist.refl _) (List.Sublist.cons_cons _ (List.Sublist.cons_cons _ (List.nil_sublist _)))
   exact ⟨_, H, (v9), F.re ⟨rfl, Aa, Aa, Aa, Aa, Aa, Aa, trivial⟩, W⟩
  have H := AN (Bk hb) H
  rw [hb] at F
  clear hb
  refine Ba ?_
  iterate 2 refine Br ?_
  refine Bb (Ac ?_)
  have W := W.frontZ (i := 1) Aa Aa
  have W := W.frontZ (i := 1) Aa Aa
  have W := W.frontM (i := 1) Aa Aa
  have W := W.frontM (i := 1) Aa Aa
  have H := L3 _ H
  exact ⟨_, (v7), H, F.re ⟨rfl, Aa, Aa, Aa, Aa, trivial⟩, W⟩
 rintro a w ⟨x6, v6, hj, F, W⟩
 have hj := AP hj
 subst hj
 have H := K2
 clear G2 K2
 obtain ⟨o4, G4, K4⟩ := Am H
 refine AJ (fun a w => ∃ x10 : List Nat, some (x10) = some o4 ∧ Fr 90 [] [(6, .slice none 0 0), (7, .pointer (some ⟨b2, 0, none⟩))] a ∧ Stw ⟨Y, [], w0⟩ [(b2, [v5]), (b1, [.int .i64 p0.1, v1, v2])] [row v5 50 (Rp.flt .f64) x10] w) ?_ ?_
 ·
  have H := G4
  clear G4 K4
  refine As ?_
  have W := W.frontZ (i := 1) Aa Aa
  have W := W.frontZ (i := 1) Aa Aa
  have W := W.frontM (i := 1) Aa Aa
  have W := W.frontM (i := 1) Aa Aa
  refine A4 H (fun s a w => ∃ v10 : Value, Fr 90 [] [(1, v3), (3, .pointer (some ⟨b1, 0, none⟩)), (6, .slice none 0 0), (7, .pointer (some ⟨b2, 0, none⟩)), (8, v10)] a ∧ Stw ⟨Y, [], w0⟩ [(b2, [v5]), (b1, [.int .i64 p0.1, v1, v2])] [row v10 3 (Rp.int .i64) s.1, row v5 50 (Rp.flt .f64) s.2] w) ⟨(v6), F.re ⟨rfl, Aa, Aa, Aa, Aa, trivial⟩, W⟩ fun s o a w H L5 hR => ?_
  obtain ⟨x11, x12⟩ := s
  obtain ⟨v10, F, W⟩ := hR
  have F : Fr 90 [] [(1, v3), (3, .pointer (some ⟨b1, 0, none⟩)), (6, .slice none 0 0), (7, .pointer (some ⟨b2, 0, none⟩)), (8, v10)] a := F
  have W : Stw ⟨Y, [], w0⟩ [(b2, [v5]), (b1, [.int .i64 p0.1, v1, v2])] [row v10 3 (Rp.int .i64) x11, row v5 50 (Rp.flt .f64) x12] w := W
  rw [CI] at H
  refine Ah (Ah (Ab ?_))
  refine ls F W Aa (Af F Aa).q fun a w F W => ?_
  refine ls F W Aa (Bh (r := (Rp.int .i64)) (l := x11) GH Aa F Aa (Ax 0 Aa)).q fun a w F W => ?_
  refine ls F W Aa (DI F Aa Aa).q fun a w F W => ?_
  refine Ad (Ac ?_)
  refine Aw F Aa (fun hb => ?_) fun hb => ?_
  ·
   have H := AM (Bj hb) H
   rw [hb] at F
   clear hb
   refine Aq (Ac (As (Ah (Ab ?_))))
   refine ls F W Aa (Af F Aa).q fun a w F W => ?_
   refine ls F W Aa (LW (us := []) (vs := [.pointer (some ⟨b2, 0, none⟩)]) F Aa Aa).q fun a w F W => ?_
   obtain ⟨x13, h6, H⟩ := Am H
   refine BK (Ml := []) (Zl := [row v10 3 (Rp.int .i64) x11]) (M := [(b2, [v5]), (b1, [.int .i64 p0.1, v1, v2])]) (Z := [row v5 50 (Rp.flt .f64) x12]) (β := Unit) (rv := fun x => .tuple #[]) (MM := fun x => []) (ZZ := fun x => [row v10 3 (Rp.int .i64) x13]) F W SI Aa Aa (fun hL => Fc _ _ w (v10) b2 (v5) x11 x12 _ h6 (Rl (Ml := []) (Zl := [row v10 3 (Rp.int .i64) x11]) (M := [(b2, [v5]), (b1, [.int .i64 p0.1, v1, v2])]) (Z := [row v5 50 (Rp.flt .f64) x12]) W 0 Aa) (QN (Ml := []) (Zl := [row v10 3 (Rp.int .i64) x11]) W 0 Aa) hL) fun x a w F W => ?_
   have W : Stw ⟨Y, [], w0⟩ [(b2, [v5]), (b1, [.int .i64 p0.1, v1, v2])] [row v10 3 (Rp.int .i64) x13, row v5 50 (Rp.flt .f64) x12] w := W
   refine Ad (Ac (Ah (Ab ?_)))
   refine ls F W Aa (Af F Aa).q fun a w F W => ?_
   obtain ⟨x14, h7, H⟩ := Am H
   refine ls F W Aa (AK (r := (Rp.int .i64)) EQ F Aa Aa (Ax 0 Aa) h7).q fun a w F W => ?_
   refine ls F W Aa (Ay (y := Value.int .i64 x14) (j := 0) (i := 0) F Aa Aa (Ax 0 Aa) h7 Fl.int.to T3 Aa).q fun a w F W => ?_
   refine ls F W Aa (Ae F Aa).q fun a w F W => ?_
   refine Ad (Ac (Ah (Ab ?_)))
   refine ls F W Aa (Af F Aa).q fun a w F W => ?_
   obtain ⟨x15, h8, H⟩ := Am H
   refine ls F W Aa (Gz (r := (Rp.int .i64)) EQ F Aa Aa Aa (Ax 0 Aa) h8).q fun a w F W => ?_
   refine ls F W Aa (Ae F Aa).q fun a w F W => ?_
   refine Ad (Ac (Ah (Ab ?_)))
   refine ls F W Aa (An (v := Value.agg #[.int .i64 p0.1, v1, v2]) 1 F Aa Aa GI Aa).q fun a w F W => ?_
   refine ls F W Aa (Af F Aa).q fun a w F W => ?_
   obtain ⟨x16, h9, H⟩ := Am H
   refine BK (Ml := []) (Zl := []) (M := [(b2, [v5]), (b1, [.int .i64 p0.1, v1, v2])]) (Z := [row v10 3 (Rp.int .i64) x13, row v5 50 (Rp.flt .f64) x12]) (β := Value) (rv := fun x => x) (MM := fun x => []) (ZZ := fun x => [row x 60 CF x16]) F W Rf Aa Aa (fun hL => F6 _ w (v1) (v2) p0 x14 _ h9 ((Ak h_v1) w W).nx ((Ak h_v2) w W).nx) fun x a w F W => ?_
   obtain ⟨v11, rfl⟩ : ∃ y, y = x := ⟨x, rfl⟩
   have W : Stw ⟨Y, [], w0⟩ [(b2, [v5]), (b1, [.int .i64 p0.1, v1, v2])] [row v11 60 CF x16, row v10 3 (Rp.int .i64) x13, row v5 50 (Rp.flt .f64) x12] w := W
   refine ls F W Aa (Bh (r := CF) (l := x16) OS Aa F Aa (Ax 0 Aa)).q fun a w F W => ?_
   refine ls F W Aa (Af F Aa).q fun a w F W => ?_
   refine Ad (Ac (As ?_))
   have W := W.frontZ (i := 2) Aa Aa
   have W := W.frontZ (i := 1) Aa Aa
   have W := W.frontZ (i := 2) Aa Aa
   have W := W.frontM (i := 1) Aa Aa
   have W := W.frontM (i := 1) Aa Aa
   refine A4 H (fun s a w => Fr 90 [] [(1, v3), (3, .pointer (some ⟨b1, 0, none⟩)), (6, .slice none 0 0), (7, .pointer (some ⟨b2, 0, none⟩)), (8, (Cu v10 (1 : Int) (x13.length : Int) 1)), (10, .int .i64 x14), (58, v11), (59, .int .i64 (x16.length : Int)), (60, .int .i64 s.1)] a ∧ Stw ⟨Y, [], w0⟩ [(b2, [v5]), (b1, [.int .i64 p0.1, v1, v2])] [row v10 3 (Rp.int .i64) x13, row v11 60 CF x16, row v5 50 (Rp.flt .f64) s.2] w) ⟨F.re ⟨rfl, Aa, Aa, Aa, Aa, Aa, Aa, Aa, Aa, trivial⟩, W⟩ fun s o a w H L6 hR => ?_
   obtain ⟨x17, x18⟩ := s
   obtain ⟨F, W⟩ := hR
   have F : Fr 90 [] [(1, v3), (3, .pointer (some ⟨b1, 0, none⟩)), (6, .slice none 0 0), (7, .pointer (some ⟨b2, 0, none⟩)), (8, (Cu v10 (1 : Int) (x13.length : Int) 1)), (10, .int .i64 x14), (58, v11), (59, .int .i64 (x16.length : Int)), (60, .int .i64 x17)] a := F
   have W : Stw ⟨Y, [], w0⟩ [(b2, [v5]), (b1, [.int .i64 p0.1, v1, v2])] [row v10 3 (Rp.int .i64) x13, row v11 60 CF x16, row v5 50 (Rp.flt .f64) x18] w := W
   rw [B6] at H
   refine Ah (Ab ?_)
   refine ls F W Aa (Bg F Aa Aa).q fun a w F W => ?_
   refine Ad (Ac (Ah ?_))
   refine Aw F Aa (fun hb => ?_) fun hb => ?_
   ·
    have H := AM (Bj hb) H
    rw [hb] at F
    clear hb
    refine Aq (Ac ?_)
    obtain ⟨o7, G7, K7⟩ := Am H
    refine AJ (fun a w => ∃ x19 : List Nat, some (x19) = some o7 ∧ Fr 90 [] [(1, v3), (3, .pointer (some ⟨b1, 0, none⟩)), (6, .slice none 0 0), (7, .pointer (some ⟨b2, 0, none⟩)), (8, (Cu v10 (1 : Int) (x13.length : Int) 1)), (10, .int .i64 x14), (58, v11), (59, .int .i64 (x16.length : Int)), (60, .int .i64 x17)] a ∧ Stw ⟨Y, [], w0⟩ [(b2, [v5]), (b1, [.int .i64 p0.1, v1, v2])] [row v10 3 (Rp.int .i64) x13, row v11 60 CF x16, row v5 50 (Rp.flt .f64) x19] w) ?_ ?_
    ·
     have H := G7
     clear G7 K7
     refine As (Ah (Ab ?_))
     obtain ⟨x20, h10, H⟩ := Am H
     refine ls F W Aa (AK (r := CF) ND F Aa Aa (Ax 1 Aa) h10).q fun a w F W => ?_
     refine ls F W Aa (Ay (y := Value.agg #[.int .i64 x20.1, .int .i64 x20.2.1, .int .i64 x20.2.2]) (j := 0) (i := x17) F Aa Aa (Ax 1 Aa) h10 Oy.to NP Aa).q fun a w F W => ?_
     refine CB (cs := [.int .i64 0, .int .i64 0, .int .i64 0]) F W Aa QF Aa fun b3 a w F W => ?_
     refine C4 (vs := [.int .i64 x20.1, .int .i64 x20.2.1, .int .i64 x20.2.2]) (M' := [(b3, [.int .i64 x20.1, .int .i64 x20.2.1, .int .i64 x20.2.2]), (b2, [v5]), (b1, [.int .i64 p0.1, v1, v2])]) 0 F W Aa Aa Aa NP Aa Aa Aa Aa Aa fun w W => ?_
     refine Ad (Ac (Ah (Ab ?_)))
     refine ls F W Aa (Af F Aa).q fun a w F W => ?_
     refine ls F W Aa (Ai GJ Aa Aa Aa T3 F Aa 2 Aa).q fun a w F W => ?_
     refine ls F W Aa (An (v := Value.int .i64 x20.2.2) 0 F Aa Aa T3 Aa).q fun a w F W => ?_
     obtain ⟨x21, h11, H⟩ := Am H
     refine ls F W Aa (AW (v := Value.bool x21) F RT Aa (fun w W => IV any w (v3) p1 x20.2.2 _ h11 (((Ak h_v3) : CE _ _ _ _ _ _) w W).nx)) fun a w F W => ?_
     refine Ad (Ac ?_)
     refine Aw F Aa (fun hb => ?_) fun hb => ?_
     ·
      have H := AM hb H
      rw [hb] at F
      clear hb
      refine KL 20 W MO (by kernel_rfl) ?_
      refine qs F Aa (An (v := v5) 1 F Aa Aa NS Aa).q fun a F => ?_
      refine qs F Aa (Ai GJ Aa Aa Aa T3 F Aa 1 Aa).q fun a F => ?_
      refine qs F Aa (An (v := Value.int .i64 x20.2.1) 0 F Aa Aa T3 Aa).q fun a F => ?_
      refine qs F Aa (An (v := v5) 1 F Aa Aa NS Aa).q fun a F => ?_
      refine qs F Aa (Ai GJ Aa Aa Aa T3 F Aa 1 Aa).q fun a F => ?_
      refine qs F Aa (An (v := Value.int .i64 x20.2.1) 0 F Aa Aa T3 Aa).q fun a F => ?_
      obtain ⟨x22, h12, H⟩ := Am H
      refine qs F Aa (AK (r := (Rp.flt .f64)) I4 F Aa Aa (Ax 2 Aa) h12).q fun a F => ?_
      refine qs F Aa (Ay (y := Value.float .f64 x22) (j := 0) (i := x20.2.1) F Aa Aa (Ax 2 Aa) h12 Fl.flt.to NO Aa).q fun a F => ?_
      refine qs F Aa (Af F Aa).q fun a F => ?_
      refine qs F Aa (Ai GJ Aa Aa Aa T3 F Aa 2 Aa).q fun a F => ?_
      refine qs F Aa (An (v := Value.int .i64 x20.2.2) 0 F Aa Aa T3 Aa).q fun a F => ?_
      obtain ⟨x23, h13, H⟩ := Am H
      refine qs F Aa (AK (r := (Rp.flt .f64)) I4 F Aa Aa (Ak h_v3) h13).q fun a F => ?_
      refine qs F Aa (Ay (y := Value.float .f64 x23) (j := 0) (i := x20.2.2) F Aa Aa (Ak h_v3) h13 Fl.flt.to NO Aa).q fun a F => ?_
      refine qs F Aa (An (v := v5) 1 F Aa Aa NS Aa).q fun a F => ?_
      refine qs F Aa (Af F Aa).q fun a F => ?_
      obtain ⟨x24, h14, H⟩ := Am H
      refine qs F Aa (AK (r := (Rp.flt .f64)) I4 F Aa Aa (Ax 2 Aa) h14).q fun a F => ?_
      refine qs F Aa (Ay (y := Value.float .f64 x24) (j := 0) (i := x14) F Aa Aa (Ax 2 Aa) h14 Fl.flt.to NO Aa).q fun a F => ?_
      refine qs F Aa (AW (v := Value.float .f64 (Bp x23 x24)) F RB Aa (fun w W => HE any w x23 x24 _ Aa)) fun a F => ?_
      obtain ⟨x25, h15, H⟩ := Am H
      refine qs F Aa (Qk F Aa Aa h15).q fun a F => ?_
      obtain ⟨x26, h16, H⟩ := Am H
      refine qs F Aa (AK (r := (Rp.flt .f64)) I4 F Aa Aa (Ax 2 Aa) h16).q fun a F => ?_
      refine Bo fun w W => ?_
      refine CT (i := x20.2.1) (j := 0) (vs := [.float .f64 x25]) (x' := x25) F W Aa Aa Aa (k := 2) Aa Aa h16 NO Aa Aa Aa Aa (fun A cs _ => Fl.flt.sto (by rfl) _ _ _) fun w W => ?_
      refine Ad (AR (Ac ?_))
      have W := W.frontZ (i := 2) Aa Aa
      have W := W.frontZ (i := 2) Aa Aa
      have W := W.frontM (i := 2) Aa Aa
      have W := W.frontM (i := 2) Aa Aa
      have W := W.sub (M' := [(b2, [v5]), (b1, [.int .i64 p0.1, v1, v2])]) (Z' := [row v10 3 (Rp.int .i64) x13, row v11 60 CF x16, row v5 50 (Rp.flt .f64) (AE x18 x20.2.1 x25)]) (List.Sublist.cons_cons _ (List.Sublist.cons_cons _ (List.nil_sublist _))) (List.Sublist.refl _)
      exact ⟨_, H, F.re ⟨rfl, Aa, Aa, Aa, Aa, Aa, Aa, Aa, Aa, trivial⟩, W⟩
     have H := AN (by rw [hb]; decide) H
     rw [hb] at F
     clear hb
     refine Aq (AR (Ac ?_))
     have W := W.frontZ (i := 2) Aa Aa
     have W := W.frontZ (i := 2) Aa Aa
     have W := W.frontZ (i := 2) Aa Aa
     have W := W.frontM (i := 2) Aa Aa
     have W := W.frontM (i := 2) Aa Aa
     have W := W.sub (M' := [(b2, [v5]), (b1, [.int .i64 p0.1, v1, v2])]) (Z' := [row v10 3 (Rp.int .i64) x13, row v11 60 CF x16, row v5 50 (Rp.flt .f64) x18]) (List.Sublist.cons_cons _ (List.Sublist.cons_cons _ (List.nil_sublist _))) (List.Sublist.refl _)
     exact ⟨_, H, F.re ⟨rfl, Aa, Aa, Aa, Aa, Aa, Aa, Aa, Aa, trivial⟩, W⟩
    rintro a w ⟨x19, hj, F, W⟩
    have hj := AP hj
    subst hj
    have H := K7
    clear G7 K7
    refine Ab ?_
    refine ls F W Aa (BB F Aa Aa Aa).q fun a w F W => ?_
    refine ls F W Aa (Af F Aa).q fun a w F W => ?_
    refine Ad (Ac ?_)
    have W := W.frontZ (i := 2) Aa Aa
    have W := W.frontZ (i := 2) Aa Aa
    have W := W.frontZ (i := 2) Aa Aa
    have W := W.frontM (i := 1) Aa Aa
    have W := W.frontM (i := 1) Aa Aa
    exact ⟨_, H, F.re ⟨rfl, Aa, Aa, Aa, Aa, Aa, Aa, Aa, Aa, trivial⟩, W⟩
   have H := AN (Bk hb) H
   rw [hb] at F
   clear hb
   refine Ba ?_
   iterate 2 refine Br ?_
   refine Bb (AR (Ac ?_))
   obtain ⟨x27, h17, H⟩ := Am H
   have W := W.subRow (k := 0) Aa Aa h17
   have W := W.frontZ (i := 2) Aa Aa
   have W := W.frontZ (i := 1) Aa Aa
   have W := W.frontM (i := 1) Aa Aa
   have W := W.frontM (i := 1) Aa Aa
   have W := W.sub (M' := [(b2, [v5]), (b1, [.int .i64 p0.1, v1, v2])]) (Z' := [row (Cu v10 (1 : Int) (x13.length : Int) 1) 3 (Rp.int .i64) x27, row v5 50 (Rp.flt .f64) x18]) (List.Sublist.refl _) (List.Sublist.cons_cons _ (List.Sublist.cons_cons _ (List.nil_sublist _)))
   have H := L6 _ H
   exact ⟨_, H, ((Cu v10 (1 : Int) (x13.length : Int) 1)), F.re ⟨rfl, Aa, Aa, Aa, Aa, trivial⟩, W⟩
  have H := AN (Bk hb) H
  rw [hb] at F
  clear hb
  refine Ba ?_
  iterate 2 refine Br ?_
  refine Bb (Ac ?_)
  have W := W.frontZ (i := 1) Aa Aa
  have W := W.frontM (i := 1) Aa Aa
  have W := W.frontM (i := 1) Aa Aa
  have W := W.sub (M' := [(b2, [v5]), (b1, [.int .i64 p0.1, v1, v2])]) (Z' := [row v5 50 (Rp.flt .f64) x12]) (List.Sublist.refl _) (List.Sublist.cons_cons _ (List.nil_sublist _))
  have H := L5 _ H
  exact ⟨_, H, F.re ⟨rfl, Aa, trivial⟩, W⟩
 rintro a w ⟨x10, hj, F, W⟩
 have hj := AP hj
 subst hj
 have H := K4
 clear G4 K4
 refine Ah (Ab ?_)
 refine ls F W Aa (An (v := v5) 0 F Aa Aa NS Aa).q fun a w F W => ?_
 refine ls F W Aa (Ae F Aa).q fun a w F W => ?_
 refine Ad (Ac (Av ?_))
 obtain ⟨x28, h18, H⟩ := Am H
 have H := AP H
 subst H
 refine AQ (.inl Aa) F W Aa (Ap F Aa) ?_
 have W := W.sub (M' := []) (Z' := [row v5 50 (Rp.flt .f64) x10]) (List.nil_sublist _) (List.Sublist.refl _)
 exact ⟨⟨v5, fun _ => Qp h18⟩, Aa, W⟩
theorem RS : Has Try.prog 23 := ⟨fun args w => Aj Try.func23 rfl (by decide) args w⟩
noncomputable def Az  : (List Int × Int) → Option ((List Int × Int) ⊕ (List Int))
  | (x3, x4) => (if x4 < (x3.length : Int) then (Gp x3 x4 (x3.length : Int)).bind fun x5 => (Gp x3 0 x4).bind fun x6 => some (.inl (KI x3 x4 (min x6.length x5.length) x6, BV (x4 + ((min x6.length x5.length : Nat) : Int)))) else some (.inr x3))
noncomputable def AB (p0 : List Int) (p1 : Int) : Option (List Int) := (if p1 < 0 then none else (if (decide (0 < ((AC (IntKind.u64.wrap (p0.length : Int)) (IntKind.u64.wrap p1)).1)) || decide (9223372036854775807 < ((AC (IntKind.u64.wrap (p0.length : Int)) (IntKind.u64.wrap p1)).2))) = true then none else (mk (BV ((AC (IntKind.u64.wrap (p0.length : Int)) (IntKind.u64.wrap p1)).2)) (0 : Int)).bind fun x1 => (AA (Az) (KI x1 0 (min p0.length x1.length) p0, ((min p0.length x1.length : Nat) : Int))).bind fun x2 => some x2))
theorem FH (Y : Nat → Prop) (w0 : World) (v1 : Value) (p0 : List Int) (p1 : Int) (r : List Int) (H : AB p0 p1 = some r) (s_v1 : Sl w0 Y (Rp.int .i64) v1 p0) :
    Calls Try.prog 45 #[v1, .int .i64 p1] w0 fun e w' => ∃ x : Value, e = .returned (x) ∧ Stw ⟨Y, [], w0⟩ [] [row (x) 3 (Rp.int .i64) r] w' := by
 refine enter Try.func45 Aa Try.ntmps45 Aa fun a F => ?_
 have W := Stw.start Y w0
 have h_v1 := W.nx s_v1
 unfold AB at H
 refine Ah (Ab ?_)
 refine ls F W Aa (Ae F Aa).q fun a w F W => ?_
 refine Ad (Ac (Ah (Ah (Ab ?_))))
 refine ls F W Aa (Af F Aa).q fun a w F W => ?_
 refine ls F W Aa (Bg F Aa Aa).q fun a w F W => ?_
 refine Ad (Ac ?_)
 refine Aw F Aa (fun hb => ?_) fun hb => ?_
 ·
  have H := AM (Bj hb) H
  rw [hb] at F
  clear hb
  refine Ab ?_
  refine ls F W Aa (Fh I9 F Aa).q fun a w F W => ?_
  exact nomatch H
 have H := AN (Bk hb) H
 rw [hb] at F
 clear hb
 refine Aq (Ac (Ah (Ab ?_)))
 refine ls F W Aa (Af F Aa).q fun a w F W => ?_
 refine ls F W Aa (Bh (r := (Rp.int .i64)) (l := p0) GH Aa F Aa (Ak h_v1)).q fun a w F W => ?_
 refine ls F W Aa (Ec LS Lz F Aa).q fun a w F W => ?_
 refine ls F W Aa (Af F Aa).q fun a w F W => ?_
 refine ls F W Aa (Ec LS Lz F Aa).q fun a w F W => ?_
 refine ls F W Aa (AW (v := Value.tuple #[.int .u64 ((AC (IntKind.u64.wrap (p0.length : Int)) (IntKind.u64.wrap p1)).1), .int .u64 ((AC (IntKind.u64.wrap (p0.length : Int)) (IntKind.u64.wrap p1)).2)]) F RO Aa (fun w W => FY any w (IntKind.u64.wrap (p0.length : Int)) (IntKind.u64.wrap p1) _ Aa)) fun a w F W => ?_
 refine ls F W Aa (Af F Aa).q fun a w F W => ?_
 refine ls F W Aa (Bc (v := Value.int .u64 ((AC (IntKind.u64.wrap (p0.length : Int)) (IntKind.u64.wrap p1)).1)) F Aa Aa).q fun a w F W => ?_
 refine ls F W Aa (Bc (v := Value.int .u64 ((AC (IntKind.u64.wrap (p0.length : Int)) (IntKind.u64.wrap p1)).2)) F Aa Aa).q fun a w F W => ?_
 iterate 2 refine ls F W Aa (Ae F Aa).q fun a w F W => ?_
 refine Ad (Ac (Ah ?_))
 refine AJ (fun a w => Fr 48 [] [(0, v1), (4, .slice none 0 0), (6, .int .u64 ((AC (IntKind.u64.wrap (p0.length : Int)) (IntKind.u64.wrap p1)).2)), (26, .bool (decide (0 < ((AC (IntKind.u64.wrap (p0.length : Int)) (IntKind.u64.wrap p1)).1)) || decide (9223372036854775807 < ((AC (IntKind.u64.wrap (p0.length : Int)) (IntKind.u64.wrap p1)).2))))] a ∧ Stw ⟨Y, [], w0⟩ [] [] w) ?_ ?_
 ·
  refine Ab ?_
  refine ls F W Aa (Af F Aa).q fun a w F W => ?_
  refine ls F W Aa (DI F Aa Aa).q fun a w F W => ?_
  refine ls F W Aa (Af F Aa).q fun a w F W => ?_
  rcases Bool.eq_false_or_eq_true (decide (0 < ((AC (IntKind.u64.wrap (p0.length : Int)) (IntKind.u64.wrap p1)).1))) with hb0 | hb0
  ·
   rw [hb0] at F
   iterate 2 refine Cd F Aa Aa Aa Aa Aa Aa Aa fun a F => ?_
   refine ls F W Aa (Ao F Aa Aa Aa).q fun a w F W => ?_
   refine Ad (Ac ?_)
   exact ⟨F.re ⟨rfl, Aa, Aa, (by show some (Value.bool true) = some (Value.bool (decide (0 < ((AC (IntKind.u64.wrap (p0.length : Int)) (IntKind.u64.wrap p1)).1)) || decide (9223372036854775807 < ((AC (IntKind.u64.wrap (p0.length : Int)) (IntKind.u64.wrap p1)).2)))); try rw [hb0]; all_goals simp only [Bool.not_true, Bool.not_false, Bool.true_and, Bool.false_and, Bool.true_or, Bool.false_or, Bool.and_true, Bool.or_false, cond_true, cond_false]), trivial⟩, W⟩
  rw [hb0] at F
  refine AF F W (Ag F Aa Aa Aa Aa) Aa (Al Aa) (Af F Aa).q fun a w F W => ?_
  refine AF F W (Ag F Aa Aa Aa Aa) Aa (Al Aa) (DI F Aa Aa).q fun a w F W => ?_
  refine ls F W Aa (Au F Aa Aa Aa).q fun a w F W => ?_
  refine Ad (Ac ?_)
  exact ⟨F.re ⟨rfl, Aa, Aa, (by show some (Value.bool (decide (9223372036854775807 < ((AC (IntKind.u64.wrap (p0.length : Int)) (IntKind.u64.wrap p1)).2)))) = some (Value.bool (decide (0 < ((AC (IntKind.u64.wrap (p0.length : Int)) (IntKind.u64.wrap p1)).1)) || decide (9223372036854775807 < ((AC (IntKind.u64.wrap (p0.length : Int)) (IntKind.u64.wrap p1)).2)))); try rw [hb0]; all_goals simp only [Bool.not_true, Bool.not_false, Bool.true_and, Bool.false_and, Bool.true_or, Bool.false_or, Bool.and_true, Bool.or_false, cond_true, cond_false]), trivial⟩, W⟩
 rintro a w ⟨F, W⟩
 refine Aw F Aa (fun hb => ?_) fun hb => ?_
 ·
  have H := AM hb H
  rw [hb] at F
  clear hb
  refine Ab ?_
  refine ls F W Aa (Fh I9 F Aa).q fun a w F W => ?_
  exact nomatch H
 have H := AN (by rw [hb]; decide) H
 rw [hb] at F
 clear hb
 refine Aq (Ac (Ah (Ab ?_)))
 refine ls F W Aa (Af F Aa).q fun a w F W => ?_
 refine ls F W Aa (Ec Lz LS F Aa).q fun a w F W => ?_
 obtain ⟨x1, h1, H⟩ := Am H
 refine LT (r := (Rp.int .i64)) (0 : Int) F W Aa EQ Z3 Aa Aa (fun w A => Fl.int.mk' w A _) h1 Aa fun v2 a w F W => ?_
 refine ls F W Aa (Ae F Aa).q fun a w F W => ?_
 refine Ad (Ac (Ah (Ab ?_)))
 iterate 2 refine ls F W Aa (Af F Aa).q fun a w F W => ?_
 refine NV (r := (Rp.int .i64)) (k := 0) F W Aa EQ Aa Aa Aa Aa (ML W s_v1) fun a w F W => ?_
 have W : Stw ⟨Y, [], w0⟩ [] [row v2 3 (Rp.int .i64) (KI x1 0 (min p0.length x1.length) p0)] w := W
 refine ls F W Aa (Ae F Aa).q fun a w F W => ?_
 refine Ad (Ac ?_)
 obtain ⟨o1, G1, K1⟩ := Am H
 refine AJ (fun a w => ∃ x2 : List Int, some (x2) = some o1 ∧ Fr 48 [] [(4, .slice none 0 0), (7, v2)] a ∧ Stw ⟨Y, [], w0⟩ [] [row v2 3 (Rp.int .i64) x2] w) ?_ ?_
 ·
  have H := G1
  clear G1 K1
  refine As ?_
  refine A4 H (fun s a w => Fr 48 [] [(4, .slice none 0 0), (7, v2), (8, .int .i64 s.2)] a ∧ Stw ⟨Y, [], w0⟩ [] [row v2 3 (Rp.int .i64) s.1] w) ⟨F.re ⟨rfl, Aa, Aa, trivial⟩, W⟩ fun s o a w H L2 hR => ?_
  obtain ⟨x3, x4⟩ := s
  obtain ⟨F, W⟩ := hR
  have F : Fr 48 [] [(4, .slice none 0 0), (7, v2), (8, .int .i64 x4)] a := F
  have W : Stw ⟨Y, [], w0⟩ [] [row v2 3 (Rp.int .i64) x3] w := W
  rw [Az] at H
  refine Ah (Ah (Ab ?_))
  iterate 2 refine ls F W Aa (Af F Aa).q fun a w F W => ?_
  refine ls F W Aa (Bh (r := (Rp.int .i64)) (l := x3) GH Aa F Aa (Ax 0 Aa)).q fun a w F W => ?_
  refine ls F W Aa (Bg F Aa Aa).q fun a w F W => ?_
  refine Ad (Ac ?_)
  refine Aw F Aa (fun hb => ?_) fun hb => ?_
  ·
   have H := AM (Bj hb) H
   rw [hb] at F
   clear hb
   refine Aq (Ac (As ?_))
   refine M7 7 [0] [1, 2, 3, 4, 5, 6] (fun ch a d v w h => by cases d <;> exact h) W MO (by kernel_rfl) ?_
   refine hm F Aa Aa Aa fun a F => ?_
   refine OV ?_
   iterate 2 refine hs F Aa Aa Aa (Af F Aa).q fun a F => ?_
   obtain ⟨x5, h2, H⟩ := Am H
   refine hs F Aa Aa Aa (Gz (r := (Rp.int .i64)) EQ F Aa Aa Aa (Ax 0 Aa) h2).q fun a F => ?_
   iterate 2 refine hs F Aa Aa Aa (Af F Aa).q fun a F => ?_
   obtain ⟨x6, h3, H⟩ := Am H
   refine hs F Aa Aa Aa (Gz (r := (Rp.int .i64)) EQ F Aa Aa Aa (Ax 0 Aa) h3).q fun a F => ?_
   refine PQ fun w W => ?_
   have W : Stw ⟨Y, [], w0⟩ [] [row v2 3 (Rp.int .i64) x3] w := W
   refine MN (r := (Rp.int .i64)) (v := v2) (k := 0) F W Aa EQ Aa Aa Aa Aa h2 (JI.sub (DP W 0 Aa) h3) fun a w F W => ?_
   have W : Stw ⟨Y, [], w0⟩ [] [row v2 3 (Rp.int .i64) (KI x3 x4 (min x6.length x5.length) x6)] w := W
   refine ls F W Aa (BB F Aa Aa Aa).q fun a w F W => ?_
   refine ls F W Aa (Ae F Aa).q fun a w F W => ?_
   refine Ad (AR (Ac ?_))
   exact ⟨_, H, F.re ⟨rfl, Aa, Aa, trivial⟩, W⟩
  have H := AN (Bk hb) H
  rw [hb] at F
  clear hb
  refine Ba ?_
  iterate 2 refine Br ?_
  refine Bb (Ac ?_)
  have H := L2 _ H
  exact ⟨_, H, F.re ⟨rfl, Aa, trivial⟩, W⟩
 rintro a w ⟨x2, hj, F, W⟩
 have hj := AP hj
 subst hj
 have H := K1
 clear G1 K1
 refine Ah (Ab ?_)
 refine ls F W Aa (Af F Aa).q fun a w F W => ?_
 refine ls F W Aa (Ae F Aa).q fun a w F W => ?_
 refine Ad (Ac (Av ?_))
 have H := AP H
 subst H
 refine AQ (.inl Aa) F W Aa (Ap F Aa) ?_
 exact ⟨(v2), Aa, W⟩
theorem Sn : Has Try.prog 45 := ⟨fun args w => Aj Try.func45 rfl (by decide) args w⟩
noncomputable def Dx (p0 : List Nat) (p1 : List Nat) (p2 : Int) (p3 : Int) (p4 : Int) : Option Bool := ((E5 p0 p3).bind fun x2 => (if x2 = true then (ix p1 p2).bind fun x3 => (Ed 1).bind fun x4 => (if (Pd x3 x4) = true then (ix p0 p3).bind fun x5 => (ix p1 p4).bind fun x6 => (ix p1 p2).bind fun x7 => some (MT (Bp x5 x6) x7) else some false) else some false)).bind fun x1 => some x1
theorem Gx (Y : Nat → Prop) (w0 : World) (v1 : Value) (v2 : Value) (p0 : List Nat) (p1 : List Nat) (p2 : Int) (p3 : Int) (p4 : Int) (r : Bool) (H : Dx p0 p1 p2 p3 p4 = some r) (h_v1 : Sl w0 (NX []) (Rp.flt .f64) v1 p0) (h_v2 : Sl w0 (NX []) (Rp.flt .f64) v2 p1) :
    Calls Try.prog 26 #[v1, v2, .int .i64 p2, .int .i64 p3, .int .i64 p4] w0 fun e w' => e = .returned (.bool r) ∧ Below w0.heap.size w0 w' := by
 refine enter Try.func26 Aa Try.ntmps26 Aa fun a F => ?_
 have W := Stw.start Y w0
 unfold Dx at H
 refine Ah (Ab ?_)
 refine ls F W Aa (Ae F Aa).q fun a w F W => ?_
 refine Ad (Ac ?_)
 obtain ⟨o1, G1, K1⟩ := Am H
 refine AJ (fun a w => ∃ x1 : Bool, some (x1) = some o1 ∧ Fr 38 [] [(10, .bool x1)] a ∧ Stw ⟨Y, [], w0⟩ [] [] w) ?_ ?_
 ·
  have H := G1
  clear G1 K1
  refine Cn W MO (by kernel_rfl) ?_
  iterate 2 refine qs F Aa (Af F Aa).q fun a F => ?_
  obtain ⟨x2, h1, H⟩ := Am H
  refine qs F Aa (AW (v := Value.bool x2) F RT Aa (fun w W => IV any w (v1) p0 p3 _ h1 (((Ak h_v1) : CE _ _ _ _ _ _) w W).nx)) fun a F => ?_
  refine qs F Aa (Af F Aa).q fun a F => ?_
  rcases Bool.eq_false_or_eq_true x2 with hb | hb
  ·
   have H := AM hb H
   rw [hb] at F
   clear hb
   iterate 2 refine BW F (Ag F Aa Aa Aa Aa) Aa (Al Aa) (Af F Aa).q fun a F => ?_
   obtain ⟨x3, h2, H⟩ := Am H
   refine BW F (Ag F Aa Aa Aa Aa) Aa (Al Aa) (AK (r := (Rp.flt .f64)) I4 F Aa Aa (Ak h_v2) h2).q fun a F => ?_
   refine BW F (Ag F Aa Aa Aa Aa) Aa (Al Aa) (Ay (y := Value.float .f64 x3) (j := 0) (i := p2) F Aa Aa (Ak h_v2) h2 Fl.flt.to NO Aa).q fun a F => ?_
   obtain ⟨x4, h3, H⟩ := Am H
   refine BW F (Ag F Aa Aa Aa Aa) Aa (Al Aa) (AW (v := Value.float .f64 x4) F Q1 Aa (fun w W => FM any w 1 _ h3)) fun a F => ?_
   refine BW F (Ag F Aa Aa Aa Aa) Aa (Al Aa) (KD F Aa Aa).q fun a F => ?_
   refine qs F Aa (Ao F Aa Aa Aa).q fun a F => ?_
   refine qs F Aa (Af F Aa).q fun a F => ?_
   rcases Bool.eq_false_or_eq_true (Pd x3 x4) with hb | hb
   ·
    have H := AM hb H
    rw [hb] at F
    clear hb
    iterate 2 refine BW F (Ag F Aa Aa Aa Aa) Aa (Al Aa) (Af F Aa).q fun a F => ?_
    obtain ⟨x5, h4, H⟩ := Am H
    refine BW F (Ag F Aa Aa Aa Aa) Aa (Al Aa) (AK (r := (Rp.flt .f64)) I4 F Aa Aa (Ak h_v1) h4).q fun a F => ?_
    refine BW F (Ag F Aa Aa Aa Aa) Aa (Al Aa) (Ay (y := Value.float .f64 x5) (j := 0) (i := p3) F Aa Aa (Ak h_v1) h4 Fl.flt.to NO Aa).q fun a F => ?_
    iterate 2 refine BW F (Ag F Aa Aa Aa Aa) Aa (Al Aa) (Af F Aa).q fun a F => ?_
    obtain ⟨x6, h5, H⟩ := Am H
    refine BW F (Ag F Aa Aa Aa Aa) Aa (Al Aa) (AK (r := (Rp.flt .f64)) I4 F Aa Aa (Ak h_v2) h5).q fun a F => ?_
    refine BW F (Ag F Aa Aa Aa Aa) Aa (Al Aa) (Ay (y := Value.float .f64 x6) (j := 0) (i := p4) F Aa Aa (Ak h_v2) h5 Fl.flt.to NO Aa).q fun a F => ?_
    refine BW F (Ag F Aa Aa Aa Aa) Aa (Al Aa) (AW (v := Value.float .f64 (Bp x5 x6)) F RB Aa (fun w W => HE any w x5 x6 _ Aa)) fun a F => ?_
    iterate 2 refine BW F (Ag F Aa Aa Aa Aa) Aa (Al Aa) (Af F Aa).q fun a F => ?_
    obtain ⟨x7, h6, H⟩ := Am H
    refine BW F (Ag F Aa Aa Aa Aa) Aa (Al Aa) (AK (r := (Rp.flt .f64)) I4 F Aa Aa (Ak h_v2) h6).q fun a F => ?_
    refine BW F (Ag F Aa Aa Aa Aa) Aa (Al Aa) (Ay (y := Value.float .f64 x7) (j := 0) (i := p2) F Aa Aa (Ak h_v2) h6 Fl.flt.to NO Aa).q fun a F => ?_
    refine BW F (Ag F Aa Aa Aa Aa) Aa (Al Aa) (Od F Aa Aa).q fun a F => ?_
    refine qs F Aa (Ao F Aa Aa Aa).q fun a F => ?_
    refine qs F Aa (Ae F Aa).q fun a F => ?_
    refine Bo fun w W => ?_
    refine Ac ?_
    exact ⟨_, H, F.re ⟨rfl, trivial⟩, W⟩
   have H := AN (by rw [hb]; decide) H
   rw [hb] at F
   clear hb
   iterate 14 refine ER F (DN F Aa Aa Aa Aa Aa) Aa Aa fun a F => ?_
   refine qs F Aa (Au F Aa Aa Aa).q fun a F => ?_
   refine qs F Aa (Ae F Aa).q fun a F => ?_
   refine Bo fun w W => ?_
   refine Ac ?_
   exact ⟨_, H, F.re ⟨rfl, trivial⟩, W⟩
  have H := AN (by rw [hb]; decide) H
  rw [hb] at F
  clear hb
  iterate 6 refine ER F (DN F Aa Aa Aa Aa Aa) Aa Aa fun a F => ?_
  refine qs F Aa (Au F Aa Aa Aa).q fun a F => ?_
  refine qs F Aa (Af F Aa).q fun a F => ?_
  iterate 14 refine ER F (DN F Aa Aa Aa Aa Aa) Aa Aa fun a F => ?_
  refine qs F Aa (Au F Aa Aa Aa).q fun a F => ?_
  refine qs F Aa (Ae F Aa).q fun a F => ?_
  refine Bo fun w W => ?_
  refine Ac ?_
  exact ⟨_, H, F.re ⟨rfl, trivial⟩, W⟩
 rintro a w ⟨x1, hj, F, W⟩
 have hj := AP hj
 subst hj
 have H := K1
 clear G1 K1
 refine Av ?_
 have H := AP H
 subst H
 refine AQ (.inl Aa) F W Aa (Ap F Aa) ?_
 exact ⟨rfl, W.done⟩
theorem RN : Has Try.prog 26 := ⟨fun args w => Aj Try.func26 rfl (by decide) args w⟩
noncomputable def B5 (p1 : List Nat) (x1 : List Nat) (x7 : Int) (x9 : (List (Int × Int × Int))) : (List Int × List Int × Int) → Option ((List Int × List Int × Int) ⊕ ((List Int × List Int) ⊕ (List Int)))
  | (x10, x11, x12) => (if x12 < (x9.length : Int) then ((ix x9 x12).bind fun x15 => ((ix x10 x15.2.1).bind fun x17 => (if x17 < 0 then (Dx p1 x1 x15.2.1 x15.2.2 x7).bind fun x18 => some x18 else some false)).bind fun x16 => (if x16 = true then (ix x10 x7).bind fun x19 => (ix x10 x15.2.1).bind fun x20 => (IQ x11 ([x15.2.1] : List Int)).bind fun x21 => some ((AE x10 x15.2.1 (BV (x19 + 1))), x21) else some (x10, x11))).bind fun (x13, x14) => some (.inl (x13, x14, BV (x12 + 1))) else some (.inr (.inl (x10, x11))))
noncomputable def Cq (p0 : Int × (List (Int × Int × Int × Int × Int × Int)) × (List (Int × Int))) (p1 : List Nat) (x1 : List Nat) : (List Int × List Int) → Option ((List Int × List Int) ⊕ (List Int))
  | (x5, x6) => (if 0 < (x6.length : Int) then (ix x6 0).bind fun x7 => (Gp x6 1 (x6.length : Int)).bind fun x8 => (Dv p0 x7).bind fun x9 => AA (B5 p1 x1 x7 x9) (x5, x8, 0) else some (.inr x5))
noncomputable def DV (p0 : Int × (List (Int × Int × Int × Int × Int × Int)) × (List (Int × Int))) (p1 : List Nat) (p2 : Int) : Option (List Int) := (CL p0 p1 p2).bind fun x1 => (if x1.length = 0 then some ([] : List Int) else (AB ([(-1)] : List Int) p0.1).bind fun x2 => (ix x2 p2).bind fun x3 => (AA (Cq p0 p1 x1) ((AE x2 p2 0), ([p2] : List Int))).bind fun x4 => some x4)
theorem JF (Y : Nat → Prop) (w0 : World) (v1 : Value) (v2 : Value) (v3 : Value) (p0 : Int × (List (Int × Int × Int × Int × Int × Int)) × (List (Int × Int))) (p1 : List Nat) (p2 : Int) (r : List Int) (H : DV p0 p1 p2 = some r) (h_v1 : Sl w0 (NX []) Ev v1 p0.2.1) (h_v2 : Sl w0 (NX []) Ep v2 p0.2.2) (h_v3 : Sl w0 (NX []) (Rp.flt .f64) v3 p1) :
    Calls Try.prog 24 #[.agg #[.int .i64 p0.1, v1, v2], v3, .int .i64 p2] w0 fun e w' => ∃ x : Value, e = .returned (x) ∧ Stw ⟨Y, [], w0⟩ [] [row (x) 3 (Rp.int .i64) r] w' := by
 refine enter Try.func24 Aa Try.ntmps24 Aa fun a F => ?_
 have W := Stw.start Y w0
 unfold DV at H
 refine Ah (Ab ?_)
 refine C5 (cs := [.int .i64 p0.1, v1, v2]) F W Aa Aa Aa fun b1 a w F W => ?_
 refine ls F W Aa (Ae F Aa).q fun a w F W => ?_
 refine Ad (Ac (Ah (Ab ?_)))
 refine ls F W Aa (An (v := Value.agg #[.int .i64 p0.1, v1, v2]) 0 F Aa Aa GI Aa).q fun a w F W => ?_
 iterate 2 refine ls F W Aa (Af F Aa).q fun a w F W => ?_
 obtain ⟨x1, h1, H⟩ := Am H
 refine BK (Ml := []) (Zl := []) (M := [(b1, [.int .i64 p0.1, v1, v2])]) (Z := []) (β := {x : Value // NN x (x1)}) (rv := fun x => x.1) (MM := fun x => []) (ZZ := fun x => [row x.1 50 (Rp.flt .f64) x1]) F W RS Aa Aa (fun hL => GQ _ w (v1) (v2) (v3) p0 p1 p2 _ h1 ((Ak h_v1) w W).nx ((Ak h_v2) w W).nx ((Ak h_v3) w W).nx) fun x a w F W => ?_
 obtain ⟨v4, rfl⟩ : ∃ y, y = x := ⟨x, rfl⟩
 have W : Stw ⟨Y, [], w0⟩ [(b1, [.int .i64 p0.1, v1, v2])] [row v4.1 50 (Rp.flt .f64) x1] w := W
 refine ls F W Aa (Ae F Aa).q fun a w F W => ?_
 refine Ad (Ac (Ah (Ah (Ab ?_))))
 refine ls F W Aa (Af F Aa).q fun a w F W => ?_
 refine ls F W Aa (N7 (r := (Rp.flt .f64)) KT F Aa (Ax 0 Aa)).q fun a w F W => ?_
 refine Ad (Ac ?_)
 rcases Nr (Ax 0 rfl) W with ⟨hb, hl⟩ | hb
 ·
  have hq : x1.length = 0 := by rw [hl]; rfl
  rw [if_pos hq] at H
  rw [hb] at F
  refine O2 F Aa ?_
  refine Ah (Ab ?_)
  refine ls F W Aa (Ae F Aa).q fun a w F W => ?_
  refine Ad (Ac (Av (AH ?_)))
  have H := AP H
  subst H
  refine AQ (.inl Aa) F W Aa (Ap F Aa) ?_
  have W := W.nilRow 3 (Rp.int .i64)
  have W := W.sub (M' := []) (Z' := [row (Value.slice none 0 0) 3 (Rp.int .i64) ([])]) (List.nil_sublist _) (List.Sublist.cons_cons _ (List.nil_sublist _))
  exact ⟨(Value.slice none 0 0), Aa, W⟩
 have hq : ¬ x1.length = 0 := fun hq => v4.2 hb (List.eq_nil_of_length_eq_zero hq)
 rw [if_neg hq] at H
 rw [hb] at F
 refine Jj F Aa ?_
 refine Aq (Ac (Ah (Ab ?_)))
 refine Cr (z := Value.int .i64 0) (cs := [.int .i64 (-1)]) (Rp.int .i64) ([(-1)] : List Int) F W Aa EQ Z3 Aa Aa Aa Aa Aa Aa (Fl.int.repL _ _ ([(-1)] : List Int)) fun v5 a w F W => ?_
 refine ls F W Aa (Ai CC Aa Aa Aa T3 F Aa 0 Aa).q fun a w F W => ?_
 refine ls F W Aa (An (v := Value.int .i64 p0.1) 0 F Aa Aa T3 Aa).q fun a w F W => ?_
 obtain ⟨x2, h2, H⟩ := Am H
 have W := W.freeze
 refine BK (Ml := []) (Zl := []) (M := [(b1, [.int .i64 p0.1, v1, v2])]) (Z := [HA v5 (Rp.int .i64) ([(-1)] : List Int), row v4.1 50 (Rp.flt .f64) x1]) (β := Value) (rv := fun x => x) (MM := fun x => []) (ZZ := fun x => [row x 3 (Rp.int .i64) x2]) F W Sn Aa Aa (fun hL => FH _ w (v5) ([(-1)] : List Int) p0.1 _ h2 (W.item (i := 0) Aa)) fun x a w F W => ?_
 obtain ⟨v6, rfl⟩ : ∃ y, y = x := ⟨x, rfl⟩
 have W : Stw ⟨Y, [], w0⟩ [(b1, [.int .i64 p0.1, v1, v2])] [row v6 3 (Rp.int .i64) x2, HA v5 (Rp.int .i64) ([(-1)] : List Int), row v4.1 50 (Rp.flt .f64) x1] w := W
 refine ls F W Aa (Ae F Aa).q fun a w F W => ?_
 refine Ad (Ac (Ah (Ab ?_)))
 iterate 2 refine ls F W Aa (Af F Aa).q fun a w F W => ?_
 obtain ⟨x3, h3, H⟩ := Am H
 refine ls F W Aa (AK (r := (Rp.int .i64)) EQ F Aa Aa (Ax 0 Aa) h3).q fun a w F W => ?_
 refine CT (i := p2) (j := 0) (vs := [.int .i64 0]) (x' := 0) F W Aa Aa Aa (k := 0) Aa Aa h3 T3 Aa Aa Aa Aa (fun A cs _ => Fl.int.sto (by rfl) _ _ _) fun w W => ?_
 refine Ad (Ac (Ah (Ab ?_)))
 refine ls F W Aa (Af F Aa).q fun a w F W => ?_
 refine Cr (z := Value.int .i64 0) (cs := [.int .i64 p2]) (Rp.int .i64) ([p2] : List Int) F W Aa EQ Z3 Aa Aa Aa Aa Aa Aa (Fl.int.repL _ _ ([p2] : List Int)) fun v7 a w F W => ?_
 refine ls F W Aa (Ae F Aa).q fun a w F W => ?_
 refine Ad (Ac ?_)
 obtain ⟨o1, G1, K1⟩ := Am H
 refine AJ (fun a w => ∃ x4 : List Int, some (x4) = some o1 ∧ Fr 76 [] [(6, .slice none 0 0), (8, v6)] a ∧ Stw ⟨Y, [], w0⟩ [(b1, [.int .i64 p0.1, v1, v2])] [row v6 3 (Rp.int .i64) x4] w) ?_ ?_
 ·
  have H := G1
  clear G1 K1
  refine As ?_
  have W := W.frontZ (i := 1) Aa Aa
  have W := W.frontZ (i := 3) Aa Aa
  have W := W.sub (M' := [(b1, [.int .i64 p0.1, v1, v2])]) (Z' := [row v4.1 50 (Rp.flt .f64) x1, row v6 3 (Rp.int .i64) (AE x2 p2 0), row v7 3 (Rp.int .i64) ([p2] : List Int)]) (List.Sublist.refl _) (List.Sublist.cons_cons _ (List.Sublist.cons_cons _ (List.Sublist.cons_cons _ (List.nil_sublist _))))
  refine A4 H (fun s a w => ∃ v8 : Value, Fr 76 [] [(1, v3), (3, .pointer (some ⟨b1, 0, none⟩)), (6, .slice none 0 0), (7, v4.1), (8, v6), (9, v8)] a ∧ Stw ⟨Y, [], w0⟩ [(b1, [.int .i64 p0.1, v1, v2])] [row v4.1 50 (Rp.flt .f64) x1, row v6 3 (Rp.int .i64) s.1, row v8 3 (Rp.int .i64) s.2] w) ⟨(v7), F.re ⟨rfl, Aa, Aa, Aa, Aa, Aa, trivial⟩, W⟩ fun s o a w H L2 hR => ?_
  obtain ⟨x5, x6⟩ := s
  obtain ⟨v8, F, W⟩ := hR
  have F : Fr 76 [] [(1, v3), (3, .pointer (some ⟨b1, 0, none⟩)), (6, .slice none 0 0), (7, v4.1), (8, v6), (9, v8)] a := F
  have W : Stw ⟨Y, [], w0⟩ [(b1, [.int .i64 p0.1, v1, v2])] [row v4.1 50 (Rp.flt .f64) x1, row v6 3 (Rp.int .i64) x5, row v8 3 (Rp.int .i64) x6] w := W
  rw [Cq] at H
  refine Ah (Ah (Ab ?_))
  refine ls F W Aa (Af F Aa).q fun a w F W => ?_
  refine ls F W Aa (Bh (r := (Rp.int .i64)) (l := x6) GH Aa F Aa (Ax 2 Aa)).q fun a w F W => ?_
  refine ls F W Aa (DI F Aa Aa).q fun a w F W => ?_
  refine Ad (Ac ?_)
  refine Aw F Aa (fun hb => ?_) fun hb => ?_
  ·
   have H := AM (Bj hb) H
   rw [hb] at F
   clear hb
   refine Aq (Ac (As (Ah (Ab ?_))))
   refine ls F W Aa (Af F Aa).q fun a w F W => ?_
   obtain ⟨x7, h4, H⟩ := Am H
   refine ls F W Aa (AK (r := (Rp.int .i64)) EQ F Aa Aa (Ax 2 Aa) h4).q fun a w F W => ?_
   refine ls F W Aa (Ay (y := Value.int .i64 x7) (j := 0) (i := 0) F Aa Aa (Ax 2 Aa) h4 Fl.int.to T3 Aa).q fun a w F W => ?_
   refine ls F W Aa (Ae F Aa).q fun a w F W => ?_
   refine Ad (Ac (Ah (Ab ?_)))
   refine ls F W Aa (Af F Aa).q fun a w F W => ?_
   obtain ⟨x8, h5, H⟩ := Am H
   refine ls F W Aa (Gz (r := (Rp.int .i64)) EQ F Aa Aa Aa (Ax 2 Aa) h5).q fun a w F W => ?_
   refine ls F W Aa (Ae F Aa).q fun a w F W => ?_
   refine Ad (Ac (Ah (Ab ?_)))
   refine ls F W Aa (An (v := Value.agg #[.int .i64 p0.1, v1, v2]) 0 F Aa Aa GI Aa).q fun a w F W => ?_
   refine ls F W Aa (Af F Aa).q fun a w F W => ?_
   obtain ⟨x9, h6, H⟩ := Am H
   refine BK (Ml := []) (Zl := []) (M := [(b1, [.int .i64 p0.1, v1, v2])]) (Z := [row v4.1 50 (Rp.flt .f64) x1, row v6 3 (Rp.int .i64) x5, row v8 3 (Rp.int .i64) x6]) (β := Value) (rv := fun x => x) (MM := fun x => []) (ZZ := fun x => [row x 60 CF x9]) F W Rf Aa Aa (fun hL => F6 _ w (v1) (v2) p0 x7 _ h6 ((Ak h_v1) w W).nx ((Ak h_v2) w W).nx) fun x a w F W => ?_
   obtain ⟨v9, rfl⟩ : ∃ y, y = x := ⟨x, rfl⟩
   have W : Stw ⟨Y, [], w0⟩ [(b1, [.int .i64 p0.1, v1, v2])] [row v9 60 CF x9, row v4.1 50 (Rp.flt .f64) x1, row v6 3 (Rp.int .i64) x5, row v8 3 (Rp.int .i64) x6] w := W
   refine ls F W Aa (Bh (r := CF) (l := x9) OS Aa F Aa (Ax 0 Aa)).q fun a w F W => ?_
   refine ls F W Aa (Af F Aa).q fun a w F W => ?_
   refine Ad (Ac (As ?_))
   have W := W.subRow (k := 3) Aa Aa h5
   have W := W.frontZ (i := 1) Aa Aa
   have W := W.frontZ (i := 1) Aa Aa
   have W := W.frontZ (i := 3) Aa Aa
   have W := W.frontZ (i := 3) Aa Aa
   refine A4 H (fun s a w => ∃ v10 : Value, Fr 76 [] [(1, v3), (3, .pointer (some ⟨b1, 0, none⟩)), (6, .slice none 0 0), (7, v4.1), (8, v6), (9, v10), (10, .int .i64 x7), (38, v9), (39, .int .i64 (x9.length : Int)), (40, .int .i64 s.2.2)] a ∧ Stw ⟨Y, [], w0⟩ [(b1, [.int .i64 p0.1, v1, v2])] [row v4.1 50 (Rp.flt .f64) x1, row v6 3 (Rp.int .i64) s.1, row v10 3 (Rp.int .i64) s.2.1, row v9 60 CF x9] w) ⟨((Cu v8 (1 : Int) (x6.length : Int) 1)), F.re ⟨rfl, Aa, Aa, Aa, Aa, Aa, Aa, Aa, Aa, Aa, trivial⟩, W⟩ fun s o a w H L3 hR => ?_
   obtain ⟨x10, x11, x12⟩ := s
   obtain ⟨v10, F, W⟩ := hR
   have F : Fr 76 [] [(1, v3), (3, .pointer (some ⟨b1, 0, none⟩)), (6, .slice none 0 0), (7, v4.1), (8, v6), (9, v10), (10, .int .i64 x7), (38, v9), (39, .int .i64 (x9.length : Int)), (40, .int .i64 x12)] a := F
   have W : Stw ⟨Y, [], w0⟩ [(b1, [.int .i64 p0.1, v1, v2])] [row v4.1 50 (Rp.flt .f64) x1, row v6 3 (Rp.int .i64) x10, row v10 3 (Rp.int .i64) x11, row v9 60 CF x9] w := W
   rw [B5] at H
   refine Ah (Ab ?_)
   refine ls F W Aa (Bg F Aa Aa).q fun a w F W => ?_
   refine Ad (Ac (Ah ?_))
   refine Aw F Aa (fun hb => ?_) fun hb => ?_
   ·
    have H := AM (Bj hb) H
    rw [hb] at F
    clear hb
    refine Aq (Ac ?_)
    obtain ⟨o4, G4, K4⟩ := Am H
    refine AJ (fun a w => ∃ x13 : List Int, ∃ x14 : List Int, ∃ v11 : Value, some ((x13, x14)) = some o4 ∧ Fr 76 [] [(1, v3), (3, .pointer (some ⟨b1, 0, none⟩)), (6, .slice none 0 0), (7, v4.1), (8, v6), (9, v11), (10, .int .i64 x7), (38, v9), (39, .int .i64 (x9.length : Int)), (40, .int .i64 x12)] a ∧ Stw ⟨Y, [], w0⟩ [(b1, [.int .i64 p0.1, v1, v2])] [row v4.1 50 (Rp.flt .f64) x1, row v6 3 (Rp.int .i64) x13, row v11 3 (Rp.int .i64) x14, row v9 60 CF x9] w) ?_ ?_
    ·
     have H := G4
     clear G4 K4
     refine As (Ah (Ab ?_))
     obtain ⟨x15, h7, H⟩ := Am H
     refine ls F W Aa (AK (r := CF) ND F Aa Aa (Ax 3 Aa) h7).q fun a w F W => ?_
     refine ls F W Aa (Ay (y := Value.agg #[.int .i64 x15.1, .int .i64 x15.2.1, .int .i64 x15.2.2]) (j := 0) (i := x12) F Aa Aa (Ax 3 Aa) h7 Oy.to NP Aa).q fun a w F W => ?_
     refine CB (cs := [.int .i64 0, .int .i64 0, .int .i64 0]) F W Aa QF Aa fun b2 a w F W => ?_
     refine C4 (vs := [.int .i64 x15.1, .int .i64 x15.2.1, .int .i64 x15.2.2]) (M' := [(b2, [.int .i64 x15.1, .int .i64 x15.2.1, .int .i64 x15.2.2]), (b1, [.int .i64 p0.1, v1, v2])]) 0 F W Aa Aa Aa NP Aa Aa Aa Aa Aa fun w W => ?_
     refine Ad (Ac ?_)
     obtain ⟨o5, G5, K5⟩ := Am H
     refine AJ (fun a w => ∃ x16 : Bool, some (x16) = some o5 ∧ Fr 76 [] [(1, v3), (3, .pointer (some ⟨b1, 0, none⟩)), (6, .slice none 0 0), (7, v4.1), (8, v6), (9, v10), (10, .int .i64 x7), (12, .pointer (some ⟨b2, 0, none⟩)), (38, v9), (39, .int .i64 (x9.length : Int)), (40, .int .i64 x12), (59, .bool x16)] a ∧ Stw ⟨Y, [], w0⟩ [(b2, [.int .i64 x15.1, .int .i64 x15.2.1, .int .i64 x15.2.2]), (b1, [.int .i64 p0.1, v1, v2])] [row v4.1 50 (Rp.flt .f64) x1, row v6 3 (Rp.int .i64) x10, row v10 3 (Rp.int .i64) x11, row v9 60 CF x9] w) ?_ ?_
     ·
      have H := G5
      clear G5 K5
      refine Ab ?_
      refine ls F W Aa (Af F Aa).q fun a w F W => ?_
      refine ls F W Aa (Ai GJ Aa Aa Aa T3 F Aa 1 Aa).q fun a w F W => ?_
      refine ls F W Aa (An (v := Value.int .i64 x15.2.1) 0 F Aa Aa T3 Aa).q fun a w F W => ?_
      obtain ⟨x17, h8, H⟩ := Am H
      refine ls F W Aa (AK (r := (Rp.int .i64)) EQ F Aa Aa (Ax 1 Aa) h8).q fun a w F W => ?_
      refine ls F W Aa (Ay (y := Value.int .i64 x17) (j := 0) (i := x15.2.1) F Aa Aa (Ax 1 Aa) h8 Fl.int.to T3 Aa).q fun a w F W => ?_
      refine ls F W Aa (Bg F Aa Aa).q fun a w F W => ?_
      refine ls F W Aa (Af F Aa).q fun a w F W => ?_
      rcases Bool.eq_false_or_eq_true (decide (x17 < 0)) with hb | hb
      ·
       have H := AM (Bj hb) H
       rw [hb] at F
       clear hb
       iterate 2 refine AF F W (Ag F Aa Aa Aa Aa) Aa (Al Aa) (Af F Aa).q fun a w F W => ?_
       refine AF F W (Ag F Aa Aa Aa Aa) Aa (Al Aa) (Ai GJ Aa Aa Aa T3 F Aa 1 Aa).q fun a w F W => ?_
       refine AF F W (Ag F Aa Aa Aa Aa) Aa (Al Aa) (An (v := Value.int .i64 x15.2.1) 0 F Aa Aa T3 Aa).q fun a w F W => ?_
       refine AF F W (Ag F Aa Aa Aa Aa) Aa (Al Aa) (Ai GJ Aa Aa Aa T3 F Aa 2 Aa).q fun a w F W => ?_
       refine AF F W (Ag F Aa Aa Aa Aa) Aa (Al Aa) (An (v := Value.int .i64 x15.2.2) 0 F Aa Aa T3 Aa).q fun a w F W => ?_
       refine AF F W (Ag F Aa Aa Aa Aa) Aa (Al Aa) (Af F Aa).q fun a w F W => ?_
       refine FL (Ag F Aa Aa Aa Aa) ?_
       obtain ⟨x18, h9, H⟩ := Am H
       refine ls F W Aa (AW (v := Value.bool x18) F RN Aa (fun w W => Gx any w (v3) (v4.1) p1 x1 x15.2.1 x15.2.2 x7 _ h9 (((Ak h_v3) : CE _ _ _ _ _ _) w W).nx (((Ax 0 Aa) : CE _ _ _ _ _ _) w W).nx)) fun a w F W => ?_
       refine ls F W Aa (Ao F Aa Aa Aa).q fun a w F W => ?_
       refine Ad (Ac ?_)
       have W := W.frontZ (i := 3) Aa Aa
       have W := W.frontZ (i := 3) Aa Aa
       have W := W.frontZ (i := 3) Aa Aa
       have W := W.frontZ (i := 3) Aa Aa
       have W := W.frontM (i := 1) Aa Aa
       have W := W.frontM (i := 1) Aa Aa
       exact ⟨_, H, F.re ⟨rfl, Aa, Aa, Aa, Aa, Aa, Aa, Aa, Aa, Aa, Aa, Aa, trivial⟩, W⟩
      have H := AN (Bk hb) H
      rw [hb] at F
      clear hb
      iterate 8 refine Cd F Aa Aa Aa Aa Aa Aa Aa fun a F => ?_
      refine ls F W Aa (Au F Aa Aa Aa).q fun a w F W => ?_
      refine Ad (Ac ?_)
      have W := W.frontZ (i := 3) Aa Aa
      have W := W.frontZ (i := 3) Aa Aa
      have W := W.frontZ (i := 3) Aa Aa
      have W := W.frontZ (i := 3) Aa Aa
      have W := W.frontM (i := 1) Aa Aa
      have W := W.frontM (i := 1) Aa Aa
      exact ⟨_, H, F.re ⟨rfl, Aa, Aa, Aa, Aa, Aa, Aa, Aa, Aa, Aa, Aa, Aa, trivial⟩, W⟩
     rintro a w ⟨x16, hj, F, W⟩
     have hj := AP hj
     subst hj
     have H := K5
     clear G5 K5
     refine Aw F Aa (fun hb => ?_) fun hb => ?_
     ·
      have H := AM hb H
      rw [hb] at F
      clear hb
      refine Ah ?_
      refine KL 9 W MO (by kernel_rfl) ?_
      refine qs F Aa (Af F Aa).q fun a F => ?_
      refine qs F Aa (Ai GJ Aa Aa Aa T3 F Aa 1 Aa).q fun a F => ?_
      refine qs F Aa (An (v := Value.int .i64 x15.2.1) 0 F Aa Aa T3 Aa).q fun a F => ?_
      iterate 2 refine qs F Aa (Af F Aa).q fun a F => ?_
      obtain ⟨x19, h10, H⟩ := Am H
      refine qs F Aa (AK (r := (Rp.int .i64)) EQ F Aa Aa (Ax 1 Aa) h10).q fun a F => ?_
      refine qs F Aa (Ay (y := Value.int .i64 x19) (j := 0) (i := x7) F Aa Aa (Ax 1 Aa) h10 Fl.int.to T3 Aa).q fun a F => ?_
      refine qs F Aa (BB F Aa Aa Aa).q fun a F => ?_
      obtain ⟨x20, h11, H⟩ := Am H
      refine qs F Aa (AK (r := (Rp.int .i64)) EQ F Aa Aa (Ax 1 Aa) h11).q fun a F => ?_
      refine Bo fun w W => ?_
      refine CT (i := x15.2.1) (j := 0) (vs := [.int .i64 (BV (x19 + 1))]) (x' := BV (x19 + 1)) F W Aa Aa Aa (k := 1) Aa Aa h11 T3 Aa Aa Aa Aa (fun A cs _ => Fl.int.sto (by rfl) _ _ _) fun w W => ?_
      refine Ad (Ac (Ab ?_))
      refine ls F W Aa (Af F Aa).q fun a w F W => ?_
      refine ls F W Aa (Ai GJ Aa Aa Aa T3 F Aa 1 Aa).q fun a w F W => ?_
      refine ls F W Aa (An (v := Value.int .i64 x15.2.1) 0 F Aa Aa T3 Aa).q fun a w F W => ?_
      refine Cr (z := Value.int .i64 0) (cs := [.int .i64 x15.2.1]) (Rp.int .i64) ([x15.2.1] : List Int) F W Aa EQ Z3 Aa Aa Aa Aa Aa Aa (Fl.int.repL _ _ ([x15.2.1] : List Int)) fun v12 a w F W => ?_
      obtain ⟨x21, h12, H⟩ := Am H
      refine DM (r := (Rp.int .i64)) (i := 3) F W Aa EQ Aa Aa Aa Aa (DP W 0 Aa) h12 Aa fun v13 a w F W => ?_
      have W : Stw ⟨Y, [], w0⟩ [(b2, [.int .i64 x15.1, .int .i64 x15.2.1, .int .i64 x15.2.2]), (b1, [.int .i64 p0.1, v1, v2])] [row v13 3 (Rp.int .i64) x21, row v12 3 (Rp.int .i64) ([x15.2.1] : List Int), row v6 3 (Rp.int .i64) (AE x10 x15.2.1 (BV (x19 + 1))), row v4.1 50 (Rp.flt .f64) x1, row v9 60 CF x9] w := W
      refine ls F W Aa (Ae F Aa).q fun a w F W => ?_
      refine Ad (AR (Ac ?_))
      have W := W.frontZ (i := 4) Aa Aa
      have W := W.frontZ (i := 1) Aa Aa
      have W := W.frontZ (i := 3) Aa Aa
      have W := W.frontZ (i := 4) Aa Aa
      have W := W.frontM (i := 1) Aa Aa
      have W := W.sub (M' := [(b1, [.int .i64 p0.1, v1, v2])]) (Z' := [row v4.1 50 (Rp.flt .f64) x1, row v6 3 (Rp.int .i64) (AE x10 x15.2.1 (BV (x19 + 1))), row v13 3 (Rp.int .i64) x21, row v9 60 CF x9]) (List.Sublist.cons_cons _ (List.nil_sublist _)) (List.Sublist.cons_cons _ (List.Sublist.cons_cons _ (List.Sublist.cons_cons _ (List.Sublist.cons_cons _ (List.nil_sublist _)))))
      exact ⟨_, _, (v13), H, F.re ⟨rfl, Aa, Aa, Aa, Aa, Aa, Aa, Aa, Aa, Aa, trivial⟩, W⟩
     have H := AN (by rw [hb]; decide) H
     rw [hb] at F
     clear hb
     refine Aq (AR (Ac ?_))
     have W := W.frontZ (i := 3) Aa Aa
     have W := W.frontZ (i := 3) Aa Aa
     have W := W.frontZ (i := 3) Aa Aa
     have W := W.frontZ (i := 3) Aa Aa
     have W := W.frontM (i := 1) Aa Aa
     have W := W.sub (M' := [(b1, [.int .i64 p0.1, v1, v2])]) (Z' := [row v4.1 50 (Rp.flt .f64) x1, row v6 3 (Rp.int .i64) x10, row v10 3 (Rp.int .i64) x11, row v9 60 CF x9]) (List.Sublist.cons_cons _ (List.nil_sublist _)) (List.Sublist.refl _)
     exact ⟨_, _, (v10), H, F.re ⟨rfl, Aa, Aa, Aa, Aa, Aa, Aa, Aa, Aa, Aa, trivial⟩, W⟩
    rintro a w ⟨x13, x14, v11, hj, F, W⟩
    have hj := AP hj
    subst hj
    have H := K4
    clear G4 K4
    refine Ab ?_
    refine ls F W Aa (BB F Aa Aa Aa).q fun a w F W => ?_
    refine ls F W Aa (Af F Aa).q fun a w F W => ?_
    refine Ad (Ac ?_)
    have W := W.frontZ (i := 3) Aa Aa
    have W := W.frontZ (i := 3) Aa Aa
    have W := W.frontZ (i := 3) Aa Aa
    have W := W.frontZ (i := 3) Aa Aa
    exact ⟨_, H, (v11), F.re ⟨rfl, Aa, Aa, Aa, Aa, Aa, Aa, Aa, Aa, Aa, trivial⟩, W⟩
   have H := AN (Bk hb) H
   rw [hb] at F
   clear hb
   refine Ba ?_
   iterate 2 refine Br ?_
   refine Bb (AR (Ac ?_))
   have W := W.frontZ (i := 2) Aa Aa
   have W := W.frontZ (i := 2) Aa Aa
   have W := W.frontZ (i := 2) Aa Aa
   have W := W.sub (M' := [(b1, [.int .i64 p0.1, v1, v2])]) (Z' := [row v4.1 50 (Rp.flt .f64) x1, row v6 3 (Rp.int .i64) x10, row v10 3 (Rp.int .i64) x11]) (List.Sublist.refl _) (List.Sublist.cons_cons _ (List.Sublist.cons_cons _ (List.Sublist.cons_cons _ (List.nil_sublist _))))
   have H := L3 _ H
   exact ⟨_, H, (v10), F.re ⟨rfl, Aa, Aa, Aa, Aa, Aa, trivial⟩, W⟩
  have H := AN (Bk hb) H
  rw [hb] at F
  clear hb
  refine Ba ?_
  iterate 2 refine Br ?_
  refine Bb (Ac ?_)
  have W := W.frontZ (i := 1) Aa Aa
  have W := W.sub (M' := [(b1, [.int .i64 p0.1, v1, v2])]) (Z' := [row v6 3 (Rp.int .i64) x5]) (List.Sublist.refl _) (List.Sublist.cons_cons _ (List.nil_sublist _))
  have H := L2 _ H
  exact ⟨_, H, F.re ⟨rfl, Aa, trivial⟩, W⟩
 rintro a w ⟨x4, hj, F, W⟩
 have hj := AP hj
 subst hj
 have H := K1
 clear G1 K1
 refine Ah (Ab ?_)
 refine ls F W Aa (Af F Aa).q fun a w F W => ?_
 refine ls F W Aa (Ae F Aa).q fun a w F W => ?_
 refine Ad (Ac (Av ?_))
 have H := AP H
 subst H
 refine AQ (.inl Aa) F W Aa (Ap F Aa) ?_
 have W := W.sub (M' := []) (Z' := [row v6 3 (Rp.int .i64) x4]) (List.nil_sublist _) (List.Sublist.refl _)
 exact ⟨(v6), Aa, W⟩
end Go.Proofs.Ytieebnllkjmjiaa
