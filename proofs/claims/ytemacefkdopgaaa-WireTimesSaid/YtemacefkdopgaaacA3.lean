/- The functions of layer 35, EJ. Conditions: none. -/
import Derived.Test.YtemacefkdopgaaacA2
namespace Go.Proofs.Ytemacefkdopgaaa
open Go Go.RowKit
set_option linter.unusedVariables false
set_option linter.unusedSimpArgs false
set_option maxRecDepth 20000
abbrev Im (a0 : Int × Int × Int × (Int × Int × Int × Int) × Int × Int) (a1 : Int × Int × Int × (Int × Int × Int × Int) × Int × Int) : List Value := [.agg #[.int .i64 a0.1, .int .i64 a0.2.1, .int .i64 a0.2.2.1, .int .i64 a0.2.2.2.1.1, .int .i64 a0.2.2.2.1.2.1, .int .i64 a0.2.2.2.1.2.2.1, .int .i64 a0.2.2.2.1.2.2.2, .int .i64 a0.2.2.2.2.1, .int .i64 a0.2.2.2.2.2], .agg #[.int .i64 a1.1, .int .i64 a1.2.1, .int .i64 a1.2.2.1, .int .i64 a1.2.2.2.1.1, .int .i64 a1.2.2.2.1.2.1, .int .i64 a1.2.2.2.1.2.2.1, .int .i64 a1.2.2.2.1.2.2.2, .int .i64 a1.2.2.2.2.1, .int .i64 a1.2.2.2.2.2]]
noncomputable def AE (p1 : Int) : ((List (Int × Int × Int × (Int × Int × Int × Int) × Int × Int)) × Int) → Option (((List (Int × Int × Int × (Int × Int × Int × Int) × Int × Int)) × Int) ⊕ (List (Int × Int × Int × (Int × Int × Int × Int) × Int × Int)))
  | (x4, x5) => (if p1 < x5 then (ix x4 x5).bind fun x7 => (ix x4 (Ay (x5 - 1))).bind fun x8 => some (decide ((BC x7 x8) < 0)) else some false).bind fun x6 => (if x6 = true then (ix x4 (Ay (x5 - 1))).bind fun x9 => (ix x4 x5).bind fun x10 => (ix x4 x5).bind fun x11 => (ix (Cq x4 x5 x9) (Ay (x5 - 1))).bind fun x12 => some (.inl ((Cq (Cq x4 x5 x9) (Ay (x5 - 1)) x10), Ay (x5 - 1))) else some (.inr x4))
noncomputable def AK (p1 : Int) (p2 : Int) : ((List (Int × Int × Int × (Int × Int × Int × Int) × Int × Int)) × Int) → Option (((List (Int × Int × Int × (Int × Int × Int × Int) × Int × Int)) × Int) ⊕ (List (Int × Int × Int × (Int × Int × Int × Int) × Int × Int)))
  | (x1, x2) => (if x2 < p2 then (AM (AE p1) (x1, x2)).bind fun x3 => some (.inl (x3, Ay (x2 + 1))) else some (.inr x1))
noncomputable def AS (p0 : List (Int × Int × Int × (Int × Int × Int × Int) × Int × Int)) (p1 : Int) (p2 : Int) : Option (List (Int × Int × Int × (Int × Int × Int × Int) × Int × Int)) := AM (AK p1 p2) (p0, Ay (p1 + 1))
theorem Ci (Y : Nat → Prop) (X : List Nat) (w0 : World) (v1 : Value) (p0 : List (Int × Int × Int × (Int × Int × Int × Int) × Int × Int)) (p1 : Int) (p2 : Int) (r : (List (Int × Int × Int × (Int × Int × Int × Int) × Int × Int))) (H : AS p0 p1 p2 = some r) (hL : Stw ⟨Y, X, w0⟩ [] [row v1 51 AB p0] w0) :
    Calls Try.prog 43 #[v1, .int .i64 p1, .int .i64 p2, .func (.func 29) #[] #[]] w0 fun e w' => ∃ x : Unit, e = .returned (.tuple #[]) ∧ Stw ⟨Y, X, w0⟩ [] [row v1 51 AB r] w' := by
 refine enter Try.func43 Aa Try.ntmps43 Aa fun a F => ?_
 have W := hL
 unfold AS at H
 refine Ai (Ac ?_)
 refine ls F W Aa (Ad F Aa).q fun a w F W => ?_
 refine ls F W Aa (BE F Aa Aa Aa).q fun a w F W => ?_
 refine ls F W Aa (Ag F Aa).q fun a w F W => ?_
 refine Ae (Ab (AA ?_))
 refine BG H (fun s a w => Fr 53 [] [(0, v1), (1, .int .i64 p1), (2, .int .i64 p2), (3, .func (.func 29) #[] #[]), (8, .int .i64 s.2)] a ∧ Stw ⟨Y, X, w0⟩ [] [row v1 51 AB s.1] w) ⟨F.re ⟨rfl, Aa, Aa, Aa, Aa, trivial⟩, W⟩ fun s o a w H L1 hR => ?_
 obtain ⟨x1, x2⟩ := s
 obtain ⟨F, W⟩ := hR
 have F : Fr 53 [] [(0, v1), (1, .int .i64 p1), (2, .int .i64 p2), (3, .func (.func 29) #[] #[]), (8, .int .i64 x2)] a := F
 have W : Stw ⟨Y, X, w0⟩ [] [row v1 51 AB x1] w := W
 rw [AK] at H
 refine Ai (Ai (Ac ?_))
 iterate 2 refine ls F W Aa (Ad F Aa).q fun a w F W => ?_
 refine ls F W Aa (Bm F Aa Aa).q fun a w F W => ?_
 refine Ae (Ab ?_)
 refine AC F Aa (fun hb => ?_) fun hb => ?_
 ·
  have H := A5 (BJ hb) H
  rw [hb] at F
  clear hb
  refine As (Ab ?_)
  obtain ⟨o2, G2, K2⟩ := Al H
  refine AO (fun a w => ∃ x3 : List (Int × Int × Int × (Int × Int × Int × Int) × Int × Int), some (x3) = some o2 ∧ Fr 53 [] [(0, v1), (1, .int .i64 p1), (2, .int .i64 p2), (3, .func (.func 29) #[] #[]), (8, .int .i64 x2)] a ∧ Stw ⟨Y, X, w0⟩ [] [row v1 51 AB x3] w) ?_ ?_
  ·
   have H := G2
   clear G2 K2
   refine AA (Ai (Ac ?_))
   refine ls F W Aa (Ad F Aa).q fun a w F W => ?_
   refine ls F W Aa (Ag F Aa).q fun a w F W => ?_
   refine Ae (Ab (AA ?_))
   refine BG H (fun s a w => Fr 53 [] [(0, v1), (1, .int .i64 p1), (2, .int .i64 p2), (3, .func (.func 29) #[] #[]), (8, .int .i64 x2), (9, .int .i64 s.2)] a ∧ Stw ⟨Y, X, w0⟩ [] [row v1 51 AB s.1] w) ⟨F.re ⟨rfl, Aa, Aa, Aa, Aa, Aa, trivial⟩, W⟩ fun s o a w H L3 hR => ?_
   obtain ⟨x4, x5⟩ := s
   obtain ⟨F, W⟩ := hR
   have F : Fr 53 [] [(0, v1), (1, .int .i64 p1), (2, .int .i64 p2), (3, .func (.func 29) #[] #[]), (8, .int .i64 x2), (9, .int .i64 x5)] a := F
   have W : Stw ⟨Y, X, w0⟩ [] [row v1 51 AB x4] w := W
   rw [AE] at H
   refine Ai ?_
   obtain ⟨o4, G4, K4⟩ := Al H
   refine AO (fun a w => ∃ x6 : Bool, some (x6) = some o4 ∧ Fr 53 [] [(0, v1), (1, .int .i64 p1), (2, .int .i64 p2), (3, .func (.func 29) #[] #[]), (8, .int .i64 x2), (9, .int .i64 x5), (34, .bool x6)] a ∧ Stw ⟨Y, X, w0⟩ [] [row v1 51 AB x4] w) ?_ ?_
   ·
    have H := G4
    clear G4 K4
    refine CB W MO (by kernel_rfl) ?_
    iterate 2 refine qs F Aa (Ad F Aa).q fun a F => ?_
    refine qs F Aa (DP F Aa Aa).q fun a F => ?_
    refine qs F Aa (Ad F Aa).q fun a F => ?_
    rcases Bool.eq_false_or_eq_true (decide (p1 < x5)) with hb | hb
    ·
     have H := A5 (BJ hb) H
     rw [hb] at F
     clear hb
     iterate 3 refine Cw F (Af F Aa Aa Aa Aa) Aa (Aj Aa) (Ad F Aa).q fun a F => ?_
     obtain ⟨x7, h1, H⟩ := Al H
     refine Cw F (Af F Aa Aa Aa Aa) Aa (Aj Aa) (AW (r := AB) Ea F Aa Aa (Aw 0 Aa) h1).q fun a F => ?_
     refine Cw F (Af F Aa Aa Aa Aa) Aa (Aj Aa) (Av (y := Value.agg #[.int .i64 x7.1, .int .i64 x7.2.1, .int .i64 x7.2.2.1, .int .i64 x7.2.2.2.1.1, .int .i64 x7.2.2.2.1.2.1, .int .i64 x7.2.2.2.1.2.2.1, .int .i64 x7.2.2.2.1.2.2.2, .int .i64 x7.2.2.2.2.1, .int .i64 x7.2.2.2.2.2]) (j := 0) (i := x5) F Aa Aa (Aw 0 Aa) h1 EM.to Dk Aa).q fun a F => ?_
     iterate 2 refine Cw F (Af F Aa Aa Aa Aa) Aa (Aj Aa) (Ad F Aa).q fun a F => ?_
     refine Cw F (Af F Aa Aa Aa Aa) Aa (Aj Aa) (CT F Aa Aa Aa).q fun a F => ?_
     obtain ⟨x8, h2, H⟩ := Al H
     refine Cw F (Af F Aa Aa Aa Aa) Aa (Aj Aa) (AW (r := AB) Ea F Aa Aa (Aw 0 Aa) h2).q fun a F => ?_
     refine Cw F (Af F Aa Aa Aa Aa) Aa (Aj Aa) (Av (y := Value.agg #[.int .i64 x8.1, .int .i64 x8.2.1, .int .i64 x8.2.2.1, .int .i64 x8.2.2.2.1.1, .int .i64 x8.2.2.2.1.2.1, .int .i64 x8.2.2.2.1.2.2.1, .int .i64 x8.2.2.2.1.2.2.2, .int .i64 x8.2.2.2.2.1, .int .i64 x8.2.2.2.2.2]) (j := 0) (i := Ay (x5 - 1)) F Aa Aa (Aw 0 Aa) h2 EM.to Dk Aa).q fun a F => ?_
     refine Cw F (Af F Aa Aa Aa Aa) Aa (Aj Aa) (E7 (ws := (Im x7 x8)) (v := Value.int .i64 (BC x7 x8)) F KE Aa (fun w W => Da any w x7 x8 _ Aa)) fun a F => ?_
     refine Cw F (Af F Aa Aa Aa Aa) Aa (Aj Aa) (Bm F Aa Aa).q fun a F => ?_
     refine qs F Aa (Am F Aa Aa Aa).q fun a F => ?_
     refine BL fun w W => ?_
     refine Ab ?_
     exact ⟨_, H, F.re ⟨rfl, Aa, Aa, Aa, Aa, Aa, Aa, trivial⟩, W⟩
    have H := A6 (BK hb) H
    rw [hb] at F
    clear hb
    iterate 12 refine Ee F (Dp F Aa Aa Aa Aa Aa) Aa Aa fun a F => ?_
    refine qs F Aa (Ak F Aa Aa Aa).q fun a F => ?_
    refine BL fun w W => ?_
    refine Ab ?_
    exact ⟨_, H, F.re ⟨rfl, Aa, Aa, Aa, Aa, Aa, Aa, trivial⟩, W⟩
   rintro a w ⟨x6, hj, F, W⟩
   have hj := Bg hj
   subst hj
   have H := K4
   clear G4 K4
   refine AC F Aa (fun hb => ?_) fun hb => ?_
   ·
    have H := A5 hb H
    rw [hb] at F
    clear hb
    refine As (Ab (Ai (AA ?_)))
    refine ET [(true, 0), (true, 1), (true, 2), (true, 3), (true, 4), (true, 5), (true, 6), (true, 7), (true, 8), (true, 9), (true, 10), (true, 11), (true, 12), (true, 13), (true, 14), (false, 15), (true, 16), (false, 17)] (CN ⟨Y, X, w0⟩ [] [(some 15, row v1 51 AB x4)]) (fun ch a d v w h => by cases d <;> exact h) MO (by kernel_rfl) W (fun w W => ⟨_, _, W, Bi, (Bq (fun _ => (.head _)) Bi)⟩) fun w W => ?_
    iterate 4 refine BP (R := []) F Aa Aa (yC fun M Z hN hZ => Ad F Aa) Aa Aa fun a F => ?_
    refine BP (R := []) F Aa Aa (yC fun M Z hN hZ => CT F Aa Aa Aa) Aa Aa fun a F => ?_
    iterate 2 refine BP (R := []) F Aa Aa (yC fun M Z hN hZ => Ad F Aa) Aa Aa fun a F => ?_
    refine BP (R := []) F Aa Aa (yC fun M Z hN hZ => CT F Aa Aa Aa) Aa Aa fun a F => ?_
    obtain ⟨x9, h3, H⟩ := Al H
    refine BP (R := []) F Aa Aa (yC fun M Z hN hZ => Cn (r := AB) Ea F Aa Aa (DZ W (Aw 0 Aa)) h3) Aa Aa fun a F => ?_
    refine BP (R := [15]) F Aa Aa (yC fun M Z hN hZ => Av (y := Value.agg #[.int .i64 x9.1, .int .i64 x9.2.1, .int .i64 x9.2.2.1, .int .i64 x9.2.2.2.1.1, .int .i64 x9.2.2.2.1.2.1, .int .i64 x9.2.2.2.1.2.2.1, .int .i64 x9.2.2.2.1.2.2.2, .int .i64 x9.2.2.2.2.1, .int .i64 x9.2.2.2.2.2]) (j := 0) (i := Ay (x5 - 1)) F Aa Aa (DS (hZ ((some 15), row v1 51 AB x4) (.head _) Aa)) h3 EM.to Dk Aa) (by kernel_rfl) Aa fun a F => ?_
    iterate 2 refine BP (R := []) F Aa Aa (yC fun M Z hN hZ => Ad F Aa) Aa Aa fun a F => ?_
    obtain ⟨x10, h4, H⟩ := Al H
    refine BP (R := []) F Aa Aa (yC fun M Z hN hZ => Cn (r := AB) Ea F Aa Aa (DZ W (Aw 0 Aa)) h4) Aa Aa fun a F => ?_
    refine BP (R := [15]) F Aa Aa (yC fun M Z hN hZ => Av (y := Value.agg #[.int .i64 x10.1, .int .i64 x10.2.1, .int .i64 x10.2.2.1, .int .i64 x10.2.2.2.1.1, .int .i64 x10.2.2.2.1.2.1, .int .i64 x10.2.2.2.1.2.2.1, .int .i64 x10.2.2.2.1.2.2.2, .int .i64 x10.2.2.2.2.1, .int .i64 x10.2.2.2.2.2]) (j := 0) (i := x5) F Aa Aa (DS (hZ ((some 15), row v1 51 AB x4) (.head _) Aa)) h4 EM.to Dk Aa) (by kernel_rfl) Aa fun a F => ?_
    obtain ⟨x11, h5, H⟩ := Al H
    refine BP (R := []) F Aa Aa (yC fun M Z hN hZ => Cn (r := AB) Ea F Aa Aa (DZ W (Aw 0 Aa)) h5) Aa Aa fun a F => ?_
    refine GA Aa ?_
    refine CF (i := x5) (j := 0) (vs := (DQ x9)) (x' := x9) F W Aa Aa Aa (k := 0) Aa Aa h5 Dk Aa Aa Aa Aa (fun A cs _ => EM.sto (by rfl) _ _ _) fun w W => ?_
    refine Du (N2 := []) (NZ2 := []) (N3 := []) (NZ3 := [(some 15, row v1 51 AB x4)]) W Aa Aa Bi (Bq (fun h => Cl (by kernel_rfl) h) Bi) ?_
    obtain ⟨x12, h6, H⟩ := Al H
    refine BP (R := []) F Aa Aa (yC fun M Z hN hZ => Cn (r := AB) Ea F Aa Aa (DZ W (Aw 0 Aa)) h6) Aa Aa fun a F => ?_
    refine GA Aa ?_
    refine CF (i := Ay (x5 - 1)) (j := 0) (vs := (DQ x10)) (x' := x10) F W Aa Aa Aa (k := 0) Aa Aa h6 Dk Aa Aa Aa Aa (fun A cs _ => EM.sto (by rfl) _ _ _) fun w W => ?_
    refine Du (N2 := []) (NZ2 := []) (N3 := []) (NZ3 := [(some 15, row v1 51 AB x4)]) W Aa Aa Bi (Bq (fun h => Cl (by kernel_rfl) h) Bi) ?_
    refine Gu (AZ (Ab (Ac ?_)))
    refine ls F W Aa (Ad F Aa).q fun a w F W => ?_
    refine ls F W Aa (CT F Aa Aa Aa).q fun a w F W => ?_
    refine ls F W Aa (Ag F Aa).q fun a w F W => ?_
    refine Ae (Ab ?_)
    exact ⟨_, H, F.re ⟨rfl, Aa, Aa, Aa, Aa, Aa, trivial⟩, W⟩
   have H := A6 (by rw [hb]; decide) H
   rw [hb] at F
   clear hb
   refine BF ?_
   iterate 2 refine Cf ?_
   refine BI (AZ (Ab ?_))
   have H := L3 _ H
   exact ⟨_, H, F.re ⟨rfl, Aa, Aa, Aa, Aa, trivial⟩, W⟩
  rintro a w ⟨x3, hj, F, W⟩
  have hj := Bg hj
  subst hj
  have H := K2
  clear G2 K2
  refine Ac ?_
  refine ls F W Aa (Ad F Aa).q fun a w F W => ?_
  refine ls F W Aa (BE F Aa Aa Aa).q fun a w F W => ?_
  refine ls F W Aa (Ag F Aa).q fun a w F W => ?_
  refine Ae (Ab ?_)
  exact ⟨_, H, F.re ⟨rfl, Aa, Aa, Aa, Aa, trivial⟩, W⟩
 have H := A6 (BK hb) H
 rw [hb] at F
 clear hb
 refine BF ?_
 iterate 2 refine Cf ?_
 refine BI ?_
 have H := L1 _ H
 have H := Bg H
 subst H
 refine Fp (.inr Aa) F Aa ?_
 exact ⟨(), Aa, W⟩
theorem LK : Has Try.prog 43 := ⟨fun args w => An Try.func43 rfl (by decide) args w⟩
noncomputable def Bj (p1 : Int) (p2 : Int) (p3 : Int) : ((List (Int × Int × Int × (Int × Int × Int × Int) × Int × Int)) × Int) → Option (((List (Int × Int × Int × (Int × Int × Int × Int) × Int × Int)) × Int) ⊕ (List (Int × Int × Int × (Int × Int × Int × Int) × Int × Int)))
  | (x1, x2) => (if x2 < p3 then (ix x1 (Ay (p2 + x2))).bind fun x3 => (ix x1 (Ay (p1 + x2))).bind fun x4 => (ix x1 (Ay (p1 + x2))).bind fun x5 => (ix (Cq x1 (Ay (p1 + x2)) x3) (Ay (p2 + x2))).bind fun x6 => some (.inl ((Cq (Cq x1 (Ay (p1 + x2)) x3) (Ay (p2 + x2)) x4), Ay (x2 + 1))) else some (.inr x1))
noncomputable def AD (p0 : List (Int × Int × Int × (Int × Int × Int × Int) × Int × Int)) (p1 : Int) (p2 : Int) (p3 : Int) : Option (List (Int × Int × Int × (Int × Int × Int × Int) × Int × Int)) := AM (Bj p1 p2 p3) (p0, 0)
theorem BW (Y : Nat → Prop) (X : List Nat) (w0 : World) (v1 : Value) (p0 : List (Int × Int × Int × (Int × Int × Int × Int) × Int × Int)) (p1 : Int) (p2 : Int) (p3 : Int) (r : (List (Int × Int × Int × (Int × Int × Int × Int) × Int × Int))) (H : AD p0 p1 p2 p3 = some r) (hL : Stw ⟨Y, X, w0⟩ [] [row v1 51 AB p0] w0) :
    Calls Try.prog 46 #[v1, .int .i64 p1, .int .i64 p2, .int .i64 p3, .func (.func 29) #[] #[]] w0 fun e w' => ∃ x : Unit, e = .returned (.tuple #[]) ∧ Stw ⟨Y, X, w0⟩ [] [row v1 51 AB r] w' := by
 refine enter Try.func46 Aa Try.ntmps46 Aa fun a F => ?_
 have W := hL
 unfold AD at H
 refine Ai (Ac ?_)
 refine ls F W Aa (Ag F Aa).q fun a w F W => ?_
 refine Ae (Ab (AA ?_))
 refine BG H (fun s a w => Fr 38 [] [(0, v1), (1, .int .i64 p1), (2, .int .i64 p2), (3, .int .i64 p3), (10, .int .i64 s.2)] a ∧ Stw ⟨Y, X, w0⟩ [] [row v1 51 AB s.1] w) ⟨F.re ⟨rfl, Aa, Aa, Aa, Aa, trivial⟩, W⟩ fun s o a w H L1 hR => ?_
 obtain ⟨x1, x2⟩ := s
 obtain ⟨F, W⟩ := hR
 have F : Fr 38 [] [(0, v1), (1, .int .i64 p1), (2, .int .i64 p2), (3, .int .i64 p3), (10, .int .i64 x2)] a := F
 have W : Stw ⟨Y, X, w0⟩ [] [row v1 51 AB x1] w := W
 rw [Bj] at H
 refine Ai (Ai (Ac ?_))
 iterate 2 refine ls F W Aa (Ad F Aa).q fun a w F W => ?_
 refine ls F W Aa (Bm F Aa Aa).q fun a w F W => ?_
 refine Ae (Ab ?_)
 refine AC F Aa (fun hb => ?_) fun hb => ?_
 ·
  have H := A5 (BJ hb) H
  rw [hb] at F
  clear hb
  refine As (Ab (Ai (AA ?_)))
  refine ET [(true, 0), (true, 1), (true, 2), (true, 3), (true, 4), (true, 5), (true, 6), (true, 7), (true, 8), (true, 9), (true, 10), (true, 11), (true, 12), (true, 13), (true, 14), (true, 15), (true, 16), (true, 17), (true, 18), (true, 19), (true, 20), (false, 21), (true, 22), (false, 23)] (CN ⟨Y, X, w0⟩ [] [(some 21, row v1 51 AB x1)]) (fun ch a d v w h => by cases d <;> exact h) MO (by kernel_rfl) W (fun w W => ⟨_, _, W, Bi, (Bq (fun _ => (.head _)) Bi)⟩) fun w W => ?_
  iterate 3 refine BP (R := []) F Aa Aa (yC fun M Z hN hZ => Ad F Aa) Aa Aa fun a F => ?_
  refine BP (R := []) F Aa Aa (yC fun M Z hN hZ => BE F Aa Aa Aa) Aa Aa fun a F => ?_
  iterate 3 refine BP (R := []) F Aa Aa (yC fun M Z hN hZ => Ad F Aa) Aa Aa fun a F => ?_
  refine BP (R := []) F Aa Aa (yC fun M Z hN hZ => BE F Aa Aa Aa) Aa Aa fun a F => ?_
  iterate 3 refine BP (R := []) F Aa Aa (yC fun M Z hN hZ => Ad F Aa) Aa Aa fun a F => ?_
  refine BP (R := []) F Aa Aa (yC fun M Z hN hZ => BE F Aa Aa Aa) Aa Aa fun a F => ?_
  obtain ⟨x3, h1, H⟩ := Al H
  refine BP (R := []) F Aa Aa (yC fun M Z hN hZ => Cn (r := AB) Ea F Aa Aa (DZ W (Aw 0 Aa)) h1) Aa Aa fun a F => ?_
  refine BP (R := [21]) F Aa Aa (yC fun M Z hN hZ => Av (y := Value.agg #[.int .i64 x3.1, .int .i64 x3.2.1, .int .i64 x3.2.2.1, .int .i64 x3.2.2.2.1.1, .int .i64 x3.2.2.2.1.2.1, .int .i64 x3.2.2.2.1.2.2.1, .int .i64 x3.2.2.2.1.2.2.2, .int .i64 x3.2.2.2.2.1, .int .i64 x3.2.2.2.2.2]) (j := 0) (i := Ay (p2 + x2)) F Aa Aa (DS (hZ ((some 21), row v1 51 AB x1) (.head _) Aa)) h1 EM.to Dk Aa) (by kernel_rfl) Aa fun a F => ?_
  iterate 3 refine BP (R := []) F Aa Aa (yC fun M Z hN hZ => Ad F Aa) Aa Aa fun a F => ?_
  refine BP (R := []) F Aa Aa (yC fun M Z hN hZ => BE F Aa Aa Aa) Aa Aa fun a F => ?_
  obtain ⟨x4, h2, H⟩ := Al H
  refine BP (R := []) F Aa Aa (yC fun M Z hN hZ => Cn (r := AB) Ea F Aa Aa (DZ W (Aw 0 Aa)) h2) Aa Aa fun a F => ?_
  refine BP (R := [21]) F Aa Aa (yC fun M Z hN hZ => Av (y := Value.agg #[.int .i64 x4.1, .int .i64 x4.2.1, .int .i64 x4.2.2.1, .int .i64 x4.2.2.2.1.1, .int .i64 x4.2.2.2.1.2.1, .int .i64 x4.2.2.2.1.2.2.1, .int .i64 x4.2.2.2.1.2.2.2, .int .i64 x4.2.2.2.2.1, .int .i64 x4.2.2.2.2.2]) (j := 0) (i := Ay (p1 + x2)) F Aa Aa (DS (hZ ((some 21), row v1 51 AB x1) (.head _) Aa)) h2 EM.to Dk Aa) (by kernel_rfl) Aa fun a F => ?_
  obtain ⟨x5, h3, H⟩ := Al H
  refine BP (R := []) F Aa Aa (yC fun M Z hN hZ => Cn (r := AB) Ea F Aa Aa (DZ W (Aw 0 Aa)) h3) Aa Aa fun a F => ?_
  refine GA Aa ?_
  refine CF (i := Ay (p1 + x2)) (j := 0) (vs := (DQ x3)) (x' := x3) F W Aa Aa Aa (k := 0) Aa Aa h3 Dk Aa Aa Aa Aa (fun A cs _ => EM.sto (by rfl) _ _ _) fun w W => ?_
  refine Du (N2 := []) (NZ2 := []) (N3 := []) (NZ3 := [(some 21, row v1 51 AB x1)]) W Aa Aa Bi (Bq (fun h => Cl (by kernel_rfl) h) Bi) ?_
  obtain ⟨x6, h4, H⟩ := Al H
  refine BP (R := []) F Aa Aa (yC fun M Z hN hZ => Cn (r := AB) Ea F Aa Aa (DZ W (Aw 0 Aa)) h4) Aa Aa fun a F => ?_
  refine GA Aa ?_
  refine CF (i := Ay (p2 + x2)) (j := 0) (vs := (DQ x4)) (x' := x4) F W Aa Aa Aa (k := 0) Aa Aa h4 Dk Aa Aa Aa Aa (fun A cs _ => EM.sto (by rfl) _ _ _) fun w W => ?_
  refine Du (N2 := []) (NZ2 := []) (N3 := []) (NZ3 := [(some 21, row v1 51 AB x1)]) W Aa Aa Bi (Bq (fun h => Cl (by kernel_rfl) h) Bi) ?_
  refine Gu (AZ (Ab (Ac ?_)))
  refine ls F W Aa (Ad F Aa).q fun a w F W => ?_
  refine ls F W Aa (BE F Aa Aa Aa).q fun a w F W => ?_
  refine ls F W Aa (Ag F Aa).q fun a w F W => ?_
  refine Ae (Ab ?_)
  exact ⟨_, H, F.re ⟨rfl, Aa, Aa, Aa, Aa, trivial⟩, W⟩
 have H := A6 (BK hb) H
 rw [hb] at F
 clear hb
 refine BF ?_
 iterate 2 refine Cf ?_
 refine BI ?_
 have H := L1 _ H
 have H := Bg H
 subst H
 refine Fp (.inr Aa) F Aa ?_
 exact ⟨(), Aa, W⟩
theorem LC : Has Try.prog 46 := ⟨fun args w => An Try.func46 rfl (by decide) args w⟩
noncomputable def Bp (p2 : Int) : ((List (Int × Int × Int × (Int × Int × Int × Int) × Int × Int)) × Int × Int) → Option (((List (Int × Int × Int × (Int × Int × Int × Int) × Int × Int)) × Int × Int) ⊕ ((List (Int × Int × Int × (Int × Int × Int × Int) × Int × Int)) × Int))
  | (x3, x4, x5) => (if x4 ≠ x5 then (if x5 < x4 then (AD x3 (Ay (p2 - x4)) p2 x5).bind fun x6 => some (.inl (x6, Ay (x4 - x5), x5)) else (AD x3 (Ay (p2 - x4)) (Ay ((Ay (p2 + x5)) - x4)) x4).bind fun x7 => some (.inl (x7, x4, Ay (x5 - x4)))) else some (.inr (x3, x4)))
noncomputable def Bd (p0 : List (Int × Int × Int × (Int × Int × Int × Int) × Int × Int)) (p1 : Int) (p2 : Int) (p3 : Int) : Option (List (Int × Int × Int × (Int × Int × Int × Int) × Int × Int)) := (AM (Bp p2) (p0, Ay (p2 - p1), Ay (p3 - p2))).bind fun (x1, x2) => (AD x1 (Ay (p2 - x2)) p2 x2).bind fun x8 => some x8
theorem DD (Y : Nat → Prop) (X : List Nat) (w0 : World) (v1 : Value) (p0 : List (Int × Int × Int × (Int × Int × Int × Int) × Int × Int)) (p1 : Int) (p2 : Int) (p3 : Int) (r : (List (Int × Int × Int × (Int × Int × Int × Int) × Int × Int))) (H : Bd p0 p1 p2 p3 = some r) (hL : Stw ⟨Y, X, w0⟩ [] [row v1 51 AB p0] w0) :
    Calls Try.prog 45 #[v1, .int .i64 p1, .int .i64 p2, .int .i64 p3, .func (.func 29) #[] #[]] w0 fun e w' => ∃ x : Unit, e = .returned (.tuple #[]) ∧ Stw ⟨Y, X, w0⟩ [] [row v1 51 AB r] w' := by
 refine enter Try.func45 Aa Try.ntmps45 Aa fun a F => ?_
 have W := hL
 unfold Bd at H
 refine Ai (Ac ?_)
 iterate 2 refine ls F W Aa (Ad F Aa).q fun a w F W => ?_
 refine ls F W Aa (CT F Aa Aa Aa).q fun a w F W => ?_
 refine ls F W Aa (Ag F Aa).q fun a w F W => ?_
 refine Ae (Ab (Ai (Ac ?_)))
 iterate 2 refine ls F W Aa (Ad F Aa).q fun a w F W => ?_
 refine ls F W Aa (CT F Aa Aa Aa).q fun a w F W => ?_
 refine ls F W Aa (Ag F Aa).q fun a w F W => ?_
 refine Ae (Ab ?_)
 obtain ⟨o1, G1, K1⟩ := Al H
 refine AO (fun a w => ∃ x1 : List (Int × Int × Int × (Int × Int × Int × Int) × Int × Int), ∃ x2 : Int, some ((x1, x2)) = some o1 ∧ Fr 58 [] [(0, v1), (2, .int .i64 p2), (4, .func (.func 29) #[] #[]), (10, .int .i64 x2)] a ∧ Stw ⟨Y, X, w0⟩ [] [row v1 51 AB x1] w) ?_ ?_
 ·
  have H := G1
  clear G1 K1
  refine AA ?_
  refine BG H (fun s a w => Fr 58 [] [(0, v1), (2, .int .i64 p2), (4, .func (.func 29) #[] #[]), (10, .int .i64 s.2.1), (11, .int .i64 s.2.2)] a ∧ Stw ⟨Y, X, w0⟩ [] [row v1 51 AB s.1] w) ⟨F.re ⟨rfl, Aa, Aa, Aa, Aa, trivial⟩, W⟩ fun s o a w H L2 hR => ?_
  obtain ⟨x3, x4, x5⟩ := s
  obtain ⟨F, W⟩ := hR
  have F : Fr 58 [] [(0, v1), (2, .int .i64 p2), (4, .func (.func 29) #[] #[]), (10, .int .i64 x4), (11, .int .i64 x5)] a := F
  have W : Stw ⟨Y, X, w0⟩ [] [row v1 51 AB x3] w := W
  rw [Bp] at H
  refine Ai (Ai (Ac ?_))
  iterate 2 refine ls F W Aa (Ad F Aa).q fun a w F W => ?_
  refine ls F W Aa (G0 F Aa Aa).q fun a w F W => ?_
  refine Ae (Ab ?_)
  refine AC F Aa (fun hb => ?_) fun hb => ?_
  ·
   have H := A5 (BJ hb) H
   rw [hb] at F
   clear hb
   refine As (Ab (AA (Ai (Ac ?_))))
   iterate 2 refine ls F W Aa (Ad F Aa).q fun a w F W => ?_
   refine ls F W Aa (DP F Aa Aa).q fun a w F W => ?_
   refine Ae (Ab ?_)
   refine AC F Aa (fun hb => ?_) fun hb => ?_
   ·
    have H := A5 (BJ hb) H
    rw [hb] at F
    clear hb
    refine Ai (Ac ?_)
    iterate 3 refine ls F W Aa (Ad F Aa).q fun a w F W => ?_
    refine ls F W Aa (CT F Aa Aa Aa).q fun a w F W => ?_
    iterate 3 refine ls F W Aa (Ad F Aa).q fun a w F W => ?_
    obtain ⟨x6, h1, H⟩ := Al H
    refine BT (Ml := []) (Zl := [row v1 51 AB x3]) (M := []) (Z := []) (β := Unit) (rv := fun x => .tuple #[]) (MM := fun x => []) (ZZ := fun x => [row v1 51 AB x6]) F W LC Aa Aa (fun hL => BW _ _ w (v1) x3 (Ay (p2 - x4)) p2 x5 _ h1 hL) fun x a w F W => ?_
    have W : Stw ⟨Y, X, w0⟩ [] [row v1 51 AB x6] w := W
    refine Ae (Ab (Ac ?_))
    iterate 2 refine ls F W Aa (Ad F Aa).q fun a w F W => ?_
    refine ls F W Aa (CT F Aa Aa Aa).q fun a w F W => ?_
    refine ls F W Aa (Ag F Aa).q fun a w F W => ?_
    refine Ae (AZ (Ab ?_))
    exact ⟨_, H, F.re ⟨rfl, Aa, Aa, Aa, Aa, trivial⟩, W⟩
   have H := A6 (BK hb) H
   rw [hb] at F
   clear hb
   refine Ai (Ac ?_)
   iterate 3 refine ls F W Aa (Ad F Aa).q fun a w F W => ?_
   refine ls F W Aa (CT F Aa Aa Aa).q fun a w F W => ?_
   iterate 2 refine ls F W Aa (Ad F Aa).q fun a w F W => ?_
   refine ls F W Aa (BE F Aa Aa Aa).q fun a w F W => ?_
   refine ls F W Aa (Ad F Aa).q fun a w F W => ?_
   refine ls F W Aa (CT F Aa Aa Aa).q fun a w F W => ?_
   iterate 2 refine ls F W Aa (Ad F Aa).q fun a w F W => ?_
   obtain ⟨x7, h2, H⟩ := Al H
   refine BT (Ml := []) (Zl := [row v1 51 AB x3]) (M := []) (Z := []) (β := Unit) (rv := fun x => .tuple #[]) (MM := fun x => []) (ZZ := fun x => [row v1 51 AB x7]) F W LC Aa Aa (fun hL => BW _ _ w (v1) x3 (Ay (p2 - x4)) (Ay ((Ay (p2 + x5)) - x4)) x4 _ h2 hL) fun x a w F W => ?_
   have W : Stw ⟨Y, X, w0⟩ [] [row v1 51 AB x7] w := W
   refine Ae (Ab (Ac ?_))
   iterate 2 refine ls F W Aa (Ad F Aa).q fun a w F W => ?_
   refine ls F W Aa (CT F Aa Aa Aa).q fun a w F W => ?_
   refine ls F W Aa (Ag F Aa).q fun a w F W => ?_
   refine Ae (AZ (Ab ?_))
   exact ⟨_, H, F.re ⟨rfl, Aa, Aa, Aa, Aa, trivial⟩, W⟩
  have H := A6 (BK hb) H
  rw [hb] at F
  clear hb
  refine BF ?_
  iterate 2 refine Cf ?_
  refine BI (Ab ?_)
  have H := L2 _ H
  exact ⟨_, _, H, F.re ⟨rfl, Aa, Aa, Aa, trivial⟩, W⟩
 rintro a w ⟨x1, x2, hj, F, W⟩
 have hj := Bg hj
 subst hj
 have H := K1
 clear G1 K1
 refine Ac ?_
 iterate 3 refine ls F W Aa (Ad F Aa).q fun a w F W => ?_
 refine ls F W Aa (CT F Aa Aa Aa).q fun a w F W => ?_
 iterate 3 refine ls F W Aa (Ad F Aa).q fun a w F W => ?_
 obtain ⟨x8, h3, H⟩ := Al H
 refine BT (Ml := []) (Zl := [row v1 51 AB x1]) (M := []) (Z := []) (β := Unit) (rv := fun x => .tuple #[]) (MM := fun x => []) (ZZ := fun x => [row v1 51 AB x8]) F W LC Aa Aa (fun hL => BW _ _ w (v1) x1 (Ay (p2 - x2)) p2 x2 _ h3 hL) fun x a w F W => ?_
 have W : Stw ⟨Y, X, w0⟩ [] [row v1 51 AB x8] w := W
 refine Ae ?_
 have H := Bg H
 subst H
 refine Fp (.inr Aa) F Aa ?_
 exact ⟨(), Aa, W⟩
theorem Hz : type_of% Try.underlying95 := Try.underlying95
theorem Mx : Has Try.prog 45 := ⟨fun args w => An Try.func45 rfl (by decide) args w⟩
theorem Lc : Has Try.prog 44 := ⟨fun args w => An Try.func44 rfl (by decide) args w⟩
noncomputable def Ba (p0 : List (Int × Int × Int × (Int × Int × Int × Int) × Int × Int)) (p1 : Int) : (Int × Int) → Option ((Int × Int) ⊕ Int)
  | (x2, x3) => (if x2 < x3 then (ix p0 (Ay (BU .u64 (IntKind.u64.wrap (Ay (x2 + x3))) 1))).bind fun x4 => (ix p0 p1).bind fun x5 => (if (BC x4 x5) < 0 then some (.inl (Ay ((Ay (BU .u64 (IntKind.u64.wrap (Ay (x2 + x3))) 1)) + 1), x3)) else some (.inl (x2, Ay (BU .u64 (IntKind.u64.wrap (Ay (x2 + x3))) 1)))) else some (.inr x2))
noncomputable def Bb (x1 : Int) : ((List (Int × Int × Int × (Int × Int × Int × Int) × Int × Int)) × Int) → Option (((List (Int × Int × Int × (Int × Int × Int × Int) × Int × Int)) × Int) ⊕ (List (Int × Int × Int × (Int × Int × Int × Int) × Int × Int)))
  | (x7, x8) => (if x8 < (Ay (x1 - 1)) then (ix x7 (Ay (x8 + 1))).bind fun x9 => (ix x7 x8).bind fun x10 => (ix x7 x8).bind fun x11 => (ix (Cq x7 x8 x9) (Ay (x8 + 1))).bind fun x12 => some (.inl ((Cq (Cq x7 x8 x9) (Ay (x8 + 1)) x10), Ay (x8 + 1))) else some (.inr x7))
noncomputable def Bc (p0 : List (Int × Int × Int × (Int × Int × Int × Int) × Int × Int)) (p2 : Int) : (Int × Int) → Option ((Int × Int) ⊕ Int)
  | (x14, x15) => (if x14 < x15 then (ix p0 p2).bind fun x16 => (ix p0 (Ay (BU .u64 (IntKind.u64.wrap (Ay (x14 + x15))) 1))).bind fun x17 => (if (!(decide ((BC x16 x17) < 0))) = true then some (.inl (Ay ((Ay (BU .u64 (IntKind.u64.wrap (Ay (x14 + x15))) 1)) + 1), x15)) else some (.inl (x14, Ay (BU .u64 (IntKind.u64.wrap (Ay (x14 + x15))) 1)))) else some (.inr x14))
noncomputable def A9 (x13 : Int) : ((List (Int × Int × Int × (Int × Int × Int × Int) × Int × Int)) × Int) → Option (((List (Int × Int × Int × (Int × Int × Int × Int) × Int × Int)) × Int) ⊕ (List (Int × Int × Int × (Int × Int × Int × Int) × Int × Int)))
  | (x19, x20) => (if x13 < x20 then (ix x19 (Ay (x20 - 1))).bind fun x21 => (ix x19 x20).bind fun x22 => (ix x19 x20).bind fun x23 => (ix (Cq x19 x20 x21) (Ay (x20 - 1))).bind fun x24 => some (.inl ((Cq (Cq x19 x20 x21) (Ay (x20 - 1)) x22), Ay (x20 - 1))) else some (.inr x19))
noncomputable def A8 (p0 : List (Int × Int × Int × (Int × Int × Int × Int) × Int × Int)) (p1 : Int) (p2 : Int) (p3 : Int) : (Int × Int) → Option ((Int × Int) ⊕ Int)
  | (x28, x29) => (if x28 < x29 then (ix p0 (Ay ((Ay ((Ay ((Ay (BU .u64 (IntKind.u64.wrap (Ay (p1 + p3))) 1)) + p2)) - 1)) - (Ay (BU .u64 (IntKind.u64.wrap (Ay (x28 + x29))) 1))))).bind fun x30 => (ix p0 (Ay (BU .u64 (IntKind.u64.wrap (Ay (x28 + x29))) 1))).bind fun x31 => (if (!(decide ((BC x30 x31) < 0))) = true then some (.inl (Ay ((Ay (BU .u64 (IntKind.u64.wrap (Ay (x28 + x29))) 1)) + 1), x29)) else some (.inl (x28, Ay (BU .u64 (IntKind.u64.wrap (Ay (x28 + x29))) 1)))) else some (.inr x28))
noncomputable def AF (fRec : (List (Int × Int × Int × (Int × Int × Int × Int) × Int × Int)) → Int → Int → Int → Option (List (Int × Int × Int × (Int × Int × Int × Int) × Int × Int))) (p0 : List (Int × Int × Int × (Int × Int × Int × Int) × Int × Int)) (p1 : Int) (p2 : Int) (p3 : Int) : Option (List (Int × Int × Int × (Int × Int × Int × Int) × Int × Int)) := F3 (if (Ay (p2 - p1)) = 1 then (AM (Ba p0 p1) (p2, p3)).bind fun x1 => (AM (Bb x1) (p0, p1)).bind fun x6 => some (.inr x6) else some (.inl ())) fun _ => F3 (if (Ay (p3 - p2)) = 1 then (AM (Bc p0 p2) (p1, p2)).bind fun x13 => (AM (A9 x13) (p0, p2)).bind fun x18 => some (.inr x18) else some (.inl ())) fun _ => (if (Ay (BU .u64 (IntKind.u64.wrap (Ay (p1 + p3))) 1)) < p2 then some (Ay ((Ay ((Ay (BU .u64 (IntKind.u64.wrap (Ay (p1 + p3))) 1)) + p2)) - p3), Ay (BU .u64 (IntKind.u64.wrap (Ay (p1 + p3))) 1)) else some (p1, p2)).bind fun (x25, x26) => (AM (A8 p0 p1 p2 p3) (x25, x26)).bind fun x27 => (if (decide (x27 < p2) && decide (p2 < (Ay ((Ay ((Ay (BU .u64 (IntKind.u64.wrap (Ay (p1 + p3))) 1)) + p2)) - x27)))) = true then (Bd p0 x27 p2 (Ay ((Ay ((Ay (BU .u64 (IntKind.u64.wrap (Ay (p1 + p3))) 1)) + p2)) - x27))).bind fun x33 => some x33 else some p0).bind fun x32 => (if (decide (p1 < x27) && decide (x27 < (Ay (BU .u64 (IntKind.u64.wrap (Ay (p1 + p3))) 1)))) = true then (fRec x32 p1 x27 (Ay (BU .u64 (IntKind.u64.wrap (Ay (p1 + p3))) 1))).bind fun x35 => some x35 else some x32).bind fun x34 => (if (decide ((Ay (BU .u64 (IntKind.u64.wrap (Ay (p1 + p3))) 1)) < (Ay ((Ay ((Ay (BU .u64 (IntKind.u64.wrap (Ay (p1 + p3))) 1)) + p2)) - x27))) && decide ((Ay ((Ay ((Ay (BU .u64 (IntKind.u64.wrap (Ay (p1 + p3))) 1)) + p2)) - x27)) < p3)) = true then (fRec x34 (Ay (BU .u64 (IntKind.u64.wrap (Ay (p1 + p3))) 1)) (Ay ((Ay ((Ay (BU .u64 (IntKind.u64.wrap (Ay (p1 + p3))) 1)) + p2)) - x27)) p3).bind fun x36 => some x36 else some x34)
noncomputable def Au : Nat → (List (Int × Int × Int × (Int × Int × Int × Int) × Int × Int)) → Int → Int → Int → Option (List (Int × Int × Int × (Int × Int × Int × Int) × Int × Int))
  | 0 => fun _ _ _ _ => none
  | n + 1 => AF (Au n)
noncomputable def A4 (p0 : List (Int × Int × Int × (Int × Int × Int × Int) × Int × Int)) (p1 : Int) (p2 : Int) (p3 : Int) : Option (List (Int × Int × Int × (Int × Int × Int × Int) × Int × Int)) := IZ fun n => Au n p0 p1 p2 p3
theorem Dc (fRec : (List (Int × Int × Int × (Int × Int × Int × Int) × Int × Int)) → Int → Int → Int → Option (List (Int × Int × Int × (Int × Int × Int × Int) × Int × Int))) (ih : ∀ (Y : Nat → Prop) (X : List Nat) (w0 : World) (v1 : Value) (p0 : List (Int × Int × Int × (Int × Int × Int × Int) × Int × Int)) (p1 : Int) (p2 : Int) (p3 : Int) (r : (List (Int × Int × Int × (Int × Int × Int × Int) × Int × Int))) (H : fRec p0 p1 p2 p3 = some r) (hL : Stw ⟨Y, X, w0⟩ [] [row v1 51 AB p0] w0), Calls Try.prog 44 #[v1, .int .i64 p1, .int .i64 p2, .int .i64 p3, .func (.func 29) #[] #[]] w0 fun e w' => ∃ x : Unit, e = .returned (.tuple #[]) ∧ Stw ⟨Y, X, w0⟩ [] [row v1 51 AB r] w') (Y : Nat → Prop) (X : List Nat) (w0 : World) (v1 : Value) (p0 : List (Int × Int × Int × (Int × Int × Int × Int) × Int × Int)) (p1 : Int) (p2 : Int) (p3 : Int) (r : (List (Int × Int × Int × (Int × Int × Int × Int) × Int × Int))) (H : AF fRec p0 p1 p2 p3 = some r) (hL : Stw ⟨Y, X, w0⟩ [] [row v1 51 AB p0] w0) :
    Calls Try.prog 44 #[v1, .int .i64 p1, .int .i64 p2, .int .i64 p3, .func (.func 29) #[] #[]] w0 fun e w' => ∃ x : Unit, e = .returned (.tuple #[]) ∧ Stw ⟨Y, X, w0⟩ [] [row v1 51 AB r] w' := by
 refine enter Try.func44 Aa Try.ntmps44 Aa fun a F => ?_
 have W := hL
 unfold AF at H
 obtain ⟨o1, G1, K1, L1⟩ := Jh H
 refine AO (fun a w => some (Sum.inl ()) = some o1 ∧ Fr 220 [] [(0, v1), (1, .int .i64 p1), (2, .int .i64 p2), (3, .int .i64 p3), (4, .func (.func 29) #[] #[])] a ∧ Stw ⟨Y, X, w0⟩ [] [row v1 51 AB p0] w) ?_ ?_
 ·
  have H := G1
  clear G1 K1
  refine Ai (Ac ?_)
  iterate 2 refine ls F W Aa (Ad F Aa).q fun a w F W => ?_
  refine ls F W Aa (CT F Aa Aa Aa).q fun a w F W => ?_
  refine ls F W Aa (Cm F Aa Aa).q fun a w F W => ?_
  refine Ae (Ab ?_)
  refine AC F Aa (fun hb => ?_) fun hb => ?_
  ·
   have H := A5 (BJ hb) H
   rw [hb] at F
   clear hb
   refine Ai (Ac ?_)
   refine ls F W Aa (Ad F Aa).q fun a w F W => ?_
   refine ls F W Aa (Ag F Aa).q fun a w F W => ?_
   refine Ae (Ab (Ai (Ac ?_)))
   refine ls F W Aa (Ad F Aa).q fun a w F W => ?_
   refine ls F W Aa (Ag F Aa).q fun a w F W => ?_
   refine Ae (Ab ?_)
   obtain ⟨o2, G2, K2⟩ := Al H
   refine AO (fun a w => ∃ x1 : Int, some (x1) = some o2 ∧ Fr 220 [] [(0, v1), (1, .int .i64 p1), (2, .int .i64 p2), (3, .int .i64 p3), (4, .func (.func 29) #[] #[]), (10, .int .i64 x1)] a ∧ Stw ⟨Y, X, w0⟩ [] [row v1 51 AB p0] w) ?_ ?_
   ·
    have H := G2
    clear G2 K2
    refine AA ?_
    refine BG H (fun s a w => Fr 220 [] [(0, v1), (1, .int .i64 p1), (2, .int .i64 p2), (3, .int .i64 p3), (4, .func (.func 29) #[] #[]), (10, .int .i64 s.1), (11, .int .i64 s.2)] a ∧ Stw ⟨Y, X, w0⟩ [] [row v1 51 AB p0] w) ⟨F.re ⟨rfl, Aa, Aa, Aa, Aa, Aa, Aa, trivial⟩, W⟩ fun s o a w H L3 hR => ?_
    obtain ⟨x2, x3⟩ := s
    obtain ⟨F, W⟩ := hR
    have F : Fr 220 [] [(0, v1), (1, .int .i64 p1), (2, .int .i64 p2), (3, .int .i64 p3), (4, .func (.func 29) #[] #[]), (10, .int .i64 x2), (11, .int .i64 x3)] a := F
    have W : Stw ⟨Y, X, w0⟩ [] [row v1 51 AB p0] w := W
    rw [Ba] at H
    refine Ai (Ai (Ac ?_))
    iterate 2 refine ls F W Aa (Ad F Aa).q fun a w F W => ?_
    refine ls F W Aa (Bm F Aa Aa).q fun a w F W => ?_
    refine Ae (Ab ?_)
    refine AC F Aa (fun hb => ?_) fun hb => ?_
    ·
     have H := A5 (BJ hb) H
     rw [hb] at F
     clear hb
     refine As (Ab (AA (Ai (Ac ?_))))
     iterate 2 refine ls F W Aa (Ad F Aa).q fun a w F W => ?_
     refine ls F W Aa (BE F Aa Aa Aa).q fun a w F W => ?_
     refine ls F W Aa (Ej I1 Hz F Aa).q fun a w F W => ?_
     refine ls F W Aa (In F Aa Aa (by decide)).q fun a w F W => ?_
     refine ls F W Aa (Ej Hz I1 F Aa).q fun a w F W => ?_
     refine ls F W Aa (Ag F Aa).q fun a w F W => ?_
     refine Ae (Ab (Ai ?_))
     refine CB W MO (by kernel_rfl) ?_
     iterate 3 refine qs F Aa (Ad F Aa).q fun a F => ?_
     obtain ⟨x4, h1, H⟩ := Al H
     refine qs F Aa (AW (r := AB) Ea F Aa Aa (Aw 0 Aa) h1).q fun a F => ?_
     refine qs F Aa (Av (y := Value.agg #[.int .i64 x4.1, .int .i64 x4.2.1, .int .i64 x4.2.2.1, .int .i64 x4.2.2.2.1.1, .int .i64 x4.2.2.2.1.2.1, .int .i64 x4.2.2.2.1.2.2.1, .int .i64 x4.2.2.2.1.2.2.2, .int .i64 x4.2.2.2.2.1, .int .i64 x4.2.2.2.2.2]) (j := 0) (i := Ay (BU .u64 (IntKind.u64.wrap (Ay (x2 + x3))) 1)) F Aa Aa (Aw 0 Aa) h1 EM.to Dk Aa).q fun a F => ?_
     iterate 2 refine qs F Aa (Ad F Aa).q fun a F => ?_
     obtain ⟨x5, h2, H⟩ := Al H
     refine qs F Aa (AW (r := AB) Ea F Aa Aa (Aw 0 Aa) h2).q fun a F => ?_
     refine qs F Aa (Av (y := Value.agg #[.int .i64 x5.1, .int .i64 x5.2.1, .int .i64 x5.2.2.1, .int .i64 x5.2.2.2.1.1, .int .i64 x5.2.2.2.1.2.1, .int .i64 x5.2.2.2.1.2.2.1, .int .i64 x5.2.2.2.1.2.2.2, .int .i64 x5.2.2.2.2.1, .int .i64 x5.2.2.2.2.2]) (j := 0) (i := p1) F Aa Aa (Aw 0 Aa) h2 EM.to Dk Aa).q fun a F => ?_
     refine qs F Aa (E7 (ws := (Im x4 x5)) (v := Value.int .i64 (BC x4 x5)) F KE Aa (fun w W => Da any w x4 x5 _ Aa)) fun a F => ?_
     refine qs F Aa (Bm F Aa Aa).q fun a F => ?_
     refine BL fun w W => ?_
     refine Ab ?_
     refine AC F Aa (fun hb => ?_) fun hb => ?_
     ·
      have H := A5 (BJ hb) H
      rw [hb] at F
      clear hb
      refine Ac ?_
      refine ls F W Aa (Ad F Aa).q fun a w F W => ?_
      refine ls F W Aa (BE F Aa Aa Aa).q fun a w F W => ?_
      refine ls F W Aa (Ag F Aa).q fun a w F W => ?_
      refine Ae (AZ (Ab ?_))
      exact ⟨_, H, F.re ⟨rfl, Aa, Aa, Aa, Aa, Aa, Aa, trivial⟩, W⟩
     have H := A6 (BK hb) H
     rw [hb] at F
     clear hb
     refine Ac ?_
     refine ls F W Aa (Ad F Aa).q fun a w F W => ?_
     refine ls F W Aa (Ag F Aa).q fun a w F W => ?_
     refine Ae (AZ (Ab ?_))
     exact ⟨_, H, F.re ⟨rfl, Aa, Aa, Aa, Aa, Aa, Aa, trivial⟩, W⟩
    have H := A6 (BK hb) H
    rw [hb] at F
    clear hb
    refine BF ?_
    iterate 2 refine Cf ?_
    refine BI (Ab ?_)
    have H := L3 _ H
    exact ⟨_, H, F.re ⟨rfl, Aa, Aa, Aa, Aa, Aa, trivial⟩, W⟩
   rintro a w ⟨x1, hj, F, W⟩
   have hj := Bg hj
   subst hj
   have H := K2
   clear G2 K2
   obtain ⟨o4, G4, K4⟩ := Al H
   refine AO (fun a w => ∃ x6 : List (Int × Int × Int × (Int × Int × Int × Int) × Int × Int), some (x6) = some o4 ∧ Fr 220 [] [(0, v1), (1, .int .i64 p1), (2, .int .i64 p2), (3, .int .i64 p3), (4, .func (.func 29) #[] #[])] a ∧ Stw ⟨Y, X, w0⟩ [] [row v1 51 AB x6] w) ?_ ?_
   ·
    have H := G4
    clear G4 K4
    refine Ai (Ac ?_)
    refine ls F W Aa (Ad F Aa).q fun a w F W => ?_
    refine ls F W Aa (Ag F Aa).q fun a w F W => ?_
    refine Ae (Ab (AA ?_))
    refine BG H (fun s a w => Fr 220 [] [(0, v1), (1, .int .i64 p1), (2, .int .i64 p2), (3, .int .i64 p3), (4, .func (.func 29) #[] #[]), (10, .int .i64 x1), (13, .int .i64 s.2)] a ∧ Stw ⟨Y, X, w0⟩ [] [row v1 51 AB s.1] w) ⟨F.re ⟨rfl, Aa, Aa, Aa, Aa, Aa, Aa, trivial⟩, W⟩ fun s o a w H L5 hR => ?_
    obtain ⟨x7, x8⟩ := s
    obtain ⟨F, W⟩ := hR
    have F : Fr 220 [] [(0, v1), (1, .int .i64 p1), (2, .int .i64 p2), (3, .int .i64 p3), (4, .func (.func 29) #[] #[]), (10, .int .i64 x1), (13, .int .i64 x8)] a := F
    have W : Stw ⟨Y, X, w0⟩ [] [row v1 51 AB x7] w := W
    rw [Bb] at H
    refine Ai (Ai (Ac ?_))
    iterate 2 refine ls F W Aa (Ad F Aa).q fun a w F W => ?_
    refine ls F W Aa (CT F Aa Aa Aa).q fun a w F W => ?_
    refine ls F W Aa (Bm F Aa Aa).q fun a w F W => ?_
    refine Ae (Ab ?_)
    refine AC F Aa (fun hb => ?_) fun hb => ?_
    ·
     have H := A5 (BJ hb) H
     rw [hb] at F
     clear hb
     refine As (Ab (Ai (AA ?_)))
     refine ET [(true, 0), (true, 1), (true, 2), (true, 3), (true, 4), (true, 5), (true, 6), (true, 7), (true, 8), (true, 9), (true, 10), (true, 11), (true, 12), (true, 13), (true, 14), (false, 15), (true, 16), (false, 17)] (CN ⟨Y, X, w0⟩ [] [(some 15, row v1 51 AB x7)]) (fun ch a d v w h => by cases d <;> exact h) MO (by kernel_rfl) W (fun w W => ⟨_, _, W, Bi, (Bq (fun _ => (.head _)) Bi)⟩) fun w W => ?_
     iterate 4 refine BP (R := []) F Aa Aa (yC fun M Z hN hZ => Ad F Aa) Aa Aa fun a F => ?_
     refine BP (R := []) F Aa Aa (yC fun M Z hN hZ => BE F Aa Aa Aa) Aa Aa fun a F => ?_
     iterate 2 refine BP (R := []) F Aa Aa (yC fun M Z hN hZ => Ad F Aa) Aa Aa fun a F => ?_
     refine BP (R := []) F Aa Aa (yC fun M Z hN hZ => BE F Aa Aa Aa) Aa Aa fun a F => ?_
     obtain ⟨x9, h3, H⟩ := Al H
     refine BP (R := []) F Aa Aa (yC fun M Z hN hZ => Cn (r := AB) Ea F Aa Aa (DZ W (Aw 0 Aa)) h3) Aa Aa fun a F => ?_
     refine BP (R := [15]) F Aa Aa (yC fun M Z hN hZ => Av (y := Value.agg #[.int .i64 x9.1, .int .i64 x9.2.1, .int .i64 x9.2.2.1, .int .i64 x9.2.2.2.1.1, .int .i64 x9.2.2.2.1.2.1, .int .i64 x9.2.2.2.1.2.2.1, .int .i64 x9.2.2.2.1.2.2.2, .int .i64 x9.2.2.2.2.1, .int .i64 x9.2.2.2.2.2]) (j := 0) (i := Ay (x8 + 1)) F Aa Aa (DS (hZ ((some 15), row v1 51 AB x7) (.head _) Aa)) h3 EM.to Dk Aa) (by kernel_rfl) Aa fun a F => ?_
     iterate 2 refine BP (R := []) F Aa Aa (yC fun M Z hN hZ => Ad F Aa) Aa Aa fun a F => ?_
     obtain ⟨x10, h4, H⟩ := Al H
     refine BP (R := []) F Aa Aa (yC fun M Z hN hZ => Cn (r := AB) Ea F Aa Aa (DZ W (Aw 0 Aa)) h4) Aa Aa fun a F => ?_
     refine BP (R := [15]) F Aa Aa (yC fun M Z hN hZ => Av (y := Value.agg #[.int .i64 x10.1, .int .i64 x10.2.1, .int .i64 x10.2.2.1, .int .i64 x10.2.2.2.1.1, .int .i64 x10.2.2.2.1.2.1, .int .i64 x10.2.2.2.1.2.2.1, .int .i64 x10.2.2.2.1.2.2.2, .int .i64 x10.2.2.2.2.1, .int .i64 x10.2.2.2.2.2]) (j := 0) (i := x8) F Aa Aa (DS (hZ ((some 15), row v1 51 AB x7) (.head _) Aa)) h4 EM.to Dk Aa) (by kernel_rfl) Aa fun a F => ?_
     obtain ⟨x11, h5, H⟩ := Al H
     refine BP (R := []) F Aa Aa (yC fun M Z hN hZ => Cn (r := AB) Ea F Aa Aa (DZ W (Aw 0 Aa)) h5) Aa Aa fun a F => ?_
     refine GA Aa ?_
     refine CF (i := x8) (j := 0) (vs := (DQ x9)) (x' := x9) F W Aa Aa Aa (k := 0) Aa Aa h5 Dk Aa Aa Aa Aa (fun A cs _ => EM.sto (by rfl) _ _ _) fun w W => ?_
     refine Du (N2 := []) (NZ2 := []) (N3 := []) (NZ3 := [(some 15, row v1 51 AB x7)]) W Aa Aa Bi (Bq (fun h => Cl (by kernel_rfl) h) Bi) ?_
     obtain ⟨x12, h6, H⟩ := Al H
     refine BP (R := []) F Aa Aa (yC fun M Z hN hZ => Cn (r := AB) Ea F Aa Aa (DZ W (Aw 0 Aa)) h6) Aa Aa fun a F => ?_
     refine GA Aa ?_
     refine CF (i := Ay (x8 + 1)) (j := 0) (vs := (DQ x10)) (x' := x10) F W Aa Aa Aa (k := 0) Aa Aa h6 Dk Aa Aa Aa Aa (fun A cs _ => EM.sto (by rfl) _ _ _) fun w W => ?_
     refine Du (N2 := []) (NZ2 := []) (N3 := []) (NZ3 := [(some 15, row v1 51 AB x7)]) W Aa Aa Bi (Bq (fun h => Cl (by kernel_rfl) h) Bi) ?_
     refine Gu (AZ (Ab (Ac ?_)))
     refine ls F W Aa (Ad F Aa).q fun a w F W => ?_
     refine ls F W Aa (BE F Aa Aa Aa).q fun a w F W => ?_
     refine ls F W Aa (Ag F Aa).q fun a w F W => ?_
     refine Ae (Ab ?_)
     exact ⟨_, H, F.re ⟨rfl, Aa, Aa, Aa, Aa, Aa, Aa, trivial⟩, W⟩
    have H := A6 (BK hb) H
    rw [hb] at F
    clear hb
    refine BF ?_
    iterate 2 refine Cf ?_
    refine BI (Ab ?_)
    have H := L5 _ H
    exact ⟨_, H, F.re ⟨rfl, Aa, Aa, Aa, Aa, trivial⟩, W⟩
   rintro a w ⟨x6, hj, F, W⟩
   have hj := Bg hj
   subst hj
   have H := K4
   clear G4 K4
   refine AN (AY ?_)
   have H := L1 _ H
   have H := Bg H
   subst H
   refine Fp (.inl Aa) F Aa ?_
   exact ⟨(), Aa, W⟩
  have H := A6 (BK hb) H
  rw [hb] at F
  clear hb
  refine As (Ab ?_)
  exact ⟨H, F.re ⟨rfl, Aa, Aa, Aa, Aa, trivial⟩, W⟩
 rintro a w ⟨hj, F, W⟩
 have H := K1 _ hj
 clear hj G1 K1 L1
 obtain ⟨o6, G6, K6, L6⟩ := Jh H
 refine AO (fun a w => some (Sum.inl ()) = some o6 ∧ Fr 220 [] [(0, v1), (1, .int .i64 p1), (2, .int .i64 p2), (3, .int .i64 p3), (4, .func (.func 29) #[] #[])] a ∧ Stw ⟨Y, X, w0⟩ [] [row v1 51 AB p0] w) ?_ ?_
 ·
  have H := G6
  clear G6 K6
  refine Ai (Ac ?_)
  iterate 2 refine ls F W Aa (Ad F Aa).q fun a w F W => ?_
  refine ls F W Aa (CT F Aa Aa Aa).q fun a w F W => ?_
  refine ls F W Aa (Cm F Aa Aa).q fun a w F W => ?_
  refine Ae (Ab ?_)
  refine AC F Aa (fun hb => ?_) fun hb => ?_
  ·
   have H := A5 (BJ hb) H
   rw [hb] at F
   clear hb
   refine Ai (Ac ?_)
   refine ls F W Aa (Ad F Aa).q fun a w F W => ?_
   refine ls F W Aa (Ag F Aa).q fun a w F W => ?_
   refine Ae (Ab (Ai (Ac ?_)))
   refine ls F W Aa (Ad F Aa).q fun a w F W => ?_
   refine ls F W Aa (Ag F Aa).q fun a w F W => ?_
   refine Ae (Ab ?_)
   obtain ⟨o7, G7, K7⟩ := Al H
   refine AO (fun a w => ∃ x13 : Int, some (x13) = some o7 ∧ Fr 220 [] [(0, v1), (1, .int .i64 p1), (2, .int .i64 p2), (3, .int .i64 p3), (4, .func (.func 29) #[] #[]), (14, .int .i64 x13)] a ∧ Stw ⟨Y, X, w0⟩ [] [row v1 51 AB p0] w) ?_ ?_
   ·
    have H := G7
    clear G7 K7
    refine AA ?_
    refine BG H (fun s a w => Fr 220 [] [(0, v1), (1, .int .i64 p1), (2, .int .i64 p2), (3, .int .i64 p3), (4, .func (.func 29) #[] #[]), (14, .int .i64 s.1), (15, .int .i64 s.2)] a ∧ Stw ⟨Y, X, w0⟩ [] [row v1 51 AB p0] w) ⟨F.re ⟨rfl, Aa, Aa, Aa, Aa, Aa, Aa, trivial⟩, W⟩ fun s o a w H L8 hR => ?_
    obtain ⟨x14, x15⟩ := s
    obtain ⟨F, W⟩ := hR
    have F : Fr 220 [] [(0, v1), (1, .int .i64 p1), (2, .int .i64 p2), (3, .int .i64 p3), (4, .func (.func 29) #[] #[]), (14, .int .i64 x14), (15, .int .i64 x15)] a := F
    have W : Stw ⟨Y, X, w0⟩ [] [row v1 51 AB p0] w := W
    rw [Bc] at H
    refine Ai (Ai (Ac ?_))
    iterate 2 refine ls F W Aa (Ad F Aa).q fun a w F W => ?_
    refine ls F W Aa (Bm F Aa Aa).q fun a w F W => ?_
    refine Ae (Ab ?_)
    refine AC F Aa (fun hb => ?_) fun hb => ?_
    ·
     have H := A5 (BJ hb) H
     rw [hb] at F
     clear hb
     refine As (Ab (AA (Ai (Ac ?_))))
     iterate 2 refine ls F W Aa (Ad F Aa).q fun a w F W => ?_
     refine ls F W Aa (BE F Aa Aa Aa).q fun a w F W => ?_
     refine ls F W Aa (Ej I1 Hz F Aa).q fun a w F W => ?_
     refine ls F W Aa (In F Aa Aa (by decide)).q fun a w F W => ?_
     refine ls F W Aa (Ej Hz I1 F Aa).q fun a w F W => ?_
     refine ls F W Aa (Ag F Aa).q fun a w F W => ?_
     refine Ae (Ab (Ai ?_))
     refine CB W MO (by kernel_rfl) ?_
     iterate 3 refine qs F Aa (Ad F Aa).q fun a F => ?_
     obtain ⟨x16, h7, H⟩ := Al H
     refine qs F Aa (AW (r := AB) Ea F Aa Aa (Aw 0 Aa) h7).q fun a F => ?_
     refine qs F Aa (Av (y := Value.agg #[.int .i64 x16.1, .int .i64 x16.2.1, .int .i64 x16.2.2.1, .int .i64 x16.2.2.2.1.1, .int .i64 x16.2.2.2.1.2.1, .int .i64 x16.2.2.2.1.2.2.1, .int .i64 x16.2.2.2.1.2.2.2, .int .i64 x16.2.2.2.2.1, .int .i64 x16.2.2.2.2.2]) (j := 0) (i := p2) F Aa Aa (Aw 0 Aa) h7 EM.to Dk Aa).q fun a F => ?_
     iterate 2 refine qs F Aa (Ad F Aa).q fun a F => ?_
     obtain ⟨x17, h8, H⟩ := Al H
     refine qs F Aa (AW (r := AB) Ea F Aa Aa (Aw 0 Aa) h8).q fun a F => ?_
     refine qs F Aa (Av (y := Value.agg #[.int .i64 x17.1, .int .i64 x17.2.1, .int .i64 x17.2.2.1, .int .i64 x17.2.2.2.1.1, .int .i64 x17.2.2.2.1.2.1, .int .i64 x17.2.2.2.1.2.2.1, .int .i64 x17.2.2.2.1.2.2.2, .int .i64 x17.2.2.2.2.1, .int .i64 x17.2.2.2.2.2]) (j := 0) (i := Ay (BU .u64 (IntKind.u64.wrap (Ay (x14 + x15))) 1)) F Aa Aa (Aw 0 Aa) h8 EM.to Dk Aa).q fun a F => ?_
     refine qs F Aa (E7 (ws := (Im x16 x17)) (v := Value.int .i64 (BC x16 x17)) F KE Aa (fun w W => Da any w x16 x17 _ Aa)) fun a F => ?_
     refine qs F Aa (Bm F Aa Aa).q fun a F => ?_
     refine qs F Aa (Fc F Aa).q fun a F => ?_
     refine BL fun w W => ?_
     refine Ab ?_
     refine AC F Aa (fun hb => ?_) fun hb => ?_
     ·
      have H := A5 hb H
      rw [hb] at F
      clear hb
      refine Ac ?_
      refine ls F W Aa (Ad F Aa).q fun a w F W => ?_
      refine ls F W Aa (BE F Aa Aa Aa).q fun a w F W => ?_
      refine ls F W Aa (Ag F Aa).q fun a w F W => ?_
      refine Ae (AZ (Ab ?_))
      exact ⟨_, H, F.re ⟨rfl, Aa, Aa, Aa, Aa, Aa, Aa, trivial⟩, W⟩
     have H := A6 (by rw [hb]; decide) H
     rw [hb] at F
     clear hb
     refine Ac ?_
     refine ls F W Aa (Ad F Aa).q fun a w F W => ?_
     refine ls F W Aa (Ag F Aa).q fun a w F W => ?_
     refine Ae (AZ (Ab ?_))
     exact ⟨_, H, F.re ⟨rfl, Aa, Aa, Aa, Aa, Aa, Aa, trivial⟩, W⟩
    have H := A6 (BK hb) H
    rw [hb] at F
    clear hb
    refine BF ?_
    iterate 2 refine Cf ?_
    refine BI (Ab ?_)
    have H := L8 _ H
    exact ⟨_, H, F.re ⟨rfl, Aa, Aa, Aa, Aa, Aa, trivial⟩, W⟩
   rintro a w ⟨x13, hj, F, W⟩
   have hj := Bg hj
   subst hj
   have H := K7
   clear G7 K7
   obtain ⟨o9, G9, K9⟩ := Al H
   refine AO (fun a w => ∃ x18 : List (Int × Int × Int × (Int × Int × Int × Int) × Int × Int), some (x18) = some o9 ∧ Fr 220 [] [(0, v1), (1, .int .i64 p1), (2, .int .i64 p2), (3, .int .i64 p3), (4, .func (.func 29) #[] #[])] a ∧ Stw ⟨Y, X, w0⟩ [] [row v1 51 AB x18] w) ?_ ?_
   ·
    have H := G9
    clear G9 K9
    refine Ai (Ac ?_)
    refine ls F W Aa (Ad F Aa).q fun a w F W => ?_
    refine ls F W Aa (Ag F Aa).q fun a w F W => ?_
    refine Ae (Ab (AA ?_))
    refine BG H (fun s a w => Fr 220 [] [(0, v1), (1, .int .i64 p1), (2, .int .i64 p2), (3, .int .i64 p3), (4, .func (.func 29) #[] #[]), (14, .int .i64 x13), (17, .int .i64 s.2)] a ∧ Stw ⟨Y, X, w0⟩ [] [row v1 51 AB s.1] w) ⟨F.re ⟨rfl, Aa, Aa, Aa, Aa, Aa, Aa, trivial⟩, W⟩ fun s o a w H L10 hR => ?_
    obtain ⟨x19, x20⟩ := s
    obtain ⟨F, W⟩ := hR
    have F : Fr 220 [] [(0, v1), (1, .int .i64 p1), (2, .int .i64 p2), (3, .int .i64 p3), (4, .func (.func 29) #[] #[]), (14, .int .i64 x13), (17, .int .i64 x20)] a := F
    have W : Stw ⟨Y, X, w0⟩ [] [row v1 51 AB x19] w := W
    rw [A9] at H
    refine Ai (Ai (Ac ?_))
    iterate 2 refine ls F W Aa (Ad F Aa).q fun a w F W => ?_
    refine ls F W Aa (DP F Aa Aa).q fun a w F W => ?_
    refine Ae (Ab ?_)
    refine AC F Aa (fun hb => ?_) fun hb => ?_
    ·
     have H := A5 (BJ hb) H
     rw [hb] at F
     clear hb
     refine As (Ab (Ai (AA ?_)))
     refine ET [(true, 0), (true, 1), (true, 2), (true, 3), (true, 4), (true, 5), (true, 6), (true, 7), (true, 8), (true, 9), (true, 10), (true, 11), (true, 12), (true, 13), (true, 14), (false, 15), (true, 16), (false, 17)] (CN ⟨Y, X, w0⟩ [] [(some 15, row v1 51 AB x19)]) (fun ch a d v w h => by cases d <;> exact h) MO (by kernel_rfl) W (fun w W => ⟨_, _, W, Bi, (Bq (fun _ => (.head _)) Bi)⟩) fun w W => ?_
     iterate 4 refine BP (R := []) F Aa Aa (yC fun M Z hN hZ => Ad F Aa) Aa Aa fun a F => ?_
     refine BP (R := []) F Aa Aa (yC fun M Z hN hZ => CT F Aa Aa Aa) Aa Aa fun a F => ?_
     iterate 2 refine BP (R := []) F Aa Aa (yC fun M Z hN hZ => Ad F Aa) Aa Aa fun a F => ?_
     refine BP (R := []) F Aa Aa (yC fun M Z hN hZ => CT F Aa Aa Aa) Aa Aa fun a F => ?_
     obtain ⟨x21, h9, H⟩ := Al H
     refine BP (R := []) F Aa Aa (yC fun M Z hN hZ => Cn (r := AB) Ea F Aa Aa (DZ W (Aw 0 Aa)) h9) Aa Aa fun a F => ?_
     refine BP (R := [15]) F Aa Aa (yC fun M Z hN hZ => Av (y := Value.agg #[.int .i64 x21.1, .int .i64 x21.2.1, .int .i64 x21.2.2.1, .int .i64 x21.2.2.2.1.1, .int .i64 x21.2.2.2.1.2.1, .int .i64 x21.2.2.2.1.2.2.1, .int .i64 x21.2.2.2.1.2.2.2, .int .i64 x21.2.2.2.2.1, .int .i64 x21.2.2.2.2.2]) (j := 0) (i := Ay (x20 - 1)) F Aa Aa (DS (hZ ((some 15), row v1 51 AB x19) (.head _) Aa)) h9 EM.to Dk Aa) (by kernel_rfl) Aa fun a F => ?_
     iterate 2 refine BP (R := []) F Aa Aa (yC fun M Z hN hZ => Ad F Aa) Aa Aa fun a F => ?_
     obtain ⟨x22, h10, H⟩ := Al H
     refine BP (R := []) F Aa Aa (yC fun M Z hN hZ => Cn (r := AB) Ea F Aa Aa (DZ W (Aw 0 Aa)) h10) Aa Aa fun a F => ?_
     refine BP (R := [15]) F Aa Aa (yC fun M Z hN hZ => Av (y := Value.agg #[.int .i64 x22.1, .int .i64 x22.2.1, .int .i64 x22.2.2.1, .int .i64 x22.2.2.2.1.1, .int .i64 x22.2.2.2.1.2.1, .int .i64 x22.2.2.2.1.2.2.1, .int .i64 x22.2.2.2.1.2.2.2, .int .i64 x22.2.2.2.2.1, .int .i64 x22.2.2.2.2.2]) (j := 0) (i := x20) F Aa Aa (DS (hZ ((some 15), row v1 51 AB x19) (.head _) Aa)) h10 EM.to Dk Aa) (by kernel_rfl) Aa fun a F => ?_
     obtain ⟨x23, h11, H⟩ := Al H
     refine BP (R := []) F Aa Aa (yC fun M Z hN hZ => Cn (r := AB) Ea F Aa Aa (DZ W (Aw 0 Aa)) h11) Aa Aa fun a F => ?_
     refine GA Aa ?_
     refine CF (i := x20) (j := 0) (vs := (DQ x21)) (x' := x21) F W Aa Aa Aa (k := 0) Aa Aa h11 Dk Aa Aa Aa Aa (fun A cs _ => EM.sto (by rfl) _ _ _) fun w W => ?_
     refine Du (N2 := []) (NZ2 := []) (N3 := []) (NZ3 := [(some 15, row v1 51 AB x19)]) W Aa Aa Bi (Bq (fun h => Cl (by kernel_rfl) h) Bi) ?_
     obtain ⟨x24, h12, H⟩ := Al H
     refine BP (R := []) F Aa Aa (yC fun M Z hN hZ => Cn (r := AB) Ea F Aa Aa (DZ W (Aw 0 Aa)) h12) Aa Aa fun a F => ?_
     refine GA Aa ?_
     refine CF (i := Ay (x20 - 1)) (j := 0) (vs := (DQ x22)) (x' := x22) F W Aa Aa Aa (k := 0) Aa Aa h12 Dk Aa Aa Aa Aa (fun A cs _ => EM.sto (by rfl) _ _ _) fun w W => ?_
     refine Du (N2 := []) (NZ2 := []) (N3 := []) (NZ3 := [(some 15, row v1 51 AB x19)]) W Aa Aa Bi (Bq (fun h => Cl (by kernel_rfl) h) Bi) ?_
     refine Gu (AZ (Ab (Ac ?_)))
     refine ls F W Aa (Ad F Aa).q fun a w F W => ?_
     refine ls F W Aa (CT F Aa Aa Aa).q fun a w F W => ?_
     refine ls F W Aa (Ag F Aa).q fun a w F W => ?_
     refine Ae (Ab ?_)
     exact ⟨_, H, F.re ⟨rfl, Aa, Aa, Aa, Aa, Aa, Aa, trivial⟩, W⟩
    have H := A6 (BK hb) H
    rw [hb] at F
    clear hb
    refine BF ?_
    iterate 2 refine Cf ?_
    refine BI (Ab ?_)
    have H := L10 _ H
    exact ⟨_, H, F.re ⟨rfl, Aa, Aa, Aa, Aa, trivial⟩, W⟩
   rintro a w ⟨x18, hj, F, W⟩
   have hj := Bg hj
   subst hj
   have H := K9
   clear G9 K9
   refine AN (AY ?_)
   have H := L6 _ H
   have H := Bg H
   subst H
   refine Fp (.inl Aa) F Aa ?_
   exact ⟨(), Aa, W⟩
  have H := A6 (BK hb) H
  rw [hb] at F
  clear hb
  refine As (Ab ?_)
  exact ⟨H, F.re ⟨rfl, Aa, Aa, Aa, Aa, trivial⟩, W⟩
 rintro a w ⟨hj, F, W⟩
 have H := K6 _ hj
 clear hj G6 K6 L6
 refine Ai (Ac ?_)
 iterate 2 refine ls F W Aa (Ad F Aa).q fun a w F W => ?_
 refine ls F W Aa (BE F Aa Aa Aa).q fun a w F W => ?_
 refine ls F W Aa (Ej I1 Hz F Aa).q fun a w F W => ?_
 refine ls F W Aa (In F Aa Aa (by decide)).q fun a w F W => ?_
 refine ls F W Aa (Ej Hz I1 F Aa).q fun a w F W => ?_
 refine ls F W Aa (Ag F Aa).q fun a w F W => ?_
 refine Ae (Ab (Ai (Ac ?_)))
 iterate 2 refine ls F W Aa (Ad F Aa).q fun a w F W => ?_
 refine ls F W Aa (BE F Aa Aa Aa).q fun a w F W => ?_
 refine ls F W Aa (Ag F Aa).q fun a w F W => ?_
 refine Ae (Ab (Ai (Ac ?_)))
 iterate 2 refine ls F W Aa (Ag F Aa).q fun a w F W => ?_
 refine Ae (Ab ?_)
 obtain ⟨o11, G11, K11⟩ := Al H
 refine AO (fun a w => ∃ x25 : Int, ∃ x26 : Int, some ((x25, x26)) = some o11 ∧ Fr 220 [] [(0, v1), (1, .int .i64 p1), (2, .int .i64 p2), (3, .int .i64 p3), (4, .func (.func 29) #[] #[]), (18, .int .i64 (Ay (BU .u64 (IntKind.u64.wrap (Ay (p1 + p3))) 1))), (19, .int .i64 (Ay ((Ay (BU .u64 (IntKind.u64.wrap (Ay (p1 + p3))) 1)) + p2))), (20, .int .i64 x25), (21, .int .i64 x26)] a ∧ Stw ⟨Y, X, w0⟩ [] [row v1 51 AB p0] w) ?_ ?_
 ·
  have H := G11
  clear G11 K11
  refine Ai (Ac ?_)
  iterate 2 refine ls F W Aa (Ad F Aa).q fun a w F W => ?_
  refine ls F W Aa (DP F Aa Aa).q fun a w F W => ?_
  refine Ae (Ab ?_)
  refine AC F Aa (fun hb => ?_) fun hb => ?_
  ·
   have H := A5 (BJ hb) H
   rw [hb] at F
   clear hb
   refine Ai (Ac ?_)
   iterate 2 refine ls F W Aa (Ad F Aa).q fun a w F W => ?_
   refine ls F W Aa (CT F Aa Aa Aa).q fun a w F W => ?_
   refine ls F W Aa (Ag F Aa).q fun a w F W => ?_
   refine Ae (Ab (Ac ?_))
   refine ls F W Aa (Ad F Aa).q fun a w F W => ?_
   refine ls F W Aa (Ag F Aa).q fun a w F W => ?_
   refine Ae (Ab ?_)
   exact ⟨_, _, H, F.re ⟨rfl, Aa, Aa, Aa, Aa, Aa, Aa, Aa, Aa, trivial⟩, W⟩
  have H := A6 (BK hb) H
  rw [hb] at F
  clear hb
  refine Ai (Ac ?_)
  refine ls F W Aa (Ad F Aa).q fun a w F W => ?_
  refine ls F W Aa (Ag F Aa).q fun a w F W => ?_
  refine Ae (Ab (Ac ?_))
  refine ls F W Aa (Ad F Aa).q fun a w F W => ?_
  refine ls F W Aa (Ag F Aa).q fun a w F W => ?_
  refine Ae (Ab ?_)
  exact ⟨_, _, H, F.re ⟨rfl, Aa, Aa, Aa, Aa, Aa, Aa, Aa, Aa, trivial⟩, W⟩
 rintro a w ⟨x25, x26, hj, F, W⟩
 have hj := Bg hj
 subst hj
 have H := K11
 clear G11 K11
 refine Ai (Ac ?_)
 refine ls F W Aa (Ad F Aa).q fun a w F W => ?_
 refine ls F W Aa (CT F Aa Aa Aa).q fun a w F W => ?_
 refine ls F W Aa (Ag F Aa).q fun a w F W => ?_
 refine Ae (Ab ?_)
 obtain ⟨o12, G12, K12⟩ := Al H
 refine AO (fun a w => ∃ x27 : Int, some (x27) = some o12 ∧ Fr 220 [] [(0, v1), (1, .int .i64 p1), (2, .int .i64 p2), (3, .int .i64 p3), (4, .func (.func 29) #[] #[]), (18, .int .i64 (Ay (BU .u64 (IntKind.u64.wrap (Ay (p1 + p3))) 1))), (19, .int .i64 (Ay ((Ay (BU .u64 (IntKind.u64.wrap (Ay (p1 + p3))) 1)) + p2))), (20, .int .i64 x27)] a ∧ Stw ⟨Y, X, w0⟩ [] [row v1 51 AB p0] w) ?_ ?_
 ·
  have H := G12
  clear G12 K12
  refine AA ?_
  refine BG H (fun s a w => Fr 220 [] [(0, v1), (1, .int .i64 p1), (2, .int .i64 p2), (3, .int .i64 p3), (4, .func (.func 29) #[] #[]), (18, .int .i64 (Ay (BU .u64 (IntKind.u64.wrap (Ay (p1 + p3))) 1))), (19, .int .i64 (Ay ((Ay (BU .u64 (IntKind.u64.wrap (Ay (p1 + p3))) 1)) + p2))), (20, .int .i64 s.1), (21, .int .i64 s.2), (22, .int .i64 (Ay ((Ay ((Ay (BU .u64 (IntKind.u64.wrap (Ay (p1 + p3))) 1)) + p2)) - 1)))] a ∧ Stw ⟨Y, X, w0⟩ [] [row v1 51 AB p0] w) ⟨F.re ⟨rfl, Aa, Aa, Aa, Aa, Aa, Aa, Aa, Aa, Aa, trivial⟩, W⟩ fun s o a w H L13 hR => ?_
  obtain ⟨x28, x29⟩ := s
  obtain ⟨F, W⟩ := hR
  have F : Fr 220 [] [(0, v1), (1, .int .i64 p1), (2, .int .i64 p2), (3, .int .i64 p3), (4, .func (.func 29) #[] #[]), (18, .int .i64 (Ay (BU .u64 (IntKind.u64.wrap (Ay (p1 + p3))) 1))), (19, .int .i64 (Ay ((Ay (BU .u64 (IntKind.u64.wrap (Ay (p1 + p3))) 1)) + p2))), (20, .int .i64 x28), (21, .int .i64 x29), (22, .int .i64 (Ay ((Ay ((Ay (BU .u64 (IntKind.u64.wrap (Ay (p1 + p3))) 1)) + p2)) - 1)))] a := F
  have W : Stw ⟨Y, X, w0⟩ [] [row v1 51 AB p0] w := W
  rw [A8] at H
  refine Ai (Ai (Ac ?_))
  iterate 2 refine ls F W Aa (Ad F Aa).q fun a w F W => ?_
  refine ls F W Aa (Bm F Aa Aa).q fun a w F W => ?_
  refine Ae (Ab ?_)
  refine AC F Aa (fun hb => ?_) fun hb => ?_
  ·
   have H := A5 (BJ hb) H
   rw [hb] at F
   clear hb
   refine As (Ab (AA (Ai (Ac ?_))))
   iterate 2 refine ls F W Aa (Ad F Aa).q fun a w F W => ?_
   refine ls F W Aa (BE F Aa Aa Aa).q fun a w F W => ?_
   refine ls F W Aa (Ej I1 Hz F Aa).q fun a w F W => ?_
   refine ls F W Aa (In F Aa Aa (by decide)).q fun a w F W => ?_
   refine ls F W Aa (Ej Hz I1 F Aa).q fun a w F W => ?_
   refine ls F W Aa (Ag F Aa).q fun a w F W => ?_
   refine Ae (Ab (Ai ?_))
   refine CB W MO (by kernel_rfl) ?_
   iterate 4 refine qs F Aa (Ad F Aa).q fun a F => ?_
   refine qs F Aa (CT F Aa Aa Aa).q fun a F => ?_
   obtain ⟨x30, h13, H⟩ := Al H
   refine qs F Aa (AW (r := AB) Ea F Aa Aa (Aw 0 Aa) h13).q fun a F => ?_
   refine qs F Aa (Av (y := Value.agg #[.int .i64 x30.1, .int .i64 x30.2.1, .int .i64 x30.2.2.1, .int .i64 x30.2.2.2.1.1, .int .i64 x30.2.2.2.1.2.1, .int .i64 x30.2.2.2.1.2.2.1, .int .i64 x30.2.2.2.1.2.2.2, .int .i64 x30.2.2.2.2.1, .int .i64 x30.2.2.2.2.2]) (j := 0) (i := Ay ((Ay ((Ay ((Ay (BU .u64 (IntKind.u64.wrap (Ay (p1 + p3))) 1)) + p2)) - 1)) - (Ay (BU .u64 (IntKind.u64.wrap (Ay (x28 + x29))) 1)))) F Aa Aa (Aw 0 Aa) h13 EM.to Dk Aa).q fun a F => ?_
   iterate 2 refine qs F Aa (Ad F Aa).q fun a F => ?_
   obtain ⟨x31, h14, H⟩ := Al H
   refine qs F Aa (AW (r := AB) Ea F Aa Aa (Aw 0 Aa) h14).q fun a F => ?_
   refine qs F Aa (Av (y := Value.agg #[.int .i64 x31.1, .int .i64 x31.2.1, .int .i64 x31.2.2.1, .int .i64 x31.2.2.2.1.1, .int .i64 x31.2.2.2.1.2.1, .int .i64 x31.2.2.2.1.2.2.1, .int .i64 x31.2.2.2.1.2.2.2, .int .i64 x31.2.2.2.2.1, .int .i64 x31.2.2.2.2.2]) (j := 0) (i := Ay (BU .u64 (IntKind.u64.wrap (Ay (x28 + x29))) 1)) F Aa Aa (Aw 0 Aa) h14 EM.to Dk Aa).q fun a F => ?_
   refine qs F Aa (E7 (ws := (Im x30 x31)) (v := Value.int .i64 (BC x30 x31)) F KE Aa (fun w W => Da any w x30 x31 _ Aa)) fun a F => ?_
   refine qs F Aa (Bm F Aa Aa).q fun a F => ?_
   refine qs F Aa (Fc F Aa).q fun a F => ?_
   refine BL fun w W => ?_
   refine Ab ?_
   refine AC F Aa (fun hb => ?_) fun hb => ?_
   ·
    have H := A5 hb H
    rw [hb] at F
    clear hb
    refine Ac ?_
    refine ls F W Aa (Ad F Aa).q fun a w F W => ?_
    refine ls F W Aa (BE F Aa Aa Aa).q fun a w F W => ?_
    refine ls F W Aa (Ag F Aa).q fun a w F W => ?_
    refine Ae (AZ (Ab ?_))
    exact ⟨_, H, F.re ⟨rfl, Aa, Aa, Aa, Aa, Aa, Aa, Aa, Aa, Aa, trivial⟩, W⟩
   have H := A6 (by rw [hb]; decide) H
   rw [hb] at F
   clear hb
   refine Ac ?_
   refine ls F W Aa (Ad F Aa).q fun a w F W => ?_
   refine ls F W Aa (Ag F Aa).q fun a w F W => ?_
   refine Ae (AZ (Ab ?_))
   exact ⟨_, H, F.re ⟨rfl, Aa, Aa, Aa, Aa, Aa, Aa, Aa, Aa, Aa, trivial⟩, W⟩
  have H := A6 (BK hb) H
  rw [hb] at F
  clear hb
  refine BF ?_
  iterate 2 refine Cf ?_
  refine BI (Ab ?_)
  have H := L13 _ H
  exact ⟨_, H, F.re ⟨rfl, Aa, Aa, Aa, Aa, Aa, Aa, Aa, trivial⟩, W⟩
 rintro a w ⟨x27, hj, F, W⟩
 have hj := Bg hj
 subst hj
 have H := K12
 clear G12 K12
 refine Ai (Ac ?_)
 iterate 2 refine ls F W Aa (Ad F Aa).q fun a w F W => ?_
 refine ls F W Aa (CT F Aa Aa Aa).q fun a w F W => ?_
 refine ls F W Aa (Ag F Aa).q fun a w F W => ?_
 refine Ae (Ab ?_)
 obtain ⟨o14, G14, K14⟩ := Al H
 refine AO (fun a w => ∃ x32 : List (Int × Int × Int × (Int × Int × Int × Int) × Int × Int), some (x32) = some o14 ∧ Fr 220 [] [(0, v1), (1, .int .i64 p1), (3, .int .i64 p3), (4, .func (.func 29) #[] #[]), (18, .int .i64 (Ay (BU .u64 (IntKind.u64.wrap (Ay (p1 + p3))) 1))), (20, .int .i64 x27), (24, .int .i64 (Ay ((Ay ((Ay (BU .u64 (IntKind.u64.wrap (Ay (p1 + p3))) 1)) + p2)) - x27)))] a ∧ Stw ⟨Y, X, w0⟩ [] [row v1 51 AB x32] w) ?_ ?_
 ·
  have H := G14
  clear G14 K14
  refine AO (fun a w => Fr 220 [] [(0, v1), (1, .int .i64 p1), (2, .int .i64 p2), (3, .int .i64 p3), (4, .func (.func 29) #[] #[]), (18, .int .i64 (Ay (BU .u64 (IntKind.u64.wrap (Ay (p1 + p3))) 1))), (20, .int .i64 x27), (24, .int .i64 (Ay ((Ay ((Ay (BU .u64 (IntKind.u64.wrap (Ay (p1 + p3))) 1)) + p2)) - x27))), (185, .bool (decide (x27 < p2) && decide (p2 < (Ay ((Ay ((Ay (BU .u64 (IntKind.u64.wrap (Ay (p1 + p3))) 1)) + p2)) - x27)))))] a ∧ Stw ⟨Y, X, w0⟩ [] [row v1 51 AB p0] w) ?_ ?_
  ·
   refine Ac ?_
   iterate 2 refine ls F W Aa (Ad F Aa).q fun a w F W => ?_
   refine ls F W Aa (Bm F Aa Aa).q fun a w F W => ?_
   refine ls F W Aa (Ad F Aa).q fun a w F W => ?_
   rcases Bool.eq_false_or_eq_true (decide (x27 < p2)) with hb0 | hb0
   ·
    rw [hb0] at F
    iterate 2 refine Ax F W (Af F Aa Aa Aa Aa) Aa (Aj Aa) (Ad F Aa).q fun a w F W => ?_
    refine Ax F W (Af F Aa Aa Aa Aa) Aa (Aj Aa) (Bm F Aa Aa).q fun a w F W => ?_
    refine ls F W Aa (Am F Aa Aa Aa).q fun a w F W => ?_
    refine Ae (Ab ?_)
    exact ⟨F.re ⟨rfl, Aa, Aa, Aa, Aa, Aa, Aa, Aa, (Ev (by try rw [hb0]; all_goals simp only [Ez])), trivial⟩, W⟩
   rw [hb0] at F
   iterate 3 refine B7 F Aa Aa Aa Aa Aa Aa Aa fun a F => ?_
   refine ls F W Aa (Ak F Aa Aa Aa).q fun a w F W => ?_
   refine Ae (Ab ?_)
   exact ⟨F.re ⟨rfl, Aa, Aa, Aa, Aa, Aa, Aa, Aa, (Ev (by try rw [hb0]; all_goals simp only [Ez])), trivial⟩, W⟩
  rintro a w ⟨F, W⟩
  refine AC F Aa (fun hb => ?_) fun hb => ?_
  ·
   have H := A5 hb H
   rw [hb] at F
   clear hb
   refine Ac ?_
   iterate 5 refine ls F W Aa (Ad F Aa).q fun a w F W => ?_
   obtain ⟨x33, h15, H⟩ := Al H
   refine BT (Ml := []) (Zl := [row v1 51 AB p0]) (M := []) (Z := []) (β := Unit) (rv := fun x => .tuple #[]) (MM := fun x => []) (ZZ := fun x => [row v1 51 AB x33]) F W Mx Aa Aa (fun hL => DD _ _ w (v1) p0 x27 p2 (Ay ((Ay ((Ay (BU .u64 (IntKind.u64.wrap (Ay (p1 + p3))) 1)) + p2)) - x27)) _ h15 hL) fun x a w F W => ?_
   have W : Stw ⟨Y, X, w0⟩ [] [row v1 51 AB x33] w := W
   refine Ae (Ab ?_)
   exact ⟨_, H, F.re ⟨rfl, Aa, Aa, Aa, Aa, Aa, Aa, trivial⟩, W⟩
  have H := A6 (by rw [hb]; decide) H
  rw [hb] at F
  clear hb
  refine As (Ab ?_)
  exact ⟨_, H, F.re ⟨rfl, Aa, Aa, Aa, Aa, Aa, Aa, trivial⟩, W⟩
 rintro a w ⟨x32, hj, F, W⟩
 have hj := Bg hj
 subst hj
 have H := K14
 clear G14 K14
 obtain ⟨o15, G15, K15⟩ := Al H
 refine AO (fun a w => ∃ x34 : List (Int × Int × Int × (Int × Int × Int × Int) × Int × Int), some (x34) = some o15 ∧ Fr 220 [] [(0, v1), (3, .int .i64 p3), (4, .func (.func 29) #[] #[]), (18, .int .i64 (Ay (BU .u64 (IntKind.u64.wrap (Ay (p1 + p3))) 1))), (24, .int .i64 (Ay ((Ay ((Ay (BU .u64 (IntKind.u64.wrap (Ay (p1 + p3))) 1)) + p2)) - x27)))] a ∧ Stw ⟨Y, X, w0⟩ [] [row v1 51 AB x34] w) ?_ ?_
 ·
  have H := G15
  clear G15 K15
  refine AO (fun a w => Fr 220 [] [(0, v1), (1, .int .i64 p1), (3, .int .i64 p3), (4, .func (.func 29) #[] #[]), (18, .int .i64 (Ay (BU .u64 (IntKind.u64.wrap (Ay (p1 + p3))) 1))), (20, .int .i64 x27), (24, .int .i64 (Ay ((Ay ((Ay (BU .u64 (IntKind.u64.wrap (Ay (p1 + p3))) 1)) + p2)) - x27))), (199, .bool (decide (p1 < x27) && decide (x27 < (Ay (BU .u64 (IntKind.u64.wrap (Ay (p1 + p3))) 1)))))] a ∧ Stw ⟨Y, X, w0⟩ [] [row v1 51 AB x32] w) ?_ ?_
  ·
   refine Ac ?_
   iterate 2 refine ls F W Aa (Ad F Aa).q fun a w F W => ?_
   refine ls F W Aa (Bm F Aa Aa).q fun a w F W => ?_
   refine ls F W Aa (Ad F Aa).q fun a w F W => ?_
   rcases Bool.eq_false_or_eq_true (decide (p1 < x27)) with hb0 | hb0
   ·
    rw [hb0] at F
    iterate 2 refine Ax F W (Af F Aa Aa Aa Aa) Aa (Aj Aa) (Ad F Aa).q fun a w F W => ?_
    refine Ax F W (Af F Aa Aa Aa Aa) Aa (Aj Aa) (Bm F Aa Aa).q fun a w F W => ?_
    refine ls F W Aa (Am F Aa Aa Aa).q fun a w F W => ?_
    refine Ae (Ab ?_)
    exact ⟨F.re ⟨rfl, Aa, Aa, Aa, Aa, Aa, Aa, (Ev (by try rw [hb0]; all_goals simp only [Ez])), trivial⟩, W⟩
   rw [hb0] at F
   iterate 3 refine B7 F Aa Aa Aa Aa Aa Aa Aa fun a F => ?_
   refine ls F W Aa (Ak F Aa Aa Aa).q fun a w F W => ?_
   refine Ae (Ab ?_)
   exact ⟨F.re ⟨rfl, Aa, Aa, Aa, Aa, Aa, Aa, (Ev (by try rw [hb0]; all_goals simp only [Ez])), trivial⟩, W⟩
  rintro a w ⟨F, W⟩
  refine AC F Aa (fun hb => ?_) fun hb => ?_
  ·
   have H := A5 hb H
   rw [hb] at F
   clear hb
   refine Ac ?_
   iterate 5 refine ls F W Aa (Ad F Aa).q fun a w F W => ?_
   obtain ⟨x35, h16, H⟩ := Al H
   refine BT (Ml := []) (Zl := [row v1 51 AB x32]) (M := []) (Z := []) (β := Unit) (rv := fun x => .tuple #[]) (MM := fun x => []) (ZZ := fun x => [row v1 51 AB x35]) F W Lc Aa Aa (fun hL => ih _ _ w (v1) x32 p1 x27 (Ay (BU .u64 (IntKind.u64.wrap (Ay (p1 + p3))) 1)) _ h16 hL) fun x a w F W => ?_
   have W : Stw ⟨Y, X, w0⟩ [] [row v1 51 AB x35] w := W
   refine Ae (Ab ?_)
   exact ⟨_, H, F.re ⟨rfl, Aa, Aa, Aa, Aa, trivial⟩, W⟩
  have H := A6 (by rw [hb]; decide) H
  rw [hb] at F
  clear hb
  refine As (Ab ?_)
  exact ⟨_, H, F.re ⟨rfl, Aa, Aa, Aa, Aa, trivial⟩, W⟩
 rintro a w ⟨x34, hj, F, W⟩
 have hj := Bg hj
 subst hj
 have H := K15
 clear G15 K15
 refine AO (fun a w => Fr 220 [] [(0, v1), (3, .int .i64 p3), (4, .func (.func 29) #[] #[]), (18, .int .i64 (Ay (BU .u64 (IntKind.u64.wrap (Ay (p1 + p3))) 1))), (24, .int .i64 (Ay ((Ay ((Ay (BU .u64 (IntKind.u64.wrap (Ay (p1 + p3))) 1)) + p2)) - x27))), (213, .bool (decide ((Ay (BU .u64 (IntKind.u64.wrap (Ay (p1 + p3))) 1)) < (Ay ((Ay ((Ay (BU .u64 (IntKind.u64.wrap (Ay (p1 + p3))) 1)) + p2)) - x27))) && decide ((Ay ((Ay ((Ay (BU .u64 (IntKind.u64.wrap (Ay (p1 + p3))) 1)) + p2)) - x27)) < p3)))] a ∧ Stw ⟨Y, X, w0⟩ [] [row v1 51 AB x34] w) ?_ ?_
 ·
  refine Ac ?_
  iterate 2 refine ls F W Aa (Ad F Aa).q fun a w F W => ?_
  refine ls F W Aa (Bm F Aa Aa).q fun a w F W => ?_
  refine ls F W Aa (Ad F Aa).q fun a w F W => ?_
  rcases Bool.eq_false_or_eq_true (decide ((Ay (BU .u64 (IntKind.u64.wrap (Ay (p1 + p3))) 1)) < (Ay ((Ay ((Ay (BU .u64 (IntKind.u64.wrap (Ay (p1 + p3))) 1)) + p2)) - x27)))) with hb0 | hb0
  ·
   rw [hb0] at F
   iterate 2 refine Ax F W (Af F Aa Aa Aa Aa) Aa (Aj Aa) (Ad F Aa).q fun a w F W => ?_
   refine Ax F W (Af F Aa Aa Aa Aa) Aa (Aj Aa) (Bm F Aa Aa).q fun a w F W => ?_
   refine ls F W Aa (Am F Aa Aa Aa).q fun a w F W => ?_
   refine Ae (Ab ?_)
   exact ⟨F.re ⟨rfl, Aa, Aa, Aa, Aa, (Ev (by try rw [hb0]; all_goals simp only [Ez])), trivial⟩, W⟩
  rw [hb0] at F
  iterate 3 refine B7 F Aa Aa Aa Aa Aa Aa Aa fun a F => ?_
  refine ls F W Aa (Ak F Aa Aa Aa).q fun a w F W => ?_
  refine Ae (Ab ?_)
  exact ⟨F.re ⟨rfl, Aa, Aa, Aa, Aa, (Ev (by try rw [hb0]; all_goals simp only [Ez])), trivial⟩, W⟩
 rintro a w ⟨F, W⟩
 refine AC F Aa (fun hb => ?_) fun hb => ?_
 ·
  have H := A5 hb H
  rw [hb] at F
  clear hb
  refine Ac ?_
  iterate 5 refine ls F W Aa (Ad F Aa).q fun a w F W => ?_
  obtain ⟨x36, h17, H⟩ := Al H
  refine BT (Ml := []) (Zl := [row v1 51 AB x34]) (M := []) (Z := []) (β := Unit) (rv := fun x => .tuple #[]) (MM := fun x => []) (ZZ := fun x => [row v1 51 AB x36]) F W Lc Aa Aa (fun hL => ih _ _ w (v1) x34 (Ay (BU .u64 (IntKind.u64.wrap (Ay (p1 + p3))) 1)) (Ay ((Ay ((Ay (BU .u64 (IntKind.u64.wrap (Ay (p1 + p3))) 1)) + p2)) - x27)) p3 _ h17 hL) fun x a w F W => ?_
  have W : Stw ⟨Y, X, w0⟩ [] [row v1 51 AB x36] w := W
  refine Ae ?_
  have H := Bg H
  subst H
  refine Fp (.inr Aa) F Aa ?_
  exact ⟨(), Aa, W⟩
 have H := A6 (by rw [hb]; decide) H
 rw [hb] at F
 clear hb
 refine As ?_
 have H := Bg H
 subst H
 refine Fp (.inr Aa) F Aa ?_
 exact ⟨(), Aa, W⟩
theorem Di : ∀ (n : Nat) (Y : Nat → Prop) (X : List Nat) (w0 : World) (v1 : Value) (p0 : List (Int × Int × Int × (Int × Int × Int × Int) × Int × Int)) (p1 : Int) (p2 : Int) (p3 : Int) (r : (List (Int × Int × Int × (Int × Int × Int × Int) × Int × Int))) (H : Au n p0 p1 p2 p3 = some r) (hL : Stw ⟨Y, X, w0⟩ [] [row v1 51 AB p0] w0), Calls Try.prog 44 #[v1, .int .i64 p1, .int .i64 p2, .int .i64 p3, .func (.func 29) #[] #[]] w0 fun e w' => ∃ x : Unit, e = .returned (.tuple #[]) ∧ Stw ⟨Y, X, w0⟩ [] [row v1 51 AB r] w' := by
  intro n
  induction n with
  | zero => intro Y X w0 v1 p0 p1 p2 p3 r H; exact nomatch H
  | succ n ih => intro Y X w0 v1 p0 p1 p2 p3 r H hL; exact Dc (Au n) ih Y X w0 v1 p0 p1 p2 p3 r H hL
theorem Cr (Y : Nat → Prop) (X : List Nat) (w0 : World) (v1 : Value) (p0 : List (Int × Int × Int × (Int × Int × Int × Int) × Int × Int)) (p1 : Int) (p2 : Int) (p3 : Int) (r : (List (Int × Int × Int × (Int × Int × Int × Int) × Int × Int))) (H : A4 p0 p1 p2 p3 = some r) (hL : Stw ⟨Y, X, w0⟩ [] [row v1 51 AB p0] w0) :
    Calls Try.prog 44 #[v1, .int .i64 p1, .int .i64 p2, .int .i64 p3, .func (.func 29) #[] #[]] w0 fun e w' => ∃ x : Unit, e = .returned (.tuple #[]) ∧ Stw ⟨Y, X, w0⟩ [] [row v1 51 AB r] w' := by
  obtain ⟨n, H⟩ := IK H
  exact Di n Y X w0 v1 p0 p1 p2 p3 r H hL
noncomputable def AP (p1 : Int) : ((List (Int × Int × Int × (Int × Int × Int × Int) × Int × Int)) × Int × Int) → Option (((List (Int × Int × Int × (Int × Int × Int × Int) × Int × Int)) × Int × Int) ⊕ ((List (Int × Int × Int × (Int × Int × Int × Int) × Int × Int)) × Int))
  | (x3, x4, x5) => (if x5 ≤ p1 then (AS x3 x4 x5).bind fun x6 => some (.inl (x6, x5, Ay (x5 + 20))) else some (.inr (x3, x4)))
noncomputable def AQ (p1 : Int) (x9 : Int) : ((List (Int × Int × Int × (Int × Int × Int × Int) × Int × Int)) × Int × Int) → Option (((List (Int × Int × Int × (Int × Int × Int × Int) × Int × Int)) × Int × Int) ⊕ ((List (Int × Int × Int × (Int × Int × Int × Int) × Int × Int)) × Int))
  | (x12, x13, x14) => (if x14 ≤ p1 then (A4 x12 x13 (Ay (x13 + x9)) x14).bind fun x15 => some (.inl (x15, x14, Ay (x14 + (Ay (2 * x9))))) else some (.inr (x12, x13)))
noncomputable def A0 (p1 : Int) : ((List (Int × Int × Int × (Int × Int × Int × Int) × Int × Int)) × Int) → Option (((List (Int × Int × Int × (Int × Int × Int × Int) × Int × Int)) × Int) ⊕ (List (Int × Int × Int × (Int × Int × Int × Int) × Int × Int)))
  | (x8, x9) => (if x9 < p1 then (AM (AQ p1 x9) (x8, 0, Ay (2 * x9))).bind fun (x10, x11) => (if (Ay (x11 + x9)) < p1 then (A4 x10 x11 (Ay (x11 + x9)) p1).bind fun x17 => some x17 else some x10).bind fun x16 => some (.inl (x16, Ay (x9 * 2))) else some (.inr x8))
noncomputable def BB (p0 : List (Int × Int × Int × (Int × Int × Int × Int) × Int × Int)) (p1 : Int) : Option (List (Int × Int × Int × (Int × Int × Int × Int) × Int × Int)) := (AM (AP p1) (p0, 0, 20)).bind fun (x1, x2) => (AS x1 x2 p1).bind fun x7 => AM (A0 p1) (x7, 20)
theorem DC (Y : Nat → Prop) (X : List Nat) (w0 : World) (v1 : Value) (p0 : List (Int × Int × Int × (Int × Int × Int × Int) × Int × Int)) (p1 : Int) (r : (List (Int × Int × Int × (Int × Int × Int × Int) × Int × Int))) (H : BB p0 p1 = some r) (hL : Stw ⟨Y, X, w0⟩ [] [row v1 51 AB p0] w0) :
    Calls Try.prog 40 #[v1, .int .i64 p1, .func (.func 29) #[] #[]] w0 fun e w' => ∃ x : Unit, e = .returned (.tuple #[]) ∧ Stw ⟨Y, X, w0⟩ [] [row v1 51 AB r] w' := by
 refine enter Try.func40 Aa Try.ntmps40 Aa fun a F => ?_
 have W := hL
 unfold BB at H
 refine Ai (Ac ?_)
 refine ls F W Aa (Ag F Aa).q fun a w F W => ?_
 refine Ae (Ab (Ai (Ac ?_)))
 refine ls F W Aa (Ad F Aa).q fun a w F W => ?_
 iterate 2 refine ls F W Aa (Ag F Aa).q fun a w F W => ?_
 refine Ae (Ab ?_)
 obtain ⟨o1, G1, K1⟩ := Al H
 refine AO (fun a w => ∃ x1 : List (Int × Int × Int × (Int × Int × Int × Int) × Int × Int), ∃ x2 : Int, some ((x1, x2)) = some o1 ∧ Fr 63 [] [(0, v1), (1, .int .i64 p1), (2, .func (.func 29) #[] #[]), (6, .int .i64 20), (7, .int .i64 x2)] a ∧ Stw ⟨Y, X, w0⟩ [] [row v1 51 AB x1] w) ?_ ?_
 ·
  have H := G1
  clear G1 K1
  refine AA ?_
  refine BG H (fun s a w => Fr 63 [] [(0, v1), (1, .int .i64 p1), (2, .func (.func 29) #[] #[]), (6, .int .i64 20), (7, .int .i64 s.2.1), (8, .int .i64 s.2.2)] a ∧ Stw ⟨Y, X, w0⟩ [] [row v1 51 AB s.1] w) ⟨F.re ⟨rfl, Aa, Aa, Aa, Aa, Aa, trivial⟩, W⟩ fun s o a w H L2 hR => ?_
  obtain ⟨x3, x4, x5⟩ := s
  obtain ⟨F, W⟩ := hR
  have F : Fr 63 [] [(0, v1), (1, .int .i64 p1), (2, .func (.func 29) #[] #[]), (6, .int .i64 20), (7, .int .i64 x4), (8, .int .i64 x5)] a := F
  have W : Stw ⟨Y, X, w0⟩ [] [row v1 51 AB x3] w := W
  rw [AP] at H
  refine Ai (Ai (Ac ?_))
  iterate 2 refine ls F W Aa (Ad F Aa).q fun a w F W => ?_
  refine ls F W Aa (HD F Aa Aa).q fun a w F W => ?_
  refine Ae (Ab ?_)
  refine AC F Aa (fun hb => ?_) fun hb => ?_
  ·
   have H := A5 (BJ hb) H
   rw [hb] at F
   clear hb
   refine As (Ab (AA (Ai (Ac ?_))))
   iterate 4 refine ls F W Aa (Ad F Aa).q fun a w F W => ?_
   obtain ⟨x6, h1, H⟩ := Al H
   refine BT (Ml := []) (Zl := [row v1 51 AB x3]) (M := []) (Z := []) (β := Unit) (rv := fun x => .tuple #[]) (MM := fun x => []) (ZZ := fun x => [row v1 51 AB x6]) F W LK Aa Aa (fun hL => Ci _ _ w (v1) x3 x4 x5 _ h1 hL) fun x a w F W => ?_
   have W : Stw ⟨Y, X, w0⟩ [] [row v1 51 AB x6] w := W
   refine Ae (Ab (Ai (Ac ?_)))
   refine ls F W Aa (Ad F Aa).q fun a w F W => ?_
   refine ls F W Aa (Ag F Aa).q fun a w F W => ?_
   refine Ae (Ab (Ac ?_))
   iterate 2 refine ls F W Aa (Ad F Aa).q fun a w F W => ?_
   refine ls F W Aa (BE F Aa Aa Aa).q fun a w F W => ?_
   refine ls F W Aa (Ag F Aa).q fun a w F W => ?_
   refine Ae (AZ (Ab ?_))
   exact ⟨_, H, F.re ⟨rfl, Aa, Aa, Aa, Aa, Aa, trivial⟩, W⟩
  have H := A6 (BK hb) H
  rw [hb] at F
  clear hb
  refine BF ?_
  iterate 2 refine Cf ?_
  refine BI (Ab ?_)
  have H := L2 _ H
  exact ⟨_, _, H, F.re ⟨rfl, Aa, Aa, Aa, Aa, trivial⟩, W⟩
 rintro a w ⟨x1, x2, hj, F, W⟩
 have hj := Bg hj
 subst hj
 have H := K1
 clear G1 K1
 refine Ai (Ac ?_)
 iterate 4 refine ls F W Aa (Ad F Aa).q fun a w F W => ?_
 obtain ⟨x7, h2, H⟩ := Al H
 refine BT (Ml := []) (Zl := [row v1 51 AB x1]) (M := []) (Z := []) (β := Unit) (rv := fun x => .tuple #[]) (MM := fun x => []) (ZZ := fun x => [row v1 51 AB x7]) F W LK Aa Aa (fun hL => Ci _ _ w (v1) x1 x2 p1 _ h2 hL) fun x a w F W => ?_
 have W : Stw ⟨Y, X, w0⟩ [] [row v1 51 AB x7] w := W
 refine Ae (Ab (AA ?_))
 refine BG H (fun s a w => Fr 63 [] [(0, v1), (1, .int .i64 p1), (2, .func (.func 29) #[] #[]), (6, .int .i64 s.2)] a ∧ Stw ⟨Y, X, w0⟩ [] [row v1 51 AB s.1] w) ⟨F.re ⟨rfl, Aa, Aa, Aa, trivial⟩, W⟩ fun s o a w H L3 hR => ?_
 obtain ⟨x8, x9⟩ := s
 obtain ⟨F, W⟩ := hR
 have F : Fr 63 [] [(0, v1), (1, .int .i64 p1), (2, .func (.func 29) #[] #[]), (6, .int .i64 x9)] a := F
 have W : Stw ⟨Y, X, w0⟩ [] [row v1 51 AB x8] w := W
 rw [A0] at H
 refine Ai (Ai (Ac ?_))
 iterate 2 refine ls F W Aa (Ad F Aa).q fun a w F W => ?_
 refine ls F W Aa (Bm F Aa Aa).q fun a w F W => ?_
 refine Ae (Ab ?_)
 refine AC F Aa (fun hb => ?_) fun hb => ?_
 ·
  have H := A5 (BJ hb) H
  rw [hb] at F
  clear hb
  refine As (Ab (AA (Ai (Ac ?_))))
  refine ls F W Aa (Ad F Aa).q fun a w F W => ?_
  refine ls F W Aa (Jb F Aa Aa Aa).q fun a w F W => ?_
  iterate 2 refine ls F W Aa (Ag F Aa).q fun a w F W => ?_
  refine Ae (Ab ?_)
  obtain ⟨o4, G4, K4⟩ := Al H
  refine AO (fun a w => ∃ x10 : List (Int × Int × Int × (Int × Int × Int × Int) × Int × Int), ∃ x11 : Int, some ((x10, x11)) = some o4 ∧ Fr 63 [] [(0, v1), (1, .int .i64 p1), (2, .func (.func 29) #[] #[]), (6, .int .i64 x9), (7, .int .i64 x11)] a ∧ Stw ⟨Y, X, w0⟩ [] [row v1 51 AB x10] w) ?_ ?_
  ·
   have H := G4
   clear G4 K4
   refine AA ?_
   refine BG H (fun s a w => Fr 63 [] [(0, v1), (1, .int .i64 p1), (2, .func (.func 29) #[] #[]), (6, .int .i64 x9), (7, .int .i64 s.2.1), (8, .int .i64 s.2.2)] a ∧ Stw ⟨Y, X, w0⟩ [] [row v1 51 AB s.1] w) ⟨F.re ⟨rfl, Aa, Aa, Aa, Aa, Aa, trivial⟩, W⟩ fun s o a w H L5 hR => ?_
   obtain ⟨x12, x13, x14⟩ := s
   obtain ⟨F, W⟩ := hR
   have F : Fr 63 [] [(0, v1), (1, .int .i64 p1), (2, .func (.func 29) #[] #[]), (6, .int .i64 x9), (7, .int .i64 x13), (8, .int .i64 x14)] a := F
   have W : Stw ⟨Y, X, w0⟩ [] [row v1 51 AB x12] w := W
   rw [AQ] at H
   refine Ai (Ai (Ac ?_))
   iterate 2 refine ls F W Aa (Ad F Aa).q fun a w F W => ?_
   refine ls F W Aa (HD F Aa Aa).q fun a w F W => ?_
   refine Ae (Ab ?_)
   refine AC F Aa (fun hb => ?_) fun hb => ?_
   ·
    have H := A5 (BJ hb) H
    rw [hb] at F
    clear hb
    refine As (Ab (AA (Ai (Ac ?_))))
    iterate 4 refine ls F W Aa (Ad F Aa).q fun a w F W => ?_
    refine ls F W Aa (BE F Aa Aa Aa).q fun a w F W => ?_
    iterate 2 refine ls F W Aa (Ad F Aa).q fun a w F W => ?_
    obtain ⟨x15, h3, H⟩ := Al H
    refine BT (Ml := []) (Zl := [row v1 51 AB x12]) (M := []) (Z := []) (β := Unit) (rv := fun x => .tuple #[]) (MM := fun x => []) (ZZ := fun x => [row v1 51 AB x15]) F W Lc Aa Aa (fun hL => Cr _ _ w (v1) x12 x13 (Ay (x13 + x9)) x14 _ h3 hL) fun x a w F W => ?_
    have W : Stw ⟨Y, X, w0⟩ [] [row v1 51 AB x15] w := W
    refine Ae (Ab (Ai (Ac ?_)))
    refine ls F W Aa (Ad F Aa).q fun a w F W => ?_
    refine ls F W Aa (Ag F Aa).q fun a w F W => ?_
    refine Ae (Ab (Ac ?_))
    iterate 2 refine ls F W Aa (Ad F Aa).q fun a w F W => ?_
    refine ls F W Aa (Jb F Aa Aa Aa).q fun a w F W => ?_
    refine ls F W Aa (BE F Aa Aa Aa).q fun a w F W => ?_
    refine ls F W Aa (Ag F Aa).q fun a w F W => ?_
    refine Ae (AZ (Ab ?_))
    exact ⟨_, H, F.re ⟨rfl, Aa, Aa, Aa, Aa, Aa, trivial⟩, W⟩
   have H := A6 (BK hb) H
   rw [hb] at F
   clear hb
   refine BF ?_
   iterate 2 refine Cf ?_
   refine BI (Ab ?_)
   have H := L5 _ H
   exact ⟨_, _, H, F.re ⟨rfl, Aa, Aa, Aa, Aa, trivial⟩, W⟩
  rintro a w ⟨x10, x11, hj, F, W⟩
  have hj := Bg hj
  subst hj
  have H := K4
  clear G4 K4
  obtain ⟨o6, G6, K6⟩ := Al H
  refine AO (fun a w => ∃ x16 : List (Int × Int × Int × (Int × Int × Int × Int) × Int × Int), some (x16) = some o6 ∧ Fr 63 [] [(0, v1), (1, .int .i64 p1), (2, .func (.func 29) #[] #[]), (6, .int .i64 x9)] a ∧ Stw ⟨Y, X, w0⟩ [] [row v1 51 AB x16] w) ?_ ?_
  ·
   have H := G6
   clear G6 K6
   refine Ai (Ac ?_)
   iterate 2 refine ls F W Aa (Ad F Aa).q fun a w F W => ?_
   refine ls F W Aa (BE F Aa Aa Aa).q fun a w F W => ?_
   refine ls F W Aa (Ag F Aa).q fun a w F W => ?_
   refine Ae (Ab (Ai (Ac ?_)))
   iterate 2 refine ls F W Aa (Ad F Aa).q fun a w F W => ?_
   refine ls F W Aa (Bm F Aa Aa).q fun a w F W => ?_
   refine Ae (Ab ?_)
   refine AC F Aa (fun hb => ?_) fun hb => ?_
   ·
    have H := A5 (BJ hb) H
    rw [hb] at F
    clear hb
    refine Ac ?_
    iterate 5 refine ls F W Aa (Ad F Aa).q fun a w F W => ?_
    obtain ⟨x17, h4, H⟩ := Al H
    refine BT (Ml := []) (Zl := [row v1 51 AB x10]) (M := []) (Z := []) (β := Unit) (rv := fun x => .tuple #[]) (MM := fun x => []) (ZZ := fun x => [row v1 51 AB x17]) F W Lc Aa Aa (fun hL => Cr _ _ w (v1) x10 x11 (Ay (x11 + x9)) p1 _ h4 hL) fun x a w F W => ?_
    have W : Stw ⟨Y, X, w0⟩ [] [row v1 51 AB x17] w := W
    refine Ae (Ab ?_)
    exact ⟨_, H, F.re ⟨rfl, Aa, Aa, Aa, trivial⟩, W⟩
   have H := A6 (BK hb) H
   rw [hb] at F
   clear hb
   refine As (Ab ?_)
   exact ⟨_, H, F.re ⟨rfl, Aa, Aa, Aa, trivial⟩, W⟩
  rintro a w ⟨x16, hj, F, W⟩
  have hj := Bg hj
  subst hj
  have H := K6
  clear G6 K6
  refine Ac ?_
  refine ls F W Aa (Ad F Aa).q fun a w F W => ?_
  refine ls F W Aa (Jb F Aa Aa Aa).q fun a w F W => ?_
  refine ls F W Aa (Ag F Aa).q fun a w F W => ?_
  refine Ae (AZ (Ab ?_))
  exact ⟨_, H, F.re ⟨rfl, Aa, Aa, Aa, trivial⟩, W⟩
 have H := A6 (BK hb) H
 rw [hb] at F
 clear hb
 refine BF ?_
 iterate 2 refine Cf ?_
 refine BI ?_
 have H := L3 _ H
 have H := Bg H
 subst H
 refine Fp (.inr Aa) F Aa ?_
 exact ⟨(), Aa, W⟩
theorem Mu : Has Try.prog 40 := ⟨fun args w => An Try.func40 rfl (by decide) args w⟩
noncomputable def AL (p0 : List (Int × Int × Int × (Int × Int × Int × Int) × Int × Int)) : Option (List (Int × Int × Int × (Int × Int × Int × Int) × Int × Int)) := (BB p0 (p0.length : Int)).bind fun x1 => some x1
theorem CH (Y : Nat → Prop) (X : List Nat) (w0 : World) (v1 : Value) (p0 : List (Int × Int × Int × (Int × Int × Int × Int) × Int × Int)) (r : (List (Int × Int × Int × (Int × Int × Int × Int) × Int × Int))) (H : AL p0 = some r) (hL : Stw ⟨Y, X, w0⟩ [] [row v1 51 AB p0] w0) :
    Calls Try.prog 31 #[v1, .func (.func 29) #[] #[]] w0 fun e w' => ∃ x : Unit, e = .returned (.tuple #[]) ∧ Stw ⟨Y, X, w0⟩ [] [row v1 51 AB r] w' := by
 refine enter Try.func31 Aa Try.ntmps31 Aa fun a F => ?_
 have W := hL
 unfold AL at H
 refine Ac ?_
 iterate 2 refine ls F W Aa (Ad F Aa).q fun a w F W => ?_
 refine ls F W Aa (Cp (r := AB) (l := p0) Gf Aa F Aa (Aw 0 Aa)).q fun a w F W => ?_
 refine ls F W Aa (Ad F Aa).q fun a w F W => ?_
 obtain ⟨x1, h1, H⟩ := Al H
 refine BT (Ml := []) (Zl := [row v1 51 AB p0]) (M := []) (Z := []) (β := Unit) (rv := fun x => .tuple #[]) (MM := fun x => []) (ZZ := fun x => [row v1 51 AB x1]) F W Mu Aa Aa (fun hL => DC _ _ w (v1) p0 (p0.length : Int) _ h1 hL) fun x a w F W => ?_
 have W : Stw ⟨Y, X, w0⟩ [] [row v1 51 AB x1] w := W
 refine Ae ?_
 have H := Bg H
 subst H
 refine Fp (.inr Aa) F Aa ?_
 exact ⟨(), Aa, W⟩
theorem Me : Has Try.prog 31 := ⟨fun args w => An Try.func31 rfl (by decide) args w⟩
abbrev I5 (a0 : Nat) (a1 : Int × Int × Int × (Int × Int × Int × Int) × Int × Int) (a2 : Nat) (a3 : (Int × (List (Int × Int × Int × Int × Int × Int)) × (List (Int × Int))) × (List (Int × Int × Int × (Int × Int × Int × Int) × Int × Int))) (a4 : Value) (a5 : Value) (a6 : Value) : List (Nat × List Value) := [(a0, [.int .i64 a1.1, .int .i64 a1.2.1, .int .i64 a1.2.2.1, .int .i64 a1.2.2.2.1.1, .int .i64 a1.2.2.2.1.2.1, .int .i64 a1.2.2.2.1.2.2.1, .int .i64 a1.2.2.2.1.2.2.2, .int .i64 a1.2.2.2.2.1, .int .i64 a1.2.2.2.2.2]), (a2, [.int .i64 a3.1.1, a4, a5, a6])]
noncomputable def CM (p0 : (Int × (List (Int × Int × Int × Int × Int × Int)) × (List (Int × Int))) × (List (Int × Int × Int × (Int × Int × Int × Int) × Int × Int))) (p1 : Int) : ((List (Int × Int × Int × (Int × Int × Int × Int) × Int × Int)) × (List (Int × Int × Int × (Int × Int × Int × Int) × Int × Int)) × Int) → Option (((List (Int × Int × Int × (Int × Int × Int × Int) × Int × Int)) × (List (Int × Int × Int × (Int × Int × Int × Int) × Int × Int)) × Int) ⊕ ((List (Int × Int × Int × (Int × Int × Int × Int) × Int × Int)) × (List (Int × Int × Int × (Int × Int × Int × Int) × Int × Int))))
  | (x3, x4, x5) => (if x5 < (p0.2.length : Int) then ((ix p0.2 x5).bind fun x8 => (if x8.2.2.2.2.2 ≤ p1 then (app x3 ([x8] : List (Int × Int × Int × (Int × Int × Int × Int) × Int × Int))).bind fun x9 => some (x9, x4) else (app x4 ([x8] : List (Int × Int × Int × (Int × Int × Int × Int) × Int × Int))).bind fun x10 => some (x3, x10))).bind fun (x6, x7) => some (.inl (x6, x7, Ay (x5 + 1))) else some (.inr (x3, x4)))
noncomputable def CX (p0 : (Int × (List (Int × Int × Int × Int × Int × Int)) × (List (Int × Int))) × (List (Int × Int × Int × (Int × Int × Int × Int) × Int × Int))) (p1 : Int) : Option ((List (Int × Int × Int × (Int × Int × Int × Int) × Int × Int)) × ((Int × (List (Int × Int × Int × Int × Int × Int)) × (List (Int × Int))) × (List (Int × Int × Int × (Int × Int × Int × Int) × Int × Int)))) := (AM (CM p0 p1) ([], [], 0)).bind fun (x1, x2) => (AL x1).bind fun x11 => some (x11, (p0.1, x2))
theorem FV (Y : Nat → Prop) (X : List Nat) (w0 : World) (q_p0 : Nat) (v1 : Value) (v2 : Value) (v3 : Value) (p0 : (Int × (List (Int × Int × Int × Int × Int × Int)) × (List (Int × Int))) × (List (Int × Int × Int × (Int × Int × Int × Int) × Int × Int))) (p1 : Int) (r : (List (Int × Int × Int × (Int × Int × Int × Int) × Int × Int)) × ((Int × (List (Int × Int × Int × Int × Int × Int)) × (List (Int × Int))) × (List (Int × Int × Int × (Int × Int × Int × Int) × Int × Int)))) (H : CX p0 p1 = some r) (hL : Stw ⟨Y, X, w0⟩ [(q_p0, [.int .i64 p0.1.1, v1, v2, v3])] [Be v1 Bx p0.1.2.1, Be v2 Cb p0.1.2.2, row v3 51 AB p0.2] w0) :
    Calls Try.prog 15 #[.pointer (some ⟨q_p0, 0, none⟩), .int .i64 p1] w0 fun e w' => ∃ x : Value × Value × Value × Value, e = .returned (x.1) ∧ Stw ⟨Y, X, w0⟩ [(q_p0, [.int .i64 r.2.1.1, x.2.1, x.2.2.1, x.2.2.2])] [Be (x.2.1) Bx r.2.1.2.1, Be (x.2.2.1) Cb r.2.1.2.2, row (x.2.2.2) 51 AB r.2.2, row (x.1) 51 AB r.1] w' := by
 refine enter Try.func15 Aa Try.ntmps15 Aa fun a F => ?_
 have W := hL
 unfold CX at H
 refine Ai (Ac ?_)
 refine ls F W Aa (Ag F Aa).q fun a w F W => ?_
 refine Ae (Ab (Ai (Ai (Ac ?_))))
 refine ls F W Aa (Ad F Aa).q fun a w F W => ?_
 refine ls F W Aa (Dq HT F Aa Aa).q fun a w F W => ?_
 refine Ae (Ab ?_)
 refine EB F Aa ?_
 refine As (Ab (Ai (Ac ?_)))
 iterate 2 refine ls F W Aa (Ag F Aa).q fun a w F W => ?_
 refine Ae (Ab ?_)
 obtain ⟨o1, G1, K1⟩ := Al H
 refine AO (fun a w => ∃ x1 : List (Int × Int × Int × (Int × Int × Int × Int) × Int × Int), ∃ x2 : List (Int × Int × Int × (Int × Int × Int × Int) × Int × Int), ∃ v4 : Value, ∃ v5 : Value, some ((x1, x2)) = some o1 ∧ Fr 40 [] [(0, .pointer (some ⟨q_p0, 0, none⟩)), (4, .slice none 0 0), (5, v4), (6, v5)] a ∧ Stw ⟨Y, X, w0⟩ [(q_p0, [.int .i64 p0.1.1, v1, v2, v3])] [row v4 51 AB x1, row v5 51 AB x2, Be v1 Bx p0.1.2.1, Be v2 Cb p0.1.2.2, row v3 51 AB p0.2] w) ?_ ?_
 ·
  have H := G1
  clear G1 K1
  refine Ai (Ac ?_)
  refine ls F W Aa (Ad F Aa).q fun a w F W => ?_
  refine ls F W Aa (Ca F Aa).q fun a w F W => ?_
  refine ls F W Aa (Ah FM Aa Aa Aa GI F Aa 3 Aa).q fun a w F W => ?_
  refine ls F W Aa (Ao (v := v3) 0 F Aa Aa GI Aa).q fun a w F W => ?_
  refine ls F W Aa (Cp (r := AB) (l := p0.2) Gf Aa F Aa (Aw 2 Aa)).q fun a w F W => ?_
  refine ls F W Aa (Ad F Aa).q fun a w F W => ?_
  refine Ae (Ab (AA ?_))
  have W := W.nilRow 51 AB
  have W := W.nilRow 51 AB
  have W := W.frontZ (i := 3) Aa Aa
  have W := W.frontZ (i := 3) Aa Aa
  have W := W.frontZ (i := 4) Aa Aa
  have W := W.frontZ (i := 3) Aa Aa
  have W := W.frontZ (i := 4) Aa Aa
  refine BG H (fun s a w => ∃ v6 : Value, ∃ v7 : Value, Fr 40 [] [(0, .pointer (some ⟨q_p0, 0, none⟩)), (1, .int .i64 p1), (4, .slice none 0 0), (5, v6), (6, v7), (14, v3), (15, .int .i64 (p0.2.length : Int)), (16, .int .i64 s.2.2)] a ∧ Stw ⟨Y, X, w0⟩ [(q_p0, [.int .i64 p0.1.1, v1, v2, v3])] [row v6 51 AB s.1, row v7 51 AB s.2.1, row v3 51 AB p0.2, Be v1 Bx p0.1.2.1, Be v2 Cb p0.1.2.2] w) ⟨(Value.slice none 0 0), (Value.slice none 0 0), F.re ⟨rfl, Aa, Aa, Aa, Aa, Aa, Aa, Aa, trivial⟩, W⟩ fun s o a w H L2 hR => ?_
  obtain ⟨x3, x4, x5⟩ := s
  obtain ⟨v6, v7, F, W⟩ := hR
  have F : Fr 40 [] [(0, .pointer (some ⟨q_p0, 0, none⟩)), (1, .int .i64 p1), (4, .slice none 0 0), (5, v6), (6, v7), (14, v3), (15, .int .i64 (p0.2.length : Int)), (16, .int .i64 x5)] a := F
  have W : Stw ⟨Y, X, w0⟩ [(q_p0, [.int .i64 p0.1.1, v1, v2, v3])] [row v6 51 AB x3, row v7 51 AB x4, row v3 51 AB p0.2, Be v1 Bx p0.1.2.1, Be v2 Cb p0.1.2.2] w := W
  rw [CM] at H
  refine Ai (Ac ?_)
  refine ls F W Aa (Bm F Aa Aa).q fun a w F W => ?_
  refine Ae (Ab (Ai ?_))
  refine AC F Aa (fun hb => ?_) fun hb => ?_
  ·
   have H := A5 (BJ hb) H
   rw [hb] at F
   clear hb
   refine As (Ab ?_)
   obtain ⟨o3, G3, K3⟩ := Al H
   refine AO (fun a w => ∃ x6 : List (Int × Int × Int × (Int × Int × Int × Int) × Int × Int), ∃ x7 : List (Int × Int × Int × (Int × Int × Int × Int) × Int × Int), ∃ v8 : Value, ∃ v9 : Value, some ((x6, x7)) = some o3 ∧ Fr 40 [] [(0, .pointer (some ⟨q_p0, 0, none⟩)), (1, .int .i64 p1), (4, .slice none 0 0), (5, v8), (6, v9), (14, v3), (15, .int .i64 (p0.2.length : Int)), (16, .int .i64 x5)] a ∧ Stw ⟨Y, X, w0⟩ [(q_p0, [.int .i64 p0.1.1, v1, v2, v3])] [row v8 51 AB x6, row v9 51 AB x7, row v3 51 AB p0.2, Be v1 Bx p0.1.2.1, Be v2 Cb p0.1.2.2] w) ?_ ?_
   ·
    have H := G3
    clear G3 K3
    refine AA (Ai (Ac ?_))
    obtain ⟨x8, h1, H⟩ := Al H
    refine ls F W Aa (AW (r := AB) Ea F Aa Aa (Aw 2 Aa) h1).q fun a w F W => ?_
    refine ls F W Aa (Av (y := Value.agg #[.int .i64 x8.1, .int .i64 x8.2.1, .int .i64 x8.2.2.1, .int .i64 x8.2.2.2.1.1, .int .i64 x8.2.2.2.1.2.1, .int .i64 x8.2.2.2.1.2.2.1, .int .i64 x8.2.2.2.1.2.2.2, .int .i64 x8.2.2.2.2.1, .int .i64 x8.2.2.2.2.2]) (j := 0) (i := x5) F Aa Aa (Aw 2 Aa) h1 EM.to Dk Aa).q fun a w F W => ?_
    refine BZ (cs := (CD)) F W Aa Hg Aa fun b1 a w F W => ?_
    refine Bl (vs := (DQ x8)) (M' := (I5 b1 x8 q_p0 p0 v1 v2 v3)) 0 F W Aa Aa Aa Dk Aa Aa Aa Aa Aa fun w W => ?_
    refine Ae (Ab (Ai (Ac ?_)))
    refine ls F W Aa (Ah Ge Aa Aa Aa T3 F Aa 8 Aa).q fun a w F W => ?_
    refine ls F W Aa (Ao (v := Value.int .i64 x8.2.2.2.2.2) 0 F Aa Aa T3 Aa).q fun a w F W => ?_
    refine ls F W Aa (Ad F Aa).q fun a w F W => ?_
    refine ls F W Aa (HD F Aa Aa).q fun a w F W => ?_
    refine Ae (Ab ?_)
    refine AC F Aa (fun hb => ?_) fun hb => ?_
    ·
     have H := A5 (BJ hb) H
     rw [hb] at F
     clear hb
     refine Ac ?_
     refine ls F W Aa (Ad F Aa).q fun a w F W => ?_
     refine ls F W Aa (Ao (v := Value.agg #[.int .i64 x8.1, .int .i64 x8.2.1, .int .i64 x8.2.2.1, .int .i64 x8.2.2.2.1.1, .int .i64 x8.2.2.2.1.2.1, .int .i64 x8.2.2.2.1.2.2.1, .int .i64 x8.2.2.2.1.2.2.2, .int .i64 x8.2.2.2.2.1, .int .i64 x8.2.2.2.2.2]) 0 F Aa Aa Dk Aa).q fun a w F W => ?_
     refine EU (z := Value.agg #[.int .i64 0, .int .i64 0, .int .i64 0, .int .i64 0, .int .i64 0, .int .i64 0, .int .i64 0, .int .i64 0, .int .i64 0]) (cs := (DQ x8)) AB ([x8] : List (Int × Int × Int × (Int × Int × Int × Int) × Int × Int)) F W Aa Ea Hg Aa Aa Aa Aa Aa Aa (EM.repL _ _ ([x8] : List (Int × Int × Int × (Int × Int × Int × Int) × Int × Int))) fun v10 a w F W => ?_
     obtain ⟨x9, h2, H⟩ := Al H
     refine C9 (r := AB) (i := 1) F W Aa Ea Aa Aa Aa Aa (DN W 0 Aa) h2 Aa fun v11 a w F W => ?_
     have W : Stw ⟨Y, X, w0⟩ (I5 b1 x8 q_p0 p0 v1 v2 v3) [row v11 51 AB x9, row v10 51 AB ([x8] : List (Int × Int × Int × (Int × Int × Int × Int) × Int × Int)), row v7 51 AB x4, row v3 51 AB p0.2, Be v1 Bx p0.1.2.1, Be v2 Cb p0.1.2.2] w := W
     refine ls F W Aa (Ag F Aa).q fun a w F W => ?_
     refine Ae (AZ (Ab ?_))
     have W := W.frontZ (i := 5) Aa Aa
     have W := W.frontZ (i := 5) Aa Aa
     have W := W.frontZ (i := 5) Aa Aa
     have W := W.frontZ (i := 5) Aa Aa
     have W := W.frontZ (i := 4) Aa Aa
     have W := W.frontM (i := 1) Aa Aa
     have W := W.sub (M' := [(q_p0, [.int .i64 p0.1.1, v1, v2, v3])]) (Z' := [row v11 51 AB x9, row v7 51 AB x4, row v3 51 AB p0.2, Be v1 Bx p0.1.2.1, Be v2 Cb p0.1.2.2]) (List.Sublist.cons_cons _ (List.nil_sublist _)) (List.Sublist.cons_cons _ (List.Sublist.cons_cons _ (List.Sublist.cons_cons _ (List.Sublist.cons_cons _ (List.Sublist.cons_cons _ (List.nil_sublist _))))))
     exact ⟨_, _, (v11), (v7), H, F.re ⟨rfl, Aa, Aa, Aa, Aa, Aa, Aa, Aa, trivial⟩, W⟩
    have H := A6 (BK hb) H
    rw [hb] at F
    clear hb
    refine Ac ?_
    refine ls F W Aa (Ad F Aa).q fun a w F W => ?_
    refine ls F W Aa (Ao (v := Value.agg #[.int .i64 x8.1, .int .i64 x8.2.1, .int .i64 x8.2.2.1, .int .i64 x8.2.2.2.1.1, .int .i64 x8.2.2.2.1.2.1, .int .i64 x8.2.2.2.1.2.2.1, .int .i64 x8.2.2.2.1.2.2.2, .int .i64 x8.2.2.2.2.1, .int .i64 x8.2.2.2.2.2]) 0 F Aa Aa Dk Aa).q fun a w F W => ?_
    refine EU (z := Value.agg #[.int .i64 0, .int .i64 0, .int .i64 0, .int .i64 0, .int .i64 0, .int .i64 0, .int .i64 0, .int .i64 0, .int .i64 0]) (cs := (DQ x8)) AB ([x8] : List (Int × Int × Int × (Int × Int × Int × Int) × Int × Int)) F W Aa Ea Hg Aa Aa Aa Aa Aa Aa (EM.repL _ _ ([x8] : List (Int × Int × Int × (Int × Int × Int × Int) × Int × Int))) fun v12 a w F W => ?_
    obtain ⟨x10, h3, H⟩ := Al H
    refine C9 (r := AB) (i := 2) F W Aa Ea Aa Aa Aa Aa (DN W 0 Aa) h3 Aa fun v13 a w F W => ?_
    have W : Stw ⟨Y, X, w0⟩ (I5 b1 x8 q_p0 p0 v1 v2 v3) [row v13 51 AB x10, row v12 51 AB ([x8] : List (Int × Int × Int × (Int × Int × Int × Int) × Int × Int)), row v6 51 AB x3, row v3 51 AB p0.2, Be v1 Bx p0.1.2.1, Be v2 Cb p0.1.2.2] w := W
    refine ls F W Aa (Ag F Aa).q fun a w F W => ?_
    refine Ae (AZ (Ab ?_))
    have W := W.frontZ (i := 5) Aa Aa
    have W := W.frontZ (i := 5) Aa Aa
    have W := W.frontZ (i := 5) Aa Aa
    have W := W.frontZ (i := 3) Aa Aa
    have W := W.frontZ (i := 5) Aa Aa
    have W := W.frontM (i := 1) Aa Aa
    have W := W.sub (M' := [(q_p0, [.int .i64 p0.1.1, v1, v2, v3])]) (Z' := [row v6 51 AB x3, row v13 51 AB x10, row v3 51 AB p0.2, Be v1 Bx p0.1.2.1, Be v2 Cb p0.1.2.2]) (List.Sublist.cons_cons _ (List.nil_sublist _)) (List.Sublist.cons_cons _ (List.Sublist.cons_cons _ (List.Sublist.cons_cons _ (List.Sublist.cons_cons _ (List.Sublist.cons_cons _ (List.nil_sublist _))))))
    exact ⟨_, _, (v6), (v13), H, F.re ⟨rfl, Aa, Aa, Aa, Aa, Aa, Aa, Aa, trivial⟩, W⟩
   rintro a w ⟨x6, x7, v8, v9, hj, F, W⟩
   have hj := Bg hj
   subst hj
   have H := K3
   clear G3 K3
   refine Ac ?_
   refine ls F W Aa (BE F Aa Aa Aa).q fun a w F W => ?_
   refine ls F W Aa (Ad F Aa).q fun a w F W => ?_
   refine Ae (Ab ?_)
   have W := W.frontZ (i := 4) Aa Aa
   have W := W.frontZ (i := 4) Aa Aa
   have W := W.frontZ (i := 4) Aa Aa
   have W := W.frontZ (i := 4) Aa Aa
   have W := W.frontZ (i := 4) Aa Aa
   exact ⟨_, H, (v8), (v9), F.re ⟨rfl, Aa, Aa, Aa, Aa, Aa, Aa, Aa, trivial⟩, W⟩
  have H := A6 (BK hb) H
  rw [hb] at F
  clear hb
  refine BF ?_
  iterate 2 refine Cf ?_
  refine BI (Ab ?_)
  have W := W.frontZ (i := 2) Aa Aa
  have W := W.frontZ (i := 4) Aa Aa
  have W := W.frontZ (i := 4) Aa Aa
  have W := W.frontZ (i := 4) Aa Aa
  have W := W.frontZ (i := 4) Aa Aa
  have H := L2 _ H
  exact ⟨_, _, (v6), (v7), H, F.re ⟨rfl, Aa, Aa, Aa, trivial⟩, W⟩
 rintro a w ⟨x1, x2, v4, v5, hj, F, W⟩
 have hj := Bg hj
 subst hj
 have H := K1
 clear G1 K1
 refine Ai (Ac ?_)
 iterate 2 refine ls F W Aa (Ad F Aa).q fun a w F W => ?_
 refine ls F W Aa (Ca F Aa).q fun a w F W => ?_
 refine ls F W Aa (Ah FM Aa Aa Aa GI F Aa 3 Aa).q fun a w F W => ?_
 refine Fv (M' := [(q_p0, [.int .i64 p0.1.1, v1, v2, v5])]) 0 F W Aa Aa Aa GI (W.one (k := 1) Aa) Aa Aa fun w W => ?_
 refine Ae (Ab (Ai (Ac ?_)))
 refine ls F W Aa (Ad F Aa).q fun a w F W => ?_
 obtain ⟨x11, h4, H⟩ := Al H
 refine BT (Ml := []) (Zl := [row v4 51 AB x1]) (M := [(q_p0, [.int .i64 p0.1.1, v1, v2, v5])]) (Z := [row v5 51 AB x2, Be v1 Bx p0.1.2.1, Be v2 Cb p0.1.2.2, row v3 51 AB p0.2]) (β := Unit) (rv := fun x => .tuple #[]) (MM := fun x => []) (ZZ := fun x => [row v4 51 AB x11]) F W Me Aa Aa (fun hL => CH _ _ w (v4) x1 _ h4 hL) fun x a w F W => ?_
 have W : Stw ⟨Y, X, w0⟩ [(q_p0, [.int .i64 p0.1.1, v1, v2, v5])] [row v4 51 AB x11, row v5 51 AB x2, Be v1 Bx p0.1.2.1, Be v2 Cb p0.1.2.2, row v3 51 AB p0.2] w := W
 refine Ae (Ab (Ai (Ac ?_)))
 refine ls F W Aa (Ad F Aa).q fun a w F W => ?_
 refine ls F W Aa (Ag F Aa).q fun a w F W => ?_
 refine Ae (Ab (AN ?_))
 have H := Bg H
 subst H
 refine Bz (.inl Aa) F W Aa (Az F Aa) ?_
 have W := W.frontZ (i := 1) Aa Aa
 have W := W.frontZ (i := 3) Aa Aa
 have W := W.frontZ (i := 3) Aa Aa
 have W := W.sub (M' := [(q_p0, [.int .i64 p0.1.1, v1, v2, v5])]) (Z' := [Be v1 Bx p0.1.2.1, Be v2 Cb p0.1.2.2, row v5 51 AB x2, row v4 51 AB x11]) (List.Sublist.refl _) (List.Sublist.cons_cons _ (List.Sublist.cons_cons _ (List.Sublist.cons_cons _ (List.Sublist.cons_cons _ (List.nil_sublist _)))))
 exact ⟨((v4), (v1), (v2), (v5)), Aa, W⟩
end Go.Proofs.Ytemacefkdopgaaa
