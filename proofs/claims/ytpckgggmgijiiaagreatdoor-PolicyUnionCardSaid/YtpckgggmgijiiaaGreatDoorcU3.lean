/- The functions of layer 27, Jw. Conditions: none. -/
import Derived.Test.YtpckgggmgijiiaaGreatDoorcU2
namespace Go.Proofs.YtpckgggmgijiiaaGreatDoor
noncomputable section
open Go Go.RowKit
set_option linter.unusedVariables false
set_option linter.unusedSimpArgs false
set_option maxRecDepth 20000
theorem Zy : Has Tryz.prog 97 := CP Tryz.func97
def BJ (p2 : Int) (x2 : List (Int × (Int × Int × Int × Int))) : Int → Option (Int ⊕ Int)
  | x8 => (if x8 < p2 then (ix x2 x8).bind fun x10 => (ix x2 (AU (x8 - 1))).bind fun x11 => (Cs x10 x11).bind fun x12 => some (!(decide (x12 < 0))) else some false).bind fun x9 => (if x9 = true then some (.inl (AU (x8 + 1))) else some (.inr x8))
def AG  : ((List (Int × (Int × Int × Int × Int))) × Int) → Option (((List (Int × (Int × Int × Int × Int))) × Int) ⊕ (List (Int × (Int × Int × Int × Int))))
  | (x18, x19) => (if 1 ≤ x19 then (ix x18 x19).bind fun x20 => (ix x18 (AU (x19 - 1))).bind fun x21 => (Cs x20 x21).bind fun x22 => (if (!(decide (x22 < 0))) = true then some (.inr x18) else (ix x18 (AU (x19 - 1))).bind fun x23 => (ix x18 x19).bind fun x24 => (ix x18 x19).bind fun x25 => (ix (Bm x18 x19 x23) (AU (x19 - 1))).bind fun x26 => some (.inl ((Bm (Bm x18 x19 x23) (AU (x19 - 1)) x24), AU (x19 - 1)))) else some (.inr x18))
def AQ (p2 : Int) (x7 : Int) : ((List (Int × (Int × Int × Int × Int))) × Int) → Option (((List (Int × (Int × Int × Int × Int))) × Int) ⊕ (((List (Int × (Int × Int × Int × Int))) × Int) ⊕ (((List (Int × (Int × Int × Int × Int))) × Int × Int) ⊕ ((List (Int × (Int × Int × Int × Int))) ⊕ (Bool × (List (Int × (Int × Int × Int × Int))))))))
  | (x27, x28) => (if x28 < p2 then (ix x27 x28).bind fun x29 => (ix x27 (AU (x28 - 1))).bind fun x30 => (Cs x29 x30).bind fun x31 => (if (!(decide (x31 < 0))) = true then some (.inr (.inl (x27, x7))) else (ix x27 (AU (x28 - 1))).bind fun x32 => (ix x27 x28).bind fun x33 => (ix x27 x28).bind fun x34 => (ix (Bm x27 x28 x32) (AU (x28 - 1))).bind fun x35 => some (.inl ((Bm (Bm x27 x28 x32) (AU (x28 - 1)) x33), AU (x28 + 1)))) else some (.inr (.inl (x27, x7))))
def AR (p1 : Int) (p2 : Int) : ((List (Int × (Int × Int × Int × Int))) × Int × Int) → Option (((List (Int × (Int × Int × Int × Int))) × Int × Int) ⊕ ((List (Int × (Int × Int × Int × Int))) ⊕ (Bool × (List (Int × (Int × Int × Int × Int))))))
  | (x2, x3, x4) => (if x4 < 5 then Ku ((Ba (BJ p2 x2) x3).bind fun x7 => (if x7 = p2 then some (.inr (.inr (.inr (true, x2)))) else (if (AU (p2 - p1)) < 50 then some (.inr (.inr (.inr (false, x2)))) else (ix x2 (AU (x7 - 1))).bind fun x13 => (ix x2 x7).bind fun x14 => (ix x2 x7).bind fun x15 => (ix (Bm x2 x7 x13) (AU (x7 - 1))).bind fun x16 => (if 2 ≤ (AU (x7 - p1)) then Ba (AG) ((Bm (Bm x2 x7 x13) (AU (x7 - 1)) x14), AU (x7 - 1)) else some (Bm (Bm x2 x7 x13) (AU (x7 - 1)) x14)).bind fun x17 => (if 2 ≤ (AU (p2 - x7)) then Ba (AQ p2 x7) (x17, AU (x7 + 1)) else some (.inl (x17, x7)))))) fun (x5, x6) => some (.inl (x5, x6, AU (x4 + 1))) else some (.inr (.inl x2)))
def Bw (p0 : List (Int × (Int × Int × Int × Int))) (p1 : Int) (p2 : Int) : Option (Bool × (List (Int × (Int × Int × Int × Int)))) := Ku (Ba (AR p1 p2) (p0, AU (p1 + 1), 0)) fun x1 => some (false, x1)
theorem E5 (Y : Nat → Prop) (X : List Nat) (w0 : World) (v1 : Value) (p0 : List (Int × (Int × Int × Int × Int))) (p1 : Int) (p2 : Int) (r : Bool × (List (Int × (Int × Int × Int × Int)))) (H : Bw p0 p1 p2 = some r) (hL : Stw ⟨Y, X, w0⟩ [] [row v1 63 Bo p0] w0) :
    Calls Tryz.prog 98 #[v1, .int .i64 p1, .int .i64 p2, .func (.func 41) #[] #[]] w0 fun e w' => ∃ x : Unit, e = .returned (.bool r.1) ∧ Stw ⟨Y, X, w0⟩ [] [row v1 63 Bo r.2] w' := by
 refine enter Tryz.func98 Aa Tryz.ntmps98 Aa fun a F => ?_
 have W := hL
 unfold Bw at H
 refine vc tk 12 F W fun a w F W => ?_
 obtain ⟨o1, G1, K1, L1⟩ := RM H
 refine AA (fun a w => ∃ x1 : List (Int × (Int × Int × Int × Int)), some (Sum.inl x1) = some o1 ∧ Fr 141 [] [(8, .bool false)] a ∧ Stw ⟨Y, X, w0⟩ [] [row v1 63 Bo x1] w) ?_ ?_
 ·
  have H := G1
  refine vc tk 6 F W fun a w F W => ?_
  refine BN H (fun s a w => Fr 141 [] [(0, v1), (1, .int .i64 p1), (2, .int .i64 p2), (3, .func (.func 41) #[] #[]), (8, .bool false), (9, .int .i64 s.2.1), (10, .int .i64 s.2.2)] a ∧ Stw ⟨Y, X, w0⟩ [] [row v1 63 Bo s.1] w) ⟨F.ra Aa, W⟩ fun s o a w H L2 hR => ?_
  obtain ⟨x2, x3, x4⟩ := s
  obtain ⟨F, W⟩ := hR
  have F : Fr 141 [] [(0, v1), (1, .int .i64 p1), (2, .int .i64 p2), (3, .func (.func 41) #[] #[]), (8, .bool false), (9, .int .i64 x3), (10, .int .i64 x4)] a := F
  have W : Stw ⟨Y, X, w0⟩ [] [row v1 63 Bo x2] w := W
  rw [AR] at H
  refine vc tk 7 F W fun a w F W => ?_
  refine BU F Aa H (fun F H => ?_) fun F H => ?_
  ·
   refine Bc (Ad ?_)
   obtain ⟨o3, G3, K3, L3⟩ := RM H
   refine AA (fun a w => ∃ x5 : List (Int × (Int × Int × Int × Int)), ∃ x6 : Int, some (Sum.inl (x5, x6)) = some o3 ∧ Fr 141 [] [(0, v1), (1, .int .i64 p1), (2, .int .i64 p2), (3, .func (.func 41) #[] #[]), (8, .bool false), (9, .int .i64 x6), (10, .int .i64 x4)] a ∧ Stw ⟨Y, X, w0⟩ [] [row v1 63 Bo x5] w) ?_ ?_
   ·
    have H := G3
    refine Ep ?_
    obtain ⟨o4, G4, K4⟩ := Ag H
    refine AA (fun a w => ∃ x7 : Int, some (x7) = some o4 ∧ Fr 141 [] [(0, v1), (1, .int .i64 p1), (2, .int .i64 p2), (3, .func (.func 41) #[] #[]), (8, .bool false), (9, .int .i64 x7), (10, .int .i64 x4)] a ∧ Stw ⟨Y, X, w0⟩ [] [row v1 63 Bo x2] w) ?_ ?_
    ·
     have H := G4
     refine Ep ?_
     refine BN H (fun s a w => Fr 141 [] [(0, v1), (1, .int .i64 p1), (2, .int .i64 p2), (3, .func (.func 41) #[] #[]), (8, .bool false), (9, .int .i64 s), (10, .int .i64 x4)] a ∧ Stw ⟨Y, X, w0⟩ [] [row v1 63 Bo x2] w) ⟨F.ra Aa, W⟩ fun s o a w H L5 hR => ?_
     obtain ⟨x8, rfl⟩ : ∃ x, x = s := ⟨s, rfl⟩
     obtain ⟨F, W⟩ := hR
     have F : Fr 141 [] [(0, v1), (1, .int .i64 p1), (2, .int .i64 p2), (3, .func (.func 41) #[] #[]), (8, .bool false), (9, .int .i64 x8), (10, .int .i64 x4)] a := F
     have W : Stw ⟨Y, X, w0⟩ [] [row v1 63 Bo x2] w := W
     rw [BJ] at H
     refine GK ?_
     obtain ⟨o6, G6, K6⟩ := Ag H
     refine AA (fun a w => ∃ x9 : Bool, some (x9) = some o6 ∧ Fr 141 [] [(0, v1), (1, .int .i64 p1), (2, .int .i64 p2), (3, .func (.func 41) #[] #[]), (8, .bool false), (9, .int .i64 x8), (10, .int .i64 x4), (36, .bool x9)] a ∧ Stw ⟨Y, X, w0⟩ [] [row v1 63 Bo x2] w) ?_ ?_
     ·
      have H := G6
      refine CH W MO (by kernel_rfl) ?_
      iterate 2 refine qs F Aa (Aq F Aa).q fun a F => ?_
      refine qs F Aa (GY F Aa Aa).q fun a F => ?_
      refine qs F Aa (Aq F Aa).q fun a F => ?_
      rcases bxq (decide (x8 < p2)) with hb | hb
      ·
       have H := Cg (CQ hb) H
       rw [hb] at F
       iterate 3 refine AP F (Ac F Aa Aa Aa Aa) Aa (Ao Aa) (Aq F Aa).q fun a F => ?_
       obtain ⟨x10, h1, H⟩ := Ag H
       refine AP F (Ac F Aa Aa Aa Aa) Aa (Ao Aa) (Aw (r := Bo) EJ F Aa Aa (Al 0 Aa) h1).q fun a F => ?_
       refine AP F (Ac F Aa Aa Aa Aa) Aa (Ao Aa) (An (y := Value.agg #[.int .i64 x10.1, .int .i64 x10.2.1, .int .i64 x10.2.2.1, .int .i64 x10.2.2.2.1, .int .i64 x10.2.2.2.2]) (j := 0) (i := x8) F Aa Aa (Al 0 Aa) h1 EM.to D4 Aa).q fun a F => ?_
       iterate 2 refine AP F (Ac F Aa Aa Aa Aa) Aa (Ao Aa) (Aq F Aa).q fun a F => ?_
       refine AP F (Ac F Aa Aa Aa Aa) Aa (Ao Aa) (Ix F Aa Aa Aa).q fun a F => ?_
       obtain ⟨x11, h2, H⟩ := Ag H
       refine AP F (Ac F Aa Aa Aa Aa) Aa (Ao Aa) (Aw (r := Bo) EJ F Aa Aa (Al 0 Aa) h2).q fun a F => ?_
       refine AP F (Ac F Aa Aa Aa Aa) Aa (Ao Aa) (An (y := Value.agg #[.int .i64 x11.1, .int .i64 x11.2.1, .int .i64 x11.2.2.1, .int .i64 x11.2.2.2.1, .int .i64 x11.2.2.2.2]) (j := 0) (i := AU (x8 - 1)) F Aa Aa (Al 0 Aa) h2 EM.to D4 Aa).q fun a F => ?_
       obtain ⟨x12, h3, H⟩ := Ag H
       refine AP F (Ac F Aa Aa Aa Aa) Aa (Ao Aa) (ES (ws := (I9 x10 x11)) (v := Value.int .i64 x12) F Su Aa (fun w W => CE any w x10 x11 _ h3)) fun a F => ?_
       refine AP F (Ac F Aa Aa Aa Aa) Aa (Ao Aa) (GY F Aa Aa).q fun a F => ?_
       refine AP F (Ac F Aa Aa Aa Aa) Aa (Ao Aa) (Kx F Aa).q fun a F => ?_
       refine qs F Aa (BI F Aa Aa Aa).q fun a F => ?_
       refine AO fun w W => ?_
       refine Ad ?_
       exact ⟨_, H, F.ra Aa, W⟩
      have H := Cf (CO hb) H
      rw [hb] at F
      iterate 13 refine Bp F (Be F Aa Aa Aa Aa Aa) Aa Aa fun a F => ?_
      refine qs F Aa (BA F Aa Aa Aa).q fun a F => ?_
      refine AO fun w W => ?_
      refine Ad ?_
      exact ⟨_, H, F.ra Aa, W⟩
     rintro a w ⟨x9, hj, F, W⟩
     have hj := AC hj
     subst hj
     have H := K6
     refine CK F Aa H (fun F H => ?_) fun F H => ?_
     ·
      refine Gp tk 8 F W fun a w F W => ?_
      refine Ad ?_
      exact ⟨_, H, F.ra Aa, W⟩
     refine BB ?_
     iterate 2 refine BR ?_
     refine Bx (Ad ?_)
     have H := L5 _ H
     exact ⟨_, H, F.ra Aa, W⟩
    rintro a w ⟨x7, hj, F, W⟩
    have hj := AC hj
    subst hj
    have H := K4
    refine vc tk 8 F W fun a w F W => ?_
    refine BU F Aa H (fun F H => ?_) fun F H => ?_
    ·
     refine vc tk 5 F W fun a w F W => ?_
     refine Am (Az (AH ?_))
     iterate 2 refine Az ?_
     refine AH (Az ?_)
     have H := L3 _ H
     have H := L2 _ H
     have H := L1 _ H
     have H := AC H
     subst H
     refine Ax (.inl Aa) F W Aa (Ap F Aa) ?_
     exact ⟨(), Aa, W⟩
    refine Gp tk 11 F W fun a w F W => ?_
    refine BU F Aa H (fun F H => ?_) fun F H => ?_
    ·
     refine vc tk 5 F W fun a w F W => ?_
     refine Am (Az (AH ?_))
     iterate 2 refine Az ?_
     refine AH (Az ?_)
     have H := L3 _ H
     have H := L2 _ H
     have H := L1 _ H
     have H := AC H
     subst H
     refine Ax (.inl Aa) F W Aa (Ap F Aa) ?_
     exact ⟨(), Aa, W⟩
    refine Gp tk 3 F W fun a w F W => ?_
    refine EX [(true, 0), (true, 1), (true, 2), (true, 3), (true, 4), (true, 5), (true, 6), (true, 7), (true, 8), (true, 9), (true, 10), (true, 11), (true, 12), (true, 13), (true, 14), (false, 15), (true, 16), (false, 17)] (CN ⟨Y, X, w0⟩ [] [(some 15, row v1 63 Bo x2)]) (fun ch a d v w h => by cases d <;> exact h) MO (by kernel_rfl) W (fun w W => ⟨_, _, W, Ab, (all_cons (fun _ => (.head _)) Ab)⟩) fun w W => ?_
    iterate 4 refine BD (R := []) F Aa Aa (yC fun M Z hN hZ => Aq F Aa) Aa Aa fun a F => ?_
    refine BD (R := []) F Aa Aa (yC fun M Z hN hZ => Ix F Aa Aa Aa) Aa Aa fun a F => ?_
    iterate 2 refine BD (R := []) F Aa Aa (yC fun M Z hN hZ => Aq F Aa) Aa Aa fun a F => ?_
    refine BD (R := []) F Aa Aa (yC fun M Z hN hZ => Ix F Aa Aa Aa) Aa Aa fun a F => ?_
    obtain ⟨x13, h4, H⟩ := Ag H
    refine BD (R := []) F Aa Aa (yC fun M Z hN hZ => Cy (r := Bo) EJ F Aa Aa (EK W (Al 0 Aa)) h4) Aa Aa fun a F => ?_
    refine BD (R := [15]) F Aa Aa (yC fun M Z hN hZ => An (y := Value.agg #[.int .i64 x13.1, .int .i64 x13.2.1, .int .i64 x13.2.2.1, .int .i64 x13.2.2.2.1, .int .i64 x13.2.2.2.2]) (j := 0) (i := AU (x7 - 1)) F Aa Aa (D3 (hZ ((some 15), row v1 63 Bo x2) (.head _) Aa)) h4 EM.to D4 Aa) (by kernel_rfl) Aa fun a F => ?_
    iterate 2 refine BD (R := []) F Aa Aa (yC fun M Z hN hZ => Aq F Aa) Aa Aa fun a F => ?_
    obtain ⟨x14, h5, H⟩ := Ag H
    refine BD (R := []) F Aa Aa (yC fun M Z hN hZ => Cy (r := Bo) EJ F Aa Aa (EK W (Al 0 Aa)) h5) Aa Aa fun a F => ?_
    refine BD (R := [15]) F Aa Aa (yC fun M Z hN hZ => An (y := Value.agg #[.int .i64 x14.1, .int .i64 x14.2.1, .int .i64 x14.2.2.1, .int .i64 x14.2.2.2.1, .int .i64 x14.2.2.2.2]) (j := 0) (i := x7) F Aa Aa (D3 (hZ ((some 15), row v1 63 Bo x2) (.head _) Aa)) h5 EM.to D4 Aa) (by kernel_rfl) Aa fun a F => ?_
    obtain ⟨x15, h6, H⟩ := Ag H
    refine BD (R := []) F Aa Aa (yC fun M Z hN hZ => Cy (r := Bo) EJ F Aa Aa (EK W (Al 0 Aa)) h6) Aa Aa fun a F => ?_
    refine DU Aa ?_
    refine BO (i := x7) (j := 0) (vs := (C1 x13)) (x' := x13) F W Aa Aa Aa (k := 0) Aa Aa h6 D4 Aa Aa Aa Aa (fun A cs _ => EM.sto (by rfl) _ _ _) fun w W => ?_
    refine BG (N2 := []) (NZ2 := []) (N3 := []) (NZ3 := [(some 15, row v1 63 Bo x2)]) W Aa Aa Ab (all_cons (fun h => Ae (by kernel_rfl) h) Ab) ?_
    obtain ⟨x16, h7, H⟩ := Ag H
    refine BD (R := []) F Aa Aa (yC fun M Z hN hZ => Cy (r := Bo) EJ F Aa Aa (EK W (Al 0 Aa)) h7) Aa Aa fun a F => ?_
    refine DU Aa ?_
    refine BO (i := AU (x7 - 1)) (j := 0) (vs := (C1 x14)) (x' := x14) F W Aa Aa Aa (k := 0) Aa Aa h7 D4 Aa Aa Aa Aa (fun A cs _ => EM.sto (by rfl) _ _ _) fun w W => ?_
    refine BG (N2 := []) (NZ2 := []) (N3 := []) (NZ3 := [(some 15, row v1 63 Bo x2)]) W Aa Aa Ab (all_cons (fun h => Ae (by kernel_rfl) h) Ab) ?_
    refine GM (Ad ?_)
    obtain ⟨o7, G7, K7⟩ := Ag H
    refine AA (fun a w => ∃ x17 : List (Int × (Int × Int × Int × Int)), some (x17) = some o7 ∧ Fr 141 [] [(0, v1), (1, .int .i64 p1), (2, .int .i64 p2), (3, .func (.func 41) #[] #[]), (8, .bool false), (9, .int .i64 x7), (10, .int .i64 x4)] a ∧ Stw ⟨Y, X, w0⟩ [] [row v1 63 Bo x17] w) ?_ ?_
    ·
     have H := G7
     refine vc tk 8 F W fun a w F W => ?_
     refine BU F Aa H (fun F H => ?_) fun F H => ?_
     ·
      refine vc tk 8 F W fun a w F W => ?_
      refine BN H (fun s a w => Fr 141 [] [(0, v1), (1, .int .i64 p1), (2, .int .i64 p2), (3, .func (.func 41) #[] #[]), (8, .bool false), (9, .int .i64 x7), (10, .int .i64 x4), (11, .int .i64 s.2)] a ∧ Stw ⟨Y, X, w0⟩ [] [row v1 63 Bo s.1] w) ⟨F.ra Aa, W⟩ fun s o a w H L8 hR => ?_
      obtain ⟨x18, x19⟩ := s
      obtain ⟨F, W⟩ := hR
      have F : Fr 141 [] [(0, v1), (1, .int .i64 p1), (2, .int .i64 p2), (3, .func (.func 41) #[] #[]), (8, .bool false), (9, .int .i64 x7), (10, .int .i64 x4), (11, .int .i64 x19)] a := F
      have W : Stw ⟨Y, X, w0⟩ [] [row v1 63 Bo x18] w := W
      rw [AG] at H
      refine vc tk 7 F W fun a w F W => ?_
      refine BU F Aa H (fun F H => ?_) fun F H => ?_
      ·
       refine Gp tk 6 F W fun a w F W => ?_
       refine CH W MO (by kernel_rfl) ?_
       iterate 3 refine qs F Aa (Aq F Aa).q fun a F => ?_
       obtain ⟨x20, h8, H⟩ := Ag H
       refine qs F Aa (Aw (r := Bo) EJ F Aa Aa (Al 0 Aa) h8).q fun a F => ?_
       refine qs F Aa (An (y := Value.agg #[.int .i64 x20.1, .int .i64 x20.2.1, .int .i64 x20.2.2.1, .int .i64 x20.2.2.2.1, .int .i64 x20.2.2.2.2]) (j := 0) (i := x19) F Aa Aa (Al 0 Aa) h8 EM.to D4 Aa).q fun a F => ?_
       iterate 2 refine qs F Aa (Aq F Aa).q fun a F => ?_
       refine qs F Aa (Ix F Aa Aa Aa).q fun a F => ?_
       obtain ⟨x21, h9, H⟩ := Ag H
       refine qs F Aa (Aw (r := Bo) EJ F Aa Aa (Al 0 Aa) h9).q fun a F => ?_
       refine qs F Aa (An (y := Value.agg #[.int .i64 x21.1, .int .i64 x21.2.1, .int .i64 x21.2.2.1, .int .i64 x21.2.2.2.1, .int .i64 x21.2.2.2.2]) (j := 0) (i := AU (x19 - 1)) F Aa Aa (Al 0 Aa) h9 EM.to D4 Aa).q fun a F => ?_
       obtain ⟨x22, h10, H⟩ := Ag H
       refine qs F Aa (ES (ws := (I9 x20 x21)) (v := Value.int .i64 x22) F Su Aa (fun w W => CE any w x20 x21 _ h10)) fun a F => ?_
       refine qs F Aa (GY F Aa Aa).q fun a F => ?_
       refine qs F Aa (Kx F Aa).q fun a F => ?_
       refine AO fun w W => ?_
       refine Ad ?_
       refine CK F Aa H (fun F H => ?_) fun F H => ?_
       ·
        refine BB (BR ?_)
        refine Nd Aa ?_
        iterate 2 refine BR ?_
        refine Bx (Ad ?_)
        have H := L8 _ H
        exact ⟨_, H, F.ra Aa, W⟩
       refine Gp tk 2 F W fun a w F W => ?_
       refine EX [(true, 0), (true, 1), (true, 2), (true, 3), (true, 4), (true, 5), (true, 6), (true, 7), (true, 8), (true, 9), (true, 10), (true, 11), (true, 12), (true, 13), (true, 14), (false, 15), (true, 16), (false, 17)] (CN ⟨Y, X, w0⟩ [] [(some 15, row v1 63 Bo x18)]) (fun ch a d v w h => by cases d <;> exact h) MO (by kernel_rfl) W (fun w W => ⟨_, _, W, Ab, (all_cons (fun _ => (.head _)) Ab)⟩) fun w W => ?_
       iterate 4 refine BD (R := []) F Aa Aa (yC fun M Z hN hZ => Aq F Aa) Aa Aa fun a F => ?_
       refine BD (R := []) F Aa Aa (yC fun M Z hN hZ => Ix F Aa Aa Aa) Aa Aa fun a F => ?_
       iterate 2 refine BD (R := []) F Aa Aa (yC fun M Z hN hZ => Aq F Aa) Aa Aa fun a F => ?_
       refine BD (R := []) F Aa Aa (yC fun M Z hN hZ => Ix F Aa Aa Aa) Aa Aa fun a F => ?_
       obtain ⟨x23, h11, H⟩ := Ag H
       refine BD (R := []) F Aa Aa (yC fun M Z hN hZ => Cy (r := Bo) EJ F Aa Aa (EK W (Al 0 Aa)) h11) Aa Aa fun a F => ?_
       refine BD (R := [15]) F Aa Aa (yC fun M Z hN hZ => An (y := Value.agg #[.int .i64 x23.1, .int .i64 x23.2.1, .int .i64 x23.2.2.1, .int .i64 x23.2.2.2.1, .int .i64 x23.2.2.2.2]) (j := 0) (i := AU (x19 - 1)) F Aa Aa (D3 (hZ ((some 15), row v1 63 Bo x18) (.head _) Aa)) h11 EM.to D4 Aa) (by kernel_rfl) Aa fun a F => ?_
       iterate 2 refine BD (R := []) F Aa Aa (yC fun M Z hN hZ => Aq F Aa) Aa Aa fun a F => ?_
       obtain ⟨x24, h12, H⟩ := Ag H
       refine BD (R := []) F Aa Aa (yC fun M Z hN hZ => Cy (r := Bo) EJ F Aa Aa (EK W (Al 0 Aa)) h12) Aa Aa fun a F => ?_
       refine BD (R := [15]) F Aa Aa (yC fun M Z hN hZ => An (y := Value.agg #[.int .i64 x24.1, .int .i64 x24.2.1, .int .i64 x24.2.2.1, .int .i64 x24.2.2.2.1, .int .i64 x24.2.2.2.2]) (j := 0) (i := x19) F Aa Aa (D3 (hZ ((some 15), row v1 63 Bo x18) (.head _) Aa)) h12 EM.to D4 Aa) (by kernel_rfl) Aa fun a F => ?_
       obtain ⟨x25, h13, H⟩ := Ag H
       refine BD (R := []) F Aa Aa (yC fun M Z hN hZ => Cy (r := Bo) EJ F Aa Aa (EK W (Al 0 Aa)) h13) Aa Aa fun a F => ?_
       refine DU Aa ?_
       refine BO (i := x19) (j := 0) (vs := (C1 x23)) (x' := x23) F W Aa Aa Aa (k := 0) Aa Aa h13 D4 Aa Aa Aa Aa (fun A cs _ => EM.sto (by rfl) _ _ _) fun w W => ?_
       refine BG (N2 := []) (NZ2 := []) (N3 := []) (NZ3 := [(some 15, row v1 63 Bo x18)]) W Aa Aa Ab (all_cons (fun h => Ae (by kernel_rfl) h) Ab) ?_
       obtain ⟨x26, h14, H⟩ := Ag H
       refine BD (R := []) F Aa Aa (yC fun M Z hN hZ => Cy (r := Bo) EJ F Aa Aa (EK W (Al 0 Aa)) h14) Aa Aa fun a F => ?_
       refine DU Aa ?_
       refine BO (i := AU (x19 - 1)) (j := 0) (vs := (C1 x24)) (x' := x24) F W Aa Aa Aa (k := 0) Aa Aa h14 D4 Aa Aa Aa Aa (fun A cs _ => EM.sto (by rfl) _ _ _) fun w W => ?_
       refine BG (N2 := []) (NZ2 := []) (N3 := []) (NZ3 := [(some 15, row v1 63 Bo x18)]) W Aa Aa Ab (all_cons (fun h => Ae (by kernel_rfl) h) Ab) ?_
       refine GM (AM ?_)
       refine vn tk 5 F W fun a w F W => ?_
       refine Ad ?_
       exact ⟨_, H, F.ra Aa, W⟩
      refine BB ?_
      iterate 2 refine BR ?_
      refine Bx (Ad ?_)
      have H := L8 _ H
      exact ⟨_, H, F.ra Aa, W⟩
     refine Bc (Ad ?_)
     exact ⟨_, H, F.ra Aa, W⟩
    rintro a w ⟨x17, hj, F, W⟩
    have hj := AC hj
    subst hj
    have H := K7
    refine vc tk 8 F W fun a w F W => ?_
    refine BU F Aa H (fun F H => ?_) fun F H => ?_
    ·
     refine vc tk 8 F W fun a w F W => ?_
     refine BN H (fun s a w => Fr 141 [] [(0, v1), (1, .int .i64 p1), (2, .int .i64 p2), (3, .func (.func 41) #[] #[]), (8, .bool false), (9, .int .i64 x7), (10, .int .i64 x4), (12, .int .i64 s.2)] a ∧ Stw ⟨Y, X, w0⟩ [] [row v1 63 Bo s.1] w) ⟨F.ra Aa, W⟩ fun s o a w H L9 hR => ?_
     obtain ⟨x27, x28⟩ := s
     obtain ⟨F, W⟩ := hR
     have F : Fr 141 [] [(0, v1), (1, .int .i64 p1), (2, .int .i64 p2), (3, .func (.func 41) #[] #[]), (8, .bool false), (9, .int .i64 x7), (10, .int .i64 x4), (12, .int .i64 x28)] a := F
     have W : Stw ⟨Y, X, w0⟩ [] [row v1 63 Bo x27] w := W
     rw [AQ] at H
     refine vc tk 8 F W fun a w F W => ?_
     refine BU F Aa H (fun F H => ?_) fun F H => ?_
     ·
      refine Gp tk 6 F W fun a w F W => ?_
      refine CH W MO (by kernel_rfl) ?_
      iterate 3 refine qs F Aa (Aq F Aa).q fun a F => ?_
      obtain ⟨x29, h15, H⟩ := Ag H
      refine qs F Aa (Aw (r := Bo) EJ F Aa Aa (Al 0 Aa) h15).q fun a F => ?_
      refine qs F Aa (An (y := Value.agg #[.int .i64 x29.1, .int .i64 x29.2.1, .int .i64 x29.2.2.1, .int .i64 x29.2.2.2.1, .int .i64 x29.2.2.2.2]) (j := 0) (i := x28) F Aa Aa (Al 0 Aa) h15 EM.to D4 Aa).q fun a F => ?_
      iterate 2 refine qs F Aa (Aq F Aa).q fun a F => ?_
      refine qs F Aa (Ix F Aa Aa Aa).q fun a F => ?_
      obtain ⟨x30, h16, H⟩ := Ag H
      refine qs F Aa (Aw (r := Bo) EJ F Aa Aa (Al 0 Aa) h16).q fun a F => ?_
      refine qs F Aa (An (y := Value.agg #[.int .i64 x30.1, .int .i64 x30.2.1, .int .i64 x30.2.2.1, .int .i64 x30.2.2.2.1, .int .i64 x30.2.2.2.2]) (j := 0) (i := AU (x28 - 1)) F Aa Aa (Al 0 Aa) h16 EM.to D4 Aa).q fun a F => ?_
      obtain ⟨x31, h17, H⟩ := Ag H
      refine qs F Aa (ES (ws := (I9 x29 x30)) (v := Value.int .i64 x31) F Su Aa (fun w W => CE any w x29 x30 _ h17)) fun a F => ?_
      refine qs F Aa (GY F Aa Aa).q fun a F => ?_
      refine qs F Aa (Kx F Aa).q fun a F => ?_
      refine AO fun w W => ?_
      refine Ad ?_
      refine CK F Aa H (fun F H => ?_) fun F H => ?_
      ·
       refine BB (BR ?_)
       refine Nd Aa ?_
       iterate 2 refine BR ?_
       refine Bx (AM (Ad ?_))
       have H := L9 _ H
       exact ⟨_, _, H, F.ra Aa, W⟩
      refine Gp tk 2 F W fun a w F W => ?_
      refine EX [(true, 0), (true, 1), (true, 2), (true, 3), (true, 4), (true, 5), (true, 6), (true, 7), (true, 8), (true, 9), (true, 10), (true, 11), (true, 12), (true, 13), (true, 14), (false, 15), (true, 16), (false, 17)] (CN ⟨Y, X, w0⟩ [] [(some 15, row v1 63 Bo x27)]) (fun ch a d v w h => by cases d <;> exact h) MO (by kernel_rfl) W (fun w W => ⟨_, _, W, Ab, (all_cons (fun _ => (.head _)) Ab)⟩) fun w W => ?_
      iterate 4 refine BD (R := []) F Aa Aa (yC fun M Z hN hZ => Aq F Aa) Aa Aa fun a F => ?_
      refine BD (R := []) F Aa Aa (yC fun M Z hN hZ => Ix F Aa Aa Aa) Aa Aa fun a F => ?_
      iterate 2 refine BD (R := []) F Aa Aa (yC fun M Z hN hZ => Aq F Aa) Aa Aa fun a F => ?_
      refine BD (R := []) F Aa Aa (yC fun M Z hN hZ => Ix F Aa Aa Aa) Aa Aa fun a F => ?_
      obtain ⟨x32, h18, H⟩ := Ag H
      refine BD (R := []) F Aa Aa (yC fun M Z hN hZ => Cy (r := Bo) EJ F Aa Aa (EK W (Al 0 Aa)) h18) Aa Aa fun a F => ?_
      refine BD (R := [15]) F Aa Aa (yC fun M Z hN hZ => An (y := Value.agg #[.int .i64 x32.1, .int .i64 x32.2.1, .int .i64 x32.2.2.1, .int .i64 x32.2.2.2.1, .int .i64 x32.2.2.2.2]) (j := 0) (i := AU (x28 - 1)) F Aa Aa (D3 (hZ ((some 15), row v1 63 Bo x27) (.head _) Aa)) h18 EM.to D4 Aa) (by kernel_rfl) Aa fun a F => ?_
      iterate 2 refine BD (R := []) F Aa Aa (yC fun M Z hN hZ => Aq F Aa) Aa Aa fun a F => ?_
      obtain ⟨x33, h19, H⟩ := Ag H
      refine BD (R := []) F Aa Aa (yC fun M Z hN hZ => Cy (r := Bo) EJ F Aa Aa (EK W (Al 0 Aa)) h19) Aa Aa fun a F => ?_
      refine BD (R := [15]) F Aa Aa (yC fun M Z hN hZ => An (y := Value.agg #[.int .i64 x33.1, .int .i64 x33.2.1, .int .i64 x33.2.2.1, .int .i64 x33.2.2.2.1, .int .i64 x33.2.2.2.2]) (j := 0) (i := x28) F Aa Aa (D3 (hZ ((some 15), row v1 63 Bo x27) (.head _) Aa)) h19 EM.to D4 Aa) (by kernel_rfl) Aa fun a F => ?_
      obtain ⟨x34, h20, H⟩ := Ag H
      refine BD (R := []) F Aa Aa (yC fun M Z hN hZ => Cy (r := Bo) EJ F Aa Aa (EK W (Al 0 Aa)) h20) Aa Aa fun a F => ?_
      refine DU Aa ?_
      refine BO (i := x28) (j := 0) (vs := (C1 x32)) (x' := x32) F W Aa Aa Aa (k := 0) Aa Aa h20 D4 Aa Aa Aa Aa (fun A cs _ => EM.sto (by rfl) _ _ _) fun w W => ?_
      refine BG (N2 := []) (NZ2 := []) (N3 := []) (NZ3 := [(some 15, row v1 63 Bo x27)]) W Aa Aa Ab (all_cons (fun h => Ae (by kernel_rfl) h) Ab) ?_
      obtain ⟨x35, h21, H⟩ := Ag H
      refine BD (R := []) F Aa Aa (yC fun M Z hN hZ => Cy (r := Bo) EJ F Aa Aa (EK W (Al 0 Aa)) h21) Aa Aa fun a F => ?_
      refine DU Aa ?_
      refine BO (i := AU (x28 - 1)) (j := 0) (vs := (C1 x33)) (x' := x33) F W Aa Aa Aa (k := 0) Aa Aa h21 D4 Aa Aa Aa Aa (fun A cs _ => EM.sto (by rfl) _ _ _) fun w W => ?_
      refine BG (N2 := []) (NZ2 := []) (N3 := []) (NZ3 := [(some 15, row v1 63 Bo x27)]) W Aa Aa Ab (all_cons (fun h => Ae (by kernel_rfl) h) Ab) ?_
      refine GM (AM ?_)
      refine vn tk 5 F W fun a w F W => ?_
      refine Ad ?_
      exact ⟨_, H, F.ra Aa, W⟩
     refine BB ?_
     iterate 2 refine BR ?_
     refine Bx (AM (Ad ?_))
     have H := L9 _ H
     exact ⟨_, _, H, F.ra Aa, W⟩
    refine Bc (AM (Ad ?_))
    exact ⟨_, _, H, F.ra Aa, W⟩
   rintro a w ⟨x5, x6, hj, F, W⟩
   have H := K3 _ hj
   refine vc tk 5 F W fun a w F W => ?_
   refine Ad ?_
   exact ⟨_, H, F.ra Aa, W⟩
  refine BB ?_
  iterate 2 refine BR ?_
  refine Bx (Ad ?_)
  have H := L2 _ H
  exact ⟨_, H, F.ra Aa, W⟩
 rintro a w ⟨x1, hj, F, W⟩
 have H := K1 _ hj
 refine vc tk 5 F W fun a w F W => ?_
 refine Am ?_
 have H := AC H
 subst H
 refine Ax (.inl Aa) F W Aa (Ap F Aa) ?_
 exact ⟨(), Aa, W⟩
theorem Zi : Has Tryz.prog 98 := CP Tryz.func98
def B0 (p1 : Int) (x7 : List (Int × (Int × Int × Int × Int))) (x9 : Int) : Int → Option (Int ⊕ Int)
  | x11 => (if x11 ≤ x9 then (ix x7 p1).bind fun x13 => (ix x7 x11).bind fun x14 => (Cs x13 x14).bind fun x15 => some (!(decide (x15 < 0))) else some false).bind fun x12 => (if x12 = true then some (.inl (AU (x11 + 1))) else some (.inr x11))
def BZ (p1 : Int) (x7 : List (Int × (Int × Int × Int × Int))) (x10 : Int) : Int → Option (Int ⊕ Int)
  | x17 => (if x10 ≤ x17 then (ix x7 p1).bind fun x19 => (ix x7 x17).bind fun x20 => (Cs x19 x20).bind fun x21 => some (decide (x21 < 0)) else some false).bind fun x18 => (if x18 = true then some (.inl (AU (x17 - 1))) else some (.inr x17))
def BF (p1 : Int) : ((List (Int × (Int × Int × Int × Int))) × Int × Int) → Option (((List (Int × (Int × Int × Int × Int))) × Int × Int) ⊕ (Int × (List (Int × (Int × Int × Int × Int)))))
  | (x7, x8, x9) => (Ba (B0 p1 x7 x9) x8).bind fun x10 => (Ba (BZ p1 x7 x10) x9).bind fun x16 => (if x16 < x10 then some (.inr (x10, x7)) else (ix x7 x16).bind fun x22 => (ix x7 x10).bind fun x23 => (ix x7 x10).bind fun x24 => (ix (Bm x7 x10 x22) x16).bind fun x25 => some (.inl ((Bm (Bm x7 x10 x22) x16 x23), AU (x10 + 1), AU (x16 - 1))))
def Cc (p0 : List (Int × (Int × Int × Int × Int))) (p1 : Int) (p2 : Int) (p3 : Int) : Option (Int × (List (Int × (Int × Int × Int × Int)))) := (ix p0 p3).bind fun x1 => (ix p0 p1).bind fun x2 => (ix p0 p1).bind fun x3 => (ix (Bm p0 p1 x1) p3).bind fun x4 => (Ba (BF p1) ((Bm (Bm p0 p1 x1) p3 x2), AU (p1 + 1), AU (p2 - 1))).bind fun (x5, x6) => some (x5, x6)
theorem Gm (Y : Nat → Prop) (X : List Nat) (w0 : World) (v1 : Value) (p0 : List (Int × (Int × Int × Int × Int))) (p1 : Int) (p2 : Int) (p3 : Int) (r : Int × (List (Int × (Int × Int × Int × Int)))) (H : Cc p0 p1 p2 p3 = some r) (hL : Stw ⟨Y, X, w0⟩ [] [row v1 63 Bo p0] w0) :
    Calls Tryz.prog 99 #[v1, .int .i64 p1, .int .i64 p2, .int .i64 p3, .func (.func 41) #[] #[]] w0 fun e w' => ∃ x : Unit, e = .returned (.int .i64 r.1) ∧ Stw ⟨Y, X, w0⟩ [] [row v1 63 Bo r.2] w' := by
 refine enter Tryz.func99 Aa Tryz.ntmps99 Aa fun a F => ?_
 have W := hL
 unfold Cc at H
 refine vc tk 6 F W fun a w F W => ?_
 refine I4 13 [2, 3] [0, 1, 4, 5, 6, 7, 8, 9, 10, 11, 12] (fun ch a d v w h => by cases d <;> exact h) W MO (by kernel_rfl) ?_
 iterate 2 refine hm F Aa Aa Aa fun a F => ?_
 refine KF ?_
 iterate 4 refine hs F Aa Aa Aa (Aq F Aa).q fun a F => ?_
 obtain ⟨x1, h1, H⟩ := Ag H
 refine hs F Aa Aa Aa (Aw (r := Bo) EJ F Aa Aa (Al 0 Aa) h1).q fun a F => ?_
 refine hs F Aa Aa Aa (An (y := Value.agg #[.int .i64 x1.1, .int .i64 x1.2.1, .int .i64 x1.2.2.1, .int .i64 x1.2.2.2.1, .int .i64 x1.2.2.2.2]) (j := 0) (i := p3) F Aa Aa (Al 0 Aa) h1 EM.to D4 Aa).q fun a F => ?_
 iterate 2 refine hs F Aa Aa Aa (Aq F Aa).q fun a F => ?_
 obtain ⟨x2, h2, H⟩ := Ag H
 refine hs F Aa Aa Aa (Aw (r := Bo) EJ F Aa Aa (Al 0 Aa) h2).q fun a F => ?_
 refine hs F Aa Aa Aa (An (y := Value.agg #[.int .i64 x2.1, .int .i64 x2.2.1, .int .i64 x2.2.2.1, .int .i64 x2.2.2.2.1, .int .i64 x2.2.2.2.2]) (j := 0) (i := p1) F Aa Aa (Al 0 Aa) h2 EM.to D4 Aa).q fun a F => ?_
 obtain ⟨x3, h3, H⟩ := Ag H
 refine hs F Aa Aa Aa (Aw (r := Bo) EJ F Aa Aa (Al 0 Aa) h3).q fun a F => ?_
 refine Nu fun w W => ?_
 have W : Stw ⟨Y, X, w0⟩ [] [row v1 63 Bo p0] w := W
 refine BO (i := p1) (j := 0) (vs := (C1 x1)) (x' := x1) F W Aa Aa Aa (k := 0) Aa Aa h3 D4 Aa Aa Aa Aa (fun A cs _ => EM.sto (by rfl) _ _ _) fun w W => ?_
 obtain ⟨x4, h4, H⟩ := Ag H
 refine ls F W Aa (Aw (r := Bo) EJ F Aa Aa (Al 0 Aa) h4).q fun a w F W => ?_
 refine BO (i := p3) (j := 0) (vs := (C1 x2)) (x' := x2) F W Aa Aa Aa (k := 0) Aa Aa h4 D4 Aa Aa Aa Aa (fun A cs _ => EM.sto (by rfl) _ _ _) fun w W => ?_
 refine Cv tk 12 F W fun a w F W => ?_
 obtain ⟨o1, G1, K1⟩ := Ag H
 refine AA (fun a w => ∃ x5 : Int, ∃ x6 : List (Int × (Int × Int × Int × Int)), some ((x5, x6)) = some o1 ∧ Fr 90 [] [(10, .int .i64 0), (11, .int .i64 x5)] a ∧ Stw ⟨Y, X, w0⟩ [] [row v1 63 Bo x6] w) ?_ ?_
 ·
  have H := G1
  refine Ep ?_
  refine BN H (fun s a w => Fr 90 [] [(0, v1), (1, .int .i64 p1), (4, .func (.func 41) #[] #[]), (10, .int .i64 0), (11, .int .i64 s.2.1), (12, .int .i64 s.2.2)] a ∧ Stw ⟨Y, X, w0⟩ [] [row v1 63 Bo s.1] w) ⟨F.ra Aa, W⟩ fun s o a w H L2 hR => ?_
  obtain ⟨x7, x8, x9⟩ := s
  obtain ⟨F, W⟩ := hR
  have F : Fr 90 [] [(0, v1), (1, .int .i64 p1), (4, .func (.func 41) #[] #[]), (10, .int .i64 0), (11, .int .i64 x8), (12, .int .i64 x9)] a := F
  have W : Stw ⟨Y, X, w0⟩ [] [row v1 63 Bo x7] w := W
  rw [BF] at H
  refine Ep ?_
  obtain ⟨o3, G3, K3⟩ := Ag H
  refine AA (fun a w => ∃ x10 : Int, some (x10) = some o3 ∧ Fr 90 [] [(0, v1), (1, .int .i64 p1), (4, .func (.func 41) #[] #[]), (10, .int .i64 0), (11, .int .i64 x10), (12, .int .i64 x9)] a ∧ Stw ⟨Y, X, w0⟩ [] [row v1 63 Bo x7] w) ?_ ?_
  ·
   have H := G3
   refine Ep ?_
   refine BN H (fun s a w => Fr 90 [] [(0, v1), (1, .int .i64 p1), (4, .func (.func 41) #[] #[]), (10, .int .i64 0), (11, .int .i64 s), (12, .int .i64 x9)] a ∧ Stw ⟨Y, X, w0⟩ [] [row v1 63 Bo x7] w) ⟨F.ra Aa, W⟩ fun s o a w H L4 hR => ?_
   obtain ⟨x11, rfl⟩ : ∃ x, x = s := ⟨s, rfl⟩
   obtain ⟨F, W⟩ := hR
   have F : Fr 90 [] [(0, v1), (1, .int .i64 p1), (4, .func (.func 41) #[] #[]), (10, .int .i64 0), (11, .int .i64 x11), (12, .int .i64 x9)] a := F
   have W : Stw ⟨Y, X, w0⟩ [] [row v1 63 Bo x7] w := W
   rw [B0] at H
   refine GK ?_
   obtain ⟨o5, G5, K5⟩ := Ag H
   refine AA (fun a w => ∃ x12 : Bool, some (x12) = some o5 ∧ Fr 90 [] [(0, v1), (1, .int .i64 p1), (4, .func (.func 41) #[] #[]), (10, .int .i64 0), (11, .int .i64 x11), (12, .int .i64 x9), (47, .bool x12)] a ∧ Stw ⟨Y, X, w0⟩ [] [row v1 63 Bo x7] w) ?_ ?_
   ·
    have H := G5
    refine CH W MO (by kernel_rfl) ?_
    iterate 2 refine qs F Aa (Aq F Aa).q fun a F => ?_
    refine qs F Aa (Lp F Aa Aa).q fun a F => ?_
    refine qs F Aa (Aq F Aa).q fun a F => ?_
    rcases bxq (decide (x11 ≤ x9)) with hb | hb
    ·
     have H := Cg (CQ hb) H
     rw [hb] at F
     iterate 3 refine AP F (Ac F Aa Aa Aa Aa) Aa (Ao Aa) (Aq F Aa).q fun a F => ?_
     obtain ⟨x13, h5, H⟩ := Ag H
     refine AP F (Ac F Aa Aa Aa Aa) Aa (Ao Aa) (Aw (r := Bo) EJ F Aa Aa (Al 0 Aa) h5).q fun a F => ?_
     refine AP F (Ac F Aa Aa Aa Aa) Aa (Ao Aa) (An (y := Value.agg #[.int .i64 x13.1, .int .i64 x13.2.1, .int .i64 x13.2.2.1, .int .i64 x13.2.2.2.1, .int .i64 x13.2.2.2.2]) (j := 0) (i := p1) F Aa Aa (Al 0 Aa) h5 EM.to D4 Aa).q fun a F => ?_
     iterate 2 refine AP F (Ac F Aa Aa Aa Aa) Aa (Ao Aa) (Aq F Aa).q fun a F => ?_
     obtain ⟨x14, h6, H⟩ := Ag H
     refine AP F (Ac F Aa Aa Aa Aa) Aa (Ao Aa) (Aw (r := Bo) EJ F Aa Aa (Al 0 Aa) h6).q fun a F => ?_
     refine AP F (Ac F Aa Aa Aa Aa) Aa (Ao Aa) (An (y := Value.agg #[.int .i64 x14.1, .int .i64 x14.2.1, .int .i64 x14.2.2.1, .int .i64 x14.2.2.2.1, .int .i64 x14.2.2.2.2]) (j := 0) (i := x11) F Aa Aa (Al 0 Aa) h6 EM.to D4 Aa).q fun a F => ?_
     obtain ⟨x15, h7, H⟩ := Ag H
     refine AP F (Ac F Aa Aa Aa Aa) Aa (Ao Aa) (ES (ws := (I9 x13 x14)) (v := Value.int .i64 x15) F Su Aa (fun w W => CE any w x13 x14 _ h7)) fun a F => ?_
     refine AP F (Ac F Aa Aa Aa Aa) Aa (Ao Aa) (GY F Aa Aa).q fun a F => ?_
     refine AP F (Ac F Aa Aa Aa Aa) Aa (Ao Aa) (Kx F Aa).q fun a F => ?_
     refine qs F Aa (BI F Aa Aa Aa).q fun a F => ?_
     refine AO fun w W => ?_
     refine Ad ?_
     exact ⟨_, H, F.ra Aa, W⟩
    have H := Cf (CO hb) H
    rw [hb] at F
    iterate 12 refine Bp F (Be F Aa Aa Aa Aa Aa) Aa Aa fun a F => ?_
    refine qs F Aa (BA F Aa Aa Aa).q fun a F => ?_
    refine AO fun w W => ?_
    refine Ad ?_
    exact ⟨_, H, F.ra Aa, W⟩
   rintro a w ⟨x12, hj, F, W⟩
   have hj := AC hj
   subst hj
   have H := K5
   refine CK F Aa H (fun F H => ?_) fun F H => ?_
   ·
    refine Gp tk 8 F W fun a w F W => ?_
    refine Ad ?_
    exact ⟨_, H, F.ra Aa, W⟩
   refine BB ?_
   iterate 2 refine BR ?_
   refine Bx (Ad ?_)
   have H := L4 _ H
   exact ⟨_, H, F.ra Aa, W⟩
  rintro a w ⟨x10, hj, F, W⟩
  have hj := AC hj
  subst hj
  have H := K3
  obtain ⟨o6, G6, K6⟩ := Ag H
  refine AA (fun a w => ∃ x16 : Int, some (x16) = some o6 ∧ Fr 90 [] [(0, v1), (1, .int .i64 p1), (4, .func (.func 41) #[] #[]), (10, .int .i64 0), (11, .int .i64 x10), (12, .int .i64 x16)] a ∧ Stw ⟨Y, X, w0⟩ [] [row v1 63 Bo x7] w) ?_ ?_
  ·
   have H := G6
   refine Ep ?_
   refine BN H (fun s a w => Fr 90 [] [(0, v1), (1, .int .i64 p1), (4, .func (.func 41) #[] #[]), (10, .int .i64 0), (11, .int .i64 x10), (12, .int .i64 s)] a ∧ Stw ⟨Y, X, w0⟩ [] [row v1 63 Bo x7] w) ⟨F.ra Aa, W⟩ fun s o a w H L7 hR => ?_
   obtain ⟨x17, rfl⟩ : ∃ x, x = s := ⟨s, rfl⟩
   obtain ⟨F, W⟩ := hR
   have F : Fr 90 [] [(0, v1), (1, .int .i64 p1), (4, .func (.func 41) #[] #[]), (10, .int .i64 0), (11, .int .i64 x10), (12, .int .i64 x17)] a := F
   have W : Stw ⟨Y, X, w0⟩ [] [row v1 63 Bo x7] w := W
   rw [BZ] at H
   refine GK ?_
   obtain ⟨o8, G8, K8⟩ := Ag H
   refine AA (fun a w => ∃ x18 : Bool, some (x18) = some o8 ∧ Fr 90 [] [(0, v1), (1, .int .i64 p1), (4, .func (.func 41) #[] #[]), (10, .int .i64 0), (11, .int .i64 x10), (12, .int .i64 x17), (65, .bool x18)] a ∧ Stw ⟨Y, X, w0⟩ [] [row v1 63 Bo x7] w) ?_ ?_
   ·
    have H := G8
    refine CH W MO (by kernel_rfl) ?_
    iterate 2 refine qs F Aa (Aq F Aa).q fun a F => ?_
    refine qs F Aa (Lp F Aa Aa).q fun a F => ?_
    refine qs F Aa (Aq F Aa).q fun a F => ?_
    rcases bxq (decide (x10 ≤ x17)) with hb | hb
    ·
     have H := Cg (CQ hb) H
     rw [hb] at F
     iterate 3 refine AP F (Ac F Aa Aa Aa Aa) Aa (Ao Aa) (Aq F Aa).q fun a F => ?_
     obtain ⟨x19, h8, H⟩ := Ag H
     refine AP F (Ac F Aa Aa Aa Aa) Aa (Ao Aa) (Aw (r := Bo) EJ F Aa Aa (Al 0 Aa) h8).q fun a F => ?_
     refine AP F (Ac F Aa Aa Aa Aa) Aa (Ao Aa) (An (y := Value.agg #[.int .i64 x19.1, .int .i64 x19.2.1, .int .i64 x19.2.2.1, .int .i64 x19.2.2.2.1, .int .i64 x19.2.2.2.2]) (j := 0) (i := p1) F Aa Aa (Al 0 Aa) h8 EM.to D4 Aa).q fun a F => ?_
     iterate 2 refine AP F (Ac F Aa Aa Aa Aa) Aa (Ao Aa) (Aq F Aa).q fun a F => ?_
     obtain ⟨x20, h9, H⟩ := Ag H
     refine AP F (Ac F Aa Aa Aa Aa) Aa (Ao Aa) (Aw (r := Bo) EJ F Aa Aa (Al 0 Aa) h9).q fun a F => ?_
     refine AP F (Ac F Aa Aa Aa Aa) Aa (Ao Aa) (An (y := Value.agg #[.int .i64 x20.1, .int .i64 x20.2.1, .int .i64 x20.2.2.1, .int .i64 x20.2.2.2.1, .int .i64 x20.2.2.2.2]) (j := 0) (i := x17) F Aa Aa (Al 0 Aa) h9 EM.to D4 Aa).q fun a F => ?_
     obtain ⟨x21, h10, H⟩ := Ag H
     refine AP F (Ac F Aa Aa Aa Aa) Aa (Ao Aa) (ES (ws := (I9 x19 x20)) (v := Value.int .i64 x21) F Su Aa (fun w W => CE any w x19 x20 _ h10)) fun a F => ?_
     refine AP F (Ac F Aa Aa Aa Aa) Aa (Ao Aa) (GY F Aa Aa).q fun a F => ?_
     refine qs F Aa (BI F Aa Aa Aa).q fun a F => ?_
     refine AO fun w W => ?_
     refine Ad ?_
     exact ⟨_, H, F.ra Aa, W⟩
    have H := Cf (CO hb) H
    rw [hb] at F
    iterate 11 refine Bp F (Be F Aa Aa Aa Aa Aa) Aa Aa fun a F => ?_
    refine qs F Aa (BA F Aa Aa Aa).q fun a F => ?_
    refine AO fun w W => ?_
    refine Ad ?_
    exact ⟨_, H, F.ra Aa, W⟩
   rintro a w ⟨x18, hj, F, W⟩
   have hj := AC hj
   subst hj
   have H := K8
   refine CK F Aa H (fun F H => ?_) fun F H => ?_
   ·
    refine Gp tk 8 F W fun a w F W => ?_
    refine Ad ?_
    exact ⟨_, H, F.ra Aa, W⟩
   refine BB ?_
   iterate 2 refine BR ?_
   refine Bx (Ad ?_)
   have H := L7 _ H
   exact ⟨_, H, F.ra Aa, W⟩
  rintro a w ⟨x16, hj, F, W⟩
  have hj := AC hj
  subst hj
  have H := K6
  refine vc tk 8 F W fun a w F W => ?_
  refine BU F Aa H (fun F H => ?_) fun F H => ?_
  ·
   refine BB (BR ?_)
   refine Nd Aa ?_
   refine BR (Bx (Ad ?_))
   have H := L2 _ H
   exact ⟨_, _, H, F.ra Aa, W⟩
  refine Gp tk 3 F W fun a w F W => ?_
  refine I4 13 [2, 3] [0, 1, 4, 5, 6, 7, 8, 9, 10, 11, 12] (fun ch a d v w h => by cases d <;> exact h) W MO (by kernel_rfl) ?_
  iterate 2 refine hm F Aa Aa Aa fun a F => ?_
  refine KF ?_
  iterate 4 refine hs F Aa Aa Aa (Aq F Aa).q fun a F => ?_
  obtain ⟨x22, h11, H⟩ := Ag H
  refine hs F Aa Aa Aa (Aw (r := Bo) EJ F Aa Aa (Al 0 Aa) h11).q fun a F => ?_
  refine hs F Aa Aa Aa (An (y := Value.agg #[.int .i64 x22.1, .int .i64 x22.2.1, .int .i64 x22.2.2.1, .int .i64 x22.2.2.2.1, .int .i64 x22.2.2.2.2]) (j := 0) (i := x16) F Aa Aa (Al 0 Aa) h11 EM.to D4 Aa).q fun a F => ?_
  iterate 2 refine hs F Aa Aa Aa (Aq F Aa).q fun a F => ?_
  obtain ⟨x23, h12, H⟩ := Ag H
  refine hs F Aa Aa Aa (Aw (r := Bo) EJ F Aa Aa (Al 0 Aa) h12).q fun a F => ?_
  refine hs F Aa Aa Aa (An (y := Value.agg #[.int .i64 x23.1, .int .i64 x23.2.1, .int .i64 x23.2.2.1, .int .i64 x23.2.2.2.1, .int .i64 x23.2.2.2.2]) (j := 0) (i := x10) F Aa Aa (Al 0 Aa) h12 EM.to D4 Aa).q fun a F => ?_
  obtain ⟨x24, h13, H⟩ := Ag H
  refine hs F Aa Aa Aa (Aw (r := Bo) EJ F Aa Aa (Al 0 Aa) h13).q fun a F => ?_
  refine Nu fun w W => ?_
  have W : Stw ⟨Y, X, w0⟩ [] [row v1 63 Bo x7] w := W
  refine BO (i := x10) (j := 0) (vs := (C1 x22)) (x' := x22) F W Aa Aa Aa (k := 0) Aa Aa h13 D4 Aa Aa Aa Aa (fun A cs _ => EM.sto (by rfl) _ _ _) fun w W => ?_
  obtain ⟨x25, h14, H⟩ := Ag H
  refine ls F W Aa (Aw (r := Bo) EJ F Aa Aa (Al 0 Aa) h14).q fun a w F W => ?_
  refine BO (i := x16) (j := 0) (vs := (C1 x23)) (x' := x23) F W Aa Aa Aa (k := 0) Aa Aa h14 D4 Aa Aa Aa Aa (fun A cs _ => EM.sto (by rfl) _ _ _) fun w W => ?_
  refine Cv tk 14 F W fun a w F W => ?_
  refine AM (Ad ?_)
  exact ⟨_, H, F.ra Aa, W⟩
 rintro a w ⟨x5, x6, hj, F, W⟩
 have hj := AC hj
 subst hj
 have H := K1
 refine vc tk 6 F W fun a w F W => ?_
 refine Am ?_
 have H := AC H
 subst H
 refine Ax (.inl Aa) F W Aa (Ap F Aa) ?_
 exact ⟨(), Aa, W⟩
theorem Zh : Has Tryz.prog 99 := CP Tryz.func99
def BW (p0 : List (Int × (Int × Int × Int × Int))) (p1 : Int) (p2 : Int) (p3 : Int) (x1 : Int × (Int × Int × Int × Int)) (x2 : Int × (Int × Int × Int × Int)) : Int → Option (Int ⊕ Int)
  | x6 => (if x6 ≤ (AU (p2 - 1)) then (ix (Bm (Bm p0 p1 x1) p3 x2) x6).bind fun x8 => (ix (Bm (Bm p0 p1 x1) p3 x2) p1).bind fun x9 => (Cs x8 x9).bind fun x10 => some (decide (x10 < 0)) else some false).bind fun x7 => (if x7 = true then some (.inl (AU (x6 + 1))) else some (.inr x6))
def Cl (p0 : List (Int × (Int × Int × Int × Int))) (p1 : Int) (p3 : Int) (x1 : Int × (Int × Int × Int × Int)) (x2 : Int × (Int × Int × Int × Int)) (x5 : Int) : Int → Option (Int ⊕ Int)
  | x12 => (if x5 ≤ x12 then (ix (Bm (Bm p0 p1 x1) p3 x2) x12).bind fun x14 => (ix (Bm (Bm p0 p1 x1) p3 x2) p1).bind fun x15 => (Cs x14 x15).bind fun x16 => some (!(decide (x16 < 0))) else some false).bind fun x13 => (if x13 = true then some (.inl (AU (x12 - 1))) else some (.inr x12))
def Cm (p1 : Int) (x27 : List (Int × (Int × Int × Int × Int))) (x29 : Int) : Int → Option (Int ⊕ Int)
  | x31 => (if x31 ≤ x29 then (ix x27 x31).bind fun x33 => (ix x27 p1).bind fun x34 => (Cs x33 x34).bind fun x35 => some (decide (x35 < 0)) else some false).bind fun x32 => (if x32 = true then some (.inl (AU (x31 + 1))) else some (.inr x31))
def Ck (p1 : Int) (x27 : List (Int × (Int × Int × Int × Int))) (x30 : Int) : Int → Option (Int ⊕ Int)
  | x37 => (if x30 ≤ x37 then (ix x27 x37).bind fun x39 => (ix x27 p1).bind fun x40 => (Cs x39 x40).bind fun x41 => some (!(decide (x41 < 0))) else some false).bind fun x38 => (if x38 = true then some (.inl (AU (x37 - 1))) else some (.inr x37))
def BH (p1 : Int) : ((List (Int × (Int × Int × Int × Int))) × Int × Int) → Option (((List (Int × (Int × Int × Int × Int))) × Int × Int) ⊕ ((List (Int × (Int × Int × Int × Int))) × Int))
  | (x27, x28, x29) => (Ba (Cm p1 x27 x29) x28).bind fun x30 => (Ba (Ck p1 x27 x30) x29).bind fun x36 => (if x36 < x30 then some (.inr (x27, x36)) else (ix x27 x36).bind fun x42 => (ix x27 x30).bind fun x43 => (ix x27 x30).bind fun x44 => (ix (Bm x27 x30 x42) x36).bind fun x45 => some (.inl ((Bm (Bm x27 x30 x42) x36 x43), AU (x30 + 1), AU (x36 - 1))))
def CC (p0 : List (Int × (Int × Int × Int × Int))) (p1 : Int) (p2 : Int) (p3 : Int) : Option (Int × Bool × (List (Int × (Int × Int × Int × Int)))) := (ix p0 p3).bind fun x1 => (ix p0 p1).bind fun x2 => (ix p0 p1).bind fun x3 => (ix (Bm p0 p1 x1) p3).bind fun x4 => (Ba (BW p0 p1 p2 p3 x1 x2) (AU (p1 + 1))).bind fun x5 => (Ba (Cl p0 p1 p3 x1 x2 x5) (AU (p2 - 1))).bind fun x11 => (if x11 < x5 then (ix (Bm (Bm p0 p1 x1) p3 x2) p1).bind fun x17 => (ix (Bm (Bm p0 p1 x1) p3 x2) x11).bind fun x18 => (ix (Bm (Bm p0 p1 x1) p3 x2) x11).bind fun x19 => (ix (Bm (Bm (Bm p0 p1 x1) p3 x2) x11 x17) p1).bind fun x20 => some (x11, true, (Bm (Bm (Bm (Bm p0 p1 x1) p3 x2) x11 x17) p1 x18)) else (ix (Bm (Bm p0 p1 x1) p3 x2) x11).bind fun x21 => (ix (Bm (Bm p0 p1 x1) p3 x2) x5).bind fun x22 => (ix (Bm (Bm p0 p1 x1) p3 x2) x5).bind fun x23 => (ix (Bm (Bm (Bm p0 p1 x1) p3 x2) x5 x21) x11).bind fun x24 => (Ba (BH p1) ((Bm (Bm (Bm (Bm p0 p1 x1) p3 x2) x5 x21) x11 x22), AU (x5 + 1), AU (x11 - 1))).bind fun (x25, x26) => (ix x25 p1).bind fun x46 => (ix x25 x26).bind fun x47 => (ix x25 x26).bind fun x48 => (ix (Bm x25 x26 x46) p1).bind fun x49 => some (x26, false, (Bm (Bm x25 x26 x46) p1 x47)))
theorem Hk (Y : Nat → Prop) (X : List Nat) (w0 : World) (v1 : Value) (p0 : List (Int × (Int × Int × Int × Int))) (p1 : Int) (p2 : Int) (p3 : Int) (r : Int × Bool × (List (Int × (Int × Int × Int × Int)))) (H : CC p0 p1 p2 p3 = some r) (hL : Stw ⟨Y, X, w0⟩ [] [row v1 63 Bo p0] w0) :
    Calls Tryz.prog 100 #[v1, .int .i64 p1, .int .i64 p2, .int .i64 p3, .func (.func 41) #[] #[]] w0 fun e w' => ∃ x : Unit, e = .returned (.tuple #[.int .i64 r.1, .bool r.2.1]) ∧ Stw ⟨Y, X, w0⟩ [] [row v1 63 Bo r.2.2] w' := by
 refine enter Tryz.func100 Aa Tryz.ntmps100 Aa fun a F => ?_
 have W := hL
 unfold CC at H
 refine vc tk 7 F W fun a w F W => ?_
 refine I4 13 [2, 3] [0, 1, 4, 5, 6, 7, 8, 9, 10, 11, 12] (fun ch a d v w h => by cases d <;> exact h) W MO (by kernel_rfl) ?_
 iterate 2 refine hm F Aa Aa Aa fun a F => ?_
 refine KF ?_
 iterate 4 refine hs F Aa Aa Aa (Aq F Aa).q fun a F => ?_
 obtain ⟨x1, h1, H⟩ := Ag H
 refine hs F Aa Aa Aa (Aw (r := Bo) EJ F Aa Aa (Al 0 Aa) h1).q fun a F => ?_
 refine hs F Aa Aa Aa (An (y := Value.agg #[.int .i64 x1.1, .int .i64 x1.2.1, .int .i64 x1.2.2.1, .int .i64 x1.2.2.2.1, .int .i64 x1.2.2.2.2]) (j := 0) (i := p3) F Aa Aa (Al 0 Aa) h1 EM.to D4 Aa).q fun a F => ?_
 iterate 2 refine hs F Aa Aa Aa (Aq F Aa).q fun a F => ?_
 obtain ⟨x2, h2, H⟩ := Ag H
 refine hs F Aa Aa Aa (Aw (r := Bo) EJ F Aa Aa (Al 0 Aa) h2).q fun a F => ?_
 refine hs F Aa Aa Aa (An (y := Value.agg #[.int .i64 x2.1, .int .i64 x2.2.1, .int .i64 x2.2.2.1, .int .i64 x2.2.2.2.1, .int .i64 x2.2.2.2.2]) (j := 0) (i := p1) F Aa Aa (Al 0 Aa) h2 EM.to D4 Aa).q fun a F => ?_
 obtain ⟨x3, h3, H⟩ := Ag H
 refine hs F Aa Aa Aa (Aw (r := Bo) EJ F Aa Aa (Al 0 Aa) h3).q fun a F => ?_
 refine Nu fun w W => ?_
 have W : Stw ⟨Y, X, w0⟩ [] [row v1 63 Bo p0] w := W
 refine BO (i := p1) (j := 0) (vs := (C1 x1)) (x' := x1) F W Aa Aa Aa (k := 0) Aa Aa h3 D4 Aa Aa Aa Aa (fun A cs _ => EM.sto (by rfl) _ _ _) fun w W => ?_
 obtain ⟨x4, h4, H⟩ := Ag H
 refine ls F W Aa (Aw (r := Bo) EJ F Aa Aa (Al 0 Aa) h4).q fun a w F W => ?_
 refine BO (i := p3) (j := 0) (vs := (C1 x2)) (x' := x2) F W Aa Aa Aa (k := 0) Aa Aa h4 D4 Aa Aa Aa Aa (fun A cs _ => EM.sto (by rfl) _ _ _) fun w W => ?_
 refine Cv tk 12 F W fun a w F W => ?_
 obtain ⟨o1, G1, K1⟩ := Ag H
 refine AA (fun a w => ∃ x5 : Int, some (x5) = some o1 ∧ Fr 178 [] [(0, v1), (1, .int .i64 p1), (4, .func (.func 41) #[] #[]), (10, .int .i64 0), (11, .bool false), (12, .int .i64 x5), (13, .int .i64 (AU (p2 - 1)))] a ∧ Stw ⟨Y, X, w0⟩ [] [row v1 63 Bo (Bm (Bm p0 p1 x1) p3 x2)] w) ?_ ?_
 ·
  have H := G1
  refine Ep ?_
  refine BN H (fun s a w => Fr 178 [] [(0, v1), (1, .int .i64 p1), (4, .func (.func 41) #[] #[]), (10, .int .i64 0), (11, .bool false), (12, .int .i64 s), (13, .int .i64 (AU (p2 - 1)))] a ∧ Stw ⟨Y, X, w0⟩ [] [row v1 63 Bo (Bm (Bm p0 p1 x1) p3 x2)] w) ⟨F.ra Aa, W⟩ fun s o a w H L2 hR => ?_
  obtain ⟨x6, rfl⟩ : ∃ x, x = s := ⟨s, rfl⟩
  obtain ⟨F, W⟩ := hR
  have F : Fr 178 [] [(0, v1), (1, .int .i64 p1), (4, .func (.func 41) #[] #[]), (10, .int .i64 0), (11, .bool false), (12, .int .i64 x6), (13, .int .i64 (AU (p2 - 1)))] a := F
  have W : Stw ⟨Y, X, w0⟩ [] [row v1 63 Bo (Bm (Bm p0 p1 x1) p3 x2)] w := W
  rw [BW] at H
  refine GK ?_
  obtain ⟨o3, G3, K3⟩ := Ag H
  refine AA (fun a w => ∃ x7 : Bool, some (x7) = some o3 ∧ Fr 178 [] [(0, v1), (1, .int .i64 p1), (4, .func (.func 41) #[] #[]), (10, .int .i64 0), (11, .bool false), (12, .int .i64 x6), (13, .int .i64 (AU (p2 - 1))), (47, .bool x7)] a ∧ Stw ⟨Y, X, w0⟩ [] [row v1 63 Bo (Bm (Bm p0 p1 x1) p3 x2)] w) ?_ ?_
  ·
   have H := G3
   refine CH W MO (by kernel_rfl) ?_
   iterate 2 refine qs F Aa (Aq F Aa).q fun a F => ?_
   refine qs F Aa (Lp F Aa Aa).q fun a F => ?_
   refine qs F Aa (Aq F Aa).q fun a F => ?_
   rcases bxq (decide (x6 ≤ (AU (p2 - 1)))) with hb | hb
   ·
    have H := Cg (CQ hb) H
    rw [hb] at F
    iterate 3 refine AP F (Ac F Aa Aa Aa Aa) Aa (Ao Aa) (Aq F Aa).q fun a F => ?_
    obtain ⟨x8, h5, H⟩ := Ag H
    refine AP F (Ac F Aa Aa Aa Aa) Aa (Ao Aa) (Aw (r := Bo) EJ F Aa Aa (Al 0 Aa) h5).q fun a F => ?_
    refine AP F (Ac F Aa Aa Aa Aa) Aa (Ao Aa) (An (y := Value.agg #[.int .i64 x8.1, .int .i64 x8.2.1, .int .i64 x8.2.2.1, .int .i64 x8.2.2.2.1, .int .i64 x8.2.2.2.2]) (j := 0) (i := x6) F Aa Aa (Al 0 Aa) h5 EM.to D4 Aa).q fun a F => ?_
    iterate 2 refine AP F (Ac F Aa Aa Aa Aa) Aa (Ao Aa) (Aq F Aa).q fun a F => ?_
    obtain ⟨x9, h6, H⟩ := Ag H
    refine AP F (Ac F Aa Aa Aa Aa) Aa (Ao Aa) (Aw (r := Bo) EJ F Aa Aa (Al 0 Aa) h6).q fun a F => ?_
    refine AP F (Ac F Aa Aa Aa Aa) Aa (Ao Aa) (An (y := Value.agg #[.int .i64 x9.1, .int .i64 x9.2.1, .int .i64 x9.2.2.1, .int .i64 x9.2.2.2.1, .int .i64 x9.2.2.2.2]) (j := 0) (i := p1) F Aa Aa (Al 0 Aa) h6 EM.to D4 Aa).q fun a F => ?_
    obtain ⟨x10, h7, H⟩ := Ag H
    refine AP F (Ac F Aa Aa Aa Aa) Aa (Ao Aa) (ES (ws := (I9 x8 x9)) (v := Value.int .i64 x10) F Su Aa (fun w W => CE any w x8 x9 _ h7)) fun a F => ?_
    refine AP F (Ac F Aa Aa Aa Aa) Aa (Ao Aa) (GY F Aa Aa).q fun a F => ?_
    refine qs F Aa (BI F Aa Aa Aa).q fun a F => ?_
    refine AO fun w W => ?_
    refine Ad ?_
    exact ⟨_, H, F.ra Aa, W⟩
   have H := Cf (CO hb) H
   rw [hb] at F
   iterate 11 refine Bp F (Be F Aa Aa Aa Aa Aa) Aa Aa fun a F => ?_
   refine qs F Aa (BA F Aa Aa Aa).q fun a F => ?_
   refine AO fun w W => ?_
   refine Ad ?_
   exact ⟨_, H, F.ra Aa, W⟩
  rintro a w ⟨x7, hj, F, W⟩
  have hj := AC hj
  subst hj
  have H := K3
  refine CK F Aa H (fun F H => ?_) fun F H => ?_
  ·
   refine Gp tk 8 F W fun a w F W => ?_
   refine Ad ?_
   exact ⟨_, H, F.ra Aa, W⟩
  refine BB ?_
  iterate 2 refine BR ?_
  refine Bx (Ad ?_)
  have H := L2 _ H
  exact ⟨_, H, F.ra Aa, W⟩
 rintro a w ⟨x5, hj, F, W⟩
 have hj := AC hj
 subst hj
 have H := K1
 obtain ⟨o4, G4, K4⟩ := Ag H
 refine AA (fun a w => ∃ x11 : Int, some (x11) = some o4 ∧ Fr 178 [] [(0, v1), (1, .int .i64 p1), (4, .func (.func 41) #[] #[]), (10, .int .i64 0), (11, .bool false), (12, .int .i64 x5), (13, .int .i64 x11)] a ∧ Stw ⟨Y, X, w0⟩ [] [row v1 63 Bo (Bm (Bm p0 p1 x1) p3 x2)] w) ?_ ?_
 ·
  have H := G4
  refine Ep ?_
  refine BN H (fun s a w => Fr 178 [] [(0, v1), (1, .int .i64 p1), (4, .func (.func 41) #[] #[]), (10, .int .i64 0), (11, .bool false), (12, .int .i64 x5), (13, .int .i64 s)] a ∧ Stw ⟨Y, X, w0⟩ [] [row v1 63 Bo (Bm (Bm p0 p1 x1) p3 x2)] w) ⟨F.ra Aa, W⟩ fun s o a w H L5 hR => ?_
  obtain ⟨x12, rfl⟩ : ∃ x, x = s := ⟨s, rfl⟩
  obtain ⟨F, W⟩ := hR
  have F : Fr 178 [] [(0, v1), (1, .int .i64 p1), (4, .func (.func 41) #[] #[]), (10, .int .i64 0), (11, .bool false), (12, .int .i64 x5), (13, .int .i64 x12)] a := F
  have W : Stw ⟨Y, X, w0⟩ [] [row v1 63 Bo (Bm (Bm p0 p1 x1) p3 x2)] w := W
  rw [Cl] at H
  refine GK ?_
  obtain ⟨o6, G6, K6⟩ := Ag H
  refine AA (fun a w => ∃ x13 : Bool, some (x13) = some o6 ∧ Fr 178 [] [(0, v1), (1, .int .i64 p1), (4, .func (.func 41) #[] #[]), (10, .int .i64 0), (11, .bool false), (12, .int .i64 x5), (13, .int .i64 x12), (66, .bool x13)] a ∧ Stw ⟨Y, X, w0⟩ [] [row v1 63 Bo (Bm (Bm p0 p1 x1) p3 x2)] w) ?_ ?_
  ·
   have H := G6
   refine CH W MO (by kernel_rfl) ?_
   iterate 2 refine qs F Aa (Aq F Aa).q fun a F => ?_
   refine qs F Aa (Lp F Aa Aa).q fun a F => ?_
   refine qs F Aa (Aq F Aa).q fun a F => ?_
   rcases bxq (decide (x5 ≤ x12)) with hb | hb
   ·
    have H := Cg (CQ hb) H
    rw [hb] at F
    iterate 3 refine AP F (Ac F Aa Aa Aa Aa) Aa (Ao Aa) (Aq F Aa).q fun a F => ?_
    obtain ⟨x14, h8, H⟩ := Ag H
    refine AP F (Ac F Aa Aa Aa Aa) Aa (Ao Aa) (Aw (r := Bo) EJ F Aa Aa (Al 0 Aa) h8).q fun a F => ?_
    refine AP F (Ac F Aa Aa Aa Aa) Aa (Ao Aa) (An (y := Value.agg #[.int .i64 x14.1, .int .i64 x14.2.1, .int .i64 x14.2.2.1, .int .i64 x14.2.2.2.1, .int .i64 x14.2.2.2.2]) (j := 0) (i := x12) F Aa Aa (Al 0 Aa) h8 EM.to D4 Aa).q fun a F => ?_
    iterate 2 refine AP F (Ac F Aa Aa Aa Aa) Aa (Ao Aa) (Aq F Aa).q fun a F => ?_
    obtain ⟨x15, h9, H⟩ := Ag H
    refine AP F (Ac F Aa Aa Aa Aa) Aa (Ao Aa) (Aw (r := Bo) EJ F Aa Aa (Al 0 Aa) h9).q fun a F => ?_
    refine AP F (Ac F Aa Aa Aa Aa) Aa (Ao Aa) (An (y := Value.agg #[.int .i64 x15.1, .int .i64 x15.2.1, .int .i64 x15.2.2.1, .int .i64 x15.2.2.2.1, .int .i64 x15.2.2.2.2]) (j := 0) (i := p1) F Aa Aa (Al 0 Aa) h9 EM.to D4 Aa).q fun a F => ?_
    obtain ⟨x16, h10, H⟩ := Ag H
    refine AP F (Ac F Aa Aa Aa Aa) Aa (Ao Aa) (ES (ws := (I9 x14 x15)) (v := Value.int .i64 x16) F Su Aa (fun w W => CE any w x14 x15 _ h10)) fun a F => ?_
    refine AP F (Ac F Aa Aa Aa Aa) Aa (Ao Aa) (GY F Aa Aa).q fun a F => ?_
    refine AP F (Ac F Aa Aa Aa Aa) Aa (Ao Aa) (Kx F Aa).q fun a F => ?_
    refine qs F Aa (BI F Aa Aa Aa).q fun a F => ?_
    refine AO fun w W => ?_
    refine Ad ?_
    exact ⟨_, H, F.ra Aa, W⟩
   have H := Cf (CO hb) H
   rw [hb] at F
   iterate 12 refine Bp F (Be F Aa Aa Aa Aa Aa) Aa Aa fun a F => ?_
   refine qs F Aa (BA F Aa Aa Aa).q fun a F => ?_
   refine AO fun w W => ?_
   refine Ad ?_
   exact ⟨_, H, F.ra Aa, W⟩
  rintro a w ⟨x13, hj, F, W⟩
  have hj := AC hj
  subst hj
  have H := K6
  refine CK F Aa H (fun F H => ?_) fun F H => ?_
  ·
   refine Gp tk 8 F W fun a w F W => ?_
   refine Ad ?_
   exact ⟨_, H, F.ra Aa, W⟩
  refine BB ?_
  iterate 2 refine BR ?_
  refine Bx (Ad ?_)
  have H := L5 _ H
  exact ⟨_, H, F.ra Aa, W⟩
 rintro a w ⟨x11, hj, F, W⟩
 have hj := AC hj
 subst hj
 have H := K4
 refine vc tk 8 F W fun a w F W => ?_
 refine BU F Aa H (fun F H => ?_) fun F H => ?_
 ·
  refine GK ?_
  refine I4 13 [2, 3] [0, 1, 4, 5, 6, 7, 8, 9, 10, 11, 12] (fun ch a d v w h => by cases d <;> exact h) W MO (by kernel_rfl) ?_
  iterate 2 refine hm F Aa Aa Aa fun a F => ?_
  refine KF ?_
  iterate 4 refine hs F Aa Aa Aa (Aq F Aa).q fun a F => ?_
  obtain ⟨x17, h11, H⟩ := Ag H
  refine hs F Aa Aa Aa (Aw (r := Bo) EJ F Aa Aa (Al 0 Aa) h11).q fun a F => ?_
  refine hs F Aa Aa Aa (An (y := Value.agg #[.int .i64 x17.1, .int .i64 x17.2.1, .int .i64 x17.2.2.1, .int .i64 x17.2.2.2.1, .int .i64 x17.2.2.2.2]) (j := 0) (i := p1) F Aa Aa (Al 0 Aa) h11 EM.to D4 Aa).q fun a F => ?_
  iterate 2 refine hs F Aa Aa Aa (Aq F Aa).q fun a F => ?_
  obtain ⟨x18, h12, H⟩ := Ag H
  refine hs F Aa Aa Aa (Aw (r := Bo) EJ F Aa Aa (Al 0 Aa) h12).q fun a F => ?_
  refine hs F Aa Aa Aa (An (y := Value.agg #[.int .i64 x18.1, .int .i64 x18.2.1, .int .i64 x18.2.2.1, .int .i64 x18.2.2.2.1, .int .i64 x18.2.2.2.2]) (j := 0) (i := x11) F Aa Aa (Al 0 Aa) h12 EM.to D4 Aa).q fun a F => ?_
  obtain ⟨x19, h13, H⟩ := Ag H
  refine hs F Aa Aa Aa (Aw (r := Bo) EJ F Aa Aa (Al 0 Aa) h13).q fun a F => ?_
  refine Nu fun w W => ?_
  have W : Stw ⟨Y, X, w0⟩ [] [row v1 63 Bo (Bm (Bm p0 p1 x1) p3 x2)] w := W
  refine BO (i := x11) (j := 0) (vs := (C1 x17)) (x' := x17) F W Aa Aa Aa (k := 0) Aa Aa h13 D4 Aa Aa Aa Aa (fun A cs _ => EM.sto (by rfl) _ _ _) fun w W => ?_
  obtain ⟨x20, h14, H⟩ := Ag H
  refine ls F W Aa (Aw (r := Bo) EJ F Aa Aa (Al 0 Aa) h14).q fun a w F W => ?_
  refine BO (i := p1) (j := 0) (vs := (C1 x18)) (x' := x18) F W Aa Aa Aa (k := 0) Aa Aa h14 D4 Aa Aa Aa Aa (fun A cs _ => EM.sto (by rfl) _ _ _) fun w W => ?_
  refine Cv tk 9 F W fun a w F W => ?_
  refine Am (Az ?_)
  have H := AC H
  subst H
  refine OG (.inl Aa) F W Aa (Ap F Aa) (Ap F Aa) ?_
  exact ⟨(), Aa, W⟩
 refine Gp tk 3 F W fun a w F W => ?_
 refine I4 13 [2, 3] [0, 1, 4, 5, 6, 7, 8, 9, 10, 11, 12] (fun ch a d v w h => by cases d <;> exact h) W MO (by kernel_rfl) ?_
 iterate 2 refine hm F Aa Aa Aa fun a F => ?_
 refine KF ?_
 iterate 4 refine hs F Aa Aa Aa (Aq F Aa).q fun a F => ?_
 obtain ⟨x21, h15, H⟩ := Ag H
 refine hs F Aa Aa Aa (Aw (r := Bo) EJ F Aa Aa (Al 0 Aa) h15).q fun a F => ?_
 refine hs F Aa Aa Aa (An (y := Value.agg #[.int .i64 x21.1, .int .i64 x21.2.1, .int .i64 x21.2.2.1, .int .i64 x21.2.2.2.1, .int .i64 x21.2.2.2.2]) (j := 0) (i := x11) F Aa Aa (Al 0 Aa) h15 EM.to D4 Aa).q fun a F => ?_
 iterate 2 refine hs F Aa Aa Aa (Aq F Aa).q fun a F => ?_
 obtain ⟨x22, h16, H⟩ := Ag H
 refine hs F Aa Aa Aa (Aw (r := Bo) EJ F Aa Aa (Al 0 Aa) h16).q fun a F => ?_
 refine hs F Aa Aa Aa (An (y := Value.agg #[.int .i64 x22.1, .int .i64 x22.2.1, .int .i64 x22.2.2.1, .int .i64 x22.2.2.2.1, .int .i64 x22.2.2.2.2]) (j := 0) (i := x5) F Aa Aa (Al 0 Aa) h16 EM.to D4 Aa).q fun a F => ?_
 obtain ⟨x23, h17, H⟩ := Ag H
 refine hs F Aa Aa Aa (Aw (r := Bo) EJ F Aa Aa (Al 0 Aa) h17).q fun a F => ?_
 refine Nu fun w W => ?_
 have W : Stw ⟨Y, X, w0⟩ [] [row v1 63 Bo (Bm (Bm p0 p1 x1) p3 x2)] w := W
 refine BO (i := x5) (j := 0) (vs := (C1 x21)) (x' := x21) F W Aa Aa Aa (k := 0) Aa Aa h17 D4 Aa Aa Aa Aa (fun A cs _ => EM.sto (by rfl) _ _ _) fun w W => ?_
 obtain ⟨x24, h18, H⟩ := Ag H
 refine ls F W Aa (Aw (r := Bo) EJ F Aa Aa (Al 0 Aa) h18).q fun a w F W => ?_
 refine BO (i := x11) (j := 0) (vs := (C1 x22)) (x' := x22) F W Aa Aa Aa (k := 0) Aa Aa h18 D4 Aa Aa Aa Aa (fun A cs _ => EM.sto (by rfl) _ _ _) fun w W => ?_
 refine Cv tk 16 F W fun a w F W => ?_
 obtain ⟨o7, G7, K7⟩ := Ag H
 refine AA (fun a w => ∃ x25 : List (Int × (Int × Int × Int × Int)), ∃ x26 : Int, some ((x25, x26)) = some o7 ∧ Fr 178 [] [(0, v1), (1, .int .i64 p1), (10, .int .i64 0), (11, .bool false), (13, .int .i64 x26)] a ∧ Stw ⟨Y, X, w0⟩ [] [row v1 63 Bo x25] w) ?_ ?_
 ·
  have H := G7
  refine Ep ?_
  refine BN H (fun s a w => Fr 178 [] [(0, v1), (1, .int .i64 p1), (4, .func (.func 41) #[] #[]), (10, .int .i64 0), (11, .bool false), (12, .int .i64 s.2.1), (13, .int .i64 s.2.2)] a ∧ Stw ⟨Y, X, w0⟩ [] [row v1 63 Bo s.1] w) ⟨F.ra Aa, W⟩ fun s o a w H L8 hR => ?_
  obtain ⟨x27, x28, x29⟩ := s
  obtain ⟨F, W⟩ := hR
  have F : Fr 178 [] [(0, v1), (1, .int .i64 p1), (4, .func (.func 41) #[] #[]), (10, .int .i64 0), (11, .bool false), (12, .int .i64 x28), (13, .int .i64 x29)] a := F
  have W : Stw ⟨Y, X, w0⟩ [] [row v1 63 Bo x27] w := W
  rw [BH] at H
  refine Ep ?_
  obtain ⟨o9, G9, K9⟩ := Ag H
  refine AA (fun a w => ∃ x30 : Int, some (x30) = some o9 ∧ Fr 178 [] [(0, v1), (1, .int .i64 p1), (4, .func (.func 41) #[] #[]), (10, .int .i64 0), (11, .bool false), (12, .int .i64 x30), (13, .int .i64 x29)] a ∧ Stw ⟨Y, X, w0⟩ [] [row v1 63 Bo x27] w) ?_ ?_
  ·
   have H := G9
   refine Ep ?_
   refine BN H (fun s a w => Fr 178 [] [(0, v1), (1, .int .i64 p1), (4, .func (.func 41) #[] #[]), (10, .int .i64 0), (11, .bool false), (12, .int .i64 s), (13, .int .i64 x29)] a ∧ Stw ⟨Y, X, w0⟩ [] [row v1 63 Bo x27] w) ⟨F.ra Aa, W⟩ fun s o a w H L10 hR => ?_
   obtain ⟨x31, rfl⟩ : ∃ x, x = s := ⟨s, rfl⟩
   obtain ⟨F, W⟩ := hR
   have F : Fr 178 [] [(0, v1), (1, .int .i64 p1), (4, .func (.func 41) #[] #[]), (10, .int .i64 0), (11, .bool false), (12, .int .i64 x31), (13, .int .i64 x29)] a := F
   have W : Stw ⟨Y, X, w0⟩ [] [row v1 63 Bo x27] w := W
   rw [Cm] at H
   refine GK ?_
   obtain ⟨o11, G11, K11⟩ := Ag H
   refine AA (fun a w => ∃ x32 : Bool, some (x32) = some o11 ∧ Fr 178 [] [(0, v1), (1, .int .i64 p1), (4, .func (.func 41) #[] #[]), (10, .int .i64 0), (11, .bool false), (12, .int .i64 x31), (13, .int .i64 x29), (120, .bool x32)] a ∧ Stw ⟨Y, X, w0⟩ [] [row v1 63 Bo x27] w) ?_ ?_
   ·
    have H := G11
    refine CH W MO (by kernel_rfl) ?_
    iterate 2 refine qs F Aa (Aq F Aa).q fun a F => ?_
    refine qs F Aa (Lp F Aa Aa).q fun a F => ?_
    refine qs F Aa (Aq F Aa).q fun a F => ?_
    rcases bxq (decide (x31 ≤ x29)) with hb | hb
    ·
     have H := Cg (CQ hb) H
     rw [hb] at F
     iterate 3 refine AP F (Ac F Aa Aa Aa Aa) Aa (Ao Aa) (Aq F Aa).q fun a F => ?_
     obtain ⟨x33, h19, H⟩ := Ag H
     refine AP F (Ac F Aa Aa Aa Aa) Aa (Ao Aa) (Aw (r := Bo) EJ F Aa Aa (Al 0 Aa) h19).q fun a F => ?_
     refine AP F (Ac F Aa Aa Aa Aa) Aa (Ao Aa) (An (y := Value.agg #[.int .i64 x33.1, .int .i64 x33.2.1, .int .i64 x33.2.2.1, .int .i64 x33.2.2.2.1, .int .i64 x33.2.2.2.2]) (j := 0) (i := x31) F Aa Aa (Al 0 Aa) h19 EM.to D4 Aa).q fun a F => ?_
     iterate 2 refine AP F (Ac F Aa Aa Aa Aa) Aa (Ao Aa) (Aq F Aa).q fun a F => ?_
     obtain ⟨x34, h20, H⟩ := Ag H
     refine AP F (Ac F Aa Aa Aa Aa) Aa (Ao Aa) (Aw (r := Bo) EJ F Aa Aa (Al 0 Aa) h20).q fun a F => ?_
     refine AP F (Ac F Aa Aa Aa Aa) Aa (Ao Aa) (An (y := Value.agg #[.int .i64 x34.1, .int .i64 x34.2.1, .int .i64 x34.2.2.1, .int .i64 x34.2.2.2.1, .int .i64 x34.2.2.2.2]) (j := 0) (i := p1) F Aa Aa (Al 0 Aa) h20 EM.to D4 Aa).q fun a F => ?_
     obtain ⟨x35, h21, H⟩ := Ag H
     refine AP F (Ac F Aa Aa Aa Aa) Aa (Ao Aa) (ES (ws := (I9 x33 x34)) (v := Value.int .i64 x35) F Su Aa (fun w W => CE any w x33 x34 _ h21)) fun a F => ?_
     refine AP F (Ac F Aa Aa Aa Aa) Aa (Ao Aa) (GY F Aa Aa).q fun a F => ?_
     refine qs F Aa (BI F Aa Aa Aa).q fun a F => ?_
     refine AO fun w W => ?_
     refine Ad ?_
     exact ⟨_, H, F.ra Aa, W⟩
    have H := Cf (CO hb) H
    rw [hb] at F
    iterate 11 refine Bp F (Be F Aa Aa Aa Aa Aa) Aa Aa fun a F => ?_
    refine qs F Aa (BA F Aa Aa Aa).q fun a F => ?_
    refine AO fun w W => ?_
    refine Ad ?_
    exact ⟨_, H, F.ra Aa, W⟩
   rintro a w ⟨x32, hj, F, W⟩
   have hj := AC hj
   subst hj
   have H := K11
   refine CK F Aa H (fun F H => ?_) fun F H => ?_
   ·
    refine Gp tk 8 F W fun a w F W => ?_
    refine Ad ?_
    exact ⟨_, H, F.ra Aa, W⟩
   refine BB ?_
   iterate 2 refine BR ?_
   refine Bx (Ad ?_)
   have H := L10 _ H
   exact ⟨_, H, F.ra Aa, W⟩
  rintro a w ⟨x30, hj, F, W⟩
  have hj := AC hj
  subst hj
  have H := K9
  obtain ⟨o12, G12, K12⟩ := Ag H
  refine AA (fun a w => ∃ x36 : Int, some (x36) = some o12 ∧ Fr 178 [] [(0, v1), (1, .int .i64 p1), (4, .func (.func 41) #[] #[]), (10, .int .i64 0), (11, .bool false), (12, .int .i64 x30), (13, .int .i64 x36)] a ∧ Stw ⟨Y, X, w0⟩ [] [row v1 63 Bo x27] w) ?_ ?_
  ·
   have H := G12
   refine Ep ?_
   refine BN H (fun s a w => Fr 178 [] [(0, v1), (1, .int .i64 p1), (4, .func (.func 41) #[] #[]), (10, .int .i64 0), (11, .bool false), (12, .int .i64 x30), (13, .int .i64 s)] a ∧ Stw ⟨Y, X, w0⟩ [] [row v1 63 Bo x27] w) ⟨F.ra Aa, W⟩ fun s o a w H L13 hR => ?_
   obtain ⟨x37, rfl⟩ : ∃ x, x = s := ⟨s, rfl⟩
   obtain ⟨F, W⟩ := hR
   have F : Fr 178 [] [(0, v1), (1, .int .i64 p1), (4, .func (.func 41) #[] #[]), (10, .int .i64 0), (11, .bool false), (12, .int .i64 x30), (13, .int .i64 x37)] a := F
   have W : Stw ⟨Y, X, w0⟩ [] [row v1 63 Bo x27] w := W
   rw [Ck] at H
   refine GK ?_
   obtain ⟨o14, G14, K14⟩ := Ag H
   refine AA (fun a w => ∃ x38 : Bool, some (x38) = some o14 ∧ Fr 178 [] [(0, v1), (1, .int .i64 p1), (4, .func (.func 41) #[] #[]), (10, .int .i64 0), (11, .bool false), (12, .int .i64 x30), (13, .int .i64 x37), (139, .bool x38)] a ∧ Stw ⟨Y, X, w0⟩ [] [row v1 63 Bo x27] w) ?_ ?_
   ·
    have H := G14
    refine CH W MO (by kernel_rfl) ?_
    iterate 2 refine qs F Aa (Aq F Aa).q fun a F => ?_
    refine qs F Aa (Lp F Aa Aa).q fun a F => ?_
    refine qs F Aa (Aq F Aa).q fun a F => ?_
    rcases bxq (decide (x30 ≤ x37)) with hb | hb
    ·
     have H := Cg (CQ hb) H
     rw [hb] at F
     iterate 3 refine AP F (Ac F Aa Aa Aa Aa) Aa (Ao Aa) (Aq F Aa).q fun a F => ?_
     obtain ⟨x39, h22, H⟩ := Ag H
     refine AP F (Ac F Aa Aa Aa Aa) Aa (Ao Aa) (Aw (r := Bo) EJ F Aa Aa (Al 0 Aa) h22).q fun a F => ?_
     refine AP F (Ac F Aa Aa Aa Aa) Aa (Ao Aa) (An (y := Value.agg #[.int .i64 x39.1, .int .i64 x39.2.1, .int .i64 x39.2.2.1, .int .i64 x39.2.2.2.1, .int .i64 x39.2.2.2.2]) (j := 0) (i := x37) F Aa Aa (Al 0 Aa) h22 EM.to D4 Aa).q fun a F => ?_
     iterate 2 refine AP F (Ac F Aa Aa Aa Aa) Aa (Ao Aa) (Aq F Aa).q fun a F => ?_
     obtain ⟨x40, h23, H⟩ := Ag H
     refine AP F (Ac F Aa Aa Aa Aa) Aa (Ao Aa) (Aw (r := Bo) EJ F Aa Aa (Al 0 Aa) h23).q fun a F => ?_
     refine AP F (Ac F Aa Aa Aa Aa) Aa (Ao Aa) (An (y := Value.agg #[.int .i64 x40.1, .int .i64 x40.2.1, .int .i64 x40.2.2.1, .int .i64 x40.2.2.2.1, .int .i64 x40.2.2.2.2]) (j := 0) (i := p1) F Aa Aa (Al 0 Aa) h23 EM.to D4 Aa).q fun a F => ?_
     obtain ⟨x41, h24, H⟩ := Ag H
     refine AP F (Ac F Aa Aa Aa Aa) Aa (Ao Aa) (ES (ws := (I9 x39 x40)) (v := Value.int .i64 x41) F Su Aa (fun w W => CE any w x39 x40 _ h24)) fun a F => ?_
     refine AP F (Ac F Aa Aa Aa Aa) Aa (Ao Aa) (GY F Aa Aa).q fun a F => ?_
     refine AP F (Ac F Aa Aa Aa Aa) Aa (Ao Aa) (Kx F Aa).q fun a F => ?_
     refine qs F Aa (BI F Aa Aa Aa).q fun a F => ?_
     refine AO fun w W => ?_
     refine Ad ?_
     exact ⟨_, H, F.ra Aa, W⟩
    have H := Cf (CO hb) H
    rw [hb] at F
    iterate 12 refine Bp F (Be F Aa Aa Aa Aa Aa) Aa Aa fun a F => ?_
    refine qs F Aa (BA F Aa Aa Aa).q fun a F => ?_
    refine AO fun w W => ?_
    refine Ad ?_
    exact ⟨_, H, F.ra Aa, W⟩
   rintro a w ⟨x38, hj, F, W⟩
   have hj := AC hj
   subst hj
   have H := K14
   refine CK F Aa H (fun F H => ?_) fun F H => ?_
   ·
    refine Gp tk 8 F W fun a w F W => ?_
    refine Ad ?_
    exact ⟨_, H, F.ra Aa, W⟩
   refine BB ?_
   iterate 2 refine BR ?_
   refine Bx (Ad ?_)
   have H := L13 _ H
   exact ⟨_, H, F.ra Aa, W⟩
  rintro a w ⟨x36, hj, F, W⟩
  have hj := AC hj
  subst hj
  have H := K12
  refine vc tk 8 F W fun a w F W => ?_
  refine BU F Aa H (fun F H => ?_) fun F H => ?_
  ·
   refine BB (BR ?_)
   refine Nd Aa ?_
   refine BR (Bx (Ad ?_))
   have H := L8 _ H
   exact ⟨_, _, H, F.ra Aa, W⟩
  refine Gp tk 3 F W fun a w F W => ?_
  refine I4 13 [2, 3] [0, 1, 4, 5, 6, 7, 8, 9, 10, 11, 12] (fun ch a d v w h => by cases d <;> exact h) W MO (by kernel_rfl) ?_
  iterate 2 refine hm F Aa Aa Aa fun a F => ?_
  refine KF ?_
  iterate 4 refine hs F Aa Aa Aa (Aq F Aa).q fun a F => ?_
  obtain ⟨x42, h25, H⟩ := Ag H
  refine hs F Aa Aa Aa (Aw (r := Bo) EJ F Aa Aa (Al 0 Aa) h25).q fun a F => ?_
  refine hs F Aa Aa Aa (An (y := Value.agg #[.int .i64 x42.1, .int .i64 x42.2.1, .int .i64 x42.2.2.1, .int .i64 x42.2.2.2.1, .int .i64 x42.2.2.2.2]) (j := 0) (i := x36) F Aa Aa (Al 0 Aa) h25 EM.to D4 Aa).q fun a F => ?_
  iterate 2 refine hs F Aa Aa Aa (Aq F Aa).q fun a F => ?_
  obtain ⟨x43, h26, H⟩ := Ag H
  refine hs F Aa Aa Aa (Aw (r := Bo) EJ F Aa Aa (Al 0 Aa) h26).q fun a F => ?_
  refine hs F Aa Aa Aa (An (y := Value.agg #[.int .i64 x43.1, .int .i64 x43.2.1, .int .i64 x43.2.2.1, .int .i64 x43.2.2.2.1, .int .i64 x43.2.2.2.2]) (j := 0) (i := x30) F Aa Aa (Al 0 Aa) h26 EM.to D4 Aa).q fun a F => ?_
  obtain ⟨x44, h27, H⟩ := Ag H
  refine hs F Aa Aa Aa (Aw (r := Bo) EJ F Aa Aa (Al 0 Aa) h27).q fun a F => ?_
  refine Nu fun w W => ?_
  have W : Stw ⟨Y, X, w0⟩ [] [row v1 63 Bo x27] w := W
  refine BO (i := x30) (j := 0) (vs := (C1 x42)) (x' := x42) F W Aa Aa Aa (k := 0) Aa Aa h27 D4 Aa Aa Aa Aa (fun A cs _ => EM.sto (by rfl) _ _ _) fun w W => ?_
  obtain ⟨x45, h28, H⟩ := Ag H
  refine ls F W Aa (Aw (r := Bo) EJ F Aa Aa (Al 0 Aa) h28).q fun a w F W => ?_
  refine BO (i := x36) (j := 0) (vs := (C1 x43)) (x' := x43) F W Aa Aa Aa (k := 0) Aa Aa h28 D4 Aa Aa Aa Aa (fun A cs _ => EM.sto (by rfl) _ _ _) fun w W => ?_
  refine Cv tk 14 F W fun a w F W => ?_
  refine AM (Ad ?_)
  exact ⟨_, H, F.ra Aa, W⟩
 rintro a w ⟨x25, x26, hj, F, W⟩
 have hj := AC hj
 subst hj
 have H := K7
 refine GK ?_
 refine I4 13 [2, 3] [0, 1, 4, 5, 6, 7, 8, 9, 10, 11, 12] (fun ch a d v w h => by cases d <;> exact h) W MO (by kernel_rfl) ?_
 iterate 2 refine hm F Aa Aa Aa fun a F => ?_
 refine KF ?_
 iterate 4 refine hs F Aa Aa Aa (Aq F Aa).q fun a F => ?_
 obtain ⟨x46, h29, H⟩ := Ag H
 refine hs F Aa Aa Aa (Aw (r := Bo) EJ F Aa Aa (Al 0 Aa) h29).q fun a F => ?_
 refine hs F Aa Aa Aa (An (y := Value.agg #[.int .i64 x46.1, .int .i64 x46.2.1, .int .i64 x46.2.2.1, .int .i64 x46.2.2.2.1, .int .i64 x46.2.2.2.2]) (j := 0) (i := p1) F Aa Aa (Al 0 Aa) h29 EM.to D4 Aa).q fun a F => ?_
 iterate 2 refine hs F Aa Aa Aa (Aq F Aa).q fun a F => ?_
 obtain ⟨x47, h30, H⟩ := Ag H
 refine hs F Aa Aa Aa (Aw (r := Bo) EJ F Aa Aa (Al 0 Aa) h30).q fun a F => ?_
 refine hs F Aa Aa Aa (An (y := Value.agg #[.int .i64 x47.1, .int .i64 x47.2.1, .int .i64 x47.2.2.1, .int .i64 x47.2.2.2.1, .int .i64 x47.2.2.2.2]) (j := 0) (i := x26) F Aa Aa (Al 0 Aa) h30 EM.to D4 Aa).q fun a F => ?_
 obtain ⟨x48, h31, H⟩ := Ag H
 refine hs F Aa Aa Aa (Aw (r := Bo) EJ F Aa Aa (Al 0 Aa) h31).q fun a F => ?_
 refine Nu fun w W => ?_
 have W : Stw ⟨Y, X, w0⟩ [] [row v1 63 Bo x25] w := W
 refine BO (i := x26) (j := 0) (vs := (C1 x46)) (x' := x46) F W Aa Aa Aa (k := 0) Aa Aa h31 D4 Aa Aa Aa Aa (fun A cs _ => EM.sto (by rfl) _ _ _) fun w W => ?_
 obtain ⟨x49, h32, H⟩ := Ag H
 refine ls F W Aa (Aw (r := Bo) EJ F Aa Aa (Al 0 Aa) h32).q fun a w F W => ?_
 refine BO (i := p1) (j := 0) (vs := (C1 x47)) (x' := x47) F W Aa Aa Aa (k := 0) Aa Aa h32 D4 Aa Aa Aa Aa (fun A cs _ => EM.sto (by rfl) _ _ _) fun w W => ?_
 refine Cv tk 9 F W fun a w F W => ?_
 refine Am ?_
 have H := AC H
 subst H
 refine OG (.inl Aa) F W Aa (Ap F Aa) (Ap F Aa) ?_
 exact ⟨(), Aa, W⟩
theorem Tp : type_of% Tryz.underlying104 := Tryz.underlying104
theorem Xy : Has Tryz.prog 100 := CP Tryz.func100
theorem X2 : Has Tryz.prog 73 := CP Tryz.func73
theorem XZ : (Tryz.prog.info? 150).bind (·.zero) = some (.int .u64 0) := by kernel_rfl
theorem PA : Ty Tryz.prog 150 false 1 := ⟨by kernel_rfl, by kernel_rfl⟩
def Dk (p0 : Int) : Option Int := (FX (IntKind.u64.wrap p0)).bind fun x1 => (VN (Ic .u64 1 x1) x1).bind fun x2 => some x2
theorem JC (Y : Nat → Prop) (w0 : World)  (p0 : Int) (r : Int) (H : Dk p0 = some r)  :
    Calls Tryz.prog 126 #[.int .i64 p0] w0 fun e w' => e = .returned (.int .u64 r) ∧ Below w0.heap.size w0 w' := by
 refine enter Tryz.func126 Aa Tryz.ntmps126 Aa fun a F => ?_
 have W := Stw.start Y w0
 unfold Dk at H
 refine vc tk 8 F W fun a w F W => ?_
 refine ls F W Aa (Lf VX Tp F Aa).q fun a w F W => ?_
 obtain ⟨x1, h1, H⟩ := Ag H
 refine ls F W Aa (AL (v := Value.int .i64 x1) F YI Aa (fun w W => J6 any w (IntKind.u64.wrap p0) _ h1)) fun a w F W => ?_
 obtain ⟨x2, h2, H⟩ := Ag H
 refine ls F W Aa (Vc (Mv h2).2 (SA F Aa Aa (Mv h2).1)).q fun a w F W => ?_
 refine Cv tk 3 F W fun a w F W => ?_
 refine Am ?_
 have H := AC H
 subst H
 refine Ax (.inl Aa) F W Aa (Ap F Aa) ?_
 exact ⟨rfl, W.done⟩
theorem Yc : Has Tryz.prog 126 := CP Tryz.func126
def BV (p0 : Int) : Int × Int := (HV .u64 (HV .u64 (HV .u64 p0 (Ic .u64 p0 13)) (Ke .u64 (HV .u64 p0 (Ic .u64 p0 13)) 7)) (Ic .u64 (HV .u64 (HV .u64 p0 (Ic .u64 p0 13)) (Ke .u64 (HV .u64 p0 (Ic .u64 p0 13)) 7)) 17), HV .u64 (HV .u64 (HV .u64 p0 (Ic .u64 p0 13)) (Ke .u64 (HV .u64 p0 (Ic .u64 p0 13)) 7)) (Ic .u64 (HV .u64 (HV .u64 p0 (Ic .u64 p0 13)) (Ke .u64 (HV .u64 p0 (Ic .u64 p0 13)) 7)) 17))
theorem JZ (Y : Nat → Prop) (X : List Nat) (w0 : World) (q_p0 : Nat) (p0 : Int) (r : Int × Int) (H : BV p0 = r) (hL : Stw ⟨Y, X, w0⟩ [(q_p0, [.int .u64 p0])] [] w0) :
    Calls Tryz.prog 127 #[.pointer (some ⟨q_p0, 0, none⟩)] w0 fun e w' => ∃ x : Unit, e = .returned (.int .u64 r.1) ∧ Stw ⟨Y, X, w0⟩ [(q_p0, [.int .u64 r.2])] [] w' := by
 refine enter Tryz.func127 Aa Tryz.ntmps127 Aa fun a F => ?_
 have W := hL
 unfold BV at H
 refine vc tk 6 F W fun a w F W => ?_
 refine KU 9 W MO (by kernel_rfl) ?_
 refine qs F Aa (Aq F Aa).q fun a F => ?_
 refine qs F Aa (CG F Aa).q fun a F => ?_
 refine qs F Aa (Bu (v := Value.int .u64 p0) 0 F Aa Aa PA Aa).q fun a F => ?_
 refine qs F Aa (Aq F Aa).q fun a F => ?_
 refine qs F Aa (CG F Aa).q fun a F => ?_
 refine qs F Aa (Bu (v := Value.int .u64 p0) 0 F Aa Aa PA Aa).q fun a F => ?_
 refine qs F Aa (SA F Aa Aa (by decide)).q fun a F => ?_
 refine qs F Aa (Sz F Aa Aa).q fun a F => ?_
 refine qs F Aa (CG F Aa).q fun a F => ?_
 refine AO fun w W => ?_
 refine DZ 0 F W Aa Aa Aa PA Aa Aa Aa fun w W => ?_
 refine Cv tk 3 F W fun a w F W => ?_
 refine KU 9 W MO (by kernel_rfl) ?_
 refine qs F Aa (Aq F Aa).q fun a F => ?_
 refine qs F Aa (CG F Aa).q fun a F => ?_
 refine qs F Aa (Bu (v := Value.int .u64 (HV .u64 p0 (Ic .u64 p0 13))) 0 F Aa Aa PA Aa).q fun a F => ?_
 refine qs F Aa (Aq F Aa).q fun a F => ?_
 refine qs F Aa (CG F Aa).q fun a F => ?_
 refine qs F Aa (Bu (v := Value.int .u64 (HV .u64 p0 (Ic .u64 p0 13))) 0 F Aa Aa PA Aa).q fun a F => ?_
 refine qs F Aa (Sm F Aa Aa (by decide)).q fun a F => ?_
 refine qs F Aa (Sz F Aa Aa).q fun a F => ?_
 refine qs F Aa (CG F Aa).q fun a F => ?_
 refine AO fun w W => ?_
 refine DZ 0 F W Aa Aa Aa PA Aa Aa Aa fun w W => ?_
 refine Cv tk 3 F W fun a w F W => ?_
 refine KU 9 W MO (by kernel_rfl) ?_
 refine qs F Aa (Aq F Aa).q fun a F => ?_
 refine qs F Aa (CG F Aa).q fun a F => ?_
 refine qs F Aa (Bu (v := Value.int .u64 (HV .u64 (HV .u64 p0 (Ic .u64 p0 13)) (Ke .u64 (HV .u64 p0 (Ic .u64 p0 13)) 7))) 0 F Aa Aa PA Aa).q fun a F => ?_
 refine qs F Aa (Aq F Aa).q fun a F => ?_
 refine qs F Aa (CG F Aa).q fun a F => ?_
 refine qs F Aa (Bu (v := Value.int .u64 (HV .u64 (HV .u64 p0 (Ic .u64 p0 13)) (Ke .u64 (HV .u64 p0 (Ic .u64 p0 13)) 7))) 0 F Aa Aa PA Aa).q fun a F => ?_
 refine qs F Aa (SA F Aa Aa (by decide)).q fun a F => ?_
 refine qs F Aa (Sz F Aa Aa).q fun a F => ?_
 refine qs F Aa (CG F Aa).q fun a F => ?_
 refine AO fun w W => ?_
 refine DZ 0 F W Aa Aa Aa PA Aa Aa Aa fun w W => ?_
 refine Cv tk 5 F W fun a w F W => ?_
 refine ls F W Aa (CG F Aa).q fun a w F W => ?_
 refine Gz tk 4 [0] F W (ai fun a w F W => ?_)
 refine Am ?_
 subst H
 refine Ax (.inl Aa) F W Aa (Ap F Aa) ?_
 exact ⟨(), Aa, W⟩
theorem Xa : type_of% Tryz.underlying150 := Tryz.underlying150
theorem X9 : Has Tryz.prog 127 := CP Tryz.func127
def BK (p1 : Int) (p2 : Int) (x1 : Int) : ((List (Int × (Int × Int × Int × Int))) × Int × Int) → Option (((List (Int × (Int × Int × Int × Int))) × Int × Int) ⊕ (List (Int × (Int × Int × Int × Int))))
  | (x2, x3, x4) => (if x3 ≤ (AU ((AU (p1 + (AU ((AU (Int.tdiv (AU (p2 - p1)) 4)) * 2)))) + 1)) then (if (AU (p2 - p1)) ≤ (AU (RF .u64 ((BV x4).1) (IntKind.u64.wrap (x1 - 1)))) then some (AU ((AU (RF .u64 ((BV x4).1) (IntKind.u64.wrap (x1 - 1)))) - (AU (p2 - p1)))) else some (AU (RF .u64 ((BV x4).1) (IntKind.u64.wrap (x1 - 1))))).bind fun x5 => (ix x2 (AU (p1 + x5))).bind fun x6 => (ix x2 x3).bind fun x7 => (ix x2 x3).bind fun x8 => (ix (Bm x2 x3 x6) (AU (p1 + x5))).bind fun x9 => some (.inl ((Bm (Bm x2 x3 x6) (AU (p1 + x5)) x7), AU (x3 + 1), (BV x4).2)) else some (.inr x2))
def BQ (p0 : List (Int × (Int × Int × Int × Int))) (p1 : Int) (p2 : Int) : Option (List (Int × (Int × Int × Int × Int))) := (if 8 ≤ (AU (p2 - p1)) then (Dk (AU (p2 - p1))).bind fun x1 => Ba (BK p1 p2 x1) (p0, AU ((AU (p1 + (AU ((AU (Int.tdiv (AU (p2 - p1)) 4)) * 2)))) - 1), IntKind.u64.wrap (AU (p2 - p1))) else some p0)
theorem Gv (Y : Nat → Prop) (X : List Nat) (w0 : World) (v1 : Value) (p0 : List (Int × (Int × Int × Int × Int))) (p1 : Int) (p2 : Int) (r : (List (Int × (Int × Int × Int × Int)))) (H : BQ p0 p1 p2 = some r) (hL : Stw ⟨Y, X, w0⟩ [] [row v1 63 Bo p0] w0) :
    Calls Tryz.prog 95 #[v1, .int .i64 p1, .int .i64 p2, .func (.func 41) #[] #[]] w0 fun e w' => ∃ x : Unit, e = .returned (.tuple #[]) ∧ Stw ⟨Y, X, w0⟩ [] [row v1 63 Bo r] w' := by
 refine enter Tryz.func95 Aa Tryz.ntmps95 Aa fun a F => ?_
 have W := hL
 unfold BQ at H
 refine vc tk 14 F W fun a w F W => ?_
 refine BU F Aa H (fun F H => ?_) fun F H => ?_
 ·
  refine vc tk 3 F W fun a w F W => ?_
  refine ls F W Aa (Lf VX Xa F Aa).q fun a w F W => ?_
  refine AF (cs := [.int .u64 0]) F W Aa XZ Aa fun b1 a w F W => ?_
  refine DZ 0 F W Aa Aa Aa PA Aa Aa Aa fun w W => ?_
  refine Cv tk 5 F W fun a w F W => ?_
  obtain ⟨x1, h1, H⟩ := Ag H
  refine ls F W Aa (AL (v := Value.int .u64 x1) F Yc Aa (fun w W => JC any w (AU (p2 - p1)) _ h1)) fun a w F W => ?_
  refine Cv tk 7 F W fun a w F W => ?_
  refine ls F W Aa (O8 F Aa Aa (by decide) Aa).q fun a w F W => ?_
  refine Cv tk 7 F W fun a w F W => ?_
  refine BN H (fun s a w => Fr 67 [] [(0, v1), (1, .int .i64 p1), (8, .int .i64 (AU (p2 - p1))), (9, .pointer (some ⟨b1, 0, none⟩)), (10, .int .u64 x1), (11, .int .i64 s.2.1)] a ∧ Stw ⟨Y, X, w0⟩ [(b1, [.int .u64 s.2.2])] [row v1 63 Bo s.1] w) ⟨F.ra Aa, W⟩ fun s o a w H L1 hR => ?_
  obtain ⟨x2, x3, x4⟩ := s
  obtain ⟨F, W⟩ := hR
  have F : Fr 67 [] [(0, v1), (1, .int .i64 p1), (8, .int .i64 (AU (p2 - p1))), (9, .pointer (some ⟨b1, 0, none⟩)), (10, .int .u64 x1), (11, .int .i64 x3)] a := F
  have W : Stw ⟨Y, X, w0⟩ [(b1, [.int .u64 x4])] [row v1 63 Bo x2] w := W
  rw [BK] at H
  refine vc tk 6 F W fun a w F W => ?_
  refine ls F W Aa (O8 F Aa Aa (by decide) Aa).q fun a w F W => ?_
  refine Cv tk 6 F W fun a w F W => ?_
  refine BU F Aa H (fun F H => ?_) fun F H => ?_
  ·
   refine Gp tk 6 F W fun a w F W => ?_
   refine A7 (Ml := [(b1, [.int .u64 x4])]) (Zl := []) (β := Unit) (rv := fun x => .int .u64 ((BV x4).1)) (MM := fun x => [(b1, [.int .u64 ((BV x4).2)])]) (ZZ := fun x => []) F W X9 Aa Aa (fun hL => JZ _ _ w b1 x4 _ Aa hL) fun x a w F W => ?_
   have W : Stw ⟨Y, X, w0⟩ [(b1, [.int .u64 ((BV x4).2)])] [row v1 63 Bo x2] w := W
   refine vl tk 3 F W fun a w F W => ?_
   refine ls F W Aa (Lf Tp VX F Aa).q fun a w F W => ?_
   refine vl tk 2 F W fun a w F W => ?_
   refine Ad ?_
   obtain ⟨o2, G2, K2⟩ := Ag H
   refine AA (fun a w => ∃ x5 : Int, some (x5) = some o2 ∧ Fr 67 [] [(0, v1), (1, .int .i64 p1), (8, .int .i64 (AU (p2 - p1))), (9, .pointer (some ⟨b1, 0, none⟩)), (10, .int .u64 x1), (11, .int .i64 x3), (12, .int .i64 x5)] a ∧ Stw ⟨Y, X, w0⟩ [(b1, [.int .u64 ((BV x4).2)])] [row v1 63 Bo x2] w) ?_ ?_
   ·
    have H := G2
    refine vc tk 7 F W fun a w F W => ?_
    refine BU F Aa H (fun F H => ?_) fun F H => ?_
    ·
     refine vc tk 6 F W fun a w F W => ?_
     refine Ad ?_
     exact ⟨_, H, F.ra Aa, W⟩
    refine Bc (Ad ?_)
    exact ⟨_, H, F.ra Aa, W⟩
   rintro a w ⟨x5, hj, F, W⟩
   have hj := AC hj
   subst hj
   have H := K2
   refine EX [(true, 0), (true, 1), (true, 2), (true, 3), (true, 4), (true, 5), (true, 6), (true, 7), (true, 8), (true, 9), (true, 10), (true, 11), (true, 12), (true, 13), (true, 14), (true, 15), (true, 16), (false, 17), (true, 18), (false, 19)] (CN ⟨Y, X, w0⟩ [] [(some 17, row v1 63 Bo x2)]) (fun ch a d v w h => by cases d <;> exact h) MO (by kernel_rfl) W (fun w W => ⟨_, _, W, Ab, (all_cons (fun _ => (.head _)) Ab)⟩) fun w W => ?_
   iterate 5 refine BD (R := []) F Aa Aa (yC fun M Z hN hZ => Aq F Aa) Aa Aa fun a F => ?_
   refine BD (R := []) F Aa Aa (yC fun M Z hN hZ => Iv F Aa Aa Aa) Aa Aa fun a F => ?_
   iterate 3 refine BD (R := []) F Aa Aa (yC fun M Z hN hZ => Aq F Aa) Aa Aa fun a F => ?_
   refine BD (R := []) F Aa Aa (yC fun M Z hN hZ => Iv F Aa Aa Aa) Aa Aa fun a F => ?_
   obtain ⟨x6, h2, H⟩ := Ag H
   refine BD (R := []) F Aa Aa (yC fun M Z hN hZ => Cy (r := Bo) EJ F Aa Aa (EK W (Al 0 Aa)) h2) Aa Aa fun a F => ?_
   refine BD (R := [17]) F Aa Aa (yC fun M Z hN hZ => An (y := Value.agg #[.int .i64 x6.1, .int .i64 x6.2.1, .int .i64 x6.2.2.1, .int .i64 x6.2.2.2.1, .int .i64 x6.2.2.2.2]) (j := 0) (i := AU (p1 + x5)) F Aa Aa (D3 (hZ ((some 17), row v1 63 Bo x2) (.head _) Aa)) h2 EM.to D4 Aa) (by kernel_rfl) Aa fun a F => ?_
   iterate 2 refine BD (R := []) F Aa Aa (yC fun M Z hN hZ => Aq F Aa) Aa Aa fun a F => ?_
   obtain ⟨x7, h3, H⟩ := Ag H
   refine BD (R := []) F Aa Aa (yC fun M Z hN hZ => Cy (r := Bo) EJ F Aa Aa (EK W (Al 0 Aa)) h3) Aa Aa fun a F => ?_
   refine BD (R := [17]) F Aa Aa (yC fun M Z hN hZ => An (y := Value.agg #[.int .i64 x7.1, .int .i64 x7.2.1, .int .i64 x7.2.2.1, .int .i64 x7.2.2.2.1, .int .i64 x7.2.2.2.2]) (j := 0) (i := x3) F Aa Aa (D3 (hZ ((some 17), row v1 63 Bo x2) (.head _) Aa)) h3 EM.to D4 Aa) (by kernel_rfl) Aa fun a F => ?_
   obtain ⟨x8, h4, H⟩ := Ag H
   refine BD (R := []) F Aa Aa (yC fun M Z hN hZ => Cy (r := Bo) EJ F Aa Aa (EK W (Al 0 Aa)) h4) Aa Aa fun a F => ?_
   refine DU Aa ?_
   refine BO (i := x3) (j := 0) (vs := (C1 x6)) (x' := x6) F W Aa Aa Aa (k := 0) Aa Aa h4 D4 Aa Aa Aa Aa (fun A cs _ => EM.sto (by rfl) _ _ _) fun w W => ?_
   refine BG (N2 := []) (NZ2 := []) (N3 := []) (NZ3 := [(some 17, row v1 63 Bo x2)]) W Aa Aa Ab (all_cons (fun h => Ae (by kernel_rfl) h) Ab) ?_
   obtain ⟨x9, h5, H⟩ := Ag H
   refine BD (R := []) F Aa Aa (yC fun M Z hN hZ => Cy (r := Bo) EJ F Aa Aa (EK W (Al 0 Aa)) h5) Aa Aa fun a F => ?_
   refine DU Aa ?_
   refine BO (i := AU (p1 + x5)) (j := 0) (vs := (C1 x7)) (x' := x7) F W Aa Aa Aa (k := 0) Aa Aa h5 D4 Aa Aa Aa Aa (fun A cs _ => EM.sto (by rfl) _ _ _) fun w W => ?_
   refine BG (N2 := []) (NZ2 := []) (N3 := []) (NZ3 := [(some 17, row v1 63 Bo x2)]) W Aa Aa Ab (all_cons (fun h => Ae (by kernel_rfl) h) Ab) ?_
   refine GM (AM ?_)
   refine vn tk 5 F W fun a w F W => ?_
   refine Ad ?_
   exact ⟨_, H, F.ra Aa, W⟩
  refine BB ?_
  iterate 2 refine BR ?_
  refine Bx ?_
  have H := L1 _ H
  have H := AC H
  subst H
  refine J5 (.inr Aa) F Aa ?_
  have W := W.sub (M' := []) (Z' := [row v1 63 Bo x2]) (List.nil_sublist _) (List.Sublist.refl _)
  exact ⟨(), Aa, W⟩
 refine Bc ?_
 have H := AC H
 subst H
 refine J5 (.inr Aa) F Aa ?_
 exact ⟨(), Aa, W⟩
theorem Zd : Has Tryz.prog 95 := CP Tryz.func95
def Au (fRec : (List (Int × (Int × Int × Int × Int))) → Int → Int → Int → Option (List (Int × (Int × Int × Int × Int)))) : ((List (Int × (Int × Int × Int × Int))) × Int × Int × Int × Bool × Bool) → Option (((List (Int × (Int × Int × Int × Int))) × Int × Int × Int × Bool × Bool) ⊕ (List (Int × (Int × Int × Int × Int))))
  | (x1, x2, x3, x4, x5, x6) => (if (AU (x3 - x2)) ≤ 12 then (Ch x1 x2 x3).bind fun x7 => some (.inr x7) else (if x4 = 0 then (CJ x1 x2 x3).bind fun x8 => some (.inr x8) else (if (!x5) = true then (BQ x1 x2 x3).bind fun x11 => some (x11, AU (x4 - 1)) else some (x1, x4)).bind fun (x9, x10) => (Cq x9 x2 x3).bind fun x12 => (if x12.2 = 2 then (BX x9 x2 x3).bind fun x16 => some (x16, AU ((AU (x3 - 1)) - (AU (x12.1 - x2))), 1) else some (x9, x12.1, x12.2)).bind fun (x13, x14, x15) => Ku (if (x5 && (x6 && decide (x15 = 1))) = true then (Bw x13 x2 x3).bind fun x18 => (if x18.1 = true then some (.inr (.inr x18.2)) else some (.inl x18.2)) else some (.inl x13)) fun x17 => (if 0 < x2 then (ix x17 (AU (x2 - 1))).bind fun x20 => (ix x17 x14).bind fun x21 => (Cs x20 x21).bind fun x22 => some (!(decide (x22 < 0))) else some false).bind fun x19 => (if x19 = true then (Cc x17 x2 x3 x14).bind fun x23 => some (.inl (x23.2, x23.1, x3, x10, (x5 && (x6 || true)), (bif x5 then x6 else x6))) else (CC x17 x2 x3 x14).bind fun x24 => (if (AU (x24.1 - x2)) < (AU (x3 - x24.1)) then (fRec x24.2.2 x2 x24.1 x10).bind fun x25 => some (.inl (x25, AU (x24.1 + 1), x3, x10, decide ((AU (Int.tdiv (AU (x3 - x2)) 8)) ≤ (AU (x24.1 - x2))), x24.2.1)) else (fRec x24.2.2 (AU (x24.1 + 1)) x3 x10).bind fun x26 => some (.inl (x26, x2, x24.1, x10, decide ((AU (Int.tdiv (AU (x3 - x2)) 8)) ≤ (AU (x3 - x24.1))), x24.2.1))))))
def Dn (fRec : (List (Int × (Int × Int × Int × Int))) → Int → Int → Int → Option (List (Int × (Int × Int × Int × Int)))) (p0 : List (Int × (Int × Int × Int × Int))) (p1 : Int) (p2 : Int) (p3 : Int) : Option (List (Int × (Int × Int × Int × Int))) := Ba (Au fRec) (p0, p1, p2, p3, true, true)
def AX : Nat → (List (Int × (Int × Int × Int × Int))) → Int → Int → Int → Option (List (Int × (Int × Int × Int × Int)))
  | 0 => fun _ _ _ _ => none
  | n + 1 => Dn (AX n)
def De (p0 : List (Int × (Int × Int × Int × Int))) (p1 : Int) (p2 : Int) (p3 : Int) : Option (List (Int × (Int × Int × Int × Int))) := HC fun n => AX n p0 p1 p2 p3
theorem He (fRec : (List (Int × (Int × Int × Int × Int))) → Int → Int → Int → Option (List (Int × (Int × Int × Int × Int)))) (ih : ∀ (Y : Nat → Prop) (X : List Nat) (w0 : World) (v1 : Value) (p0 : List (Int × (Int × Int × Int × Int))) (p1 : Int) (p2 : Int) (p3 : Int) (r : (List (Int × (Int × Int × Int × Int)))) (H : fRec p0 p1 p2 p3 = some r) (hL : Stw ⟨Y, X, w0⟩ [] [row v1 63 Bo p0] w0), Calls Tryz.prog 73 #[v1, .int .i64 p1, .int .i64 p2, .int .i64 p3, .func (.func 41) #[] #[]] w0 fun e w' => ∃ x : Unit, e = .returned (.tuple #[]) ∧ Stw ⟨Y, X, w0⟩ [] [row v1 63 Bo r] w') (Y : Nat → Prop) (X : List Nat) (w0 : World) (v1 : Value) (p0 : List (Int × (Int × Int × Int × Int))) (p1 : Int) (p2 : Int) (p3 : Int) (r : (List (Int × (Int × Int × Int × Int)))) (H : Dn fRec p0 p1 p2 p3 = some r) (hL : Stw ⟨Y, X, w0⟩ [] [row v1 63 Bo p0] w0) :
    Calls Tryz.prog 73 #[v1, .int .i64 p1, .int .i64 p2, .int .i64 p3, .func (.func 41) #[] #[]] w0 fun e w' => ∃ x : Unit, e = .returned (.tuple #[]) ∧ Stw ⟨Y, X, w0⟩ [] [row v1 63 Bo r] w' := by
 refine enter Tryz.func73 Aa Tryz.ntmps73 Aa fun a F => ?_
 have W := hL
 unfold Dn at H
 refine vc tk 11 F W fun a w F W => ?_
 refine BN H (fun s a w => Fr 148 [] [(0, v1), (1, .int .i64 s.2.1), (2, .int .i64 s.2.2.1), (3, .int .i64 s.2.2.2.1), (4, .func (.func 41) #[] #[]), (10, .bool s.2.2.2.2.1), (11, .bool s.2.2.2.2.2)] a ∧ Stw ⟨Y, X, w0⟩ [] [row v1 63 Bo s.1] w) ⟨F.ra Aa, W⟩ fun s o a w H L1 hR => ?_
 obtain ⟨x1, x2, x3, x4, x5, x6⟩ := s
 obtain ⟨F, W⟩ := hR
 have F : Fr 148 [] [(0, v1), (1, .int .i64 x2), (2, .int .i64 x3), (3, .int .i64 x4), (4, .func (.func 41) #[] #[]), (10, .bool x5), (11, .bool x6)] a := F
 have W : Stw ⟨Y, X, w0⟩ [] [row v1 63 Bo x1] w := W
 rw [Au] at H
 refine vc tk 16 F W fun a w F W => ?_
 refine BU F Aa H (fun F H => ?_) fun F H => ?_
 ·
  refine vc tk 6 F W fun a w F W => ?_
  obtain ⟨x7, h1, H⟩ := Ag H
  refine A7 (Ml := []) (Zl := [row v1 63 Bo x1]) (β := Unit) (rv := fun x => .tuple #[]) (MM := fun x => []) (ZZ := fun x => [row v1 63 Bo x7]) F W ZE Aa Aa (fun hL => GA _ _ w (v1) x1 x2 x3 _ h1 hL) fun x a w F W => ?_
  have W : Stw ⟨Y, X, w0⟩ [] [row v1 63 Bo x7] w := W
  refine Cv tk 2 F W fun a w F W => ?_
  refine Am (Az (AH (Az (AH ?_))))
  have H := L1 _ H
  have H := AC H
  subst H
  refine J5 (.inl Aa) F Aa ?_
  exact ⟨(), Aa, W⟩
 refine Gp tk 9 F W fun a w F W => ?_
 refine BU F Aa H (fun F H => ?_) fun F H => ?_
 ·
  refine vc tk 6 F W fun a w F W => ?_
  obtain ⟨x8, h2, H⟩ := Ag H
  refine A7 (Ml := []) (Zl := [row v1 63 Bo x1]) (β := Unit) (rv := fun x => .tuple #[]) (MM := fun x => []) (ZZ := fun x => [row v1 63 Bo x8]) F W ZF Aa Aa (fun hL => Ht _ _ w (v1) x1 x2 x3 _ h2 hL) fun x a w F W => ?_
  have W : Stw ⟨Y, X, w0⟩ [] [row v1 63 Bo x8] w := W
  refine Cv tk 2 F W fun a w F W => ?_
  refine Am (Az (AH (Az (AH ?_))))
  have H := L1 _ H
  have H := AC H
  subst H
  refine J5 (.inl Aa) F Aa ?_
  exact ⟨(), Aa, W⟩
 refine Bc (Ad ?_)
 obtain ⟨o2, G2, K2⟩ := Ag H
 refine AA (fun a w => ∃ x9 : List (Int × (Int × Int × Int × Int)), ∃ x10 : Int, some ((x9, x10)) = some o2 ∧ Fr 148 [] [(0, v1), (1, .int .i64 x2), (2, .int .i64 x3), (3, .int .i64 x10), (4, .func (.func 41) #[] #[]), (10, .bool x5), (11, .bool x6), (12, .int .i64 (AU (x3 - x2)))] a ∧ Stw ⟨Y, X, w0⟩ [] [row v1 63 Bo x9] w) ?_ ?_
 ·
  have H := G2
  refine vc tk 6 F W fun a w F W => ?_
  refine CK F Aa H (fun F H => ?_) fun F H => ?_
  ·
   refine vc tk 6 F W fun a w F W => ?_
   obtain ⟨x11, h3, H⟩ := Ag H
   refine A7 (Ml := []) (Zl := [row v1 63 Bo x1]) (β := Unit) (rv := fun x => .tuple #[]) (MM := fun x => []) (ZZ := fun x => [row v1 63 Bo x11]) F W Zd Aa Aa (fun hL => Gv _ _ w (v1) x1 x2 x3 _ h3 hL) fun x a w F W => ?_
   have W : Stw ⟨Y, X, w0⟩ [] [row v1 63 Bo x11] w := W
   refine Cv tk 7 F W fun a w F W => ?_
   refine Ad ?_
   exact ⟨_, _, H, F.ra Aa, W⟩
  refine Bc (Ad ?_)
  exact ⟨_, _, H, F.ra Aa, W⟩
 rintro a w ⟨x9, x10, hj, F, W⟩
 have hj := AC hj
 subst hj
 have H := K2
 refine vc tk 6 F W fun a w F W => ?_
 obtain ⟨x12, h4, H⟩ := Ag H
 refine ls F W Aa (AL (v := Value.tuple #[.int .i64 x12.1, .int .i64 x12.2]) F Y3 Aa (fun w W => GP any w (v1) x9 x2 x3 _ h4 (Er (Al 0 Aa) W))) fun a w F W => ?_
 refine ls F W Aa (Aq F Aa).q fun a w F W => ?_
 refine ls F W Aa (Dx (v := Value.int .i64 x12.1) F Aa Aa).q fun a w F W => ?_
 refine ls F W Aa (Dx (v := Value.int .i64 x12.2) F Aa Aa).q fun a w F W => ?_
 refine vl tk 3 F W fun a w F W => ?_
 refine Ad ?_
 obtain ⟨o3, G3, K3⟩ := Ag H
 refine AA (fun a w => ∃ x13 : List (Int × (Int × Int × Int × Int)), ∃ x14 : Int, ∃ x15 : Int, some ((x13, x14, x15)) = some o3 ∧ Fr 148 [] [(0, v1), (1, .int .i64 x2), (2, .int .i64 x3), (3, .int .i64 x10), (4, .func (.func 41) #[] #[]), (10, .bool x5), (11, .bool x6), (12, .int .i64 (AU (x3 - x2))), (13, .int .i64 x14), (14, .int .i64 x15)] a ∧ Stw ⟨Y, X, w0⟩ [] [row v1 63 Bo x13] w) ?_ ?_
 ·
  have H := G3
  refine vc tk 6 F W fun a w F W => ?_
  refine BU F Aa H (fun F H => ?_) fun F H => ?_
  ·
   refine vc tk 6 F W fun a w F W => ?_
   obtain ⟨x16, h5, H⟩ := Ag H
   refine A7 (Ml := []) (Zl := [row v1 63 Bo x9]) (β := Unit) (rv := fun x => .tuple #[]) (MM := fun x => []) (ZZ := fun x => [row v1 63 Bo x16]) F W Zy Aa Aa (fun hL => GC _ _ w (v1) x9 x2 x3 _ h5 hL) fun x a w F W => ?_
   have W : Stw ⟨Y, X, w0⟩ [] [row v1 63 Bo x16] w := W
   refine Cv tk 16 F W fun a w F W => ?_
   refine Ad ?_
   exact ⟨_, _, _, H, F.ra Aa, W⟩
  refine Bc (Ad ?_)
  exact ⟨_, _, _, H, F.ra Aa, W⟩
 rintro a w ⟨x13, x14, x15, hj, F, W⟩
 have hj := AC hj
 subst hj
 have H := K3
 obtain ⟨o4, G4, K4, L4⟩ := RM H
 refine AA (fun a w => ∃ x17 : List (Int × (Int × Int × Int × Int)), some (Sum.inl x17) = some o4 ∧ Fr 148 [] [(0, v1), (1, .int .i64 x2), (2, .int .i64 x3), (3, .int .i64 x10), (4, .func (.func 41) #[] #[]), (10, .bool (x5 && (x6 || true))), (11, .bool (bif x5 then x6 else x6)), (12, .int .i64 (AU (x3 - x2))), (13, .int .i64 x14)] a ∧ Stw ⟨Y, X, w0⟩ [] [row v1 63 Bo x17] w) ?_ ?_
 ·
  have H := G4
  refine AA (fun a w => Fr 148 [] [(0, v1), (1, .int .i64 x2), (2, .int .i64 x3), (3, .int .i64 x10), (4, .func (.func 41) #[] #[]), (10, .bool (x5 && (x6 || true))), (11, .bool (bif x5 then x6 else x6)), (12, .int .i64 (AU (x3 - x2))), (13, .int .i64 x14), (75, .bool (x5 && (x6 && decide (x15 = 1))))] a ∧ Stw ⟨Y, X, w0⟩ [] [row v1 63 Bo x13] w) ?_ ?_
  ·
   refine vc tk 3 F W fun a w F W => ?_
   rcases bxq x5 with hb0 | hb0
   ·
    rw [hb0] at F
    refine vl tk 3 F W fun a w F W => ?_
    rcases bxq x6 with hb1 | hb1
    ·
     rw [hb1] at F
     refine vl tk 4 F W fun a w F W => ?_
     refine Ad ?_
     exact ⟨F.re ⟨rfl, Aa, Aa, Aa, Aa, (DX (by try rw [hb0]; try rw [hb1]; all_goals simp only [DW])), (DX (by try rw [hb0]; try rw [hb1]; all_goals simp only [DW])), Aa, Aa, (DX (by try rw [hb0]; try rw [hb1]; all_goals simp only [DW])), trivial⟩, W⟩
    rw [hb1] at F
    refine vl tk 4 F W fun a w F W => ?_
    refine Ad ?_
    exact ⟨F.re ⟨rfl, Aa, Aa, Aa, Aa, (DX (by try rw [hb0]; try rw [hb1]; all_goals simp only [DW])), (DX (by try rw [hb0]; try rw [hb1]; all_goals simp only [DW])), Aa, Aa, (DX (by try rw [hb0]; try rw [hb1]; all_goals simp only [DW])), trivial⟩, W⟩
   rw [hb0] at F
   refine vl tk 7 F W fun a w F W => ?_
   refine Ad ?_
   exact ⟨F.re ⟨rfl, Aa, Aa, Aa, Aa, (DX (by try rw [hb0]; all_goals simp only [DW])), (DX (by try rw [hb0]; all_goals simp only [DW])), Aa, Aa, (DX (by try rw [hb0]; all_goals simp only [DW])), trivial⟩, W⟩
  rintro a w ⟨F, W⟩
  refine CK F Aa H (fun F H => ?_) fun F H => ?_
  ·
   refine vc tk 6 F W fun a w F W => ?_
   obtain ⟨x18, h6, H⟩ := Ag H
   refine A7 (Ml := []) (Zl := [row v1 63 Bo x13]) (β := Unit) (rv := fun x => .bool x18.1) (MM := fun x => []) (ZZ := fun x => [row v1 63 Bo x18.2]) F W Zi Aa Aa (fun hL => E5 _ _ w (v1) x13 x2 x3 _ h6 hL) fun x a w F W => ?_
   have W : Stw ⟨Y, X, w0⟩ [] [row v1 63 Bo x18.2] w := W
   refine Cv tk 2 F W fun a w F W => ?_
   refine CK F Aa H (fun F H => ?_) fun F H => ?_
   ·
    refine Am (Az (AH (Az (AH ?_))))
    have H := L4 _ H
    have H := L1 _ H
    have H := AC H
    subst H
    refine J5 (.inl Aa) F Aa ?_
    exact ⟨(), Aa, W⟩
   refine Bc (Ad ?_)
   exact ⟨_, H, F.ra Aa, W⟩
  refine Bc (Ad ?_)
  exact ⟨_, H, F.ra Aa, W⟩
 rintro a w ⟨x17, hj, F, W⟩
 have H := K4 _ hj
 refine GK ?_
 obtain ⟨o5, G5, K5⟩ := Ag H
 refine AA (fun a w => ∃ x19 : Bool, some (x19) = some o5 ∧ Fr 148 [] [(0, v1), (1, .int .i64 x2), (2, .int .i64 x3), (3, .int .i64 x10), (4, .func (.func 41) #[] #[]), (10, .bool (x5 && (x6 || true))), (11, .bool (bif x5 then x6 else x6)), (12, .int .i64 (AU (x3 - x2))), (13, .int .i64 x14), (97, .bool x19)] a ∧ Stw ⟨Y, X, w0⟩ [] [row v1 63 Bo x17] w) ?_ ?_
 ·
  have H := G5
  refine CH W MO (by kernel_rfl) ?_
  refine qs F Aa (Aq F Aa).q fun a F => ?_
  refine qs F Aa (Nx F Aa Aa).q fun a F => ?_
  refine qs F Aa (Aq F Aa).q fun a F => ?_
  rcases bxq (decide (0 < x2)) with hb | hb
  ·
   have H := Cg (CQ hb) H
   rw [hb] at F
   iterate 3 refine AP F (Ac F Aa Aa Aa Aa) Aa (Ao Aa) (Aq F Aa).q fun a F => ?_
   refine AP F (Ac F Aa Aa Aa Aa) Aa (Ao Aa) (Ix F Aa Aa Aa).q fun a F => ?_
   obtain ⟨x20, h7, H⟩ := Ag H
   refine AP F (Ac F Aa Aa Aa Aa) Aa (Ao Aa) (Aw (r := Bo) EJ F Aa Aa (Al 0 Aa) h7).q fun a F => ?_
   refine AP F (Ac F Aa Aa Aa Aa) Aa (Ao Aa) (An (y := Value.agg #[.int .i64 x20.1, .int .i64 x20.2.1, .int .i64 x20.2.2.1, .int .i64 x20.2.2.2.1, .int .i64 x20.2.2.2.2]) (j := 0) (i := AU (x2 - 1)) F Aa Aa (Al 0 Aa) h7 EM.to D4 Aa).q fun a F => ?_
   iterate 2 refine AP F (Ac F Aa Aa Aa Aa) Aa (Ao Aa) (Aq F Aa).q fun a F => ?_
   obtain ⟨x21, h8, H⟩ := Ag H
   refine AP F (Ac F Aa Aa Aa Aa) Aa (Ao Aa) (Aw (r := Bo) EJ F Aa Aa (Al 0 Aa) h8).q fun a F => ?_
   refine AP F (Ac F Aa Aa Aa Aa) Aa (Ao Aa) (An (y := Value.agg #[.int .i64 x21.1, .int .i64 x21.2.1, .int .i64 x21.2.2.1, .int .i64 x21.2.2.2.1, .int .i64 x21.2.2.2.2]) (j := 0) (i := x14) F Aa Aa (Al 0 Aa) h8 EM.to D4 Aa).q fun a F => ?_
   obtain ⟨x22, h9, H⟩ := Ag H
   refine AP F (Ac F Aa Aa Aa Aa) Aa (Ao Aa) (ES (ws := (I9 x20 x21)) (v := Value.int .i64 x22) F Su Aa (fun w W => CE any w x20 x21 _ h9)) fun a F => ?_
   refine AP F (Ac F Aa Aa Aa Aa) Aa (Ao Aa) (GY F Aa Aa).q fun a F => ?_
   refine AP F (Ac F Aa Aa Aa Aa) Aa (Ao Aa) (Kx F Aa).q fun a F => ?_
   refine qs F Aa (BI F Aa Aa Aa).q fun a F => ?_
   refine AO fun w W => ?_
   refine Ad ?_
   exact ⟨_, H, F.ra Aa, W⟩
  have H := Cf (CO hb) H
  rw [hb] at F
  iterate 13 refine Bp F (Be F Aa Aa Aa Aa Aa) Aa Aa fun a F => ?_
  refine qs F Aa (BA F Aa Aa Aa).q fun a F => ?_
  refine AO fun w W => ?_
  refine Ad ?_
  exact ⟨_, H, F.ra Aa, W⟩
 rintro a w ⟨x19, hj, F, W⟩
 have hj := AC hj
 subst hj
 have H := K5
 refine CK F Aa H (fun F H => ?_) fun F H => ?_
 ·
  refine vc tk 7 F W fun a w F W => ?_
  obtain ⟨x23, h10, H⟩ := Ag H
  refine A7 (Ml := []) (Zl := [row v1 63 Bo x17]) (β := Unit) (rv := fun x => .int .i64 x23.1) (MM := fun x => []) (ZZ := fun x => [row v1 63 Bo x23.2]) F W Zh Aa Aa (fun hL => Gm _ _ w (v1) x17 x2 x3 x14 _ h10 hL) fun x a w F W => ?_
  have W : Stw ⟨Y, X, w0⟩ [] [row v1 63 Bo x23.2] w := W
  refine Cv tk 9 F W fun a w F W => ?_
  refine BB (BR (Bx (Ad ?_)))
  exact ⟨_, H, F.ra Aa, W⟩
 refine Gp tk 9 F W fun a w F W => ?_
 obtain ⟨x24, h11, H⟩ := Ag H
 refine A7 (Ml := []) (Zl := [row v1 63 Bo x17]) (β := Unit) (rv := fun x => .tuple #[.int .i64 x24.1, .bool x24.2.1]) (MM := fun x => []) (ZZ := fun x => [row v1 63 Bo x24.2.2]) F W Xy Aa Aa (fun hL => Hk _ _ w (v1) x17 x2 x3 x14 _ h11 hL) fun x a w F W => ?_
 have W : Stw ⟨Y, X, w0⟩ [] [row v1 63 Bo x24.2.2] w := W
 refine ls F W Aa (Aq F Aa).q fun a w F W => ?_
 refine ls F W Aa (Dx (v := Value.int .i64 x24.1) F Aa Aa).q fun a w F W => ?_
 refine ls F W Aa (Dx (v := Value.bool x24.2.1) F Aa Aa).q fun a w F W => ?_
 refine Cv tk 25 F W fun a w F W => ?_
 refine ls F W Aa (O8 F Aa Aa (by decide) Aa).q fun a w F W => ?_
 refine Cv tk 10 F W fun a w F W => ?_
 refine BU F Aa H (fun F H => ?_) fun F H => ?_
 ·
  refine vc tk 15 F W fun a w F W => ?_
  obtain ⟨x25, h12, H⟩ := Ag H
  refine A7 (Ml := []) (Zl := [row v1 63 Bo x24.2.2]) (β := Unit) (rv := fun x => .tuple #[]) (MM := fun x => []) (ZZ := fun x => [row v1 63 Bo x25]) F W X2 Aa Aa (fun hL => ih _ _ w (v1) x24.2.2 x2 x24.1 x10 _ h12 hL) fun x a w F W => ?_
  have W : Stw ⟨Y, X, w0⟩ [] [row v1 63 Bo x25] w := W
  refine Cv tk 7 F W fun a w F W => ?_
  refine AM (Ad ?_)
  exact ⟨_, H, F.ra Aa, W⟩
 refine vc tk 16 F W fun a w F W => ?_
 obtain ⟨x26, h13, H⟩ := Ag H
 refine A7 (Ml := []) (Zl := [row v1 63 Bo x24.2.2]) (β := Unit) (rv := fun x => .tuple #[]) (MM := fun x => []) (ZZ := fun x => [row v1 63 Bo x26]) F W X2 Aa Aa (fun hL => ih _ _ w (v1) x24.2.2 (AU (x24.1 + 1)) x3 x10 _ h13 hL) fun x a w F W => ?_
 have W : Stw ⟨Y, X, w0⟩ [] [row v1 63 Bo x26] w := W
 refine Cv tk 6 F W fun a w F W => ?_
 refine AM (Ad ?_)
 exact ⟨_, H, F.ra Aa, W⟩
theorem Hv : ∀ (n : Nat) (Y : Nat → Prop) (X : List Nat) (w0 : World) (v1 : Value) (p0 : List (Int × (Int × Int × Int × Int))) (p1 : Int) (p2 : Int) (p3 : Int) (r : (List (Int × (Int × Int × Int × Int)))) (H : AX n p0 p1 p2 p3 = some r) (hL : Stw ⟨Y, X, w0⟩ [] [row v1 63 Bo p0] w0), Calls Tryz.prog 73 #[v1, .int .i64 p1, .int .i64 p2, .int .i64 p3, .func (.func 41) #[] #[]] w0 fun e w' => ∃ x : Unit, e = .returned (.tuple #[]) ∧ Stw ⟨Y, X, w0⟩ [] [row v1 63 Bo r] w' := by
  intro n
  induction n with
  | zero => intro Y X w0 v1 p0 p1 p2 p3 r H; exact nomatch H
  | succ n ih => intro Y X w0 v1 p0 p1 p2 p3 r H hL; exact He (AX n) ih Y X w0 v1 p0 p1 p2 p3 r H hL
theorem HB (Y : Nat → Prop) (X : List Nat) (w0 : World) (v1 : Value) (p0 : List (Int × (Int × Int × Int × Int))) (p1 : Int) (p2 : Int) (p3 : Int) (r : (List (Int × (Int × Int × Int × Int)))) (H : De p0 p1 p2 p3 = some r) (hL : Stw ⟨Y, X, w0⟩ [] [row v1 63 Bo p0] w0) :
    Calls Tryz.prog 73 #[v1, .int .i64 p1, .int .i64 p2, .int .i64 p3, .func (.func 41) #[] #[]] w0 fun e w' => ∃ x : Unit, e = .returned (.tuple #[]) ∧ Stw ⟨Y, X, w0⟩ [] [row v1 63 Bo r] w' := by
  obtain ⟨n, H⟩ := CZ H
  exact Hv n Y X w0 v1 p0 p1 p2 p3 r H hL
def Cx (p0 : List (Int × (Int × Int × Int × Int))) : Option (List (Int × (Int × Int × Int × Int))) := (FX (IntKind.u64.wrap (p0.length : Int))).bind fun x1 => (De p0 0 (p0.length : Int) x1).bind fun x2 => some x2
theorem GW (Y : Nat → Prop) (X : List Nat) (w0 : World) (v1 : Value) (p0 : List (Int × (Int × Int × Int × Int))) (r : (List (Int × (Int × Int × Int × Int)))) (H : Cx p0 = some r) (hL : Stw ⟨Y, X, w0⟩ [] [row v1 63 Bo p0] w0) :
    Calls Tryz.prog 40 #[v1, .func (.func 41) #[] #[]] w0 fun e w' => ∃ x : Unit, e = .returned (.tuple #[]) ∧ Stw ⟨Y, X, w0⟩ [] [row v1 63 Bo r] w' := by
 refine enter Tryz.func40 Aa Tryz.ntmps40 Aa fun a F => ?_
 have W := hL
 unfold Cx at H
 refine vc tk 3 F W fun a w F W => ?_
 refine ls F W Aa (C2 (r := Bo) (l := p0) ST Aa F Aa (Al 0 Aa)).q fun a w F W => ?_
 refine Cv tk 7 F W fun a w F W => ?_
 refine ls F W Aa (Lf VX Tp F Aa).q fun a w F W => ?_
 obtain ⟨x1, h1, H⟩ := Ag H
 refine ls F W Aa (AL (v := Value.int .i64 x1) F YI Aa (fun w W => J6 any w (IntKind.u64.wrap (p0.length : Int)) _ h1)) fun a w F W => ?_
 refine ls F W Aa (Aq F Aa).q fun a w F W => ?_
 obtain ⟨x2, h2, H⟩ := Ag H
 refine A7 (Ml := []) (Zl := [row v1 63 Bo p0]) (β := Unit) (rv := fun x => .tuple #[]) (MM := fun x => []) (ZZ := fun x => [row v1 63 Bo x2]) F W X2 Aa Aa (fun hL => HB _ _ w (v1) p0 0 (p0.length : Int) x1 _ h2 hL) fun x a w F W => ?_
 have W : Stw ⟨Y, X, w0⟩ [] [row v1 63 Bo x2] w := W
 refine Fd ?_
 have H := AC H
 subst H
 refine J5 (.inr Aa) F Aa ?_
 exact ⟨(), Aa, W⟩
end
end Go.Proofs.YtpckgggmgijiiaaGreatDoor
