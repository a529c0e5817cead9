/- The functions of layer 25, JD. Conditions: none. -/
import Derived.Test.YthhoflfhegfmcaaGreatbA5
namespace Go.Proofs.YthhoflfhegfmcaaGreat
open Go Go.RowKit
set_option linter.unusedVariables false
set_option linter.unusedSimpArgs false
set_option maxRecDepth 20000
set_option maxHeartbeats 1600000
theorem ZP : Has Tryz.prog 91 := Cu Tryz.func91
noncomputable def BN (p2 : Int) (x2 : List Int) : Int → Option (Int ⊕ Int)
  | x8 => (if x8 < p2 then (ix x2 x8).bind fun x10 => (ix x2 (An (x8 - 1))).bind fun x11 => some (!(CI x10 x11)) else some false).bind fun x9 => (if x9 = true then some (.inl (An (x8 + 1))) else some (.inr x8))
noncomputable def AO  : (List Int × Int) → Option ((List Int × Int) ⊕ (List Int))
  | (x17, x18) => (if 1 ≤ x18 then (ix x17 x18).bind fun x19 => (ix x17 (An (x18 - 1))).bind fun x20 => (if (!(CI x19 x20)) = true then some (.inr x17) else (ix x17 (An (x18 - 1))).bind fun x21 => (ix x17 x18).bind fun x22 => (ix x17 x18).bind fun x23 => (ix (Ah x17 x18 x21) (An (x18 - 1))).bind fun x24 => some (.inl ((Ah (Ah x17 x18 x21) (An (x18 - 1)) x22), An (x18 - 1)))) else some (.inr x17))
noncomputable def A0 (p2 : Int) (x7 : Int) : (List Int × Int) → Option ((List Int × Int) ⊕ ((List Int × Int) ⊕ ((List Int × Int × Int) ⊕ ((List Int) ⊕ (Bool × List Int)))))
  | (x25, x26) => (if x26 < p2 then (ix x25 x26).bind fun x27 => (ix x25 (An (x26 - 1))).bind fun x28 => (if (!(CI x27 x28)) = true then some (.inr (.inl (x25, x7))) else (ix x25 (An (x26 - 1))).bind fun x29 => (ix x25 x26).bind fun x30 => (ix x25 x26).bind fun x31 => (ix (Ah x25 x26 x29) (An (x26 - 1))).bind fun x32 => some (.inl ((Ah (Ah x25 x26 x29) (An (x26 - 1)) x30), An (x26 + 1)))) else some (.inr (.inl (x25, x7))))
noncomputable def A2 (p1 : Int) (p2 : Int) : (List Int × Int × Int) → Option ((List Int × Int × Int) ⊕ ((List Int) ⊕ (Bool × List Int)))
  | (x2, x3, x4) => (if x4 < 5 then GN ((Ap (BN p2 x2) x3).bind fun x7 => (if x7 = p2 then some (.inr (.inr (.inr (true, x2)))) else (if (An (p2 - p1)) < 50 then some (.inr (.inr (.inr (false, x2)))) else (ix x2 (An (x7 - 1))).bind fun x12 => (ix x2 x7).bind fun x13 => (ix x2 x7).bind fun x14 => (ix (Ah x2 x7 x12) (An (x7 - 1))).bind fun x15 => (if 2 ≤ (An (x7 - p1)) then Ap (AO) ((Ah (Ah x2 x7 x12) (An (x7 - 1)) x13), An (x7 - 1)) else some (Ah (Ah x2 x7 x12) (An (x7 - 1)) x13)).bind fun x16 => (if 2 ≤ (An (p2 - x7)) then Ap (A0 p2 x7) (x16, An (x7 + 1)) else some (.inl (x16, x7)))))) fun (x5, x6) => some (.inl (x5, x6, An (x4 + 1))) else some (.inr (.inl x2)))
noncomputable def Bz (p0 : List Int) (p1 : Int) (p2 : Int) : Option (Bool × List Int) := GN (Ap (A2 p1 p2) (p0, An (p1 + 1), 0)) fun x1 => some (false, x1)
theorem Ga (Y : Nat → Prop) (X : List Nat) (w0 : World) (v1 : Value) (p0 : List Int) (p1 : Int) (p2 : Int) (r : Bool × List Int) (H : Bz p0 p1 p2 = some r) (hL : Stw ⟨Y, X, w0⟩ [] [row v1 3 (Rp.int .i64) p0] w0) :
    Calls Tryz.prog 93 #[v1, .int .i64 p1, .int .i64 p2] w0 fun e w' => ∃ x : Unit, e = .returned (.bool r.1) ∧ Stw ⟨Y, X, w0⟩ [] [row v1 3 (Rp.int .i64) r.2] w' := by
 refine enter Tryz.func93 Aa Tryz.ntmps93 Aa fun a F => ?_
 have W := hL
 unfold Bz at H
 refine vc tk 12 F W fun a w F W => ?_
 obtain ⟨o1, G1, K1, L1⟩ := Mg H
 refine Aq (fun a w => ∃ x1 : List Int, some (Sum.inl x1) = some o1 ∧ Fr 133 [] [(6, .bool false)] a ∧ Stw ⟨Y, X, w0⟩ [] [row v1 3 (Rp.int .i64) x1] w) ?_ ?_
 ·
  have H := G1
  clear G1 K1
  refine vc tk 6 F W fun a w F W => ?_
  refine AL H (fun s a w => Fr 133 [] [(0, v1), (1, .int .i64 p1), (2, .int .i64 p2), (6, .bool false), (7, .int .i64 s.2.1), (8, .int .i64 s.2.2)] a ∧ Stw ⟨Y, X, w0⟩ [] [row v1 3 (Rp.int .i64) s.1] w) ⟨F.ra Aa, W⟩ fun s o a w H L2 hR => ?_
  obtain ⟨x2, x3, x4⟩ := s
  obtain ⟨F, W⟩ := hR
  have F : Fr 133 [] [(0, v1), (1, .int .i64 p1), (2, .int .i64 p2), (6, .bool false), (7, .int .i64 x3), (8, .int .i64 x4)] a := F
  have W : Stw ⟨Y, X, w0⟩ [] [row v1 3 (Rp.int .i64) x2] w := W
  rw [A2] at H
  refine vc tk 7 F W fun a w F W => ?_
  refine AU F Aa H (fun F H => ?_) fun F H => ?_
  ·
   refine AB (Ab ?_)
   obtain ⟨o3, G3, K3, L3⟩ := Mg H
   refine Aq (fun a w => ∃ x5 : List Int, ∃ x6 : Int, some (Sum.inl (x5, x6)) = some o3 ∧ Fr 133 [] [(0, v1), (1, .int .i64 p1), (2, .int .i64 p2), (6, .bool false), (7, .int .i64 x6), (8, .int .i64 x4)] a ∧ Stw ⟨Y, X, w0⟩ [] [row v1 3 (Rp.int .i64) x5] w) ?_ ?_
   ·
    have H := G3
    clear G3 K3
    refine Ep ?_
    obtain ⟨o4, G4, K4⟩ := Ac H
    refine Aq (fun a w => ∃ x7 : Int, some (x7) = some o4 ∧ Fr 133 [] [(0, v1), (1, .int .i64 p1), (2, .int .i64 p2), (6, .bool false), (7, .int .i64 x7), (8, .int .i64 x4)] a ∧ Stw ⟨Y, X, w0⟩ [] [row v1 3 (Rp.int .i64) x2] w) ?_ ?_
    ·
     have H := G4
     clear G4 K4
     refine Ep ?_
     refine AL H (fun s a w => Fr 133 [] [(0, v1), (1, .int .i64 p1), (2, .int .i64 p2), (6, .bool false), (7, .int .i64 s), (8, .int .i64 x4)] a ∧ Stw ⟨Y, X, w0⟩ [] [row v1 3 (Rp.int .i64) x2] w) ⟨F.ra Aa, W⟩ fun s o a w H L5 hR => ?_
     obtain ⟨x8, rfl⟩ : ∃ x, x = s := ⟨s, rfl⟩
     obtain ⟨F, W⟩ := hR
     have F : Fr 133 [] [(0, v1), (1, .int .i64 p1), (2, .int .i64 p2), (6, .bool false), (7, .int .i64 x8), (8, .int .i64 x4)] a := F
     have W : Stw ⟨Y, X, w0⟩ [] [row v1 3 (Rp.int .i64) x2] w := W
     rw [BN] at H
     refine Hp ?_
     obtain ⟨o6, G6, K6⟩ := Ac H
     refine Aq (fun a w => ∃ x9 : Bool, some (x9) = some o6 ∧ Fr 133 [] [(0, v1), (1, .int .i64 p1), (2, .int .i64 p2), (6, .bool false), (7, .int .i64 x8), (8, .int .i64 x4), (32, .bool x9)] a ∧ Stw ⟨Y, X, w0⟩ [] [row v1 3 (Rp.int .i64) x2] w) ?_ ?_
     ·
      have H := G6
      clear G6 K6
      refine BB W MO (by kernel_rfl) ?_
      iterate 2 refine qs F Aa (Ai F Aa).q fun a F => ?_
      refine qs F Aa (GM F Aa Aa).q fun a F => ?_
      refine qs F Aa (Ai F Aa).q fun a F => ?_
      rcases Bool.eq_false_or_eq_true (decide (x8 < p2)) with hb | hb
      ·
       have H := D0 (Fm hb) H
       rw [hb] at F
       clear hb
       iterate 2 refine A8 F (Ae F Aa Aa Aa Aa) Aa (As Aa) (Ai F Aa).q fun a F => ?_
       obtain ⟨x10, h1, H⟩ := Ac H
       refine A8 F (Ae F Aa Aa Aa Aa) Aa (As Aa) (Al (r := (Rp.int .i64)) EJ F Aa Aa (Af 0 Aa) h1).q fun a F => ?_
       refine A8 F (Ae F Aa Aa Aa Aa) Aa (As Aa) (Ag (y := Value.int .i64 x10) (j := 0) (i := x8) F Aa Aa (Af 0 Aa) h1 Fl.int.to T3 Aa).q fun a F => ?_
       iterate 2 refine A8 F (Ae F Aa Aa Aa Aa) Aa (As Aa) (Ai F Aa).q fun a F => ?_
       refine A8 F (Ae F Aa Aa Aa Aa) Aa (As Aa) (Eu F Aa Aa Aa).q fun a F => ?_
       obtain ⟨x11, h2, H⟩ := Ac H
       refine A8 F (Ae F Aa Aa Aa Aa) Aa (As Aa) (Al (r := (Rp.int .i64)) EJ F Aa Aa (Af 0 Aa) h2).q fun a F => ?_
       refine A8 F (Ae F Aa Aa Aa Aa) Aa (As Aa) (Ag (y := Value.int .i64 x11) (j := 0) (i := An (x8 - 1)) F Aa Aa (Af 0 Aa) h2 Fl.int.to T3 Aa).q fun a F => ?_
       refine A8 F (Ae F Aa Aa Aa Aa) Aa (As Aa) (Be (v := Value.bool (CI x10 x11)) F Xa Aa (fun w W => FC any w x10 x11 _ Aa)) fun a F => ?_
       refine A8 F (Ae F Aa Aa Aa Aa) Aa (As Aa) (IY F Aa).q fun a F => ?_
       refine qs F Aa (Dh F Aa Aa Aa).q fun a F => ?_
       refine AD fun w W => ?_
       refine Ab ?_
       exact ⟨_, H, F.ra Aa, W⟩
      have H := DZ (Fo hb) H
      rw [hb] at F
      clear hb
      iterate 11 refine Ds F (C3 F Aa Aa Aa Aa Aa) Aa Aa fun a F => ?_
      refine qs F Aa (DC F Aa Aa Aa).q fun a F => ?_
      refine AD fun w W => ?_
      refine Ab ?_
      exact ⟨_, H, F.ra Aa, W⟩
     rintro a w ⟨x9, hj, F, W⟩
     have hj := Ax hj
     subst hj
     have H := K6
     clear G6 K6
     refine C2 F Aa H (fun F H => ?_) fun F H => ?_
     ·
      refine FP tk 8 F W fun a w F W => ?_
      refine Ab ?_
      exact ⟨_, H, F.ra Aa, W⟩
     refine AA ?_
     iterate 2 refine AQ ?_
     refine AC (Ab ?_)
     have H := L5 _ H
     exact ⟨_, H, F.ra Aa, W⟩
    rintro a w ⟨x7, hj, F, W⟩
    have hj := Ax hj
    subst hj
    have H := K4
    clear G4 K4
    refine vc tk 8 F W fun a w F W => ?_
    refine AU F Aa H (fun F H => ?_) fun F H => ?_
    ·
     refine vc tk 5 F W fun a w F W => ?_
     refine Ao (AE (AW ?_))
     iterate 2 refine AE ?_
     refine AW (AE ?_)
     have H := L3 _ H
     have H := L2 _ H
     have H := L1 _ H
     have H := Ax H
     subst H
     refine A1 (.inl Aa) F W Aa (Am F Aa) ?_
     exact ⟨(), Aa, W⟩
    refine FP tk 11 F W fun a w F W => ?_
    refine AU F Aa H (fun F H => ?_) fun F H => ?_
    ·
     refine vc tk 5 F W fun a w F W => ?_
     refine Ao (AE (AW ?_))
     iterate 2 refine AE ?_
     refine AW (AE ?_)
     have H := L3 _ H
     have H := L2 _ H
     have H := L1 _ H
     have H := Ax H
     subst H
     refine A1 (.inl Aa) F W Aa (Am F Aa) ?_
     exact ⟨(), Aa, W⟩
    refine FP tk 3 F W fun a w F W => ?_
    refine ER [(true, 0), (true, 1), (true, 2), (true, 3), (true, 4), (true, 5), (true, 6), (true, 7), (true, 8), (true, 9), (true, 10), (true, 11), (true, 12), (true, 13), (true, 14), (false, 15), (true, 16), (false, 17)] (CN ⟨Y, X, w0⟩ [] [(some 15, row v1 3 (Rp.int .i64) x2)]) (fun ch a d v w h => by cases d <;> exact h) MO (by kernel_rfl) W (fun w W => ⟨_, _, W, Ak, (all_cons (fun _ => (.head _)) Ak)⟩) fun w W => ?_
    iterate 4 refine A6 (R := []) F Aa Aa (yC fun M Z hN hZ => Ai F Aa) Aa Aa fun a F => ?_
    refine A6 (R := []) F Aa Aa (yC fun M Z hN hZ => Eu F Aa Aa Aa) Aa Aa fun a F => ?_
    iterate 2 refine A6 (R := []) F Aa Aa (yC fun M Z hN hZ => Ai F Aa) Aa Aa fun a F => ?_
    refine A6 (R := []) F Aa Aa (yC fun M Z hN hZ => Eu F Aa Aa Aa) Aa Aa fun a F => ?_
    obtain ⟨x12, h3, H⟩ := Ac H
    refine A6 (R := []) F Aa Aa (yC fun M Z hN hZ => Ba (r := (Rp.int .i64)) EJ F Aa Aa (C1 W (Af 0 Aa)) h3) Aa Aa fun a F => ?_
    refine A6 (R := [15]) F Aa Aa (yC fun M Z hN hZ => Ag (y := Value.int .i64 x12) (j := 0) (i := An (x7 - 1)) F Aa Aa (Di (hZ ((some 15), row v1 3 (Rp.int .i64) x2) (.head _) Aa)) h3 Fl.int.to T3 Aa) (by kernel_rfl) Aa fun a F => ?_
    iterate 2 refine A6 (R := []) F Aa Aa (yC fun M Z hN hZ => Ai F Aa) Aa Aa fun a F => ?_
    obtain ⟨x13, h4, H⟩ := Ac H
    refine A6 (R := []) F Aa Aa (yC fun M Z hN hZ => Ba (r := (Rp.int .i64)) EJ F Aa Aa (C1 W (Af 0 Aa)) h4) Aa Aa fun a F => ?_
    refine A6 (R := [15]) F Aa Aa (yC fun M Z hN hZ => Ag (y := Value.int .i64 x13) (j := 0) (i := x7) F Aa Aa (Di (hZ ((some 15), row v1 3 (Rp.int .i64) x2) (.head _) Aa)) h4 Fl.int.to T3 Aa) (by kernel_rfl) Aa fun a F => ?_
    obtain ⟨x14, h5, H⟩ := Ac H
    refine A6 (R := []) F Aa Aa (yC fun M Z hN hZ => Ba (r := (Rp.int .i64)) EJ F Aa Aa (C1 W (Af 0 Aa)) h5) Aa Aa fun a F => ?_
    refine F2 Aa ?_
    refine AY (i := x7) (j := 0) (vs := [.int .i64 x12]) (x' := x12) F W Aa Aa Aa (k := 0) Aa Aa h5 T3 Aa Aa Aa Aa (fun A cs _ => Fl.int.sto (by rfl) _ _ _) fun w W => ?_
    refine Cm (N2 := []) (NZ2 := []) (N3 := []) (NZ3 := [(some 15, row v1 3 (Rp.int .i64) x2)]) W Aa Aa Ak (all_cons (fun h => AJ (by kernel_rfl) h) Ak) ?_
    obtain ⟨x15, h6, H⟩ := Ac H
    refine A6 (R := []) F Aa Aa (yC fun M Z hN hZ => Ba (r := (Rp.int .i64)) EJ F Aa Aa (C1 W (Af 0 Aa)) h6) Aa Aa fun a F => ?_
    refine F2 Aa ?_
    refine AY (i := An (x7 - 1)) (j := 0) (vs := [.int .i64 x13]) (x' := x13) F W Aa Aa Aa (k := 0) Aa Aa h6 T3 Aa Aa Aa Aa (fun A cs _ => Fl.int.sto (by rfl) _ _ _) fun w W => ?_
    refine Cm (N2 := []) (NZ2 := []) (N3 := []) (NZ3 := [(some 15, row v1 3 (Rp.int .i64) x2)]) W Aa Aa Ak (all_cons (fun h => AJ (by kernel_rfl) h) Ak) ?_
    refine Hg (Ab ?_)
    obtain ⟨o7, G7, K7⟩ := Ac H
    refine Aq (fun a w => ∃ x16 : List Int, some (x16) = some o7 ∧ Fr 133 [] [(0, v1), (1, .int .i64 p1), (2, .int .i64 p2), (6, .bool false), (7, .int .i64 x7), (8, .int .i64 x4)] a ∧ Stw ⟨Y, X, w0⟩ [] [row v1 3 (Rp.int .i64) x16] w) ?_ ?_
    ·
     have H := G7
     clear G7 K7
     refine vc tk 8 F W fun a w F W => ?_
     refine AU F Aa H (fun F H => ?_) fun F H => ?_
     ·
      refine vc tk 8 F W fun a w F W => ?_
      refine AL H (fun s a w => Fr 133 [] [(0, v1), (1, .int .i64 p1), (2, .int .i64 p2), (6, .bool false), (7, .int .i64 x7), (8, .int .i64 x4), (9, .int .i64 s.2)] a ∧ Stw ⟨Y, X, w0⟩ [] [row v1 3 (Rp.int .i64) s.1] w) ⟨F.ra Aa, W⟩ fun s o a w H L8 hR => ?_
      obtain ⟨x17, x18⟩ := s
      obtain ⟨F, W⟩ := hR
      have F : Fr 133 [] [(0, v1), (1, .int .i64 p1), (2, .int .i64 p2), (6, .bool false), (7, .int .i64 x7), (8, .int .i64 x4), (9, .int .i64 x18)] a := F
      have W : Stw ⟨Y, X, w0⟩ [] [row v1 3 (Rp.int .i64) x17] w := W
      rw [AO] at H
      refine vc tk 7 F W fun a w F W => ?_
      refine AU F Aa H (fun F H => ?_) fun F H => ?_
      ·
       refine FP tk 6 F W fun a w F W => ?_
       refine BB W MO (by kernel_rfl) ?_
       iterate 2 refine qs F Aa (Ai F Aa).q fun a F => ?_
       obtain ⟨x19, h7, H⟩ := Ac H
       refine qs F Aa (Al (r := (Rp.int .i64)) EJ F Aa Aa (Af 0 Aa) h7).q fun a F => ?_
       refine qs F Aa (Ag (y := Value.int .i64 x19) (j := 0) (i := x18) F Aa Aa (Af 0 Aa) h7 Fl.int.to T3 Aa).q fun a F => ?_
       iterate 2 refine qs F Aa (Ai F Aa).q fun a F => ?_
       refine qs F Aa (Eu F Aa Aa Aa).q fun a F => ?_
       obtain ⟨x20, h8, H⟩ := Ac H
       refine qs F Aa (Al (r := (Rp.int .i64)) EJ F Aa Aa (Af 0 Aa) h8).q fun a F => ?_
       refine qs F Aa (Ag (y := Value.int .i64 x20) (j := 0) (i := An (x18 - 1)) F Aa Aa (Af 0 Aa) h8 Fl.int.to T3 Aa).q fun a F => ?_
       refine qs F Aa (Be (v := Value.bool (CI x19 x20)) F Xa Aa (fun w W => FC any w x19 x20 _ Aa)) fun a F => ?_
       refine qs F Aa (IY F Aa).q fun a F => ?_
       refine AD fun w W => ?_
       refine Ab ?_
       refine C2 F Aa H (fun F H => ?_) fun F H => ?_
       ·
        refine AA (AQ ?_)
        refine Il Aa ?_
        iterate 2 refine AQ ?_
        refine AC (Ab ?_)
        have H := L8 _ H
        exact ⟨_, H, F.ra Aa, W⟩
       refine FP tk 2 F W fun a w F W => ?_
       refine ER [(true, 0), (true, 1), (true, 2), (true, 3), (true, 4), (true, 5), (true, 6), (true, 7), (true, 8), (true, 9), (true, 10), (true, 11), (true, 12), (true, 13), (true, 14), (false, 15), (true, 16), (false, 17)] (CN ⟨Y, X, w0⟩ [] [(some 15, row v1 3 (Rp.int .i64) x17)]) (fun ch a d v w h => by cases d <;> exact h) MO (by kernel_rfl) W (fun w W => ⟨_, _, W, Ak, (all_cons (fun _ => (.head _)) Ak)⟩) fun w W => ?_
       iterate 4 refine A6 (R := []) F Aa Aa (yC fun M Z hN hZ => Ai F Aa) Aa Aa fun a F => ?_
       refine A6 (R := []) F Aa Aa (yC fun M Z hN hZ => Eu F Aa Aa Aa) Aa Aa fun a F => ?_
       iterate 2 refine A6 (R := []) F Aa Aa (yC fun M Z hN hZ => Ai F Aa) Aa Aa fun a F => ?_
       refine A6 (R := []) F Aa Aa (yC fun M Z hN hZ => Eu F Aa Aa Aa) Aa Aa fun a F => ?_
       obtain ⟨x21, h9, H⟩ := Ac H
       refine A6 (R := []) F Aa Aa (yC fun M Z hN hZ => Ba (r := (Rp.int .i64)) EJ F Aa Aa (C1 W (Af 0 Aa)) h9) Aa Aa fun a F => ?_
       refine A6 (R := [15]) F Aa Aa (yC fun M Z hN hZ => Ag (y := Value.int .i64 x21) (j := 0) (i := An (x18 - 1)) F Aa Aa (Di (hZ ((some 15), row v1 3 (Rp.int .i64) x17) (.head _) Aa)) h9 Fl.int.to T3 Aa) (by kernel_rfl) Aa fun a F => ?_
       iterate 2 refine A6 (R := []) F Aa Aa (yC fun M Z hN hZ => Ai F Aa) Aa Aa fun a F => ?_
       obtain ⟨x22, h10, H⟩ := Ac H
       refine A6 (R := []) F Aa Aa (yC fun M Z hN hZ => Ba (r := (Rp.int .i64)) EJ F Aa Aa (C1 W (Af 0 Aa)) h10) Aa Aa fun a F => ?_
       refine A6 (R := [15]) F Aa Aa (yC fun M Z hN hZ => Ag (y := Value.int .i64 x22) (j := 0) (i := x18) F Aa Aa (Di (hZ ((some 15), row v1 3 (Rp.int .i64) x17) (.head _) Aa)) h10 Fl.int.to T3 Aa) (by kernel_rfl) Aa fun a F => ?_
       obtain ⟨x23, h11, H⟩ := Ac H
       refine A6 (R := []) F Aa Aa (yC fun M Z hN hZ => Ba (r := (Rp.int .i64)) EJ F Aa Aa (C1 W (Af 0 Aa)) h11) Aa Aa fun a F => ?_
       refine F2 Aa ?_
       refine AY (i := x18) (j := 0) (vs := [.int .i64 x21]) (x' := x21) F W Aa Aa Aa (k := 0) Aa Aa h11 T3 Aa Aa Aa Aa (fun A cs _ => Fl.int.sto (by rfl) _ _ _) fun w W => ?_
       refine Cm (N2 := []) (NZ2 := []) (N3 := []) (NZ3 := [(some 15, row v1 3 (Rp.int .i64) x17)]) W Aa Aa Ak (all_cons (fun h => AJ (by kernel_rfl) h) Ak) ?_
       obtain ⟨x24, h12, H⟩ := Ac H
       refine A6 (R := []) F Aa Aa (yC fun M Z hN hZ => Ba (r := (Rp.int .i64)) EJ F Aa Aa (C1 W (Af 0 Aa)) h12) Aa Aa fun a F => ?_
       refine F2 Aa ?_
       refine AY (i := An (x18 - 1)) (j := 0) (vs := [.int .i64 x22]) (x' := x22) F W Aa Aa Aa (k := 0) Aa Aa h12 T3 Aa Aa Aa Aa (fun A cs _ => Fl.int.sto (by rfl) _ _ _) fun w W => ?_
       refine Cm (N2 := []) (NZ2 := []) (N3 := []) (NZ3 := [(some 15, row v1 3 (Rp.int .i64) x17)]) W Aa Aa Ak (all_cons (fun h => AJ (by kernel_rfl) h) Ak) ?_
       refine Hg (Aw ?_)
       refine vn tk 5 F W fun a w F W => ?_
       refine Ab ?_
       exact ⟨_, H, F.ra Aa, W⟩
      refine AA ?_
      iterate 2 refine AQ ?_
      refine AC (Ab ?_)
      have H := L8 _ H
      exact ⟨_, H, F.ra Aa, W⟩
     refine AB (Ab ?_)
     exact ⟨_, H, F.ra Aa, W⟩
    rintro a w ⟨x16, hj, F, W⟩
    have hj := Ax hj
    subst hj
    have H := K7
    clear G7 K7
    refine vc tk 8 F W fun a w F W => ?_
    refine AU F Aa H (fun F H => ?_) fun F H => ?_
    ·
     refine vc tk 8 F W fun a w F W => ?_
     refine AL H (fun s a w => Fr 133 [] [(0, v1), (1, .int .i64 p1), (2, .int .i64 p2), (6, .bool false), (7, .int .i64 x7), (8, .int .i64 x4), (10, .int .i64 s.2)] a ∧ Stw ⟨Y, X, w0⟩ [] [row v1 3 (Rp.int .i64) s.1] w) ⟨F.ra Aa, W⟩ fun s o a w H L9 hR => ?_
     obtain ⟨x25, x26⟩ := s
     obtain ⟨F, W⟩ := hR
     have F : Fr 133 [] [(0, v1), (1, .int .i64 p1), (2, .int .i64 p2), (6, .bool false), (7, .int .i64 x7), (8, .int .i64 x4), (10, .int .i64 x26)] a := F
     have W : Stw ⟨Y, X, w0⟩ [] [row v1 3 (Rp.int .i64) x25] w := W
     rw [A0] at H
     refine vc tk 8 F W fun a w F W => ?_
     refine AU F Aa H (fun F H => ?_) fun F H => ?_
     ·
      refine FP tk 6 F W fun a w F W => ?_
      refine BB W MO (by kernel_rfl) ?_
      iterate 2 refine qs F Aa (Ai F Aa).q fun a F => ?_
      obtain ⟨x27, h13, H⟩ := Ac H
      refine qs F Aa (Al (r := (Rp.int .i64)) EJ F Aa Aa (Af 0 Aa) h13).q fun a F => ?_
      refine qs F Aa (Ag (y := Value.int .i64 x27) (j := 0) (i := x26) F Aa Aa (Af 0 Aa) h13 Fl.int.to T3 Aa).q fun a F => ?_
      iterate 2 refine qs F Aa (Ai F Aa).q fun a F => ?_
      refine qs F Aa (Eu F Aa Aa Aa).q fun a F => ?_
      obtain ⟨x28, h14, H⟩ := Ac H
      refine qs F Aa (Al (r := (Rp.int .i64)) EJ F Aa Aa (Af 0 Aa) h14).q fun a F => ?_
      refine qs F Aa (Ag (y := Value.int .i64 x28) (j := 0) (i := An (x26 - 1)) F Aa Aa (Af 0 Aa) h14 Fl.int.to T3 Aa).q fun a F => ?_
      refine qs F Aa (Be (v := Value.bool (CI x27 x28)) F Xa Aa (fun w W => FC any w x27 x28 _ Aa)) fun a F => ?_
      refine qs F Aa (IY F Aa).q fun a F => ?_
      refine AD fun w W => ?_
      refine Ab ?_
      refine C2 F Aa H (fun F H => ?_) fun F H => ?_
      ·
       refine AA (AQ ?_)
       refine Il Aa ?_
       iterate 2 refine AQ ?_
       refine AC (Aw (Ab ?_))
       have H := L9 _ H
       exact ⟨_, _, H, F.ra Aa, W⟩
      refine FP tk 2 F W fun a w F W => ?_
      refine ER [(true, 0), (true, 1), (true, 2), (true, 3), (true, 4), (true, 5), (true, 6), (true, 7), (true, 8), (true, 9), (true, 10), (true, 11), (true, 12), (true, 13), (true, 14), (false, 15), (true, 16), (false, 17)] (CN ⟨Y, X, w0⟩ [] [(some 15, row v1 3 (Rp.int .i64) x25)]) (fun ch a d v w h => by cases d <;> exact h) MO (by kernel_rfl) W (fun w W => ⟨_, _, W, Ak, (all_cons (fun _ => (.head _)) Ak)⟩) fun w W => ?_
      iterate 4 refine A6 (R := []) F Aa Aa (yC fun M Z hN hZ => Ai F Aa) Aa Aa fun a F => ?_
      refine A6 (R := []) F Aa Aa (yC fun M Z hN hZ => Eu F Aa Aa Aa) Aa Aa fun a F => ?_
      iterate 2 refine A6 (R := []) F Aa Aa (yC fun M Z hN hZ => Ai F Aa) Aa Aa fun a F => ?_
      refine A6 (R := []) F Aa Aa (yC fun M Z hN hZ => Eu F Aa Aa Aa) Aa Aa fun a F => ?_
      obtain ⟨x29, h15, H⟩ := Ac H
      refine A6 (R := []) F Aa Aa (yC fun M Z hN hZ => Ba (r := (Rp.int .i64)) EJ F Aa Aa (C1 W (Af 0 Aa)) h15) Aa Aa fun a F => ?_
      refine A6 (R := [15]) F Aa Aa (yC fun M Z hN hZ => Ag (y := Value.int .i64 x29) (j := 0) (i := An (x26 - 1)) F Aa Aa (Di (hZ ((some 15), row v1 3 (Rp.int .i64) x25) (.head _) Aa)) h15 Fl.int.to T3 Aa) (by kernel_rfl) Aa fun a F => ?_
      iterate 2 refine A6 (R := []) F Aa Aa (yC fun M Z hN hZ => Ai F Aa) Aa Aa fun a F => ?_
      obtain ⟨x30, h16, H⟩ := Ac H
      refine A6 (R := []) F Aa Aa (yC fun M Z hN hZ => Ba (r := (Rp.int .i64)) EJ F Aa Aa (C1 W (Af 0 Aa)) h16) Aa Aa fun a F => ?_
      refine A6 (R := [15]) F Aa Aa (yC fun M Z hN hZ => Ag (y := Value.int .i64 x30) (j := 0) (i := x26) F Aa Aa (Di (hZ ((some 15), row v1 3 (Rp.int .i64) x25) (.head _) Aa)) h16 Fl.int.to T3 Aa) (by kernel_rfl) Aa fun a F => ?_
      obtain ⟨x31, h17, H⟩ := Ac H
      refine A6 (R := []) F Aa Aa (yC fun M Z hN hZ => Ba (r := (Rp.int .i64)) EJ F Aa Aa (C1 W (Af 0 Aa)) h17) Aa Aa fun a F => ?_
      refine F2 Aa ?_
      refine AY (i := x26) (j := 0) (vs := [.int .i64 x29]) (x' := x29) F W Aa Aa Aa (k := 0) Aa Aa h17 T3 Aa Aa Aa Aa (fun A cs _ => Fl.int.sto (by rfl) _ _ _) fun w W => ?_
      refine Cm (N2 := []) (NZ2 := []) (N3 := []) (NZ3 := [(some 15, row v1 3 (Rp.int .i64) x25)]) W Aa Aa Ak (all_cons (fun h => AJ (by kernel_rfl) h) Ak) ?_
      obtain ⟨x32, h18, H⟩ := Ac H
      refine A6 (R := []) F Aa Aa (yC fun M Z hN hZ => Ba (r := (Rp.int .i64)) EJ F Aa Aa (C1 W (Af 0 Aa)) h18) Aa Aa fun a F => ?_
      refine F2 Aa ?_
      refine AY (i := An (x26 - 1)) (j := 0) (vs := [.int .i64 x30]) (x' := x30) F W Aa Aa Aa (k := 0) Aa Aa h18 T3 Aa Aa Aa Aa (fun A cs _ => Fl.int.sto (by rfl) _ _ _) fun w W => ?_
      refine Cm (N2 := []) (NZ2 := []) (N3 := []) (NZ3 := [(some 15, row v1 3 (Rp.int .i64) x25)]) W Aa Aa Ak (all_cons (fun h => AJ (by kernel_rfl) h) Ak) ?_
      refine Hg (Aw ?_)
      refine vn tk 5 F W fun a w F W => ?_
      refine Ab ?_
      exact ⟨_, H, F.ra Aa, W⟩
     refine AA ?_
     iterate 2 refine AQ ?_
     refine AC (Aw (Ab ?_))
     have H := L9 _ H
     exact ⟨_, _, H, F.ra Aa, W⟩
    refine AB (Aw (Ab ?_))
    exact ⟨_, _, H, F.ra Aa, W⟩
   rintro a w ⟨x5, x6, hj, F, W⟩
   have H := K3 _ hj
   clear hj G3 K3 L3
   refine vc tk 5 F W fun a w F W => ?_
   refine Ab ?_
   exact ⟨_, H, F.ra Aa, W⟩
  refine AA ?_
  iterate 2 refine AQ ?_
  refine AC (Ab ?_)
  have H := L2 _ H
  exact ⟨_, H, F.ra Aa, W⟩
 rintro a w ⟨x1, hj, F, W⟩
 have H := K1 _ hj
 clear hj G1 K1 L1
 refine vc tk 5 F W fun a w F W => ?_
 refine Ao ?_
 have H := Ax H
 subst H
 refine A1 (.inl Aa) F W Aa (Am F Aa) ?_
 exact ⟨(), Aa, W⟩
theorem ZA : Has Tryz.prog 93 := Cu Tryz.func93
noncomputable def Ei (p0 : List Int) (p1 : Int) (p2 : Int) (p3 : Int) : Unit → Option (Unit ⊕ (List Int))
  | _ => (if (An (p2 - p1)) ≤ 12 then (Ce p0 p1 p2).bind fun x1 => some (.inr x1) else (if p3 = 0 then none else (Cs p0 p1 p2).bind fun x2 => (if x2.2 = 2 then none else GN (if x2.2 = 1 then (Bz p0 p1 p2).bind fun x4 => (if x4.1 = true then some (.inr (.inr x4.2)) else some (.inl x4.2)) else some (.inl p0)) fun x3 => (if 0 < p1 then (ix x3 (An (p1 - 1))).bind fun x6 => (ix x3 x2.1).bind fun x7 => some (!(CI x6 x7)) else some false).bind fun x5 => none)))
noncomputable def Du (p0 : List Int) (p1 : Int) (p2 : Int) (p3 : Int) : Option (List Int) := Ap (Ei p0 p1 p2 p3) ()
theorem IK (Y : Nat → Prop) (X : List Nat) (w0 : World) (v1 : Value) (p0 : List Int) (p1 : Int) (p2 : Int) (p3 : Int) (r : List Int) (H : Du p0 p1 p2 p3 = some r) (hL : Stw ⟨Y, X, w0⟩ [] [row v1 3 (Rp.int .i64) p0] w0) :
    Calls Tryz.prog 70 #[v1, .int .i64 p1, .int .i64 p2, .int .i64 p3] w0 fun e w' => ∃ x : Unit, e = .returned (.tuple #[]) ∧ Stw ⟨Y, X, w0⟩ [] [row v1 3 (Rp.int .i64) r] w' := by
 refine enter Tryz.func70 Aa Tryz.ntmps70 Aa fun a F => ?_
 have W := hL
 unfold Du at H
 refine vc tk 11 F W fun a w F W => ?_
 refine AL H (fun s a w => Fr 134 [] [(0, v1), (1, .int .i64 p1), (2, .int .i64 p2), (3, .int .i64 p3), (8, .bool true), (9, .bool true)] a ∧ Stw ⟨Y, X, w0⟩ [] [row v1 3 (Rp.int .i64) p0] w) ⟨F.ra Aa, W⟩ fun s o a w H L1 hR => ?_
 obtain ⟨F, W⟩ := hR
 have F : Fr 134 [] [(0, v1), (1, .int .i64 p1), (2, .int .i64 p2), (3, .int .i64 p3), (8, .bool true), (9, .bool true)] a := F
 have W : Stw ⟨Y, X, w0⟩ [] [row v1 3 (Rp.int .i64) p0] w := W
 rw [Ei] at H
 refine vc tk 16 F W fun a w F W => ?_
 refine AU F Aa H (fun F H => ?_) fun F H => ?_
 ·
  refine vc tk 5 F W fun a w F W => ?_
  obtain ⟨x1, h1, H⟩ := Ac H
  refine A9 (Ml := []) (Zl := [row v1 3 (Rp.int .i64) p0]) (β := Unit) (rv := fun x => .tuple #[]) (MM := fun x => []) (ZZ := fun x => [row v1 3 (Rp.int .i64) x1]) F W Z0 Aa Aa (fun hL => Hn _ _ w (v1) p0 p1 p2 _ h1 hL) fun x a w F W => ?_
  have W : Stw ⟨Y, X, w0⟩ [] [row v1 3 (Rp.int .i64) x1] w := W
  refine BR tk 2 F W fun a w F W => ?_
  refine Ao (AE (AW (AE (AW ?_))))
  have H := L1 _ H
  have H := Ax H
  subst H
  refine Jf (.inl Aa) F Aa ?_
  exact ⟨(), Aa, W⟩
 refine FP tk 9 F W fun a w F W => ?_
 refine AU F Aa H (fun F H => ?_) fun F H => ?_
 ·
  exact nomatch H
 refine FP tk 17 F W fun a w F W => ?_
 obtain ⟨x2, h2, H⟩ := Ac H
 refine ls F W Aa (Be (v := Value.tuple #[.int .i64 x2.1, .int .i64 x2.2]) F ZP Aa (fun w W => HH any w (v1) p0 p1 p2 _ h2 (EG (Af 0 Aa) W))) fun a w F W => ?_
 refine ls F W Aa (Ai F Aa).q fun a w F W => ?_
 refine ls F W Aa (Bi (v := Value.int .i64 x2.1) F Aa Aa).q fun a w F W => ?_
 refine ls F W Aa (Bi (v := Value.int .i64 x2.2) F Aa Aa).q fun a w F W => ?_
 refine BR tk 11 F W fun a w F W => ?_
 refine AU F Aa H (fun F H => ?_) fun F H => ?_
 ·
  exact nomatch H
 refine AB (Ab ?_)
 obtain ⟨o2, G2, K2, L2⟩ := Mg H
 refine Aq (fun a w => ∃ x3 : List Int, some (Sum.inl x3) = some o2 ∧ Fr 134 [] [(0, v1), (1, .int .i64 p1), (2, .int .i64 p2), (3, .int .i64 p3), (8, .bool true), (9, .bool true), (10, .int .i64 (An (p2 - p1))), (11, .int .i64 x2.1)] a ∧ Stw ⟨Y, X, w0⟩ [] [row v1 3 (Rp.int .i64) x3] w) ?_ ?_
 ·
  have H := G2
  clear G2 K2
  refine vc tk 12 F W fun a w F W => ?_
  refine Gu F Aa (fun hb => ?_) fun hb => ?_
  ·
   have H := D0 (Fm hb) H
   rw [hb] at F
   clear hb
   refine vc tk 5 F W fun a w F W => ?_
   obtain ⟨x4, h3, H⟩ := Ac H
   refine A9 (Ml := []) (Zl := [row v1 3 (Rp.int .i64) p0]) (β := Unit) (rv := fun x => .bool x4.1) (MM := fun x => []) (ZZ := fun x => [row v1 3 (Rp.int .i64) x4.2]) F W ZA Aa Aa (fun hL => Ga _ _ w (v1) p0 p1 p2 _ h3 hL) fun x a w F W => ?_
   have W : Stw ⟨Y, X, w0⟩ [] [row v1 3 (Rp.int .i64) x4.2] w := W
   refine BR tk 2 F W fun a w F W => ?_
   refine C2 F Aa H (fun F H => ?_) fun F H => ?_
   ·
    refine Ao (AE (AW (AE (AW ?_))))
    have H := L2 _ H
    have H := L1 _ H
    have H := Ax H
    subst H
    refine Jf (.inl Aa) F Aa ?_
    exact ⟨(), Aa, W⟩
   refine AB (Ab ?_)
   exact ⟨_, H, F.ra Aa, W⟩
  have H := DZ (Fo hb) H
  rw [hb] at F
  clear hb
  refine AB (Ab ?_)
  exact ⟨_, H, F.ra Aa, W⟩
 rintro a w ⟨x3, hj, F, W⟩
 have H := K2 _ hj
 clear hj G2 K2 L2
 refine Hp ?_
 obtain ⟨o3, G3, K3⟩ := Ac H
 refine Aq (fun a w => ∃ x5 : Bool, some (x5) = some o3 ∧ Fr 134 [] [(0, v1), (1, .int .i64 p1), (2, .int .i64 p2), (3, .int .i64 p3), (8, .bool true), (9, .bool true), (10, .int .i64 (An (p2 - p1))), (11, .int .i64 x2.1), (87, .bool x5)] a ∧ Stw ⟨Y, X, w0⟩ [] [row v1 3 (Rp.int .i64) x3] w) ?_ ?_
 ·
  have H := G3
  clear G3 K3
  refine BB W MO (by kernel_rfl) ?_
  refine qs F Aa (Ai F Aa).q fun a F => ?_
  refine qs F Aa (Qb F Aa Aa).q fun a F => ?_
  refine qs F Aa (Ai F Aa).q fun a F => ?_
  rcases Bool.eq_false_or_eq_true (decide (0 < p1)) with hb | hb
  ·
   have H := D0 (Fm hb) H
   rw [hb] at F
   clear hb
   iterate 2 refine A8 F (Ae F Aa Aa Aa Aa) Aa (As Aa) (Ai F Aa).q fun a F => ?_
   refine A8 F (Ae F Aa Aa Aa Aa) Aa (As Aa) (Eu F Aa Aa Aa).q fun a F => ?_
   obtain ⟨x6, h4, H⟩ := Ac H
   refine A8 F (Ae F Aa Aa Aa Aa) Aa (As Aa) (Al (r := (Rp.int .i64)) EJ F Aa Aa (Af 0 Aa) h4).q fun a F => ?_
   refine A8 F (Ae F Aa Aa Aa Aa) Aa (As Aa) (Ag (y := Value.int .i64 x6) (j := 0) (i := An (p1 - 1)) F Aa Aa (Af 0 Aa) h4 Fl.int.to T3 Aa).q fun a F => ?_
   iterate 2 refine A8 F (Ae F Aa Aa Aa Aa) Aa (As Aa) (Ai F Aa).q fun a F => ?_
   obtain ⟨x7, h5, H⟩ := Ac H
   refine A8 F (Ae F Aa Aa Aa Aa) Aa (As Aa) (Al (r := (Rp.int .i64)) EJ F Aa Aa (Af 0 Aa) h5).q fun a F => ?_
   refine A8 F (Ae F Aa Aa Aa Aa) Aa (As Aa) (Ag (y := Value.int .i64 x7) (j := 0) (i := x2.1) F Aa Aa (Af 0 Aa) h5 Fl.int.to T3 Aa).q fun a F => ?_
   refine A8 F (Ae F Aa Aa Aa Aa) Aa (As Aa) (Be (v := Value.bool (CI x6 x7)) F Xa Aa (fun w W => FC any w x6 x7 _ Aa)) fun a F => ?_
   refine A8 F (Ae F Aa Aa Aa Aa) Aa (As Aa) (IY F Aa).q fun a F => ?_
   refine qs F Aa (Dh F Aa Aa Aa).q fun a F => ?_
   refine AD fun w W => ?_
   refine Ab ?_
   exact ⟨_, H, F.ra Aa, W⟩
  have H := DZ (Fo hb) H
  rw [hb] at F
  clear hb
  iterate 11 refine Ds F (C3 F Aa Aa Aa Aa Aa) Aa Aa fun a F => ?_
  refine qs F Aa (DC F Aa Aa Aa).q fun a F => ?_
  refine AD fun w W => ?_
  refine Ab ?_
  exact ⟨_, H, F.ra Aa, W⟩
 rintro a w ⟨x5, hj, F, W⟩
 have hj := Ax hj
 subst hj
 have H := K3
 clear G3 K3
 exact nomatch H
theorem bF : Has Tryz.prog 70 := Cu Tryz.func70
noncomputable def DU (p0 : List Int) : Option (List Int) := (Ff (IntKind.u64.wrap (p0.length : Int))).bind fun x1 => (Du p0 0 (p0.length : Int) x1).bind fun x2 => some x2
theorem HJ (Y : Nat → Prop) (X : List Nat) (w0 : World) (v1 : Value) (p0 : List Int) (r : List Int) (H : DU p0 = some r) (hL : Stw ⟨Y, X, w0⟩ [] [row v1 3 (Rp.int .i64) p0] w0) :
    Calls Tryz.prog 46 #[v1] w0 fun e w' => ∃ x : Unit, e = .returned (.tuple #[]) ∧ Stw ⟨Y, X, w0⟩ [] [row v1 3 (Rp.int .i64) r] w' := by
 refine enter Tryz.func46 Aa Tryz.ntmps46 Aa fun a F => ?_
 have W := hL
 unfold DU at H
 refine vc tk 3 F W fun a w F W => ?_
 refine ls F W Aa (BS (r := (Rp.int .i64)) (l := p0) IV Aa F Aa (Af 0 Aa)).q fun a w F W => ?_
 refine BR tk 7 F W fun a w F W => ?_
 refine ls F W Aa (J8 QW Vg F Aa).q fun a w F W => ?_
 obtain ⟨x1, h1, H⟩ := Ac H
 refine ls F W Aa (Be (v := Value.int .i64 x1) F YM Aa (fun w W => Iq any w (IntKind.u64.wrap (p0.length : Int)) _ h1)) fun a w F W => ?_
 obtain ⟨x2, h2, H⟩ := Ac H
 refine A9 (Ml := []) (Zl := [row v1 3 (Rp.int .i64) p0]) (β := Unit) (rv := fun x => .tuple #[]) (MM := fun x => []) (ZZ := fun x => [row v1 3 (Rp.int .i64) x2]) F W bF Aa Aa (fun hL => IK _ _ w (v1) p0 0 (p0.length : Int) x1 _ h2 hL) fun x a w F W => ?_
 have W : Stw ⟨Y, X, w0⟩ [] [row v1 3 (Rp.int .i64) x2] w := W
 refine FG ?_
 have H := Ax H
 subst H
 refine Jf (.inr Aa) F Aa ?_
 exact ⟨(), Aa, W⟩
theorem Zq : Has Tryz.prog 46 := Cu Tryz.func46
noncomputable def Cw (p0 : List Int) (x1 : Int) : (List Int × Int × Int) → Option ((List Int × Int × Int) ⊕ (List Int × Int))
  | (x7, x8, x9) => (J3 x7 x1 (p0.length : Int)).bind fun x10 => (if x9 < (x10.length : Int) then ((ix x10 x9).bind fun x13 => (ix x10 (An (x9 - 1))).bind fun x14 => (if x13 ≠ x14 then (ix x10 x9).bind fun x15 => (ix x7 x8).bind fun x16 => some ((Ah x7 x8 x15), An (x8 + 1)) else some (x7, x8))).bind fun (x11, x12) => some (.inl (x11, x12, An (x9 + 1))) else some (.inr (x7, x8)))
noncomputable def Cc (p0 : List Int) : Int → Option (Int ⊕ (Unit ⊕ (List Int)))
  | x1 => (if x1 < (p0.length : Int) then GN ((ix p0 x1).bind fun x2 => (ix p0 (An (x1 - 1))).bind fun x3 => (if x2 = x3 then (J3 p0 x1 (p0.length : Int)).bind fun x4 => (Ap (Cw p0 x1) (p0, x1, 1)).bind fun (x5, x6) => (J3 x5 x6 (x5.length : Int)).bind fun x17 => (W7 x5 x6 (List.replicate (x17.length) (0 : Int))).bind fun x18 => (J3 x18 0 x6).bind fun x19 => some (.inr (.inr (.inr x19))) else some (.inl ()))) fun _ => some (.inl (An (x1 + 1))) else some (.inr (.inl ())))
noncomputable def Dr (p0 : List Int) : Option (List Int) := (if (p0.length : Int) < 2 then some p0 else GN (Ap (Cc p0) 1) fun _ => some p0)
theorem GT (Y : Nat → Prop) (X : List Nat) (w0 : World) (v1 : Value) (p0 : List Int) (r : List Int) (H : Dr p0 = some r) (hL : Stw ⟨Y, X, w0⟩ [] [row v1 3 (Rp.int .i64) p0] w0) :
    Calls Tryz.prog 47 #[v1] w0 fun e w' => ∃ x : Value, e = .returned (x) ∧ Stw ⟨Y, X, w0⟩ [] [row (x) 3 (Rp.int .i64) r] w' := by
 refine enter Tryz.func47 Aa Tryz.ntmps47 Aa fun a F => ?_
 have W := hL
 unfold Dr at H
 refine vc tk 9 F W fun a w F W => ?_
 refine ls F W Aa (BS (r := (Rp.int .i64)) (l := p0) IV Aa F Aa (Af 0 Aa)).q fun a w F W => ?_
 refine BR tk 3 F W fun a w F W => ?_
 refine AU F Aa H (fun F H => ?_) fun F H => ?_
 ·
  refine vc tk 6 F W fun a w F W => ?_
  refine Ao (AE ?_)
  have H := Ax H
  subst H
  refine A1 (.inl Aa) F W Aa (Am F Aa) ?_
  exact ⟨(v1), Aa, W⟩
 refine AB (Ab ?_)
 obtain ⟨o1, G1, K1, L1⟩ := Mg H
 refine Aq (fun a w => some (Sum.inl ()) = some o1 ∧ Fr 61 [] [(0, v1), (2, .slice none 0 0)] a ∧ Stw ⟨Y, X, w0⟩ [] [row v1 3 (Rp.int .i64) p0] w) ?_ ?_
 ·
  have H := G1
  clear G1 K1
  refine vc tk 6 F W fun a w F W => ?_
  refine AL H (fun s a w => Fr 61 [] [(0, v1), (2, .slice none 0 0), (3, .int .i64 s)] a ∧ Stw ⟨Y, X, w0⟩ [] [row v1 3 (Rp.int .i64) p0] w) ⟨F.ra Aa, W⟩ fun s o a w H L2 hR => ?_
  obtain ⟨x1, rfl⟩ : ∃ x, x = s := ⟨s, rfl⟩
  obtain ⟨F, W⟩ := hR
  have F : Fr 61 [] [(0, v1), (2, .slice none 0 0), (3, .int .i64 x1)] a := F
  have W : Stw ⟨Y, X, w0⟩ [] [row v1 3 (Rp.int .i64) p0] w := W
  rw [Cc] at H
  refine vc tk 5 F W fun a w F W => ?_
  refine ls F W Aa (BS (r := (Rp.int .i64)) (l := p0) IV Aa F Aa (Af 0 Aa)).q fun a w F W => ?_
  refine BR tk 3 F W fun a w F W => ?_
  refine AU F Aa H (fun F H => ?_) fun F H => ?_
  ·
   refine AB (Ab ?_)
   obtain ⟨o3, G3, K3, L3⟩ := Mg H
   refine Aq (fun a w => some (Sum.inl ()) = some o3 ∧ Fr 61 [] [(0, v1), (2, .slice none 0 0), (3, .int .i64 x1)] a ∧ Stw ⟨Y, X, w0⟩ [] [row v1 3 (Rp.int .i64) p0] w) ?_ ?_
   ·
    have H := G3
    clear G3 K3
    refine vc tk 2 F W fun a w F W => ?_
    refine BB W MO (by kernel_rfl) ?_
    iterate 2 refine qs F Aa (Ai F Aa).q fun a F => ?_
    obtain ⟨x2, h1, H⟩ := Ac H
    refine qs F Aa (Al (r := (Rp.int .i64)) EJ F Aa Aa (Af 0 Aa) h1).q fun a F => ?_
    refine qs F Aa (Ag (y := Value.int .i64 x2) (j := 0) (i := x1) F Aa Aa (Af 0 Aa) h1 Fl.int.to T3 Aa).q fun a F => ?_
    iterate 2 refine qs F Aa (Ai F Aa).q fun a F => ?_
    refine qs F Aa (Eu F Aa Aa Aa).q fun a F => ?_
    obtain ⟨x3, h2, H⟩ := Ac H
    refine qs F Aa (Al (r := (Rp.int .i64)) EJ F Aa Aa (Af 0 Aa) h2).q fun a F => ?_
    refine qs F Aa (Ag (y := Value.int .i64 x3) (j := 0) (i := An (x1 - 1)) F Aa Aa (Af 0 Aa) h2 Fl.int.to T3 Aa).q fun a F => ?_
    refine qs F Aa (T9 F Aa Aa).q fun a F => ?_
    refine AD fun w W => ?_
    refine Ab ?_
    refine AU F Aa H (fun F H => ?_) fun F H => ?_
    ·
     refine vc tk 4 F W fun a w F W => ?_
     obtain ⟨x4, h3, H⟩ := Ac H
     refine ls F W Aa (LZ (r := (Rp.int .i64)) EJ F Aa Aa Aa (Af 0 Aa) h3).q fun a w F W => ?_
     refine vl tk 2 F W fun a w F W => ?_
     refine Ab ?_
     obtain ⟨o4, G4, K4⟩ := Ac H
     refine Aq (fun a w => ∃ x5 : List Int, ∃ x6 : Int, some ((x5, x6)) = some o4 ∧ Fr 61 [] [(0, v1), (2, .slice none 0 0), (3, .int .i64 x6)] a ∧ Stw ⟨Y, X, w0⟩ [] [row v1 3 (Rp.int .i64) x5] w) ?_ ?_
     ·
      have H := G4
      clear G4 K4
      refine vc tk 6 F W fun a w F W => ?_
      refine AL H (fun s a w => Fr 61 [] [(0, v1), (2, .slice none 0 0), (3, .int .i64 s.2.1), (4, (EC v1 x1 (p0.length : Int) 1)), (5, .int .i64 s.2.2)] a ∧ Stw ⟨Y, X, w0⟩ [] [row v1 3 (Rp.int .i64) s.1] w) ⟨F.ra Aa, W⟩ fun s o a w H L5 hR => ?_
      obtain ⟨x7, x8, x9⟩ := s
      obtain ⟨F, W⟩ := hR
      have F : Fr 61 [] [(0, v1), (2, .slice none 0 0), (3, .int .i64 x8), (4, (EC v1 x1 (p0.length : Int) 1)), (5, .int .i64 x9)] a := F
      have W : Stw ⟨Y, X, w0⟩ [] [row v1 3 (Rp.int .i64) x7] w := W
      rw [Cw] at H
      refine vc tk 5 F W fun a w F W => ?_
      obtain ⟨x10, h4, H⟩ := Ac H
      refine ls F W Aa (BS (r := (Rp.int .i64)) (l := x10) IV Aa F Aa (Kh (Af 0 Aa) h4)).q fun a w F W => ?_
      refine BR tk 3 F W fun a w F W => ?_
      refine AU F Aa H (fun F H => ?_) fun F H => ?_
      ·
       refine AB (Ab ?_)
       obtain ⟨o6, G6, K6⟩ := Ac H
       refine Aq (fun a w => ∃ x11 : List Int, ∃ x12 : Int, some ((x11, x12)) = some o6 ∧ Fr 61 [] [(0, v1), (2, .slice none 0 0), (3, .int .i64 x12), (4, (EC v1 x1 (p0.length : Int) 1)), (5, .int .i64 x9)] a ∧ Stw ⟨Y, X, w0⟩ [] [row v1 3 (Rp.int .i64) x11] w) ?_ ?_
       ·
        have H := G6
        clear G6 K6
        refine vc tk 2 F W fun a w F W => ?_
        refine BB W MO (by kernel_rfl) ?_
        iterate 2 refine qs F Aa (Ai F Aa).q fun a F => ?_
        obtain ⟨x13, h5, H⟩ := Ac H
        refine qs F Aa (Al (r := (Rp.int .i64)) EJ F Aa Aa (Kh (Af 0 Aa) h4) h5).q fun a F => ?_
        refine qs F Aa (Ag (y := Value.int .i64 x13) (j := 0) (i := x9) F Aa Aa (Kh (Af 0 Aa) h4) h5 Fl.int.to T3 Aa).q fun a F => ?_
        iterate 2 refine qs F Aa (Ai F Aa).q fun a F => ?_
        refine qs F Aa (Eu F Aa Aa Aa).q fun a F => ?_
        obtain ⟨x14, h6, H⟩ := Ac H
        refine qs F Aa (Al (r := (Rp.int .i64)) EJ F Aa Aa (Kh (Af 0 Aa) h4) h6).q fun a F => ?_
        refine qs F Aa (Ag (y := Value.int .i64 x14) (j := 0) (i := An (x9 - 1)) F Aa Aa (Kh (Af 0 Aa) h4) h6 Fl.int.to T3 Aa).q fun a F => ?_
        refine qs F Aa (Sg F Aa Aa).q fun a F => ?_
        refine AD fun w W => ?_
        refine Ab ?_
        refine AU F Aa H (fun F H => ?_) fun F H => ?_
        ·
         refine vc tk 6 F W fun a w F W => ?_
         obtain ⟨x15, h7, H⟩ := Ac H
         refine ls F W Aa (Al (r := (Rp.int .i64)) EJ F Aa Aa (Kh (Af 0 Aa) h4) h7).q fun a w F W => ?_
         refine ls F W Aa (Ag (y := Value.int .i64 x15) (j := 0) (i := x9) F Aa Aa (Kh (Af 0 Aa) h4) h7 Fl.int.to T3 Aa).q fun a w F W => ?_
         obtain ⟨x16, h8, H⟩ := Ac H
         refine ls F W Aa (Al (r := (Rp.int .i64)) EJ F Aa Aa (Af 0 Aa) h8).q fun a w F W => ?_
         refine AY (i := x8) (j := 0) (vs := [.int .i64 x15]) (x' := x15) F W Aa Aa Aa (k := 0) Aa Aa h8 T3 Aa Aa Aa Aa (fun A cs _ => Fl.int.sto (by rfl) _ _ _) fun w W => ?_
         refine BR tk 7 F W fun a w F W => ?_
         refine Aw (Ab ?_)
         exact ⟨_, _, H, F.ra Aa, W⟩
        refine AB (Aw (Ab ?_))
        exact ⟨_, _, H, F.ra Aa, W⟩
       rintro a w ⟨x11, x12, hj, F, W⟩
       have hj := Ax hj
       subst hj
       have H := K6
       clear G6 K6
       refine vc tk 5 F W fun a w F W => ?_
       refine Ab ?_
       exact ⟨_, H, F.ra Aa, W⟩
      refine AA ?_
      iterate 2 refine AQ ?_
      refine AC (Ab ?_)
      have H := L5 _ H
      exact ⟨_, _, H, F.ra Aa, W⟩
     rintro a w ⟨x5, x6, hj, F, W⟩
     have hj := Ax hj
     subst hj
     have H := K4
     clear G4 K4
     refine vc tk 4 F W fun a w F W => ?_
     obtain ⟨x17, h9, H⟩ := Ac H
     refine ls F W Aa (LZ (r := (Rp.int .i64)) EJ F Aa Aa Aa (Af 0 Aa) h9).q fun a w F W => ?_
     obtain ⟨x18, h10, H⟩ := Ac H
     refine UI (r := (Rp.int .i64)) (v := v1) (k := 0) (0 : Int) F W EJ Z3 Aa Aa Aa h9 (fun w A => Fl.int.mk' w A (0 : Int)) h10 fun w W => ?_
     have W : Stw ⟨Y, X, w0⟩ [] [row v1 3 (Rp.int .i64) x18] w := W
     refine BR tk 6 F W fun a w F W => ?_
     obtain ⟨x19, h11, H⟩ := Ac H
     refine ls F W Aa (LZ (r := (Rp.int .i64)) EJ F Aa Aa Aa (Af 0 Aa) h11).q fun a w F W => ?_
     refine BR tk 3 F W fun a w F W => ?_
     refine Ao (AW ?_)
     iterate 2 refine AE ?_
     refine AW (AE ?_)
     have H := L3 _ H
     have H := L2 _ H
     have H := L1 _ H
     have H := Ax H
     subst H
     refine A1 (.inl Aa) F W Aa (Am F Aa) ?_
     have W := W.subRow (k := 0) Aa Aa h11
     exact ⟨((EC v1 (0 : Int) x6 1)), Aa, W⟩
    refine AB (Aw (Ab ?_))
    exact ⟨H, F.ra Aa, W⟩
   rintro a w ⟨hj, F, W⟩
   have H := K3 _ hj
   clear hj G3 K3 L3
   refine vc tk 5 F W fun a w F W => ?_
   refine Ab ?_
   exact ⟨_, H, F.ra Aa, W⟩
  refine AA ?_
  iterate 2 refine AQ ?_
  refine AC (Ab ?_)
  have H := L2 _ H
  exact ⟨H, F.ra Aa, W⟩
 rintro a w ⟨hj, F, W⟩
 have H := K1 _ hj
 clear hj G1 K1 L1
 refine vc tk 6 F W fun a w F W => ?_
 refine Ao ?_
 have H := Ax H
 subst H
 refine A1 (.inl Aa) F W Aa (Am F Aa) ?_
 exact ⟨(v1), Aa, W⟩
theorem Zu : Has Tryz.prog 47 := Cu Tryz.func47
noncomputable def FY (p0 : List Int) : Option (List Int) := (DU p0).bind fun x1 => (Dr x1).bind fun x2 => some x2
theorem Mh (Y : Nat → Prop) (X : List Nat) (w0 : World) (v1 : Value) (p0 : List Int) (r : List Int) (H : FY p0 = some r) (hL : Stw ⟨Y, X, w0⟩ [] [row v1 3 (Rp.int .i64) p0] w0) :
    Calls Tryz.prog 43 #[v1] w0 fun e w' => ∃ x : Value, e = .returned (x) ∧ Stw ⟨Y, X, w0⟩ [] [row (x) 3 (Rp.int .i64) r] w' := by
 refine enter Tryz.func43 Aa Tryz.ntmps43 Aa fun a F => ?_
 have W := hL
 unfold FY at H
 refine vc tk 8 F W fun a w F W => ?_
 obtain ⟨x1, h1, H⟩ := Ac H
 refine A9 (Ml := []) (Zl := [row v1 3 (Rp.int .i64) p0]) (β := Unit) (rv := fun x => .tuple #[]) (MM := fun x => []) (ZZ := fun x => [row v1 3 (Rp.int .i64) x1]) F W Zq Aa Aa (fun hL => HJ _ _ w (v1) p0 _ h1 hL) fun x a w F W => ?_
 have W : Stw ⟨Y, X, w0⟩ [] [row v1 3 (Rp.int .i64) x1] w := W
 refine BR tk 5 F W fun a w F W => ?_
 obtain ⟨x2, h2, H⟩ := Ac H
 refine A9 (Ml := []) (Zl := [row v1 3 (Rp.int .i64) x1]) (β := Value) (rv := fun x => x) (MM := fun x => []) (ZZ := fun x => [row x 3 (Rp.int .i64) x2]) F W Zu Aa Aa (fun hL => GT _ _ w (v1) x1 _ h2 hL) fun x a w F W => ?_
 obtain ⟨v2, rfl⟩ : ∃ y, y = x := ⟨x, rfl⟩
 have W : Stw ⟨Y, X, w0⟩ [] [row v2 3 (Rp.int .i64) x2] w := W
 refine BR tk 3 F W fun a w F W => ?_
 refine Ao ?_
 have H := Ax H
 subst H
 refine A1 (.inl Aa) F W Aa (Am F Aa) ?_
 exact ⟨(v2), Aa, W⟩
theorem ZF : Has Tryz.prog 43 := Cu Tryz.func43
abbrev VM (a0 : Nat) (a1 : Int × Int × Int × Int) : List (Nat × List Value) := [(a0, [.int .i64 a1.1, .int .i64 a1.2.1, .int .i64 a1.2.2.1, .int .i64 a1.2.2.2])]
noncomputable def EZ (p0 : List (Int × Int × Int × Int)) : (List Int × Int) → Option ((List Int × Int) ⊕ (List Int))
  | (x2, x3) => (if x3 < (p0.length : Int) then (ix p0 x3).bind fun x4 => (H4 x2 ([x4.2.2.2] : List Int)).bind fun x5 => some (.inl (x5, An (x3 + 1))) else some (.inr x2))
noncomputable def Hz (p0 : List (Int × Int × Int × Int)) : Option (List Int) := (Ap (EZ p0) ([], 0)).bind fun x1 => (FY x1).bind fun x6 => some x6
theorem Oa (Y : Nat → Prop) (w0 : World) (v1 : Value) (p0 : List (Int × Int × Int × Int)) (r : List Int) (H : Hz p0 = some r) (h_v1 : Sl w0 (NX []) A5 v1 p0) :
    Calls Tryz.prog 26 #[v1] w0 fun e w' => ∃ x : Value, e = .returned (x) ∧ Stw ⟨Y, [], w0⟩ [] [row (x) 3 (Rp.int .i64) r] w' := by
 refine enter Tryz.func26 Aa Tryz.ntmps26 Aa fun a F => ?_
 have W := Stw.start Y w0
 unfold Hz at H
 refine vc tk 10 F W fun a w F W => ?_
 obtain ⟨o1, G1, K1⟩ := Ac H
 refine Aq (fun a w => ∃ x1 : List Int, ∃ v2 : Value, some (x1) = some o1 ∧ Fr 20 [] [(2, .slice none 0 0), (3, v2)] a ∧ Stw ⟨Y, [], w0⟩ [] [row v2 3 (Rp.int .i64) x1] w) ?_ ?_
 ·
  have H := G1
  clear G1 K1
  refine vc tk 3 F W fun a w F W => ?_
  refine ls F W Aa (BS (r := A5) (l := p0) Qz Aa F Aa (Ad h_v1)).q fun a w F W => ?_
  refine BR tk 4 F W fun a w F W => ?_
  have W := W.nilRow 3 (Rp.int .i64)
  refine AL H (fun s a w => ∃ v3 : Value, Fr 20 [] [(2, .slice none 0 0), (3, v3), (6, v1), (7, .int .i64 (p0.length : Int)), (8, .int .i64 s.2)] a ∧ Stw ⟨Y, [], w0⟩ [] [row v3 3 (Rp.int .i64) s.1] w) ⟨(Value.slice none 0 0), F.ra Aa, W⟩ fun s o a w H L2 hR => ?_
  obtain ⟨x2, x3⟩ := s
  obtain ⟨v3, F, W⟩ := hR
  have F : Fr 20 [] [(2, .slice none 0 0), (3, v3), (6, v1), (7, .int .i64 (p0.length : Int)), (8, .int .i64 x3)] a := F
  have W : Stw ⟨Y, [], w0⟩ [] [row v3 3 (Rp.int .i64) x2] w := W
  rw [EZ] at H
  refine vc tk 6 F W fun a w F W => ?_
  refine AU F Aa H (fun F H => ?_) fun F H => ?_
  ·
   refine FP tk 6 F W fun a w F W => ?_
   obtain ⟨x4, h1, H⟩ := Ac H
   refine ls F W Aa (Al (r := A5) EM F Aa Aa (Ad h_v1) h1).q fun a w F W => ?_
   refine ls F W Aa (Ag (y := Value.agg #[.int .i64 x4.1, .int .i64 x4.2.1, .int .i64 x4.2.2.1, .int .i64 x4.2.2.2]) (j := 0) (i := x3) F Aa Aa (Ad h_v1) h1 ES.to Er Aa).q fun a w F W => ?_
   refine B8 (cs := (QM)) F W Aa W3 Aa fun b1 a w F W => ?_
   refine Ey 0 F W Aa Aa Aa Er Aa Aa Aa fun w W => ?_
   refine JG tk 6 [0] F W (ai fun a w F W => ?_)
   refine D6 (z := Value.int .i64 0) (cs := [.int .i64 x4.2.2.2]) (Rp.int .i64) ([x4.2.2.2] : List Int) F W Aa EJ Z3 Aa Aa Aa Aa Aa Aa (Fl.int.repL _ _ ([x4.2.2.2] : List Int)) fun v4 a w F W => ?_
   obtain ⟨x5, h2, H⟩ := Ac H
   refine DB (r := (Rp.int .i64)) (i := 1) F W Aa EJ Aa Aa Aa Aa (Ez W 0 Aa) h2 Aa fun v5 a w F W => ?_
   have W : Stw ⟨Y, [], w0⟩ (VM b1 x4) [row v5 3 (Rp.int .i64) x5, row v4 3 (Rp.int .i64) ([x4.2.2.2] : List Int)] w := W
   refine vl tk 2 F W fun a w F W => ?_
   refine Aw ?_
   refine vn tk 4 F W fun a w F W => ?_
   refine Ab ?_
   have W := W.sub (M' := []) (Z' := [row v5 3 (Rp.int .i64) x5]) (List.nil_sublist _) (List.Sublist.cons_cons _ (List.nil_sublist _))
   exact ⟨_, H, (v5), F.ra Aa, W⟩
  refine AA ?_
  iterate 2 refine AQ ?_
  refine AC (Ab ?_)
  have H := L2 _ H
  exact ⟨_, (v3), H, F.ra Aa, W⟩
 rintro a w ⟨x1, v2, hj, F, W⟩
 have hj := Ax hj
 subst hj
 have H := K1
 clear G1 K1
 refine vc tk 3 F W fun a w F W => ?_
 obtain ⟨x6, h3, H⟩ := Ac H
 refine A9 (Ml := []) (Zl := [row v2 3 (Rp.int .i64) x1]) (β := Value) (rv := fun x => x) (MM := fun x => []) (ZZ := fun x => [row x 3 (Rp.int .i64) x6]) F W ZF Aa Aa (fun hL => Mh _ _ w (v2) x1 _ h3 hL) fun x a w F W => ?_
 obtain ⟨v6, rfl⟩ : ∃ y, y = x := ⟨x, rfl⟩
 have W : Stw ⟨Y, [], w0⟩ [] [row v6 3 (Rp.int .i64) x6] w := W
 refine BR tk 3 F W fun a w F W => ?_
 refine Ao ?_
 have H := Ax H
 subst H
 refine A1 (.inl Aa) F W Aa (Am F Aa) ?_
 exact ⟨(v6), Aa, W⟩
theorem UE : type_of% Tryz.underlying68 := Tryz.underlying68
theorem Ui : type_of% Tryz.underlying70 := Tryz.underlying70
theorem bI : Has Tryz.prog 26 := Cu Tryz.func26
theorem ZT : Bt Tryz.prog 70 [.int .i64 0, .int .i64 0, .int .i64 0] [(0, 1), (1, 1), (2, 1)] := ⟨⟨.agg #[.int .i64 0, .int .i64 0, .int .i64 0], by kernel_rfl, rfl⟩, ⟨_, Ui, fun w => by kernel_rfl⟩⟩
theorem YR : (Tryz.prog.info? 70).bind (·.zero) = some (.agg #[.int .i64 0, .int .i64 0, .int .i64 0]) := by kernel_rfl
abbrev PQ : Rp (Int × Int × Int) := (Rp.pair (Rp.int .i64) (Rp.pair (Rp.int .i64) (Rp.int .i64)))
def aK (a : Int × Int × Int) : List Value := [.int .i64 a.1, .int .i64 a.2.1, .int .i64 a.2.2]
theorem YW : Fl PQ aK := (Fl.pair Fl.int (Fl.pair Fl.int Fl.int))
theorem Ya : Et Tryz.prog 68 70 3 24 := Et.of UE (by kernel_rfl) (by kernel_rfl) (by kernel_rfl) (by decide)
theorem Yi : Ty Tryz.prog 70 true 3 := ⟨by kernel_rfl, by kernel_rfl⟩
abbrev RU (a0 : Int × Int × Int) : List Value := [.int .i64 a0.1, .int .i64 a0.2.1, .int .i64 a0.2.2]
noncomputable def Fe (p0 : Int) (p1 : List (Int × Int × Int)) : Int → Option (Int ⊕ (Unit ⊕ Bool))
  | x1 => (if x1 < (p1.length : Int) then (ix p1 x1).bind fun x2 => (if (decide (x2.1 < 0) || (decide (p0 ≤ x2.1) || (decide (x2.2.1 < 0) || (decide (p0 ≤ x2.2.1) || (decide (x2.2.2 < (-1073741824)) || decide (1073741824 < x2.2.2)))))) = true then some (.inr (.inr false)) else some (.inl (An (x1 + 1)))) else some (.inr (.inl ())))
noncomputable def I8 (p0 : Int) (p1 : List (Int × Int × Int)) : Option Bool := (if (decide (p0 < 0) || (decide (64 < p0) || decide (256 < (p1.length : Int)))) = true then some false else GN (Ap (Fe p0 p1) 0) fun _ => some true)
theorem Pm (Y : Nat → Prop) (w0 : World) (v1 : Value) (p0 : Int) (p1 : List (Int × Int × Int)) (r : Bool) (H : I8 p0 p1 = some r) (h_v1 : Sl w0 (NX []) PQ v1 p1) :
    Calls Tryz.prog 44 #[.int .i64 p0, v1] w0 fun e w' => e = .returned (.bool r) ∧ Below w0.heap.size w0 w' := by
 refine enter Tryz.func44 Aa Tryz.ntmps44 Aa fun a F => ?_
 have W := Stw.start Y w0
 unfold I8 at H
 refine vc tk 6 F W fun a w F W => ?_
 refine Aq (fun a w => Fr 55 [] [(0, .int .i64 p0), (1, v1), (4, .bool false), (17, .bool (decide (p0 < 0) || (decide (64 < p0) || decide (256 < (p1.length : Int)))))] a ∧ Stw ⟨Y, [], w0⟩ [] [] w) ?_ ?_
 ·
  refine vc tk 4 F W fun a w F W => ?_
  rcases Bool.eq_false_or_eq_true (decide (p0 < 0)) with hb0 | hb0
  ·
   rw [hb0] at F
   refine vl tk 9 F W fun a w F W => ?_
   refine Ab ?_
   exact ⟨F.re ⟨rfl, Aa, Aa, (H0 (by try rw [hb0]; all_goals simp only [H2])), trivial⟩, W⟩
  rw [hb0] at F
  refine vl tk 4 F W fun a w F W => ?_
  rcases Bool.eq_false_or_eq_true (decide (64 < p0)) with hb1 | hb1
  ·
   rw [hb1] at F
   refine vl tk 5 F W fun a w F W => ?_
   refine Ab ?_
   exact ⟨F.re ⟨rfl, Aa, Aa, (H0 (by try rw [hb1]; try rw [hb0]; all_goals simp only [H2])), trivial⟩, W⟩
  rw [hb1] at F
  refine Hs F W (Ae F Aa Aa Aa Aa) Aa (As Aa) (Ai F Aa).q fun a w F W => ?_
  refine Hs F W (Ae F Aa Aa Aa Aa) Aa (As Aa) (BS (r := PQ) (l := p1) UE Aa F Aa (Ad h_v1)).q fun a w F W => ?_
  refine vl tk 3 F W fun a w F W => ?_
  refine Ab ?_
  exact ⟨F.re ⟨rfl, Aa, Aa, (H0 (by try rw [hb1]; try rw [hb0]; all_goals simp only [H2])), trivial⟩, W⟩
 rintro a w ⟨F, W⟩
 refine C2 F Aa H (fun F H => ?_) fun F H => ?_
 ·
  refine vc tk 5 F W fun a w F W => ?_
  refine Ao (AE ?_)
  have H := Ax H
  subst H
  refine A1 (.inl Aa) F W Aa (Am F Aa) ?_
  exact ⟨rfl, W.done⟩
 refine AB (Ab ?_)
 obtain ⟨o1, G1, K1, L1⟩ := Mg H
 refine Aq (fun a w => some (Sum.inl ()) = some o1 ∧ Fr 55 [] [(4, .bool false)] a ∧ Stw ⟨Y, [], w0⟩ [] [] w) ?_ ?_
 ·
  have H := G1
  clear G1 K1
  refine vc tk 3 F W fun a w F W => ?_
  refine ls F W Aa (BS (r := PQ) (l := p1) UE Aa F Aa (Ad h_v1)).q fun a w F W => ?_
  refine BR tk 4 F W fun a w F W => ?_
  refine AL H (fun s a w => Fr 55 [] [(0, .int .i64 p0), (4, .bool false), (18, v1), (19, .int .i64 (p1.length : Int)), (20, .int .i64 s)] a ∧ Stw ⟨Y, [], w0⟩ [] [] w) ⟨F.ra Aa, W⟩ fun s o a w H L2 hR => ?_
  obtain ⟨x1, rfl⟩ : ∃ x, x = s := ⟨s, rfl⟩
  obtain ⟨F, W⟩ := hR
  have F : Fr 55 [] [(0, .int .i64 p0), (4, .bool false), (18, v1), (19, .int .i64 (p1.length : Int)), (20, .int .i64 x1)] a := F
  have W : Stw ⟨Y, [], w0⟩ [] [] w := W
  rw [Fe] at H
  refine vc tk 6 F W fun a w F W => ?_
  refine AU F Aa H (fun F H => ?_) fun F H => ?_
  ·
   refine FP tk 6 F W fun a w F W => ?_
   obtain ⟨x2, h1, H⟩ := Ac H
   refine ls F W Aa (Al (r := PQ) Ya F Aa Aa (Ad h_v1) h1).q fun a w F W => ?_
   refine ls F W Aa (Ag (y := Value.agg #[.int .i64 x2.1, .int .i64 x2.2.1, .int .i64 x2.2.2]) (j := 0) (i := x1) F Aa Aa (Ad h_v1) h1 YW.to Yi Aa).q fun a w F W => ?_
   refine B8 (cs := [.int .i64 0, .int .i64 0, .int .i64 0]) F W Aa YR Aa fun b1 a w F W => ?_
   refine Ey 0 F W Aa Aa Aa Yi Aa Aa Aa fun w W => ?_
   refine BR tk 2 F W fun a w F W => ?_
   refine Aq (fun a w => Fr 55 [] [(0, .int .i64 p0), (4, .bool false), (18, v1), (19, .int .i64 (p1.length : Int)), (20, .int .i64 x1), (53, .bool (decide (x2.1 < 0) || (decide (p0 ≤ x2.1) || (decide (x2.2.1 < 0) || (decide (p0 ≤ x2.2.1) || (decide (x2.2.2 < (-1073741824)) || decide (1073741824 < x2.2.2)))))))] a ∧ Stw ⟨Y, [], w0⟩ [(b1, [.int .i64 x2.1, .int .i64 x2.2.1, .int .i64 x2.2.2])] [] w) ?_ ?_
   ·
    refine IL tk 5 [0] F W (ai fun a w F W => ?_)
    rcases Bool.eq_false_or_eq_true (decide (x2.1 < 0)) with hb0 | hb0
    ·
     rw [hb0] at F
     refine vl tk 27 F W fun a w F W => ?_
     refine Ab ?_
     exact ⟨F.re ⟨rfl, Aa, Aa, Aa, Aa, (H0 (by try rw [hb0]; all_goals simp only [H2])), trivial⟩, W⟩
    rw [hb0] at F
    refine Ky tk 6 [0] F W (ai fun a w F W => ?_)
    rcases Bool.eq_false_or_eq_true (decide (p0 ≤ x2.1)) with hb1 | hb1
    ·
     rw [hb1] at F
     refine vl tk 21 F W fun a w F W => ?_
     refine Ab ?_
     exact ⟨F.re ⟨rfl, Aa, Aa, Aa, Aa, (H0 (by try rw [hb1]; try rw [hb0]; all_goals simp only [H2])), trivial⟩, W⟩
    rw [hb1] at F
    refine Ky tk 5 [0] F W (ai fun a w F W => ?_)
    rcases Bool.eq_false_or_eq_true (decide (x2.2.1 < 0)) with hb2 | hb2
    ·
     rw [hb2] at F
     refine vl tk 16 F W fun a w F W => ?_
     refine Ab ?_
     exact ⟨F.re ⟨rfl, Aa, Aa, Aa, Aa, (H0 (by try rw [hb2]; try rw [hb1]; try rw [hb0]; all_goals simp only [H2])), trivial⟩, W⟩
    rw [hb2] at F
    refine Ky tk 6 [0] F W (ai fun a w F W => ?_)
    rcases Bool.eq_false_or_eq_true (decide (p0 ≤ x2.2.1)) with hb3 | hb3
    ·
     rw [hb3] at F
     refine vl tk 10 F W fun a w F W => ?_
     refine Ab ?_
     exact ⟨F.re ⟨rfl, Aa, Aa, Aa, Aa, (H0 (by try rw [hb3]; try rw [hb2]; try rw [hb1]; try rw [hb0]; all_goals simp only [H2])), trivial⟩, W⟩
    rw [hb3] at F
    refine Ky tk 5 [0] F W (ai fun a w F W => ?_)
    rcases Bool.eq_false_or_eq_true (decide (x2.2.2 < (-1073741824))) with hb4 | hb4
    ·
     rw [hb4] at F
     refine vl tk 5 F W fun a w F W => ?_
     refine Ab ?_
     exact ⟨F.re ⟨rfl, Aa, Aa, Aa, Aa, (H0 (by try rw [hb4]; try rw [hb3]; try rw [hb2]; try rw [hb1]; try rw [hb0]; all_goals simp only [H2])), trivial⟩, W⟩
    rw [hb4] at F
    refine Ky tk 5 [0] F W (ai fun a w F W => ?_)
    refine Ab ?_
    exact ⟨F.re ⟨rfl, Aa, Aa, Aa, Aa, (H0 (by try rw [hb4]; try rw [hb3]; try rw [hb2]; try rw [hb1]; try rw [hb0]; all_goals simp only [H2])), trivial⟩, W⟩
   rintro a w ⟨F, W⟩
   refine C2 F Aa H (fun F H => ?_) fun F H => ?_
   ·
    refine vc tk 5 F W fun a w F W => ?_
    refine Ao (AW ?_)
    iterate 2 refine AE ?_
    refine AW (AE ?_)
    have H := L2 _ H
    have H := L1 _ H
    have H := Ax H
    subst H
    refine A1 (.inl Aa) F W Aa (Am F Aa) ?_
    exact ⟨rfl, W.done⟩
   refine AB (Aw ?_)
   refine vn tk 4 F W fun a w F W => ?_
   refine Ab ?_
   have W := W.sub (M' := []) (Z' := []) (List.nil_sublist _) (List.Sublist.refl _)
   exact ⟨_, H, F.ra Aa, W⟩
  refine AA ?_
  iterate 2 refine AQ ?_
  refine AC (Ab ?_)
  have H := L2 _ H
  exact ⟨H, F.ra Aa, W⟩
 rintro a w ⟨hj, F, W⟩
 have H := K1 _ hj
 clear hj G1 K1 L1
 refine vc tk 5 F W fun a w F W => ?_
 refine Ao ?_
 have H := Ax H
 subst H
 refine A1 (.inl Aa) F W Aa (Am F Aa) ?_
 exact ⟨rfl, W.done⟩
theorem Vc : type_of% Tryz.underlying93 := Tryz.underlying93
theorem ZG : Has Tryz.prog 44 := Cu Tryz.func44
theorem Wd : (Tryz.prog.info? 93).bind (·.zero) = some (.agg #[.slice none 0 0, .slice none 0 0, .int .i64 0]) := by kernel_rfl
theorem W8 : Bt Tryz.prog 93 [.slice none 0 0, .slice none 0 0, .int .i64 0] [(0, 1), (1, 1), (2, 1)] := ⟨⟨.agg #[.slice none 0 0, .slice none 0 0, .int .i64 0], by kernel_rfl, rfl⟩, ⟨_, Vc, fun w => by kernel_rfl⟩⟩
theorem UH : Ty Tryz.prog 93 true 3 := ⟨by kernel_rfl, by kernel_rfl⟩
abbrev NO  : List Value := [.slice none 0 0, .slice none 0 0, .int .i64 0]
abbrev Lp (a0 : Nat) (a1 : Value) (a2 : Value) (a3 : Nat) : List (Nat × List Value) := [(a0, [a1, a2, .int .i64 (-1)]), (a3, [.slice none 0 0, .slice none 0 0, .int .i64 0])]
noncomputable def Dq (p0 : Int) (p1 : List (Int × Int × Int)) (x6 : Int) : (Bool × Int × List Int × List Int) → Option ((Bool × Int × List Int × List Int) ⊕ ((Bool × List Int × List Int) ⊕ ((List Int × List Int) ⊕ ((Int × List Int × List Int) ⊕ (List Int × List Int × Int)))))
  | (x14, x15, x16, x17) => (if x15 < (p1.length : Int) then GN ((ix p1 x15).bind fun x21 => (ix x16 x21.1).bind fun x22 => (ix x16 x21.2.1).bind fun x23 => (if (An (x22 + x21.2.2)) ≤ x23 then some (.inl (x14, x16, x17)) else (ix x16 x21.2.1).bind fun x24 => (ix x17 x21.2.1).bind fun x25 => (if x6 = p0 then some (.inr (.inr (.inr (.inr (.inr ((Ah x16 x21.2.1 (An (x22 + x21.2.2))), (Ah x17 x21.2.1 x15), x21.2.1)))))) else some (.inl (true, (Ah x16 x21.2.1 (An (x22 + x21.2.2))), (Ah x17 x21.2.1 x15)))))) fun (x18, x19, x20) => some (.inl (x18, An (x15 + 1), x19, x20)) else some (.inr (.inl (x14, x16, x17))))
noncomputable def Fg (p0 : Int) (p1 : List (Int × Int × Int)) : (Int × List Int × List Int) → Option ((Int × List Int × List Int) ⊕ (List Int × List Int × Int))
  | (x6, x7, x8) => GN (GN (Ap (Dq p0 p1 x6) (false, 0, x7, x8)) fun (x11, x12, x13) => (if (!x11) = true then some (.inr (.inr (x12, x13, (-1)))) else some (.inl (x12, x13)))) fun (x9, x10) => some (.inl (An (x6 + 1), x9, x10))
noncomputable def I7 (p0 : Int) (p1 : List (Int × Int × Int)) : Option (List Int × List Int × Int) := (mk p0 (0 : Int)).bind fun x1 => (mk p0 (0 : Int)).bind fun x2 => (Ap (Fg p0 p1) (1, x1, x2)).bind fun (x3, x4, x5) => some (x3, x4, x5)
theorem PP (Y : Nat → Prop) (w0 : World) (v1 : Value) (p0 : Int) (p1 : List (Int × Int × Int)) (r : (List Int × List Int × Int)) (H : I7 p0 p1 = some r) (h_v1 : Sl w0 (NX []) PQ v1 p1) :
    Calls Tryz.prog 45 #[.int .i64 p0, v1] w0 fun e w' => ∃ x : Value × Value, e = .returned (.agg #[x.1, x.2, .int .i64 r.2.2]) ∧ Stw ⟨Y, [], w0⟩ [] [row (x.1) 3 (Rp.int .i64) r.1, row (x.2) 3 (Rp.int .i64) r.2.1] w' := by
 refine enter Tryz.func45 Aa Tryz.ntmps45 Aa fun a F => ?_
 have W := Stw.start Y w0
 unfold I7 at H
 refine vc tk 2 F W fun a w F W => ?_
 refine B8 (cs := (NO)) F W Aa Wd Aa fun b1 a w F W => ?_
 refine BR tk 2 F W fun a w F W => ?_
 refine Ma (Hp ?_)
 obtain ⟨x1, h1, H⟩ := Ac H
 obtain ⟨x2, h2, H⟩ := Ac H
 refine US (fun a w => ∃ b2 : Nat, ∃ v2 : Value, ∃ v3 : Value, Fr 64 [] [(0, .int .i64 p0), (1, v1), (4, .pointer (some ⟨b1, 0, none⟩)), (5, .pointer (some ⟨b2, 0, none⟩)), (11, .int .i64 p0), (12, v2), (13, .int .i64 p0), (14, v3), (15, .agg #[v2, v3, .int .i64 (-1)])] a ∧ Stw ⟨Y, [], w0⟩ (Lp b2 v2 v3 b1) [row v3 3 (Rp.int .i64) x2, row v2 3 (Rp.int .i64) x1] w) ?_ ?_
 ·
  refine Th (PT.st 0 (PT.st 2 (PT.alt 1 (PT.alt 3 (PT.st 4 (PT.alt 5 (PT.alt 6 PT.done PT.stop) PT.stop)) (PT.alt 5 (PT.alt 3 (PT.st 4 (PT.alt 6 PT.done PT.stop)) PT.stop) PT.stop)) (PT.alt 3 (PT.alt 1 (PT.st 4 (PT.alt 5 (PT.alt 6 PT.done PT.stop) PT.stop)) (PT.alt 5 (PT.alt 1 (PT.st 4 (PT.alt 6 PT.done PT.stop)) PT.stop) PT.stop)) (PT.alt 5 (PT.alt 1 (PT.alt 3 (PT.st 4 (PT.alt 6 PT.done PT.stop)) PT.stop) (PT.alt 3 (PT.alt 1 (PT.st 4 (PT.alt 6 PT.done PT.stop)) PT.stop) PT.stop)) PT.stop))))) (CN ⟨Y, [], w0⟩ [] []) (fun ch a d v w h => by cases d <;> exact h) MO (by kernel_rfl) W (fun w W => ⟨_, _, W, Ak, Ak⟩) fun w W => ?_
  iterate 2 refine Q5 (R := []) F Aa Aa (yC fun M Z hN hZ => Ai F Aa) Aa Aa fun a F => ?_
  refine OU Aa ?_ ?_
  ·
   refine IW (r := (Rp.int .i64)) (0 : Int) F W Aa EJ Z3 Aa Aa (fun w A => Fl.int.mk' w A _) h1 Aa fun v2 a w F W => ?_
   refine D9 (N2 := []) (NZ2 := []) (N3 := []) (NZ3 := []) W Aa Aa Ak Ak ?_
   refine OU Aa ?_ ?_
   ·
    refine IW (r := (Rp.int .i64)) (0 : Int) F W Aa EJ Z3 Aa Aa (fun w A => Fl.int.mk' w A _) h2 Aa fun v3 a w F W => ?_
    refine D9 (N2 := []) (NZ2 := []) (N3 := []) (NZ3 := []) W Aa Aa Ak Ak ?_
    refine Q5 (R := []) F Aa Aa (yC fun M Z hN hZ => Cg (v := Value.agg #[v2, v3, .int .i64 (-1)]) W8 F Aa (Bb Aa (BM (W.one (k := 1) Aa)) Aa (Bb Aa (BM (W.one (k := 0) Aa)) Aa (Bb Aa Aa Aa Eo))) Aa) Aa Aa fun a F => ?_
    refine Kn Aa ?_
    refine B8 (cs := (NO)) F W Aa Wd Aa fun b2 a w F W => ?_
    refine D9 (N2 := []) (NZ2 := []) (N3 := []) (NZ3 := []) W Aa Aa Ak Ak ?_
    refine Kn Aa ?_
    refine Ey 0 F W Aa Aa Aa UH Aa Aa (AV (W.one (k := 1) Aa) (AV (W.one (k := 0) Aa) (AV Aa Fp))) fun w W => ?_
    refine D9 (N2 := []) (NZ2 := []) (N3 := []) (NZ3 := []) W Aa Aa Ak Ak ?_
    have W := W.frontZ (i := 1) Aa Aa
    have W := W.frontZ (i := 1) Aa Aa
    have W := W.frontM (i := 1) Aa Aa
    have W := W.frontM (i := 1) Aa Aa
    refine MR ?_
    exact ⟨b2, v2, v3, F.ra Aa, W⟩
   refine OU Aa ?_ ?_
   ·
    refine B8 (cs := (NO)) F W Aa Wd Aa fun b2 a w F W => ?_
    refine D9 (N2 := []) (NZ2 := []) (N3 := []) (NZ3 := []) W Aa Aa Ak Ak ?_
    refine Kn Aa ?_
    refine IW (r := (Rp.int .i64)) (0 : Int) F W Aa EJ Z3 Aa Aa (fun w A => Fl.int.mk' w A _) h2 Aa fun v3 a w F W => ?_
    refine D9 (N2 := []) (NZ2 := []) (N3 := []) (NZ3 := []) W Aa Aa Ak Ak ?_
    refine Q5 (R := []) F Aa Aa (yC fun M Z hN hZ => Cg (v := Value.agg #[v2, v3, .int .i64 (-1)]) W8 F Aa (Bb Aa (BM (W.one (k := 1) Aa)) Aa (Bb Aa (BM (W.one (k := 0) Aa)) Aa (Bb Aa Aa Aa Eo))) Aa) Aa Aa fun a F => ?_
    refine Kn Aa ?_
    refine Ey 0 F W Aa Aa Aa UH Aa Aa (AV (W.one (k := 1) Aa) (AV (W.one (k := 0) Aa) (AV Aa Fp))) fun w W => ?_
    refine D9 (N2 := []) (NZ2 := []) (N3 := []) (NZ3 := []) W Aa Aa Ak Ak ?_
    have W := W.frontZ (i := 1) Aa Aa
    have W := W.frontZ (i := 1) Aa Aa
    have W := W.frontM (i := 1) Aa Aa
    have W := W.frontM (i := 1) Aa Aa
    refine MR ?_
    exact ⟨b2, v2, v3, F.ra Aa, W⟩
   exact trivial
  refine OU Aa ?_ ?_
  ·
   refine IW (r := (Rp.int .i64)) (0 : Int) F W Aa EJ Z3 Aa Aa (fun w A => Fl.int.mk' w A _) h2 Aa fun v3 a w F W => ?_
   refine D9 (N2 := []) (NZ2 := []) (N3 := []) (NZ3 := []) W Aa Aa Ak Ak ?_
   refine OU Aa ?_ ?_
   ·
    refine IW (r := (Rp.int .i64)) (0 : Int) F W Aa EJ Z3 Aa Aa (fun w A => Fl.int.mk' w A _) h1 Aa fun v2 a w F W => ?_
    refine D9 (N2 := []) (NZ2 := []) (N3 := []) (NZ3 := []) W Aa Aa Ak Ak ?_
    refine Q5 (R := []) F Aa Aa (yC fun M Z hN hZ => Cg (v := Value.agg #[v2, v3, .int .i64 (-1)]) W8 F Aa (Bb Aa (BM (W.one (k := 0) Aa)) Aa (Bb Aa (BM (W.one (k := 1) Aa)) Aa (Bb Aa Aa Aa Eo))) Aa) Aa Aa fun a F => ?_
    refine Kn Aa ?_
    refine B8 (cs := (NO)) F W Aa Wd Aa fun b2 a w F W => ?_
    refine D9 (N2 := []) (NZ2 := []) (N3 := []) (NZ3 := []) W Aa Aa Ak Ak ?_
    refine Kn Aa ?_
    refine Ey 0 F W Aa Aa Aa UH Aa Aa (AV (W.one (k := 0) Aa) (AV (W.one (k := 1) Aa) (AV Aa Fp))) fun w W => ?_
    refine D9 (N2 := []) (NZ2 := []) (N3 := []) (NZ3 := []) W Aa Aa Ak Ak ?_
    have W := W.frontZ (i := 1) Aa Aa
    have W := W.frontM (i := 1) Aa Aa
    have W := W.frontM (i := 1) Aa Aa
    refine MR ?_
    exact ⟨b2, v2, v3, F.ra Aa, W⟩
   refine OU Aa ?_ ?_
   ·
    refine B8 (cs := (NO)) F W Aa Wd Aa fun b2 a w F W => ?_
    refine D9 (N2 := []) (NZ2 := []) (N3 := []) (NZ3 := []) W Aa Aa Ak Ak ?_
    refine Kn Aa ?_
    refine IW (r := (Rp.int .i64)) (0 : Int) F W Aa EJ Z3 Aa Aa (fun w A => Fl.int.mk' w A _) h1 Aa fun v2 a w F W => ?_
    refine D9 (N2 := []) (NZ2 := []) (N3 := []) (NZ3 := []) W Aa Aa Ak Ak ?_
    refine Q5 (R := []) F Aa Aa (yC fun M Z hN hZ => Cg (v := Value.agg #[v2, v3, .int .i64 (-1)]) W8 F Aa (Bb Aa (BM (W.one (k := 0) Aa)) Aa (Bb Aa (BM (W.one (k := 1) Aa)) Aa (Bb Aa Aa Aa Eo))) Aa) Aa Aa fun a F => ?_
    refine Kn Aa ?_
    refine Ey 0 F W Aa Aa Aa UH Aa Aa (AV (W.one (k := 0) Aa) (AV (W.one (k := 1) Aa) (AV Aa Fp))) fun w W => ?_
    refine D9 (N2 := []) (NZ2 := []) (N3 := []) (NZ3 := []) W Aa Aa Ak Ak ?_
    have W := W.frontZ (i := 1) Aa Aa
    have W := W.frontM (i := 1) Aa Aa
    have W := W.frontM (i := 1) Aa Aa
    refine MR ?_
    exact ⟨b2, v2, v3, F.ra Aa, W⟩
   exact trivial
  refine OU Aa ?_ ?_
  ·
   refine B8 (cs := (NO)) F W Aa Wd Aa fun b2 a w F W => ?_
   refine D9 (N2 := []) (NZ2 := []) (N3 := []) (NZ3 := []) W Aa Aa Ak Ak ?_
   refine OU Aa ?_ ?_
   ·
    refine IW (r := (Rp.int .i64)) (0 : Int) F W Aa EJ Z3 Aa Aa (fun w A => Fl.int.mk' w A _) h1 Aa fun v2 a w F W => ?_
    refine D9 (N2 := []) (NZ2 := []) (N3 := []) (NZ3 := []) W Aa Aa Ak Ak ?_
    refine Kn Aa ?_
    refine IW (r := (Rp.int .i64)) (0 : Int) F W Aa EJ Z3 Aa Aa (fun w A => Fl.int.mk' w A _) h2 Aa fun v3 a w F W => ?_
    refine D9 (N2 := []) (NZ2 := []) (N3 := []) (NZ3 := []) W Aa Aa Ak Ak ?_
    refine Q5 (R := []) F Aa Aa (yC fun M Z hN hZ => Cg (v := Value.agg #[v2, v3, .int .i64 (-1)]) W8 F Aa (Bb Aa (BM (W.one (k := 1) Aa)) Aa (Bb Aa (BM (W.one (k := 0) Aa)) Aa (Bb Aa Aa Aa Eo))) Aa) Aa Aa fun a F => ?_
    refine Kn Aa ?_
    refine Ey 0 F W Aa Aa Aa UH Aa Aa (AV (W.one (k := 1) Aa) (AV (W.one (k := 0) Aa) (AV Aa Fp))) fun w W => ?_
    refine D9 (N2 := []) (NZ2 := []) (N3 := []) (NZ3 := []) W Aa Aa Ak Ak ?_
    have W := W.frontZ (i := 1) Aa Aa
    have W := W.frontZ (i := 1) Aa Aa
    have W := W.frontM (i := 1) Aa Aa
    have W := W.frontM (i := 1) Aa Aa
    refine MR ?_
    exact ⟨b2, v2, v3, F.ra Aa, W⟩
   refine OU Aa ?_ ?_
   ·
    refine IW (r := (Rp.int .i64)) (0 : Int) F W Aa EJ Z3 Aa Aa (fun w A => Fl.int.mk' w A _) h2 Aa fun v3 a w F W => ?_
    refine D9 (N2 := []) (NZ2 := []) (N3 := []) (NZ3 := []) W Aa Aa Ak Ak ?_
    refine Kn Aa ?_
    refine IW (r := (Rp.int .i64)) (0 : Int) F W Aa EJ Z3 Aa Aa (fun w A => Fl.int.mk' w A _) h1 Aa fun v2 a w F W => ?_
    refine D9 (N2 := []) (NZ2 := []) (N3 := []) (NZ3 := []) W Aa Aa Ak Ak ?_
    refine Q5 (R := []) F Aa Aa (yC fun M Z hN hZ => Cg (v := Value.agg #[v2, v3, .int .i64 (-1)]) W8 F Aa (Bb Aa (BM (W.one (k := 0) Aa)) Aa (Bb Aa (BM (W.one (k := 1) Aa)) Aa (Bb Aa Aa Aa Eo))) Aa) Aa Aa fun a F => ?_
    refine Kn Aa ?_
    refine Ey 0 F W Aa Aa Aa UH Aa Aa (AV (W.one (k := 0) Aa) (AV (W.one (k := 1) Aa) (AV Aa Fp))) fun w W => ?_
    refine D9 (N2 := []) (NZ2 := []) (N3 := []) (NZ3 := []) W Aa Aa Ak Ak ?_
    have W := W.frontZ (i := 1) Aa Aa
    have W := W.frontM (i := 1) Aa Aa
    have W := W.frontM (i := 1) Aa Aa
    refine MR ?_
    exact ⟨b2, v2, v3, F.ra Aa, W⟩
   exact trivial
  exact trivial
 rintro a w ⟨b2, v2, v3, F, W⟩
 refine vn tk 3 F W fun a w F W => ?_
 obtain ⟨o1, G1, K1⟩ := Ac H
 refine Aq (fun a w => ∃ x3 : List Int, ∃ x4 : List Int, ∃ x5 : Int, some ((x3, x4, x5)) = some o1 ∧ Fr 64 [] [(4, .pointer (some ⟨b1, 0, none⟩)), (5, .pointer (some ⟨b2, 0, none⟩))] a ∧ Stw ⟨Y, [], w0⟩ [(b2, [v2, v3, .int .i64 x5]), (b1, [.slice none 0 0, .slice none 0 0, .int .i64 0])] [row v2 3 (Rp.int .i64) x3, row v3 3 (Rp.int .i64) x4] w) ?_ ?_
 ·
  have H := G1
  clear G1 K1
  refine vc tk 6 F W fun a w F W => ?_
  have W := W.frontZ (i := 1) Aa Aa
  have W := W.frontM (i := 1) Aa Aa
  have W := W.frontM (i := 1) Aa Aa
  refine AL H (fun s a w => Fr 64 [] [(0, .int .i64 p0), (1, v1), (4, .pointer (some ⟨b1, 0, none⟩)), (5, .pointer (some ⟨b2, 0, none⟩)), (6, .int .i64 s.1)] a ∧ Stw ⟨Y, [], w0⟩ (Lp b2 v2 v3 b1) [row v2 3 (Rp.int .i64) s.2.1, row v3 3 (Rp.int .i64) s.2.2] w) ⟨F.ra Aa, W⟩ fun s o a w H L2 hR => ?_
  obtain ⟨x6, x7, x8⟩ := s
  obtain ⟨F, W⟩ := hR
  have F : Fr 64 [] [(0, .int .i64 p0), (1, v1), (4, .pointer (some ⟨b1, 0, none⟩)), (5, .pointer (some ⟨b2, 0, none⟩)), (6, .int .i64 x6)] a := F
  have W : Stw ⟨Y, [], w0⟩ (Lp b2 v2 v3 b1) [row v2 3 (Rp.int .i64) x7, row v3 3 (Rp.int .i64) x8] w := W
  rw [Fg] at H
  obtain ⟨o3, G3, K3, L3⟩ := Mg H
  refine Aq (fun a w => ∃ x9 : List Int, ∃ x10 : List Int, some (Sum.inl (x9, x10)) = some o3 ∧ Fr 64 [] [(0, .int .i64 p0), (1, v1), (4, .pointer (some ⟨b1, 0, none⟩)), (5, .pointer (some ⟨b2, 0, none⟩)), (6, .int .i64 x6)] a ∧ Stw ⟨Y, [], w0⟩ (Lp b2 v2 v3 b1) [row v2 3 (Rp.int .i64) x9, row v3 3 (Rp.int .i64) x10] w) ?_ ?_
  ·
   have H := G3
   clear G3 K3
   refine vc tk 6 F W fun a w F W => ?_
   obtain ⟨o4, G4, K4, L4⟩ := Mg H
   refine Aq (fun a w => ∃ x11 : Bool, ∃ x12 : List Int, ∃ x13 : List Int, some (Sum.inl (x11, x12, x13)) = some o4 ∧ Fr 64 [] [(0, .int .i64 p0), (1, v1), (4, .pointer (some ⟨b1, 0, none⟩)), (5, .pointer (some ⟨b2, 0, none⟩)), (6, .int .i64 x6), (7, .bool x11)] a ∧ Stw ⟨Y, [], w0⟩ (Lp b2 v2 v3 b1) [row v2 3 (Rp.int .i64) x12, row v3 3 (Rp.int .i64) x13] w) ?_ ?_
   ·
    have H := G4
    clear G4 K4
    refine vc tk 3 F W fun a w F W => ?_
    refine ls F W Aa (BS (r := PQ) (l := p1) UE Aa F Aa (Ad h_v1)).q fun a w F W => ?_
    refine BR tk 4 F W fun a w F W => ?_
    have W := W.frontZ (i := 1) Aa Aa
    have W := W.frontZ (i := 1) Aa Aa
    have W := W.frontM (i := 1) Aa Aa
    have W := W.frontM (i := 1) Aa Aa
    refine AL H (fun s a w => Fr 64 [] [(0, .int .i64 p0), (1, v1), (4, .pointer (some ⟨b1, 0, none⟩)), (5, .pointer (some ⟨b2, 0, none⟩)), (6, .int .i64 x6), (7, .bool s.1), (18, v1), (19, .int .i64 (p1.length : Int)), (20, .int .i64 s.2.1)] a ∧ Stw ⟨Y, [], w0⟩ (Lp b2 v2 v3 b1) [row v2 3 (Rp.int .i64) s.2.2.1, row v3 3 (Rp.int .i64) s.2.2.2] w) ⟨F.ra Aa, W⟩ fun s o a w H L5 hR => ?_
    obtain ⟨x14, x15, x16, x17⟩ := s
    obtain ⟨F, W⟩ := hR
    have F : Fr 64 [] [(0, .int .i64 p0), (1, v1), (4, .pointer (some ⟨b1, 0, none⟩)), (5, .pointer (some ⟨b2, 0, none⟩)), (6, .int .i64 x6), (7, .bool x14), (18, v1), (19, .int .i64 (p1.length : Int)), (20, .int .i64 x15)] a := F
    have W : Stw ⟨Y, [], w0⟩ (Lp b2 v2 v3 b1) [row v2 3 (Rp.int .i64) x16, row v3 3 (Rp.int .i64) x17] w := W
    rw [Dq] at H
    refine vc tk 6 F W fun a w F W => ?_
    refine AU F Aa H (fun F H => ?_) fun F H => ?_
    ·
     refine AB (Ab ?_)
     obtain ⟨o6, G6, K6, L6⟩ := Mg H
     refine Aq (fun a w => ∃ x18 : Bool, ∃ x19 : List Int, ∃ x20 : List Int, some (Sum.inl (x18, x19, x20)) = some o6 ∧ Fr 64 [] [(0, .int .i64 p0), (1, v1), (4, .pointer (some ⟨b1, 0, none⟩)), (5, .pointer (some ⟨b2, 0, none⟩)), (6, .int .i64 x6), (7, .bool x18), (18, v1), (19, .int .i64 (p1.length : Int)), (20, .int .i64 x15)] a ∧ Stw ⟨Y, [], w0⟩ (Lp b2 v2 v3 b1) [row v2 3 (Rp.int .i64) x19, row v3 3 (Rp.int .i64) x20] w) ?_ ?_
     ·
      have H := G6
      clear G6 K6
      refine vc tk 4 F W fun a w F W => ?_
      obtain ⟨x21, h3, H⟩ := Ac H
      refine ls F W Aa (Al (r := PQ) Ya F Aa Aa (Ad h_v1) h3).q fun a w F W => ?_
      refine ls F W Aa (Ag (y := Value.agg #[.int .i64 x21.1, .int .i64 x21.2.1, .int .i64 x21.2.2]) (j := 0) (i := x15) F Aa Aa (Ad h_v1) h3 YW.to Yi Aa).q fun a w F W => ?_
      refine B8 (cs := [.int .i64 0, .int .i64 0, .int .i64 0]) F W Aa YR Aa fun b3 a w F W => ?_
      refine ls F W Aa (Dn F Aa).q fun a w F W => ?_
      refine Ey 0 F W Aa Aa Aa Yi Aa Aa Aa fun w W => ?_
      refine BR tk 3 F W fun a w F W => ?_
      refine BB W MO (by kernel_rfl) ?_
      refine qs F Aa (Az Vc Aa Aa Aa NA F Aa 0 Aa).q fun a F => ?_
      refine qs F Aa (BE (v := v2) 1 F Aa Aa NA Aa).q fun a F => ?_
      refine qs F Aa (Az Ui Aa Aa Aa T3 F Aa 0 Aa).q fun a F => ?_
      refine qs F Aa (BE (v := Value.int .i64 x21.1) 0 F Aa Aa T3 Aa).q fun a F => ?_
      obtain ⟨x22, h4, H⟩ := Ac H
      refine qs F Aa (Al (r := (Rp.int .i64)) EJ F Aa Aa (Af 0 Aa) h4).q fun a F => ?_
      refine qs F Aa (Ag (y := Value.int .i64 x22) (j := 0) (i := x21.1) F Aa Aa (Af 0 Aa) h4 Fl.int.to T3 Aa).q fun a F => ?_
      refine qs F Aa (Az Ui Aa Aa Aa T3 F Aa 2 Aa).q fun a F => ?_
      refine qs F Aa (BE (v := Value.int .i64 x21.2.2) 0 F Aa Aa T3 Aa).q fun a F => ?_
      refine qs F Aa (Is F Aa Aa Aa).q fun a F => ?_
      refine qs F Aa (Dn F Aa).q fun a F => ?_
      refine AD fun w W => ?_
      refine Zn tk 7 [1, 0] F W (ai (ai fun a w F W => ?_))
      obtain ⟨x23, h5, H⟩ := Ac H
      refine ls F W Aa (Al (r := (Rp.int .i64)) EJ F Aa Aa (Af 0 Aa) h5).q fun a w F W => ?_
      refine ls F W Aa (Ag (y := Value.int .i64 x23) (j := 0) (i := x21.2.1) F Aa Aa (Af 0 Aa) h5 Fl.int.to T3 Aa).q fun a w F W => ?_
      refine BR tk 4 F W fun a w F W => ?_
      refine AU F Aa H (fun F H => ?_) fun F H => ?_
      ·
       refine AA (AQ (AC (Ab ?_)))
       have W := W.frontZ (i := 1) Aa Aa
       have W := W.frontZ (i := 1) Aa Aa
       have W := W.frontM (i := 2) Aa Aa
       have W := W.frontM (i := 2) Aa Aa
       have W := W.sub (M' := (Lp b2 v2 v3 b1)) (Z' := [row v2 3 (Rp.int .i64) x16, row v3 3 (Rp.int .i64) x17]) (List.Sublist.cons_cons _ (List.Sublist.cons_cons _ (List.nil_sublist _))) (List.Sublist.refl _)
       exact ⟨_, _, _, H, F.ra Aa, W⟩
      refine FP tk 3 F W fun a w F W => ?_
      refine ER [(true, 0), (true, 1), (true, 2), (true, 3), (true, 4), (true, 5), (true, 6), (true, 7), (true, 8), (true, 9), (true, 10), (false, 11), (true, 12), (false, 13)] (CN ⟨Y, [], w0⟩ [(some 11, b2, [v2, v3, .int .i64 (-1)]), (some 11, b3, [.int .i64 x21.1, .int .i64 x21.2.1, .int .i64 x21.2.2]), (some 13, b2, [v2, v3, .int .i64 (-1)]), (some 13, b3, [.int .i64 x21.1, .int .i64 x21.2.1, .int .i64 x21.2.2])] []) (fun ch a d v w h => by cases d <;> exact h) MO (by kernel_rfl) W (fun w W => ⟨_, _, W, (all_cons (fun _ => (.tail _ (.head _))) (all_cons (fun _ => (.head _)) (all_cons (fun _ => (.tail _ (.head _))) (all_cons (fun _ => (.head _)) Ak)))), Ak⟩) fun w W => ?_
      refine A6 (R := []) F Aa Aa (yC fun M Z hN hZ => Az Vc Aa Aa Aa NA F Aa 0 Aa) Aa Aa fun a F => ?_
      refine A6 (R := [11]) F Aa Aa (yC fun M Z hN hZ => Fu (cs := [v2, v3, .int .i64 (-1)]) (v := v2) F Aa (hN ((some 11), b2, [v2, v3, .int .i64 (-1)]) (.head _) Aa) NA Aa) (by kernel_rfl) Aa fun a F => ?_
      refine A6 (R := []) F Aa Aa (yC fun M Z hN hZ => Az Ui Aa Aa Aa T3 F Aa 1 Aa) Aa Aa fun a F => ?_
      refine A6 (R := [11]) F Aa Aa (yC fun M Z hN hZ => Fu (cs := (RU x21)) (v := Value.int .i64 x21.2.1) F Aa (hN ((some 11), b3, (RU x21)) (.tail _ (.head _)) Aa) T3 Aa) (by kernel_rfl) Aa fun a F => ?_
      refine A6 (R := []) F Aa Aa (yC fun M Z hN hZ => Az Vc Aa Aa Aa NA F Aa 1 Aa) Aa Aa fun a F => ?_
      refine A6 (R := [13]) F Aa Aa (yC fun M Z hN hZ => Fu (cs := [v2, v3, .int .i64 (-1)]) (v := v3) F Aa (hN ((some 13), b2, [v2, v3, .int .i64 (-1)]) (.tail _ (.tail _ (.head _))) Aa) NA Aa) (by kernel_rfl) Aa fun a F => ?_
      refine A6 (R := []) F Aa Aa (yC fun M Z hN hZ => Az Ui Aa Aa Aa T3 F Aa 1 Aa) Aa Aa fun a F => ?_
      refine A6 (R := [13]) F Aa Aa (yC fun M Z hN hZ => Fu (cs := (RU x21)) (v := Value.int .i64 x21.2.1) F Aa (hN ((some 13), b3, (RU x21)) (.tail _ (.tail _ (.tail _ (.head _)))) Aa) T3 Aa) (by kernel_rfl) Aa fun a F => ?_
      iterate 2 refine A6 (R := []) F Aa Aa (yC fun M Z hN hZ => Ai F Aa) Aa Aa fun a F => ?_
      obtain ⟨x24, h6, H⟩ := Ac H
      refine A6 (R := []) F Aa Aa (yC fun M Z hN hZ => Ba (r := (Rp.int .i64)) EJ F Aa Aa (C1 W (Af 0 Aa)) h6) Aa Aa fun a F => ?_
      refine F2 Aa ?_
      refine AY (i := x21.2.1) (j := 0) (vs := [.int .i64 (An (x22 + x21.2.2))]) (x' := An (x22 + x21.2.2)) F W Aa Aa Aa (k := 0) Aa Aa h6 T3 Aa Aa Aa Aa (fun A cs _ => Fl.int.sto (by rfl) _ _ _) fun w W => ?_
      refine Cm (N2 := []) (NZ2 := []) (N3 := [(some 11, b2, [v2, v3, .int .i64 (-1)]), (some 11, b3, [.int .i64 x21.1, .int .i64 x21.2.1, .int .i64 x21.2.2]), (some 13, b2, [v2, v3, .int .i64 (-1)]), (some 13, b3, [.int .i64 x21.1, .int .i64 x21.2.1, .int .i64 x21.2.2])]) (NZ3 := []) W Aa Aa (all_cons (fun h => AJ (by kernel_rfl) h) (all_cons (fun h => AJ (by kernel_rfl) h) (all_cons (fun _ => (.tail _ (.head _))) (all_cons (fun _ => (.head _)) Ak)))) Ak ?_
      obtain ⟨x25, h7, H⟩ := Ac H
      refine A6 (R := []) F Aa Aa (yC fun M Z hN hZ => Ba (r := (Rp.int .i64)) EJ F Aa Aa (C1 W (Af 1 Aa)) h7) Aa Aa fun a F => ?_
      refine F2 Aa ?_
      refine AY (i := x21.2.1) (j := 0) (vs := [.int .i64 x15]) (x' := x15) F W Aa Aa Aa (k := 1) Aa Aa h7 T3 Aa Aa Aa Aa (fun A cs _ => Fl.int.sto (by rfl) _ _ _) fun w W => ?_
      refine Cm (N2 := []) (NZ2 := []) (N3 := [(some 11, b2, [v2, v3, .int .i64 (-1)]), (some 11, b3, [.int .i64 x21.1, .int .i64 x21.2.1, .int .i64 x21.2.2]), (some 13, b2, [v2, v3, .int .i64 (-1)]), (some 13, b3, [.int .i64 x21.1, .int .i64 x21.2.1, .int .i64 x21.2.2])]) (NZ3 := []) W Aa Aa (all_cons (fun h => AJ (by kernel_rfl) h) (all_cons (fun h => AJ (by kernel_rfl) h) (all_cons (fun h => AJ (by kernel_rfl) h) (all_cons (fun h => AJ (by kernel_rfl) h) Ak)))) Ak ?_
      refine Hg ?_
      refine vn tk 12 F W fun a w F W => ?_
      refine AU F Aa H (fun F H => ?_) fun F H => ?_
      ·
       refine IL tk 5 [0] F W (ai fun a w F W => ?_)
       refine Ey 1 F W Aa Aa Aa T3 Aa Aa Aa fun w W => ?_
       refine BR tk 2 F W fun a w F W => ?_
       refine AA ?_
       refine Il Aa ?_
       iterate 2 refine AQ ?_
       refine Il Aa ?_
       refine AQ ?_
       refine Il Aa ?_
       iterate 2 refine AQ ?_
       refine AC (Ab ?_)
       have W := W.frontZ (i := 1) Aa Aa
       have W := W.frontM (i := 2) Aa Aa
       have W := W.frontM (i := 2) Aa Aa
       have W := W.sub (M' := [(b2, [v2, v3, .int .i64 x21.2.1]), (b1, [.slice none 0 0, .slice none 0 0, .int .i64 0])]) (Z' := [row v2 3 (Rp.int .i64) (Ah x16 x21.2.1 (An (x22 + x21.2.2))), row v3 3 (Rp.int .i64) (Ah x17 x21.2.1 x15)]) (List.Sublist.cons_cons _ (List.Sublist.cons_cons _ (List.nil_sublist _))) (List.Sublist.refl _)
       have H := L6 _ H
       have H := L5 _ H
       have H := L4 _ H
       have H := L3 _ H
       have H := L2 _ H
       exact ⟨_, _, _, H, F.ra Aa, W⟩
      refine AB (Aw (Ab ?_))
      have W := W.frontZ (i := 1) Aa Aa
      have W := W.frontM (i := 2) Aa Aa
      have W := W.frontM (i := 2) Aa Aa
      have W := W.sub (M' := (Lp b2 v2 v3 b1)) (Z' := [row v2 3 (Rp.int .i64) (Ah x16 x21.2.1 (An (x22 + x21.2.2))), row v3 3 (Rp.int .i64) (Ah x17 x21.2.1 x15)]) (List.Sublist.cons_cons _ (List.Sublist.cons_cons _ (List.nil_sublist _))) (List.Sublist.refl _)
      exact ⟨_, _, _, H, F.ra Aa, W⟩
     rintro a w ⟨x18, x19, x20, hj, F, W⟩
     have H := K6 _ hj
     clear hj G6 K6 L6
     refine vc tk 4 F W fun a w F W => ?_
     refine Ab ?_
     have W := W.frontZ (i := 1) Aa Aa
     have W := W.frontZ (i := 1) Aa Aa
     have W := W.frontM (i := 1) Aa Aa
     have W := W.frontM (i := 1) Aa Aa
     exact ⟨_, H, F.ra Aa, W⟩
    refine AA ?_
    iterate 2 refine AQ ?_
    refine AC (Ab ?_)
    have W := W.frontZ (i := 1) Aa Aa
    have W := W.frontZ (i := 1) Aa Aa
    have W := W.frontM (i := 1) Aa Aa
    have W := W.frontM (i := 1) Aa Aa
    have H := L5 _ H
    exact ⟨_, _, _, H, F.ra Aa, W⟩
   rintro a w ⟨x11, x12, x13, hj, F, W⟩
   have H := K4 _ hj
   clear hj G4 K4 L4
   refine vc tk 6 F W fun a w F W => ?_
   refine C2 F Aa H (fun F H => ?_) fun F H => ?_
   ·
    refine AA ?_
    refine Il Aa ?_
    iterate 2 refine AQ ?_
    refine AC (Ab ?_)
    have W := W.frontZ (i := 1) Aa Aa
    have W := W.frontZ (i := 1) Aa Aa
    have W := W.frontM (i := 1) Aa Aa
    have W := W.frontM (i := 1) Aa Aa
    have H := L3 _ H
    have H := L2 _ H
    exact ⟨_, _, _, H, F.ra Aa, W⟩
   refine AB (Aw (Ab ?_))
   have W := W.frontZ (i := 1) Aa Aa
   have W := W.frontZ (i := 1) Aa Aa
   have W := W.frontM (i := 1) Aa Aa
   have W := W.frontM (i := 1) Aa Aa
   exact ⟨_, _, H, F.ra Aa, W⟩
  rintro a w ⟨x9, x10, hj, F, W⟩
  have H := K3 _ hj
  clear hj G3 K3 L3
  refine vc tk 5 F W fun a w F W => ?_
  refine Ab ?_
  have W := W.frontZ (i := 1) Aa Aa
  have W := W.frontZ (i := 1) Aa Aa
  have W := W.frontM (i := 1) Aa Aa
  have W := W.frontM (i := 1) Aa Aa
  exact ⟨_, H, F.ra Aa, W⟩
 rintro a w ⟨x3, x4, x5, hj, F, W⟩
 have hj := Ax hj
 subst hj
 have H := K1
 clear G1 K1
 refine IL tk 3 [0] F W (ai fun a w F W => ?_)
 refine Ey 1 F W Aa Aa Aa UH Aa Aa (AV (W.one (k := 0) Aa) (AV (W.one (k := 1) Aa) (AV Aa Fp))) fun w W => ?_
 refine BR tk 2 F W fun a w F W => ?_
 refine Ao (Yy ?_)
 have H := Ax H
 subst H
 refine A1 (.inl Aa) F W Aa (Iz 1 F Aa Aa UH Aa) ?_
 have W := W.frontZ (i := 1) Aa Aa
 have W := W.frontZ (i := 1) Aa Aa
 have W := W.sub (M' := []) (Z' := [row v2 3 (Rp.int .i64) x3, row v3 3 (Rp.int .i64) x4]) (List.nil_sublist _) (List.Sublist.refl _)
 exact ⟨((v2), (v3)), Aa, W⟩
theorem ZO : Has Tryz.prog 45 := Cu Tryz.func45
noncomputable def GP (p0 : Int) (p1 : List (Int × Int × Int)) : Option (List Int × Bool) := (I8 p0 p1).bind fun x1 => (if (!x1) = true then some (([] : List Int), false) else (I7 p0 p1).bind fun x2 => (if 0 ≤ x2.2.2 then some (([] : List Int), false) else some (x2.1, true)))
theorem Nq (Y : Nat → Prop) (w0 : World) (v1 : Value) (p0 : Int) (p1 : List (Int × Int × Int)) (r : List Int × Bool) (H : GP p0 p1 = some r) (h_v1 : Sl w0 (NX []) PQ v1 p1) :
    Calls Tryz.prog 27 #[.int .i64 p0, v1] w0 fun e w' => ∃ x : Value, e = .returned (.tuple #[x, .bool r.2]) ∧ Stw ⟨Y, [], w0⟩ [] [row (x) 3 (Rp.int .i64) r.1] w' := by
 refine enter Tryz.func27 Aa Tryz.ntmps27 Aa fun a F => ?_
 have W := Stw.start Y w0
 unfold GP at H
 refine vc tk 11 F W fun a w F W => ?_
 obtain ⟨x1, h1, H⟩ := Ac H
 refine ls F W Aa (Be (v := Value.bool x1) F ZG Aa (fun w W => Pm any w (v1) p0 p1 _ h1 (EG (Ad h_v1) W))) fun a w F W => ?_
 refine BR tk 3 F W fun a w F W => ?_
 refine C2 F Aa H (fun F H => ?_) fun F H => ?_
 ·
  refine vc tk 6 F W fun a w F W => ?_
  refine Ao (AE ?_)
  have H := Ax H
  subst H
  refine FF (.inl Aa) F W Aa (Am F Aa) (Am F Aa) ?_
  have W := W.nilRow 3 (Rp.int .i64)
  exact ⟨(Value.slice none 0 0), Aa, W⟩
 refine FP tk 6 F W fun a w F W => ?_
 obtain ⟨x2, h2, H⟩ := Ac H
 refine A9 (Ml := []) (Zl := []) (β := Value × Value) (rv := fun x => .agg #[x.1, x.2, .int .i64 x2.2.2]) (MM := fun x => []) (ZZ := fun x => [row x.1 3 (Rp.int .i64) x2.1, row x.2 3 (Rp.int .i64) x2.2.1]) F W ZO Aa Aa (fun hL => PP _ w (v1) p0 p1 _ h2 ((Ad h_v1) w W).nx) fun x a w F W => ?_
 obtain ⟨v2, v3⟩ := x
 have W : Stw ⟨Y, [], w0⟩ [] [row v2 3 (Rp.int .i64) x2.1, row v3 3 (Rp.int .i64) x2.2.1] w := W
 refine B8 (cs := (NO)) F W Aa Wd Aa fun b1 a w F W => ?_
 refine Ey 0 F W Aa Aa Aa UH Aa Aa (AV (W.one (k := 0) Aa) (AV (W.one (k := 1) Aa) (AV Aa Fp))) fun w W => ?_
 refine JG tk 10 [0] F W (ai fun a w F W => ?_)
 refine AU F Aa H (fun F H => ?_) fun F H => ?_
 ·
  refine vc tk 6 F W fun a w F W => ?_
  refine Ao (AE ?_)
  have H := Ax H
  subst H
  refine FF (.inl Aa) F W Aa (Am F Aa) (Am F Aa) ?_
  have W := W.nilRow 3 (Rp.int .i64)
  have W := W.sub (M' := []) (Z' := [row (Value.slice none 0 0) 3 (Rp.int .i64) ([])]) (List.nil_sublist _) (List.Sublist.cons_cons _ (List.nil_sublist _))
  exact ⟨(Value.slice none 0 0), Aa, W⟩
 refine Ms tk 10 [0] F W (ai fun a w F W => ?_)
 refine Ao ?_
 have H := Ax H
 subst H
 refine FF (.inl Aa) F W Aa (Am F Aa) (Am F Aa) ?_
 have W := W.sub (M' := []) (Z' := [row v2 3 (Rp.int .i64) x2.1]) (List.nil_sublist _) (List.Sublist.cons_cons _ (List.nil_sublist _))
 exact ⟨(v2), Aa, W⟩
theorem bB : Has Tryz.prog 27 := Cu Tryz.func27
noncomputable def D3 (p0 : List (Int × Int × Int × Int)) (p1 : Int) : (List Int × Int) → Option ((List Int × Int) ⊕ (List Int))
  | (x2, x3) => (if x3 < (p0.length : Int) then ((ix p0 x3).bind fun x5 => (if x5.2.2.2 = p1 then (H4 x2 ([x5.1] : List Int)).bind fun x6 => some x6 else some x2)).bind fun x4 => some (.inl (x4, An (x3 + 1))) else some (.inr x2))
noncomputable def GR (p0 : List (Int × Int × Int × Int)) (p1 : Int) : Option (List Int) := (Ap (D3 p0 p1) ([], 0)).bind fun x1 => (DU x1).bind fun x7 => (Dr x7).bind fun x8 => some x8
theorem Nr (Y : Nat → Prop) (w0 : World) (v1 : Value) (p0 : List (Int × Int × Int × Int)) (p1 : Int) (r : List Int) (H : GR p0 p1 = some r) (h_v1 : Sl w0 (NX []) A5 v1 p0) :
    Calls Tryz.prog 28 #[v1, .int .i64 p1] w0 fun e w' => ∃ x : Value, e = .returned (x) ∧ Stw ⟨Y, [], w0⟩ [] [row (x) 3 (Rp.int .i64) r] w' := by
 refine enter Tryz.func28 Aa Tryz.ntmps28 Aa fun a F => ?_
 have W := Stw.start Y w0
 unfold GR at H
 refine vc tk 10 F W fun a w F W => ?_
 obtain ⟨o1, G1, K1⟩ := Ac H
 refine Aq (fun a w => ∃ x1 : List Int, ∃ v2 : Value, some (x1) = some o1 ∧ Fr 28 [] [(4, .slice none 0 0), (5, v2)] a ∧ Stw ⟨Y, [], w0⟩ [] [row v2 3 (Rp.int .i64) x1] w) ?_ ?_
 ·
  have H := G1
  clear G1 K1
  refine vc tk 3 F W fun a w F W => ?_
  refine ls F W Aa (BS (r := A5) (l := p0) Qz Aa F Aa (Ad h_v1)).q fun a w F W => ?_
  refine BR tk 4 F W fun a w F W => ?_
  have W := W.nilRow 3 (Rp.int .i64)
  refine AL H (fun s a w => ∃ v3 : Value, Fr 28 [] [(1, .int .i64 p1), (4, .slice none 0 0), (5, v3), (8, v1), (9, .int .i64 (p0.length : Int)), (10, .int .i64 s.2)] a ∧ Stw ⟨Y, [], w0⟩ [] [row v3 3 (Rp.int .i64) s.1] w) ⟨(Value.slice none 0 0), F.ra Aa, W⟩ fun s o a w H L2 hR => ?_
  obtain ⟨x2, x3⟩ := s
  obtain ⟨v3, F, W⟩ := hR
  have F : Fr 28 [] [(1, .int .i64 p1), (4, .slice none 0 0), (5, v3), (8, v1), (9, .int .i64 (p0.length : Int)), (10, .int .i64 x3)] a := F
  have W : Stw ⟨Y, [], w0⟩ [] [row v3 3 (Rp.int .i64) x2] w := W
  rw [D3] at H
  refine vc tk 6 F W fun a w F W => ?_
  refine AU F Aa H (fun F H => ?_) fun F H => ?_
  ·
   refine AB (Ab ?_)
   obtain ⟨o3, G3, K3⟩ := Ac H
   refine Aq (fun a w => ∃ x4 : List Int, ∃ v4 : Value, some (x4) = some o3 ∧ Fr 28 [] [(1, .int .i64 p1), (4, .slice none 0 0), (5, v4), (8, v1), (9, .int .i64 (p0.length : Int)), (10, .int .i64 x3)] a ∧ Stw ⟨Y, [], w0⟩ [] [row v4 3 (Rp.int .i64) x4] w) ?_ ?_
   ·
    have H := G3
    clear G3 K3
    refine vc tk 3 F W fun a w F W => ?_
    obtain ⟨x5, h1, H⟩ := Ac H
    refine ls F W Aa (Al (r := A5) EM F Aa Aa (Ad h_v1) h1).q fun a w F W => ?_
    refine ls F W Aa (Ag (y := Value.agg #[.int .i64 x5.1, .int .i64 x5.2.1, .int .i64 x5.2.2.1, .int .i64 x5.2.2.2]) (j := 0) (i := x3) F Aa Aa (Ad h_v1) h1 ES.to Er Aa).q fun a w F W => ?_
    refine B8 (cs := (QM)) F W Aa W3 Aa fun b1 a w F W => ?_
    refine Ey 0 F W Aa Aa Aa Er Aa Aa Aa fun w W => ?_
    refine JG tk 10 [0] F W (ai fun a w F W => ?_)
    refine AU F Aa H (fun F H => ?_) fun F H => ?_
    ·
     refine IL tk 4 [0] F W (ai fun a w F W => ?_)
     refine D6 (z := Value.int .i64 0) (cs := [.int .i64 x5.1]) (Rp.int .i64) ([x5.1] : List Int) F W Aa EJ Z3 Aa Aa Aa Aa Aa Aa (Fl.int.repL _ _ ([x5.1] : List Int)) fun v5 a w F W => ?_
     obtain ⟨x6, h2, H⟩ := Ac H
     refine DB (r := (Rp.int .i64)) (i := 1) F W Aa EJ Aa Aa Aa Aa (Ez W 0 Aa) h2 Aa fun v6 a w F W => ?_
     have W : Stw ⟨Y, [], w0⟩ (VM b1 x5) [row v6 3 (Rp.int .i64) x6, row v5 3 (Rp.int .i64) ([x5.1] : List Int)] w := W
     refine vl tk 2 F W fun a w F W => ?_
     refine Aw (Ab ?_)
     have W := W.sub (M' := []) (Z' := [row v6 3 (Rp.int .i64) x6]) (List.nil_sublist _) (List.Sublist.cons_cons _ (List.nil_sublist _))
     exact ⟨_, (v6), H, F.ra Aa, W⟩
    refine AB (Aw (Ab ?_))
    have W := W.sub (M' := []) (Z' := [row v3 3 (Rp.int .i64) x2]) (List.nil_sublist _) (List.Sublist.refl _)
    exact ⟨_, (v3), H, F.ra Aa, W⟩
   rintro a w ⟨x4, v4, hj, F, W⟩
   have hj := Ax hj
   subst hj
   have H := K3
   clear G3 K3
   refine vc tk 4 F W fun a w F W => ?_
   refine Ab ?_
   exact ⟨_, H, (v4), F.ra Aa, W⟩
  refine AA ?_
  iterate 2 refine AQ ?_
  refine AC (Ab ?_)
  have H := L2 _ H
  exact ⟨_, (v3), H, F.ra Aa, W⟩
 rintro a w ⟨x1, v2, hj, F, W⟩
 have hj := Ax hj
 subst hj
 have H := K1
 clear G1 K1
 refine vc tk 3 F W fun a w F W => ?_
 obtain ⟨x7, h3, H⟩ := Ac H
 refine A9 (Ml := []) (Zl := [row v2 3 (Rp.int .i64) x1]) (β := Unit) (rv := fun x => .tuple #[]) (MM := fun x => []) (ZZ := fun x => [row v2 3 (Rp.int .i64) x7]) F W Zq Aa Aa (fun hL => HJ _ _ w (v2) x1 _ h3 hL) fun x a w F W => ?_
 have W : Stw ⟨Y, [], w0⟩ [] [row v2 3 (Rp.int .i64) x7] w := W
 refine BR tk 5 F W fun a w F W => ?_
 obtain ⟨x8, h4, H⟩ := Ac H
 refine A9 (Ml := []) (Zl := [row v2 3 (Rp.int .i64) x7]) (β := Value) (rv := fun x => x) (MM := fun x => []) (ZZ := fun x => [row x 3 (Rp.int .i64) x8]) F W Zu Aa Aa (fun hL => GT _ _ w (v2) x7 _ h4 hL) fun x a w F W => ?_
 obtain ⟨v7, rfl⟩ : ∃ y, y = x := ⟨x, rfl⟩
 have W : Stw ⟨Y, [], w0⟩ [] [row v7 3 (Rp.int .i64) x8] w := W
 refine BR tk 3 F W fun a w F W => ?_
 refine Ao ?_
 have H := Ax H
 subst H
 refine A1 (.inl Aa) F W Aa (Am F Aa) ?_
 exact ⟨(v7), Aa, W⟩
theorem aI : Has Tryz.prog 28 := Cu Tryz.func28
theorem aJ : Bt Tryz.prog 46 [.int .i64 0, .int .i64 0, .slice none 0 0] [(0, 1), (1, 1), (2, 1)] := ⟨⟨.agg #[.int .i64 0, .int .i64 0, .slice none 0 0], by kernel_rfl, rfl⟩, ⟨_, Vq, fun w => by kernel_rfl⟩⟩
noncomputable def FA (p2 : Int) (x1 : List Int) : ((List (Int × Int × Int)) × Int) → Option (((List (Int × Int × Int)) × Int) ⊕ (List (Int × Int × Int)))
  | (x3, x4) => (if x4 < (An ((x1.length : Int) - 1)) then (H4 x3 ([(x4, An (x4 + 1), p2)] : List (Int × Int × Int))).bind fun x5 => some (.inl (x5, An (x4 + 1))) else some (.inr x3))
noncomputable def FE (p0 : List (Int × Int × Int × Int)) (p1 : Int) (x1 : List Int) (x6 : List Int × Bool) : ((List (Int × Int × List Int)) × Int) → Option (((List (Int × Int × List Int)) × Int) ⊕ (List (Int × Int × List Int)))
  | (x8, x9) => (if x9 < (x6.1.length : Int) then (ix x6.1 x9).bind fun x10 => (ix x1 x9).bind fun x11 => (ix x1 x9).bind fun x12 => (GR p0 x12).bind fun x13 => (H4 x8 ([(x11, An (p1 + x10), x13)] : List (Int × Int × List Int))).bind fun x14 => some (.inl (x14, An (x9 + 1))) else some (.inr x8))
noncomputable def Ic (p0 : List (Int × Int × Int × Int)) (p1 : Int) (p2 : Int) : Option (List (Int × Int × List Int)) := (Hz p0).bind fun x1 => (Ap (FA p2 x1) ([], 0)).bind fun x2 => (GP (x1.length : Int) x2).bind fun x6 => (Ap (FE p0 p1 x1 x6) ([], 0)).bind fun x7 => some x7
theorem OB (Y : Nat → Prop) (w0 : World) (v1 : Value) (p0 : List (Int × Int × Int × Int)) (p1 : Int) (p2 : Int) (r : (List (Int × Int × List Int))) (H : Ic p0 p1 p2 = some r) (h_v1 : Sl w0 (NX []) A5 v1 p0) :
    Calls Tryz.prog 12 #[v1, .int .i64 p1, .int .i64 p2] w0 fun e w' => ∃ x : Value, e = .returned (x) ∧ Stw ⟨Y, [], w0⟩ [] [row (x) 46 Jg r] w' := by
 refine enter Tryz.func12 Aa Tryz.ntmps12 Aa fun a F => ?_
 have W := Stw.start Y w0
 unfold Ic at H
 refine vc tk 8 F W fun a w F W => ?_
 obtain ⟨x1, h1, H⟩ := Ac H
 refine A9 (Ml := []) (Zl := []) (β := Value) (rv := fun x => x) (MM := fun x => []) (ZZ := fun x => [row x 3 (Rp.int .i64) x1]) F W bI Aa Aa (fun hL => Oa _ w (v1) p0 _ h1 ((Ad h_v1) w W).nx) fun x a w F W => ?_
 obtain ⟨v2, rfl⟩ : ∃ y, y = x := ⟨x, rfl⟩
 have W : Stw ⟨Y, [], w0⟩ [] [row v2 3 (Rp.int .i64) x1] w := W
 refine BR tk 8 F W fun a w F W => ?_
 obtain ⟨o1, G1, K1⟩ := Ac H
 refine Aq (fun a w => ∃ x2 : List (Int × Int × Int), ∃ v3 : Value, some (x2) = some o1 ∧ Fr 65 [] [(0, v1), (1, .int .i64 p1), (6, .slice none 0 0), (7, v2), (8, v3)] a ∧ Stw ⟨Y, [], w0⟩ [] [row v2 3 (Rp.int .i64) x1, row v3 70 PQ x2] w) ?_ ?_
 ·
  have H := G1
  clear G1 K1
  refine vc tk 3 F W fun a w F W => ?_
  refine ls F W Aa (BS (r := (Rp.int .i64)) (l := x1) IV Aa F Aa (Af 0 Aa)).q fun a w F W => ?_
  refine BR tk 5 F W fun a w F W => ?_
  have W := W.nilRow 70 PQ
  have W := W.frontZ (i := 1) Aa Aa
  refine AL H (fun s a w => ∃ v4 : Value, Fr 65 [] [(0, v1), (1, .int .i64 p1), (2, .int .i64 p2), (6, .slice none 0 0), (7, v2), (8, v4), (19, .int .i64 (An ((x1.length : Int) - 1))), (20, .int .i64 s.2)] a ∧ Stw ⟨Y, [], w0⟩ [] [row v2 3 (Rp.int .i64) x1, row v4 70 PQ s.1] w) ⟨(Value.slice none 0 0), F.ra Aa, W⟩ fun s o a w H L2 hR => ?_
  obtain ⟨x3, x4⟩ := s
  obtain ⟨v4, F, W⟩ := hR
  have F : Fr 65 [] [(0, v1), (1, .int .i64 p1), (2, .int .i64 p2), (6, .slice none 0 0), (7, v2), (8, v4), (19, .int .i64 (An ((x1.length : Int) - 1))), (20, .int .i64 x4)] a := F
  have W : Stw ⟨Y, [], w0⟩ [] [row v2 3 (Rp.int .i64) x1, row v4 70 PQ x3] w := W
  rw [FA] at H
  refine vc tk 6 F W fun a w F W => ?_
  refine AU F Aa H (fun F H => ?_) fun F H => ?_
  ·
   refine FP tk 16 F W fun a w F W => ?_
   refine ls F W Aa (Cg (v := Value.agg #[.int .i64 x4, .int .i64 (An (x4 + 1)), .int .i64 p2]) ZT F Aa Aa Aa).q fun a w F W => ?_
   refine D6 (z := Value.agg #[.int .i64 0, .int .i64 0, .int .i64 0]) (cs := [.int .i64 x4, .int .i64 (An (x4 + 1)), .int .i64 p2]) PQ ([(x4, An (x4 + 1), p2)] : List (Int × Int × Int)) F W Aa Ya YR Aa Aa Aa Aa Aa Aa (YW.repL _ _ ([(x4, An (x4 + 1), p2)] : List (Int × Int × Int))) fun v5 a w F W => ?_
   obtain ⟨x5, h2, H⟩ := Ac H
   refine DB (r := PQ) (i := 2) F W Aa Ya Aa Aa Aa Aa (Ez W 0 Aa) h2 Aa fun v6 a w F W => ?_
   have W : Stw ⟨Y, [], w0⟩ [] [row v6 70 PQ x5, row v5 70 PQ ([(x4, An (x4 + 1), p2)] : List (Int × Int × Int)), row v2 3 (Rp.int .i64) x1] w := W
   refine vl tk 2 F W fun a w F W => ?_
   refine Aw ?_
   refine vn tk 4 F W fun a w F W => ?_
   refine Ab ?_
   have W := W.frontZ (i := 2) Aa Aa
   have W := W.sub (M' := []) (Z' := [row v2 3 (Rp.int .i64) x1, row v6 70 PQ x5]) (List.Sublist.refl _) (List.Sublist.cons_cons _ (List.Sublist.cons_cons _ (List.nil_sublist _)))
   exact ⟨_, H, (v6), F.ra Aa, W⟩
  refine AA ?_
  iterate 2 refine AQ ?_
  refine AC (Ab ?_)
  have W := W.frontZ (i := 1) Aa Aa
  have W := W.frontZ (i := 1) Aa Aa
  have H := L2 _ H
  exact ⟨_, (v4), H, F.ra Aa, W⟩
 rintro a w ⟨x2, v3, hj, F, W⟩
 have hj := Ax hj
 subst hj
 have H := K1
 clear G1 K1
 refine vc tk 3 F W fun a w F W => ?_
 refine ls F W Aa (BS (r := (Rp.int .i64)) (l := x1) IV Aa F Aa (Af 0 Aa)).q fun a w F W => ?_
 refine ls F W Aa (Ai F Aa).q fun a w F W => ?_
 obtain ⟨x6, h3, H⟩ := Ac H
 refine A9 (Ml := []) (Zl := []) (β := Value) (rv := fun x => .tuple #[x, .bool x6.2]) (MM := fun x => []) (ZZ := fun x => [row x 3 (Rp.int .i64) x6.1]) F W bB Aa Aa (fun hL => Nq _ w (v3) (x1.length : Int) x2 _ h3 ((Af 1 Aa) w W).nx) fun x a w F W => ?_
 obtain ⟨v7, rfl⟩ : ∃ y, y = x := ⟨x, rfl⟩
 have W : Stw ⟨Y, [], w0⟩ [] [row v7 3 (Rp.int .i64) x6.1, row v2 3 (Rp.int .i64) x1, row v3 70 PQ x2] w := W
 refine ls F W Aa (Ai F Aa).q fun a w F W => ?_
 refine ls F W Aa (Bi (v := v7) F Aa Aa).q fun a w F W => ?_
 refine ls F W Aa (Bi (v := Value.bool x6.2) F Aa Aa).q fun a w F W => ?_
 refine BR tk 9 F W fun a w F W => ?_
 obtain ⟨o3, G3, K3⟩ := Ac H
 refine Aq (fun a w => ∃ x7 : List (Int × Int × List Int), ∃ v8 : Value, some (x7) = some o3 ∧ Fr 65 [] [(6, .slice none 0 0), (12, v8)] a ∧ Stw ⟨Y, [], w0⟩ [] [row v8 46 Jg x7] w) ?_ ?_
 ·
  have H := G3
  clear G3 K3
  refine vc tk 3 F W fun a w F W => ?_
  refine ls F W Aa (BS (r := (Rp.int .i64)) (l := x6.1) IV Aa F Aa (Af 0 Aa)).q fun a w F W => ?_
  refine BR tk 4 F W fun a w F W => ?_
  have W := W.nilRow 46 Jg
  have W := W.frontZ (i := 1) Aa Aa
  have W := W.frontZ (i := 1) Aa Aa
  have W := W.frontZ (i := 2) Aa Aa
  have W := W.sub (M' := []) (Z' := [row v2 3 (Rp.int .i64) x1, row (Value.slice none 0 0) 46 Jg ([]), row v7 3 (Rp.int .i64) x6.1]) (List.Sublist.refl _) (List.Sublist.cons_cons _ (List.Sublist.cons_cons _ (List.Sublist.cons_cons _ (List.nil_sublist _))))
  refine AL H (fun s a w => ∃ v9 : Value, Fr 65 [] [(0, v1), (1, .int .i64 p1), (6, .slice none 0 0), (7, v2), (12, v9), (39, v7), (40, .int .i64 (x6.1.length : Int)), (41, .int .i64 s.2)] a ∧ Stw ⟨Y, [], w0⟩ [] [row v2 3 (Rp.int .i64) x1, row v9 46 Jg s.1, row v7 3 (Rp.int .i64) x6.1] w) ⟨(Value.slice none 0 0), F.ra Aa, W⟩ fun s o a w H L4 hR => ?_
  obtain ⟨x8, x9⟩ := s
  obtain ⟨v9, F, W⟩ := hR
  have F : Fr 65 [] [(0, v1), (1, .int .i64 p1), (6, .slice none 0 0), (7, v2), (12, v9), (39, v7), (40, .int .i64 (x6.1.length : Int)), (41, .int .i64 x9)] a := F
  have W : Stw ⟨Y, [], w0⟩ [] [row v2 3 (Rp.int .i64) x1, row v9 46 Jg x8, row v7 3 (Rp.int .i64) x6.1] w := W
  rw [FE] at H
  refine vc tk 6 F W fun a w F W => ?_
  refine AU F Aa H (fun F H => ?_) fun F H => ?_
  ·
   refine FP tk 7 F W fun a w F W => ?_
   obtain ⟨x10, h4, H⟩ := Ac H
   refine ls F W Aa (Al (r := (Rp.int .i64)) EJ F Aa Aa (Af 2 Aa) h4).q fun a w F W => ?_
   refine ls F W Aa (Ag (y := Value.int .i64 x10) (j := 0) (i := x9) F Aa Aa (Af 2 Aa) h4 Fl.int.to T3 Aa).q fun a w F W => ?_
   refine BR tk 4 F W fun a w F W => ?_
   refine ER [(true, 0), (true, 1), (true, 2), (true, 3), (true, 4), (true, 5), (true, 6), (true, 7), (true, 8), (true, 9), (true, 10), (true, 11), (true, 12), (false, 13), (true, 14), (false, 15), (false, 16), (false, 17)] (CN ⟨Y, [], w0⟩ [] [(some 15, row v2 3 (Rp.int .i64) x1), (some 13, row v2 3 (Rp.int .i64) x1)]) (fun ch a d v w h => by cases d <;> exact h) MO (by kernel_rfl) W (fun w W => ⟨_, _, W, Ak, (all_cons (fun _ => (.head _)) (all_cons (fun _ => (.head _)) Ak))⟩) fun w W => ?_
   iterate 3 refine A6 (R := []) F Aa Aa (yC fun M Z hN hZ => Ai F Aa) Aa Aa fun a F => ?_
   obtain ⟨x11, h5, H⟩ := Ac H
   refine A6 (R := []) F Aa Aa (yC fun M Z hN hZ => Ba (r := (Rp.int .i64)) EJ F Aa Aa (C1 W (Af 0 Aa)) h5) Aa Aa fun a F => ?_
   refine A6 (R := [15, 14]) F Aa Aa (yC fun M Z hN hZ => Ag (y := Value.int .i64 x11) (j := 0) (i := x9) F Aa Aa (Di (hZ ((some 15), row v2 3 (Rp.int .i64) x1) (.head _) Aa)) h5 Fl.int.to T3 Aa) (by kernel_rfl) Aa fun a F => ?_
   iterate 2 refine A6 (R := []) F Aa Aa (yC fun M Z hN hZ => Ai F Aa) Aa Aa fun a F => ?_
   refine A6 (R := []) F Aa Aa (yC fun M Z hN hZ => Is F Aa Aa Aa) Aa Aa fun a F => ?_
   iterate 3 refine A6 (R := []) F Aa Aa (yC fun M Z hN hZ => Ai F Aa) Aa Aa fun a F => ?_
   obtain ⟨x12, h6, H⟩ := Ac H
   refine A6 (R := []) F Aa Aa (yC fun M Z hN hZ => Ba (r := (Rp.int .i64)) EJ F Aa Aa (C1 W (Af 0 Aa)) h6) Aa Aa fun a F => ?_
   refine A6 (R := [13]) F Aa Aa (yC fun M Z hN hZ => Ag (y := Value.int .i64 x12) (j := 0) (i := x9) F Aa Aa (Di (hZ ((some 13), row v2 3 (Rp.int .i64) x1) (.tail _ (.head _)) Aa)) h6 Fl.int.to T3 Aa) (by kernel_rfl) Aa fun a F => ?_
   refine F2 Aa ?_
   obtain ⟨x13, h7, H⟩ := Ac H
   refine A9 (Ml := []) (Zl := []) (β := Value) (rv := fun x => x) (MM := fun x => []) (ZZ := fun x => [row x 3 (Rp.int .i64) x13]) F W aI Aa Aa (fun hL => Nr _ w (v1) p0 x12 _ h7 ((Ad h_v1) w W).nx) fun x a w F W => ?_
   obtain ⟨v10, rfl⟩ : ∃ y, y = x := ⟨x, rfl⟩
   have W : Stw ⟨Y, [], w0⟩ [] [row v10 3 (Rp.int .i64) x13, row v2 3 (Rp.int .i64) x1, row v9 46 Jg x8, row v7 3 (Rp.int .i64) x6.1] w := W
   refine Cm (N2 := []) (NZ2 := []) (N3 := []) (NZ3 := [(some 15, row v2 3 (Rp.int .i64) x1), (some 13, row v2 3 (Rp.int .i64) x1)]) W Aa Aa Ak (all_cons (fun _ => (.tail _ (.head _))) (all_cons (fun h => AJ (by kernel_rfl) h) Ak)) ?_
   refine A6 (R := []) F Aa Aa (yC fun M Z hN hZ => Cg (v := Value.agg #[.int .i64 x11, .int .i64 (An (p1 + x10)), v10]) aJ F Aa (Bb Aa Aa Aa (Bb Aa Aa Aa (Bb Aa (BM (W.one (k := 0) Aa)) Aa Eo))) Aa) Aa Aa fun a F => ?_
   refine F2 Aa ?_
   have W := W.freeze
   refine D6 (z := Value.agg #[.int .i64 0, .int .i64 0, .slice none 0 0]) (cs := [.int .i64 x11, .int .i64 (An (p1 + x10)), v10]) Jg ([(x11, An (p1 + x10), x13)] : List (Int × Int × List Int)) F W Aa Ws Zo Aa Aa Aa (Bb Aa Aa Aa Eo) Aa Aa ⟨[Value.int .i64 x11, Value.int .i64 (An (p1 + x10)), v10], _, Aa, ⟨[Value.int .i64 x11], [Value.int .i64 (An (p1 + x10)), v10], Aa, Aa, ⟨[Value.int .i64 (An (p1 + x10))], [v10], Aa, Aa, ⟨_, Aa, (W.item (i := 0) Aa)⟩⟩⟩, Aa⟩ fun v11 a w F W => ?_
   refine Cm (N2 := []) (NZ2 := []) (N3 := []) (NZ3 := [(some 15, row v2 3 (Rp.int .i64) x1), (some 13, row v2 3 (Rp.int .i64) x1)]) W Aa Aa Ak (all_cons (fun h => AJ (by kernel_rfl) h) (all_cons (fun h => AJ (by kernel_rfl) h) Ak)) ?_
   refine F2 Aa ?_
   obtain ⟨x14, h8, H⟩ := Ac H
   refine DB (r := Jg) (i := 3) F W Aa Ws Aa Aa Aa Aa (Ez W 0 Aa) h8 Aa fun v12 a w F W => ?_
   have W : Stw ⟨Y, [], w0⟩ [] [row v12 46 Jg x14, row v11 46 Jg ([(x11, An (p1 + x10), x13)] : List (Int × Int × List Int)), LO v10 (Rp.int .i64) x13, row v2 3 (Rp.int .i64) x1, row v7 3 (Rp.int .i64) x6.1] w := W
   refine Cm (N2 := []) (NZ2 := []) (N3 := []) (NZ3 := [(some 15, row v2 3 (Rp.int .i64) x1), (some 13, row v2 3 (Rp.int .i64) x1)]) W Aa Aa Ak (all_cons (fun h => AJ (by kernel_rfl) h) (all_cons (fun h => AJ (by kernel_rfl) h) Ak)) ?_
   refine F2 Aa ?_
   refine ls F W Aa (Dn F Aa).q fun a w F W => ?_
   refine Cm (N2 := []) (NZ2 := []) (N3 := []) (NZ3 := [(some 15, row v2 3 (Rp.int .i64) x1), (some 13, row v2 3 (Rp.int .i64) x1)]) W Aa Aa Ak (all_cons (fun h => AJ (by kernel_rfl) h) (all_cons (fun h => AJ (by kernel_rfl) h) Ak)) ?_
   refine Hg (Aw ?_)
   refine vn tk 4 F W fun a w F W => ?_
   refine Ab ?_
   have W := W.frontZ (i := 4) Aa Aa
   have W := W.frontZ (i := 1) Aa Aa
   have W := W.frontZ (i := 4) Aa Aa
   have W := W.sub (M' := []) (Z' := [row v2 3 (Rp.int .i64) x1, row v12 46 Jg x14, row v7 3 (Rp.int .i64) x6.1]) (List.Sublist.refl _) (List.Sublist.cons_cons _ (List.Sublist.cons_cons _ (List.Sublist.cons_cons _ (List.nil_sublist _))))
   exact ⟨_, H, (v12), F.ra Aa, W⟩
  refine AA ?_
  iterate 2 refine AQ ?_
  refine AC (Ab ?_)
  have W := W.frontZ (i := 1) Aa Aa
  have W := W.sub (M' := []) (Z' := [row v9 46 Jg x8]) (List.Sublist.refl _) (List.Sublist.cons_cons _ (List.nil_sublist _))
  have H := L4 _ H
  exact ⟨_, (v9), H, F.ra Aa, W⟩
 rintro a w ⟨x7, v8, hj, F, W⟩
 have hj := Ax hj
 subst hj
 have H := K3
 clear G3 K3
 refine vc tk 6 F W fun a w F W => ?_
 refine Ao ?_
 have H := Ax H
 subst H
 refine A1 (.inl Aa) F W Aa (Am F Aa) ?_
 exact ⟨(v8), Aa, W⟩
end Go.Proofs.YthhoflfhegfmcaaGreat
