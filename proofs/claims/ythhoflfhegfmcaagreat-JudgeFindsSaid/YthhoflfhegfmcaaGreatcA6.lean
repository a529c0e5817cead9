/- The functions of layer 25, JA. Conditions: none. -/
import Derived.Test.YthhoflfhegfmcaaGreatcA5
namespace Go.Proofs.YthhoflfhegfmcaaGreat
noncomputable section
open Go Go.RowKit
set_option linter.unusedVariables false
set_option linter.unusedSimpArgs false
set_option maxRecDepth 20000
set_option maxHeartbeats 1600000
theorem bN : Has Tryz.prog 91 := Cv Tryz.func91
def BO (p2 : Int) (x2 : List Int) : Int → Option (Int ⊕ Int)
  | x8 => (if x8 < p2 then (ix x2 x8).bind fun x10 => (ix x2 (An (x8 - 1))).bind fun x11 => some (!(CM x10 x11)) else some false).bind fun x9 => (if x9 = true then some (.inl (An (x8 + 1))) else some (.inr x8))
def AP  : (List Int × Int) → Option ((List Int × Int) ⊕ (List Int))
  | (x17, x18) => (if 1 ≤ x18 then (ix x17 x18).bind fun x19 => (ix x17 (An (x18 - 1))).bind fun x20 => (if (!(CM x19 x20)) = true then some (.inr x17) else (ix x17 (An (x18 - 1))).bind fun x21 => (ix x17 x18).bind fun x22 => (ix x17 x18).bind fun x23 => (ix (Ah x17 x18 x21) (An (x18 - 1))).bind fun x24 => some (.inl ((Ah (Ah x17 x18 x21) (An (x18 - 1)) x22), An (x18 - 1)))) else some (.inr x17))
def A3 (p2 : Int) (x7 : Int) : (List Int × Int) → Option ((List Int × Int) ⊕ ((List Int × Int) ⊕ ((List Int × Int × Int) ⊕ ((List Int) ⊕ (Bool × List Int)))))
  | (x25, x26) => (if x26 < p2 then (ix x25 x26).bind fun x27 => (ix x25 (An (x26 - 1))).bind fun x28 => (if (!(CM x27 x28)) = true then some (.inr (.inl (x25, x7))) else (ix x25 (An (x26 - 1))).bind fun x29 => (ix x25 x26).bind fun x30 => (ix x25 x26).bind fun x31 => (ix (Ah x25 x26 x29) (An (x26 - 1))).bind fun x32 => some (.inl ((Ah (Ah x25 x26 x29) (An (x26 - 1)) x30), An (x26 + 1)))) else some (.inr (.inl (x25, x7))))
def A4 (p1 : Int) (p2 : Int) : (List Int × Int × Int) → Option ((List Int × Int × Int) ⊕ ((List Int) ⊕ (Bool × List Int)))
  | (x2, x3, x4) => (if x4 < 5 then GT ((Aq (BO p2 x2) x3).bind fun x7 => (if x7 = p2 then some (.inr (.inr (.inr (true, x2)))) else (if (An (p2 - p1)) < 50 then some (.inr (.inr (.inr (false, x2)))) else (ix x2 (An (x7 - 1))).bind fun x12 => (ix x2 x7).bind fun x13 => (ix x2 x7).bind fun x14 => (ix (Ah x2 x7 x12) (An (x7 - 1))).bind fun x15 => (if 2 ≤ (An (x7 - p1)) then Aq (AP) ((Ah (Ah x2 x7 x12) (An (x7 - 1)) x13), An (x7 - 1)) else some (Ah (Ah x2 x7 x12) (An (x7 - 1)) x13)).bind fun x16 => (if 2 ≤ (An (p2 - x7)) then Aq (A3 p2 x7) (x16, An (x7 + 1)) else some (.inl (x16, x7)))))) fun (x5, x6) => some (.inl (x5, x6, An (x4 + 1))) else some (.inr (.inl x2)))
def BD (p0 : List Int) (p1 : Int) (p2 : Int) : Option (Bool × List Int) := GT (Aq (A4 p1 p2) (p0, An (p1 + 1), 0)) fun x1 => some (false, x1)
theorem Ga (Y : Nat → Prop) (X : List Nat) (w0 : World) (v1 : Value) (p0 : List Int) (p1 : Int) (p2 : Int) (r : Bool × List Int) (H : BD p0 p1 p2 = some r) (hL : Stw ⟨Y, X, w0⟩ [] [row v1 3 ri p0] w0) :
    ca_ 93 #[v1, Jint p1, Jint p2] w0 fun e w' => ∃ x : Unit, e = .returned (.bool r.1) ∧ Stw ⟨Y, X, w0⟩ [] [row v1 3 ri r.2] w' := by
 refine enter Tryz.func93 Aa Tryz.ntmps93 Aa fun a F => ?_
 have W := hL
 unfold BD at H
 refine vc tk 12 F W fun a w F W => ?_
 obtain ⟨o1, G1, K1, L1⟩ := Md H
 refine As (fun a w => ∃ x1 : List Int, some (Sum.inl x1) = some o1 ∧ Fr 133 [] [(6, .bool false)] a ∧ Stw ⟨Y, X, w0⟩ [] [row v1 3 ri x1] w) ?_ ?_
 ·
  have H := G1
  refine vc tk 6 F W fun a w F W => ?_
  refine AN H (fun s a w => Fr 133 [] [(0, v1), (1, Jint p1), (2, Jint p2), (6, .bool false), (7, Jint s.2.1), (8, Jint s.2.2)] a ∧ Stw ⟨Y, X, w0⟩ [] [row v1 3 ri s.1] w) ⟨F.ra Aa, W⟩ fun s o a w H L2 hR => ?_
  obtain ⟨x2, x3, x4⟩ := s
  obtain ⟨F, W⟩ := hR
  have F : Fr 133 [] [(0, v1), (1, Jint p1), (2, Jint p2), (6, .bool false), (7, Jint x3), (8, Jint x4)] a := F
  have W : Stw ⟨Y, X, w0⟩ [] [row v1 3 ri x2] w := W
  rw [A4] at H
  refine vc tk 7 F W fun a w F W => ?_
  refine AW F Aa H (fun F H => ?_) fun F H => ?_
  ·
   refine AE (Ab ?_)
   obtain ⟨o3, G3, K3, L3⟩ := Md H
   refine As (fun a w => ∃ x5 : List Int, ∃ x6 : Int, some (Sum.inl (x5, x6)) = some o3 ∧ Fr 133 [] [(0, v1), (1, Jint p1), (2, Jint p2), (6, .bool false), (7, Jint x6), (8, Jint x4)] a ∧ Stw ⟨Y, X, w0⟩ [] [row v1 3 ri x5] w) ?_ ?_
   ·
    have H := G3
    refine Ew ?_
    obtain ⟨o4, G4, K4⟩ := Ac H
    refine As (fun a w => ∃ x7 : Int, some (x7) = some o4 ∧ Fr 133 [] [(0, v1), (1, Jint p1), (2, Jint p2), (6, .bool false), (7, Jint x7), (8, Jint x4)] a ∧ Stw ⟨Y, X, w0⟩ [] [row v1 3 ri x2] w) ?_ ?_
    ·
     have H := G4
     refine Ew ?_
     refine AN H (fun s a w => Fr 133 [] [(0, v1), (1, Jint p1), (2, Jint p2), (6, .bool false), (7, Jint s), (8, Jint x4)] a ∧ Stw ⟨Y, X, w0⟩ [] [row v1 3 ri x2] w) ⟨F.ra Aa, W⟩ fun s o a w H L5 hR => ?_
     obtain ⟨x8, rfl⟩ : ∃ x, x = s := ⟨s, rfl⟩
     obtain ⟨F, W⟩ := hR
     have F : Fr 133 [] [(0, v1), (1, Jint p1), (2, Jint p2), (6, .bool false), (7, Jint x8), (8, Jint x4)] a := F
     have W : Stw ⟨Y, X, w0⟩ [] [row v1 3 ri x2] w := W
     rw [BO] at H
     refine HH ?_
     obtain ⟨o6, G6, K6⟩ := Ac H
     refine As (fun a w => ∃ x9 : Bool, some (x9) = some o6 ∧ Fr 133 [] [(0, v1), (1, Jint p1), (2, Jint p2), (6, .bool false), (7, Jint x8), (8, Jint x4), (32, .bool x9)] a ∧ Stw ⟨Y, X, w0⟩ [] [row v1 3 ri x2] w) ?_ ?_
     ·
      have H := G6
      refine Bz W MO (by kernel_rfl) ?_
      iterate 2 refine qs F Aa (Ai F Aa).q fun a F => ?_
      refine qs F Aa (GV F Aa Aa).q fun a F => ?_
      refine qs F Aa (Ai F Aa).q fun a F => ?_
      rcases bxq (decide (x8 < p2)) with hb | hb
      ·
       have H := DU (Fa hb) H
       rw [hb] at F
       iterate 2 refine AZ F (Ad F Aa Aa Aa Aa) Aa (Ao Aa) (Ai F Aa).q fun a F => ?_
       obtain ⟨x10, h1, H⟩ := Ac H
       refine AZ F (Ad F Aa Aa Aa Aa) Aa (Ao Aa) (Al (r := ri) EM F Aa Aa (Af 0 Aa) h1).q fun a F => ?_
       refine AZ F (Ad F Aa Aa Aa Aa) Aa (Ao Aa) (Ag (y := Jint x10) (j := 0) (i := x8) F Aa Aa (Af 0 Aa) h1 Fl.int.to T3 Aa).q fun a F => ?_
       iterate 2 refine AZ F (Ad F Aa Aa Aa Aa) Aa (Ao Aa) (Ai F Aa).q fun a F => ?_
       refine AZ F (Ad F Aa Aa Aa Aa) Aa (Ao Aa) (Ek F Aa Aa Aa).q fun a F => ?_
       obtain ⟨x11, h2, H⟩ := Ac H
       refine AZ F (Ad F Aa Aa Aa Aa) Aa (Ao Aa) (Al (r := ri) EM F Aa Aa (Af 0 Aa) h2).q fun a F => ?_
       refine AZ F (Ad F Aa Aa Aa Aa) Aa (Ao Aa) (Ag (y := Jint x11) (j := 0) (i := An (x8 - 1)) F Aa Aa (Af 0 Aa) h2 Fl.int.to T3 Aa).q fun a F => ?_
       refine AZ F (Ad F Aa Aa Aa Aa) Aa (Ao Aa) (Bc (v := Value.bool (CM x10 x11)) F Xj Aa (fun w W => Ft any w x10 x11 _ Aa)) fun a F => ?_
       refine AZ F (Ad F Aa Aa Aa Aa) Aa (Ao Aa) (I5 F Aa).q fun a F => ?_
       refine qs F Aa (C4 F Aa Aa Aa).q fun a F => ?_
       refine AA fun w W => ?_
       refine Ab ?_
       exact ⟨_, H, F.ra Aa, W⟩
      have H := DS (E4 hb) H
      rw [hb] at F
      iterate 11 refine Dn F (CX F Aa Aa Aa Aa Aa) Aa Aa fun a F => ?_
      refine qs F Aa (Dw F Aa Aa Aa).q fun a F => ?_
      refine AA fun w W => ?_
      refine Ab ?_
      exact ⟨_, H, F.ra Aa, W⟩
     rintro a w ⟨x9, hj, F, W⟩
     have hj := Ay hj
     subst hj
     have H := K6
     refine CS F Aa H (fun F H => ?_) fun F H => ?_
     ·
      refine FL tk 8 F W fun a w F W => ?_
      refine Ab ?_
      exact ⟨_, H, F.ra Aa, W⟩
     refine AC ?_
     iterate 2 refine AR ?_
     refine AD (Ab ?_)
     have H := L5 _ H
     exact ⟨_, H, F.ra Aa, W⟩
    rintro a w ⟨x7, hj, F, W⟩
    have hj := Ay hj
    subst hj
    have H := K4
    refine vc tk 8 F W fun a w F W => ?_
    refine AW F Aa H (fun F H => ?_) fun F H => ?_
    ·
     refine vc tk 5 F W fun a w F W => ?_
     refine Ap (AF (AV ?_))
     iterate 2 refine AF ?_
     refine AV (AF ?_)
     have H := L3 _ H
     have H := L2 _ H
     have H := L1 _ H
     have H := Ay H
     subst H
     refine A1 (.inl Aa) F W Aa (Am F Aa) ?_
     exact ⟨(), Aa, W⟩
    refine FL tk 11 F W fun a w F W => ?_
    refine AW F Aa H (fun F H => ?_) fun F H => ?_
    ·
     refine vc tk 5 F W fun a w F W => ?_
     refine Ap (AF (AV ?_))
     iterate 2 refine AF ?_
     refine AV (AF ?_)
     have H := L3 _ H
     have H := L2 _ H
     have H := L1 _ H
     have H := Ay H
     subst H
     refine A1 (.inl Aa) F W Aa (Am F Aa) ?_
     exact ⟨(), Aa, W⟩
    refine FL tk 3 F W fun a w F W => ?_
    refine ER [(true, 0), (true, 1), (true, 2), (true, 3), (true, 4), (true, 5), (true, 6), (true, 7), (true, 8), (true, 9), (true, 10), (true, 11), (true, 12), (true, 13), (true, 14), (false, 15), (true, 16), (false, 17)] (CN ⟨Y, X, w0⟩ [] [(some 15, row v1 3 ri x2)]) (fun ch a d v w h => by cases d <;> exact h) MO (by kernel_rfl) W (fun w W => ⟨_, _, W, Ak, (all_cons (fun _ => (.head _)) Ak)⟩) fun w W => ?_
    iterate 4 refine A6 (R := []) F Aa Aa (yC fun M Z hN hZ => Ai F Aa) Aa Aa fun a F => ?_
    refine A6 (R := []) F Aa Aa (yC fun M Z hN hZ => Ek F Aa Aa Aa) Aa Aa fun a F => ?_
    iterate 2 refine A6 (R := []) F Aa Aa (yC fun M Z hN hZ => Ai F Aa) Aa Aa fun a F => ?_
    refine A6 (R := []) F Aa Aa (yC fun M Z hN hZ => Ek F Aa Aa Aa) Aa Aa fun a F => ?_
    obtain ⟨x12, h3, H⟩ := Ac H
    refine A6 (R := []) F Aa Aa (yC fun M Z hN hZ => Ba (r := ri) EM F Aa Aa (C2 W (Af 0 Aa)) h3) Aa Aa fun a F => ?_
    refine A6 (R := [15]) F Aa Aa (yC fun M Z hN hZ => Ag (y := Jint x12) (j := 0) (i := An (x7 - 1)) F Aa Aa (Dh (hZ ((some 15), row v1 3 ri x2) (.head _) Aa)) h3 Fl.int.to T3 Aa) (by kernel_rfl) Aa fun a F => ?_
    iterate 2 refine A6 (R := []) F Aa Aa (yC fun M Z hN hZ => Ai F Aa) Aa Aa fun a F => ?_
    obtain ⟨x13, h4, H⟩ := Ac H
    refine A6 (R := []) F Aa Aa (yC fun M Z hN hZ => Ba (r := ri) EM F Aa Aa (C2 W (Af 0 Aa)) h4) Aa Aa fun a F => ?_
    refine A6 (R := [15]) F Aa Aa (yC fun M Z hN hZ => Ag (y := Jint x13) (j := 0) (i := x7) F Aa Aa (Dh (hZ ((some 15), row v1 3 ri x2) (.head _) Aa)) h4 Fl.int.to T3 Aa) (by kernel_rfl) Aa fun a F => ?_
    obtain ⟨x14, h5, H⟩ := Ac H
    refine A6 (R := []) F Aa Aa (yC fun M Z hN hZ => Ba (r := ri) EM F Aa Aa (C2 W (Af 0 Aa)) h5) Aa Aa fun a F => ?_
    refine F1 Aa ?_
    refine A0 (i := x7) (j := 0) (vs := [Jint x12]) (x' := x12) F W Aa Aa Aa (k := 0) Aa Aa h5 T3 Aa Aa Aa Aa (fun A cs _ => Fl.int.sto (by rfl) _ _ _) fun w W => ?_
    refine Cn (N2 := []) (NZ2 := []) (N3 := []) (NZ3 := [(some 15, row v1 3 ri x2)]) W Aa Aa Ak (all_cons (fun h => AH (by kernel_rfl) h) Ak) ?_
    obtain ⟨x15, h6, H⟩ := Ac H
    refine A6 (R := []) F Aa Aa (yC fun M Z hN hZ => Ba (r := ri) EM F Aa Aa (C2 W (Af 0 Aa)) h6) Aa Aa fun a F => ?_
    refine F1 Aa ?_
    refine A0 (i := An (x7 - 1)) (j := 0) (vs := [Jint x13]) (x' := x13) F W Aa Aa Aa (k := 0) Aa Aa h6 T3 Aa Aa Aa Aa (fun A cs _ => Fl.int.sto (by rfl) _ _ _) fun w W => ?_
    refine Cn (N2 := []) (NZ2 := []) (N3 := []) (NZ3 := [(some 15, row v1 3 ri x2)]) W Aa Aa Ak (all_cons (fun h => AH (by kernel_rfl) h) Ak) ?_
    refine Hd (Ab ?_)
    obtain ⟨o7, G7, K7⟩ := Ac H
    refine As (fun a w => ∃ x16 : List Int, some (x16) = some o7 ∧ Fr 133 [] [(0, v1), (1, Jint p1), (2, Jint p2), (6, .bool false), (7, Jint x7), (8, Jint x4)] a ∧ Stw ⟨Y, X, w0⟩ [] [row v1 3 ri x16] w) ?_ ?_
    ·
     have H := G7
     refine vc tk 8 F W fun a w F W => ?_
     refine AW F Aa H (fun F H => ?_) fun F H => ?_
     ·
      refine vc tk 8 F W fun a w F W => ?_
      refine AN H (fun s a w => Fr 133 [] [(0, v1), (1, Jint p1), (2, Jint p2), (6, .bool false), (7, Jint x7), (8, Jint x4), (9, Jint s.2)] a ∧ Stw ⟨Y, X, w0⟩ [] [row v1 3 ri s.1] w) ⟨F.ra Aa, W⟩ fun s o a w H L8 hR => ?_
      obtain ⟨x17, x18⟩ := s
      obtain ⟨F, W⟩ := hR
      have F : Fr 133 [] [(0, v1), (1, Jint p1), (2, Jint p2), (6, .bool false), (7, Jint x7), (8, Jint x4), (9, Jint x18)] a := F
      have W : Stw ⟨Y, X, w0⟩ [] [row v1 3 ri x17] w := W
      rw [AP] at H
      refine vc tk 7 F W fun a w F W => ?_
      refine AW F Aa H (fun F H => ?_) fun F H => ?_
      ·
       refine FL tk 6 F W fun a w F W => ?_
       refine Bz W MO (by kernel_rfl) ?_
       iterate 2 refine qs F Aa (Ai F Aa).q fun a F => ?_
       obtain ⟨x19, h7, H⟩ := Ac H
       refine qs F Aa (Al (r := ri) EM F Aa Aa (Af 0 Aa) h7).q fun a F => ?_
       refine qs F Aa (Ag (y := Jint x19) (j := 0) (i := x18) F Aa Aa (Af 0 Aa) h7 Fl.int.to T3 Aa).q fun a F => ?_
       iterate 2 refine qs F Aa (Ai F Aa).q fun a F => ?_
       refine qs F Aa (Ek F Aa Aa Aa).q fun a F => ?_
       obtain ⟨x20, h8, H⟩ := Ac H
       refine qs F Aa (Al (r := ri) EM F Aa Aa (Af 0 Aa) h8).q fun a F => ?_
       refine qs F Aa (Ag (y := Jint x20) (j := 0) (i := An (x18 - 1)) F Aa Aa (Af 0 Aa) h8 Fl.int.to T3 Aa).q fun a F => ?_
       refine qs F Aa (Bc (v := Value.bool (CM x19 x20)) F Xj Aa (fun w W => Ft any w x19 x20 _ Aa)) fun a F => ?_
       refine qs F Aa (I5 F Aa).q fun a F => ?_
       refine AA fun w W => ?_
       refine Ab ?_
       refine CS F Aa H (fun F H => ?_) fun F H => ?_
       ·
        refine AC (AR ?_)
        refine Im Aa ?_
        iterate 2 refine AR ?_
        refine AD (Ab ?_)
        have H := L8 _ H
        exact ⟨_, H, F.ra Aa, W⟩
       refine FL tk 2 F W fun a w F W => ?_
       refine ER [(true, 0), (true, 1), (true, 2), (true, 3), (true, 4), (true, 5), (true, 6), (true, 7), (true, 8), (true, 9), (true, 10), (true, 11), (true, 12), (true, 13), (true, 14), (false, 15), (true, 16), (false, 17)] (CN ⟨Y, X, w0⟩ [] [(some 15, row v1 3 ri x17)]) (fun ch a d v w h => by cases d <;> exact h) MO (by kernel_rfl) W (fun w W => ⟨_, _, W, Ak, (all_cons (fun _ => (.head _)) Ak)⟩) fun w W => ?_
       iterate 4 refine A6 (R := []) F Aa Aa (yC fun M Z hN hZ => Ai F Aa) Aa Aa fun a F => ?_
       refine A6 (R := []) F Aa Aa (yC fun M Z hN hZ => Ek F Aa Aa Aa) Aa Aa fun a F => ?_
       iterate 2 refine A6 (R := []) F Aa Aa (yC fun M Z hN hZ => Ai F Aa) Aa Aa fun a F => ?_
       refine A6 (R := []) F Aa Aa (yC fun M Z hN hZ => Ek F Aa Aa Aa) Aa Aa fun a F => ?_
       obtain ⟨x21, h9, H⟩ := Ac H
       refine A6 (R := []) F Aa Aa (yC fun M Z hN hZ => Ba (r := ri) EM F Aa Aa (C2 W (Af 0 Aa)) h9) Aa Aa fun a F => ?_
       refine A6 (R := [15]) F Aa Aa (yC fun M Z hN hZ => Ag (y := Jint x21) (j := 0) (i := An (x18 - 1)) F Aa Aa (Dh (hZ ((some 15), row v1 3 ri x17) (.head _) Aa)) h9 Fl.int.to T3 Aa) (by kernel_rfl) Aa fun a F => ?_
       iterate 2 refine A6 (R := []) F Aa Aa (yC fun M Z hN hZ => Ai F Aa) Aa Aa fun a F => ?_
       obtain ⟨x22, h10, H⟩ := Ac H
       refine A6 (R := []) F Aa Aa (yC fun M Z hN hZ => Ba (r := ri) EM F Aa Aa (C2 W (Af 0 Aa)) h10) Aa Aa fun a F => ?_
       refine A6 (R := [15]) F Aa Aa (yC fun M Z hN hZ => Ag (y := Jint x22) (j := 0) (i := x18) F Aa Aa (Dh (hZ ((some 15), row v1 3 ri x17) (.head _) Aa)) h10 Fl.int.to T3 Aa) (by kernel_rfl) Aa fun a F => ?_
       obtain ⟨x23, h11, H⟩ := Ac H
       refine A6 (R := []) F Aa Aa (yC fun M Z hN hZ => Ba (r := ri) EM F Aa Aa (C2 W (Af 0 Aa)) h11) Aa Aa fun a F => ?_
       refine F1 Aa ?_
       refine A0 (i := x18) (j := 0) (vs := [Jint x21]) (x' := x21) F W Aa Aa Aa (k := 0) Aa Aa h11 T3 Aa Aa Aa Aa (fun A cs _ => Fl.int.sto (by rfl) _ _ _) fun w W => ?_
       refine Cn (N2 := []) (NZ2 := []) (N3 := []) (NZ3 := [(some 15, row v1 3 ri x17)]) W Aa Aa Ak (all_cons (fun h => AH (by kernel_rfl) h) Ak) ?_
       obtain ⟨x24, h12, H⟩ := Ac H
       refine A6 (R := []) F Aa Aa (yC fun M Z hN hZ => Ba (r := ri) EM F Aa Aa (C2 W (Af 0 Aa)) h12) Aa Aa fun a F => ?_
       refine F1 Aa ?_
       refine A0 (i := An (x18 - 1)) (j := 0) (vs := [Jint x22]) (x' := x22) F W Aa Aa Aa (k := 0) Aa Aa h12 T3 Aa Aa Aa Aa (fun A cs _ => Fl.int.sto (by rfl) _ _ _) fun w W => ?_
       refine Cn (N2 := []) (NZ2 := []) (N3 := []) (NZ3 := [(some 15, row v1 3 ri x17)]) W Aa Aa Ak (all_cons (fun h => AH (by kernel_rfl) h) Ak) ?_
       refine Hd (Aw ?_)
       refine vn tk 5 F W fun a w F W => ?_
       refine Ab ?_
       exact ⟨_, H, F.ra Aa, W⟩
      refine AC ?_
      iterate 2 refine AR ?_
      refine AD (Ab ?_)
      have H := L8 _ H
      exact ⟨_, H, F.ra Aa, W⟩
     refine AE (Ab ?_)
     exact ⟨_, H, F.ra Aa, W⟩
    rintro a w ⟨x16, hj, F, W⟩
    have hj := Ay hj
    subst hj
    have H := K7
    refine vc tk 8 F W fun a w F W => ?_
    refine AW F Aa H (fun F H => ?_) fun F H => ?_
    ·
     refine vc tk 8 F W fun a w F W => ?_
     refine AN H (fun s a w => Fr 133 [] [(0, v1), (1, Jint p1), (2, Jint p2), (6, .bool false), (7, Jint x7), (8, Jint x4), (10, Jint s.2)] a ∧ Stw ⟨Y, X, w0⟩ [] [row v1 3 ri s.1] w) ⟨F.ra Aa, W⟩ fun s o a w H L9 hR => ?_
     obtain ⟨x25, x26⟩ := s
     obtain ⟨F, W⟩ := hR
     have F : Fr 133 [] [(0, v1), (1, Jint p1), (2, Jint p2), (6, .bool false), (7, Jint x7), (8, Jint x4), (10, Jint x26)] a := F
     have W : Stw ⟨Y, X, w0⟩ [] [row v1 3 ri x25] w := W
     rw [A3] at H
     refine vc tk 8 F W fun a w F W => ?_
     refine AW F Aa H (fun F H => ?_) fun F H => ?_
     ·
      refine FL tk 6 F W fun a w F W => ?_
      refine Bz W MO (by kernel_rfl) ?_
      iterate 2 refine qs F Aa (Ai F Aa).q fun a F => ?_
      obtain ⟨x27, h13, H⟩ := Ac H
      refine qs F Aa (Al (r := ri) EM F Aa Aa (Af 0 Aa) h13).q fun a F => ?_
      refine qs F Aa (Ag (y := Jint x27) (j := 0) (i := x26) F Aa Aa (Af 0 Aa) h13 Fl.int.to T3 Aa).q fun a F => ?_
      iterate 2 refine qs F Aa (Ai F Aa).q fun a F => ?_
      refine qs F Aa (Ek F Aa Aa Aa).q fun a F => ?_
      obtain ⟨x28, h14, H⟩ := Ac H
      refine qs F Aa (Al (r := ri) EM F Aa Aa (Af 0 Aa) h14).q fun a F => ?_
      refine qs F Aa (Ag (y := Jint x28) (j := 0) (i := An (x26 - 1)) F Aa Aa (Af 0 Aa) h14 Fl.int.to T3 Aa).q fun a F => ?_
      refine qs F Aa (Bc (v := Value.bool (CM x27 x28)) F Xj Aa (fun w W => Ft any w x27 x28 _ Aa)) fun a F => ?_
      refine qs F Aa (I5 F Aa).q fun a F => ?_
      refine AA fun w W => ?_
      refine Ab ?_
      refine CS F Aa H (fun F H => ?_) fun F H => ?_
      ·
       refine AC (AR ?_)
       refine Im Aa ?_
       iterate 2 refine AR ?_
       refine AD (Aw (Ab ?_))
       have H := L9 _ H
       exact ⟨_, _, H, F.ra Aa, W⟩
      refine FL tk 2 F W fun a w F W => ?_
      refine ER [(true, 0), (true, 1), (true, 2), (true, 3), (true, 4), (true, 5), (true, 6), (true, 7), (true, 8), (true, 9), (true, 10), (true, 11), (true, 12), (true, 13), (true, 14), (false, 15), (true, 16), (false, 17)] (CN ⟨Y, X, w0⟩ [] [(some 15, row v1 3 ri x25)]) (fun ch a d v w h => by cases d <;> exact h) MO (by kernel_rfl) W (fun w W => ⟨_, _, W, Ak, (all_cons (fun _ => (.head _)) Ak)⟩) fun w W => ?_
      iterate 4 refine A6 (R := []) F Aa Aa (yC fun M Z hN hZ => Ai F Aa) Aa Aa fun a F => ?_
      refine A6 (R := []) F Aa Aa (yC fun M Z hN hZ => Ek F Aa Aa Aa) Aa Aa fun a F => ?_
      iterate 2 refine A6 (R := []) F Aa Aa (yC fun M Z hN hZ => Ai F Aa) Aa Aa fun a F => ?_
      refine A6 (R := []) F Aa Aa (yC fun M Z hN hZ => Ek F Aa Aa Aa) Aa Aa fun a F => ?_
      obtain ⟨x29, h15, H⟩ := Ac H
      refine A6 (R := []) F Aa Aa (yC fun M Z hN hZ => Ba (r := ri) EM F Aa Aa (C2 W (Af 0 Aa)) h15) Aa Aa fun a F => ?_
      refine A6 (R := [15]) F Aa Aa (yC fun M Z hN hZ => Ag (y := Jint x29) (j := 0) (i := An (x26 - 1)) F Aa Aa (Dh (hZ ((some 15), row v1 3 ri x25) (.head _) Aa)) h15 Fl.int.to T3 Aa) (by kernel_rfl) Aa fun a F => ?_
      iterate 2 refine A6 (R := []) F Aa Aa (yC fun M Z hN hZ => Ai F Aa) Aa Aa fun a F => ?_
      obtain ⟨x30, h16, H⟩ := Ac H
      refine A6 (R := []) F Aa Aa (yC fun M Z hN hZ => Ba (r := ri) EM F Aa Aa (C2 W (Af 0 Aa)) h16) Aa Aa fun a F => ?_
      refine A6 (R := [15]) F Aa Aa (yC fun M Z hN hZ => Ag (y := Jint x30) (j := 0) (i := x26) F Aa Aa (Dh (hZ ((some 15), row v1 3 ri x25) (.head _) Aa)) h16 Fl.int.to T3 Aa) (by kernel_rfl) Aa fun a F => ?_
      obtain ⟨x31, h17, H⟩ := Ac H
      refine A6 (R := []) F Aa Aa (yC fun M Z hN hZ => Ba (r := ri) EM F Aa Aa (C2 W (Af 0 Aa)) h17) Aa Aa fun a F => ?_
      refine F1 Aa ?_
      refine A0 (i := x26) (j := 0) (vs := [Jint x29]) (x' := x29) F W Aa Aa Aa (k := 0) Aa Aa h17 T3 Aa Aa Aa Aa (fun A cs _ => Fl.int.sto (by rfl) _ _ _) fun w W => ?_
      refine Cn (N2 := []) (NZ2 := []) (N3 := []) (NZ3 := [(some 15, row v1 3 ri x25)]) W Aa Aa Ak (all_cons (fun h => AH (by kernel_rfl) h) Ak) ?_
      obtain ⟨x32, h18, H⟩ := Ac H
      refine A6 (R := []) F Aa Aa (yC fun M Z hN hZ => Ba (r := ri) EM F Aa Aa (C2 W (Af 0 Aa)) h18) Aa Aa fun a F => ?_
      refine F1 Aa ?_
      refine A0 (i := An (x26 - 1)) (j := 0) (vs := [Jint x30]) (x' := x30) F W Aa Aa Aa (k := 0) Aa Aa h18 T3 Aa Aa Aa Aa (fun A cs _ => Fl.int.sto (by rfl) _ _ _) fun w W => ?_
      refine Cn (N2 := []) (NZ2 := []) (N3 := []) (NZ3 := [(some 15, row v1 3 ri x25)]) W Aa Aa Ak (all_cons (fun h => AH (by kernel_rfl) h) Ak) ?_
      refine Hd (Aw ?_)
      refine vn tk 5 F W fun a w F W => ?_
      refine Ab ?_
      exact ⟨_, H, F.ra Aa, W⟩
     refine AC ?_
     iterate 2 refine AR ?_
     refine AD (Aw (Ab ?_))
     have H := L9 _ H
     exact ⟨_, _, H, F.ra Aa, W⟩
    refine AE (Aw (Ab ?_))
    exact ⟨_, _, H, F.ra Aa, W⟩
   rintro a w ⟨x5, x6, hj, F, W⟩
   have H := K3 _ hj
   refine vc tk 5 F W fun a w F W => ?_
   refine Ab ?_
   exact ⟨_, H, F.ra Aa, W⟩
  refine AC ?_
  iterate 2 refine AR ?_
  refine AD (Ab ?_)
  have H := L2 _ H
  exact ⟨_, H, F.ra Aa, W⟩
 rintro a w ⟨x1, hj, F, W⟩
 have H := K1 _ hj
 refine vc tk 5 F W fun a w F W => ?_
 refine Ap ?_
 have H := Ay H
 subst H
 refine A1 (.inl Aa) F W Aa (Am F Aa) ?_
 exact ⟨(), Aa, W⟩
theorem aR : Has Tryz.prog 93 := Cv Tryz.func93
def Ep (p0 : List Int) (p1 : Int) (p2 : Int) (p3 : Int) : Unit → Option (Unit ⊕ (List Int))
  | _ => (if (An (p2 - p1)) ≤ 12 then (Cf p0 p1 p2).bind fun x1 => some (.inr x1) else (if p3 = 0 then none else (Cu p0 p1 p2).bind fun x2 => (if x2.2 = 2 then none else GT (if x2.2 = 1 then (BD p0 p1 p2).bind fun x4 => (if x4.1 = true then some (.inr (.inr x4.2)) else some (.inl x4.2)) else some (.inl p0)) fun x3 => (if 0 < p1 then (ix x3 (An (p1 - 1))).bind fun x6 => (ix x3 x2.1).bind fun x7 => some (!(CM x6 x7)) else some false).bind fun x5 => none)))
def Dv (p0 : List Int) (p1 : Int) (p2 : Int) (p3 : Int) : Option (List Int) := Aq (Ep p0 p1 p2 p3) ()
theorem IQ (Y : Nat → Prop) (X : List Nat) (w0 : World) (v1 : Value) (p0 : List Int) (p1 : Int) (p2 : Int) (p3 : Int) (r : List Int) (H : Dv p0 p1 p2 p3 = some r) (hL : Stw ⟨Y, X, w0⟩ [] [row v1 3 ri p0] w0) :
    ca_ 70 #[v1, Jint p1, Jint p2, Jint p3] w0 fun e w' => ∃ x : Unit, e = .returned (.tuple #[]) ∧ Stw ⟨Y, X, w0⟩ [] [row v1 3 ri r] w' := by
 refine enter Tryz.func70 Aa Tryz.ntmps70 Aa fun a F => ?_
 have W := hL
 unfold Dv at H
 refine vc tk 11 F W fun a w F W => ?_
 refine AN H (fun s a w => Fr 134 [] [(0, v1), (1, Jint p1), (2, Jint p2), (3, Jint p3), (8, .bool true), (9, .bool true)] a ∧ Stw ⟨Y, X, w0⟩ [] [row v1 3 ri p0] w) ⟨F.ra Aa, W⟩ fun s o a w H L1 hR => ?_
 obtain ⟨F, W⟩ := hR
 have F : Fr 134 [] [(0, v1), (1, Jint p1), (2, Jint p2), (3, Jint p3), (8, .bool true), (9, .bool true)] a := F
 have W : Stw ⟨Y, X, w0⟩ [] [row v1 3 ri p0] w := W
 rw [Ep] at H
 refine vc tk 16 F W fun a w F W => ?_
 refine AW F Aa H (fun F H => ?_) fun F H => ?_
 ·
  refine vc tk 5 F W fun a w F W => ?_
  obtain ⟨x1, h1, H⟩ := Ac H
  refine A9 (Ml := []) (Zl := [row v1 3 ri p0]) (β := Unit) (rv := fun x => .tuple #[]) (MM := fun x => []) (ZZ := fun x => [row v1 3 ri x1]) F W cC Aa Aa (fun hL => Hp _ _ w (v1) p0 p1 p2 _ h1 hL) fun x a w F W => ?_
  have W : Stw ⟨Y, X, w0⟩ [] [row v1 3 ri x1] w := W
  refine BQ tk 2 F W fun a w F W => ?_
  refine Ap (AF (AV (AF (AV ?_))))
  have H := L1 _ H
  have H := Ay H
  subst H
  refine Jh (.inl Aa) F Aa ?_
  exact ⟨(), Aa, W⟩
 refine FL tk 9 F W fun a w F W => ?_
 refine AW F Aa H (fun F H => ?_) fun F H => ?_
 ·
  exact nomatch H
 refine FL tk 17 F W fun a w F W => ?_
 obtain ⟨x2, h2, H⟩ := Ac H
 refine ls F W Aa (Bc (v := Value.tuple #[Jint x2.1, Jint x2.2]) F bN Aa (fun w W => HK any w (v1) p0 p1 p2 _ h2 (EJ (Af 0 Aa) W))) fun a w F W => ?_
 refine ls F W Aa (Ai F Aa).q fun a w F W => ?_
 refine ls F W Aa (Bi (v := Jint x2.1) F Aa Aa).q fun a w F W => ?_
 refine ls F W Aa (Bi (v := Jint x2.2) F Aa Aa).q fun a w F W => ?_
 refine BQ tk 11 F W fun a w F W => ?_
 refine AW F Aa H (fun F H => ?_) fun F H => ?_
 ·
  exact nomatch H
 refine AE (Ab ?_)
 obtain ⟨o2, G2, K2, L2⟩ := Md H
 refine As (fun a w => ∃ x3 : List Int, some (Sum.inl x3) = some o2 ∧ Fr 134 [] [(0, v1), (1, Jint p1), (2, Jint p2), (3, Jint p3), (8, .bool true), (9, .bool true), (10, Jint (An (p2 - p1))), (11, Jint x2.1)] a ∧ Stw ⟨Y, X, w0⟩ [] [row v1 3 ri x3] w) ?_ ?_
 ·
  have H := G2
  refine vc tk 12 F W fun a w F W => ?_
  refine Gv F Aa (fun hb => ?_) fun hb => ?_
  ·
   have H := DU (Fa hb) H
   rw [hb] at F
   refine vc tk 5 F W fun a w F W => ?_
   obtain ⟨x4, h3, H⟩ := Ac H
   refine A9 (Ml := []) (Zl := [row v1 3 ri p0]) (β := Unit) (rv := fun x => .bool x4.1) (MM := fun x => []) (ZZ := fun x => [row v1 3 ri x4.2]) F W aR Aa Aa (fun hL => Ga _ _ w (v1) p0 p1 p2 _ h3 hL) fun x a w F W => ?_
   have W : Stw ⟨Y, X, w0⟩ [] [row v1 3 ri x4.2] w := W
   refine BQ tk 2 F W fun a w F W => ?_
   refine CS F Aa H (fun F H => ?_) fun F H => ?_
   ·
    refine Ap (AF (AV (AF (AV ?_))))
    have H := L2 _ H
    have H := L1 _ H
    have H := Ay H
    subst H
    refine Jh (.inl Aa) F Aa ?_
    exact ⟨(), Aa, W⟩
   refine AE (Ab ?_)
   exact ⟨_, H, F.ra Aa, W⟩
  have H := DS (E4 hb) H
  rw [hb] at F
  refine AE (Ab ?_)
  exact ⟨_, H, F.ra Aa, W⟩
 rintro a w ⟨x3, hj, F, W⟩
 have H := K2 _ hj
 refine HH ?_
 obtain ⟨o3, G3, K3⟩ := Ac H
 refine As (fun a w => ∃ x5 : Bool, some (x5) = some o3 ∧ Fr 134 [] [(0, v1), (1, Jint p1), (2, Jint p2), (3, Jint p3), (8, .bool true), (9, .bool true), (10, Jint (An (p2 - p1))), (11, Jint x2.1), (87, .bool x5)] a ∧ Stw ⟨Y, X, w0⟩ [] [row v1 3 ri x3] w) ?_ ?_
 ·
  have H := G3
  refine Bz W MO (by kernel_rfl) ?_
  refine qs F Aa (Ai F Aa).q fun a F => ?_
  refine qs F Aa (QJ F Aa Aa).q fun a F => ?_
  refine qs F Aa (Ai F Aa).q fun a F => ?_
  rcases bxq (decide (0 < p1)) with hb | hb
  ·
   have H := DU (Fa hb) H
   rw [hb] at F
   iterate 2 refine AZ F (Ad F Aa Aa Aa Aa) Aa (Ao Aa) (Ai F Aa).q fun a F => ?_
   refine AZ F (Ad F Aa Aa Aa Aa) Aa (Ao Aa) (Ek F Aa Aa Aa).q fun a F => ?_
   obtain ⟨x6, h4, H⟩ := Ac H
   refine AZ F (Ad F Aa Aa Aa Aa) Aa (Ao Aa) (Al (r := ri) EM F Aa Aa (Af 0 Aa) h4).q fun a F => ?_
   refine AZ F (Ad F Aa Aa Aa Aa) Aa (Ao Aa) (Ag (y := Jint x6) (j := 0) (i := An (p1 - 1)) F Aa Aa (Af 0 Aa) h4 Fl.int.to T3 Aa).q fun a F => ?_
   iterate 2 refine AZ F (Ad F Aa Aa Aa Aa) Aa (Ao Aa) (Ai F Aa).q fun a F => ?_
   obtain ⟨x7, h5, H⟩ := Ac H
   refine AZ F (Ad F Aa Aa Aa Aa) Aa (Ao Aa) (Al (r := ri) EM F Aa Aa (Af 0 Aa) h5).q fun a F => ?_
   refine AZ F (Ad F Aa Aa Aa Aa) Aa (Ao Aa) (Ag (y := Jint x7) (j := 0) (i := x2.1) F Aa Aa (Af 0 Aa) h5 Fl.int.to T3 Aa).q fun a F => ?_
   refine AZ F (Ad F Aa Aa Aa Aa) Aa (Ao Aa) (Bc (v := Value.bool (CM x6 x7)) F Xj Aa (fun w W => Ft any w x6 x7 _ Aa)) fun a F => ?_
   refine AZ F (Ad F Aa Aa Aa Aa) Aa (Ao Aa) (I5 F Aa).q fun a F => ?_
   refine qs F Aa (C4 F Aa Aa Aa).q fun a F => ?_
   refine AA fun w W => ?_
   refine Ab ?_
   exact ⟨_, H, F.ra Aa, W⟩
  have H := DS (E4 hb) H
  rw [hb] at F
  iterate 11 refine Dn F (CX F Aa Aa Aa Aa Aa) Aa Aa fun a F => ?_
  refine qs F Aa (Dw F Aa Aa Aa).q fun a F => ?_
  refine AA fun w W => ?_
  refine Ab ?_
  exact ⟨_, H, F.ra Aa, W⟩
 rintro a w ⟨x5, hj, F, W⟩
 have hj := Ay hj
 subst hj
 have H := K3
 exact nomatch H
theorem ZN : Has Tryz.prog 70 := Cv Tryz.func70
def DW (p0 : List Int) : Option (List Int) := (Fe (IntKind.u64.wrap (p0.length : Int))).bind fun x1 => (Dv p0 0 (p0.length : Int) x1).bind fun x2 => some x2
theorem HP (Y : Nat → Prop) (X : List Nat) (w0 : World) (v1 : Value) (p0 : List Int) (r : List Int) (H : DW p0 = some r) (hL : Stw ⟨Y, X, w0⟩ [] [row v1 3 ri p0] w0) :
    ca_ 46 #[v1] w0 fun e w' => ∃ x : Unit, e = .returned (.tuple #[]) ∧ Stw ⟨Y, X, w0⟩ [] [row v1 3 ri r] w' := by
 refine enter Tryz.func46 Aa Tryz.ntmps46 Aa fun a F => ?_
 have W := hL
 unfold DW at H
 refine vc tk 3 F W fun a w F W => ?_
 refine ls F W Aa (BP (r := ri) (l := p0) Jc Aa F Aa (Af 0 Aa)).q fun a w F W => ?_
 refine BQ tk 7 F W fun a w F W => ?_
 refine ls F W Aa (Kj Q3 Vn F Aa).q fun a w F W => ?_
 obtain ⟨x1, h1, H⟩ := Ac H
 refine ls F W Aa (Bc (v := Jint x1) F Zh Aa (fun w W => Iw any w (IntKind.u64.wrap (p0.length : Int)) _ h1)) fun a w F W => ?_
 obtain ⟨x2, h2, H⟩ := Ac H
 refine A9 (Ml := []) (Zl := [row v1 3 ri p0]) (β := Unit) (rv := fun x => .tuple #[]) (MM := fun x => []) (ZZ := fun x => [row v1 3 ri x2]) F W ZN Aa Aa (fun hL => IQ _ _ w (v1) p0 0 (p0.length : Int) x1 _ h2 hL) fun x a w F W => ?_
 have W : Stw ⟨Y, X, w0⟩ [] [row v1 3 ri x2] w := W
 refine FC ?_
 have H := Ay H
 subst H
 refine Jh (.inr Aa) F Aa ?_
 exact ⟨(), Aa, W⟩
theorem ZG : Has Tryz.prog 46 := Cv Tryz.func46
def Cx (p0 : List Int) (x1 : Int) : (List Int × Int × Int) → Option ((List Int × Int × Int) ⊕ (List Int × Int))
  | (x7, x8, x9) => (Jz x7 x1 (p0.length : Int)).bind fun x10 => (if x9 < (x10.length : Int) then ((ix x10 x9).bind fun x13 => (ix x10 (An (x9 - 1))).bind fun x14 => (if x13 ≠ x14 then (ix x10 x9).bind fun x15 => (ix x7 x8).bind fun x16 => some ((Ah x7 x8 x15), An (x8 + 1)) else some (x7, x8))).bind fun (x11, x12) => some (.inl (x11, x12, An (x9 + 1))) else some (.inr (x7, x8)))
def Cd (p0 : List Int) : Int → Option (Int ⊕ (Unit ⊕ (List Int)))
  | x1 => (if x1 < (p0.length : Int) then GT ((ix p0 x1).bind fun x2 => (ix p0 (An (x1 - 1))).bind fun x3 => (if x2 = x3 then (Jz p0 x1 (p0.length : Int)).bind fun x4 => (Aq (Cx p0 x1) (p0, x1, 1)).bind fun (x5, x6) => (Jz x5 x6 (x5.length : Int)).bind fun x17 => (Xc x5 x6 (List.replicate (x17.length) (0 : Int))).bind fun x18 => (Jz x18 0 x6).bind fun x19 => some (.inr (.inr (.inr x19))) else some (.inl ()))) fun _ => some (.inl (An (x1 + 1))) else some (.inr (.inl ())))
def Du (p0 : List Int) : Option (List Int) := (if (p0.length : Int) < 2 then some p0 else GT (Aq (Cd p0) 1) fun _ => some p0)
theorem GY (Y : Nat → Prop) (X : List Nat) (w0 : World) (v1 : Value) (p0 : List Int) (r : List Int) (H : Du p0 = some r) (hL : Stw ⟨Y, X, w0⟩ [] [row v1 3 ri p0] w0) :
    ca_ 47 #[v1] w0 fun e w' => ∃ x : Value, e = .returned (x) ∧ Stw ⟨Y, X, w0⟩ [] [row (x) 3 ri r] w' := by
 refine enter Tryz.func47 Aa Tryz.ntmps47 Aa fun a F => ?_
 have W := hL
 unfold Du at H
 refine vc tk 9 F W fun a w F W => ?_
 refine ls F W Aa (BP (r := ri) (l := p0) Jc Aa F Aa (Af 0 Aa)).q fun a w F W => ?_
 refine BQ tk 3 F W fun a w F W => ?_
 refine AW F Aa H (fun F H => ?_) fun F H => ?_
 ·
  refine vc tk 6 F W fun a w F W => ?_
  refine Ap (AF ?_)
  have H := Ay H
  subst H
  refine A1 (.inl Aa) F W Aa (Am F Aa) ?_
  exact ⟨(v1), Aa, W⟩
 refine AE (Ab ?_)
 obtain ⟨o1, G1, K1, L1⟩ := Md H
 refine As (fun a w => some (Sum.inl ()) = some o1 ∧ Fr 61 [] [(0, v1), (2, .slice none 0 0)] a ∧ Stw ⟨Y, X, w0⟩ [] [row v1 3 ri p0] w) ?_ ?_
 ·
  have H := G1
  refine vc tk 6 F W fun a w F W => ?_
  refine AN H (fun s a w => Fr 61 [] [(0, v1), (2, .slice none 0 0), (3, Jint s)] a ∧ Stw ⟨Y, X, w0⟩ [] [row v1 3 ri p0] w) ⟨F.ra Aa, W⟩ fun s o a w H L2 hR => ?_
  obtain ⟨x1, rfl⟩ : ∃ x, x = s := ⟨s, rfl⟩
  obtain ⟨F, W⟩ := hR
  have F : Fr 61 [] [(0, v1), (2, .slice none 0 0), (3, Jint x1)] a := F
  have W : Stw ⟨Y, X, w0⟩ [] [row v1 3 ri p0] w := W
  rw [Cd] at H
  refine vc tk 5 F W fun a w F W => ?_
  refine ls F W Aa (BP (r := ri) (l := p0) Jc Aa F Aa (Af 0 Aa)).q fun a w F W => ?_
  refine BQ tk 3 F W fun a w F W => ?_
  refine AW F Aa H (fun F H => ?_) fun F H => ?_
  ·
   refine AE (Ab ?_)
   obtain ⟨o3, G3, K3, L3⟩ := Md H
   refine As (fun a w => some (Sum.inl ()) = some o3 ∧ Fr 61 [] [(0, v1), (2, .slice none 0 0), (3, Jint x1)] a ∧ Stw ⟨Y, X, w0⟩ [] [row v1 3 ri p0] w) ?_ ?_
   ·
    have H := G3
    refine vc tk 2 F W fun a w F W => ?_
    refine Bz W MO (by kernel_rfl) ?_
    iterate 2 refine qs F Aa (Ai F Aa).q fun a F => ?_
    obtain ⟨x2, h1, H⟩ := Ac H
    refine qs F Aa (Al (r := ri) EM F Aa Aa (Af 0 Aa) h1).q fun a F => ?_
    refine qs F Aa (Ag (y := Jint x2) (j := 0) (i := x1) F Aa Aa (Af 0 Aa) h1 Fl.int.to T3 Aa).q fun a F => ?_
    iterate 2 refine qs F Aa (Ai F Aa).q fun a F => ?_
    refine qs F Aa (Ek F Aa Aa Aa).q fun a F => ?_
    obtain ⟨x3, h2, H⟩ := Ac H
    refine qs F Aa (Al (r := ri) EM F Aa Aa (Af 0 Aa) h2).q fun a F => ?_
    refine qs F Aa (Ag (y := Jint x3) (j := 0) (i := An (x1 - 1)) F Aa Aa (Af 0 Aa) h2 Fl.int.to T3 Aa).q fun a F => ?_
    refine qs F Aa (Sf F Aa Aa).q fun a F => ?_
    refine AA fun w W => ?_
    refine Ab ?_
    refine AW F Aa H (fun F H => ?_) fun F H => ?_
    ·
     refine vc tk 4 F W fun a w F W => ?_
     obtain ⟨x4, h3, H⟩ := Ac H
     refine ls F W Aa (Kn (r := ri) EM F Aa Aa Aa (Af 0 Aa) h3).q fun a w F W => ?_
     refine vl tk 2 F W fun a w F W => ?_
     refine Ab ?_
     obtain ⟨o4, G4, K4⟩ := Ac H
     refine As (fun a w => ∃ x5 : List Int, ∃ x6 : Int, some ((x5, x6)) = some o4 ∧ Fr 61 [] [(0, v1), (2, .slice none 0 0), (3, Jint x6)] a ∧ Stw ⟨Y, X, w0⟩ [] [row v1 3 ri x5] w) ?_ ?_
     ·
      have H := G4
      refine vc tk 6 F W fun a w F W => ?_
      refine AN H (fun s a w => Fr 61 [] [(0, v1), (2, .slice none 0 0), (3, Jint s.2.1), (4, (EG v1 x1 (p0.length : Int) 1)), (5, Jint s.2.2)] a ∧ Stw ⟨Y, X, w0⟩ [] [row v1 3 ri s.1] w) ⟨F.ra Aa, W⟩ fun s o a w H L5 hR => ?_
      obtain ⟨x7, x8, x9⟩ := s
      obtain ⟨F, W⟩ := hR
      have F : Fr 61 [] [(0, v1), (2, .slice none 0 0), (3, Jint x8), (4, (EG v1 x1 (p0.length : Int) 1)), (5, Jint x9)] a := F
      have W : Stw ⟨Y, X, w0⟩ [] [row v1 3 ri x7] w := W
      rw [Cx] at H
      refine vc tk 5 F W fun a w F W => ?_
      obtain ⟨x10, h4, H⟩ := Ac H
      refine ls F W Aa (BP (r := ri) (l := x10) Jc Aa F Aa (Kh (Af 0 Aa) h4)).q fun a w F W => ?_
      refine BQ tk 3 F W fun a w F W => ?_
      refine AW F Aa H (fun F H => ?_) fun F H => ?_
      ·
       refine AE (Ab ?_)
       obtain ⟨o6, G6, K6⟩ := Ac H
       refine As (fun a w => ∃ x11 : List Int, ∃ x12 : Int, some ((x11, x12)) = some o6 ∧ Fr 61 [] [(0, v1), (2, .slice none 0 0), (3, Jint x12), (4, (EG v1 x1 (p0.length : Int) 1)), (5, Jint x9)] a ∧ Stw ⟨Y, X, w0⟩ [] [row v1 3 ri x11] w) ?_ ?_
       ·
        have H := G6
        refine vc tk 2 F W fun a w F W => ?_
        refine Bz W MO (by kernel_rfl) ?_
        iterate 2 refine qs F Aa (Ai F Aa).q fun a F => ?_
        obtain ⟨x13, h5, H⟩ := Ac H
        refine qs F Aa (Al (r := ri) EM F Aa Aa (Kh (Af 0 Aa) h4) h5).q fun a F => ?_
        refine qs F Aa (Ag (y := Jint x13) (j := 0) (i := x9) F Aa Aa (Kh (Af 0 Aa) h4) h5 Fl.int.to T3 Aa).q fun a F => ?_
        iterate 2 refine qs F Aa (Ai F Aa).q fun a F => ?_
        refine qs F Aa (Ek F Aa Aa Aa).q fun a F => ?_
        obtain ⟨x14, h6, H⟩ := Ac H
        refine qs F Aa (Al (r := ri) EM F Aa Aa (Kh (Af 0 Aa) h4) h6).q fun a F => ?_
        refine qs F Aa (Ag (y := Jint x14) (j := 0) (i := An (x9 - 1)) F Aa Aa (Kh (Af 0 Aa) h4) h6 Fl.int.to T3 Aa).q fun a F => ?_
        refine qs F Aa (Sc F Aa Aa).q fun a F => ?_
        refine AA fun w W => ?_
        refine Ab ?_
        refine AW F Aa H (fun F H => ?_) fun F H => ?_
        ·
         refine vc tk 6 F W fun a w F W => ?_
         obtain ⟨x15, h7, H⟩ := Ac H
         refine ls F W Aa (Al (r := ri) EM F Aa Aa (Kh (Af 0 Aa) h4) h7).q fun a w F W => ?_
         refine ls F W Aa (Ag (y := Jint x15) (j := 0) (i := x9) F Aa Aa (Kh (Af 0 Aa) h4) h7 Fl.int.to T3 Aa).q fun a w F W => ?_
         obtain ⟨x16, h8, H⟩ := Ac H
         refine ls F W Aa (Al (r := ri) EM F Aa Aa (Af 0 Aa) h8).q fun a w F W => ?_
         refine A0 (i := x8) (j := 0) (vs := [Jint x15]) (x' := x15) F W Aa Aa Aa (k := 0) Aa Aa h8 T3 Aa Aa Aa Aa (fun A cs _ => Fl.int.sto (by rfl) _ _ _) fun w W => ?_
         refine BQ tk 7 F W fun a w F W => ?_
         refine Aw (Ab ?_)
         exact ⟨_, _, H, F.ra Aa, W⟩
        refine AE (Aw (Ab ?_))
        exact ⟨_, _, H, F.ra Aa, W⟩
       rintro a w ⟨x11, x12, hj, F, W⟩
       have hj := Ay hj
       subst hj
       have H := K6
       refine vc tk 5 F W fun a w F W => ?_
       refine Ab ?_
       exact ⟨_, H, F.ra Aa, W⟩
      refine AC ?_
      iterate 2 refine AR ?_
      refine AD (Ab ?_)
      have H := L5 _ H
      exact ⟨_, _, H, F.ra Aa, W⟩
     rintro a w ⟨x5, x6, hj, F, W⟩
     have hj := Ay hj
     subst hj
     have H := K4
     refine vc tk 4 F W fun a w F W => ?_
     obtain ⟨x17, h9, H⟩ := Ac H
     refine ls F W Aa (Kn (r := ri) EM F Aa Aa Aa (Af 0 Aa) h9).q fun a w F W => ?_
     obtain ⟨x18, h10, H⟩ := Ac H
     refine VB (r := ri) (v := v1) (k := 0) (0 : Int) F W EM Z3 Aa Aa Aa h9 (fun w A => Fl.int.mk' w A (0 : Int)) h10 fun w W => ?_
     have W : Stw ⟨Y, X, w0⟩ [] [row v1 3 ri x18] w := W
     refine BQ tk 6 F W fun a w F W => ?_
     obtain ⟨x19, h11, H⟩ := Ac H
     refine ls F W Aa (Kn (r := ri) EM F Aa Aa Aa (Af 0 Aa) h11).q fun a w F W => ?_
     refine BQ tk 3 F W fun a w F W => ?_
     refine Ap (AV ?_)
     iterate 2 refine AF ?_
     refine AV (AF ?_)
     have H := L3 _ H
     have H := L2 _ H
     have H := L1 _ H
     have H := Ay H
     subst H
     refine A1 (.inl Aa) F W Aa (Am F Aa) ?_
     have W := W.subRow (k := 0) Aa Aa h11
     exact ⟨((EG v1 (0 : Int) x6 1)), Aa, W⟩
    refine AE (Aw (Ab ?_))
    exact ⟨H, F.ra Aa, W⟩
   rintro a w ⟨hj, F, W⟩
   have H := K3 _ hj
   refine vc tk 5 F W fun a w F W => ?_
   refine Ab ?_
   exact ⟨_, H, F.ra Aa, W⟩
  refine AC ?_
  iterate 2 refine AR ?_
  refine AD (Ab ?_)
  have H := L2 _ H
  exact ⟨H, F.ra Aa, W⟩
 rintro a w ⟨hj, F, W⟩
 have H := K1 _ hj
 refine vc tk 6 F W fun a w F W => ?_
 refine Ap ?_
 have H := Ay H
 subst H
 refine A1 (.inl Aa) F W Aa (Am F Aa) ?_
 exact ⟨(v1), Aa, W⟩
theorem Zy : Has Tryz.prog 47 := Cv Tryz.func47
def F3 (p0 : List Int) : Option (List Int) := (DW p0).bind fun x1 => (Du x1).bind fun x2 => some x2
theorem Ms (Y : Nat → Prop) (X : List Nat) (w0 : World) (v1 : Value) (p0 : List Int) (r : List Int) (H : F3 p0 = some r) (hL : Stw ⟨Y, X, w0⟩ [] [row v1 3 ri p0] w0) :
    ca_ 43 #[v1] w0 fun e w' => ∃ x : Value, e = .returned (x) ∧ Stw ⟨Y, X, w0⟩ [] [row (x) 3 ri r] w' := by
 refine enter Tryz.func43 Aa Tryz.ntmps43 Aa fun a F => ?_
 have W := hL
 unfold F3 at H
 refine vc tk 8 F W fun a w F W => ?_
 obtain ⟨x1, h1, H⟩ := Ac H
 refine A9 (Ml := []) (Zl := [row v1 3 ri p0]) (β := Unit) (rv := fun x => .tuple #[]) (MM := fun x => []) (ZZ := fun x => [row v1 3 ri x1]) F W ZG Aa Aa (fun hL => HP _ _ w (v1) p0 _ h1 hL) fun x a w F W => ?_
 have W : Stw ⟨Y, X, w0⟩ [] [row v1 3 ri x1] w := W
 refine BQ tk 5 F W fun a w F W => ?_
 obtain ⟨x2, h2, H⟩ := Ac H
 refine A9 (Ml := []) (Zl := [row v1 3 ri x1]) (β := Value) (rv := fun x => x) (MM := fun x => []) (ZZ := fun x => [row x 3 ri x2]) F W Zy Aa Aa (fun hL => GY _ _ w (v1) x1 _ h2 hL) fun x a w F W => ?_
 obtain ⟨v2, rfl⟩ : ∃ y, y = x := ⟨x, rfl⟩
 have W : Stw ⟨Y, X, w0⟩ [] [row v2 3 ri x2] w := W
 refine BQ tk 3 F W fun a w F W => ?_
 refine Ap ?_
 have H := Ay H
 subst H
 refine A1 (.inl Aa) F W Aa (Am F Aa) ?_
 exact ⟨(v2), Aa, W⟩
theorem aG : Has Tryz.prog 43 := Cv Tryz.func43
abbrev V4 (a0 : Nat) (a1 : Int × Int × Int × Int) : List (Nat × List Value) := [(a0, [Jint a1.1, Jint a1.2.1, Jint a1.2.2.1, Jint a1.2.2.2])]
def E2 (p0 : List (Int × Int × Int × Int)) : (List Int × Int) → Option ((List Int × Int) ⊕ (List Int))
  | (x2, x3) => (if x3 < (p0.length : Int) then (ix p0 x3).bind fun x4 => (HN x2 ([x4.2.2.2] : List Int)).bind fun x5 => some (.inl (x5, An (x3 + 1))) else some (.inr x2))
def Hx (p0 : List (Int × Int × Int × Int)) : Option (List Int) := (Aq (E2 p0) ([], 0)).bind fun x1 => (F3 x1).bind fun x6 => some x6
theorem NQ (Y : Nat → Prop) (w0 : World) (v1 : Value) (p0 : List (Int × Int × Int × Int)) (r : List Int) (H : Hx p0 = some r) (h_v1 : Sl w0 (NX []) AY v1 p0) :
    ca_ 26 #[v1] w0 fun e w' => ∃ x : Value, e = .returned (x) ∧ sy Y w0 [] [row (x) 3 ri r] w' := by
 refine enter Tryz.func26 Aa Tryz.ntmps26 Aa fun a F => ?_
 have W := Stw.start Y w0
 unfold Hx at H
 refine vc tk 10 F W fun a w F W => ?_
 obtain ⟨o1, G1, K1⟩ := Ac H
 refine As (fun a w => ∃ x1 : List Int, ∃ v2 : Value, some (x1) = some o1 ∧ Fr 20 [] [(2, .slice none 0 0), (3, v2)] a ∧ sy Y w0 [] [row v2 3 ri x1] w) ?_ ?_
 ·
  have H := G1
  refine vc tk 3 F W fun a w F W => ?_
  refine ls F W Aa (BP (r := AY) (l := p0) PR Aa F Aa (Ae h_v1)).q fun a w F W => ?_
  refine BQ tk 4 F W fun a w F W => ?_
  have W := W.nilRow 3 ri
  refine AN H (fun s a w => ∃ v3 : Value, Fr 20 [] [(2, .slice none 0 0), (3, v3), (6, v1), (7, Jint (p0.length : Int)), (8, Jint s.2)] a ∧ sy Y w0 [] [row v3 3 ri s.1] w) ⟨(Value.slice none 0 0), F.ra Aa, W⟩ fun s o a w H L2 hR => ?_
  obtain ⟨x2, x3⟩ := s
  obtain ⟨v3, F, W⟩ := hR
  have F : Fr 20 [] [(2, .slice none 0 0), (3, v3), (6, v1), (7, Jint (p0.length : Int)), (8, Jint x3)] a := F
  have W : sy Y w0 [] [row v3 3 ri x2] w := W
  rw [E2] at H
  refine vc tk 6 F W fun a w F W => ?_
  refine AW F Aa H (fun F H => ?_) fun F H => ?_
  ·
   refine FL tk 6 F W fun a w F W => ?_
   obtain ⟨x4, h1, H⟩ := Ac H
   refine ls F W Aa (Al (r := AY) Eu F Aa Aa (Ae h_v1) h1).q fun a w F W => ?_
   refine ls F W Aa (Ag (y := Value.agg #[Jint x4.1, Jint x4.2.1, Jint x4.2.2.1, Jint x4.2.2.2]) (j := 0) (i := x3) F Aa Aa (Ae h_v1) h1 EK.to Ey Aa).q fun a w F W => ?_
   refine B6 (cs := (Qb)) F W Aa Xf Aa fun b1 a w F W => ?_
   refine Ej 0 F W Aa Aa Aa Ey Aa Aa Aa fun w W => ?_
   refine Ii tk 6 [0] F W (ai fun a w F W => ?_)
   refine D7 (z := Jint 0) (cs := [Jint x4.2.2.2]) ri ([x4.2.2.2] : List Int) F W Aa EM Z3 Aa Aa Aa Aa Aa Aa (Fl.int.repL _ _ ([x4.2.2.2] : List Int)) fun v4 a w F W => ?_
   obtain ⟨x5, h2, H⟩ := Ac H
   refine Di (r := ri) (i := 1) F W Aa EM Aa Aa Aa Aa (D1 W 0 Aa) h2 Aa fun v5 a w F W => ?_
   have W : sy Y w0 (V4 b1 x4) [row v5 3 ri x5, row v4 3 ri ([x4.2.2.2] : List Int)] w := W
   refine vl tk 2 F W fun a w F W => ?_
   refine Aw ?_
   refine vn tk 4 F W fun a w F W => ?_
   refine Ab ?_
   have W := W.sub (M' := []) (Z' := [row v5 3 ri x5]) nl (sc nl)
   exact ⟨_, H, (v5), F.ra Aa, W⟩
  refine AC ?_
  iterate 2 refine AR ?_
  refine AD (Ab ?_)
  have H := L2 _ H
  exact ⟨_, (v3), H, F.ra Aa, W⟩
 rintro a w ⟨x1, v2, hj, F, W⟩
 have hj := Ay hj
 subst hj
 have H := K1
 refine vc tk 3 F W fun a w F W => ?_
 obtain ⟨x6, h3, H⟩ := Ac H
 refine A9 (Ml := []) (Zl := [row v2 3 ri x1]) (β := Value) (rv := fun x => x) (MM := fun x => []) (ZZ := fun x => [row x 3 ri x6]) F W aG Aa Aa (fun hL => Ms _ _ w (v2) x1 _ h3 hL) fun x a w F W => ?_
 obtain ⟨v6, rfl⟩ : ∃ y, y = x := ⟨x, rfl⟩
 have W : sy Y w0 [] [row v6 3 ri x6] w := W
 refine BQ tk 3 F W fun a w F W => ?_
 refine Ap ?_
 have H := Ay H
 subst H
 refine A1 (.inl Aa) F W Aa (Am F Aa) ?_
 exact ⟨(v6), Aa, W⟩
theorem Vq : type_of% Tryz.underlying68 := Tryz.underlying68
theorem Ug : type_of% Tryz.underlying70 := Tryz.underlying70
theorem aW : Has Tryz.prog 26 := Cv Tryz.func26
theorem bM : Bt Tryz.prog 70 [Jint 0, Jint 0, Jint 0] [(0, 1), (1, 1), (2, 1)] := ⟨⟨.agg #[Jint 0, Jint 0, Jint 0], by kernel_rfl, rfl⟩, ⟨_, Ug, fun w => by kernel_rfl⟩⟩
theorem Ze : (Tryz.prog.info? 70).bind (·.zero) = some (.agg #[Jint 0, Jint 0, Jint 0]) := by kernel_rfl
abbrev PJ : Rp (Int × Int × Int) := (Rp.pair ri (Rp.pair ri ri))
def cE (a : Int × Int × Int) : List Value := [Jint a.1, Jint a.2.1, Jint a.2.2]
theorem Y2 : Fl PJ cE := (Fl.pair Fl.int (Fl.pair Fl.int Fl.int))
theorem Ym : Et Tryz.prog 68 70 3 24 := Et.of Vq (by kernel_rfl) (by kernel_rfl) (by kernel_rfl) (by decide)
theorem Yr : Ty Tryz.prog 70 true 3 := ⟨by kernel_rfl, by kernel_rfl⟩
abbrev Si (a0 : Int × Int × Int) : List Value := [Jint a0.1, Jint a0.2.1, Jint a0.2.2]
def Fc (p0 : Int) (p1 : List (Int × Int × Int)) : Int → Option (Int ⊕ (Unit ⊕ Bool))
  | x1 => (if x1 < (p1.length : Int) then (ix p1 x1).bind fun x2 => (if (decide (x2.1 < 0) || (decide (p0 ≤ x2.1) || (decide (x2.2.1 < 0) || (decide (p0 ≤ x2.2.1) || (decide (x2.2.2 < (-1073741824)) || decide (1073741824 < x2.2.2)))))) = true then some (.inr (.inr false)) else some (.inl (An (x1 + 1)))) else some (.inr (.inl ())))
def I3 (p0 : Int) (p1 : List (Int × Int × Int)) : Option Bool := (if (decide (p0 < 0) || (decide (64 < p0) || decide (256 < (p1.length : Int)))) = true then some false else GT (Aq (Fc p0 p1) 0) fun _ => some true)
theorem Pq (Y : Nat → Prop) (w0 : World) (v1 : Value) (p0 : Int) (p1 : List (Int × Int × Int)) (r : Bool) (H : I3 p0 p1 = some r) (h_v1 : Sl w0 (NX []) PJ v1 p1) :
    ca_ 44 #[Jint p0, v1] w0 fun e w' => e = .returned (.bool r) ∧ Below w0.heap.size w0 w' := by
 refine enter Tryz.func44 Aa Tryz.ntmps44 Aa fun a F => ?_
 have W := Stw.start Y w0
 unfold I3 at H
 refine vc tk 6 F W fun a w F W => ?_
 refine As (fun a w => Fr 55 [] [(0, Jint p0), (1, v1), (4, .bool false), (17, .bool (decide (p0 < 0) || (decide (64 < p0) || decide (256 < (p1.length : Int)))))] a ∧ sy Y w0 [] [] w) ?_ ?_
 ·
  refine vc tk 4 F W fun a w F W => ?_
  rcases bxq (decide (p0 < 0)) with hb0 | hb0
  ·
   rw [hb0] at F
   refine vl tk 9 F W fun a w F W => ?_
   refine Ab ?_
   exact ⟨F.re ⟨rfl, Aa, Aa, (HA (by try rw [hb0]; all_goals simp only [Hw])), trivial⟩, W⟩
  rw [hb0] at F
  refine vl tk 4 F W fun a w F W => ?_
  rcases bxq (decide (64 < p0)) with hb1 | hb1
  ·
   rw [hb1] at F
   refine vl tk 5 F W fun a w F W => ?_
   refine Ab ?_
   exact ⟨F.re ⟨rfl, Aa, Aa, (HA (by try rw [hb1]; try rw [hb0]; all_goals simp only [Hw])), trivial⟩, W⟩
  rw [hb1] at F
  refine Gb F W (Ad F Aa Aa Aa Aa) Aa (Ao Aa) (Ai F Aa).q fun a w F W => ?_
  refine Gb F W (Ad F Aa Aa Aa Aa) Aa (Ao Aa) (BP (r := PJ) (l := p1) Vq Aa F Aa (Ae h_v1)).q fun a w F W => ?_
  refine vl tk 3 F W fun a w F W => ?_
  refine Ab ?_
  exact ⟨F.re ⟨rfl, Aa, Aa, (HA (by try rw [hb1]; try rw [hb0]; all_goals simp only [Hw])), trivial⟩, W⟩
 rintro a w ⟨F, W⟩
 refine CS F Aa H (fun F H => ?_) fun F H => ?_
 ·
  refine vc tk 5 F W fun a w F W => ?_
  refine Ap (AF ?_)
  have H := Ay H
  subst H
  refine A1 (.inl Aa) F W Aa (Am F Aa) ?_
  exact ⟨rfl, W.done⟩
 refine AE (Ab ?_)
 obtain ⟨o1, G1, K1, L1⟩ := Md H
 refine As (fun a w => some (Sum.inl ()) = some o1 ∧ Fr 55 [] [(4, .bool false)] a ∧ sy Y w0 [] [] w) ?_ ?_
 ·
  have H := G1
  refine vc tk 3 F W fun a w F W => ?_
  refine ls F W Aa (BP (r := PJ) (l := p1) Vq Aa F Aa (Ae h_v1)).q fun a w F W => ?_
  refine BQ tk 4 F W fun a w F W => ?_
  refine AN H (fun s a w => Fr 55 [] [(0, Jint p0), (4, .bool false), (18, v1), (19, Jint (p1.length : Int)), (20, Jint s)] a ∧ sy Y w0 [] [] w) ⟨F.ra Aa, W⟩ fun s o a w H L2 hR => ?_
  obtain ⟨x1, rfl⟩ : ∃ x, x = s := ⟨s, rfl⟩
  obtain ⟨F, W⟩ := hR
  have F : Fr 55 [] [(0, Jint p0), (4, .bool false), (18, v1), (19, Jint (p1.length : Int)), (20, Jint x1)] a := F
  have W : sy Y w0 [] [] w := W
  rw [Fc] at H
  refine vc tk 6 F W fun a w F W => ?_
  refine AW F Aa H (fun F H => ?_) fun F H => ?_
  ·
   refine FL tk 6 F W fun a w F W => ?_
   obtain ⟨x2, h1, H⟩ := Ac H
   refine ls F W Aa (Al (r := PJ) Ym F Aa Aa (Ae h_v1) h1).q fun a w F W => ?_
   refine ls F W Aa (Ag (y := Value.agg #[Jint x2.1, Jint x2.2.1, Jint x2.2.2]) (j := 0) (i := x1) F Aa Aa (Ae h_v1) h1 Y2.to Yr Aa).q fun a w F W => ?_
   refine B6 (cs := [Jint 0, Jint 0, Jint 0]) F W Aa Ze Aa fun b1 a w F W => ?_
   refine Ej 0 F W Aa Aa Aa Yr Aa Aa Aa fun w W => ?_
   refine BQ tk 2 F W fun a w F W => ?_
   refine As (fun a w => Fr 55 [] [(0, Jint p0), (4, .bool false), (18, v1), (19, Jint (p1.length : Int)), (20, Jint x1), (53, .bool (decide (x2.1 < 0) || (decide (p0 ≤ x2.1) || (decide (x2.2.1 < 0) || (decide (p0 ≤ x2.2.1) || (decide (x2.2.2 < (-1073741824)) || decide (1073741824 < x2.2.2)))))))] a ∧ sy Y w0 [(b1, [Jint x2.1, Jint x2.2.1, Jint x2.2.2])] [] w) ?_ ?_
   ·
    refine Jk tk 5 [0] F W (ai fun a w F W => ?_)
    rcases bxq (decide (x2.1 < 0)) with hb0 | hb0
    ·
     rw [hb0] at F
     refine vl tk 27 F W fun a w F W => ?_
     refine Ab ?_
     exact ⟨F.re ⟨rfl, Aa, Aa, Aa, Aa, (HA (by try rw [hb0]; all_goals simp only [Hw])), trivial⟩, W⟩
    rw [hb0] at F
    refine Kp tk 6 [0] F W (ai fun a w F W => ?_)
    rcases bxq (decide (p0 ≤ x2.1)) with hb1 | hb1
    ·
     rw [hb1] at F
     refine vl tk 21 F W fun a w F W => ?_
     refine Ab ?_
     exact ⟨F.re ⟨rfl, Aa, Aa, Aa, Aa, (HA (by try rw [hb1]; try rw [hb0]; all_goals simp only [Hw])), trivial⟩, W⟩
    rw [hb1] at F
    refine Kp tk 5 [0] F W (ai fun a w F W => ?_)
    rcases bxq (decide (x2.2.1 < 0)) with hb2 | hb2
    ·
     rw [hb2] at F
     refine vl tk 16 F W fun a w F W => ?_
     refine Ab ?_
     exact ⟨F.re ⟨rfl, Aa, Aa, Aa, Aa, (HA (by try rw [hb2]; try rw [hb1]; try rw [hb0]; all_goals simp only [Hw])), trivial⟩, W⟩
    rw [hb2] at F
    refine Kp tk 6 [0] F W (ai fun a w F W => ?_)
    rcases bxq (decide (p0 ≤ x2.2.1)) with hb3 | hb3
    ·
     rw [hb3] at F
     refine vl tk 10 F W fun a w F W => ?_
     refine Ab ?_
     exact ⟨F.re ⟨rfl, Aa, Aa, Aa, Aa, (HA (by try rw [hb3]; try rw [hb2]; try rw [hb1]; try rw [hb0]; all_goals simp only [Hw])), trivial⟩, W⟩
    rw [hb3] at F
    refine Kp tk 5 [0] F W (ai fun a w F W => ?_)
    rcases bxq (decide (x2.2.2 < (-1073741824))) with hb4 | hb4
    ·
     rw [hb4] at F
     refine vl tk 5 F W fun a w F W => ?_
     refine Ab ?_
     exact ⟨F.re ⟨rfl, Aa, Aa, Aa, Aa, (HA (by try rw [hb4]; try rw [hb3]; try rw [hb2]; try rw [hb1]; try rw [hb0]; all_goals simp only [Hw])), trivial⟩, W⟩
    rw [hb4] at F
    refine Kp tk 5 [0] F W (ai fun a w F W => ?_)
    refine Ab ?_
    exact ⟨F.re ⟨rfl, Aa, Aa, Aa, Aa, (HA (by try rw [hb4]; try rw [hb3]; try rw [hb2]; try rw [hb1]; try rw [hb0]; all_goals simp only [Hw])), trivial⟩, W⟩
   rintro a w ⟨F, W⟩
   refine CS F Aa H (fun F H => ?_) fun F H => ?_
   ·
    refine vc tk 5 F W fun a w F W => ?_
    refine Ap (AV ?_)
    iterate 2 refine AF ?_
    refine AV (AF ?_)
    have H := L2 _ H
    have H := L1 _ H
    have H := Ay H
    subst H
    refine A1 (.inl Aa) F W Aa (Am F Aa) ?_
    exact ⟨rfl, W.done⟩
   refine AE (Aw ?_)
   refine vn tk 4 F W fun a w F W => ?_
   refine Ab ?_
   have W := W.sub (M' := []) (Z' := []) nl sr
   exact ⟨_, H, F.ra Aa, W⟩
  refine AC ?_
  iterate 2 refine AR ?_
  refine AD (Ab ?_)
  have H := L2 _ H
  exact ⟨H, F.ra Aa, W⟩
 rintro a w ⟨hj, F, W⟩
 have H := K1 _ hj
 refine vc tk 5 F W fun a w F W => ?_
 refine Ap ?_
 have H := Ay H
 subst H
 refine A1 (.inl Aa) F W Aa (Am F Aa) ?_
 exact ⟨rfl, W.done⟩
theorem U8 : type_of% Tryz.underlying93 := Tryz.underlying93
theorem bX : Has Tryz.prog 44 := Cv Tryz.func44
theorem Ws : (Tryz.prog.info? 93).bind (·.zero) = some (.agg #[.slice none 0 0, .slice none 0 0, Jint 0]) := by kernel_rfl
theorem Xe : Bt Tryz.prog 93 [.slice none 0 0, .slice none 0 0, Jint 0] [(0, 1), (1, 1), (2, 1)] := ⟨⟨.agg #[.slice none 0 0, .slice none 0 0, Jint 0], by kernel_rfl, rfl⟩, ⟨_, U8, fun w => by kernel_rfl⟩⟩
theorem UL : Ty Tryz.prog 93 true 3 := ⟨by kernel_rfl, by kernel_rfl⟩
abbrev Oi  : List Value := [.slice none 0 0, .slice none 0 0, Jint 0]
abbrev Ls (a0 : Nat) (a1 : Value) (a2 : Value) (a3 : Nat) : List (Nat × List Value) := [(a0, [a1, a2, Jint (-1)]), (a3, [.slice none 0 0, .slice none 0 0, Jint 0])]
def Ds (p0 : Int) (p1 : List (Int × Int × Int)) (x6 : Int) : (Bool × Int × List Int × List Int) → Option ((Bool × Int × List Int × List Int) ⊕ ((Bool × List Int × List Int) ⊕ ((List Int × List Int) ⊕ ((Int × List Int × List Int) ⊕ (List Int × List Int × Int)))))
  | (x14, x15, x16, x17) => (if x15 < (p1.length : Int) then GT ((ix p1 x15).bind fun x21 => (ix x16 x21.1).bind fun x22 => (ix x16 x21.2.1).bind fun x23 => (if (An (x22 + x21.2.2)) ≤ x23 then some (.inl (x14, x16, x17)) else (ix x16 x21.2.1).bind fun x24 => (ix x17 x21.2.1).bind fun x25 => (if x6 = p0 then some (.inr (.inr (.inr (.inr (.inr ((Ah x16 x21.2.1 (An (x22 + x21.2.2))), (Ah x17 x21.2.1 x15), x21.2.1)))))) else some (.inl (true, (Ah x16 x21.2.1 (An (x22 + x21.2.2))), (Ah x17 x21.2.1 x15)))))) fun (x18, x19, x20) => some (.inl (x18, An (x15 + 1), x19, x20)) else some (.inr (.inl (x14, x16, x17))))
def Fk (p0 : Int) (p1 : List (Int × Int × Int)) : (Int × List Int × List Int) → Option ((Int × List Int × List Int) ⊕ (List Int × List Int × Int))
  | (x6, x7, x8) => GT (GT (Aq (Ds p0 p1 x6) (false, 0, x7, x8)) fun (x11, x12, x13) => (if (!x11) = true then some (.inr (.inr (x12, x13, (-1)))) else some (.inl (x12, x13)))) fun (x9, x10) => some (.inl (An (x6 + 1), x9, x10))
def I2 (p0 : Int) (p1 : List (Int × Int × Int)) : Option (List Int × List Int × Int) := (mk p0 (0 : Int)).bind fun x1 => (mk p0 (0 : Int)).bind fun x2 => (Aq (Fk p0 p1) (1, x1, x2)).bind fun (x3, x4, x5) => some (x3, x4, x5)
theorem PP (Y : Nat → Prop) (w0 : World) (v1 : Value) (p0 : Int) (p1 : List (Int × Int × Int)) (r : (List Int × List Int × Int)) (H : I2 p0 p1 = some r) (h_v1 : Sl w0 (NX []) PJ v1 p1) :
    ca_ 45 #[Jint p0, v1] w0 fun e w' => ∃ x : Value × Value, e = .returned (.agg #[x.1, x.2, Jint r.2.2]) ∧ sy Y w0 [] [row (x.1) 3 ri r.1, row (x.2) 3 ri r.2.1] w' := by
 refine enter Tryz.func45 Aa Tryz.ntmps45 Aa fun a F => ?_
 have W := Stw.start Y w0
 unfold I2 at H
 refine vc tk 2 F W fun a w F W => ?_
 refine B6 (cs := (Oi)) F W Aa Ws Aa fun b1 a w F W => ?_
 refine BQ tk 2 F W fun a w F W => ?_
 refine My (HH ?_)
 obtain ⟨x1, h1, H⟩ := Ac H
 obtain ⟨x2, h2, H⟩ := Ac H
 refine VM (fun a w => ∃ b2 : Nat, ∃ v2 : Value, ∃ v3 : Value, Fr 64 [] [(0, Jint p0), (1, v1), (4, pp b1), (5, pp b2), (11, Jint p0), (12, v2), (13, Jint p0), (14, v3), (15, .agg #[v2, v3, Jint (-1)])] a ∧ sy Y w0 (Ls b2 v2 v3 b1) [row v3 3 ri x2, row v2 3 ri x1] w) ?_ ?_
 ·
  refine UD (PT.st 0 (PT.st 2 (PT.alt 1 (PT.alt 3 (PT.st 4 (PT.alt 5 (PT.alt 6 PT.done PT.stop) PT.stop)) (PT.alt 5 (PT.alt 3 (PT.st 4 (PT.alt 6 PT.done PT.stop)) PT.stop) PT.stop)) (PT.alt 3 (PT.alt 1 (PT.st 4 (PT.alt 5 (PT.alt 6 PT.done PT.stop) PT.stop)) (PT.alt 5 (PT.alt 1 (PT.st 4 (PT.alt 6 PT.done PT.stop)) PT.stop) PT.stop)) (PT.alt 5 (PT.alt 1 (PT.alt 3 (PT.st 4 (PT.alt 6 PT.done PT.stop)) PT.stop) (PT.alt 3 (PT.alt 1 (PT.st 4 (PT.alt 6 PT.done PT.stop)) PT.stop) PT.stop)) PT.stop))))) (CN ⟨Y, [], w0⟩ [] []) (fun ch a d v w h => by cases d <;> exact h) MO (by kernel_rfl) W (fun w W => ⟨_, _, W, Ak, Ak⟩) fun w W => ?_
  iterate 2 refine RB (R := []) F Aa Aa (yC fun M Z hN hZ => Ai F Aa) Aa Aa fun a F => ?_
  refine OI Aa ?_ ?_
  ·
   refine IX (r := ri) (0 : Int) F W Aa EM Z3 Aa Aa (fun w A => Fl.int.mk' w A _) h1 Aa fun v2 a w F W => ?_
   refine Eb (N2 := []) (NZ2 := []) (N3 := []) (NZ3 := []) W Aa Aa Ak Ak ?_
   refine OI Aa ?_ ?_
   ·
    refine IX (r := ri) (0 : Int) F W Aa EM Z3 Aa Aa (fun w A => Fl.int.mk' w A _) h2 Aa fun v3 a w F W => ?_
    refine Eb (N2 := []) (NZ2 := []) (N3 := []) (NZ3 := []) W Aa Aa Ak Ak ?_
    refine RB (R := []) F Aa Aa (yC fun M Z hN hZ => B9 (v := Value.agg #[v2, v3, Jint (-1)]) Xe F Aa (Bb Aa (BK (W.one (k := 1) Aa)) Aa (Bb Aa (BK (W.one (k := 0) Aa)) Aa (Bb Aa Aa Aa Ev))) Aa) Aa Aa fun a F => ?_
    refine Ks Aa ?_
    refine B6 (cs := (Oi)) F W Aa Ws Aa fun b2 a w F W => ?_
    refine Eb (N2 := []) (NZ2 := []) (N3 := []) (NZ3 := []) W Aa Aa Ak Ak ?_
    refine Ks Aa ?_
    refine Ej 0 F W Aa Aa Aa UL Aa Aa (AB (W.one (k := 1) Aa) (AB (W.one (k := 0) Aa) (AB Aa Ez))) fun w W => ?_
    refine Eb (N2 := []) (NZ2 := []) (N3 := []) (NZ3 := []) W Aa Aa Ak Ak ?_
    have W := W.frontZ (i := 1) Aa Aa
    have W := W.frontZ (i := 1) Aa Aa
    have W := W.frontM (i := 1) Aa Aa
    have W := W.frontM (i := 1) Aa Aa
    refine MF ?_
    exact ⟨b2, v2, v3, F.ra Aa, W⟩
   refine OI Aa ?_ ?_
   ·
    refine B6 (cs := (Oi)) F W Aa Ws Aa fun b2 a w F W => ?_
    refine Eb (N2 := []) (NZ2 := []) (N3 := []) (NZ3 := []) W Aa Aa Ak Ak ?_
    refine Ks Aa ?_
    refine IX (r := ri) (0 : Int) F W Aa EM Z3 Aa Aa (fun w A => Fl.int.mk' w A _) h2 Aa fun v3 a w F W => ?_
    refine Eb (N2 := []) (NZ2 := []) (N3 := []) (NZ3 := []) W Aa Aa Ak Ak ?_
    refine RB (R := []) F Aa Aa (yC fun M Z hN hZ => B9 (v := Value.agg #[v2, v3, Jint (-1)]) Xe F Aa (Bb Aa (BK (W.one (k := 1) Aa)) Aa (Bb Aa (BK (W.one (k := 0) Aa)) Aa (Bb Aa Aa Aa Ev))) Aa) Aa Aa fun a F => ?_
    refine Ks Aa ?_
    refine Ej 0 F W Aa Aa Aa UL Aa Aa (AB (W.one (k := 1) Aa) (AB (W.one (k := 0) Aa) (AB Aa Ez))) fun w W => ?_
    refine Eb (N2 := []) (NZ2 := []) (N3 := []) (NZ3 := []) W Aa Aa Ak Ak ?_
    have W := W.frontZ (i := 1) Aa Aa
    have W := W.frontZ (i := 1) Aa Aa
    have W := W.frontM (i := 1) Aa Aa
    have W := W.frontM (i := 1) Aa Aa
    refine MF ?_
    exact ⟨b2, v2, v3, F.ra Aa, W⟩
   exact trivial
  refine OI Aa ?_ ?_
  ·
   refine IX (r := ri) (0 : Int) F W Aa EM Z3 Aa Aa (fun w A => Fl.int.mk' w A _) h2 Aa fun v3 a w F W => ?_
   refine Eb (N2 := []) (NZ2 := []) (N3 := []) (NZ3 := []) W Aa Aa Ak Ak ?_
   refine OI Aa ?_ ?_
   ·
    refine IX (r := ri) (0 : Int) F W Aa EM Z3 Aa Aa (fun w A => Fl.int.mk' w A _) h1 Aa fun v2 a w F W => ?_
    refine Eb (N2 := []) (NZ2 := []) (N3 := []) (NZ3 := []) W Aa Aa Ak Ak ?_
    refine RB (R := []) F Aa Aa (yC fun M Z hN hZ => B9 (v := Value.agg #[v2, v3, Jint (-1)]) Xe F Aa (Bb Aa (BK (W.one (k := 0) Aa)) Aa (Bb Aa (BK (W.one (k := 1) Aa)) Aa (Bb Aa Aa Aa Ev))) Aa) Aa Aa fun a F => ?_
    refine Ks Aa ?_
    refine B6 (cs := (Oi)) F W Aa Ws Aa fun b2 a w F W => ?_
    refine Eb (N2 := []) (NZ2 := []) (N3 := []) (NZ3 := []) W Aa Aa Ak Ak ?_
    refine Ks Aa ?_
    refine Ej 0 F W Aa Aa Aa UL Aa Aa (AB (W.one (k := 0) Aa) (AB (W.one (k := 1) Aa) (AB Aa Ez))) fun w W => ?_
    refine Eb (N2 := []) (NZ2 := []) (N3 := []) (NZ3 := []) W Aa Aa Ak Ak ?_
    have W := W.frontZ (i := 1) Aa Aa
    have W := W.frontM (i := 1) Aa Aa
    have W := W.frontM (i := 1) Aa Aa
    refine MF ?_
    exact ⟨b2, v2, v3, F.ra Aa, W⟩
   refine OI Aa ?_ ?_
   ·
    refine B6 (cs := (Oi)) F W Aa Ws Aa fun b2 a w F W => ?_
    refine Eb (N2 := []) (NZ2 := []) (N3 := []) (NZ3 := []) W Aa Aa Ak Ak ?_
    refine Ks Aa ?_
    refine IX (r := ri) (0 : Int) F W Aa EM Z3 Aa Aa (fun w A => Fl.int.mk' w A _) h1 Aa fun v2 a w F W => ?_
    refine Eb (N2 := []) (NZ2 := []) (N3 := []) (NZ3 := []) W Aa Aa Ak Ak ?_
    refine RB (R := []) F Aa Aa (yC fun M Z hN hZ => B9 (v := Value.agg #[v2, v3, Jint (-1)]) Xe F Aa (Bb Aa (BK (W.one (k := 0) Aa)) Aa (Bb Aa (BK (W.one (k := 1) Aa)) Aa (Bb Aa Aa Aa Ev))) Aa) Aa Aa fun a F => ?_
    refine Ks Aa ?_
    refine Ej 0 F W Aa Aa Aa UL Aa Aa (AB (W.one (k := 0) Aa) (AB (W.one (k := 1) Aa) (AB Aa Ez))) fun w W => ?_
    refine Eb (N2 := []) (NZ2 := []) (N3 := []) (NZ3 := []) W Aa Aa Ak Ak ?_
    have W := W.frontZ (i := 1) Aa Aa
    have W := W.frontM (i := 1) Aa Aa
    have W := W.frontM (i := 1) Aa Aa
    refine MF ?_
    exact ⟨b2, v2, v3, F.ra Aa, W⟩
   exact trivial
  refine OI Aa ?_ ?_
  ·
   refine B6 (cs := (Oi)) F W Aa Ws Aa fun b2 a w F W => ?_
   refine Eb (N2 := []) (NZ2 := []) (N3 := []) (NZ3 := []) W Aa Aa Ak Ak ?_
   refine OI Aa ?_ ?_
   ·
    refine IX (r := ri) (0 : Int) F W Aa EM Z3 Aa Aa (fun w A => Fl.int.mk' w A _) h1 Aa fun v2 a w F W => ?_
    refine Eb (N2 := []) (NZ2 := []) (N3 := []) (NZ3 := []) W Aa Aa Ak Ak ?_
    refine Ks Aa ?_
    refine IX (r := ri) (0 : Int) F W Aa EM Z3 Aa Aa (fun w A => Fl.int.mk' w A _) h2 Aa fun v3 a w F W => ?_
    refine Eb (N2 := []) (NZ2 := []) (N3 := []) (NZ3 := []) W Aa Aa Ak Ak ?_
    refine RB (R := []) F Aa Aa (yC fun M Z hN hZ => B9 (v := Value.agg #[v2, v3, Jint (-1)]) Xe F Aa (Bb Aa (BK (W.one (k := 1) Aa)) Aa (Bb Aa (BK (W.one (k := 0) Aa)) Aa (Bb Aa Aa Aa Ev))) Aa) Aa Aa fun a F => ?_
    refine Ks Aa ?_
    refine Ej 0 F W Aa Aa Aa UL Aa Aa (AB (W.one (k := 1) Aa) (AB (W.one (k := 0) Aa) (AB Aa Ez))) fun w W => ?_
    refine Eb (N2 := []) (NZ2 := []) (N3 := []) (NZ3 := []) W Aa Aa Ak Ak ?_
    have W := W.frontZ (i := 1) Aa Aa
    have W := W.frontZ (i := 1) Aa Aa
    have W := W.frontM (i := 1) Aa Aa
    have W := W.frontM (i := 1) Aa Aa
    refine MF ?_
    exact ⟨b2, v2, v3, F.ra Aa, W⟩
   refine OI Aa ?_ ?_
   ·
    refine IX (r := ri) (0 : Int) F W Aa EM Z3 Aa Aa (fun w A => Fl.int.mk' w A _) h2 Aa fun v3 a w F W => ?_
    refine Eb (N2 := []) (NZ2 := []) (N3 := []) (NZ3 := []) W Aa Aa Ak Ak ?_
    refine Ks Aa ?_
    refine IX (r := ri) (0 : Int) F W Aa EM Z3 Aa Aa (fun w A => Fl.int.mk' w A _) h1 Aa fun v2 a w F W => ?_
    refine Eb (N2 := []) (NZ2 := []) (N3 := []) (NZ3 := []) W Aa Aa Ak Ak ?_
    refine RB (R := []) F Aa Aa (yC fun M Z hN hZ => B9 (v := Value.agg #[v2, v3, Jint (-1)]) Xe F Aa (Bb Aa (BK (W.one (k := 0) Aa)) Aa (Bb Aa (BK (W.one (k := 1) Aa)) Aa (Bb Aa Aa Aa Ev))) Aa) Aa Aa fun a F => ?_
    refine Ks Aa ?_
    refine Ej 0 F W Aa Aa Aa UL Aa Aa (AB (W.one (k := 0) Aa) (AB (W.one (k := 1) Aa) (AB Aa Ez))) fun w W => ?_
    refine Eb (N2 := []) (NZ2 := []) (N3 := []) (NZ3 := []) W Aa Aa Ak Ak ?_
    have W := W.frontZ (i := 1) Aa Aa
    have W := W.frontM (i := 1) Aa Aa
    have W := W.frontM (i := 1) Aa Aa
    refine MF ?_
    exact ⟨b2, v2, v3, F.ra Aa, W⟩
   exact trivial
  exact trivial
 rintro a w ⟨b2, v2, v3, F, W⟩
 refine vn tk 3 F W fun a w F W => ?_
 obtain ⟨o1, G1, K1⟩ := Ac H
 refine As (fun a w => ∃ x3 : List Int, ∃ x4 : List Int, ∃ x5 : Int, some ((x3, x4, x5)) = some o1 ∧ Fr 64 [] [(4, pp b1), (5, pp b2)] a ∧ sy Y w0 [(b2, [v2, v3, Jint x5]), (b1, [.slice none 0 0, .slice none 0 0, Jint 0])] [row v2 3 ri x3, row v3 3 ri x4] w) ?_ ?_
 ·
  have H := G1
  refine vc tk 6 F W fun a w F W => ?_
  have W := W.frontZ (i := 1) Aa Aa
  have W := W.frontM (i := 1) Aa Aa
  have W := W.frontM (i := 1) Aa Aa
  refine AN H (fun s a w => Fr 64 [] [(0, Jint p0), (1, v1), (4, pp b1), (5, pp b2), (6, Jint s.1)] a ∧ sy Y w0 (Ls b2 v2 v3 b1) [row v2 3 ri s.2.1, row v3 3 ri s.2.2] w) ⟨F.ra Aa, W⟩ fun s o a w H L2 hR => ?_
  obtain ⟨x6, x7, x8⟩ := s
  obtain ⟨F, W⟩ := hR
  have F : Fr 64 [] [(0, Jint p0), (1, v1), (4, pp b1), (5, pp b2), (6, Jint x6)] a := F
  have W : sy Y w0 (Ls b2 v2 v3 b1) [row v2 3 ri x7, row v3 3 ri x8] w := W
  rw [Fk] at H
  obtain ⟨o3, G3, K3, L3⟩ := Md H
  refine As (fun a w => ∃ x9 : List Int, ∃ x10 : List Int, some (Sum.inl (x9, x10)) = some o3 ∧ Fr 64 [] [(0, Jint p0), (1, v1), (4, pp b1), (5, pp b2), (6, Jint x6)] a ∧ sy Y w0 (Ls b2 v2 v3 b1) [row v2 3 ri x9, row v3 3 ri x10] w) ?_ ?_
  ·
   have H := G3
   refine vc tk 6 F W fun a w F W => ?_
   obtain ⟨o4, G4, K4, L4⟩ := Md H
   refine As (fun a w => ∃ x11 : Bool, ∃ x12 : List Int, ∃ x13 : List Int, some (Sum.inl (x11, x12, x13)) = some o4 ∧ Fr 64 [] [(0, Jint p0), (1, v1), (4, pp b1), (5, pp b2), (6, Jint x6), (7, .bool x11)] a ∧ sy Y w0 (Ls b2 v2 v3 b1) [row v2 3 ri x12, row v3 3 ri x13] w) ?_ ?_
   ·
    have H := G4
    refine vc tk 3 F W fun a w F W => ?_
    refine ls F W Aa (BP (r := PJ) (l := p1) Vq Aa F Aa (Ae h_v1)).q fun a w F W => ?_
    refine BQ tk 4 F W fun a w F W => ?_
    have W := W.frontZ (i := 1) Aa Aa
    have W := W.frontZ (i := 1) Aa Aa
    have W := W.frontM (i := 1) Aa Aa
    have W := W.frontM (i := 1) Aa Aa
    refine AN H (fun s a w => Fr 64 [] [(0, Jint p0), (1, v1), (4, pp b1), (5, pp b2), (6, Jint x6), (7, .bool s.1), (18, v1), (19, Jint (p1.length : Int)), (20, Jint s.2.1)] a ∧ sy Y w0 (Ls b2 v2 v3 b1) [row v2 3 ri s.2.2.1, row v3 3 ri s.2.2.2] w) ⟨F.ra Aa, W⟩ fun s o a w H L5 hR => ?_
    obtain ⟨x14, x15, x16, x17⟩ := s
    obtain ⟨F, W⟩ := hR
    have F : Fr 64 [] [(0, Jint p0), (1, v1), (4, pp b1), (5, pp b2), (6, Jint x6), (7, .bool x14), (18, v1), (19, Jint (p1.length : Int)), (20, Jint x15)] a := F
    have W : sy Y w0 (Ls b2 v2 v3 b1) [row v2 3 ri x16, row v3 3 ri x17] w := W
    rw [Ds] at H
    refine vc tk 6 F W fun a w F W => ?_
    refine AW F Aa H (fun F H => ?_) fun F H => ?_
    ·
     refine AE (Ab ?_)
     obtain ⟨o6, G6, K6, L6⟩ := Md H
     refine As (fun a w => ∃ x18 : Bool, ∃ x19 : List Int, ∃ x20 : List Int, some (Sum.inl (x18, x19, x20)) = some o6 ∧ Fr 64 [] [(0, Jint p0), (1, v1), (4, pp b1), (5, pp b2), (6, Jint x6), (7, .bool x18), (18, v1), (19, Jint (p1.length : Int)), (20, Jint x15)] a ∧ sy Y w0 (Ls b2 v2 v3 b1) [row v2 3 ri x19, row v3 3 ri x20] w) ?_ ?_
     ·
      have H := G6
      refine vc tk 4 F W fun a w F W => ?_
      obtain ⟨x21, h3, H⟩ := Ac H
      refine ls F W Aa (Al (r := PJ) Ym F Aa Aa (Ae h_v1) h3).q fun a w F W => ?_
      refine ls F W Aa (Ag (y := Value.agg #[Jint x21.1, Jint x21.2.1, Jint x21.2.2]) (j := 0) (i := x15) F Aa Aa (Ae h_v1) h3 Y2.to Yr Aa).q fun a w F W => ?_
      refine B6 (cs := [Jint 0, Jint 0, Jint 0]) F W Aa Ze Aa fun b3 a w F W => ?_
      refine ls F W Aa (Dr F Aa).q fun a w F W => ?_
      refine Ej 0 F W Aa Aa Aa Yr Aa Aa Aa fun w W => ?_
      refine BQ tk 3 F W fun a w F W => ?_
      refine Bz W MO (by kernel_rfl) ?_
      refine qs F Aa (Ax U8 Aa Aa Aa NJ F Aa 0 Aa).q fun a F => ?_
      refine qs F Aa (Bx (v := v2) 1 F Aa Aa NJ Aa).q fun a F => ?_
      refine qs F Aa (Ax Ug Aa Aa Aa T3 F Aa 0 Aa).q fun a F => ?_
      refine qs F Aa (Bx (v := Jint x21.1) 0 F Aa Aa T3 Aa).q fun a F => ?_
      obtain ⟨x22, h4, H⟩ := Ac H
      refine qs F Aa (Al (r := ri) EM F Aa Aa (Af 0 Aa) h4).q fun a F => ?_
      refine qs F Aa (Ag (y := Jint x22) (j := 0) (i := x21.1) F Aa Aa (Af 0 Aa) h4 Fl.int.to T3 Aa).q fun a F => ?_
      refine qs F Aa (Ax Ug Aa Aa Aa T3 F Aa 2 Aa).q fun a F => ?_
      refine qs F Aa (Bx (v := Jint x21.2.2) 0 F Aa Aa T3 Aa).q fun a F => ?_
      refine qs F Aa (Iy F Aa Aa Aa).q fun a F => ?_
      refine qs F Aa (Dr F Aa).q fun a F => ?_
      refine AA fun w W => ?_
      refine ZA tk 7 [1, 0] F W (ai (ai fun a w F W => ?_))
      obtain ⟨x23, h5, H⟩ := Ac H
      refine ls F W Aa (Al (r := ri) EM F Aa Aa (Af 0 Aa) h5).q fun a w F W => ?_
      refine ls F W Aa (Ag (y := Jint x23) (j := 0) (i := x21.2.1) F Aa Aa (Af 0 Aa) h5 Fl.int.to T3 Aa).q fun a w F W => ?_
      refine BQ tk 4 F W fun a w F W => ?_
      refine AW F Aa H (fun F H => ?_) fun F H => ?_
      ·
       refine AC (AR (AD (Ab ?_)))
       have W := W.frontZ (i := 1) Aa Aa
       have W := W.frontZ (i := 1) Aa Aa
       have W := W.frontM (i := 2) Aa Aa
       have W := W.frontM (i := 2) Aa Aa
       have W := W.sub (M' := (Ls b2 v2 v3 b1)) (Z' := [row v2 3 ri x16, row v3 3 ri x17]) (sc (sc nl)) sr
       exact ⟨_, _, _, H, F.ra Aa, W⟩
      refine FL tk 3 F W fun a w F W => ?_
      refine ER [(true, 0), (true, 1), (true, 2), (true, 3), (true, 4), (true, 5), (true, 6), (true, 7), (true, 8), (true, 9), (true, 10), (false, 11), (true, 12), (false, 13)] (CN ⟨Y, [], w0⟩ [(some 11, b2, [v2, v3, Jint (-1)]), (some 11, b3, [Jint x21.1, Jint x21.2.1, Jint x21.2.2]), (some 13, b2, [v2, v3, Jint (-1)]), (some 13, b3, [Jint x21.1, Jint x21.2.1, Jint x21.2.2])] []) (fun ch a d v w h => by cases d <;> exact h) MO (by kernel_rfl) W (fun w W => ⟨_, _, W, (all_cons (fun _ => (.tail _ (.head _))) (all_cons (fun _ => (.head _)) (all_cons (fun _ => (.tail _ (.head _))) (all_cons (fun _ => (.head _)) Ak)))), Ak⟩) fun w W => ?_
      refine A6 (R := []) F Aa Aa (yC fun M Z hN hZ => Ax U8 Aa Aa Aa NJ F Aa 0 Aa) Aa Aa fun a F => ?_
      refine A6 (R := [11]) F Aa Aa (yC fun M Z hN hZ => FI (cs := [v2, v3, Jint (-1)]) (v := v2) F Aa (hN ((some 11), b2, [v2, v3, Jint (-1)]) (.head _) Aa) NJ Aa) (by kernel_rfl) Aa fun a F => ?_
      refine A6 (R := []) F Aa Aa (yC fun M Z hN hZ => Ax Ug Aa Aa Aa T3 F Aa 1 Aa) Aa Aa fun a F => ?_
      refine A6 (R := [11]) F Aa Aa (yC fun M Z hN hZ => FI (cs := (Si x21)) (v := Jint x21.2.1) F Aa (hN ((some 11), b3, (Si x21)) (.tail _ (.head _)) Aa) T3 Aa) (by kernel_rfl) Aa fun a F => ?_
      refine A6 (R := []) F Aa Aa (yC fun M Z hN hZ => Ax U8 Aa Aa Aa NJ F Aa 1 Aa) Aa Aa fun a F => ?_
      refine A6 (R := [13]) F Aa Aa (yC fun M Z hN hZ => FI (cs := [v2, v3, Jint (-1)]) (v := v3) F Aa (hN ((some 13), b2, [v2, v3, Jint (-1)]) (.tail _ (.tail _ (.head _))) Aa) NJ Aa) (by kernel_rfl) Aa fun a F => ?_
      refine A6 (R := []) F Aa Aa (yC fun M Z hN hZ => Ax Ug Aa Aa Aa T3 F Aa 1 Aa) Aa Aa fun a F => ?_
      refine A6 (R := [13]) F Aa Aa (yC fun M Z hN hZ => FI (cs := (Si x21)) (v := Jint x21.2.1) F Aa (hN ((some 13), b3, (Si x21)) (.tail _ (.tail _ (.tail _ (.head _)))) Aa) T3 Aa) (by kernel_rfl) Aa fun a F => ?_
      iterate 2 refine A6 (R := []) F Aa Aa (yC fun M Z hN hZ => Ai F Aa) Aa Aa fun a F => ?_
      obtain ⟨x24, h6, H⟩ := Ac H
      refine A6 (R := []) F Aa Aa (yC fun M Z hN hZ => Ba (r := ri) EM F Aa Aa (C2 W (Af 0 Aa)) h6) Aa Aa fun a F => ?_
      refine F1 Aa ?_
      refine A0 (i := x21.2.1) (j := 0) (vs := [Jint (An (x22 + x21.2.2))]) (x' := An (x22 + x21.2.2)) F W Aa Aa Aa (k := 0) Aa Aa h6 T3 Aa Aa Aa Aa (fun A cs _ => Fl.int.sto (by rfl) _ _ _) fun w W => ?_
      refine Cn (N2 := []) (NZ2 := []) (N3 := [(some 11, b2, [v2, v3, Jint (-1)]), (some 11, b3, [Jint x21.1, Jint x21.2.1, Jint x21.2.2]), (some 13, b2, [v2, v3, Jint (-1)]), (some 13, b3, [Jint x21.1, Jint x21.2.1, Jint x21.2.2])]) (NZ3 := []) W Aa Aa (all_cons (fun h => AH (by kernel_rfl) h) (all_cons (fun h => AH (by kernel_rfl) h) (all_cons (fun _ => (.tail _ (.head _))) (all_cons (fun _ => (.head _)) Ak)))) Ak ?_
      obtain ⟨x25, h7, H⟩ := Ac H
      refine A6 (R := []) F Aa Aa (yC fun M Z hN hZ => Ba (r := ri) EM F Aa Aa (C2 W (Af 1 Aa)) h7) Aa Aa fun a F => ?_
      refine F1 Aa ?_
      refine A0 (i := x21.2.1) (j := 0) (vs := [Jint x15]) (x' := x15) F W Aa Aa Aa (k := 1) Aa Aa h7 T3 Aa Aa Aa Aa (fun A cs _ => Fl.int.sto (by rfl) _ _ _) fun w W => ?_
      refine Cn (N2 := []) (NZ2 := []) (N3 := [(some 11, b2, [v2, v3, Jint (-1)]), (some 11, b3, [Jint x21.1, Jint x21.2.1, Jint x21.2.2]), (some 13, b2, [v2, v3, Jint (-1)]), (some 13, b3, [Jint x21.1, Jint x21.2.1, Jint x21.2.2])]) (NZ3 := []) W Aa Aa (all_cons (fun h => AH (by kernel_rfl) h) (all_cons (fun h => AH (by kernel_rfl) h) (all_cons (fun h => AH (by kernel_rfl) h) (all_cons (fun h => AH (by kernel_rfl) h) Ak)))) Ak ?_
      refine Hd ?_
      refine vn tk 12 F W fun a w F W => ?_
      refine AW F Aa H (fun F H => ?_) fun F H => ?_
      ·
       refine Jk tk 5 [0] F W (ai fun a w F W => ?_)
       refine Ej 1 F W Aa Aa Aa T3 Aa Aa Aa fun w W => ?_
       refine BQ tk 2 F W fun a w F W => ?_
       refine AC ?_
       refine Im Aa ?_
       iterate 2 refine AR ?_
       refine Im Aa ?_
       refine AR ?_
       refine Im Aa ?_
       iterate 2 refine AR ?_
       refine AD (Ab ?_)
       have W := W.frontZ (i := 1) Aa Aa
       have W := W.frontM (i := 2) Aa Aa
       have W := W.frontM (i := 2) Aa Aa
       have W := W.sub (M' := [(b2, [v2, v3, Jint x21.2.1]), (b1, [.slice none 0 0, .slice none 0 0, Jint 0])]) (Z' := [row v2 3 ri (Ah x16 x21.2.1 (An (x22 + x21.2.2))), row v3 3 ri (Ah x17 x21.2.1 x15)]) (sc (sc nl)) sr
       have H := L6 _ H
       have H := L5 _ H
       have H := L4 _ H
       have H := L3 _ H
       have H := L2 _ H
       exact ⟨_, _, _, H, F.ra Aa, W⟩
      refine AE (Aw (Ab ?_))
      have W := W.frontZ (i := 1) Aa Aa
      have W := W.frontM (i := 2) Aa Aa
      have W := W.frontM (i := 2) Aa Aa
      have W := W.sub (M' := (Ls b2 v2 v3 b1)) (Z' := [row v2 3 ri (Ah x16 x21.2.1 (An (x22 + x21.2.2))), row v3 3 ri (Ah x17 x21.2.1 x15)]) (sc (sc nl)) sr
      exact ⟨_, _, _, H, F.ra Aa, W⟩
     rintro a w ⟨x18, x19, x20, hj, F, W⟩
     have H := K6 _ hj
     refine vc tk 4 F W fun a w F W => ?_
     refine Ab ?_
     have W := W.frontZ (i := 1) Aa Aa
     have W := W.frontZ (i := 1) Aa Aa
     have W := W.frontM (i := 1) Aa Aa
     have W := W.frontM (i := 1) Aa Aa
     exact ⟨_, H, F.ra Aa, W⟩
    refine AC ?_
    iterate 2 refine AR ?_
    refine AD (Ab ?_)
    have W := W.frontZ (i := 1) Aa Aa
    have W := W.frontZ (i := 1) Aa Aa
    have W := W.frontM (i := 1) Aa Aa
    have W := W.frontM (i := 1) Aa Aa
    have H := L5 _ H
    exact ⟨_, _, _, H, F.ra Aa, W⟩
   rintro a w ⟨x11, x12, x13, hj, F, W⟩
   have H := K4 _ hj
   refine vc tk 6 F W fun a w F W => ?_
   refine CS F Aa H (fun F H => ?_) fun F H => ?_
   ·
    refine AC ?_
    refine Im Aa ?_
    iterate 2 refine AR ?_
    refine AD (Ab ?_)
    have W := W.frontZ (i := 1) Aa Aa
    have W := W.frontZ (i := 1) Aa Aa
    have W := W.frontM (i := 1) Aa Aa
    have W := W.frontM (i := 1) Aa Aa
    have H := L3 _ H
    have H := L2 _ H
    exact ⟨_, _, _, H, F.ra Aa, W⟩
   refine AE (Aw (Ab ?_))
   have W := W.frontZ (i := 1) Aa Aa
   have W := W.frontZ (i := 1) Aa Aa
   have W := W.frontM (i := 1) Aa Aa
   have W := W.frontM (i := 1) Aa Aa
   exact ⟨_, _, H, F.ra Aa, W⟩
  rintro a w ⟨x9, x10, hj, F, W⟩
  have H := K3 _ hj
  refine vc tk 5 F W fun a w F W => ?_
  refine Ab ?_
  have W := W.frontZ (i := 1) Aa Aa
  have W := W.frontZ (i := 1) Aa Aa
  have W := W.frontM (i := 1) Aa Aa
  have W := W.frontM (i := 1) Aa Aa
  exact ⟨_, H, F.ra Aa, W⟩
 rintro a w ⟨x3, x4, x5, hj, F, W⟩
 have hj := Ay hj
 subst hj
 have H := K1
 refine Jk tk 3 [0] F W (ai fun a w F W => ?_)
 refine Ej 1 F W Aa Aa Aa UL Aa Aa (AB (W.one (k := 0) Aa) (AB (W.one (k := 1) Aa) (AB Aa Ez))) fun w W => ?_
 refine BQ tk 2 F W fun a w F W => ?_
 refine Ap (YR ?_)
 have H := Ay H
 subst H
 refine A1 (.inl Aa) F W Aa (IC 1 F Aa Aa UL Aa) ?_
 have W := W.frontZ (i := 1) Aa Aa
 have W := W.frontZ (i := 1) Aa Aa
 have W := W.sub (M' := []) (Z' := [row v2 3 ri x3, row v3 3 ri x4]) nl sr
 exact ⟨((v2), (v3)), Aa, W⟩
theorem a9 : Has Tryz.prog 45 := Cv Tryz.func45
def GX (p0 : Int) (p1 : List (Int × Int × Int)) : Option (List Int × Bool) := (I3 p0 p1).bind fun x1 => (if (!x1) = true then some (([] : List Int), false) else (I2 p0 p1).bind fun x2 => (if 0 ≤ x2.2.2 then some (([] : List Int), false) else some (x2.1, true)))
theorem Nz (Y : Nat → Prop) (w0 : World) (v1 : Value) (p0 : Int) (p1 : List (Int × Int × Int)) (r : List Int × Bool) (H : GX p0 p1 = some r) (h_v1 : Sl w0 (NX []) PJ v1 p1) :
    ca_ 27 #[Jint p0, v1] w0 fun e w' => ∃ x : Value, e = .returned (.tuple #[x, .bool r.2]) ∧ sy Y w0 [] [row (x) 3 ri r.1] w' := by
 refine enter Tryz.func27 Aa Tryz.ntmps27 Aa fun a F => ?_
 have W := Stw.start Y w0
 unfold GX at H
 refine vc tk 11 F W fun a w F W => ?_
 obtain ⟨x1, h1, H⟩ := Ac H
 refine ls F W Aa (Bc (v := Value.bool x1) F bX Aa (fun w W => Pq any w (v1) p0 p1 _ h1 (EJ (Ae h_v1) W))) fun a w F W => ?_
 refine BQ tk 3 F W fun a w F W => ?_
 refine CS F Aa H (fun F H => ?_) fun F H => ?_
 ·
  refine vc tk 6 F W fun a w F W => ?_
  refine Ap (AF ?_)
  have H := Ay H
  subst H
  refine FD (.inl Aa) F W Aa (Am F Aa) (Am F Aa) ?_
  have W := W.nilRow 3 ri
  exact ⟨(Value.slice none 0 0), Aa, W⟩
 refine FL tk 6 F W fun a w F W => ?_
 obtain ⟨x2, h2, H⟩ := Ac H
 refine A9 (Ml := []) (Zl := []) (β := Value × Value) (rv := fun x => .agg #[x.1, x.2, Jint x2.2.2]) (MM := fun x => []) (ZZ := fun x => [row x.1 3 ri x2.1, row x.2 3 ri x2.2.1]) F W a9 Aa Aa (fun hL => PP _ w (v1) p0 p1 _ h2 ((Ae h_v1) w W).nx) fun x a w F W => ?_
 obtain ⟨v2, v3⟩ := x
 have W : sy Y w0 [] [row v2 3 ri x2.1, row v3 3 ri x2.2.1] w := W
 refine B6 (cs := (Oi)) F W Aa Ws Aa fun b1 a w F W => ?_
 refine Ej 0 F W Aa Aa Aa UL Aa Aa (AB (W.one (k := 0) Aa) (AB (W.one (k := 1) Aa) (AB Aa Ez))) fun w W => ?_
 refine Ii tk 10 [0] F W (ai fun a w F W => ?_)
 refine AW F Aa H (fun F H => ?_) fun F H => ?_
 ·
  refine vc tk 6 F W fun a w F W => ?_
  refine Ap (AF ?_)
  have H := Ay H
  subst H
  refine FD (.inl Aa) F W Aa (Am F Aa) (Am F Aa) ?_
  have W := W.nilRow 3 ri
  have W := W.sub (M' := []) (Z' := [row (Value.slice none 0 0) 3 ri ([])]) nl (sc nl)
  exact ⟨(Value.slice none 0 0), Aa, W⟩
 refine Lj tk 10 [0] F W (ai fun a w F W => ?_)
 refine Ap ?_
 have H := Ay H
 subst H
 refine FD (.inl Aa) F W Aa (Am F Aa) (Am F Aa) ?_
 have W := W.sub (M' := []) (Z' := [row v2 3 ri x2.1]) nl (sc nl)
 exact ⟨(v2), Aa, W⟩
theorem bZ : Has Tryz.prog 27 := Cv Tryz.func27
def D6 (p0 : List (Int × Int × Int × Int)) (p1 : Int) : (List Int × Int) → Option ((List Int × Int) ⊕ (List Int))
  | (x2, x3) => (if x3 < (p0.length : Int) then ((ix p0 x3).bind fun x5 => (if x5.2.2.2 = p1 then (HN x2 ([x5.1] : List Int)).bind fun x6 => some x6 else some x2)).bind fun x4 => some (.inl (x4, An (x3 + 1))) else some (.inr x2))
def GQ (p0 : List (Int × Int × Int × Int)) (p1 : Int) : Option (List Int) := (Aq (D6 p0 p1) ([], 0)).bind fun x1 => (DW x1).bind fun x7 => (Du x7).bind fun x8 => some x8
theorem NA (Y : Nat → Prop) (w0 : World) (v1 : Value) (p0 : List (Int × Int × Int × Int)) (p1 : Int) (r : List Int) (H : GQ p0 p1 = some r) (h_v1 : Sl w0 (NX []) AY v1 p0) :
    ca_ 28 #[v1, Jint p1] w0 fun e w' => ∃ x : Value, e = .returned (x) ∧ sy Y w0 [] [row (x) 3 ri r] w' := by
 refine enter Tryz.func28 Aa Tryz.ntmps28 Aa fun a F => ?_
 have W := Stw.start Y w0
 unfold GQ at H
 refine vc tk 10 F W fun a w F W => ?_
 obtain ⟨o1, G1, K1⟩ := Ac H
 refine As (fun a w => ∃ x1 : List Int, ∃ v2 : Value, some (x1) = some o1 ∧ Fr 28 [] [(4, .slice none 0 0), (5, v2)] a ∧ sy Y w0 [] [row v2 3 ri x1] w) ?_ ?_
 ·
  have H := G1
  refine vc tk 3 F W fun a w F W => ?_
  refine ls F W Aa (BP (r := AY) (l := p0) PR Aa F Aa (Ae h_v1)).q fun a w F W => ?_
  refine BQ tk 4 F W fun a w F W => ?_
  have W := W.nilRow 3 ri
  refine AN H (fun s a w => ∃ v3 : Value, Fr 28 [] [(1, Jint p1), (4, .slice none 0 0), (5, v3), (8, v1), (9, Jint (p0.length : Int)), (10, Jint s.2)] a ∧ sy Y w0 [] [row v3 3 ri s.1] w) ⟨(Value.slice none 0 0), F.ra Aa, W⟩ fun s o a w H L2 hR => ?_
  obtain ⟨x2, x3⟩ := s
  obtain ⟨v3, F, W⟩ := hR
  have F : Fr 28 [] [(1, Jint p1), (4, .slice none 0 0), (5, v3), (8, v1), (9, Jint (p0.length : Int)), (10, Jint x3)] a := F
  have W : sy Y w0 [] [row v3 3 ri x2] w := W
  rw [D6] at H
  refine vc tk 6 F W fun a w F W => ?_
  refine AW F Aa H (fun F H => ?_) fun F H => ?_
  ·
   refine AE (Ab ?_)
   obtain ⟨o3, G3, K3⟩ := Ac H
   refine As (fun a w => ∃ x4 : List Int, ∃ v4 : Value, some (x4) = some o3 ∧ Fr 28 [] [(1, Jint p1), (4, .slice none 0 0), (5, v4), (8, v1), (9, Jint (p0.length : Int)), (10, Jint x3)] a ∧ sy Y w0 [] [row v4 3 ri x4] w) ?_ ?_
   ·
    have H := G3
    refine vc tk 3 F W fun a w F W => ?_
    obtain ⟨x5, h1, H⟩ := Ac H
    refine ls F W Aa (Al (r := AY) Eu F Aa Aa (Ae h_v1) h1).q fun a w F W => ?_
    refine ls F W Aa (Ag (y := Value.agg #[Jint x5.1, Jint x5.2.1, Jint x5.2.2.1, Jint x5.2.2.2]) (j := 0) (i := x3) F Aa Aa (Ae h_v1) h1 EK.to Ey Aa).q fun a w F W => ?_
    refine B6 (cs := (Qb)) F W Aa Xf Aa fun b1 a w F W => ?_
    refine Ej 0 F W Aa Aa Aa Ey Aa Aa Aa fun w W => ?_
    refine Ii tk 10 [0] F W (ai fun a w F W => ?_)
    refine AW F Aa H (fun F H => ?_) fun F H => ?_
    ·
     refine Jk tk 4 [0] F W (ai fun a w F W => ?_)
     refine D7 (z := Jint 0) (cs := [Jint x5.1]) ri ([x5.1] : List Int) F W Aa EM Z3 Aa Aa Aa Aa Aa Aa (Fl.int.repL _ _ ([x5.1] : List Int)) fun v5 a w F W => ?_
     obtain ⟨x6, h2, H⟩ := Ac H
     refine Di (r := ri) (i := 1) F W Aa EM Aa Aa Aa Aa (D1 W 0 Aa) h2 Aa fun v6 a w F W => ?_
     have W : sy Y w0 (V4 b1 x5) [row v6 3 ri x6, row v5 3 ri ([x5.1] : List Int)] w := W
     refine vl tk 2 F W fun a w F W => ?_
     refine Aw (Ab ?_)
     have W := W.sub (M' := []) (Z' := [row v6 3 ri x6]) nl (sc nl)
     exact ⟨_, (v6), H, F.ra Aa, W⟩
    refine AE (Aw (Ab ?_))
    have W := W.sub (M' := []) (Z' := [row v3 3 ri x2]) nl sr
    exact ⟨_, (v3), H, F.ra Aa, W⟩
   rintro a w ⟨x4, v4, hj, F, W⟩
   have hj := Ay hj
   subst hj
   have H := K3
   refine vc tk 4 F W fun a w F W => ?_
   refine Ab ?_
   exact ⟨_, H, (v4), F.ra Aa, W⟩
  refine AC ?_
  iterate 2 refine AR ?_
  refine AD (Ab ?_)
  have H := L2 _ H
  exact ⟨_, (v3), H, F.ra Aa, W⟩
 rintro a w ⟨x1, v2, hj, F, W⟩
 have hj := Ay hj
 subst hj
 have H := K1
 refine vc tk 3 F W fun a w F W => ?_
 obtain ⟨x7, h3, H⟩ := Ac H
 refine A9 (Ml := []) (Zl := [row v2 3 ri x1]) (β := Unit) (rv := fun x => .tuple #[]) (MM := fun x => []) (ZZ := fun x => [row v2 3 ri x7]) F W ZG Aa Aa (fun hL => HP _ _ w (v2) x1 _ h3 hL) fun x a w F W => ?_
 have W : sy Y w0 [] [row v2 3 ri x7] w := W
 refine BQ tk 5 F W fun a w F W => ?_
 obtain ⟨x8, h4, H⟩ := Ac H
 refine A9 (Ml := []) (Zl := [row v2 3 ri x7]) (β := Value) (rv := fun x => x) (MM := fun x => []) (ZZ := fun x => [row x 3 ri x8]) F W Zy Aa Aa (fun hL => GY _ _ w (v2) x7 _ h4 hL) fun x a w F W => ?_
 obtain ⟨v7, rfl⟩ : ∃ y, y = x := ⟨x, rfl⟩
 have W : sy Y w0 [] [row v7 3 ri x8] w := W
 refine BQ tk 3 F W fun a w F W => ?_
 refine Ap ?_
 have H := Ay H
 subst H
 refine A1 (.inl Aa) F W Aa (Am F Aa) ?_
 exact ⟨(v7), Aa, W⟩
theorem Z7 : Has Tryz.prog 28 := Cv Tryz.func28
theorem ZP : Bt Tryz.prog 46 [Jint 0, Jint 0, .slice none 0 0] [(0, 1), (1, 1), (2, 1)] := ⟨⟨.agg #[Jint 0, Jint 0, .slice none 0 0], by kernel_rfl, rfl⟩, ⟨_, SU, fun w => by kernel_rfl⟩⟩
def FE (p2 : Int) (x1 : List Int) : ((List (Int × Int × Int)) × Int) → Option (((List (Int × Int × Int)) × Int) ⊕ (List (Int × Int × Int)))
  | (x3, x4) => (if x4 < (An ((x1.length : Int) - 1)) then (HN x3 ([(x4, An (x4 + 1), p2)] : List (Int × Int × Int))).bind fun x5 => some (.inl (x5, An (x4 + 1))) else some (.inr x3))
def Fs (p0 : List (Int × Int × Int × Int)) (p1 : Int) (x1 : List Int) (x6 : List Int × Bool) : ((List (Int × Int × List Int)) × Int) → Option (((List (Int × Int × List Int)) × Int) ⊕ (List (Int × Int × List Int)))
  | (x8, x9) => (if x9 < (x6.1.length : Int) then (ix x6.1 x9).bind fun x10 => (ix x1 x9).bind fun x11 => (ix x1 x9).bind fun x12 => (GQ p0 x12).bind fun x13 => (HN x8 ([(x11, An (p1 + x10), x13)] : List (Int × Int × List Int))).bind fun x14 => some (.inl (x14, An (x9 + 1))) else some (.inr x8))
def Ie (p0 : List (Int × Int × Int × Int)) (p1 : Int) (p2 : Int) : Option (List (Int × Int × List Int)) := (Hx p0).bind fun x1 => (Aq (FE p2 x1) ([], 0)).bind fun x2 => (GX (x1.length : Int) x2).bind fun x6 => (Aq (Fs p0 p1 x1 x6) ([], 0)).bind fun x7 => some x7
theorem OK (Y : Nat → Prop) (w0 : World) (v1 : Value) (p0 : List (Int × Int × Int × Int)) (p1 : Int) (p2 : Int) (r : (List (Int × Int × List Int))) (H : Ie p0 p1 p2 = some r) (h_v1 : Sl w0 (NX []) AY v1 p0) :
    ca_ 12 #[v1, Jint p1, Jint p2] w0 fun e w' => ∃ x : Value, e = .returned (x) ∧ sy Y w0 [] [row (x) 46 GO r] w' := by
 refine enter Tryz.func12 Aa Tryz.ntmps12 Aa fun a F => ?_
 have W := Stw.start Y w0
 unfold Ie at H
 refine vc tk 8 F W fun a w F W => ?_
 obtain ⟨x1, h1, H⟩ := Ac H
 refine A9 (Ml := []) (Zl := []) (β := Value) (rv := fun x => x) (MM := fun x => []) (ZZ := fun x => [row x 3 ri x1]) F W aW Aa Aa (fun hL => NQ _ w (v1) p0 _ h1 ((Ae h_v1) w W).nx) fun x a w F W => ?_
 obtain ⟨v2, rfl⟩ : ∃ y, y = x := ⟨x, rfl⟩
 have W : sy Y w0 [] [row v2 3 ri x1] w := W
 refine BQ tk 8 F W fun a w F W => ?_
 obtain ⟨o1, G1, K1⟩ := Ac H
 refine As (fun a w => ∃ x2 : List (Int × Int × Int), ∃ v3 : Value, some (x2) = some o1 ∧ Fr 65 [] [(0, v1), (1, Jint p1), (6, .slice none 0 0), (7, v2), (8, v3)] a ∧ sy Y w0 [] [row v2 3 ri x1, row v3 70 PJ x2] w) ?_ ?_
 ·
  have H := G1
  refine vc tk 3 F W fun a w F W => ?_
  refine ls F W Aa (BP (r := ri) (l := x1) Jc Aa F Aa (Af 0 Aa)).q fun a w F W => ?_
  refine BQ tk 5 F W fun a w F W => ?_
  have W := W.nilRow 70 PJ
  have W := W.frontZ (i := 1) Aa Aa
  refine AN H (fun s a w => ∃ v4 : Value, Fr 65 [] [(0, v1), (1, Jint p1), (2, Jint p2), (6, .slice none 0 0), (7, v2), (8, v4), (19, Jint (An ((x1.length : Int) - 1))), (20, Jint s.2)] a ∧ sy Y w0 [] [row v2 3 ri x1, row v4 70 PJ s.1] w) ⟨(Value.slice none 0 0), F.ra Aa, W⟩ fun s o a w H L2 hR => ?_
  obtain ⟨x3, x4⟩ := s
  obtain ⟨v4, F, W⟩ := hR
  have F : Fr 65 [] [(0, v1), (1, Jint p1), (2, Jint p2), (6, .slice none 0 0), (7, v2), (8, v4), (19, Jint (An ((x1.length : Int) - 1))), (20, Jint x4)] a := F
  have W : sy Y w0 [] [row v2 3 ri x1, row v4 70 PJ x3] w := W
  rw [FE] at H
  refine vc tk 6 F W fun a w F W => ?_
  refine AW F Aa H (fun F H => ?_) fun F H => ?_
  ·
   refine FL tk 16 F W fun a w F W => ?_
   refine ls F W Aa (B9 (v := Value.agg #[Jint x4, Jint (An (x4 + 1)), Jint p2]) bM F Aa Aa Aa).q fun a w F W => ?_
   refine D7 (z := Value.agg #[Jint 0, Jint 0, Jint 0]) (cs := [Jint x4, Jint (An (x4 + 1)), Jint p2]) PJ ([(x4, An (x4 + 1), p2)] : List (Int × Int × Int)) F W Aa Ym Ze Aa Aa Aa Aa Aa Aa (Y2.repL _ _ ([(x4, An (x4 + 1), p2)] : List (Int × Int × Int))) fun v5 a w F W => ?_
   obtain ⟨x5, h2, H⟩ := Ac H
   refine Di (r := PJ) (i := 2) F W Aa Ym Aa Aa Aa Aa (D1 W 0 Aa) h2 Aa fun v6 a w F W => ?_
   have W : sy Y w0 [] [row v6 70 PJ x5, row v5 70 PJ ([(x4, An (x4 + 1), p2)] : List (Int × Int × Int)), row v2 3 ri x1] w := W
   refine vl tk 2 F W fun a w F W => ?_
   refine Aw ?_
   refine vn tk 4 F W fun a w F W => ?_
   refine Ab ?_
   have W := W.frontZ (i := 2) Aa Aa
   have W := W.sub (M' := []) (Z' := [row v2 3 ri x1, row v6 70 PJ x5]) sr (sc (sc nl))
   exact ⟨_, H, (v6), F.ra Aa, W⟩
  refine AC ?_
  iterate 2 refine AR ?_
  refine AD (Ab ?_)
  have W := W.frontZ (i := 1) Aa Aa
  have W := W.frontZ (i := 1) Aa Aa
  have H := L2 _ H
  exact ⟨_, (v4), H, F.ra Aa, W⟩
 rintro a w ⟨x2, v3, hj, F, W⟩
 have hj := Ay hj
 subst hj
 have H := K1
 refine vc tk 3 F W fun a w F W => ?_
 refine ls F W Aa (BP (r := ri) (l := x1) Jc Aa F Aa (Af 0 Aa)).q fun a w F W => ?_
 refine ls F W Aa (Ai F Aa).q fun a w F W => ?_
 obtain ⟨x6, h3, H⟩ := Ac H
 refine A9 (Ml := []) (Zl := []) (β := Value) (rv := fun x => .tuple #[x, .bool x6.2]) (MM := fun x => []) (ZZ := fun x => [row x 3 ri x6.1]) F W bZ Aa Aa (fun hL => Nz _ w (v3) (x1.length : Int) x2 _ h3 ((Af 1 Aa) w W).nx) fun x a w F W => ?_
 obtain ⟨v7, rfl⟩ : ∃ y, y = x := ⟨x, rfl⟩
 have W : sy Y w0 [] [row v7 3 ri x6.1, row v2 3 ri x1, row v3 70 PJ x2] w := W
 refine ls F W Aa (Ai F Aa).q fun a w F W => ?_
 refine ls F W Aa (Bi (v := v7) F Aa Aa).q fun a w F W => ?_
 refine ls F W Aa (Bi (v := Value.bool x6.2) F Aa Aa).q fun a w F W => ?_
 refine BQ tk 9 F W fun a w F W => ?_
 obtain ⟨o3, G3, K3⟩ := Ac H
 refine As (fun a w => ∃ x7 : List (Int × Int × List Int), ∃ v8 : Value, some (x7) = some o3 ∧ Fr 65 [] [(6, .slice none 0 0), (12, v8)] a ∧ sy Y w0 [] [row v8 46 GO x7] w) ?_ ?_
 ·
  have H := G3
  refine vc tk 3 F W fun a w F W => ?_
  refine ls F W Aa (BP (r := ri) (l := x6.1) Jc Aa F Aa (Af 0 Aa)).q fun a w F W => ?_
  refine BQ tk 4 F W fun a w F W => ?_
  have W := W.nilRow 46 GO
  have W := W.frontZ (i := 1) Aa Aa
  have W := W.frontZ (i := 1) Aa Aa
  have W := W.frontZ (i := 2) Aa Aa
  have W := W.sub (M' := []) (Z' := [row v2 3 ri x1, row (Value.slice none 0 0) 46 GO ([]), row v7 3 ri x6.1]) sr (sc (sc (sc nl)))
  refine AN H (fun s a w => ∃ v9 : Value, Fr 65 [] [(0, v1), (1, Jint p1), (6, .slice none 0 0), (7, v2), (12, v9), (39, v7), (40, Jint (x6.1.length : Int)), (41, Jint s.2)] a ∧ sy Y w0 [] [row v2 3 ri x1, row v9 46 GO s.1, row v7 3 ri x6.1] w) ⟨(Value.slice none 0 0), F.ra Aa, W⟩ fun s o a w H L4 hR => ?_
  obtain ⟨x8, x9⟩ := s
  obtain ⟨v9, F, W⟩ := hR
  have F : Fr 65 [] [(0, v1), (1, Jint p1), (6, .slice none 0 0), (7, v2), (12, v9), (39, v7), (40, Jint (x6.1.length : Int)), (41, Jint x9)] a := F
  have W : sy Y w0 [] [row v2 3 ri x1, row v9 46 GO x8, row v7 3 ri x6.1] w := W
  rw [Fs] at H
  refine vc tk 6 F W fun a w F W => ?_
  refine AW F Aa H (fun F H => ?_) fun F H => ?_
  ·
   refine FL tk 7 F W fun a w F W => ?_
   obtain ⟨x10, h4, H⟩ := Ac H
   refine ls F W Aa (Al (r := ri) EM F Aa Aa (Af 2 Aa) h4).q fun a w F W => ?_
   refine ls F W Aa (Ag (y := Jint x10) (j := 0) (i := x9) F Aa Aa (Af 2 Aa) h4 Fl.int.to T3 Aa).q fun a w F W => ?_
   refine BQ tk 4 F W fun a w F W => ?_
   refine ER [(true, 0), (true, 1), (true, 2), (true, 3), (true, 4), (true, 5), (true, 6), (true, 7), (true, 8), (true, 9), (true, 10), (true, 11), (true, 12), (false, 13), (true, 14), (false, 15), (false, 16), (false, 17)] (CN ⟨Y, [], w0⟩ [] [(some 15, row v2 3 ri x1), (some 13, row v2 3 ri x1)]) (fun ch a d v w h => by cases d <;> exact h) MO (by kernel_rfl) W (fun w W => ⟨_, _, W, Ak, (all_cons (fun _ => (.head _)) (all_cons (fun _ => (.head _)) Ak))⟩) fun w W => ?_
   iterate 3 refine A6 (R := []) F Aa Aa (yC fun M Z hN hZ => Ai F Aa) Aa Aa fun a F => ?_
   obtain ⟨x11, h5, H⟩ := Ac H
   refine A6 (R := []) F Aa Aa (yC fun M Z hN hZ => Ba (r := ri) EM F Aa Aa (C2 W (Af 0 Aa)) h5) Aa Aa fun a F => ?_
   refine A6 (R := [15, 14]) F Aa Aa (yC fun M Z hN hZ => Ag (y := Jint x11) (j := 0) (i := x9) F Aa Aa (Dh (hZ ((some 15), row v2 3 ri x1) (.head _) Aa)) h5 Fl.int.to T3 Aa) (by kernel_rfl) Aa fun a F => ?_
   iterate 2 refine A6 (R := []) F Aa Aa (yC fun M Z hN hZ => Ai F Aa) Aa Aa fun a F => ?_
   refine A6 (R := []) F Aa Aa (yC fun M Z hN hZ => Iy F Aa Aa Aa) Aa Aa fun a F => ?_
   iterate 3 refine A6 (R := []) F Aa Aa (yC fun M Z hN hZ => Ai F Aa) Aa Aa fun a F => ?_
   obtain ⟨x12, h6, H⟩ := Ac H
   refine A6 (R := []) F Aa Aa (yC fun M Z hN hZ => Ba (r := ri) EM F Aa Aa (C2 W (Af 0 Aa)) h6) Aa Aa fun a F => ?_
   refine A6 (R := [13]) F Aa Aa (yC fun M Z hN hZ => Ag (y := Jint x12) (j := 0) (i := x9) F Aa Aa (Dh (hZ ((some 13), row v2 3 ri x1) (.tail _ (.head _)) Aa)) h6 Fl.int.to T3 Aa) (by kernel_rfl) Aa fun a F => ?_
   refine F1 Aa ?_
   obtain ⟨x13, h7, H⟩ := Ac H
   refine A9 (Ml := []) (Zl := []) (β := Value) (rv := fun x => x) (MM := fun x => []) (ZZ := fun x => [row x 3 ri x13]) F W Z7 Aa Aa (fun hL => NA _ w (v1) p0 x12 _ h7 ((Ae h_v1) w W).nx) fun x a w F W => ?_
   obtain ⟨v10, rfl⟩ : ∃ y, y = x := ⟨x, rfl⟩
   have W : sy Y w0 [] [row v10 3 ri x13, row v2 3 ri x1, row v9 46 GO x8, row v7 3 ri x6.1] w := W
   refine Cn (N2 := []) (NZ2 := []) (N3 := []) (NZ3 := [(some 15, row v2 3 ri x1), (some 13, row v2 3 ri x1)]) W Aa Aa Ak (all_cons (fun _ => (.tail _ (.head _))) (all_cons (fun h => AH (by kernel_rfl) h) Ak)) ?_
   refine A6 (R := []) F Aa Aa (yC fun M Z hN hZ => B9 (v := Value.agg #[Jint x11, Jint (An (p1 + x10)), v10]) ZP F Aa (Bb Aa Aa Aa (Bb Aa Aa Aa (Bb Aa (BK (W.one (k := 0) Aa)) Aa Ev))) Aa) Aa Aa fun a F => ?_
   refine F1 Aa ?_
   have W := W.freeze
   refine D7 (z := Value.agg #[Jint 0, Jint 0, .slice none 0 0]) (cs := [Jint x11, Jint (An (p1 + x10)), v10]) GO ([(x11, An (p1 + x10), x13)] : List (Int × Int × List Int)) F W Aa UG Zq Aa Aa Aa (Bb Aa Aa Aa Ev) Aa Aa ⟨[Jint x11, Jint (An (p1 + x10)), v10], _, Aa, ⟨[Jint x11], [Jint (An (p1 + x10)), v10], Aa, Aa, ⟨[Jint (An (p1 + x10))], [v10], Aa, Aa, ⟨_, Aa, (W.item (i := 0) Aa)⟩⟩⟩, Aa⟩ fun v11 a w F W => ?_
   refine Cn (N2 := []) (NZ2 := []) (N3 := []) (NZ3 := [(some 15, row v2 3 ri x1), (some 13, row v2 3 ri x1)]) W Aa Aa Ak (all_cons (fun h => AH (by kernel_rfl) h) (all_cons (fun h => AH (by kernel_rfl) h) Ak)) ?_
   refine F1 Aa ?_
   obtain ⟨x14, h8, H⟩ := Ac H
   refine Di (r := GO) (i := 3) F W Aa UG Aa Aa Aa Aa (D1 W 0 Aa) h8 Aa fun v12 a w F W => ?_
   have W : sy Y w0 [] [row v12 46 GO x14, row v11 46 GO ([(x11, An (p1 + x10), x13)] : List (Int × Int × List Int)), Lz v10 ri x13, row v2 3 ri x1, row v7 3 ri x6.1] w := W
   refine Cn (N2 := []) (NZ2 := []) (N3 := []) (NZ3 := [(some 15, row v2 3 ri x1), (some 13, row v2 3 ri x1)]) W Aa Aa Ak (all_cons (fun h => AH (by kernel_rfl) h) (all_cons (fun h => AH (by kernel_rfl) h) Ak)) ?_
   refine F1 Aa ?_
   refine ls F W Aa (Dr F Aa).q fun a w F W => ?_
   refine Cn (N2 := []) (NZ2 := []) (N3 := []) (NZ3 := [(some 15, row v2 3 ri x1), (some 13, row v2 3 ri x1)]) W Aa Aa Ak (all_cons (fun h => AH (by kernel_rfl) h) (all_cons (fun h => AH (by kernel_rfl) h) Ak)) ?_
   refine Hd (Aw ?_)
   refine vn tk 4 F W fun a w F W => ?_
   refine Ab ?_
   have W := W.frontZ (i := 4) Aa Aa
   have W := W.frontZ (i := 1) Aa Aa
   have W := W.frontZ (i := 4) Aa Aa
   have W := W.sub (M' := []) (Z' := [row v2 3 ri x1, row v12 46 GO x14, row v7 3 ri x6.1]) sr (sc (sc (sc nl)))
   exact ⟨_, H, (v12), F.ra Aa, W⟩
  refine AC ?_
  iterate 2 refine AR ?_
  refine AD (Ab ?_)
  have W := W.frontZ (i := 1) Aa Aa
  have W := W.sub (M' := []) (Z' := [row v9 46 GO x8]) sr (sc nl)
  have H := L4 _ H
  exact ⟨_, (v9), H, F.ra Aa, W⟩
 rintro a w ⟨x7, v8, hj, F, W⟩
 have hj := Ay hj
 subst hj
 have H := K3
 refine vc tk 6 F W fun a w F W => ?_
 refine Ap ?_
 have H := Ay H
 subst H
 refine A1 (.inl Aa) F W Aa (Am F Aa) ?_
 exact ⟨(v8), Aa, W⟩
end
end Go.Proofs.YthhoflfhegfmcaaGreat
