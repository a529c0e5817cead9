/- The functions of layer 30, HQ. Conditions: none. -/
import Derived.Test.YtgoifghhcekahaaGreatDoordB1
namespace Go.Proofs.YtgoifghhcekahaaGreatDoor
noncomputable section
open Go Go.RowKit
set_option linter.unusedVariables false
set_option linter.unusedSimpArgs false
set_option maxRecDepth 20000
theorem ZN : Has Tryz.prog 116 := BM Tryz.func116
def Bx  : (List Int × Int × Int) → Option ((List Int × Int × Int) ⊕ (List Int))
  | (x1, x2, x3) => (if x2 < x3 then (ix x1 x3).bind fun x4 => (ix x1 x2).bind fun x5 => (ix x1 x2).bind fun x6 => (ix (AZ x1 x2 x4) x3).bind fun x7 => some (.inl ((AZ (AZ x1 x2 x4) x3 x5), AJ (x2 + 1), AJ (x3 - 1))) else some (.inr x1))
def BX (p0 : List Int) (p1 : Int) (p2 : Int) : Option (List Int) := AB (Bx) (p0, p1, AJ (p2 - 1))
theorem GD (Y : Nat → Prop) (X : List Nat) (w0 : World) (v1 : Value) (p0 : List Int) (p1 : Int) (p2 : Int) (r : List Int) (H : BX p0 p1 p2 = some r) (hL : Stw ⟨Y, X, w0⟩ [] [row v1 3 ri p0] w0) :
    ca_ 117 #[v1, Jint p1, Jint p2] w0 fun e w' => ∃ x : Unit, e = .returned (.tuple #[]) ∧ Stw ⟨Y, X, w0⟩ [] [row v1 3 ri r] w' := by
 refine enter Tryz.func117 Aa Tryz.ntmps117 Aa fun a F => ?_
 have W := hL
 unfold BX at H
 refine vc tk 14 F W fun a w F W => ?_
 refine AQ H (fun s a w => Fr 32 [] [(0, v1), (6, Jint s.2.1), (7, Jint s.2.2)] a ∧ Stw ⟨Y, X, w0⟩ [] [row v1 3 ri s.1] w) ⟨F.ra Aa, W⟩ fun s o a w H L1 hR => ?_
 obtain ⟨x1, x2, x3⟩ := s
 obtain ⟨F, W⟩ := hR
 have F : Fr 32 [] [(0, v1), (6, Jint x2), (7, Jint x3)] a := F
 have W : Stw ⟨Y, X, w0⟩ [] [row v1 3 ri x1] w := W
 rw [Bx] at H
 refine vc tk 8 F W fun a w F W => ?_
 refine A1 F Aa H (fun F H => ?_) fun F H => ?_
 ·
  refine EX tk 4 F W fun a w F W => ?_
  refine Ig 13 [2, 3] [0, 1, 4, 5, 6, 7, 8, 9, 10, 11, 12] (fun ch a d v w h => by cases d <;> exact h) W MO (by kernel_rfl) ?_
  iterate 2 refine hm F Aa Aa Aa fun a F => ?_
  refine JL ?_
  iterate 4 refine hs F Aa Aa Aa (Ao F Aa).q fun a F => ?_
  obtain ⟨x4, h1, H⟩ := Af H
  refine hs F Aa Aa Aa (Au (r := ri) DT F Aa Aa (Ai 0 Aa) h1).q fun a F => ?_
  refine hs F Aa Aa Aa (Aj (y := Jint x4) (j := 0) (i := x3) F Aa Aa (Ai 0 Aa) h1 Fl.int.to T3 Aa).q fun a F => ?_
  iterate 2 refine hs F Aa Aa Aa (Ao F Aa).q fun a F => ?_
  obtain ⟨x5, h2, H⟩ := Af H
  refine hs F Aa Aa Aa (Au (r := ri) DT F Aa Aa (Ai 0 Aa) h2).q fun a F => ?_
  refine hs F Aa Aa Aa (Aj (y := Jint x5) (j := 0) (i := x2) F Aa Aa (Ai 0 Aa) h2 Fl.int.to T3 Aa).q fun a F => ?_
  obtain ⟨x6, h3, H⟩ := Af H
  refine hs F Aa Aa Aa (Au (r := ri) DT F Aa Aa (Ai 0 Aa) h3).q fun a F => ?_
  refine MI fun w W => ?_
  have W : Stw ⟨Y, X, w0⟩ [] [row v1 3 ri x1] w := W
  refine Br (i := x2) (j := 0) (vs := [Jint x4]) (x' := x4) F W Aa Aa Aa (k := 0) Aa Aa h3 T3 Aa Aa Aa Aa (fun A cs _ => Fl.int.sto (by rfl) _ _ _) fun w W => ?_
  obtain ⟨x7, h4, H⟩ := Af H
  refine ls F W Aa (Au (r := ri) DT F Aa Aa (Ai 0 Aa) h4).q fun a w F W => ?_
  refine Br (i := x3) (j := 0) (vs := [Jint x5]) (x' := x5) F W Aa Aa Aa (k := 0) Aa Aa h4 T3 Aa Aa Aa Aa (fun A cs _ => Fl.int.sto (by rfl) _ _ _) fun w W => ?_
  refine Bo tk 14 F W fun a w F W => ?_
  refine Az (Ab ?_)
  exact ⟨_, H, F.ra Aa, W⟩
 refine AN ?_
 iterate 2 refine A6 ?_
 refine AP ?_
 have H := L1 _ H
 have H := Ay H
 subst H
 refine J0 (.inr Aa) F Aa ?_
 exact ⟨(), Aa, W⟩
theorem Zv : Has Tryz.prog 117 := BM Tryz.func117
def BE (p2 : Int) (x2 : List Int) : Int → Option (Int ⊕ Int)
  | x8 => (if x8 < p2 then (ix x2 x8).bind fun x10 => (ix x2 (AJ (x8 - 1))).bind fun x11 => some (!(A2 x10 x11)) else some false).bind fun x9 => (if x9 = true then some (.inl (AJ (x8 + 1))) else some (.inr x8))
def AM  : (List Int × Int) → Option ((List Int × Int) ⊕ (List Int))
  | (x17, x18) => (if 1 ≤ x18 then (ix x17 x18).bind fun x19 => (ix x17 (AJ (x18 - 1))).bind fun x20 => (if (!(A2 x19 x20)) = true then some (.inr x17) else (ix x17 (AJ (x18 - 1))).bind fun x21 => (ix x17 x18).bind fun x22 => (ix x17 x18).bind fun x23 => (ix (AZ x17 x18 x21) (AJ (x18 - 1))).bind fun x24 => some (.inl ((AZ (AZ x17 x18 x21) (AJ (x18 - 1)) x22), AJ (x18 - 1)))) else some (.inr x17))
def AX (p2 : Int) (x7 : Int) : (List Int × Int) → Option ((List Int × Int) ⊕ ((List Int × Int) ⊕ ((List Int × Int × Int) ⊕ ((List Int) ⊕ (Bool × List Int)))))
  | (x25, x26) => (if x26 < p2 then (ix x25 x26).bind fun x27 => (ix x25 (AJ (x26 - 1))).bind fun x28 => (if (!(A2 x27 x28)) = true then some (.inr (.inl (x25, x7))) else (ix x25 (AJ (x26 - 1))).bind fun x29 => (ix x25 x26).bind fun x30 => (ix x25 x26).bind fun x31 => (ix (AZ x25 x26 x29) (AJ (x26 - 1))).bind fun x32 => some (.inl ((AZ (AZ x25 x26 x29) (AJ (x26 - 1)) x30), AJ (x26 + 1)))) else some (.inr (.inl (x25, x7))))
def AW (p1 : Int) (p2 : Int) : (List Int × Int × Int) → Option ((List Int × Int × Int) ⊕ ((List Int) ⊕ (Bool × List Int)))
  | (x2, x3, x4) => (if x4 < 5 then HA ((AB (BE p2 x2) x3).bind fun x7 => (if x7 = p2 then some (.inr (.inr (.inr (true, x2)))) else (if (AJ (p2 - p1)) < 50 then some (.inr (.inr (.inr (false, x2)))) else (ix x2 (AJ (x7 - 1))).bind fun x12 => (ix x2 x7).bind fun x13 => (ix x2 x7).bind fun x14 => (ix (AZ x2 x7 x12) (AJ (x7 - 1))).bind fun x15 => (if 2 ≤ (AJ (x7 - p1)) then AB (AM) ((AZ (AZ x2 x7 x12) (AJ (x7 - 1)) x13), AJ (x7 - 1)) else some (AZ (AZ x2 x7 x12) (AJ (x7 - 1)) x13)).bind fun x16 => (if 2 ≤ (AJ (p2 - x7)) then AB (AX p2 x7) (x16, AJ (x7 + 1)) else some (.inl (x16, x7)))))) fun (x5, x6) => some (.inl (x5, x6, AJ (x4 + 1))) else some (.inr (.inl x2)))
def Bv (p0 : List Int) (p1 : Int) (p2 : Int) : Option (Bool × List Int) := HA (AB (AW p1 p2) (p0, AJ (p1 + 1), 0)) fun x1 => some (false, x1)
theorem FD (Y : Nat → Prop) (X : List Nat) (w0 : World) (v1 : Value) (p0 : List Int) (p1 : Int) (p2 : Int) (r : Bool × List Int) (H : Bv p0 p1 p2 = some r) (hL : Stw ⟨Y, X, w0⟩ [] [row v1 3 ri p0] w0) :
    ca_ 118 #[v1, Jint p1, Jint p2] w0 fun e w' => ∃ x : Unit, e = .returned (.bool r.1) ∧ Stw ⟨Y, X, w0⟩ [] [row v1 3 ri r.2] w' := by
 refine enter Tryz.func118 Aa Tryz.ntmps118 Aa fun a F => ?_
 have W := hL
 unfold Bv at H
 refine vc tk 12 F W fun a w F W => ?_
 obtain ⟨o1, G1, K1, L1⟩ := Lh H
 refine Ap (fun a w => ∃ x1 : List Int, some (Sum.inl x1) = some o1 ∧ Fr 133 [] [(6, .bool false)] a ∧ Stw ⟨Y, X, w0⟩ [] [row v1 3 ri x1] w) ?_ ?_
 ·
  have H := G1
  refine vc tk 6 F W fun a w F W => ?_
  refine AQ H (fun s a w => Fr 133 [] [(0, v1), (1, Jint p1), (2, Jint p2), (6, .bool false), (7, Jint s.2.1), (8, Jint s.2.2)] a ∧ Stw ⟨Y, X, w0⟩ [] [row v1 3 ri s.1] w) ⟨F.ra Aa, W⟩ fun s o a w H L2 hR => ?_
  obtain ⟨x2, x3, x4⟩ := s
  obtain ⟨F, W⟩ := hR
  have F : Fr 133 [] [(0, v1), (1, Jint p1), (2, Jint p2), (6, .bool false), (7, Jint x3), (8, Jint x4)] a := F
  have W : Stw ⟨Y, X, w0⟩ [] [row v1 3 ri x2] w := W
  rw [AW] at H
  refine vc tk 7 F W fun a w F W => ?_
  refine A1 F Aa H (fun F H => ?_) fun F H => ?_
  ·
   refine AD (Ab ?_)
   obtain ⟨o3, G3, K3, L3⟩ := Lh H
   refine Ap (fun a w => ∃ x5 : List Int, ∃ x6 : Int, some (Sum.inl (x5, x6)) = some o3 ∧ Fr 133 [] [(0, v1), (1, Jint p1), (2, Jint p2), (6, .bool false), (7, Jint x6), (8, Jint x4)] a ∧ Stw ⟨Y, X, w0⟩ [] [row v1 3 ri x5] w) ?_ ?_
   ·
    have H := G3
    refine Ez ?_
    obtain ⟨o4, G4, K4⟩ := Af H
    refine Ap (fun a w => ∃ x7 : Int, some (x7) = some o4 ∧ Fr 133 [] [(0, v1), (1, Jint p1), (2, Jint p2), (6, .bool false), (7, Jint x7), (8, Jint x4)] a ∧ Stw ⟨Y, X, w0⟩ [] [row v1 3 ri x2] w) ?_ ?_
    ·
     have H := G4
     refine Ez ?_
     refine AQ H (fun s a w => Fr 133 [] [(0, v1), (1, Jint p1), (2, Jint p2), (6, .bool false), (7, Jint s), (8, Jint x4)] a ∧ Stw ⟨Y, X, w0⟩ [] [row v1 3 ri x2] w) ⟨F.ra Aa, W⟩ fun s o a w H L5 hR => ?_
     obtain ⟨x8, rfl⟩ : ∃ x, x = s := ⟨s, rfl⟩
     obtain ⟨F, W⟩ := hR
     have F : Fr 133 [] [(0, v1), (1, Jint p1), (2, Jint p2), (6, .bool false), (7, Jint x8), (8, Jint x4)] a := F
     have W : Stw ⟨Y, X, w0⟩ [] [row v1 3 ri x2] w := W
     rw [BE] at H
     refine FG ?_
     obtain ⟨o6, G6, K6⟩ := Af H
     refine Ap (fun a w => ∃ x9 : Bool, some (x9) = some o6 ∧ Fr 133 [] [(0, v1), (1, Jint p1), (2, Jint p2), (6, .bool false), (7, Jint x8), (8, Jint x4), (32, .bool x9)] a ∧ Stw ⟨Y, X, w0⟩ [] [row v1 3 ri x2] w) ?_ ?_
     ·
      have H := G6
      refine B5 W MO (by kernel_rfl) ?_
      iterate 2 refine qs F Aa (Ao F Aa).q fun a F => ?_
      refine qs F Aa (OK F Aa Aa).q fun a F => ?_
      refine qs F Aa (Ao F Aa).q fun a F => ?_
      rcases bxq (decide (x8 < p2)) with hb | hb
      ·
       have H := BB (B4 hb) H
       rw [hb] at F
       iterate 2 refine AR F (Ad F Aa Aa Aa Aa) Aa (As Aa) (Ao F Aa).q fun a F => ?_
       obtain ⟨x10, h1, H⟩ := Af H
       refine AR F (Ad F Aa Aa Aa Aa) Aa (As Aa) (Au (r := ri) DT F Aa Aa (Ai 0 Aa) h1).q fun a F => ?_
       refine AR F (Ad F Aa Aa Aa Aa) Aa (As Aa) (Aj (y := Jint x10) (j := 0) (i := x8) F Aa Aa (Ai 0 Aa) h1 Fl.int.to T3 Aa).q fun a F => ?_
       iterate 2 refine AR F (Ad F Aa Aa Aa Aa) Aa (As Aa) (Ao F Aa).q fun a F => ?_
       refine AR F (Ad F Aa Aa Aa Aa) Aa (As Aa) (Hp F Aa Aa Aa).q fun a F => ?_
       obtain ⟨x11, h2, H⟩ := Af H
       refine AR F (Ad F Aa Aa Aa Aa) Aa (As Aa) (Au (r := ri) DT F Aa Aa (Ai 0 Aa) h2).q fun a F => ?_
       refine AR F (Ad F Aa Aa Aa Aa) Aa (As Aa) (Aj (y := Jint x11) (j := 0) (i := AJ (x8 - 1)) F Aa Aa (Ai 0 Aa) h2 Fl.int.to T3 Aa).q fun a F => ?_
       refine AR F (Ad F Aa Aa Aa Aa) Aa (As Aa) (AA (v := Value.bool (A2 x10 x11)) F LU Aa (fun w W => Cd any w x10 x11 _ Aa)) fun a F => ?_
       refine AR F (Ad F Aa Aa Aa Aa) Aa (As Aa) (Jn F Aa).q fun a F => ?_
       refine qs F Aa (Bq F Aa Aa Aa).q fun a F => ?_
       refine AK fun w W => ?_
       refine Ab ?_
       exact ⟨_, H, F.ra Aa, W⟩
      have H := BC (B1 hb) H
      rw [hb] at F
      iterate 11 refine Bb F (A3 F Aa Aa Aa Aa Aa) Aa Aa fun a F => ?_
      refine qs F Aa (Bh F Aa Aa Aa).q fun a F => ?_
      refine AK fun w W => ?_
      refine Ab ?_
      exact ⟨_, H, F.ra Aa, W⟩
     rintro a w ⟨x9, hj, F, W⟩
     have hj := Ay hj
     subst hj
     have H := K6
     refine Bi F Aa H (fun F H => ?_) fun F H => ?_
     ·
      refine EX tk 8 F W fun a w F W => ?_
      refine Ab ?_
      exact ⟨_, H, F.ra Aa, W⟩
     refine AN ?_
     iterate 2 refine A6 ?_
     refine AP (Ab ?_)
     have H := L5 _ H
     exact ⟨_, H, F.ra Aa, W⟩
    rintro a w ⟨x7, hj, F, W⟩
    have hj := Ay hj
    subst hj
    have H := K4
    refine vc tk 8 F W fun a w F W => ?_
    refine A1 F Aa H (fun F H => ?_) fun F H => ?_
    ·
     refine vc tk 5 F W fun a w F W => ?_
     refine Ah (Aw (AC ?_))
     iterate 2 refine Aw ?_
     refine AC (Aw ?_)
     have H := L3 _ H
     have H := L2 _ H
     have H := L1 _ H
     have H := Ay H
     subst H
     refine Av (.inl Aa) F W Aa (Am F Aa) ?_
     exact ⟨(), Aa, W⟩
    refine EX tk 11 F W fun a w F W => ?_
    refine A1 F Aa H (fun F H => ?_) fun F H => ?_
    ·
     refine vc tk 5 F W fun a w F W => ?_
     refine Ah (Aw (AC ?_))
     iterate 2 refine Aw ?_
     refine AC (Aw ?_)
     have H := L3 _ H
     have H := L2 _ H
     have H := L1 _ H
     have H := Ay H
     subst H
     refine Av (.inl Aa) F W Aa (Am F Aa) ?_
     exact ⟨(), Aa, W⟩
    refine EX tk 3 F W fun a w F W => ?_
    refine Ef [(true, 0), (true, 1), (true, 2), (true, 3), (true, 4), (true, 5), (true, 6), (true, 7), (true, 8), (true, 9), (true, 10), (true, 11), (true, 12), (true, 13), (true, 14), (false, 15), (true, 16), (false, 17)] (CN ⟨Y, X, w0⟩ [] [(some 15, row v1 3 ri x2)]) (fun ch a d v w h => by cases d <;> exact h) MO (by kernel_rfl) W (fun w W => ⟨_, _, W, Ak, (all_cons (fun _ => (.head _)) Ak)⟩) fun w W => ?_
    iterate 4 refine A9 (R := []) F Aa Aa (yC fun M Z hN hZ => Ao F Aa) Aa Aa fun a F => ?_
    refine A9 (R := []) F Aa Aa (yC fun M Z hN hZ => Hp F Aa Aa Aa) Aa Aa fun a F => ?_
    iterate 2 refine A9 (R := []) F Aa Aa (yC fun M Z hN hZ => Ao F Aa) Aa Aa fun a F => ?_
    refine A9 (R := []) F Aa Aa (yC fun M Z hN hZ => Hp F Aa Aa Aa) Aa Aa fun a F => ?_
    obtain ⟨x12, h3, H⟩ := Af H
    refine A9 (R := []) F Aa Aa (yC fun M Z hN hZ => Co (r := ri) DT F Aa Aa (EO W (Ai 0 Aa)) h3) Aa Aa fun a F => ?_
    refine A9 (R := [15]) F Aa Aa (yC fun M Z hN hZ => Aj (y := Jint x12) (j := 0) (i := AJ (x7 - 1)) F Aa Aa (EF (hZ ((some 15), row v1 3 ri x2) (.head _) Aa)) h3 Fl.int.to T3 Aa) (by kernel_rfl) Aa fun a F => ?_
    iterate 2 refine A9 (R := []) F Aa Aa (yC fun M Z hN hZ => Ao F Aa) Aa Aa fun a F => ?_
    obtain ⟨x13, h4, H⟩ := Af H
    refine A9 (R := []) F Aa Aa (yC fun M Z hN hZ => Co (r := ri) DT F Aa Aa (EO W (Ai 0 Aa)) h4) Aa Aa fun a F => ?_
    refine A9 (R := [15]) F Aa Aa (yC fun M Z hN hZ => Aj (y := Jint x13) (j := 0) (i := x7) F Aa Aa (EF (hZ ((some 15), row v1 3 ri x2) (.head _) Aa)) h4 Fl.int.to T3 Aa) (by kernel_rfl) Aa fun a F => ?_
    obtain ⟨x14, h5, H⟩ := Af H
    refine A9 (R := []) F Aa Aa (yC fun M Z hN hZ => Co (r := ri) DT F Aa Aa (EO W (Ai 0 Aa)) h5) Aa Aa fun a F => ?_
    refine Dt Aa ?_
    refine Br (i := x7) (j := 0) (vs := [Jint x12]) (x' := x12) F W Aa Aa Aa (k := 0) Aa Aa h5 T3 Aa Aa Aa Aa (fun A cs _ => Fl.int.sto (by rfl) _ _ _) fun w W => ?_
    refine Bc (N2 := []) (NZ2 := []) (N3 := []) (NZ3 := [(some 15, row v1 3 ri x2)]) W Aa Aa Ak (all_cons (fun h => An (by kernel_rfl) h) Ak) ?_
    obtain ⟨x15, h6, H⟩ := Af H
    refine A9 (R := []) F Aa Aa (yC fun M Z hN hZ => Co (r := ri) DT F Aa Aa (EO W (Ai 0 Aa)) h6) Aa Aa fun a F => ?_
    refine Dt Aa ?_
    refine Br (i := AJ (x7 - 1)) (j := 0) (vs := [Jint x13]) (x' := x13) F W Aa Aa Aa (k := 0) Aa Aa h6 T3 Aa Aa Aa Aa (fun A cs _ => Fl.int.sto (by rfl) _ _ _) fun w W => ?_
    refine Bc (N2 := []) (NZ2 := []) (N3 := []) (NZ3 := [(some 15, row v1 3 ri x2)]) W Aa Aa Ak (all_cons (fun h => An (by kernel_rfl) h) Ak) ?_
    refine FL (Ab ?_)
    obtain ⟨o7, G7, K7⟩ := Af H
    refine Ap (fun a w => ∃ x16 : List Int, some (x16) = some o7 ∧ Fr 133 [] [(0, v1), (1, Jint p1), (2, Jint p2), (6, .bool false), (7, Jint x7), (8, Jint x4)] a ∧ Stw ⟨Y, X, w0⟩ [] [row v1 3 ri x16] w) ?_ ?_
    ·
     have H := G7
     refine vc tk 8 F W fun a w F W => ?_
     refine A1 F Aa H (fun F H => ?_) fun F H => ?_
     ·
      refine vc tk 8 F W fun a w F W => ?_
      refine AQ H (fun s a w => Fr 133 [] [(0, v1), (1, Jint p1), (2, Jint p2), (6, .bool false), (7, Jint x7), (8, Jint x4), (9, Jint s.2)] a ∧ Stw ⟨Y, X, w0⟩ [] [row v1 3 ri s.1] w) ⟨F.ra Aa, W⟩ fun s o a w H L8 hR => ?_
      obtain ⟨x17, x18⟩ := s
      obtain ⟨F, W⟩ := hR
      have F : Fr 133 [] [(0, v1), (1, Jint p1), (2, Jint p2), (6, .bool false), (7, Jint x7), (8, Jint x4), (9, Jint x18)] a := F
      have W : Stw ⟨Y, X, w0⟩ [] [row v1 3 ri x17] w := W
      rw [AM] at H
      refine vc tk 7 F W fun a w F W => ?_
      refine A1 F Aa H (fun F H => ?_) fun F H => ?_
      ·
       refine EX tk 6 F W fun a w F W => ?_
       refine B5 W MO (by kernel_rfl) ?_
       iterate 2 refine qs F Aa (Ao F Aa).q fun a F => ?_
       obtain ⟨x19, h7, H⟩ := Af H
       refine qs F Aa (Au (r := ri) DT F Aa Aa (Ai 0 Aa) h7).q fun a F => ?_
       refine qs F Aa (Aj (y := Jint x19) (j := 0) (i := x18) F Aa Aa (Ai 0 Aa) h7 Fl.int.to T3 Aa).q fun a F => ?_
       iterate 2 refine qs F Aa (Ao F Aa).q fun a F => ?_
       refine qs F Aa (Hp F Aa Aa Aa).q fun a F => ?_
       obtain ⟨x20, h8, H⟩ := Af H
       refine qs F Aa (Au (r := ri) DT F Aa Aa (Ai 0 Aa) h8).q fun a F => ?_
       refine qs F Aa (Aj (y := Jint x20) (j := 0) (i := AJ (x18 - 1)) F Aa Aa (Ai 0 Aa) h8 Fl.int.to T3 Aa).q fun a F => ?_
       refine qs F Aa (AA (v := Value.bool (A2 x19 x20)) F LU Aa (fun w W => Cd any w x19 x20 _ Aa)) fun a F => ?_
       refine qs F Aa (Jn F Aa).q fun a F => ?_
       refine AK fun w W => ?_
       refine Ab ?_
       refine Bi F Aa H (fun F H => ?_) fun F H => ?_
       ·
        refine AN (A6 ?_)
        refine Mo Aa ?_
        iterate 2 refine A6 ?_
        refine AP (Ab ?_)
        have H := L8 _ H
        exact ⟨_, H, F.ra Aa, W⟩
       refine EX tk 2 F W fun a w F W => ?_
       refine Ef [(true, 0), (true, 1), (true, 2), (true, 3), (true, 4), (true, 5), (true, 6), (true, 7), (true, 8), (true, 9), (true, 10), (true, 11), (true, 12), (true, 13), (true, 14), (false, 15), (true, 16), (false, 17)] (CN ⟨Y, X, w0⟩ [] [(some 15, row v1 3 ri x17)]) (fun ch a d v w h => by cases d <;> exact h) MO (by kernel_rfl) W (fun w W => ⟨_, _, W, Ak, (all_cons (fun _ => (.head _)) Ak)⟩) fun w W => ?_
       iterate 4 refine A9 (R := []) F Aa Aa (yC fun M Z hN hZ => Ao F Aa) Aa Aa fun a F => ?_
       refine A9 (R := []) F Aa Aa (yC fun M Z hN hZ => Hp F Aa Aa Aa) Aa Aa fun a F => ?_
       iterate 2 refine A9 (R := []) F Aa Aa (yC fun M Z hN hZ => Ao F Aa) Aa Aa fun a F => ?_
       refine A9 (R := []) F Aa Aa (yC fun M Z hN hZ => Hp F Aa Aa Aa) Aa Aa fun a F => ?_
       obtain ⟨x21, h9, H⟩ := Af H
       refine A9 (R := []) F Aa Aa (yC fun M Z hN hZ => Co (r := ri) DT F Aa Aa (EO W (Ai 0 Aa)) h9) Aa Aa fun a F => ?_
       refine A9 (R := [15]) F Aa Aa (yC fun M Z hN hZ => Aj (y := Jint x21) (j := 0) (i := AJ (x18 - 1)) F Aa Aa (EF (hZ ((some 15), row v1 3 ri x17) (.head _) Aa)) h9 Fl.int.to T3 Aa) (by kernel_rfl) Aa fun a F => ?_
       iterate 2 refine A9 (R := []) F Aa Aa (yC fun M Z hN hZ => Ao F Aa) Aa Aa fun a F => ?_
       obtain ⟨x22, h10, H⟩ := Af H
       refine A9 (R := []) F Aa Aa (yC fun M Z hN hZ => Co (r := ri) DT F Aa Aa (EO W (Ai 0 Aa)) h10) Aa Aa fun a F => ?_
       refine A9 (R := [15]) F Aa Aa (yC fun M Z hN hZ => Aj (y := Jint x22) (j := 0) (i := x18) F Aa Aa (EF (hZ ((some 15), row v1 3 ri x17) (.head _) Aa)) h10 Fl.int.to T3 Aa) (by kernel_rfl) Aa fun a F => ?_
       obtain ⟨x23, h11, H⟩ := Af H
       refine A9 (R := []) F Aa Aa (yC fun M Z hN hZ => Co (r := ri) DT F Aa Aa (EO W (Ai 0 Aa)) h11) Aa Aa fun a F => ?_
       refine Dt Aa ?_
       refine Br (i := x18) (j := 0) (vs := [Jint x21]) (x' := x21) F W Aa Aa Aa (k := 0) Aa Aa h11 T3 Aa Aa Aa Aa (fun A cs _ => Fl.int.sto (by rfl) _ _ _) fun w W => ?_
       refine Bc (N2 := []) (NZ2 := []) (N3 := []) (NZ3 := [(some 15, row v1 3 ri x17)]) W Aa Aa Ak (all_cons (fun h => An (by kernel_rfl) h) Ak) ?_
       obtain ⟨x24, h12, H⟩ := Af H
       refine A9 (R := []) F Aa Aa (yC fun M Z hN hZ => Co (r := ri) DT F Aa Aa (EO W (Ai 0 Aa)) h12) Aa Aa fun a F => ?_
       refine Dt Aa ?_
       refine Br (i := AJ (x18 - 1)) (j := 0) (vs := [Jint x22]) (x' := x22) F W Aa Aa Aa (k := 0) Aa Aa h12 T3 Aa Aa Aa Aa (fun A cs _ => Fl.int.sto (by rfl) _ _ _) fun w W => ?_
       refine Bc (N2 := []) (NZ2 := []) (N3 := []) (NZ3 := [(some 15, row v1 3 ri x17)]) W Aa Aa Ak (all_cons (fun h => An (by kernel_rfl) h) Ak) ?_
       refine FL (Az ?_)
       refine vn tk 5 F W fun a w F W => ?_
       refine Ab ?_
       exact ⟨_, H, F.ra Aa, W⟩
      refine AN ?_
      iterate 2 refine A6 ?_
      refine AP (Ab ?_)
      have H := L8 _ H
      exact ⟨_, H, F.ra Aa, W⟩
     refine AD (Ab ?_)
     exact ⟨_, H, F.ra Aa, W⟩
    rintro a w ⟨x16, hj, F, W⟩
    have hj := Ay hj
    subst hj
    have H := K7
    refine vc tk 8 F W fun a w F W => ?_
    refine A1 F Aa H (fun F H => ?_) fun F H => ?_
    ·
     refine vc tk 8 F W fun a w F W => ?_
     refine AQ H (fun s a w => Fr 133 [] [(0, v1), (1, Jint p1), (2, Jint p2), (6, .bool false), (7, Jint x7), (8, Jint x4), (10, Jint s.2)] a ∧ Stw ⟨Y, X, w0⟩ [] [row v1 3 ri s.1] w) ⟨F.ra Aa, W⟩ fun s o a w H L9 hR => ?_
     obtain ⟨x25, x26⟩ := s
     obtain ⟨F, W⟩ := hR
     have F : Fr 133 [] [(0, v1), (1, Jint p1), (2, Jint p2), (6, .bool false), (7, Jint x7), (8, Jint x4), (10, Jint x26)] a := F
     have W : Stw ⟨Y, X, w0⟩ [] [row v1 3 ri x25] w := W
     rw [AX] at H
     refine vc tk 8 F W fun a w F W => ?_
     refine A1 F Aa H (fun F H => ?_) fun F H => ?_
     ·
      refine EX tk 6 F W fun a w F W => ?_
      refine B5 W MO (by kernel_rfl) ?_
      iterate 2 refine qs F Aa (Ao F Aa).q fun a F => ?_
      obtain ⟨x27, h13, H⟩ := Af H
      refine qs F Aa (Au (r := ri) DT F Aa Aa (Ai 0 Aa) h13).q fun a F => ?_
      refine qs F Aa (Aj (y := Jint x27) (j := 0) (i := x26) F Aa Aa (Ai 0 Aa) h13 Fl.int.to T3 Aa).q fun a F => ?_
      iterate 2 refine qs F Aa (Ao F Aa).q fun a F => ?_
      refine qs F Aa (Hp F Aa Aa Aa).q fun a F => ?_
      obtain ⟨x28, h14, H⟩ := Af H
      refine qs F Aa (Au (r := ri) DT F Aa Aa (Ai 0 Aa) h14).q fun a F => ?_
      refine qs F Aa (Aj (y := Jint x28) (j := 0) (i := AJ (x26 - 1)) F Aa Aa (Ai 0 Aa) h14 Fl.int.to T3 Aa).q fun a F => ?_
      refine qs F Aa (AA (v := Value.bool (A2 x27 x28)) F LU Aa (fun w W => Cd any w x27 x28 _ Aa)) fun a F => ?_
      refine qs F Aa (Jn F Aa).q fun a F => ?_
      refine AK fun w W => ?_
      refine Ab ?_
      refine Bi F Aa H (fun F H => ?_) fun F H => ?_
      ·
       refine AN (A6 ?_)
       refine Mo Aa ?_
       iterate 2 refine A6 ?_
       refine AP (Az (Ab ?_))
       have H := L9 _ H
       exact ⟨_, _, H, F.ra Aa, W⟩
      refine EX tk 2 F W fun a w F W => ?_
      refine Ef [(true, 0), (true, 1), (true, 2), (true, 3), (true, 4), (true, 5), (true, 6), (true, 7), (true, 8), (true, 9), (true, 10), (true, 11), (true, 12), (true, 13), (true, 14), (false, 15), (true, 16), (false, 17)] (CN ⟨Y, X, w0⟩ [] [(some 15, row v1 3 ri x25)]) (fun ch a d v w h => by cases d <;> exact h) MO (by kernel_rfl) W (fun w W => ⟨_, _, W, Ak, (all_cons (fun _ => (.head _)) Ak)⟩) fun w W => ?_
      iterate 4 refine A9 (R := []) F Aa Aa (yC fun M Z hN hZ => Ao F Aa) Aa Aa fun a F => ?_
      refine A9 (R := []) F Aa Aa (yC fun M Z hN hZ => Hp F Aa Aa Aa) Aa Aa fun a F => ?_
      iterate 2 refine A9 (R := []) F Aa Aa (yC fun M Z hN hZ => Ao F Aa) Aa Aa fun a F => ?_
      refine A9 (R := []) F Aa Aa (yC fun M Z hN hZ => Hp F Aa Aa Aa) Aa Aa fun a F => ?_
      obtain ⟨x29, h15, H⟩ := Af H
      refine A9 (R := []) F Aa Aa (yC fun M Z hN hZ => Co (r := ri) DT F Aa Aa (EO W (Ai 0 Aa)) h15) Aa Aa fun a F => ?_
      refine A9 (R := [15]) F Aa Aa (yC fun M Z hN hZ => Aj (y := Jint x29) (j := 0) (i := AJ (x26 - 1)) F Aa Aa (EF (hZ ((some 15), row v1 3 ri x25) (.head _) Aa)) h15 Fl.int.to T3 Aa) (by kernel_rfl) Aa fun a F => ?_
      iterate 2 refine A9 (R := []) F Aa Aa (yC fun M Z hN hZ => Ao F Aa) Aa Aa fun a F => ?_
      obtain ⟨x30, h16, H⟩ := Af H
      refine A9 (R := []) F Aa Aa (yC fun M Z hN hZ => Co (r := ri) DT F Aa Aa (EO W (Ai 0 Aa)) h16) Aa Aa fun a F => ?_
      refine A9 (R := [15]) F Aa Aa (yC fun M Z hN hZ => Aj (y := Jint x30) (j := 0) (i := x26) F Aa Aa (EF (hZ ((some 15), row v1 3 ri x25) (.head _) Aa)) h16 Fl.int.to T3 Aa) (by kernel_rfl) Aa fun a F => ?_
      obtain ⟨x31, h17, H⟩ := Af H
      refine A9 (R := []) F Aa Aa (yC fun M Z hN hZ => Co (r := ri) DT F Aa Aa (EO W (Ai 0 Aa)) h17) Aa Aa fun a F => ?_
      refine Dt Aa ?_
      refine Br (i := x26) (j := 0) (vs := [Jint x29]) (x' := x29) F W Aa Aa Aa (k := 0) Aa Aa h17 T3 Aa Aa Aa Aa (fun A cs _ => Fl.int.sto (by rfl) _ _ _) fun w W => ?_
      refine Bc (N2 := []) (NZ2 := []) (N3 := []) (NZ3 := [(some 15, row v1 3 ri x25)]) W Aa Aa Ak (all_cons (fun h => An (by kernel_rfl) h) Ak) ?_
      obtain ⟨x32, h18, H⟩ := Af H
      refine A9 (R := []) F Aa Aa (yC fun M Z hN hZ => Co (r := ri) DT F Aa Aa (EO W (Ai 0 Aa)) h18) Aa Aa fun a F => ?_
      refine Dt Aa ?_
      refine Br (i := AJ (x26 - 1)) (j := 0) (vs := [Jint x30]) (x' := x30) F W Aa Aa Aa (k := 0) Aa Aa h18 T3 Aa Aa Aa Aa (fun A cs _ => Fl.int.sto (by rfl) _ _ _) fun w W => ?_
      refine Bc (N2 := []) (NZ2 := []) (N3 := []) (NZ3 := [(some 15, row v1 3 ri x25)]) W Aa Aa Ak (all_cons (fun h => An (by kernel_rfl) h) Ak) ?_
      refine FL (Az ?_)
      refine vn tk 5 F W fun a w F W => ?_
      refine Ab ?_
      exact ⟨_, H, F.ra Aa, W⟩
     refine AN ?_
     iterate 2 refine A6 ?_
     refine AP (Az (Ab ?_))
     have H := L9 _ H
     exact ⟨_, _, H, F.ra Aa, W⟩
    refine AD (Az (Ab ?_))
    exact ⟨_, _, H, F.ra Aa, W⟩
   rintro a w ⟨x5, x6, hj, F, W⟩
   have H := K3 _ hj
   refine vc tk 5 F W fun a w F W => ?_
   refine Ab ?_
   exact ⟨_, H, F.ra Aa, W⟩
  refine AN ?_
  iterate 2 refine A6 ?_
  refine AP (Ab ?_)
  have H := L2 _ H
  exact ⟨_, H, F.ra Aa, W⟩
 rintro a w ⟨x1, hj, F, W⟩
 have H := K1 _ hj
 refine vc tk 5 F W fun a w F W => ?_
 refine Ah ?_
 have H := Ay H
 subst H
 refine Av (.inl Aa) F W Aa (Am F Aa) ?_
 exact ⟨(), Aa, W⟩
theorem Zi : Has Tryz.prog 118 := BM Tryz.func118
def BW (p1 : Int) (x7 : List Int) (x9 : Int) : Int → Option (Int ⊕ Int)
  | x11 => (if x11 ≤ x9 then (ix x7 p1).bind fun x13 => (ix x7 x11).bind fun x14 => some (!(A2 x13 x14)) else some false).bind fun x12 => (if x12 = true then some (.inl (AJ (x11 + 1))) else some (.inr x11))
def BV (p1 : Int) (x7 : List Int) (x10 : Int) : Int → Option (Int ⊕ Int)
  | x16 => (if x10 ≤ x16 then (ix x7 p1).bind fun x18 => (ix x7 x16).bind fun x19 => some (A2 x18 x19) else some false).bind fun x17 => (if x17 = true then some (.inl (AJ (x16 - 1))) else some (.inr x16))
def BF (p1 : Int) : (List Int × Int × Int) → Option ((List Int × Int × Int) ⊕ (Int × List Int))
  | (x7, x8, x9) => (AB (BW p1 x7 x9) x8).bind fun x10 => (AB (BV p1 x7 x10) x9).bind fun x15 => (if x15 < x10 then some (.inr (x10, x7)) else (ix x7 x15).bind fun x20 => (ix x7 x10).bind fun x21 => (ix x7 x10).bind fun x22 => (ix (AZ x7 x10 x20) x15).bind fun x23 => some (.inl ((AZ (AZ x7 x10 x20) x15 x21), AJ (x10 + 1), AJ (x15 - 1))))
def Cg (p0 : List Int) (p1 : Int) (p2 : Int) (p3 : Int) : Option (Int × List Int) := (ix p0 p3).bind fun x1 => (ix p0 p1).bind fun x2 => (ix p0 p1).bind fun x3 => (ix (AZ p0 p1 x1) p3).bind fun x4 => (AB (BF p1) ((AZ (AZ p0 p1 x1) p3 x2), AJ (p1 + 1), AJ (p2 - 1))).bind fun (x5, x6) => some (x5, x6)
theorem Gh (Y : Nat → Prop) (X : List Nat) (w0 : World) (v1 : Value) (p0 : List Int) (p1 : Int) (p2 : Int) (p3 : Int) (r : Int × List Int) (H : Cg p0 p1 p2 p3 = some r) (hL : Stw ⟨Y, X, w0⟩ [] [row v1 3 ri p0] w0) :
    ca_ 120 #[v1, Jint p1, Jint p2, Jint p3] w0 fun e w' => ∃ x : Unit, e = .returned (Jint r.1) ∧ Stw ⟨Y, X, w0⟩ [] [row v1 3 ri r.2] w' := by
 refine enter Tryz.func120 Aa Tryz.ntmps120 Aa fun a F => ?_
 have W := hL
 unfold Cg at H
 refine vc tk 6 F W fun a w F W => ?_
 refine Ig 13 [2, 3] [0, 1, 4, 5, 6, 7, 8, 9, 10, 11, 12] (fun ch a d v w h => by cases d <;> exact h) W MO (by kernel_rfl) ?_
 iterate 2 refine hm F Aa Aa Aa fun a F => ?_
 refine JL ?_
 iterate 4 refine hs F Aa Aa Aa (Ao F Aa).q fun a F => ?_
 obtain ⟨x1, h1, H⟩ := Af H
 refine hs F Aa Aa Aa (Au (r := ri) DT F Aa Aa (Ai 0 Aa) h1).q fun a F => ?_
 refine hs F Aa Aa Aa (Aj (y := Jint x1) (j := 0) (i := p3) F Aa Aa (Ai 0 Aa) h1 Fl.int.to T3 Aa).q fun a F => ?_
 iterate 2 refine hs F Aa Aa Aa (Ao F Aa).q fun a F => ?_
 obtain ⟨x2, h2, H⟩ := Af H
 refine hs F Aa Aa Aa (Au (r := ri) DT F Aa Aa (Ai 0 Aa) h2).q fun a F => ?_
 refine hs F Aa Aa Aa (Aj (y := Jint x2) (j := 0) (i := p1) F Aa Aa (Ai 0 Aa) h2 Fl.int.to T3 Aa).q fun a F => ?_
 obtain ⟨x3, h3, H⟩ := Af H
 refine hs F Aa Aa Aa (Au (r := ri) DT F Aa Aa (Ai 0 Aa) h3).q fun a F => ?_
 refine MI fun w W => ?_
 have W : Stw ⟨Y, X, w0⟩ [] [row v1 3 ri p0] w := W
 refine Br (i := p1) (j := 0) (vs := [Jint x1]) (x' := x1) F W Aa Aa Aa (k := 0) Aa Aa h3 T3 Aa Aa Aa Aa (fun A cs _ => Fl.int.sto (by rfl) _ _ _) fun w W => ?_
 obtain ⟨x4, h4, H⟩ := Af H
 refine ls F W Aa (Au (r := ri) DT F Aa Aa (Ai 0 Aa) h4).q fun a w F W => ?_
 refine Br (i := p3) (j := 0) (vs := [Jint x2]) (x' := x2) F W Aa Aa Aa (k := 0) Aa Aa h4 T3 Aa Aa Aa Aa (fun A cs _ => Fl.int.sto (by rfl) _ _ _) fun w W => ?_
 refine Bo tk 12 F W fun a w F W => ?_
 obtain ⟨o1, G1, K1⟩ := Af H
 refine Ap (fun a w => ∃ x5 : Int, ∃ x6 : List Int, some ((x5, x6)) = some o1 ∧ Fr 84 [] [(8, Jint 0), (9, Jint x5)] a ∧ Stw ⟨Y, X, w0⟩ [] [row v1 3 ri x6] w) ?_ ?_
 ·
  have H := G1
  refine Ez ?_
  refine AQ H (fun s a w => Fr 84 [] [(0, v1), (1, Jint p1), (8, Jint 0), (9, Jint s.2.1), (10, Jint s.2.2)] a ∧ Stw ⟨Y, X, w0⟩ [] [row v1 3 ri s.1] w) ⟨F.ra Aa, W⟩ fun s o a w H L2 hR => ?_
  obtain ⟨x7, x8, x9⟩ := s
  obtain ⟨F, W⟩ := hR
  have F : Fr 84 [] [(0, v1), (1, Jint p1), (8, Jint 0), (9, Jint x8), (10, Jint x9)] a := F
  have W : Stw ⟨Y, X, w0⟩ [] [row v1 3 ri x7] w := W
  rw [BF] at H
  refine Ez ?_
  obtain ⟨o3, G3, K3⟩ := Af H
  refine Ap (fun a w => ∃ x10 : Int, some (x10) = some o3 ∧ Fr 84 [] [(0, v1), (1, Jint p1), (8, Jint 0), (9, Jint x10), (10, Jint x9)] a ∧ Stw ⟨Y, X, w0⟩ [] [row v1 3 ri x7] w) ?_ ?_
  ·
   have H := G3
   refine Ez ?_
   refine AQ H (fun s a w => Fr 84 [] [(0, v1), (1, Jint p1), (8, Jint 0), (9, Jint s), (10, Jint x9)] a ∧ Stw ⟨Y, X, w0⟩ [] [row v1 3 ri x7] w) ⟨F.ra Aa, W⟩ fun s o a w H L4 hR => ?_
   obtain ⟨x11, rfl⟩ : ∃ x, x = s := ⟨s, rfl⟩
   obtain ⟨F, W⟩ := hR
   have F : Fr 84 [] [(0, v1), (1, Jint p1), (8, Jint 0), (9, Jint x11), (10, Jint x9)] a := F
   have W : Stw ⟨Y, X, w0⟩ [] [row v1 3 ri x7] w := W
   rw [BW] at H
   refine FG ?_
   obtain ⟨o5, G5, K5⟩ := Af H
   refine Ap (fun a w => ∃ x12 : Bool, some (x12) = some o5 ∧ Fr 84 [] [(0, v1), (1, Jint p1), (8, Jint 0), (9, Jint x11), (10, Jint x9), (43, .bool x12)] a ∧ Stw ⟨Y, X, w0⟩ [] [row v1 3 ri x7] w) ?_ ?_
   ·
    have H := G5
    refine B5 W MO (by kernel_rfl) ?_
    iterate 2 refine qs F Aa (Ao F Aa).q fun a F => ?_
    refine qs F Aa (KE F Aa Aa).q fun a F => ?_
    refine qs F Aa (Ao F Aa).q fun a F => ?_
    rcases bxq (decide (x11 ≤ x9)) with hb | hb
    ·
     have H := BB (B4 hb) H
     rw [hb] at F
     iterate 2 refine AR F (Ad F Aa Aa Aa Aa) Aa (As Aa) (Ao F Aa).q fun a F => ?_
     obtain ⟨x13, h5, H⟩ := Af H
     refine AR F (Ad F Aa Aa Aa Aa) Aa (As Aa) (Au (r := ri) DT F Aa Aa (Ai 0 Aa) h5).q fun a F => ?_
     refine AR F (Ad F Aa Aa Aa Aa) Aa (As Aa) (Aj (y := Jint x13) (j := 0) (i := p1) F Aa Aa (Ai 0 Aa) h5 Fl.int.to T3 Aa).q fun a F => ?_
     iterate 2 refine AR F (Ad F Aa Aa Aa Aa) Aa (As Aa) (Ao F Aa).q fun a F => ?_
     obtain ⟨x14, h6, H⟩ := Af H
     refine AR F (Ad F Aa Aa Aa Aa) Aa (As Aa) (Au (r := ri) DT F Aa Aa (Ai 0 Aa) h6).q fun a F => ?_
     refine AR F (Ad F Aa Aa Aa Aa) Aa (As Aa) (Aj (y := Jint x14) (j := 0) (i := x11) F Aa Aa (Ai 0 Aa) h6 Fl.int.to T3 Aa).q fun a F => ?_
     refine AR F (Ad F Aa Aa Aa Aa) Aa (As Aa) (AA (v := Value.bool (A2 x13 x14)) F LU Aa (fun w W => Cd any w x13 x14 _ Aa)) fun a F => ?_
     refine AR F (Ad F Aa Aa Aa Aa) Aa (As Aa) (Jn F Aa).q fun a F => ?_
     refine qs F Aa (Bq F Aa Aa Aa).q fun a F => ?_
     refine AK fun w W => ?_
     refine Ab ?_
     exact ⟨_, H, F.ra Aa, W⟩
    have H := BC (B1 hb) H
    rw [hb] at F
    iterate 10 refine Bb F (A3 F Aa Aa Aa Aa Aa) Aa Aa fun a F => ?_
    refine qs F Aa (Bh F Aa Aa Aa).q fun a F => ?_
    refine AK fun w W => ?_
    refine Ab ?_
    exact ⟨_, H, F.ra Aa, W⟩
   rintro a w ⟨x12, hj, F, W⟩
   have hj := Ay hj
   subst hj
   have H := K5
   refine Bi F Aa H (fun F H => ?_) fun F H => ?_
   ·
    refine EX tk 8 F W fun a w F W => ?_
    refine Ab ?_
    exact ⟨_, H, F.ra Aa, W⟩
   refine AN ?_
   iterate 2 refine A6 ?_
   refine AP (Ab ?_)
   have H := L4 _ H
   exact ⟨_, H, F.ra Aa, W⟩
  rintro a w ⟨x10, hj, F, W⟩
  have hj := Ay hj
  subst hj
  have H := K3
  obtain ⟨o6, G6, K6⟩ := Af H
  refine Ap (fun a w => ∃ x15 : Int, some (x15) = some o6 ∧ Fr 84 [] [(0, v1), (1, Jint p1), (8, Jint 0), (9, Jint x10), (10, Jint x15)] a ∧ Stw ⟨Y, X, w0⟩ [] [row v1 3 ri x7] w) ?_ ?_
  ·
   have H := G6
   refine Ez ?_
   refine AQ H (fun s a w => Fr 84 [] [(0, v1), (1, Jint p1), (8, Jint 0), (9, Jint x10), (10, Jint s)] a ∧ Stw ⟨Y, X, w0⟩ [] [row v1 3 ri x7] w) ⟨F.ra Aa, W⟩ fun s o a w H L7 hR => ?_
   obtain ⟨x16, rfl⟩ : ∃ x, x = s := ⟨s, rfl⟩
   obtain ⟨F, W⟩ := hR
   have F : Fr 84 [] [(0, v1), (1, Jint p1), (8, Jint 0), (9, Jint x10), (10, Jint x16)] a := F
   have W : Stw ⟨Y, X, w0⟩ [] [row v1 3 ri x7] w := W
   rw [BV] at H
   refine FG ?_
   obtain ⟨o8, G8, K8⟩ := Af H
   refine Ap (fun a w => ∃ x17 : Bool, some (x17) = some o8 ∧ Fr 84 [] [(0, v1), (1, Jint p1), (8, Jint 0), (9, Jint x10), (10, Jint x16), (59, .bool x17)] a ∧ Stw ⟨Y, X, w0⟩ [] [row v1 3 ri x7] w) ?_ ?_
   ·
    have H := G8
    refine B5 W MO (by kernel_rfl) ?_
    iterate 2 refine qs F Aa (Ao F Aa).q fun a F => ?_
    refine qs F Aa (KE F Aa Aa).q fun a F => ?_
    refine qs F Aa (Ao F Aa).q fun a F => ?_
    rcases bxq (decide (x10 ≤ x16)) with hb | hb
    ·
     have H := BB (B4 hb) H
     rw [hb] at F
     iterate 2 refine AR F (Ad F Aa Aa Aa Aa) Aa (As Aa) (Ao F Aa).q fun a F => ?_
     obtain ⟨x18, h7, H⟩ := Af H
     refine AR F (Ad F Aa Aa Aa Aa) Aa (As Aa) (Au (r := ri) DT F Aa Aa (Ai 0 Aa) h7).q fun a F => ?_
     refine AR F (Ad F Aa Aa Aa Aa) Aa (As Aa) (Aj (y := Jint x18) (j := 0) (i := p1) F Aa Aa (Ai 0 Aa) h7 Fl.int.to T3 Aa).q fun a F => ?_
     iterate 2 refine AR F (Ad F Aa Aa Aa Aa) Aa (As Aa) (Ao F Aa).q fun a F => ?_
     obtain ⟨x19, h8, H⟩ := Af H
     refine AR F (Ad F Aa Aa Aa Aa) Aa (As Aa) (Au (r := ri) DT F Aa Aa (Ai 0 Aa) h8).q fun a F => ?_
     refine AR F (Ad F Aa Aa Aa Aa) Aa (As Aa) (Aj (y := Jint x19) (j := 0) (i := x16) F Aa Aa (Ai 0 Aa) h8 Fl.int.to T3 Aa).q fun a F => ?_
     refine AR F (Ad F Aa Aa Aa Aa) Aa (As Aa) (AA (v := Value.bool (A2 x18 x19)) F LU Aa (fun w W => Cd any w x18 x19 _ Aa)) fun a F => ?_
     refine qs F Aa (Bq F Aa Aa Aa).q fun a F => ?_
     refine AK fun w W => ?_
     refine Ab ?_
     exact ⟨_, H, F.ra Aa, W⟩
    have H := BC (B1 hb) H
    rw [hb] at F
    iterate 9 refine Bb F (A3 F Aa Aa Aa Aa Aa) Aa Aa fun a F => ?_
    refine qs F Aa (Bh F Aa Aa Aa).q fun a F => ?_
    refine AK fun w W => ?_
    refine Ab ?_
    exact ⟨_, H, F.ra Aa, W⟩
   rintro a w ⟨x17, hj, F, W⟩
   have hj := Ay hj
   subst hj
   have H := K8
   refine Bi F Aa H (fun F H => ?_) fun F H => ?_
   ·
    refine EX tk 8 F W fun a w F W => ?_
    refine Ab ?_
    exact ⟨_, H, F.ra Aa, W⟩
   refine AN ?_
   iterate 2 refine A6 ?_
   refine AP (Ab ?_)
   have H := L7 _ H
   exact ⟨_, H, F.ra Aa, W⟩
  rintro a w ⟨x15, hj, F, W⟩
  have hj := Ay hj
  subst hj
  have H := K6
  refine vc tk 8 F W fun a w F W => ?_
  refine A1 F Aa H (fun F H => ?_) fun F H => ?_
  ·
   refine AN (A6 ?_)
   refine Mo Aa ?_
   refine A6 (AP (Ab ?_))
   have H := L2 _ H
   exact ⟨_, _, H, F.ra Aa, W⟩
  refine EX tk 3 F W fun a w F W => ?_
  refine Ig 13 [2, 3] [0, 1, 4, 5, 6, 7, 8, 9, 10, 11, 12] (fun ch a d v w h => by cases d <;> exact h) W MO (by kernel_rfl) ?_
  iterate 2 refine hm F Aa Aa Aa fun a F => ?_
  refine JL ?_
  iterate 4 refine hs F Aa Aa Aa (Ao F Aa).q fun a F => ?_
  obtain ⟨x20, h9, H⟩ := Af H
  refine hs F Aa Aa Aa (Au (r := ri) DT F Aa Aa (Ai 0 Aa) h9).q fun a F => ?_
  refine hs F Aa Aa Aa (Aj (y := Jint x20) (j := 0) (i := x15) F Aa Aa (Ai 0 Aa) h9 Fl.int.to T3 Aa).q fun a F => ?_
  iterate 2 refine hs F Aa Aa Aa (Ao F Aa).q fun a F => ?_
  obtain ⟨x21, h10, H⟩ := Af H
  refine hs F Aa Aa Aa (Au (r := ri) DT F Aa Aa (Ai 0 Aa) h10).q fun a F => ?_
  refine hs F Aa Aa Aa (Aj (y := Jint x21) (j := 0) (i := x10) F Aa Aa (Ai 0 Aa) h10 Fl.int.to T3 Aa).q fun a F => ?_
  obtain ⟨x22, h11, H⟩ := Af H
  refine hs F Aa Aa Aa (Au (r := ri) DT F Aa Aa (Ai 0 Aa) h11).q fun a F => ?_
  refine MI fun w W => ?_
  have W : Stw ⟨Y, X, w0⟩ [] [row v1 3 ri x7] w := W
  refine Br (i := x10) (j := 0) (vs := [Jint x20]) (x' := x20) F W Aa Aa Aa (k := 0) Aa Aa h11 T3 Aa Aa Aa Aa (fun A cs _ => Fl.int.sto (by rfl) _ _ _) fun w W => ?_
  obtain ⟨x23, h12, H⟩ := Af H
  refine ls F W Aa (Au (r := ri) DT F Aa Aa (Ai 0 Aa) h12).q fun a w F W => ?_
  refine Br (i := x15) (j := 0) (vs := [Jint x21]) (x' := x21) F W Aa Aa Aa (k := 0) Aa Aa h12 T3 Aa Aa Aa Aa (fun A cs _ => Fl.int.sto (by rfl) _ _ _) fun w W => ?_
  refine Bo tk 14 F W fun a w F W => ?_
  refine Az (Ab ?_)
  exact ⟨_, H, F.ra Aa, W⟩
 rintro a w ⟨x5, x6, hj, F, W⟩
 have hj := Ay hj
 subst hj
 have H := K1
 refine vc tk 6 F W fun a w F W => ?_
 refine Ah ?_
 have H := Ay H
 subst H
 refine Av (.inl Aa) F W Aa (Am F Aa) ?_
 exact ⟨(), Aa, W⟩
theorem Y8 : Has Tryz.prog 120 := BM Tryz.func120
def BZ (p0 : List Int) (p1 : Int) (p2 : Int) (p3 : Int) (x1 : Int) (x2 : Int) : Int → Option (Int ⊕ Int)
  | x6 => (if x6 ≤ (AJ (p2 - 1)) then (ix (AZ (AZ p0 p1 x1) p3 x2) x6).bind fun x8 => (ix (AZ (AZ p0 p1 x1) p3 x2) p1).bind fun x9 => some (A2 x8 x9) else some false).bind fun x7 => (if x7 = true then some (.inl (AJ (x6 + 1))) else some (.inr x6))
def Cu (p0 : List Int) (p1 : Int) (p3 : Int) (x1 : Int) (x2 : Int) (x5 : Int) : Int → Option (Int ⊕ Int)
  | x11 => (if x5 ≤ x11 then (ix (AZ (AZ p0 p1 x1) p3 x2) x11).bind fun x13 => (ix (AZ (AZ p0 p1 x1) p3 x2) p1).bind fun x14 => some (!(A2 x13 x14)) else some false).bind fun x12 => (if x12 = true then some (.inl (AJ (x11 - 1))) else some (.inr x11))
def Cv (p1 : Int) (x25 : List Int) (x27 : Int) : Int → Option (Int ⊕ Int)
  | x29 => (if x29 ≤ x27 then (ix x25 x29).bind fun x31 => (ix x25 p1).bind fun x32 => some (A2 x31 x32) else some false).bind fun x30 => (if x30 = true then some (.inl (AJ (x29 + 1))) else some (.inr x29))
def Cy (p1 : Int) (x25 : List Int) (x28 : Int) : Int → Option (Int ⊕ Int)
  | x34 => (if x28 ≤ x34 then (ix x25 x34).bind fun x36 => (ix x25 p1).bind fun x37 => some (!(A2 x36 x37)) else some false).bind fun x35 => (if x35 = true then some (.inl (AJ (x34 - 1))) else some (.inr x34))
def BH (p1 : Int) : (List Int × Int × Int) → Option ((List Int × Int × Int) ⊕ (List Int × Int))
  | (x25, x26, x27) => (AB (Cv p1 x25 x27) x26).bind fun x28 => (AB (Cy p1 x25 x28) x27).bind fun x33 => (if x33 < x28 then some (.inr (x25, x33)) else (ix x25 x33).bind fun x38 => (ix x25 x28).bind fun x39 => (ix x25 x28).bind fun x40 => (ix (AZ x25 x28 x38) x33).bind fun x41 => some (.inl ((AZ (AZ x25 x28 x38) x33 x39), AJ (x28 + 1), AJ (x33 - 1))))
def CR (p0 : List Int) (p1 : Int) (p2 : Int) (p3 : Int) : Option (Int × Bool × List Int) := (ix p0 p3).bind fun x1 => (ix p0 p1).bind fun x2 => (ix p0 p1).bind fun x3 => (ix (AZ p0 p1 x1) p3).bind fun x4 => (AB (BZ p0 p1 p2 p3 x1 x2) (AJ (p1 + 1))).bind fun x5 => (AB (Cu p0 p1 p3 x1 x2 x5) (AJ (p2 - 1))).bind fun x10 => (if x10 < x5 then (ix (AZ (AZ p0 p1 x1) p3 x2) p1).bind fun x15 => (ix (AZ (AZ p0 p1 x1) p3 x2) x10).bind fun x16 => (ix (AZ (AZ p0 p1 x1) p3 x2) x10).bind fun x17 => (ix (AZ (AZ (AZ p0 p1 x1) p3 x2) x10 x15) p1).bind fun x18 => some (x10, true, (AZ (AZ (AZ (AZ p0 p1 x1) p3 x2) x10 x15) p1 x16)) else (ix (AZ (AZ p0 p1 x1) p3 x2) x10).bind fun x19 => (ix (AZ (AZ p0 p1 x1) p3 x2) x5).bind fun x20 => (ix (AZ (AZ p0 p1 x1) p3 x2) x5).bind fun x21 => (ix (AZ (AZ (AZ p0 p1 x1) p3 x2) x5 x19) x10).bind fun x22 => (AB (BH p1) ((AZ (AZ (AZ (AZ p0 p1 x1) p3 x2) x5 x19) x10 x20), AJ (x5 + 1), AJ (x10 - 1))).bind fun (x23, x24) => (ix x23 p1).bind fun x42 => (ix x23 x24).bind fun x43 => (ix x23 x24).bind fun x44 => (ix (AZ x23 x24 x42) p1).bind fun x45 => some (x24, false, (AZ (AZ x23 x24 x42) p1 x43)))
theorem Hi (Y : Nat → Prop) (X : List Nat) (w0 : World) (v1 : Value) (p0 : List Int) (p1 : Int) (p2 : Int) (p3 : Int) (r : Int × Bool × List Int) (H : CR p0 p1 p2 p3 = some r) (hL : Stw ⟨Y, X, w0⟩ [] [row v1 3 ri p0] w0) :
    ca_ 121 #[v1, Jint p1, Jint p2, Jint p3] w0 fun e w' => ∃ x : Unit, e = .returned (.tuple #[Jint r.1, .bool r.2.1]) ∧ Stw ⟨Y, X, w0⟩ [] [row v1 3 ri r.2.2] w' := by
 refine enter Tryz.func121 Aa Tryz.ntmps121 Aa fun a F => ?_
 have W := hL
 unfold CR at H
 refine vc tk 7 F W fun a w F W => ?_
 refine Ig 13 [2, 3] [0, 1, 4, 5, 6, 7, 8, 9, 10, 11, 12] (fun ch a d v w h => by cases d <;> exact h) W MO (by kernel_rfl) ?_
 iterate 2 refine hm F Aa Aa Aa fun a F => ?_
 refine JL ?_
 iterate 4 refine hs F Aa Aa Aa (Ao F Aa).q fun a F => ?_
 obtain ⟨x1, h1, H⟩ := Af H
 refine hs F Aa Aa Aa (Au (r := ri) DT F Aa Aa (Ai 0 Aa) h1).q fun a F => ?_
 refine hs F Aa Aa Aa (Aj (y := Jint x1) (j := 0) (i := p3) F Aa Aa (Ai 0 Aa) h1 Fl.int.to T3 Aa).q fun a F => ?_
 iterate 2 refine hs F Aa Aa Aa (Ao F Aa).q fun a F => ?_
 obtain ⟨x2, h2, H⟩ := Af H
 refine hs F Aa Aa Aa (Au (r := ri) DT F Aa Aa (Ai 0 Aa) h2).q fun a F => ?_
 refine hs F Aa Aa Aa (Aj (y := Jint x2) (j := 0) (i := p1) F Aa Aa (Ai 0 Aa) h2 Fl.int.to T3 Aa).q fun a F => ?_
 obtain ⟨x3, h3, H⟩ := Af H
 refine hs F Aa Aa Aa (Au (r := ri) DT F Aa Aa (Ai 0 Aa) h3).q fun a F => ?_
 refine MI fun w W => ?_
 have W : Stw ⟨Y, X, w0⟩ [] [row v1 3 ri p0] w := W
 refine Br (i := p1) (j := 0) (vs := [Jint x1]) (x' := x1) F W Aa Aa Aa (k := 0) Aa Aa h3 T3 Aa Aa Aa Aa (fun A cs _ => Fl.int.sto (by rfl) _ _ _) fun w W => ?_
 obtain ⟨x4, h4, H⟩ := Af H
 refine ls F W Aa (Au (r := ri) DT F Aa Aa (Ai 0 Aa) h4).q fun a w F W => ?_
 refine Br (i := p3) (j := 0) (vs := [Jint x2]) (x' := x2) F W Aa Aa Aa (k := 0) Aa Aa h4 T3 Aa Aa Aa Aa (fun A cs _ => Fl.int.sto (by rfl) _ _ _) fun w W => ?_
 refine Bo tk 12 F W fun a w F W => ?_
 obtain ⟨o1, G1, K1⟩ := Af H
 refine Ap (fun a w => ∃ x5 : Int, some (x5) = some o1 ∧ Fr 168 [] [(0, v1), (1, Jint p1), (8, Jint 0), (9, .bool false), (10, Jint x5), (11, Jint (AJ (p2 - 1)))] a ∧ Stw ⟨Y, X, w0⟩ [] [row v1 3 ri (AZ (AZ p0 p1 x1) p3 x2)] w) ?_ ?_
 ·
  have H := G1
  refine Ez ?_
  refine AQ H (fun s a w => Fr 168 [] [(0, v1), (1, Jint p1), (8, Jint 0), (9, .bool false), (10, Jint s), (11, Jint (AJ (p2 - 1)))] a ∧ Stw ⟨Y, X, w0⟩ [] [row v1 3 ri (AZ (AZ p0 p1 x1) p3 x2)] w) ⟨F.ra Aa, W⟩ fun s o a w H L2 hR => ?_
  obtain ⟨x6, rfl⟩ : ∃ x, x = s := ⟨s, rfl⟩
  obtain ⟨F, W⟩ := hR
  have F : Fr 168 [] [(0, v1), (1, Jint p1), (8, Jint 0), (9, .bool false), (10, Jint x6), (11, Jint (AJ (p2 - 1)))] a := F
  have W : Stw ⟨Y, X, w0⟩ [] [row v1 3 ri (AZ (AZ p0 p1 x1) p3 x2)] w := W
  rw [BZ] at H
  refine FG ?_
  obtain ⟨o3, G3, K3⟩ := Af H
  refine Ap (fun a w => ∃ x7 : Bool, some (x7) = some o3 ∧ Fr 168 [] [(0, v1), (1, Jint p1), (8, Jint 0), (9, .bool false), (10, Jint x6), (11, Jint (AJ (p2 - 1))), (43, .bool x7)] a ∧ Stw ⟨Y, X, w0⟩ [] [row v1 3 ri (AZ (AZ p0 p1 x1) p3 x2)] w) ?_ ?_
  ·
   have H := G3
   refine B5 W MO (by kernel_rfl) ?_
   iterate 2 refine qs F Aa (Ao F Aa).q fun a F => ?_
   refine qs F Aa (KE F Aa Aa).q fun a F => ?_
   refine qs F Aa (Ao F Aa).q fun a F => ?_
   rcases bxq (decide (x6 ≤ (AJ (p2 - 1)))) with hb | hb
   ·
    have H := BB (B4 hb) H
    rw [hb] at F
    iterate 2 refine AR F (Ad F Aa Aa Aa Aa) Aa (As Aa) (Ao F Aa).q fun a F => ?_
    obtain ⟨x8, h5, H⟩ := Af H
    refine AR F (Ad F Aa Aa Aa Aa) Aa (As Aa) (Au (r := ri) DT F Aa Aa (Ai 0 Aa) h5).q fun a F => ?_
    refine AR F (Ad F Aa Aa Aa Aa) Aa (As Aa) (Aj (y := Jint x8) (j := 0) (i := x6) F Aa Aa (Ai 0 Aa) h5 Fl.int.to T3 Aa).q fun a F => ?_
    iterate 2 refine AR F (Ad F Aa Aa Aa Aa) Aa (As Aa) (Ao F Aa).q fun a F => ?_
    obtain ⟨x9, h6, H⟩ := Af H
    refine AR F (Ad F Aa Aa Aa Aa) Aa (As Aa) (Au (r := ri) DT F Aa Aa (Ai 0 Aa) h6).q fun a F => ?_
    refine AR F (Ad F Aa Aa Aa Aa) Aa (As Aa) (Aj (y := Jint x9) (j := 0) (i := p1) F Aa Aa (Ai 0 Aa) h6 Fl.int.to T3 Aa).q fun a F => ?_
    refine AR F (Ad F Aa Aa Aa Aa) Aa (As Aa) (AA (v := Value.bool (A2 x8 x9)) F LU Aa (fun w W => Cd any w x8 x9 _ Aa)) fun a F => ?_
    refine qs F Aa (Bq F Aa Aa Aa).q fun a F => ?_
    refine AK fun w W => ?_
    refine Ab ?_
    exact ⟨_, H, F.ra Aa, W⟩
   have H := BC (B1 hb) H
   rw [hb] at F
   iterate 9 refine Bb F (A3 F Aa Aa Aa Aa Aa) Aa Aa fun a F => ?_
   refine qs F Aa (Bh F Aa Aa Aa).q fun a F => ?_
   refine AK fun w W => ?_
   refine Ab ?_
   exact ⟨_, H, F.ra Aa, W⟩
  rintro a w ⟨x7, hj, F, W⟩
  have hj := Ay hj
  subst hj
  have H := K3
  refine Bi F Aa H (fun F H => ?_) fun F H => ?_
  ·
   refine EX tk 8 F W fun a w F W => ?_
   refine Ab ?_
   exact ⟨_, H, F.ra Aa, W⟩
  refine AN ?_
  iterate 2 refine A6 ?_
  refine AP (Ab ?_)
  have H := L2 _ H
  exact ⟨_, H, F.ra Aa, W⟩
 rintro a w ⟨x5, hj, F, W⟩
 have hj := Ay hj
 subst hj
 have H := K1
 obtain ⟨o4, G4, K4⟩ := Af H
 refine Ap (fun a w => ∃ x10 : Int, some (x10) = some o4 ∧ Fr 168 [] [(0, v1), (1, Jint p1), (8, Jint 0), (9, .bool false), (10, Jint x5), (11, Jint x10)] a ∧ Stw ⟨Y, X, w0⟩ [] [row v1 3 ri (AZ (AZ p0 p1 x1) p3 x2)] w) ?_ ?_
 ·
  have H := G4
  refine Ez ?_
  refine AQ H (fun s a w => Fr 168 [] [(0, v1), (1, Jint p1), (8, Jint 0), (9, .bool false), (10, Jint x5), (11, Jint s)] a ∧ Stw ⟨Y, X, w0⟩ [] [row v1 3 ri (AZ (AZ p0 p1 x1) p3 x2)] w) ⟨F.ra Aa, W⟩ fun s o a w H L5 hR => ?_
  obtain ⟨x11, rfl⟩ : ∃ x, x = s := ⟨s, rfl⟩
  obtain ⟨F, W⟩ := hR
  have F : Fr 168 [] [(0, v1), (1, Jint p1), (8, Jint 0), (9, .bool false), (10, Jint x5), (11, Jint x11)] a := F
  have W : Stw ⟨Y, X, w0⟩ [] [row v1 3 ri (AZ (AZ p0 p1 x1) p3 x2)] w := W
  rw [Cu] at H
  refine FG ?_
  obtain ⟨o6, G6, K6⟩ := Af H
  refine Ap (fun a w => ∃ x12 : Bool, some (x12) = some o6 ∧ Fr 168 [] [(0, v1), (1, Jint p1), (8, Jint 0), (9, .bool false), (10, Jint x5), (11, Jint x11), (60, .bool x12)] a ∧ Stw ⟨Y, X, w0⟩ [] [row v1 3 ri (AZ (AZ p0 p1 x1) p3 x2)] w) ?_ ?_
  ·
   have H := G6
   refine B5 W MO (by kernel_rfl) ?_
   iterate 2 refine qs F Aa (Ao F Aa).q fun a F => ?_
   refine qs F Aa (KE F Aa Aa).q fun a F => ?_
   refine qs F Aa (Ao F Aa).q fun a F => ?_
   rcases bxq (decide (x5 ≤ x11)) with hb | hb
   ·
    have H := BB (B4 hb) H
    rw [hb] at F
    iterate 2 refine AR F (Ad F Aa Aa Aa Aa) Aa (As Aa) (Ao F Aa).q fun a F => ?_
    obtain ⟨x13, h7, H⟩ := Af H
    refine AR F (Ad F Aa Aa Aa Aa) Aa (As Aa) (Au (r := ri) DT F Aa Aa (Ai 0 Aa) h7).q fun a F => ?_
    refine AR F (Ad F Aa Aa Aa Aa) Aa (As Aa) (Aj (y := Jint x13) (j := 0) (i := x11) F Aa Aa (Ai 0 Aa) h7 Fl.int.to T3 Aa).q fun a F => ?_
    iterate 2 refine AR F (Ad F Aa Aa Aa Aa) Aa (As Aa) (Ao F Aa).q fun a F => ?_
    obtain ⟨x14, h8, H⟩ := Af H
    refine AR F (Ad F Aa Aa Aa Aa) Aa (As Aa) (Au (r := ri) DT F Aa Aa (Ai 0 Aa) h8).q fun a F => ?_
    refine AR F (Ad F Aa Aa Aa Aa) Aa (As Aa) (Aj (y := Jint x14) (j := 0) (i := p1) F Aa Aa (Ai 0 Aa) h8 Fl.int.to T3 Aa).q fun a F => ?_
    refine AR F (Ad F Aa Aa Aa Aa) Aa (As Aa) (AA (v := Value.bool (A2 x13 x14)) F LU Aa (fun w W => Cd any w x13 x14 _ Aa)) fun a F => ?_
    refine AR F (Ad F Aa Aa Aa Aa) Aa (As Aa) (Jn F Aa).q fun a F => ?_
    refine qs F Aa (Bq F Aa Aa Aa).q fun a F => ?_
    refine AK fun w W => ?_
    refine Ab ?_
    exact ⟨_, H, F.ra Aa, W⟩
   have H := BC (B1 hb) H
   rw [hb] at F
   iterate 10 refine Bb F (A3 F Aa Aa Aa Aa Aa) Aa Aa fun a F => ?_
   refine qs F Aa (Bh F Aa Aa Aa).q fun a F => ?_
   refine AK fun w W => ?_
   refine Ab ?_
   exact ⟨_, H, F.ra Aa, W⟩
  rintro a w ⟨x12, hj, F, W⟩
  have hj := Ay hj
  subst hj
  have H := K6
  refine Bi F Aa H (fun F H => ?_) fun F H => ?_
  ·
   refine EX tk 8 F W fun a w F W => ?_
   refine Ab ?_
   exact ⟨_, H, F.ra Aa, W⟩
  refine AN ?_
  iterate 2 refine A6 ?_
  refine AP (Ab ?_)
  have H := L5 _ H
  exact ⟨_, H, F.ra Aa, W⟩
 rintro a w ⟨x10, hj, F, W⟩
 have hj := Ay hj
 subst hj
 have H := K4
 refine vc tk 8 F W fun a w F W => ?_
 refine A1 F Aa H (fun F H => ?_) fun F H => ?_
 ·
  refine FG ?_
  refine Ig 13 [2, 3] [0, 1, 4, 5, 6, 7, 8, 9, 10, 11, 12] (fun ch a d v w h => by cases d <;> exact h) W MO (by kernel_rfl) ?_
  iterate 2 refine hm F Aa Aa Aa fun a F => ?_
  refine JL ?_
  iterate 4 refine hs F Aa Aa Aa (Ao F Aa).q fun a F => ?_
  obtain ⟨x15, h9, H⟩ := Af H
  refine hs F Aa Aa Aa (Au (r := ri) DT F Aa Aa (Ai 0 Aa) h9).q fun a F => ?_
  refine hs F Aa Aa Aa (Aj (y := Jint x15) (j := 0) (i := p1) F Aa Aa (Ai 0 Aa) h9 Fl.int.to T3 Aa).q fun a F => ?_
  iterate 2 refine hs F Aa Aa Aa (Ao F Aa).q fun a F => ?_
  obtain ⟨x16, h10, H⟩ := Af H
  refine hs F Aa Aa Aa (Au (r := ri) DT F Aa Aa (Ai 0 Aa) h10).q fun a F => ?_
  refine hs F Aa Aa Aa (Aj (y := Jint x16) (j := 0) (i := x10) F Aa Aa (Ai 0 Aa) h10 Fl.int.to T3 Aa).q fun a F => ?_
  obtain ⟨x17, h11, H⟩ := Af H
  refine hs F Aa Aa Aa (Au (r := ri) DT F Aa Aa (Ai 0 Aa) h11).q fun a F => ?_
  refine MI fun w W => ?_
  have W : Stw ⟨Y, X, w0⟩ [] [row v1 3 ri (AZ (AZ p0 p1 x1) p3 x2)] w := W
  refine Br (i := x10) (j := 0) (vs := [Jint x15]) (x' := x15) F W Aa Aa Aa (k := 0) Aa Aa h11 T3 Aa Aa Aa Aa (fun A cs _ => Fl.int.sto (by rfl) _ _ _) fun w W => ?_
  obtain ⟨x18, h12, H⟩ := Af H
  refine ls F W Aa (Au (r := ri) DT F Aa Aa (Ai 0 Aa) h12).q fun a w F W => ?_
  refine Br (i := p1) (j := 0) (vs := [Jint x16]) (x' := x16) F W Aa Aa Aa (k := 0) Aa Aa h12 T3 Aa Aa Aa Aa (fun A cs _ => Fl.int.sto (by rfl) _ _ _) fun w W => ?_
  refine Bo tk 9 F W fun a w F W => ?_
  refine Ah (Aw ?_)
  have H := Ay H
  subst H
  refine OP (.inl Aa) F W Aa (Am F Aa) (Am F Aa) ?_
  exact ⟨(), Aa, W⟩
 refine EX tk 3 F W fun a w F W => ?_
 refine Ig 13 [2, 3] [0, 1, 4, 5, 6, 7, 8, 9, 10, 11, 12] (fun ch a d v w h => by cases d <;> exact h) W MO (by kernel_rfl) ?_
 iterate 2 refine hm F Aa Aa Aa fun a F => ?_
 refine JL ?_
 iterate 4 refine hs F Aa Aa Aa (Ao F Aa).q fun a F => ?_
 obtain ⟨x19, h13, H⟩ := Af H
 refine hs F Aa Aa Aa (Au (r := ri) DT F Aa Aa (Ai 0 Aa) h13).q fun a F => ?_
 refine hs F Aa Aa Aa (Aj (y := Jint x19) (j := 0) (i := x10) F Aa Aa (Ai 0 Aa) h13 Fl.int.to T3 Aa).q fun a F => ?_
 iterate 2 refine hs F Aa Aa Aa (Ao F Aa).q fun a F => ?_
 obtain ⟨x20, h14, H⟩ := Af H
 refine hs F Aa Aa Aa (Au (r := ri) DT F Aa Aa (Ai 0 Aa) h14).q fun a F => ?_
 refine hs F Aa Aa Aa (Aj (y := Jint x20) (j := 0) (i := x5) F Aa Aa (Ai 0 Aa) h14 Fl.int.to T3 Aa).q fun a F => ?_
 obtain ⟨x21, h15, H⟩ := Af H
 refine hs F Aa Aa Aa (Au (r := ri) DT F Aa Aa (Ai 0 Aa) h15).q fun a F => ?_
 refine MI fun w W => ?_
 have W : Stw ⟨Y, X, w0⟩ [] [row v1 3 ri (AZ (AZ p0 p1 x1) p3 x2)] w := W
 refine Br (i := x5) (j := 0) (vs := [Jint x19]) (x' := x19) F W Aa Aa Aa (k := 0) Aa Aa h15 T3 Aa Aa Aa Aa (fun A cs _ => Fl.int.sto (by rfl) _ _ _) fun w W => ?_
 obtain ⟨x22, h16, H⟩ := Af H
 refine ls F W Aa (Au (r := ri) DT F Aa Aa (Ai 0 Aa) h16).q fun a w F W => ?_
 refine Br (i := x10) (j := 0) (vs := [Jint x20]) (x' := x20) F W Aa Aa Aa (k := 0) Aa Aa h16 T3 Aa Aa Aa Aa (fun A cs _ => Fl.int.sto (by rfl) _ _ _) fun w W => ?_
 refine Bo tk 16 F W fun a w F W => ?_
 obtain ⟨o7, G7, K7⟩ := Af H
 refine Ap (fun a w => ∃ x23 : List Int, ∃ x24 : Int, some ((x23, x24)) = some o7 ∧ Fr 168 [] [(0, v1), (1, Jint p1), (8, Jint 0), (9, .bool false), (11, Jint x24)] a ∧ Stw ⟨Y, X, w0⟩ [] [row v1 3 ri x23] w) ?_ ?_
 ·
  have H := G7
  refine Ez ?_
  refine AQ H (fun s a w => Fr 168 [] [(0, v1), (1, Jint p1), (8, Jint 0), (9, .bool false), (10, Jint s.2.1), (11, Jint s.2.2)] a ∧ Stw ⟨Y, X, w0⟩ [] [row v1 3 ri s.1] w) ⟨F.ra Aa, W⟩ fun s o a w H L8 hR => ?_
  obtain ⟨x25, x26, x27⟩ := s
  obtain ⟨F, W⟩ := hR
  have F : Fr 168 [] [(0, v1), (1, Jint p1), (8, Jint 0), (9, .bool false), (10, Jint x26), (11, Jint x27)] a := F
  have W : Stw ⟨Y, X, w0⟩ [] [row v1 3 ri x25] w := W
  rw [BH] at H
  refine Ez ?_
  obtain ⟨o9, G9, K9⟩ := Af H
  refine Ap (fun a w => ∃ x28 : Int, some (x28) = some o9 ∧ Fr 168 [] [(0, v1), (1, Jint p1), (8, Jint 0), (9, .bool false), (10, Jint x28), (11, Jint x27)] a ∧ Stw ⟨Y, X, w0⟩ [] [row v1 3 ri x25] w) ?_ ?_
  ·
   have H := G9
   refine Ez ?_
   refine AQ H (fun s a w => Fr 168 [] [(0, v1), (1, Jint p1), (8, Jint 0), (9, .bool false), (10, Jint s), (11, Jint x27)] a ∧ Stw ⟨Y, X, w0⟩ [] [row v1 3 ri x25] w) ⟨F.ra Aa, W⟩ fun s o a w H L10 hR => ?_
   obtain ⟨x29, rfl⟩ : ∃ x, x = s := ⟨s, rfl⟩
   obtain ⟨F, W⟩ := hR
   have F : Fr 168 [] [(0, v1), (1, Jint p1), (8, Jint 0), (9, .bool false), (10, Jint x29), (11, Jint x27)] a := F
   have W : Stw ⟨Y, X, w0⟩ [] [row v1 3 ri x25] w := W
   rw [Cv] at H
   refine FG ?_
   obtain ⟨o11, G11, K11⟩ := Af H
   refine Ap (fun a w => ∃ x30 : Bool, some (x30) = some o11 ∧ Fr 168 [] [(0, v1), (1, Jint p1), (8, Jint 0), (9, .bool false), (10, Jint x29), (11, Jint x27), (112, .bool x30)] a ∧ Stw ⟨Y, X, w0⟩ [] [row v1 3 ri x25] w) ?_ ?_
   ·
    have H := G11
    refine B5 W MO (by kernel_rfl) ?_
    iterate 2 refine qs F Aa (Ao F Aa).q fun a F => ?_
    refine qs F Aa (KE F Aa Aa).q fun a F => ?_
    refine qs F Aa (Ao F Aa).q fun a F => ?_
    rcases bxq (decide (x29 ≤ x27)) with hb | hb
    ·
     have H := BB (B4 hb) H
     rw [hb] at F
     iterate 2 refine AR F (Ad F Aa Aa Aa Aa) Aa (As Aa) (Ao F Aa).q fun a F => ?_
     obtain ⟨x31, h17, H⟩ := Af H
     refine AR F (Ad F Aa Aa Aa Aa) Aa (As Aa) (Au (r := ri) DT F Aa Aa (Ai 0 Aa) h17).q fun a F => ?_
     refine AR F (Ad F Aa Aa Aa Aa) Aa (As Aa) (Aj (y := Jint x31) (j := 0) (i := x29) F Aa Aa (Ai 0 Aa) h17 Fl.int.to T3 Aa).q fun a F => ?_
     iterate 2 refine AR F (Ad F Aa Aa Aa Aa) Aa (As Aa) (Ao F Aa).q fun a F => ?_
     obtain ⟨x32, h18, H⟩ := Af H
     refine AR F (Ad F Aa Aa Aa Aa) Aa (As Aa) (Au (r := ri) DT F Aa Aa (Ai 0 Aa) h18).q fun a F => ?_
     refine AR F (Ad F Aa Aa Aa Aa) Aa (As Aa) (Aj (y := Jint x32) (j := 0) (i := p1) F Aa Aa (Ai 0 Aa) h18 Fl.int.to T3 Aa).q fun a F => ?_
     refine AR F (Ad F Aa Aa Aa Aa) Aa (As Aa) (AA (v := Value.bool (A2 x31 x32)) F LU Aa (fun w W => Cd any w x31 x32 _ Aa)) fun a F => ?_
     refine qs F Aa (Bq F Aa Aa Aa).q fun a F => ?_
     refine AK fun w W => ?_
     refine Ab ?_
     exact ⟨_, H, F.ra Aa, W⟩
    have H := BC (B1 hb) H
    rw [hb] at F
    iterate 9 refine Bb F (A3 F Aa Aa Aa Aa Aa) Aa Aa fun a F => ?_
    refine qs F Aa (Bh F Aa Aa Aa).q fun a F => ?_
    refine AK fun w W => ?_
    refine Ab ?_
    exact ⟨_, H, F.ra Aa, W⟩
   rintro a w ⟨x30, hj, F, W⟩
   have hj := Ay hj
   subst hj
   have H := K11
   refine Bi F Aa H (fun F H => ?_) fun F H => ?_
   ·
    refine EX tk 8 F W fun a w F W => ?_
    refine Ab ?_
    exact ⟨_, H, F.ra Aa, W⟩
   refine AN ?_
   iterate 2 refine A6 ?_
   refine AP (Ab ?_)
   have H := L10 _ H
   exact ⟨_, H, F.ra Aa, W⟩
  rintro a w ⟨x28, hj, F, W⟩
  have hj := Ay hj
  subst hj
  have H := K9
  obtain ⟨o12, G12, K12⟩ := Af H
  refine Ap (fun a w => ∃ x33 : Int, some (x33) = some o12 ∧ Fr 168 [] [(0, v1), (1, Jint p1), (8, Jint 0), (9, .bool false), (10, Jint x28), (11, Jint x33)] a ∧ Stw ⟨Y, X, w0⟩ [] [row v1 3 ri x25] w) ?_ ?_
  ·
   have H := G12
   refine Ez ?_
   refine AQ H (fun s a w => Fr 168 [] [(0, v1), (1, Jint p1), (8, Jint 0), (9, .bool false), (10, Jint x28), (11, Jint s)] a ∧ Stw ⟨Y, X, w0⟩ [] [row v1 3 ri x25] w) ⟨F.ra Aa, W⟩ fun s o a w H L13 hR => ?_
   obtain ⟨x34, rfl⟩ : ∃ x, x = s := ⟨s, rfl⟩
   obtain ⟨F, W⟩ := hR
   have F : Fr 168 [] [(0, v1), (1, Jint p1), (8, Jint 0), (9, .bool false), (10, Jint x28), (11, Jint x34)] a := F
   have W : Stw ⟨Y, X, w0⟩ [] [row v1 3 ri x25] w := W
   rw [Cy] at H
   refine FG ?_
   obtain ⟨o14, G14, K14⟩ := Af H
   refine Ap (fun a w => ∃ x35 : Bool, some (x35) = some o14 ∧ Fr 168 [] [(0, v1), (1, Jint p1), (8, Jint 0), (9, .bool false), (10, Jint x28), (11, Jint x34), (129, .bool x35)] a ∧ Stw ⟨Y, X, w0⟩ [] [row v1 3 ri x25] w) ?_ ?_
   ·
    have H := G14
    refine B5 W MO (by kernel_rfl) ?_
    iterate 2 refine qs F Aa (Ao F Aa).q fun a F => ?_
    refine qs F Aa (KE F Aa Aa).q fun a F => ?_
    refine qs F Aa (Ao F Aa).q fun a F => ?_
    rcases bxq (decide (x28 ≤ x34)) with hb | hb
    ·
     have H := BB (B4 hb) H
     rw [hb] at F
     iterate 2 refine AR F (Ad F Aa Aa Aa Aa) Aa (As Aa) (Ao F Aa).q fun a F => ?_
     obtain ⟨x36, h19, H⟩ := Af H
     refine AR F (Ad F Aa Aa Aa Aa) Aa (As Aa) (Au (r := ri) DT F Aa Aa (Ai 0 Aa) h19).q fun a F => ?_
     refine AR F (Ad F Aa Aa Aa Aa) Aa (As Aa) (Aj (y := Jint x36) (j := 0) (i := x34) F Aa Aa (Ai 0 Aa) h19 Fl.int.to T3 Aa).q fun a F => ?_
     iterate 2 refine AR F (Ad F Aa Aa Aa Aa) Aa (As Aa) (Ao F Aa).q fun a F => ?_
     obtain ⟨x37, h20, H⟩ := Af H
     refine AR F (Ad F Aa Aa Aa Aa) Aa (As Aa) (Au (r := ri) DT F Aa Aa (Ai 0 Aa) h20).q fun a F => ?_
     refine AR F (Ad F Aa Aa Aa Aa) Aa (As Aa) (Aj (y := Jint x37) (j := 0) (i := p1) F Aa Aa (Ai 0 Aa) h20 Fl.int.to T3 Aa).q fun a F => ?_
     refine AR F (Ad F Aa Aa Aa Aa) Aa (As Aa) (AA (v := Value.bool (A2 x36 x37)) F LU Aa (fun w W => Cd any w x36 x37 _ Aa)) fun a F => ?_
     refine AR F (Ad F Aa Aa Aa Aa) Aa (As Aa) (Jn F Aa).q fun a F => ?_
     refine qs F Aa (Bq F Aa Aa Aa).q fun a F => ?_
     refine AK fun w W => ?_
     refine Ab ?_
     exact ⟨_, H, F.ra Aa, W⟩
    have H := BC (B1 hb) H
    rw [hb] at F
    iterate 10 refine Bb F (A3 F Aa Aa Aa Aa Aa) Aa Aa fun a F => ?_
    refine qs F Aa (Bh F Aa Aa Aa).q fun a F => ?_
    refine AK fun w W => ?_
    refine Ab ?_
    exact ⟨_, H, F.ra Aa, W⟩
   rintro a w ⟨x35, hj, F, W⟩
   have hj := Ay hj
   subst hj
   have H := K14
   refine Bi F Aa H (fun F H => ?_) fun F H => ?_
   ·
    refine EX tk 8 F W fun a w F W => ?_
    refine Ab ?_
    exact ⟨_, H, F.ra Aa, W⟩
   refine AN ?_
   iterate 2 refine A6 ?_
   refine AP (Ab ?_)
   have H := L13 _ H
   exact ⟨_, H, F.ra Aa, W⟩
  rintro a w ⟨x33, hj, F, W⟩
  have hj := Ay hj
  subst hj
  have H := K12
  refine vc tk 8 F W fun a w F W => ?_
  refine A1 F Aa H (fun F H => ?_) fun F H => ?_
  ·
   refine AN (A6 ?_)
   refine Mo Aa ?_
   refine A6 (AP (Ab ?_))
   have H := L8 _ H
   exact ⟨_, _, H, F.ra Aa, W⟩
  refine EX tk 3 F W fun a w F W => ?_
  refine Ig 13 [2, 3] [0, 1, 4, 5, 6, 7, 8, 9, 10, 11, 12] (fun ch a d v w h => by cases d <;> exact h) W MO (by kernel_rfl) ?_
  iterate 2 refine hm F Aa Aa Aa fun a F => ?_
  refine JL ?_
  iterate 4 refine hs F Aa Aa Aa (Ao F Aa).q fun a F => ?_
  obtain ⟨x38, h21, H⟩ := Af H
  refine hs F Aa Aa Aa (Au (r := ri) DT F Aa Aa (Ai 0 Aa) h21).q fun a F => ?_
  refine hs F Aa Aa Aa (Aj (y := Jint x38) (j := 0) (i := x33) F Aa Aa (Ai 0 Aa) h21 Fl.int.to T3 Aa).q fun a F => ?_
  iterate 2 refine hs F Aa Aa Aa (Ao F Aa).q fun a F => ?_
  obtain ⟨x39, h22, H⟩ := Af H
  refine hs F Aa Aa Aa (Au (r := ri) DT F Aa Aa (Ai 0 Aa) h22).q fun a F => ?_
  refine hs F Aa Aa Aa (Aj (y := Jint x39) (j := 0) (i := x28) F Aa Aa (Ai 0 Aa) h22 Fl.int.to T3 Aa).q fun a F => ?_
  obtain ⟨x40, h23, H⟩ := Af H
  refine hs F Aa Aa Aa (Au (r := ri) DT F Aa Aa (Ai 0 Aa) h23).q fun a F => ?_
  refine MI fun w W => ?_
  have W : Stw ⟨Y, X, w0⟩ [] [row v1 3 ri x25] w := W
  refine Br (i := x28) (j := 0) (vs := [Jint x38]) (x' := x38) F W Aa Aa Aa (k := 0) Aa Aa h23 T3 Aa Aa Aa Aa (fun A cs _ => Fl.int.sto (by rfl) _ _ _) fun w W => ?_
  obtain ⟨x41, h24, H⟩ := Af H
  refine ls F W Aa (Au (r := ri) DT F Aa Aa (Ai 0 Aa) h24).q fun a w F W => ?_
  refine Br (i := x33) (j := 0) (vs := [Jint x39]) (x' := x39) F W Aa Aa Aa (k := 0) Aa Aa h24 T3 Aa Aa Aa Aa (fun A cs _ => Fl.int.sto (by rfl) _ _ _) fun w W => ?_
  refine Bo tk 14 F W fun a w F W => ?_
  refine Az (Ab ?_)
  exact ⟨_, H, F.ra Aa, W⟩
 rintro a w ⟨x23, x24, hj, F, W⟩
 have hj := Ay hj
 subst hj
 have H := K7
 refine FG ?_
 refine Ig 13 [2, 3] [0, 1, 4, 5, 6, 7, 8, 9, 10, 11, 12] (fun ch a d v w h => by cases d <;> exact h) W MO (by kernel_rfl) ?_
 iterate 2 refine hm F Aa Aa Aa fun a F => ?_
 refine JL ?_
 iterate 4 refine hs F Aa Aa Aa (Ao F Aa).q fun a F => ?_
 obtain ⟨x42, h25, H⟩ := Af H
 refine hs F Aa Aa Aa (Au (r := ri) DT F Aa Aa (Ai 0 Aa) h25).q fun a F => ?_
 refine hs F Aa Aa Aa (Aj (y := Jint x42) (j := 0) (i := p1) F Aa Aa (Ai 0 Aa) h25 Fl.int.to T3 Aa).q fun a F => ?_
 iterate 2 refine hs F Aa Aa Aa (Ao F Aa).q fun a F => ?_
 obtain ⟨x43, h26, H⟩ := Af H
 refine hs F Aa Aa Aa (Au (r := ri) DT F Aa Aa (Ai 0 Aa) h26).q fun a F => ?_
 refine hs F Aa Aa Aa (Aj (y := Jint x43) (j := 0) (i := x24) F Aa Aa (Ai 0 Aa) h26 Fl.int.to T3 Aa).q fun a F => ?_
 obtain ⟨x44, h27, H⟩ := Af H
 refine hs F Aa Aa Aa (Au (r := ri) DT F Aa Aa (Ai 0 Aa) h27).q fun a F => ?_
 refine MI fun w W => ?_
 have W : Stw ⟨Y, X, w0⟩ [] [row v1 3 ri x23] w := W
 refine Br (i := x24) (j := 0) (vs := [Jint x42]) (x' := x42) F W Aa Aa Aa (k := 0) Aa Aa h27 T3 Aa Aa Aa Aa (fun A cs _ => Fl.int.sto (by rfl) _ _ _) fun w W => ?_
 obtain ⟨x45, h28, H⟩ := Af H
 refine ls F W Aa (Au (r := ri) DT F Aa Aa (Ai 0 Aa) h28).q fun a w F W => ?_
 refine Br (i := p1) (j := 0) (vs := [Jint x43]) (x' := x43) F W Aa Aa Aa (k := 0) Aa Aa h28 T3 Aa Aa Aa Aa (fun A cs _ => Fl.int.sto (by rfl) _ _ _) fun w W => ?_
 refine Bo tk 9 F W fun a w F W => ?_
 refine Ah ?_
 have H := Ay H
 subst H
 refine OP (.inl Aa) F W Aa (Am F Aa) (Am F Aa) ?_
 exact ⟨(), Aa, W⟩
theorem UN : type_of% Tryz.underlying134 := Tryz.underlying134
theorem Y3 : Has Tryz.prog 121 := BM Tryz.func121
theorem ZX : Has Tryz.prog 92 := BM Tryz.func92
theorem Y2 : (Tryz.prog.info? 177).bind (·.zero) = some (.int .u64 0) := by kernel_rfl
theorem Pb : Ty Tryz.prog 177 false 1 := ⟨by kernel_rfl, by kernel_rfl⟩
def Da (p0 : Int) : Option Int := (FA (IntKind.u64.wrap p0)).bind fun x1 => (XB (Ht .u64 1 x1) x1).bind fun x2 => some x2
theorem I1 (Y : Nat → Prop) (w0 : World)  (p0 : Int) (r : Int) (H : Da p0 = some r)  :
    ca_ 140 #[Jint p0] w0 fun e w' => e = .returned (.int .u64 r) ∧ Below w0.heap.size w0 w' := by
 refine enter Tryz.func140 Aa Tryz.ntmps140 Aa fun a F => ?_
 have W := Stw.start Y w0
 unfold Da at H
 refine vc tk 8 F W fun a w F W => ?_
 refine ls F W Aa (J9 V9 UN F Aa).q fun a w F W => ?_
 obtain ⟨x1, h1, H⟩ := Af H
 refine ls F W Aa (AA (v := Jint x1) F aA Aa (fun w W => Jf any w (IntKind.u64.wrap p0) _ h1)) fun a w F W => ?_
 obtain ⟨x2, h2, H⟩ := Af H
 refine ls F W Aa (WB (LC h2).2 (ST F Aa Aa (LC h2).1)).q fun a w F W => ?_
 refine Bo tk 3 F W fun a w F W => ?_
 refine Ah ?_
 have H := Ay H
 subst H
 refine Av (.inl Aa) F W Aa (Am F Aa) ?_
 exact ⟨rfl, W.done⟩
theorem ZY : Has Tryz.prog 140 := BM Tryz.func140
def BD (p0 : Int) : Int × Int := (GX .u64 (GX .u64 (GX .u64 p0 (Ht .u64 p0 13)) (Jr .u64 (GX .u64 p0 (Ht .u64 p0 13)) 7)) (Ht .u64 (GX .u64 (GX .u64 p0 (Ht .u64 p0 13)) (Jr .u64 (GX .u64 p0 (Ht .u64 p0 13)) 7)) 17), GX .u64 (GX .u64 (GX .u64 p0 (Ht .u64 p0 13)) (Jr .u64 (GX .u64 p0 (Ht .u64 p0 13)) 7)) (Ht .u64 (GX .u64 (GX .u64 p0 (Ht .u64 p0 13)) (Jr .u64 (GX .u64 p0 (Ht .u64 p0 13)) 7)) 17))
theorem Jc (Y : Nat → Prop) (X : List Nat) (w0 : World) (q_p0 : Nat) (p0 : Int) (r : Int × Int) (H : BD p0 = r) (hL : Stw ⟨Y, X, w0⟩ [(q_p0, [.int .u64 p0])] [] w0) :
    ca_ 141 #[pp q_p0] w0 fun e w' => ∃ x : Unit, e = .returned (.int .u64 r.1) ∧ Stw ⟨Y, X, w0⟩ [(q_p0, [.int .u64 r.2])] [] w' := by
 refine enter Tryz.func141 Aa Tryz.ntmps141 Aa fun a F => ?_
 have W := hL
 unfold BD at H
 refine vc tk 6 F W fun a w F W => ?_
 refine Lz 9 W MO (by kernel_rfl) ?_
 refine qs F Aa (Ao F Aa).q fun a F => ?_
 refine qs F Aa (Cj F Aa).q fun a F => ?_
 refine qs F Aa (Bk (v := Value.int .u64 p0) 0 F Aa Aa Pb Aa).q fun a F => ?_
 refine qs F Aa (Ao F Aa).q fun a F => ?_
 refine qs F Aa (Cj F Aa).q fun a F => ?_
 refine qs F Aa (Bk (v := Value.int .u64 p0) 0 F Aa Aa Pb Aa).q fun a F => ?_
 refine qs F Aa (ST F Aa Aa (by decide)).q fun a F => ?_
 refine qs F Aa (Tg F Aa Aa).q fun a F => ?_
 refine qs F Aa (Cj F Aa).q fun a F => ?_
 refine AK fun w W => ?_
 refine CE 0 F W Aa Aa Aa Pb Aa Aa Aa fun w W => ?_
 refine Bo tk 3 F W fun a w F W => ?_
 refine Lz 9 W MO (by kernel_rfl) ?_
 refine qs F Aa (Ao F Aa).q fun a F => ?_
 refine qs F Aa (Cj F Aa).q fun a F => ?_
 refine qs F Aa (Bk (v := Value.int .u64 (GX .u64 p0 (Ht .u64 p0 13))) 0 F Aa Aa Pb Aa).q fun a F => ?_
 refine qs F Aa (Ao F Aa).q fun a F => ?_
 refine qs F Aa (Cj F Aa).q fun a F => ?_
 refine qs F Aa (Bk (v := Value.int .u64 (GX .u64 p0 (Ht .u64 p0 13))) 0 F Aa Aa Pb Aa).q fun a F => ?_
 refine qs F Aa (Tx F Aa Aa (by decide)).q fun a F => ?_
 refine qs F Aa (Tg F Aa Aa).q fun a F => ?_
 refine qs F Aa (Cj F Aa).q fun a F => ?_
 refine AK fun w W => ?_
 refine CE 0 F W Aa Aa Aa Pb Aa Aa Aa fun w W => ?_
 refine Bo tk 3 F W fun a w F W => ?_
 refine Lz 9 W MO (by kernel_rfl) ?_
 refine qs F Aa (Ao F Aa).q fun a F => ?_
 refine qs F Aa (Cj F Aa).q fun a F => ?_
 refine qs F Aa (Bk (v := Value.int .u64 (GX .u64 (GX .u64 p0 (Ht .u64 p0 13)) (Jr .u64 (GX .u64 p0 (Ht .u64 p0 13)) 7))) 0 F Aa Aa Pb Aa).q fun a F => ?_
 refine qs F Aa (Ao F Aa).q fun a F => ?_
 refine qs F Aa (Cj F Aa).q fun a F => ?_
 refine qs F Aa (Bk (v := Value.int .u64 (GX .u64 (GX .u64 p0 (Ht .u64 p0 13)) (Jr .u64 (GX .u64 p0 (Ht .u64 p0 13)) 7))) 0 F Aa Aa Pb Aa).q fun a F => ?_
 refine qs F Aa (ST F Aa Aa (by decide)).q fun a F => ?_
 refine qs F Aa (Tg F Aa Aa).q fun a F => ?_
 refine qs F Aa (Cj F Aa).q fun a F => ?_
 refine AK fun w W => ?_
 refine CE 0 F W Aa Aa Aa Pb Aa Aa Aa fun w W => ?_
 refine Bo tk 5 F W fun a w F W => ?_
 refine ls F W Aa (Cj F Aa).q fun a w F W => ?_
 refine Es tk 4 [0] F W (ai fun a w F W => ?_)
 refine Ah ?_
 subst H
 refine Av (.inl Aa) F W Aa (Am F Aa) ?_
 exact ⟨(), Aa, W⟩
theorem YD : type_of% Tryz.underlying177 := Tryz.underlying177
theorem Zt : Has Tryz.prog 141 := BM Tryz.func141
def BI (p1 : Int) (p2 : Int) (x1 : Int) : (List Int × Int × Int) → Option ((List Int × Int × Int) ⊕ (List Int))
  | (x2, x3, x4) => (if x3 ≤ (AJ ((AJ (p1 + (AJ ((AJ (Int.tdiv (AJ (p2 - p1)) 4)) * 2)))) + 1)) then (if (AJ (p2 - p1)) ≤ (AJ (RD .u64 ((BD x4).1) (IntKind.u64.wrap (x1 - 1)))) then some (AJ ((AJ (RD .u64 ((BD x4).1) (IntKind.u64.wrap (x1 - 1)))) - (AJ (p2 - p1)))) else some (AJ (RD .u64 ((BD x4).1) (IntKind.u64.wrap (x1 - 1))))).bind fun x5 => (ix x2 (AJ (p1 + x5))).bind fun x6 => (ix x2 x3).bind fun x7 => (ix x2 x3).bind fun x8 => (ix (AZ x2 x3 x6) (AJ (p1 + x5))).bind fun x9 => some (.inl ((AZ (AZ x2 x3 x6) (AJ (p1 + x5)) x7), AJ (x3 + 1), (BD x4).2)) else some (.inr x2))
def BT (p0 : List Int) (p1 : Int) (p2 : Int) : Option (List Int) := (if 8 ≤ (AJ (p2 - p1)) then (Da (AJ (p2 - p1))).bind fun x1 => AB (BI p1 p2 x1) (p0, AJ ((AJ (p1 + (AJ ((AJ (Int.tdiv (AJ (p2 - p1)) 4)) * 2)))) - 1), IntKind.u64.wrap (AJ (p2 - p1))) else some p0)
theorem Gy (Y : Nat → Prop) (X : List Nat) (w0 : World) (v1 : Value) (p0 : List Int) (p1 : Int) (p2 : Int) (r : List Int) (H : BT p0 p1 p2 = some r) (hL : Stw ⟨Y, X, w0⟩ [] [row v1 3 ri p0] w0) :
    ca_ 115 #[v1, Jint p1, Jint p2] w0 fun e w' => ∃ x : Unit, e = .returned (.tuple #[]) ∧ Stw ⟨Y, X, w0⟩ [] [row v1 3 ri r] w' := by
 refine enter Tryz.func115 Aa Tryz.ntmps115 Aa fun a F => ?_
 have W := hL
 unfold BT at H
 refine vc tk 14 F W fun a w F W => ?_
 refine A1 F Aa H (fun F H => ?_) fun F H => ?_
 ·
  refine vc tk 3 F W fun a w F W => ?_
  refine ls F W Aa (J9 V9 YD F Aa).q fun a w F W => ?_
  refine Bw (cs := [.int .u64 0]) F W Aa Y2 Aa fun b1 a w F W => ?_
  refine CE 0 F W Aa Aa Aa Pb Aa Aa Aa fun w W => ?_
  refine Bo tk 5 F W fun a w F W => ?_
  obtain ⟨x1, h1, H⟩ := Af H
  refine ls F W Aa (AA (v := Value.int .u64 x1) F ZY Aa (fun w W => I1 any w (AJ (p2 - p1)) _ h1)) fun a w F W => ?_
  refine Bo tk 7 F W fun a w F W => ?_
  refine ls F W Aa (N0 F Aa Aa (by decide) Aa).q fun a w F W => ?_
  refine Bo tk 7 F W fun a w F W => ?_
  refine AQ H (fun s a w => Fr 65 [] [(0, v1), (1, Jint p1), (6, Jint (AJ (p2 - p1))), (7, pp b1), (8, .int .u64 x1), (9, Jint s.2.1)] a ∧ Stw ⟨Y, X, w0⟩ [(b1, [.int .u64 s.2.2])] [row v1 3 ri s.1] w) ⟨F.ra Aa, W⟩ fun s o a w H L1 hR => ?_
  obtain ⟨x2, x3, x4⟩ := s
  obtain ⟨F, W⟩ := hR
  have F : Fr 65 [] [(0, v1), (1, Jint p1), (6, Jint (AJ (p2 - p1))), (7, pp b1), (8, .int .u64 x1), (9, Jint x3)] a := F
  have W : Stw ⟨Y, X, w0⟩ [(b1, [.int .u64 x4])] [row v1 3 ri x2] w := W
  rw [BI] at H
  refine vc tk 6 F W fun a w F W => ?_
  refine ls F W Aa (N0 F Aa Aa (by decide) Aa).q fun a w F W => ?_
  refine Bo tk 6 F W fun a w F W => ?_
  refine A1 F Aa H (fun F H => ?_) fun F H => ?_
  ·
   refine EX tk 6 F W fun a w F W => ?_
   refine AO (Ml := [(b1, [.int .u64 x4])]) (Zl := []) (β := Unit) (rv := fun x => .int .u64 ((BD x4).1)) (MM := fun x => [(b1, [.int .u64 ((BD x4).2)])]) (ZZ := fun x => []) F W Zt Aa Aa (fun hL => Jc _ _ w b1 x4 _ Aa hL) fun x a w F W => ?_
   have W : Stw ⟨Y, X, w0⟩ [(b1, [.int .u64 ((BD x4).2)])] [row v1 3 ri x2] w := W
   refine vl tk 3 F W fun a w F W => ?_
   refine ls F W Aa (J9 UN V9 F Aa).q fun a w F W => ?_
   refine vl tk 2 F W fun a w F W => ?_
   refine Ab ?_
   obtain ⟨o2, G2, K2⟩ := Af H
   refine Ap (fun a w => ∃ x5 : Int, some (x5) = some o2 ∧ Fr 65 [] [(0, v1), (1, Jint p1), (6, Jint (AJ (p2 - p1))), (7, pp b1), (8, .int .u64 x1), (9, Jint x3), (10, Jint x5)] a ∧ Stw ⟨Y, X, w0⟩ [(b1, [.int .u64 ((BD x4).2)])] [row v1 3 ri x2] w) ?_ ?_
   ·
    have H := G2
    refine vc tk 7 F W fun a w F W => ?_
    refine A1 F Aa H (fun F H => ?_) fun F H => ?_
    ·
     refine vc tk 6 F W fun a w F W => ?_
     refine Ab ?_
     exact ⟨_, H, F.ra Aa, W⟩
    refine AD (Ab ?_)
    exact ⟨_, H, F.ra Aa, W⟩
   rintro a w ⟨x5, hj, F, W⟩
   have hj := Ay hj
   subst hj
   have H := K2
   refine Ef [(true, 0), (true, 1), (true, 2), (true, 3), (true, 4), (true, 5), (true, 6), (true, 7), (true, 8), (true, 9), (true, 10), (true, 11), (true, 12), (true, 13), (true, 14), (true, 15), (true, 16), (false, 17), (true, 18), (false, 19)] (CN ⟨Y, X, w0⟩ [] [(some 17, row v1 3 ri x2)]) (fun ch a d v w h => by cases d <;> exact h) MO (by kernel_rfl) W (fun w W => ⟨_, _, W, Ak, (all_cons (fun _ => (.head _)) Ak)⟩) fun w W => ?_
   iterate 5 refine A9 (R := []) F Aa Aa (yC fun M Z hN hZ => Ao F Aa) Aa Aa fun a F => ?_
   refine A9 (R := []) F Aa Aa (yC fun M Z hN hZ => HR F Aa Aa Aa) Aa Aa fun a F => ?_
   iterate 3 refine A9 (R := []) F Aa Aa (yC fun M Z hN hZ => Ao F Aa) Aa Aa fun a F => ?_
   refine A9 (R := []) F Aa Aa (yC fun M Z hN hZ => HR F Aa Aa Aa) Aa Aa fun a F => ?_
   obtain ⟨x6, h2, H⟩ := Af H
   refine A9 (R := []) F Aa Aa (yC fun M Z hN hZ => Co (r := ri) DT F Aa Aa (EO W (Ai 0 Aa)) h2) Aa Aa fun a F => ?_
   refine A9 (R := [17]) F Aa Aa (yC fun M Z hN hZ => Aj (y := Jint x6) (j := 0) (i := AJ (p1 + x5)) F Aa Aa (EF (hZ ((some 17), row v1 3 ri x2) (.head _) Aa)) h2 Fl.int.to T3 Aa) (by kernel_rfl) Aa fun a F => ?_
   iterate 2 refine A9 (R := []) F Aa Aa (yC fun M Z hN hZ => Ao F Aa) Aa Aa fun a F => ?_
   obtain ⟨x7, h3, H⟩ := Af H
   refine A9 (R := []) F Aa Aa (yC fun M Z hN hZ => Co (r := ri) DT F Aa Aa (EO W (Ai 0 Aa)) h3) Aa Aa fun a F => ?_
   refine A9 (R := [17]) F Aa Aa (yC fun M Z hN hZ => Aj (y := Jint x7) (j := 0) (i := x3) F Aa Aa (EF (hZ ((some 17), row v1 3 ri x2) (.head _) Aa)) h3 Fl.int.to T3 Aa) (by kernel_rfl) Aa fun a F => ?_
   obtain ⟨x8, h4, H⟩ := Af H
   refine A9 (R := []) F Aa Aa (yC fun M Z hN hZ => Co (r := ri) DT F Aa Aa (EO W (Ai 0 Aa)) h4) Aa Aa fun a F => ?_
   refine Dt Aa ?_
   refine Br (i := x3) (j := 0) (vs := [Jint x6]) (x' := x6) F W Aa Aa Aa (k := 0) Aa Aa h4 T3 Aa Aa Aa Aa (fun A cs _ => Fl.int.sto (by rfl) _ _ _) fun w W => ?_
   refine Bc (N2 := []) (NZ2 := []) (N3 := []) (NZ3 := [(some 17, row v1 3 ri x2)]) W Aa Aa Ak (all_cons (fun h => An (by kernel_rfl) h) Ak) ?_
   obtain ⟨x9, h5, H⟩ := Af H
   refine A9 (R := []) F Aa Aa (yC fun M Z hN hZ => Co (r := ri) DT F Aa Aa (EO W (Ai 0 Aa)) h5) Aa Aa fun a F => ?_
   refine Dt Aa ?_
   refine Br (i := AJ (p1 + x5)) (j := 0) (vs := [Jint x7]) (x' := x7) F W Aa Aa Aa (k := 0) Aa Aa h5 T3 Aa Aa Aa Aa (fun A cs _ => Fl.int.sto (by rfl) _ _ _) fun w W => ?_
   refine Bc (N2 := []) (NZ2 := []) (N3 := []) (NZ3 := [(some 17, row v1 3 ri x2)]) W Aa Aa Ak (all_cons (fun h => An (by kernel_rfl) h) Ak) ?_
   refine FL (Az ?_)
   refine vn tk 5 F W fun a w F W => ?_
   refine Ab ?_
   exact ⟨_, H, F.ra Aa, W⟩
  refine AN ?_
  iterate 2 refine A6 ?_
  refine AP ?_
  have H := L1 _ H
  have H := Ay H
  subst H
  refine J0 (.inr Aa) F Aa ?_
  have W := W.sub (M' := []) (Z' := [row v1 3 ri x2]) nl sr
  exact ⟨(), Aa, W⟩
 refine AD ?_
 have H := Ay H
 subst H
 refine J0 (.inr Aa) F Aa ?_
 exact ⟨(), Aa, W⟩
theorem ZK : Has Tryz.prog 115 := BM Tryz.func115
def AF (fRec : (List Int) → Int → Int → Int → Option (List Int)) : (List Int × Int × Int × Int × Bool × Bool) → Option ((List Int × Int × Int × Int × Bool × Bool) ⊕ (List Int))
  | (x1, x2, x3, x4, x5, x6) => (if (AJ (x3 - x2)) ≤ 12 then (Cp x1 x2 x3).bind fun x7 => some (.inr x7) else (if x4 = 0 then (C0 x1 x2 x3).bind fun x8 => some (.inr x8) else (if (!x5) = true then (BT x1 x2 x3).bind fun x11 => some (x11, AJ (x4 - 1)) else some (x1, x4)).bind fun (x9, x10) => (CF x9 x2 x3).bind fun x12 => (if x12.2 = 2 then (BX x9 x2 x3).bind fun x16 => some (x16, AJ ((AJ (x3 - 1)) - (AJ (x12.1 - x2))), 1) else some (x9, x12.1, x12.2)).bind fun (x13, x14, x15) => HA (if (x5 && (x6 && decide (x15 = 1))) = true then (Bv x13 x2 x3).bind fun x18 => (if x18.1 = true then some (.inr (.inr x18.2)) else some (.inl x18.2)) else some (.inl x13)) fun x17 => (if 0 < x2 then (ix x17 (AJ (x2 - 1))).bind fun x20 => (ix x17 x14).bind fun x21 => some (!(A2 x20 x21)) else some false).bind fun x19 => (if x19 = true then (Cg x17 x2 x3 x14).bind fun x22 => some (.inl (x22.2, x22.1, x3, x10, (x5 && (x6 || true)), (bif x5 then x6 else x6))) else (CR x17 x2 x3 x14).bind fun x23 => (if (AJ (x23.1 - x2)) < (AJ (x3 - x23.1)) then (fRec x23.2.2 x2 x23.1 x10).bind fun x24 => some (.inl (x24, AJ (x23.1 + 1), x3, x10, decide ((AJ (Int.tdiv (AJ (x3 - x2)) 8)) ≤ (AJ (x23.1 - x2))), x23.2.1)) else (fRec x23.2.2 (AJ (x23.1 + 1)) x3 x10).bind fun x25 => some (.inl (x25, x2, x23.1, x10, decide ((AJ (Int.tdiv (AJ (x3 - x2)) 8)) ≤ (AJ (x3 - x23.1))), x23.2.1))))))
def DX (fRec : (List Int) → Int → Int → Int → Option (List Int)) (p0 : List Int) (p1 : Int) (p2 : Int) (p3 : Int) : Option (List Int) := AB (AF fRec) (p0, p1, p2, p3, true, true)
def A4 : Nat → (List Int) → Int → Int → Int → Option (List Int)
  | 0 => fun _ _ _ _ => none
  | n + 1 => DX (A4 n)
def Du (p0 : List Int) (p1 : Int) (p2 : Int) (p3 : Int) : Option (List Int) := FT fun n => A4 n p0 p1 p2 p3
theorem Hn (fRec : (List Int) → Int → Int → Int → Option (List Int)) (ih : ∀ (Y : Nat → Prop) (X : List Nat) (w0 : World) (v1 : Value) (p0 : List Int) (p1 : Int) (p2 : Int) (p3 : Int) (r : List Int) (H : fRec p0 p1 p2 p3 = some r) (hL : Stw ⟨Y, X, w0⟩ [] [row v1 3 ri p0] w0), ca_ 92 #[v1, Jint p1, Jint p2, Jint p3] w0 fun e w' => ∃ x : Unit, e = .returned (.tuple #[]) ∧ Stw ⟨Y, X, w0⟩ [] [row v1 3 ri r] w') (Y : Nat → Prop) (X : List Nat) (w0 : World) (v1 : Value) (p0 : List Int) (p1 : Int) (p2 : Int) (p3 : Int) (r : List Int) (H : DX fRec p0 p1 p2 p3 = some r) (hL : Stw ⟨Y, X, w0⟩ [] [row v1 3 ri p0] w0) :
    ca_ 92 #[v1, Jint p1, Jint p2, Jint p3] w0 fun e w' => ∃ x : Unit, e = .returned (.tuple #[]) ∧ Stw ⟨Y, X, w0⟩ [] [row v1 3 ri r] w' := by
 refine enter Tryz.func92 Aa Tryz.ntmps92 Aa fun a F => ?_
 have W := hL
 unfold DX at H
 refine vc tk 11 F W fun a w F W => ?_
 refine AQ H (fun s a w => Fr 134 [] [(0, v1), (1, Jint s.2.1), (2, Jint s.2.2.1), (3, Jint s.2.2.2.1), (8, .bool s.2.2.2.2.1), (9, .bool s.2.2.2.2.2)] a ∧ Stw ⟨Y, X, w0⟩ [] [row v1 3 ri s.1] w) ⟨F.ra Aa, W⟩ fun s o a w H L1 hR => ?_
 obtain ⟨x1, x2, x3, x4, x5, x6⟩ := s
 obtain ⟨F, W⟩ := hR
 have F : Fr 134 [] [(0, v1), (1, Jint x2), (2, Jint x3), (3, Jint x4), (8, .bool x5), (9, .bool x6)] a := F
 have W : Stw ⟨Y, X, w0⟩ [] [row v1 3 ri x1] w := W
 rw [AF] at H
 refine vc tk 16 F W fun a w F W => ?_
 refine A1 F Aa H (fun F H => ?_) fun F H => ?_
 ·
  refine vc tk 5 F W fun a w F W => ?_
  obtain ⟨x7, h1, H⟩ := Af H
  refine AO (Ml := []) (Zl := [row v1 3 ri x1]) (β := Unit) (rv := fun x => .tuple #[]) (MM := fun x => []) (ZZ := fun x => [row v1 3 ri x7]) F W ZS Aa Aa (fun hL => Gz _ _ w (v1) x1 x2 x3 _ h1 hL) fun x a w F W => ?_
  have W : Stw ⟨Y, X, w0⟩ [] [row v1 3 ri x7] w := W
  refine Bo tk 2 F W fun a w F W => ?_
  refine Ah (Aw (AC (Aw (AC ?_))))
  have H := L1 _ H
  have H := Ay H
  subst H
  refine J0 (.inl Aa) F Aa ?_
  exact ⟨(), Aa, W⟩
 refine EX tk 9 F W fun a w F W => ?_
 refine A1 F Aa H (fun F H => ?_) fun F H => ?_
 ·
  refine vc tk 5 F W fun a w F W => ?_
  obtain ⟨x8, h2, H⟩ := Af H
  refine AO (Ml := []) (Zl := [row v1 3 ri x1]) (β := Unit) (rv := fun x => .tuple #[]) (MM := fun x => []) (ZZ := fun x => [row v1 3 ri x8]) F W Zb Aa Aa (fun hL => Hu _ _ w (v1) x1 x2 x3 _ h2 hL) fun x a w F W => ?_
  have W : Stw ⟨Y, X, w0⟩ [] [row v1 3 ri x8] w := W
  refine Bo tk 2 F W fun a w F W => ?_
  refine Ah (Aw (AC (Aw (AC ?_))))
  have H := L1 _ H
  have H := Ay H
  subst H
  refine J0 (.inl Aa) F Aa ?_
  exact ⟨(), Aa, W⟩
 refine AD (Ab ?_)
 obtain ⟨o2, G2, K2⟩ := Af H
 refine Ap (fun a w => ∃ x9 : List Int, ∃ x10 : Int, some ((x9, x10)) = some o2 ∧ Fr 134 [] [(0, v1), (1, Jint x2), (2, Jint x3), (3, Jint x10), (8, .bool x5), (9, .bool x6), (10, Jint (AJ (x3 - x2)))] a ∧ Stw ⟨Y, X, w0⟩ [] [row v1 3 ri x9] w) ?_ ?_
 ·
  have H := G2
  refine vc tk 6 F W fun a w F W => ?_
  refine Bi F Aa H (fun F H => ?_) fun F H => ?_
  ·
   refine vc tk 5 F W fun a w F W => ?_
   obtain ⟨x11, h3, H⟩ := Af H
   refine AO (Ml := []) (Zl := [row v1 3 ri x1]) (β := Unit) (rv := fun x => .tuple #[]) (MM := fun x => []) (ZZ := fun x => [row v1 3 ri x11]) F W ZK Aa Aa (fun hL => Gy _ _ w (v1) x1 x2 x3 _ h3 hL) fun x a w F W => ?_
   have W : Stw ⟨Y, X, w0⟩ [] [row v1 3 ri x11] w := W
   refine Bo tk 7 F W fun a w F W => ?_
   refine Ab ?_
   exact ⟨_, _, H, F.ra Aa, W⟩
  refine AD (Ab ?_)
  exact ⟨_, _, H, F.ra Aa, W⟩
 rintro a w ⟨x9, x10, hj, F, W⟩
 have hj := Ay hj
 subst hj
 have H := K2
 refine vc tk 5 F W fun a w F W => ?_
 obtain ⟨x12, h4, H⟩ := Af H
 refine ls F W Aa (AA (v := Value.tuple #[Jint x12.1, Jint x12.2]) F ZN Aa (fun w W => GR any w (v1) x9 x2 x3 _ h4 (Cl (Ai 0 Aa) W))) fun a w F W => ?_
 refine ls F W Aa (Ao F Aa).q fun a w F W => ?_
 refine ls F W Aa (Eb (v := Jint x12.1) F Aa Aa).q fun a w F W => ?_
 refine ls F W Aa (Eb (v := Jint x12.2) F Aa Aa).q fun a w F W => ?_
 refine vl tk 3 F W fun a w F W => ?_
 refine Ab ?_
 obtain ⟨o3, G3, K3⟩ := Af H
 refine Ap (fun a w => ∃ x13 : List Int, ∃ x14 : Int, ∃ x15 : Int, some ((x13, x14, x15)) = some o3 ∧ Fr 134 [] [(0, v1), (1, Jint x2), (2, Jint x3), (3, Jint x10), (8, .bool x5), (9, .bool x6), (10, Jint (AJ (x3 - x2))), (11, Jint x14), (12, Jint x15)] a ∧ Stw ⟨Y, X, w0⟩ [] [row v1 3 ri x13] w) ?_ ?_
 ·
  have H := G3
  refine vc tk 6 F W fun a w F W => ?_
  refine A1 F Aa H (fun F H => ?_) fun F H => ?_
  ·
   refine vc tk 5 F W fun a w F W => ?_
   obtain ⟨x16, h5, H⟩ := Af H
   refine AO (Ml := []) (Zl := [row v1 3 ri x9]) (β := Unit) (rv := fun x => .tuple #[]) (MM := fun x => []) (ZZ := fun x => [row v1 3 ri x16]) F W Zv Aa Aa (fun hL => GD _ _ w (v1) x9 x2 x3 _ h5 hL) fun x a w F W => ?_
   have W : Stw ⟨Y, X, w0⟩ [] [row v1 3 ri x16] w := W
   refine Bo tk 16 F W fun a w F W => ?_
   refine Ab ?_
   exact ⟨_, _, _, H, F.ra Aa, W⟩
  refine AD (Ab ?_)
  exact ⟨_, _, _, H, F.ra Aa, W⟩
 rintro a w ⟨x13, x14, x15, hj, F, W⟩
 have hj := Ay hj
 subst hj
 have H := K3
 obtain ⟨o4, G4, K4, L4⟩ := Lh H
 refine Ap (fun a w => ∃ x17 : List Int, some (Sum.inl x17) = some o4 ∧ Fr 134 [] [(0, v1), (1, Jint x2), (2, Jint x3), (3, Jint x10), (8, .bool (x5 && (x6 || true))), (9, .bool (bif x5 then x6 else x6)), (10, Jint (AJ (x3 - x2))), (11, Jint x14)] a ∧ Stw ⟨Y, X, w0⟩ [] [row v1 3 ri x17] w) ?_ ?_
 ·
  have H := G4
  refine Ap (fun a w => Fr 134 [] [(0, v1), (1, Jint x2), (2, Jint x3), (3, Jint x10), (8, .bool (x5 && (x6 || true))), (9, .bool (bif x5 then x6 else x6)), (10, Jint (AJ (x3 - x2))), (11, Jint x14), (68, .bool (x5 && (x6 && decide (x15 = 1))))] a ∧ Stw ⟨Y, X, w0⟩ [] [row v1 3 ri x13] w) ?_ ?_
  ·
   refine vc tk 3 F W fun a w F W => ?_
   rcases bxq x5 with hb0 | hb0
   ·
    rw [hb0] at F
    refine vl tk 3 F W fun a w F W => ?_
    rcases bxq x6 with hb1 | hb1
    ·
     rw [hb1] at F
     refine vl tk 4 F W fun a w F W => ?_
     refine Ab ?_
     exact ⟨F.re ⟨rfl, Aa, Aa, Aa, (CL (by try rw [hb0]; try rw [hb1]; all_goals simp only [CM])), (CL (by try rw [hb0]; try rw [hb1]; all_goals simp only [CM])), Aa, Aa, (CL (by try rw [hb0]; try rw [hb1]; all_goals simp only [CM])), trivial⟩, W⟩
    rw [hb1] at F
    refine vl tk 4 F W fun a w F W => ?_
    refine Ab ?_
    exact ⟨F.re ⟨rfl, Aa, Aa, Aa, (CL (by try rw [hb0]; try rw [hb1]; all_goals simp only [CM])), (CL (by try rw [hb0]; try rw [hb1]; all_goals simp only [CM])), Aa, Aa, (CL (by try rw [hb0]; try rw [hb1]; all_goals simp only [CM])), trivial⟩, W⟩
   rw [hb0] at F
   refine vl tk 7 F W fun a w F W => ?_
   refine Ab ?_
   exact ⟨F.re ⟨rfl, Aa, Aa, Aa, (CL (by try rw [hb0]; all_goals simp only [CM])), (CL (by try rw [hb0]; all_goals simp only [CM])), Aa, Aa, (CL (by try rw [hb0]; all_goals simp only [CM])), trivial⟩, W⟩
  rintro a w ⟨F, W⟩
  refine Bi F Aa H (fun F H => ?_) fun F H => ?_
  ·
   refine vc tk 5 F W fun a w F W => ?_
   obtain ⟨x18, h6, H⟩ := Af H
   refine AO (Ml := []) (Zl := [row v1 3 ri x13]) (β := Unit) (rv := fun x => .bool x18.1) (MM := fun x => []) (ZZ := fun x => [row v1 3 ri x18.2]) F W Zi Aa Aa (fun hL => FD _ _ w (v1) x13 x2 x3 _ h6 hL) fun x a w F W => ?_
   have W : Stw ⟨Y, X, w0⟩ [] [row v1 3 ri x18.2] w := W
   refine Bo tk 2 F W fun a w F W => ?_
   refine Bi F Aa H (fun F H => ?_) fun F H => ?_
   ·
    refine Ah (Aw (AC (Aw (AC ?_))))
    have H := L4 _ H
    have H := L1 _ H
    have H := Ay H
    subst H
    refine J0 (.inl Aa) F Aa ?_
    exact ⟨(), Aa, W⟩
   refine AD (Ab ?_)
   exact ⟨_, H, F.ra Aa, W⟩
  refine AD (Ab ?_)
  exact ⟨_, H, F.ra Aa, W⟩
 rintro a w ⟨x17, hj, F, W⟩
 have H := K4 _ hj
 refine FG ?_
 obtain ⟨o5, G5, K5⟩ := Af H
 refine Ap (fun a w => ∃ x19 : Bool, some (x19) = some o5 ∧ Fr 134 [] [(0, v1), (1, Jint x2), (2, Jint x3), (3, Jint x10), (8, .bool (x5 && (x6 || true))), (9, .bool (bif x5 then x6 else x6)), (10, Jint (AJ (x3 - x2))), (11, Jint x14), (87, .bool x19)] a ∧ Stw ⟨Y, X, w0⟩ [] [row v1 3 ri x17] w) ?_ ?_
 ·
  have H := G5
  refine B5 W MO (by kernel_rfl) ?_
  refine qs F Aa (Ao F Aa).q fun a F => ?_
  refine qs F Aa (Oq F Aa Aa).q fun a F => ?_
  refine qs F Aa (Ao F Aa).q fun a F => ?_
  rcases bxq (decide (0 < x2)) with hb | hb
  ·
   have H := BB (B4 hb) H
   rw [hb] at F
   iterate 2 refine AR F (Ad F Aa Aa Aa Aa) Aa (As Aa) (Ao F Aa).q fun a F => ?_
   refine AR F (Ad F Aa Aa Aa Aa) Aa (As Aa) (Hp F Aa Aa Aa).q fun a F => ?_
   obtain ⟨x20, h7, H⟩ := Af H
   refine AR F (Ad F Aa Aa Aa Aa) Aa (As Aa) (Au (r := ri) DT F Aa Aa (Ai 0 Aa) h7).q fun a F => ?_
   refine AR F (Ad F Aa Aa Aa Aa) Aa (As Aa) (Aj (y := Jint x20) (j := 0) (i := AJ (x2 - 1)) F Aa Aa (Ai 0 Aa) h7 Fl.int.to T3 Aa).q fun a F => ?_
   iterate 2 refine AR F (Ad F Aa Aa Aa Aa) Aa (As Aa) (Ao F Aa).q fun a F => ?_
   obtain ⟨x21, h8, H⟩ := Af H
   refine AR F (Ad F Aa Aa Aa Aa) Aa (As Aa) (Au (r := ri) DT F Aa Aa (Ai 0 Aa) h8).q fun a F => ?_
   refine AR F (Ad F Aa Aa Aa Aa) Aa (As Aa) (Aj (y := Jint x21) (j := 0) (i := x14) F Aa Aa (Ai 0 Aa) h8 Fl.int.to T3 Aa).q fun a F => ?_
   refine AR F (Ad F Aa Aa Aa Aa) Aa (As Aa) (AA (v := Value.bool (A2 x20 x21)) F LU Aa (fun w W => Cd any w x20 x21 _ Aa)) fun a F => ?_
   refine AR F (Ad F Aa Aa Aa Aa) Aa (As Aa) (Jn F Aa).q fun a F => ?_
   refine qs F Aa (Bq F Aa Aa Aa).q fun a F => ?_
   refine AK fun w W => ?_
   refine Ab ?_
   exact ⟨_, H, F.ra Aa, W⟩
  have H := BC (B1 hb) H
  rw [hb] at F
  iterate 11 refine Bb F (A3 F Aa Aa Aa Aa Aa) Aa Aa fun a F => ?_
  refine qs F Aa (Bh F Aa Aa Aa).q fun a F => ?_
  refine AK fun w W => ?_
  refine Ab ?_
  exact ⟨_, H, F.ra Aa, W⟩
 rintro a w ⟨x19, hj, F, W⟩
 have hj := Ay hj
 subst hj
 have H := K5
 refine Bi F Aa H (fun F H => ?_) fun F H => ?_
 ·
  refine vc tk 6 F W fun a w F W => ?_
  obtain ⟨x22, h9, H⟩ := Af H
  refine AO (Ml := []) (Zl := [row v1 3 ri x17]) (β := Unit) (rv := fun x => Jint x22.1) (MM := fun x => []) (ZZ := fun x => [row v1 3 ri x22.2]) F W Y8 Aa Aa (fun hL => Gh _ _ w (v1) x17 x2 x3 x14 _ h9 hL) fun x a w F W => ?_
  have W : Stw ⟨Y, X, w0⟩ [] [row v1 3 ri x22.2] w := W
  refine Bo tk 9 F W fun a w F W => ?_
  refine AN (A6 (AP (Ab ?_)))
  exact ⟨_, H, F.ra Aa, W⟩
 refine EX tk 8 F W fun a w F W => ?_
 obtain ⟨x23, h10, H⟩ := Af H
 refine AO (Ml := []) (Zl := [row v1 3 ri x17]) (β := Unit) (rv := fun x => .tuple #[Jint x23.1, .bool x23.2.1]) (MM := fun x => []) (ZZ := fun x => [row v1 3 ri x23.2.2]) F W Y3 Aa Aa (fun hL => Hi _ _ w (v1) x17 x2 x3 x14 _ h10 hL) fun x a w F W => ?_
 have W : Stw ⟨Y, X, w0⟩ [] [row v1 3 ri x23.2.2] w := W
 refine ls F W Aa (Ao F Aa).q fun a w F W => ?_
 refine ls F W Aa (Eb (v := Jint x23.1) F Aa Aa).q fun a w F W => ?_
 refine ls F W Aa (Eb (v := Value.bool x23.2.1) F Aa Aa).q fun a w F W => ?_
 refine Bo tk 25 F W fun a w F W => ?_
 refine ls F W Aa (N0 F Aa Aa (by decide) Aa).q fun a w F W => ?_
 refine Bo tk 10 F W fun a w F W => ?_
 refine A1 F Aa H (fun F H => ?_) fun F H => ?_
 ·
  refine vc tk 14 F W fun a w F W => ?_
  obtain ⟨x24, h11, H⟩ := Af H
  refine AO (Ml := []) (Zl := [row v1 3 ri x23.2.2]) (β := Unit) (rv := fun x => .tuple #[]) (MM := fun x => []) (ZZ := fun x => [row v1 3 ri x24]) F W ZX Aa Aa (fun hL => ih _ _ w (v1) x23.2.2 x2 x23.1 x10 _ h11 hL) fun x a w F W => ?_
  have W : Stw ⟨Y, X, w0⟩ [] [row v1 3 ri x24] w := W
  refine Bo tk 7 F W fun a w F W => ?_
  refine Az (Ab ?_)
  exact ⟨_, H, F.ra Aa, W⟩
 refine vc tk 15 F W fun a w F W => ?_
 obtain ⟨x25, h12, H⟩ := Af H
 refine AO (Ml := []) (Zl := [row v1 3 ri x23.2.2]) (β := Unit) (rv := fun x => .tuple #[]) (MM := fun x => []) (ZZ := fun x => [row v1 3 ri x25]) F W ZX Aa Aa (fun hL => ih _ _ w (v1) x23.2.2 (AJ (x23.1 + 1)) x3 x10 _ h12 hL) fun x a w F W => ?_
 have W : Stw ⟨Y, X, w0⟩ [] [row v1 3 ri x25] w := W
 refine Bo tk 6 F W fun a w F W => ?_
 refine Az (Ab ?_)
 exact ⟨_, H, F.ra Aa, W⟩
theorem Hx : ∀ (n : Nat) (Y : Nat → Prop) (X : List Nat) (w0 : World) (v1 : Value) (p0 : List Int) (p1 : Int) (p2 : Int) (p3 : Int) (r : List Int) (H : A4 n p0 p1 p2 p3 = some r) (hL : Stw ⟨Y, X, w0⟩ [] [row v1 3 ri p0] w0), ca_ 92 #[v1, Jint p1, Jint p2, Jint p3] w0 fun e w' => ∃ x : Unit, e = .returned (.tuple #[]) ∧ Stw ⟨Y, X, w0⟩ [] [row v1 3 ri r] w' := by
  intro n
  induction n with
  | zero => intro Y X w0 v1 p0 p1 p2 p3 r H; exact nomatch H
  | succ n ih => intro Y X w0 v1 p0 p1 p2 p3 r H hL; exact Hn (A4 n) ih Y X w0 v1 p0 p1 p2 p3 r H hL
theorem HF (Y : Nat → Prop) (X : List Nat) (w0 : World) (v1 : Value) (p0 : List Int) (p1 : Int) (p2 : Int) (p3 : Int) (r : List Int) (H : Du p0 p1 p2 p3 = some r) (hL : Stw ⟨Y, X, w0⟩ [] [row v1 3 ri p0] w0) :
    ca_ 92 #[v1, Jint p1, Jint p2, Jint p3] w0 fun e w' => ∃ x : Unit, e = .returned (.tuple #[]) ∧ Stw ⟨Y, X, w0⟩ [] [row v1 3 ri r] w' := by
  obtain ⟨n, H⟩ := BP H
  exact Hx n Y X w0 v1 p0 p1 p2 p3 r H hL
def Ds (p0 : List Int) : Option (List Int) := (FA (IntKind.u64.wrap (p0.length : Int))).bind fun x1 => (Du p0 0 (p0.length : Int) x1).bind fun x2 => some x2
theorem GS (Y : Nat → Prop) (X : List Nat) (w0 : World) (v1 : Value) (p0 : List Int) (r : List Int) (H : Ds p0 = some r) (hL : Stw ⟨Y, X, w0⟩ [] [row v1 3 ri p0] w0) :
    ca_ 56 #[v1] w0 fun e w' => ∃ x : Unit, e = .returned (.tuple #[]) ∧ Stw ⟨Y, X, w0⟩ [] [row v1 3 ri r] w' := by
 refine enter Tryz.func56 Aa Tryz.ntmps56 Aa fun a F => ?_
 have W := hL
 unfold Ds at H
 refine vc tk 3 F W fun a w F W => ?_
 refine ls F W Aa (Bz (r := ri) (l := p0) RN Aa F Aa (Ai 0 Aa)).q fun a w F W => ?_
 refine Bo tk 7 F W fun a w F W => ?_
 refine ls F W Aa (J9 V9 UN F Aa).q fun a w F W => ?_
 obtain ⟨x1, h1, H⟩ := Af H
 refine ls F W Aa (AA (v := Jint x1) F aA Aa (fun w W => Jf any w (IntKind.u64.wrap (p0.length : Int)) _ h1)) fun a w F W => ?_
 obtain ⟨x2, h2, H⟩ := Af H
 refine AO (Ml := []) (Zl := [row v1 3 ri p0]) (β := Unit) (rv := fun x => .tuple #[]) (MM := fun x => []) (ZZ := fun x => [row v1 3 ri x2]) F W ZX Aa Aa (fun hL => HF _ _ w (v1) p0 0 (p0.length : Int) x1 _ h2 hL) fun x a w F W => ?_
 have W : Stw ⟨Y, X, w0⟩ [] [row v1 3 ri x2] w := W
 refine F6 ?_
 have H := Ay H
 subst H
 refine J0 (.inr Aa) F Aa ?_
 exact ⟨(), Aa, W⟩
end
end Go.Proofs.YtgoifghhcekahaaGreatDoor
