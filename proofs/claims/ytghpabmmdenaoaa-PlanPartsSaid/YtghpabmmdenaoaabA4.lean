/- The functions of layer 24, Ig. Conditions: none. -/
import Derived.Test.YtghpabmmdenaoaabA3
namespace Go.Proofs.Ytghpabmmdenaoaa
open Go Go.RowKit
set_option linter.unusedVariables false
set_option linter.unusedSimpArgs false
set_option maxRecDepth 20000
theorem U1 : Has Try.prog 82 := ⟨fun args w => Al Try.func82 rfl (by decide) args w⟩
noncomputable def B5 (p2 : Int) (x2 : List Int) : Int → Option (Int ⊕ Int)
  | x8 => (if x8 < p2 then (ix x2 x8).bind fun x10 => (ix x2 (Az (x8 - 1))).bind fun x11 => some (!(Cs x10 x11)) else some false).bind fun x9 => (if x9 = true then some (.inl (Az (x8 + 1))) else some (.inr x8))
noncomputable def A1  : (List Int × Int) → Option ((List Int × Int) ⊕ (List Int))
  | (x17, x18) => (if 1 ≤ x18 then (ix x17 x18).bind fun x19 => (ix x17 (Az (x18 - 1))).bind fun x20 => (if (!(Cs x19 x20)) = true then some (.inr x17) else (ix x17 (Az (x18 - 1))).bind fun x21 => (ix x17 x18).bind fun x22 => (ix x17 x18).bind fun x23 => (ix (AE x17 x18 x21) (Az (x18 - 1))).bind fun x24 => some (.inl ((AE (AE x17 x18 x21) (Az (x18 - 1)) x22), Az (x18 - 1)))) else some (.inr x17))
noncomputable def Ba (p2 : Int) (x7 : Int) : (List Int × Int) → Option ((List Int × Int) ⊕ ((List Int × Int) ⊕ ((List Int × Int × Int) ⊕ ((List Int) ⊕ (Bool × List Int)))))
  | (x25, x26) => (if x26 < p2 then (ix x25 x26).bind fun x27 => (ix x25 (Az (x26 - 1))).bind fun x28 => (if (!(Cs x27 x28)) = true then some (.inr (.inl (x25, x7))) else (ix x25 (Az (x26 - 1))).bind fun x29 => (ix x25 x26).bind fun x30 => (ix x25 x26).bind fun x31 => (ix (AE x25 x26 x29) (Az (x26 - 1))).bind fun x32 => some (.inl ((AE (AE x25 x26 x29) (Az (x26 - 1)) x30), Az (x26 + 1)))) else some (.inr (.inl (x25, x7))))
noncomputable def A9 (p1 : Int) (p2 : Int) : (List Int × Int × Int) → Option ((List Int × Int × Int) ⊕ ((List Int) ⊕ (Bool × List Int)))
  | (x2, x3, x4) => (if x4 < 5 then FO ((AH (B5 p2 x2) x3).bind fun x7 => (if x7 = p2 then some (.inr (.inr (.inr (true, x2)))) else (if (Az (p2 - p1)) < 50 then some (.inr (.inr (.inr (false, x2)))) else (ix x2 (Az (x7 - 1))).bind fun x12 => (ix x2 x7).bind fun x13 => (ix x2 x7).bind fun x14 => (ix (AE x2 x7 x12) (Az (x7 - 1))).bind fun x15 => (if 2 ≤ (Az (x7 - p1)) then AH (A1) ((AE (AE x2 x7 x12) (Az (x7 - 1)) x13), Az (x7 - 1)) else some (AE (AE x2 x7 x12) (Az (x7 - 1)) x13)).bind fun x16 => (if 2 ≤ (Az (p2 - x7)) then AH (Ba p2 x7) (x16, Az (x7 + 1)) else some (.inl (x16, x7)))))) fun (x5, x6) => some (.inl (x5, x6, Az (x4 + 1))) else some (.inr (.inl x2)))
noncomputable def Bw (p0 : List Int) (p1 : Int) (p2 : Int) : Option (Bool × List Int) := FO (AH (A9 p1 p2) (p0, Az (p1 + 1), 0)) fun x1 => some (false, x1)
theorem Ff (Y : Nat → Prop) (X : List Nat) (w0 : World) (v1 : Value) (p0 : List Int) (p1 : Int) (p2 : Int) (r : Bool × List Int) (H : Bw p0 p1 p2 = some r) (hL : Stw ⟨Y, X, w0⟩ [] [row v1 3 (Rp.int .i64) p0] w0) :
    Calls Try.prog 84 #[v1, .int .i64 p1, .int .i64 p2] w0 fun e w' => ∃ x : Unit, e = .returned (.bool r.1) ∧ Stw ⟨Y, X, w0⟩ [] [row v1 3 (Rp.int .i64) r.2] w' := by
 refine enter Try.func84 Aa Try.ntmps84 Aa fun a F => ?_
 have W := hL
 unfold Bw at H
 refine Ah (Ac ?_)
 refine ls F W Aa (Af F Aa).q fun a w F W => ?_
 refine Ae (Ab (Ah (Ac ?_)))
 refine ls F W Aa (Ad F Aa).q fun a w F W => ?_
 refine ls F W Aa (Bp F Aa Aa Aa).q fun a w F W => ?_
 refine ls F W Aa (Af F Aa).q fun a w F W => ?_
 refine Ae (Ab ?_)
 obtain ⟨o1, G1, K1, L1⟩ := JX H
 refine AK (fun a w => ∃ x1 : List Int, some (Sum.inl x1) = some o1 ∧ Fr 133 [] [(6, .bool false)] a ∧ Stw ⟨Y, X, w0⟩ [] [row v1 3 (Rp.int .i64) x1] w) ?_ ?_
 ·
  have H := G1
  clear G1 K1
  refine Ah (Ac ?_)
  refine ls F W Aa (Af F Aa).q fun a w F W => ?_
  refine Ae (Ab (As ?_))
  refine Bh H (fun s a w => Fr 133 [] [(0, v1), (1, .int .i64 p1), (2, .int .i64 p2), (6, .bool false), (7, .int .i64 s.2.1), (8, .int .i64 s.2.2)] a ∧ Stw ⟨Y, X, w0⟩ [] [row v1 3 (Rp.int .i64) s.1] w) ⟨F.re ⟨rfl, Aa, Aa, Aa, Aa, Aa, trivial⟩, W⟩ fun s o a w H L2 hR => ?_
  obtain ⟨x2, x3, x4⟩ := s
  obtain ⟨F, W⟩ := hR
  have F : Fr 133 [] [(0, v1), (1, .int .i64 p1), (2, .int .i64 p2), (6, .bool false), (7, .int .i64 x3), (8, .int .i64 x4)] a := F
  have W : Stw ⟨Y, X, w0⟩ [] [row v1 3 (Rp.int .i64) x2] w := W
  rw [A9] at H
  refine Ah (Ah (Ac ?_))
  refine ls F W Aa (Ad F Aa).q fun a w F W => ?_
  refine ls F W Aa (BI F Aa Aa).q fun a w F W => ?_
  refine Ae (Ab ?_)
  refine Ay F Aa (fun hb => ?_) fun hb => ?_
  ·
   have H := AP (Bm hb) H
   rw [hb] at F
   clear hb
   refine Aq (Ab ?_)
   obtain ⟨o3, G3, K3, L3⟩ := JX H
   refine AK (fun a w => ∃ x5 : List Int, ∃ x6 : Int, some (Sum.inl (x5, x6)) = some o3 ∧ Fr 133 [] [(0, v1), (1, .int .i64 p1), (2, .int .i64 p2), (6, .bool false), (7, .int .i64 x6), (8, .int .i64 x4)] a ∧ Stw ⟨Y, X, w0⟩ [] [row v1 3 (Rp.int .i64) x5] w) ?_ ?_
   ·
    have H := G3
    clear G3 K3
    refine As ?_
    obtain ⟨o4, G4, K4⟩ := Ak H
    refine AK (fun a w => ∃ x7 : Int, some (x7) = some o4 ∧ Fr 133 [] [(0, v1), (1, .int .i64 p1), (2, .int .i64 p2), (6, .bool false), (7, .int .i64 x7), (8, .int .i64 x4)] a ∧ Stw ⟨Y, X, w0⟩ [] [row v1 3 (Rp.int .i64) x2] w) ?_ ?_
    ·
     have H := G4
     clear G4 K4
     refine As ?_
     refine Bh H (fun s a w => Fr 133 [] [(0, v1), (1, .int .i64 p1), (2, .int .i64 p2), (6, .bool false), (7, .int .i64 s), (8, .int .i64 x4)] a ∧ Stw ⟨Y, X, w0⟩ [] [row v1 3 (Rp.int .i64) x2] w) ⟨F.re ⟨rfl, Aa, Aa, Aa, Aa, Aa, trivial⟩, W⟩ fun s o a w H L5 hR => ?_
     obtain ⟨x8, rfl⟩ : ∃ x, x = s := ⟨s, rfl⟩
     obtain ⟨F, W⟩ := hR
     have F : Fr 133 [] [(0, v1), (1, .int .i64 p1), (2, .int .i64 p2), (6, .bool false), (7, .int .i64 x8), (8, .int .i64 x4)] a := F
     have W : Stw ⟨Y, X, w0⟩ [] [row v1 3 (Rp.int .i64) x2] w := W
     rw [B5] at H
     refine Ah ?_
     obtain ⟨o6, G6, K6⟩ := Ak H
     refine AK (fun a w => ∃ x9 : Bool, some (x9) = some o6 ∧ Fr 133 [] [(0, v1), (1, .int .i64 p1), (2, .int .i64 p2), (6, .bool false), (7, .int .i64 x8), (8, .int .i64 x4), (32, .bool x9)] a ∧ Stw ⟨Y, X, w0⟩ [] [row v1 3 (Rp.int .i64) x2] w) ?_ ?_
     ·
      have H := G6
      clear G6 K6
      refine BS W MO (by kernel_rfl) ?_
      iterate 2 refine qs F Aa (Ad F Aa).q fun a F => ?_
      refine qs F Aa (BI F Aa Aa).q fun a F => ?_
      refine qs F Aa (Ad F Aa).q fun a F => ?_
      rcases Bool.eq_false_or_eq_true (decide (x8 < p2)) with hb | hb
      ·
       have H := AP (Bm hb) H
       rw [hb] at F
       clear hb
       iterate 2 refine BM F (Ag F Aa Aa Aa Aa) Aa (An Aa) (Ad F Aa).q fun a F => ?_
       obtain ⟨x10, h1, H⟩ := Ak H
       refine BM F (Ag F Aa Aa Aa Aa) Aa (An Aa) (AC (r := (Rp.int .i64)) EH F Aa Aa (Aj 0 Aa) h1).q fun a F => ?_
       refine BM F (Ag F Aa Aa Aa Aa) Aa (An Aa) (Ao (y := Value.int .i64 x10) (j := 0) (i := x8) F Aa Aa (Aj 0 Aa) h1 Fl.int.to T3 Aa).q fun a F => ?_
       iterate 2 refine BM F (Ag F Aa Aa Aa Aa) Aa (An Aa) (Ad F Aa).q fun a F => ?_
       refine BM F (Ag F Aa Aa Aa Aa) Aa (An Aa) (B9 F Aa Aa Aa).q fun a F => ?_
       obtain ⟨x11, h2, H⟩ := Ak H
       refine BM F (Ag F Aa Aa Aa Aa) Aa (An Aa) (AC (r := (Rp.int .i64)) EH F Aa Aa (Aj 0 Aa) h2).q fun a F => ?_
       refine BM F (Ag F Aa Aa Aa Aa) Aa (An Aa) (Ao (y := Value.int .i64 x11) (j := 0) (i := Az (x8 - 1)) F Aa Aa (Aj 0 Aa) h2 Fl.int.to T3 Aa).q fun a F => ?_
       refine BM F (Ag F Aa Aa Aa Aa) Aa (An Aa) (BR (v := Value.bool (Cs x10 x11)) F SW Aa (fun w W => ET any w x10 x11 _ Aa)) fun a F => ?_
       refine BM F (Ag F Aa Aa Aa Aa) Aa (An Aa) (ED F Aa).q fun a F => ?_
       refine qs F Aa (Av F Aa Aa Aa).q fun a F => ?_
       refine A0 fun w W => ?_
       refine Ab ?_
       exact ⟨_, H, F.re ⟨rfl, Aa, Aa, Aa, Aa, Aa, Aa, trivial⟩, W⟩
      have H := AO (Bn hb) H
      rw [hb] at F
      clear hb
      iterate 11 refine D7 F (CJ F Aa Aa Aa Aa Aa) Aa Aa fun a F => ?_
      refine qs F Aa (Ax F Aa Aa Aa).q fun a F => ?_
      refine A0 fun w W => ?_
      refine Ab ?_
      exact ⟨_, H, F.re ⟨rfl, Aa, Aa, Aa, Aa, Aa, Aa, trivial⟩, W⟩
     rintro a w ⟨x9, hj, F, W⟩
     have hj := AQ hj
     subst hj
     have H := K6
     clear G6 K6
     refine Ay F Aa (fun hb => ?_) fun hb => ?_
     ·
      have H := AP hb H
      rw [hb] at F
      clear hb
      refine Aq (Ab (As (Ac ?_)))
      refine ls F W Aa (Ad F Aa).q fun a w F W => ?_
      refine ls F W Aa (Bp F Aa Aa Aa).q fun a w F W => ?_
      refine ls F W Aa (Af F Aa).q fun a w F W => ?_
      refine Ae (AM (Ab ?_))
      exact ⟨_, H, F.re ⟨rfl, Aa, Aa, Aa, Aa, Aa, trivial⟩, W⟩
     have H := AO (by rw [hb]; decide) H
     rw [hb] at F
     clear hb
     refine A5 ?_
     iterate 2 refine Bk ?_
     refine A6 (Ab ?_)
     have H := L5 _ H
     exact ⟨_, H, F.re ⟨rfl, Aa, Aa, Aa, Aa, Aa, trivial⟩, W⟩
    rintro a w ⟨x7, hj, F, W⟩
    have hj := AQ hj
    subst hj
    have H := K4
    clear G4 K4
    refine Ah (Ah (Ac ?_))
    iterate 2 refine ls F W Aa (Ad F Aa).q fun a w F W => ?_
    refine ls F W Aa (Dl F Aa Aa).q fun a w F W => ?_
    refine Ae (Ab ?_)
    refine Ay F Aa (fun hb => ?_) fun hb => ?_
    ·
     have H := AP (Bm hb) H
     rw [hb] at F
     clear hb
     refine Ah (Ac ?_)
     refine ls F W Aa (Af F Aa).q fun a w F W => ?_
     refine Ae (Ab (AF (AN (A3 ?_))))
     iterate 2 refine AN ?_
     refine A3 (AN ?_)
     have H := L3 _ H
     have H := L2 _ H
     have H := L1 _ H
     have H := AQ H
     subst H
     refine Bj (.inl Aa) F W Aa (AD F Aa) ?_
     exact ⟨(), Aa, W⟩
    have H := AO (Bn hb) H
    rw [hb] at F
    clear hb
    refine Aq (Ab (Ah (Ah (Ac ?_))))
    iterate 2 refine ls F W Aa (Ad F Aa).q fun a w F W => ?_
    refine ls F W Aa (B9 F Aa Aa Aa).q fun a w F W => ?_
    refine ls F W Aa (BI F Aa Aa).q fun a w F W => ?_
    refine Ae (Ab ?_)
    refine Ay F Aa (fun hb => ?_) fun hb => ?_
    ·
     have H := AP (Bm hb) H
     rw [hb] at F
     clear hb
     refine Ah (Ac ?_)
     refine ls F W Aa (Af F Aa).q fun a w F W => ?_
     refine Ae (Ab (AF (AN (A3 ?_))))
     iterate 2 refine AN ?_
     refine A3 (AN ?_)
     have H := L3 _ H
     have H := L2 _ H
     have H := L1 _ H
     have H := AQ H
     subst H
     refine Bj (.inl Aa) F W Aa (AD F Aa) ?_
     exact ⟨(), Aa, W⟩
    have H := AO (Bn hb) H
    rw [hb] at F
    clear hb
    refine Aq (Ab (Ah ?_))
    refine El [(true, 0), (true, 1), (true, 2), (true, 3), (true, 4), (true, 5), (true, 6), (true, 7), (true, 8), (true, 9), (true, 10), (true, 11), (true, 12), (true, 13), (true, 14), (false, 15), (true, 16), (false, 17)] (CN ⟨Y, X, w0⟩ [] [(some 15, row v1 3 (Rp.int .i64) x2)]) (fun ch a d v w h => by cases d <;> exact h) MO (by kernel_rfl) W (fun w W => ⟨_, _, W, Aw, (all_cons (fun _ => (.head _)) Aw)⟩) fun w W => ?_
    iterate 4 refine Bd (R := []) F Aa Aa (yC fun M Z hN hZ => Ad F Aa) Aa Aa fun a F => ?_
    refine Bd (R := []) F Aa Aa (yC fun M Z hN hZ => B9 F Aa Aa Aa) Aa Aa fun a F => ?_
    iterate 2 refine Bd (R := []) F Aa Aa (yC fun M Z hN hZ => Ad F Aa) Aa Aa fun a F => ?_
    refine Bd (R := []) F Aa Aa (yC fun M Z hN hZ => B9 F Aa Aa Aa) Aa Aa fun a F => ?_
    obtain ⟨x12, h3, H⟩ := Ak H
    refine Bd (R := []) F Aa Aa (yC fun M Z hN hZ => Bi (r := (Rp.int .i64)) EH F Aa Aa (CC W (Aj 0 Aa)) h3) Aa Aa fun a F => ?_
    refine Bd (R := [15]) F Aa Aa (yC fun M Z hN hZ => Ao (y := Value.int .i64 x12) (j := 0) (i := Az (x7 - 1)) F Aa Aa (Ck (hZ ((some 15), row v1 3 (Rp.int .i64) x2) (.head _) Aa)) h3 Fl.int.to T3 Aa) (by kernel_rfl) Aa fun a F => ?_
    iterate 2 refine Bd (R := []) F Aa Aa (yC fun M Z hN hZ => Ad F Aa) Aa Aa fun a F => ?_
    obtain ⟨x13, h4, H⟩ := Ak H
    refine Bd (R := []) F Aa Aa (yC fun M Z hN hZ => Bi (r := (Rp.int .i64)) EH F Aa Aa (CC W (Aj 0 Aa)) h4) Aa Aa fun a F => ?_
    refine Bd (R := [15]) F Aa Aa (yC fun M Z hN hZ => Ao (y := Value.int .i64 x13) (j := 0) (i := x7) F Aa Aa (Ck (hZ ((some 15), row v1 3 (Rp.int .i64) x2) (.head _) Aa)) h4 Fl.int.to T3 Aa) (by kernel_rfl) Aa fun a F => ?_
    obtain ⟨x14, h5, H⟩ := Ak H
    refine Bd (R := []) F Aa Aa (yC fun M Z hN hZ => Bi (r := (Rp.int .i64)) EH F Aa Aa (CC W (Aj 0 Aa)) h5) Aa Aa fun a F => ?_
    refine Fh Aa ?_
    refine A8 (i := x7) (j := 0) (vs := [.int .i64 x12]) (x' := x12) F W Aa Aa Aa (k := 0) Aa Aa h5 T3 Aa Aa Aa Aa (fun A cs _ => Fl.int.sto (by rfl) _ _ _) fun w W => ?_
    refine Cr (N2 := []) (NZ2 := []) (N3 := []) (NZ3 := [(some 15, row v1 3 (Rp.int .i64) x2)]) W Aa Aa Aw (all_cons (fun h => Be (by kernel_rfl) h) Aw) ?_
    obtain ⟨x15, h6, H⟩ := Ak H
    refine Bd (R := []) F Aa Aa (yC fun M Z hN hZ => Bi (r := (Rp.int .i64)) EH F Aa Aa (CC W (Aj 0 Aa)) h6) Aa Aa fun a F => ?_
    refine Fh Aa ?_
    refine A8 (i := Az (x7 - 1)) (j := 0) (vs := [.int .i64 x13]) (x' := x13) F W Aa Aa Aa (k := 0) Aa Aa h6 T3 Aa Aa Aa Aa (fun A cs _ => Fl.int.sto (by rfl) _ _ _) fun w W => ?_
    refine Cr (N2 := []) (NZ2 := []) (N3 := []) (NZ3 := [(some 15, row v1 3 (Rp.int .i64) x2)]) W Aa Aa Aw (all_cons (fun h => Be (by kernel_rfl) h) Aw) ?_
    refine FC (Ab ?_)
    obtain ⟨o7, G7, K7⟩ := Ak H
    refine AK (fun a w => ∃ x16 : List Int, some (x16) = some o7 ∧ Fr 133 [] [(0, v1), (1, .int .i64 p1), (2, .int .i64 p2), (6, .bool false), (7, .int .i64 x7), (8, .int .i64 x4)] a ∧ Stw ⟨Y, X, w0⟩ [] [row v1 3 (Rp.int .i64) x16] w) ?_ ?_
    ·
     have H := G7
     clear G7 K7
     refine Ah (Ac ?_)
     iterate 2 refine ls F W Aa (Ad F Aa).q fun a w F W => ?_
     refine ls F W Aa (B9 F Aa Aa Aa).q fun a w F W => ?_
     refine ls F W Aa (Ds F Aa Aa).q fun a w F W => ?_
     refine Ae (Ab ?_)
     refine Ay F Aa (fun hb => ?_) fun hb => ?_
     ·
      have H := AP (Bm hb) H
      rw [hb] at F
      clear hb
      refine Ah (Ac ?_)
      refine ls F W Aa (Ad F Aa).q fun a w F W => ?_
      refine ls F W Aa (B9 F Aa Aa Aa).q fun a w F W => ?_
      refine ls F W Aa (Af F Aa).q fun a w F W => ?_
      refine Ae (Ab (As ?_))
      refine Bh H (fun s a w => Fr 133 [] [(0, v1), (1, .int .i64 p1), (2, .int .i64 p2), (6, .bool false), (7, .int .i64 x7), (8, .int .i64 x4), (9, .int .i64 s.2)] a ∧ Stw ⟨Y, X, w0⟩ [] [row v1 3 (Rp.int .i64) s.1] w) ⟨F.re ⟨rfl, Aa, Aa, Aa, Aa, Aa, Aa, trivial⟩, W⟩ fun s o a w H L8 hR => ?_
      obtain ⟨x17, x18⟩ := s
      obtain ⟨F, W⟩ := hR
      have F : Fr 133 [] [(0, v1), (1, .int .i64 p1), (2, .int .i64 p2), (6, .bool false), (7, .int .i64 x7), (8, .int .i64 x4), (9, .int .i64 x18)] a := F
      have W : Stw ⟨Y, X, w0⟩ [] [row v1 3 (Rp.int .i64) x17] w := W
      rw [A1] at H
      refine Ah (Ah (Ac ?_))
      refine ls F W Aa (Ad F Aa).q fun a w F W => ?_
      refine ls F W Aa (Ds F Aa Aa).q fun a w F W => ?_
      refine Ae (Ab ?_)
      refine Ay F Aa (fun hb => ?_) fun hb => ?_
      ·
       have H := AP (Bm hb) H
       rw [hb] at F
       clear hb
       refine Aq (Ab (Ah (As ?_)))
       iterate 2 refine Ah ?_
       refine BS W MO (by kernel_rfl) ?_
       iterate 2 refine qs F Aa (Ad F Aa).q fun a F => ?_
       obtain ⟨x19, h7, H⟩ := Ak H
       refine qs F Aa (AC (r := (Rp.int .i64)) EH F Aa Aa (Aj 0 Aa) h7).q fun a F => ?_
       refine qs F Aa (Ao (y := Value.int .i64 x19) (j := 0) (i := x18) F Aa Aa (Aj 0 Aa) h7 Fl.int.to T3 Aa).q fun a F => ?_
       iterate 2 refine qs F Aa (Ad F Aa).q fun a F => ?_
       refine qs F Aa (B9 F Aa Aa Aa).q fun a F => ?_
       obtain ⟨x20, h8, H⟩ := Ak H
       refine qs F Aa (AC (r := (Rp.int .i64)) EH F Aa Aa (Aj 0 Aa) h8).q fun a F => ?_
       refine qs F Aa (Ao (y := Value.int .i64 x20) (j := 0) (i := Az (x18 - 1)) F Aa Aa (Aj 0 Aa) h8 Fl.int.to T3 Aa).q fun a F => ?_
       refine qs F Aa (BR (v := Value.bool (Cs x19 x20)) F SW Aa (fun w W => ET any w x19 x20 _ Aa)) fun a F => ?_
       refine qs F Aa (ED F Aa).q fun a F => ?_
       refine A0 fun w W => ?_
       refine Ab ?_
       refine Ay F Aa (fun hb => ?_) fun hb => ?_
       ·
        have H := AP hb H
        rw [hb] at F
        clear hb
        refine A5 (Bk ?_)
        refine Ib Aa ?_
        iterate 2 refine Bk ?_
        refine A6 (Ab ?_)
        have H := L8 _ H
        exact ⟨_, H, F.re ⟨rfl, Aa, Aa, Aa, Aa, Aa, trivial⟩, W⟩
       have H := AO (by rw [hb]; decide) H
       rw [hb] at F
       clear hb
       refine Aq (Ab ?_)
       refine El [(true, 0), (true, 1), (true, 2), (true, 3), (true, 4), (true, 5), (true, 6), (true, 7), (true, 8), (true, 9), (true, 10), (true, 11), (true, 12), (true, 13), (true, 14), (false, 15), (true, 16), (false, 17)] (CN ⟨Y, X, w0⟩ [] [(some 15, row v1 3 (Rp.int .i64) x17)]) (fun ch a d v w h => by cases d <;> exact h) MO (by kernel_rfl) W (fun w W => ⟨_, _, W, Aw, (all_cons (fun _ => (.head _)) Aw)⟩) fun w W => ?_
       iterate 4 refine Bd (R := []) F Aa Aa (yC fun M Z hN hZ => Ad F Aa) Aa Aa fun a F => ?_
       refine Bd (R := []) F Aa Aa (yC fun M Z hN hZ => B9 F Aa Aa Aa) Aa Aa fun a F => ?_
       iterate 2 refine Bd (R := []) F Aa Aa (yC fun M Z hN hZ => Ad F Aa) Aa Aa fun a F => ?_
       refine Bd (R := []) F Aa Aa (yC fun M Z hN hZ => B9 F Aa Aa Aa) Aa Aa fun a F => ?_
       obtain ⟨x21, h9, H⟩ := Ak H
       refine Bd (R := []) F Aa Aa (yC fun M Z hN hZ => Bi (r := (Rp.int .i64)) EH F Aa Aa (CC W (Aj 0 Aa)) h9) Aa Aa fun a F => ?_
       refine Bd (R := [15]) F Aa Aa (yC fun M Z hN hZ => Ao (y := Value.int .i64 x21) (j := 0) (i := Az (x18 - 1)) F Aa Aa (Ck (hZ ((some 15), row v1 3 (Rp.int .i64) x17) (.head _) Aa)) h9 Fl.int.to T3 Aa) (by kernel_rfl) Aa fun a F => ?_
       iterate 2 refine Bd (R := []) F Aa Aa (yC fun M Z hN hZ => Ad F Aa) Aa Aa fun a F => ?_
       obtain ⟨x22, h10, H⟩ := Ak H
       refine Bd (R := []) F Aa Aa (yC fun M Z hN hZ => Bi (r := (Rp.int .i64)) EH F Aa Aa (CC W (Aj 0 Aa)) h10) Aa Aa fun a F => ?_
       refine Bd (R := [15]) F Aa Aa (yC fun M Z hN hZ => Ao (y := Value.int .i64 x22) (j := 0) (i := x18) F Aa Aa (Ck (hZ ((some 15), row v1 3 (Rp.int .i64) x17) (.head _) Aa)) h10 Fl.int.to T3 Aa) (by kernel_rfl) Aa fun a F => ?_
       obtain ⟨x23, h11, H⟩ := Ak H
       refine Bd (R := []) F Aa Aa (yC fun M Z hN hZ => Bi (r := (Rp.int .i64)) EH F Aa Aa (CC W (Aj 0 Aa)) h11) Aa Aa fun a F => ?_
       refine Fh Aa ?_
       refine A8 (i := x18) (j := 0) (vs := [.int .i64 x21]) (x' := x21) F W Aa Aa Aa (k := 0) Aa Aa h11 T3 Aa Aa Aa Aa (fun A cs _ => Fl.int.sto (by rfl) _ _ _) fun w W => ?_
       refine Cr (N2 := []) (NZ2 := []) (N3 := []) (NZ3 := [(some 15, row v1 3 (Rp.int .i64) x17)]) W Aa Aa Aw (all_cons (fun h => Be (by kernel_rfl) h) Aw) ?_
       obtain ⟨x24, h12, H⟩ := Ak H
       refine Bd (R := []) F Aa Aa (yC fun M Z hN hZ => Bi (r := (Rp.int .i64)) EH F Aa Aa (CC W (Aj 0 Aa)) h12) Aa Aa fun a F => ?_
       refine Fh Aa ?_
       refine A8 (i := Az (x18 - 1)) (j := 0) (vs := [.int .i64 x22]) (x' := x22) F W Aa Aa Aa (k := 0) Aa Aa h12 T3 Aa Aa Aa Aa (fun A cs _ => Fl.int.sto (by rfl) _ _ _) fun w W => ?_
       refine Cr (N2 := []) (NZ2 := []) (N3 := []) (NZ3 := [(some 15, row v1 3 (Rp.int .i64) x17)]) W Aa Aa Aw (all_cons (fun h => Be (by kernel_rfl) h) Aw) ?_
       refine FC (AM (Ab (Ac ?_)))
       refine ls F W Aa (Ad F Aa).q fun a w F W => ?_
       refine ls F W Aa (B9 F Aa Aa Aa).q fun a w F W => ?_
       refine ls F W Aa (Af F Aa).q fun a w F W => ?_
       refine Ae (Ab ?_)
       exact ⟨_, H, F.re ⟨rfl, Aa, Aa, Aa, Aa, Aa, Aa, trivial⟩, W⟩
      have H := AO (Bn hb) H
      rw [hb] at F
      clear hb
      refine A5 ?_
      iterate 2 refine Bk ?_
      refine A6 (Ab ?_)
      have H := L8 _ H
      exact ⟨_, H, F.re ⟨rfl, Aa, Aa, Aa, Aa, Aa, trivial⟩, W⟩
     have H := AO (Bn hb) H
     rw [hb] at F
     clear hb
     refine Aq (Ab ?_)
     exact ⟨_, H, F.re ⟨rfl, Aa, Aa, Aa, Aa, Aa, trivial⟩, W⟩
    rintro a w ⟨x16, hj, F, W⟩
    have hj := AQ hj
    subst hj
    have H := K7
    clear G7 K7
    refine Ah (Ac ?_)
    iterate 2 refine ls F W Aa (Ad F Aa).q fun a w F W => ?_
    refine ls F W Aa (B9 F Aa Aa Aa).q fun a w F W => ?_
    refine ls F W Aa (Ds F Aa Aa).q fun a w F W => ?_
    refine Ae (Ab ?_)
    refine Ay F Aa (fun hb => ?_) fun hb => ?_
    ·
     have H := AP (Bm hb) H
     rw [hb] at F
     clear hb
     refine Ah (Ac ?_)
     refine ls F W Aa (Ad F Aa).q fun a w F W => ?_
     refine ls F W Aa (Bp F Aa Aa Aa).q fun a w F W => ?_
     refine ls F W Aa (Af F Aa).q fun a w F W => ?_
     refine Ae (Ab (As ?_))
     refine Bh H (fun s a w => Fr 133 [] [(0, v1), (1, .int .i64 p1), (2, .int .i64 p2), (6, .bool false), (7, .int .i64 x7), (8, .int .i64 x4), (10, .int .i64 s.2)] a ∧ Stw ⟨Y, X, w0⟩ [] [row v1 3 (Rp.int .i64) s.1] w) ⟨F.re ⟨rfl, Aa, Aa, Aa, Aa, Aa, Aa, trivial⟩, W⟩ fun s o a w H L9 hR => ?_
     obtain ⟨x25, x26⟩ := s
     obtain ⟨F, W⟩ := hR
     have F : Fr 133 [] [(0, v1), (1, .int .i64 p1), (2, .int .i64 p2), (6, .bool false), (7, .int .i64 x7), (8, .int .i64 x4), (10, .int .i64 x26)] a := F
     have W : Stw ⟨Y, X, w0⟩ [] [row v1 3 (Rp.int .i64) x25] w := W
     rw [Ba] at H
     refine Ah (Ah (Ac ?_))
     iterate 2 refine ls F W Aa (Ad F Aa).q fun a w F W => ?_
     refine ls F W Aa (BI F Aa Aa).q fun a w F W => ?_
     refine Ae (Ab ?_)
     refine Ay F Aa (fun hb => ?_) fun hb => ?_
     ·
      have H := AP (Bm hb) H
      rw [hb] at F
      clear hb
      refine Aq (Ab (Ah (As ?_)))
      iterate 2 refine Ah ?_
      refine BS W MO (by kernel_rfl) ?_
      iterate 2 refine qs F Aa (Ad F Aa).q fun a F => ?_
      obtain ⟨x27, h13, H⟩ := Ak H
      refine qs F Aa (AC (r := (Rp.int .i64)) EH F Aa Aa (Aj 0 Aa) h13).q fun a F => ?_
      refine qs F Aa (Ao (y := Value.int .i64 x27) (j := 0) (i := x26) F Aa Aa (Aj 0 Aa) h13 Fl.int.to T3 Aa).q fun a F => ?_
      iterate 2 refine qs F Aa (Ad F Aa).q fun a F => ?_
      refine qs F Aa (B9 F Aa Aa Aa).q fun a F => ?_
      obtain ⟨x28, h14, H⟩ := Ak H
      refine qs F Aa (AC (r := (Rp.int .i64)) EH F Aa Aa (Aj 0 Aa) h14).q fun a F => ?_
      refine qs F Aa (Ao (y := Value.int .i64 x28) (j := 0) (i := Az (x26 - 1)) F Aa Aa (Aj 0 Aa) h14 Fl.int.to T3 Aa).q fun a F => ?_
      refine qs F Aa (BR (v := Value.bool (Cs x27 x28)) F SW Aa (fun w W => ET any w x27 x28 _ Aa)) fun a F => ?_
      refine qs F Aa (ED F Aa).q fun a F => ?_
      refine A0 fun w W => ?_
      refine Ab ?_
      refine Ay F Aa (fun hb => ?_) fun hb => ?_
      ·
       have H := AP hb H
       rw [hb] at F
       clear hb
       refine A5 (Bk ?_)
       refine Ib Aa ?_
       iterate 2 refine Bk ?_
       refine A6 (AM (Ab ?_))
       have H := L9 _ H
       exact ⟨_, _, H, F.re ⟨rfl, Aa, Aa, Aa, Aa, Aa, trivial⟩, W⟩
      have H := AO (by rw [hb]; decide) H
      rw [hb] at F
      clear hb
      refine Aq (Ab ?_)
      refine El [(true, 0), (true, 1), (true, 2), (true, 3), (true, 4), (true, 5), (true, 6), (true, 7), (true, 8), (true, 9), (true, 10), (true, 11), (true, 12), (true, 13), (true, 14), (false, 15), (true, 16), (false, 17)] (CN ⟨Y, X, w0⟩ [] [(some 15, row v1 3 (Rp.int .i64) x25)]) (fun ch a d v w h => by cases d <;> exact h) MO (by kernel_rfl) W (fun w W => ⟨_, _, W, Aw, (all_cons (fun _ => (.head _)) Aw)⟩) fun w W => ?_
      iterate 4 refine Bd (R := []) F Aa Aa (yC fun M Z hN hZ => Ad F Aa) Aa Aa fun a F => ?_
      refine Bd (R := []) F Aa Aa (yC fun M Z hN hZ => B9 F Aa Aa Aa) Aa Aa fun a F => ?_
      iterate 2 refine Bd (R := []) F Aa Aa (yC fun M Z hN hZ => Ad F Aa) Aa Aa fun a F => ?_
      refine Bd (R := []) F Aa Aa (yC fun M Z hN hZ => B9 F Aa Aa Aa) Aa Aa fun a F => ?_
      obtain ⟨x29, h15, H⟩ := Ak H
      refine Bd (R := []) F Aa Aa (yC fun M Z hN hZ => Bi (r := (Rp.int .i64)) EH F Aa Aa (CC W (Aj 0 Aa)) h15) Aa Aa fun a F => ?_
      refine Bd (R := [15]) F Aa Aa (yC fun M Z hN hZ => Ao (y := Value.int .i64 x29) (j := 0) (i := Az (x26 - 1)) F Aa Aa (Ck (hZ ((some 15), row v1 3 (Rp.int .i64) x25) (.head _) Aa)) h15 Fl.int.to T3 Aa) (by kernel_rfl) Aa fun a F => ?_
      iterate 2 refine Bd (R := []) F Aa Aa (yC fun M Z hN hZ => Ad F Aa) Aa Aa fun a F => ?_
      obtain ⟨x30, h16, H⟩ := Ak H
      refine Bd (R := []) F Aa Aa (yC fun M Z hN hZ => Bi (r := (Rp.int .i64)) EH F Aa Aa (CC W (Aj 0 Aa)) h16) Aa Aa fun a F => ?_
      refine Bd (R := [15]) F Aa Aa (yC fun M Z hN hZ => Ao (y := Value.int .i64 x30) (j := 0) (i := x26) F Aa Aa (Ck (hZ ((some 15), row v1 3 (Rp.int .i64) x25) (.head _) Aa)) h16 Fl.int.to T3 Aa) (by kernel_rfl) Aa fun a F => ?_
      obtain ⟨x31, h17, H⟩ := Ak H
      refine Bd (R := []) F Aa Aa (yC fun M Z hN hZ => Bi (r := (Rp.int .i64)) EH F Aa Aa (CC W (Aj 0 Aa)) h17) Aa Aa fun a F => ?_
      refine Fh Aa ?_
      refine A8 (i := x26) (j := 0) (vs := [.int .i64 x29]) (x' := x29) F W Aa Aa Aa (k := 0) Aa Aa h17 T3 Aa Aa Aa Aa (fun A cs _ => Fl.int.sto (by rfl) _ _ _) fun w W => ?_
      refine Cr (N2 := []) (NZ2 := []) (N3 := []) (NZ3 := [(some 15, row v1 3 (Rp.int .i64) x25)]) W Aa Aa Aw (all_cons (fun h => Be (by kernel_rfl) h) Aw) ?_
      obtain ⟨x32, h18, H⟩ := Ak H
      refine Bd (R := []) F Aa Aa (yC fun M Z hN hZ => Bi (r := (Rp.int .i64)) EH F Aa Aa (CC W (Aj 0 Aa)) h18) Aa Aa fun a F => ?_
      refine Fh Aa ?_
      refine A8 (i := Az (x26 - 1)) (j := 0) (vs := [.int .i64 x30]) (x' := x30) F W Aa Aa Aa (k := 0) Aa Aa h18 T3 Aa Aa Aa Aa (fun A cs _ => Fl.int.sto (by rfl) _ _ _) fun w W => ?_
      refine Cr (N2 := []) (NZ2 := []) (N3 := []) (NZ3 := [(some 15, row v1 3 (Rp.int .i64) x25)]) W Aa Aa Aw (all_cons (fun h => Be (by kernel_rfl) h) Aw) ?_
      refine FC (AM (Ab (Ac ?_)))
      refine ls F W Aa (Ad F Aa).q fun a w F W => ?_
      refine ls F W Aa (Bp F Aa Aa Aa).q fun a w F W => ?_
      refine ls F W Aa (Af F Aa).q fun a w F W => ?_
      refine Ae (Ab ?_)
      exact ⟨_, H, F.re ⟨rfl, Aa, Aa, Aa, Aa, Aa, Aa, trivial⟩, W⟩
     have H := AO (Bn hb) H
     rw [hb] at F
     clear hb
     refine A5 ?_
     iterate 2 refine Bk ?_
     refine A6 (AM (Ab ?_))
     have H := L9 _ H
     exact ⟨_, _, H, F.re ⟨rfl, Aa, Aa, Aa, Aa, Aa, trivial⟩, W⟩
    have H := AO (Bn hb) H
    rw [hb] at F
    clear hb
    refine Aq (AM (Ab ?_))
    exact ⟨_, _, H, F.re ⟨rfl, Aa, Aa, Aa, Aa, Aa, trivial⟩, W⟩
   rintro a w ⟨x5, x6, hj, F, W⟩
   have H := K3 _ hj
   clear hj G3 K3 L3
   refine Ac ?_
   refine ls F W Aa (Ad F Aa).q fun a w F W => ?_
   refine ls F W Aa (Bp F Aa Aa Aa).q fun a w F W => ?_
   refine ls F W Aa (Af F Aa).q fun a w F W => ?_
   refine Ae (Ab ?_)
   exact ⟨_, H, F.re ⟨rfl, Aa, Aa, Aa, Aa, Aa, trivial⟩, W⟩
  have H := AO (Bn hb) H
  rw [hb] at F
  clear hb
  refine A5 ?_
  iterate 2 refine Bk ?_
  refine A6 (Ab ?_)
  have H := L2 _ H
  exact ⟨_, H, F.re ⟨rfl, trivial⟩, W⟩
 rintro a w ⟨x1, hj, F, W⟩
 have H := K1 _ hj
 clear hj G1 K1 L1
 refine Ah (Ac ?_)
 refine ls F W Aa (Af F Aa).q fun a w F W => ?_
 refine Ae (Ab (AF ?_))
 have H := AQ H
 subst H
 refine Bj (.inl Aa) F W Aa (AD F Aa) ?_
 exact ⟨(), Aa, W⟩
theorem Vg : Has Try.prog 84 := ⟨fun args w => Al Try.func84 rfl (by decide) args w⟩
noncomputable def CK (p0 : List Int) (p1 : Int) (p2 : Int) (p3 : Int) : Unit → Option (Unit ⊕ (List Int))
  | _ => (if (Az (p2 - p1)) ≤ 12 then (BO p0 p1 p2).bind fun x1 => some (.inr x1) else (if p3 = 0 then none else (Cg p0 p1 p2).bind fun x2 => (if x2.2 = 2 then none else FO (if x2.2 = 1 then (Bw p0 p1 p2).bind fun x4 => (if x4.1 = true then some (.inr (.inr x4.2)) else some (.inl x4.2)) else some (.inl p0)) fun x3 => (if 0 < p1 then (ix x3 (Az (p1 - 1))).bind fun x6 => (ix x3 x2.1).bind fun x7 => some (!(Cs x6 x7)) else some false).bind fun x5 => none)))
noncomputable def Cv (p0 : List Int) (p1 : Int) (p2 : Int) (p3 : Int) : Option (List Int) := AH (CK p0 p1 p2 p3) ()
theorem HT (Y : Nat → Prop) (X : List Nat) (w0 : World) (v1 : Value) (p0 : List Int) (p1 : Int) (p2 : Int) (p3 : Int) (r : List Int) (H : Cv p0 p1 p2 p3 = some r) (hL : Stw ⟨Y, X, w0⟩ [] [row v1 3 (Rp.int .i64) p0] w0) :
    Calls Try.prog 66 #[v1, .int .i64 p1, .int .i64 p2, .int .i64 p3] w0 fun e w' => ∃ x : Unit, e = .returned (.tuple #[]) ∧ Stw ⟨Y, X, w0⟩ [] [row v1 3 (Rp.int .i64) r] w' := by
 refine enter Try.func66 Aa Try.ntmps66 Aa fun a F => ?_
 have W := hL
 unfold Cv at H
 refine Ah (Ac ?_)
 refine ls F W Aa (Af F Aa).q fun a w F W => ?_
 refine Ae (Ab (Ah (Ac ?_)))
 refine ls F W Aa (Af F Aa).q fun a w F W => ?_
 refine Ae (Ab (As ?_))
 refine Bh H (fun s a w => Fr 134 [] [(0, v1), (1, .int .i64 p1), (2, .int .i64 p2), (3, .int .i64 p3), (8, .bool true), (9, .bool true)] a ∧ Stw ⟨Y, X, w0⟩ [] [row v1 3 (Rp.int .i64) p0] w) ⟨F.re ⟨rfl, Aa, Aa, Aa, Aa, Aa, trivial⟩, W⟩ fun s o a w H L1 hR => ?_
 obtain ⟨F, W⟩ := hR
 have F : Fr 134 [] [(0, v1), (1, .int .i64 p1), (2, .int .i64 p2), (3, .int .i64 p3), (8, .bool true), (9, .bool true)] a := F
 have W : Stw ⟨Y, X, w0⟩ [] [row v1 3 (Rp.int .i64) p0] w := W
 rw [CK] at H
 refine As (Ah (Ac ?_))
 iterate 2 refine ls F W Aa (Ad F Aa).q fun a w F W => ?_
 refine ls F W Aa (B9 F Aa Aa Aa).q fun a w F W => ?_
 refine ls F W Aa (Af F Aa).q fun a w F W => ?_
 refine Ae (Ab (Ah (Ah (Ac ?_))))
 refine ls F W Aa (Ad F Aa).q fun a w F W => ?_
 refine ls F W Aa (Im F Aa Aa).q fun a w F W => ?_
 refine Ae (Ab ?_)
 refine Ay F Aa (fun hb => ?_) fun hb => ?_
 ·
  have H := AP (Bm hb) H
  rw [hb] at F
  clear hb
  refine Ah (Ac ?_)
  iterate 3 refine ls F W Aa (Ad F Aa).q fun a w F W => ?_
  obtain ⟨x1, h1, H⟩ := Ak H
  refine Bo (Ml := []) (Zl := [row v1 3 (Rp.int .i64) p0]) (M := []) (Z := []) (β := Unit) (rv := fun x => .tuple #[]) (MM := fun x => []) (ZZ := fun x => [row v1 3 (Rp.int .i64) x1]) F W UZ Aa Aa (fun hL => Gq _ _ w (v1) p0 p1 p2 _ h1 hL) fun x a w F W => ?_
  have W : Stw ⟨Y, X, w0⟩ [] [row v1 3 (Rp.int .i64) x1] w := W
  refine Ae (Ab (AF (AN (A3 (AN (A3 ?_))))))
  have H := L1 _ H
  have H := AQ H
  subst H
  refine He (.inl Aa) F Aa ?_
  exact ⟨(), Aa, W⟩
 have H := AO (Bn hb) H
 rw [hb] at F
 clear hb
 refine Aq (Ab (Ah (Ah (Ac ?_))))
 refine ls F W Aa (Ad F Aa).q fun a w F W => ?_
 refine ls F W Aa (Dl F Aa Aa).q fun a w F W => ?_
 refine Ae (Ab ?_)
 refine Ay F Aa (fun hb => ?_) fun hb => ?_
 ·
  have H := AP (Bm hb) H
  rw [hb] at F
  clear hb
  exact nomatch H
 have H := AO (Bn hb) H
 rw [hb] at F
 clear hb
 refine Aq (Ab (Ah (Ah (Ac ?_))))
 refine ls F W Aa (Ad F Aa).q fun a w F W => ?_
 refine ls F W Aa (ED F Aa).q fun a w F W => ?_
 refine Ae (Ab ?_)
 refine My F Aa ?_
 refine Aq (Ab (Ah (Ac ?_)))
 iterate 3 refine ls F W Aa (Ad F Aa).q fun a w F W => ?_
 obtain ⟨x2, h2, H⟩ := Ak H
 refine ls F W Aa (BR (v := Value.tuple #[.int .i64 x2.1, .int .i64 x2.2]) F U1 Aa (fun w W => GI any w (v1) p0 p1 p2 _ h2 (((Aj 0 Aa) : EM _ _ _ _ _ _) w W).nx)) fun a w F W => ?_
 refine ls F W Aa (Ad F Aa).q fun a w F W => ?_
 refine ls F W Aa (BK (v := Value.int .i64 x2.1) F Aa Aa).q fun a w F W => ?_
 refine ls F W Aa (BK (v := Value.int .i64 x2.2) F Aa Aa).q fun a w F W => ?_
 iterate 2 refine ls F W Aa (Af F Aa).q fun a w F W => ?_
 refine Ae (Ab (Ah (Ah (Ac ?_))))
 refine ls F W Aa (Ad F Aa).q fun a w F W => ?_
 refine ls F W Aa (Dl F Aa Aa).q fun a w F W => ?_
 refine Ae (Ab ?_)
 refine Ay F Aa (fun hb => ?_) fun hb => ?_
 ·
  have H := AP (Bm hb) H
  rw [hb] at F
  clear hb
  exact nomatch H
 have H := AO (Bn hb) H
 rw [hb] at F
 clear hb
 refine Aq (Ab ?_)
 obtain ⟨o2, G2, K2, L2⟩ := JX H
 refine AK (fun a w => ∃ x3 : List Int, some (Sum.inl x3) = some o2 ∧ Fr 134 [] [(0, v1), (1, .int .i64 p1), (2, .int .i64 p2), (3, .int .i64 p3), (8, .bool true), (9, .bool true), (10, .int .i64 (Az (p2 - p1))), (11, .int .i64 x2.1)] a ∧ Stw ⟨Y, X, w0⟩ [] [row v1 3 (Rp.int .i64) x3] w) ?_ ?_
 ·
  have H := G2
  clear G2 K2
  refine Ah (Ac ?_)
  iterate 2 refine ls F W Aa (Ad F Aa).q fun a w F W => ?_
  refine AR F W (Ag F Aa Aa Aa Aa) Aa (An Aa) (Ad F Aa).q fun a w F W => ?_
  refine ls F W Aa (Av F Aa Aa Aa).q fun a w F W => ?_
  refine ls F W Aa (Ad F Aa).q fun a w F W => ?_
  refine AR F W (Ag F Aa Aa Aa Aa) Aa (An Aa) (Ad F Aa).q fun a w F W => ?_
  refine AR F W (Ag F Aa Aa Aa Aa) Aa (An Aa) (Dl F Aa Aa).q fun a w F W => ?_
  refine ls F W Aa (Av F Aa Aa Aa).q fun a w F W => ?_
  refine Ae (Ab ?_)
  refine Ay F Aa (fun hb => ?_) fun hb => ?_
  ·
   have H := AP (Bm hb) H
   rw [hb] at F
   clear hb
   refine Ah (Ac ?_)
   iterate 3 refine ls F W Aa (Ad F Aa).q fun a w F W => ?_
   obtain ⟨x4, h3, H⟩ := Ak H
   refine Bo (Ml := []) (Zl := [row v1 3 (Rp.int .i64) p0]) (M := []) (Z := []) (β := Unit) (rv := fun x => .bool x4.1) (MM := fun x => []) (ZZ := fun x => [row v1 3 (Rp.int .i64) x4.2]) F W Vg Aa Aa (fun hL => Ff _ _ w (v1) p0 p1 p2 _ h3 hL) fun x a w F W => ?_
   have W : Stw ⟨Y, X, w0⟩ [] [row v1 3 (Rp.int .i64) x4.2] w := W
   refine Ae (Ab ?_)
   refine Ay F Aa (fun hb => ?_) fun hb => ?_
   ·
    have H := AP hb H
    rw [hb] at F
    clear hb
    refine AF (AN (A3 (AN (A3 ?_))))
    have H := L2 _ H
    have H := L1 _ H
    have H := AQ H
    subst H
    refine He (.inl Aa) F Aa ?_
    exact ⟨(), Aa, W⟩
   have H := AO (by rw [hb]; decide) H
   rw [hb] at F
   clear hb
   refine Aq (Ab ?_)
   exact ⟨_, H, F.re ⟨rfl, Aa, Aa, Aa, Aa, Aa, Aa, Aa, trivial⟩, W⟩
  have H := AO (Bn hb) H
  rw [hb] at F
  clear hb
  refine Aq (Ab ?_)
  exact ⟨_, H, F.re ⟨rfl, Aa, Aa, Aa, Aa, Aa, Aa, Aa, trivial⟩, W⟩
 rintro a w ⟨x3, hj, F, W⟩
 have H := K2 _ hj
 clear hj G2 K2 L2
 refine Ah ?_
 obtain ⟨o3, G3, K3⟩ := Ak H
 refine AK (fun a w => ∃ x5 : Bool, some (x5) = some o3 ∧ Fr 134 [] [(0, v1), (1, .int .i64 p1), (2, .int .i64 p2), (3, .int .i64 p3), (8, .bool true), (9, .bool true), (10, .int .i64 (Az (p2 - p1))), (11, .int .i64 x2.1), (87, .bool x5)] a ∧ Stw ⟨Y, X, w0⟩ [] [row v1 3 (Rp.int .i64) x3] w) ?_ ?_
 ·
  have H := G3
  clear G3 K3
  refine BS W MO (by kernel_rfl) ?_
  refine qs F Aa (Ad F Aa).q fun a F => ?_
  refine qs F Aa (FZ F Aa Aa).q fun a F => ?_
  refine qs F Aa (Ad F Aa).q fun a F => ?_
  rcases Bool.eq_false_or_eq_true (decide (0 < p1)) with hb | hb
  ·
   have H := AP (Bm hb) H
   rw [hb] at F
   clear hb
   iterate 2 refine BM F (Ag F Aa Aa Aa Aa) Aa (An Aa) (Ad F Aa).q fun a F => ?_
   refine BM F (Ag F Aa Aa Aa Aa) Aa (An Aa) (B9 F Aa Aa Aa).q fun a F => ?_
   obtain ⟨x6, h4, H⟩ := Ak H
   refine BM F (Ag F Aa Aa Aa Aa) Aa (An Aa) (AC (r := (Rp.int .i64)) EH F Aa Aa (Aj 0 Aa) h4).q fun a F => ?_
   refine BM F (Ag F Aa Aa Aa Aa) Aa (An Aa) (Ao (y := Value.int .i64 x6) (j := 0) (i := Az (p1 - 1)) F Aa Aa (Aj 0 Aa) h4 Fl.int.to T3 Aa).q fun a F => ?_
   iterate 2 refine BM F (Ag F Aa Aa Aa Aa) Aa (An Aa) (Ad F Aa).q fun a F => ?_
   obtain ⟨x7, h5, H⟩ := Ak H
   refine BM F (Ag F Aa Aa Aa Aa) Aa (An Aa) (AC (r := (Rp.int .i64)) EH F Aa Aa (Aj 0 Aa) h5).q fun a F => ?_
   refine BM F (Ag F Aa Aa Aa Aa) Aa (An Aa) (Ao (y := Value.int .i64 x7) (j := 0) (i := x2.1) F Aa Aa (Aj 0 Aa) h5 Fl.int.to T3 Aa).q fun a F => ?_
   refine BM F (Ag F Aa Aa Aa Aa) Aa (An Aa) (BR (v := Value.bool (Cs x6 x7)) F SW Aa (fun w W => ET any w x6 x7 _ Aa)) fun a F => ?_
   refine BM F (Ag F Aa Aa Aa Aa) Aa (An Aa) (ED F Aa).q fun a F => ?_
   refine qs F Aa (Av F Aa Aa Aa).q fun a F => ?_
   refine A0 fun w W => ?_
   refine Ab ?_
   exact ⟨_, H, F.re ⟨rfl, Aa, Aa, Aa, Aa, Aa, Aa, Aa, Aa, trivial⟩, W⟩
  have H := AO (Bn hb) H
  rw [hb] at F
  clear hb
  iterate 11 refine D7 F (CJ F Aa Aa Aa Aa Aa) Aa Aa fun a F => ?_
  refine qs F Aa (Ax F Aa Aa Aa).q fun a F => ?_
  refine A0 fun w W => ?_
  refine Ab ?_
  exact ⟨_, H, F.re ⟨rfl, Aa, Aa, Aa, Aa, Aa, Aa, Aa, Aa, trivial⟩, W⟩
 rintro a w ⟨x5, hj, F, W⟩
 have hj := AQ hj
 subst hj
 have H := K3
 clear G3 K3
 exact nomatch H
theorem Vh : Has Try.prog 66 := ⟨fun args w => Al Try.func66 rfl (by decide) args w⟩
noncomputable def CM (p0 : List Int) : Option (List Int) := (DI (IntKind.u64.wrap (p0.length : Int))).bind fun x1 => (Cv p0 0 (p0.length : Int) x1).bind fun x2 => some x2
theorem GM (Y : Nat → Prop) (X : List Nat) (w0 : World) (v1 : Value) (p0 : List Int) (r : List Int) (H : CM p0 = some r) (hL : Stw ⟨Y, X, w0⟩ [] [row v1 3 (Rp.int .i64) p0] w0) :
    Calls Try.prog 45 #[v1] w0 fun e w' => ∃ x : Unit, e = .returned (.tuple #[]) ∧ Stw ⟨Y, X, w0⟩ [] [row v1 3 (Rp.int .i64) r] w' := by
 refine enter Try.func45 Aa Try.ntmps45 Aa fun a F => ?_
 have W := hL
 unfold CM at H
 refine Ah (Ac ?_)
 refine ls F W Aa (Ad F Aa).q fun a w F W => ?_
 refine ls F W Aa (B1 (r := (Rp.int .i64)) (l := p0) Hu Aa F Aa (Aj 0 Aa)).q fun a w F W => ?_
 refine ls F W Aa (Af F Aa).q fun a w F W => ?_
 refine Ae (Ab (Ac ?_))
 iterate 3 refine ls F W Aa (Ad F Aa).q fun a w F W => ?_
 refine ls F W Aa (IZ OI RM F Aa).q fun a w F W => ?_
 obtain ⟨x1, h1, H⟩ := Ak H
 refine ls F W Aa (BR (v := Value.int .i64 x1) F Ux Aa (fun w W => Hs any w (IntKind.u64.wrap (p0.length : Int)) _ h1)) fun a w F W => ?_
 obtain ⟨x2, h2, H⟩ := Ak H
 refine Bo (Ml := []) (Zl := [row v1 3 (Rp.int .i64) p0]) (M := []) (Z := []) (β := Unit) (rv := fun x => .tuple #[]) (MM := fun x => []) (ZZ := fun x => [row v1 3 (Rp.int .i64) x2]) F W Vh Aa Aa (fun hL => HT _ _ w (v1) p0 0 (p0.length : Int) x1 _ h2 hL) fun x a w F W => ?_
 have W : Stw ⟨Y, X, w0⟩ [] [row v1 3 (Rp.int .i64) x2] w := W
 refine Ae ?_
 have H := AQ H
 subst H
 refine He (.inr Aa) F Aa ?_
 exact ⟨(), Aa, W⟩
theorem UA : Has Try.prog 45 := ⟨fun args w => Al Try.func45 rfl (by decide) args w⟩
noncomputable def Ca (p0 : List Int) (x1 : Int) : (List Int × Int × Int) → Option ((List Int × Int × Int) ⊕ (List Int × Int))
  | (x7, x8, x9) => (IV x7 x1 (p0.length : Int)).bind fun x10 => (if x9 < (x10.length : Int) then ((ix x10 x9).bind fun x13 => (ix x10 (Az (x9 - 1))).bind fun x14 => (if x13 ≠ x14 then (ix x10 x9).bind fun x15 => (ix x7 x8).bind fun x16 => some ((AE x7 x8 x15), Az (x8 + 1)) else some (x7, x8))).bind fun (x11, x12) => some (.inl (x11, x12, Az (x9 + 1))) else some (.inr (x7, x8)))
noncomputable def BQ (p0 : List Int) : Int → Option (Int ⊕ (Unit ⊕ (List Int)))
  | x1 => (if x1 < (p0.length : Int) then FO ((ix p0 x1).bind fun x2 => (ix p0 (Az (x1 - 1))).bind fun x3 => (if x2 = x3 then (IV p0 x1 (p0.length : Int)).bind fun x4 => (AH (Ca p0 x1) (p0, x1, 1)).bind fun (x5, x6) => (IV x5 x6 (x5.length : Int)).bind fun x17 => (Sz x5 x6 (List.replicate (x17.length) (0 : Int))).bind fun x18 => (IV x18 0 x6).bind fun x19 => some (.inr (.inr (.inr x19))) else some (.inl ()))) fun _ => some (.inl (Az (x1 + 1))) else some (.inr (.inl ())))
noncomputable def Cy (p0 : List Int) : Option (List Int) := (if (p0.length : Int) < 2 then some p0 else FO (AH (BQ p0) 1) fun _ => some p0)
theorem F5 (Y : Nat → Prop) (X : List Nat) (w0 : World) (v1 : Value) (p0 : List Int) (r : List Int) (H : Cy p0 = some r) (hL : Stw ⟨Y, X, w0⟩ [] [row v1 3 (Rp.int .i64) p0] w0) :
    Calls Try.prog 46 #[v1] w0 fun e w' => ∃ x : Value, e = .returned (x) ∧ Stw ⟨Y, X, w0⟩ [] [row (x) 3 (Rp.int .i64) r] w' := by
 refine enter Try.func46 Aa Try.ntmps46 Aa fun a F => ?_
 have W := hL
 unfold Cy at H
 refine Ah (Ac ?_)
 refine ls F W Aa (Af F Aa).q fun a w F W => ?_
 refine Ae (Ab (Ah (Ah (Ac ?_))))
 refine ls F W Aa (Ad F Aa).q fun a w F W => ?_
 refine ls F W Aa (B1 (r := (Rp.int .i64)) (l := p0) Hu Aa F Aa (Aj 0 Aa)).q fun a w F W => ?_
 refine ls F W Aa (BI F Aa Aa).q fun a w F W => ?_
 refine Ae (Ab ?_)
 refine Ay F Aa (fun hb => ?_) fun hb => ?_
 ·
  have H := AP (Bm hb) H
  rw [hb] at F
  clear hb
  refine Ah (Ac ?_)
  refine ls F W Aa (Ad F Aa).q fun a w F W => ?_
  refine ls F W Aa (Af F Aa).q fun a w F W => ?_
  refine Ae (Ab (AF (AN ?_)))
  have H := AQ H
  subst H
  refine Bj (.inl Aa) F W Aa (AD F Aa) ?_
  exact ⟨(v1), Aa, W⟩
 have H := AO (Bn hb) H
 rw [hb] at F
 clear hb
 refine Aq (Ab ?_)
 obtain ⟨o1, G1, K1, L1⟩ := JX H
 refine AK (fun a w => some (Sum.inl ()) = some o1 ∧ Fr 61 [] [(0, v1), (2, .slice none 0 0)] a ∧ Stw ⟨Y, X, w0⟩ [] [row v1 3 (Rp.int .i64) p0] w) ?_ ?_
 ·
  have H := G1
  clear G1 K1
  refine Ah (Ac ?_)
  refine ls F W Aa (Af F Aa).q fun a w F W => ?_
  refine Ae (Ab (As ?_))
  refine Bh H (fun s a w => Fr 61 [] [(0, v1), (2, .slice none 0 0), (3, .int .i64 s)] a ∧ Stw ⟨Y, X, w0⟩ [] [row v1 3 (Rp.int .i64) p0] w) ⟨F.re ⟨rfl, Aa, Aa, trivial⟩, W⟩ fun s o a w H L2 hR => ?_
  obtain ⟨x1, rfl⟩ : ∃ x, x = s := ⟨s, rfl⟩
  obtain ⟨F, W⟩ := hR
  have F : Fr 61 [] [(0, v1), (2, .slice none 0 0), (3, .int .i64 x1)] a := F
  have W : Stw ⟨Y, X, w0⟩ [] [row v1 3 (Rp.int .i64) p0] w := W
  rw [BQ] at H
  refine Ah (Ah (Ac ?_))
  iterate 2 refine ls F W Aa (Ad F Aa).q fun a w F W => ?_
  refine ls F W Aa (B1 (r := (Rp.int .i64)) (l := p0) Hu Aa F Aa (Aj 0 Aa)).q fun a w F W => ?_
  refine ls F W Aa (BI F Aa Aa).q fun a w F W => ?_
  refine Ae (Ab ?_)
  refine Ay F Aa (fun hb => ?_) fun hb => ?_
  ·
   have H := AP (Bm hb) H
   rw [hb] at F
   clear hb
   refine Aq (Ab ?_)
   obtain ⟨o3, G3, K3, L3⟩ := JX H
   refine AK (fun a w => some (Sum.inl ()) = some o3 ∧ Fr 61 [] [(0, v1), (2, .slice none 0 0), (3, .int .i64 x1)] a ∧ Stw ⟨Y, X, w0⟩ [] [row v1 3 (Rp.int .i64) p0] w) ?_ ?_
   ·
    have H := G3
    clear G3 K3
    refine As (Ah ?_)
    refine BS W MO (by kernel_rfl) ?_
    iterate 2 refine qs F Aa (Ad F Aa).q fun a F => ?_
    obtain ⟨x2, h1, H⟩ := Ak H
    refine qs F Aa (AC (r := (Rp.int .i64)) EH F Aa Aa (Aj 0 Aa) h1).q fun a F => ?_
    refine qs F Aa (Ao (y := Value.int .i64 x2) (j := 0) (i := x1) F Aa Aa (Aj 0 Aa) h1 Fl.int.to T3 Aa).q fun a F => ?_
    iterate 2 refine qs F Aa (Ad F Aa).q fun a F => ?_
    refine qs F Aa (B9 F Aa Aa Aa).q fun a F => ?_
    obtain ⟨x3, h2, H⟩ := Ak H
    refine qs F Aa (AC (r := (Rp.int .i64)) EH F Aa Aa (Aj 0 Aa) h2).q fun a F => ?_
    refine qs F Aa (Ao (y := Value.int .i64 x3) (j := 0) (i := Az (x1 - 1)) F Aa Aa (Aj 0 Aa) h2 Fl.int.to T3 Aa).q fun a F => ?_
    refine qs F Aa (Dl F Aa Aa).q fun a F => ?_
    refine A0 fun w W => ?_
    refine Ab ?_
    refine Ay F Aa (fun hb => ?_) fun hb => ?_
    ·
     have H := AP (Bm hb) H
     rw [hb] at F
     clear hb
     refine Ah (Ac ?_)
     iterate 2 refine ls F W Aa (Ad F Aa).q fun a w F W => ?_
     obtain ⟨x4, h3, H⟩ := Ak H
     refine ls F W Aa (NK (r := (Rp.int .i64)) EH F Aa Aa Aa (Aj 0 Aa) h3).q fun a w F W => ?_
     refine ls F W Aa (Af F Aa).q fun a w F W => ?_
     refine Ae (Ab ?_)
     obtain ⟨o4, G4, K4⟩ := Ak H
     refine AK (fun a w => ∃ x5 : List Int, ∃ x6 : Int, some ((x5, x6)) = some o4 ∧ Fr 61 [] [(0, v1), (2, .slice none 0 0), (3, .int .i64 x6)] a ∧ Stw ⟨Y, X, w0⟩ [] [row v1 3 (Rp.int .i64) x5] w) ?_ ?_
     ·
      have H := G4
      clear G4 K4
      refine Ah (Ac ?_)
      refine ls F W Aa (Af F Aa).q fun a w F W => ?_
      refine Ae (Ab (As ?_))
      refine Bh H (fun s a w => Fr 61 [] [(0, v1), (2, .slice none 0 0), (3, .int .i64 s.2.1), (4, (Em v1 x1 (p0.length : Int) 1)), (5, .int .i64 s.2.2)] a ∧ Stw ⟨Y, X, w0⟩ [] [row v1 3 (Rp.int .i64) s.1] w) ⟨F.re ⟨rfl, Aa, Aa, Aa, Aa, trivial⟩, W⟩ fun s o a w H L5 hR => ?_
      obtain ⟨x7, x8, x9⟩ := s
      obtain ⟨F, W⟩ := hR
      have F : Fr 61 [] [(0, v1), (2, .slice none 0 0), (3, .int .i64 x8), (4, (Em v1 x1 (p0.length : Int) 1)), (5, .int .i64 x9)] a := F
      have W : Stw ⟨Y, X, w0⟩ [] [row v1 3 (Rp.int .i64) x7] w := W
      rw [Ca] at H
      refine Ah (Ah (Ac ?_))
      iterate 2 refine ls F W Aa (Ad F Aa).q fun a w F W => ?_
      obtain ⟨x10, h4, H⟩ := Ak H
      refine ls F W Aa (B1 (r := (Rp.int .i64)) (l := x10) Hu Aa F Aa (I5 (Aj 0 Aa) h4)).q fun a w F W => ?_
      refine ls F W Aa (BI F Aa Aa).q fun a w F W => ?_
      refine Ae (Ab ?_)
      refine Ay F Aa (fun hb => ?_) fun hb => ?_
      ·
       have H := AP (Bm hb) H
       rw [hb] at F
       clear hb
       refine Aq (Ab ?_)
       obtain ⟨o6, G6, K6⟩ := Ak H
       refine AK (fun a w => ∃ x11 : List Int, ∃ x12 : Int, some ((x11, x12)) = some o6 ∧ Fr 61 [] [(0, v1), (2, .slice none 0 0), (3, .int .i64 x12), (4, (Em v1 x1 (p0.length : Int) 1)), (5, .int .i64 x9)] a ∧ Stw ⟨Y, X, w0⟩ [] [row v1 3 (Rp.int .i64) x11] w) ?_ ?_
       ·
        have H := G6
        clear G6 K6
        refine As (Ah ?_)
        refine BS W MO (by kernel_rfl) ?_
        iterate 2 refine qs F Aa (Ad F Aa).q fun a F => ?_
        obtain ⟨x13, h5, H⟩ := Ak H
        refine qs F Aa (AC (r := (Rp.int .i64)) EH F Aa Aa (I5 (Aj 0 Aa) h4) h5).q fun a F => ?_
        refine qs F Aa (Ao (y := Value.int .i64 x13) (j := 0) (i := x9) F Aa Aa (I5 (Aj 0 Aa) h4) h5 Fl.int.to T3 Aa).q fun a F => ?_
        iterate 2 refine qs F Aa (Ad F Aa).q fun a F => ?_
        refine qs F Aa (B9 F Aa Aa Aa).q fun a F => ?_
        obtain ⟨x14, h6, H⟩ := Ak H
        refine qs F Aa (AC (r := (Rp.int .i64)) EH F Aa Aa (I5 (Aj 0 Aa) h4) h6).q fun a F => ?_
        refine qs F Aa (Ao (y := Value.int .i64 x14) (j := 0) (i := Az (x9 - 1)) F Aa Aa (I5 (Aj 0 Aa) h4) h6 Fl.int.to T3 Aa).q fun a F => ?_
        refine qs F Aa (Hq F Aa Aa).q fun a F => ?_
        refine A0 fun w W => ?_
        refine Ab ?_
        refine Ay F Aa (fun hb => ?_) fun hb => ?_
        ·
         have H := AP (Bm hb) H
         rw [hb] at F
         clear hb
         refine Ah (Ac ?_)
         iterate 4 refine ls F W Aa (Ad F Aa).q fun a w F W => ?_
         obtain ⟨x15, h7, H⟩ := Ak H
         refine ls F W Aa (AC (r := (Rp.int .i64)) EH F Aa Aa (I5 (Aj 0 Aa) h4) h7).q fun a w F W => ?_
         refine ls F W Aa (Ao (y := Value.int .i64 x15) (j := 0) (i := x9) F Aa Aa (I5 (Aj 0 Aa) h4) h7 Fl.int.to T3 Aa).q fun a w F W => ?_
         obtain ⟨x16, h8, H⟩ := Ak H
         refine ls F W Aa (AC (r := (Rp.int .i64)) EH F Aa Aa (Aj 0 Aa) h8).q fun a w F W => ?_
         refine A8 (i := x8) (j := 0) (vs := [.int .i64 x15]) (x' := x15) F W Aa Aa Aa (k := 0) Aa Aa h8 T3 Aa Aa Aa Aa (fun A cs _ => Fl.int.sto (by rfl) _ _ _) fun w W => ?_
         refine Ae (Ab (Ac ?_))
         refine ls F W Aa (Ad F Aa).q fun a w F W => ?_
         refine ls F W Aa (Bp F Aa Aa Aa).q fun a w F W => ?_
         refine ls F W Aa (Af F Aa).q fun a w F W => ?_
         refine Ae (AM (Ab ?_))
         exact ⟨_, _, H, F.re ⟨rfl, Aa, Aa, Aa, Aa, trivial⟩, W⟩
        have H := AO (Bn hb) H
        rw [hb] at F
        clear hb
        refine Aq (AM (Ab ?_))
        exact ⟨_, _, H, F.re ⟨rfl, Aa, Aa, Aa, Aa, trivial⟩, W⟩
       rintro a w ⟨x11, x12, hj, F, W⟩
       have hj := AQ hj
       subst hj
       have H := K6
       clear G6 K6
       refine Ac ?_
       refine ls F W Aa (Ad F Aa).q fun a w F W => ?_
       refine ls F W Aa (Bp F Aa Aa Aa).q fun a w F W => ?_
       refine ls F W Aa (Af F Aa).q fun a w F W => ?_
       refine Ae (Ab ?_)
       exact ⟨_, H, F.re ⟨rfl, Aa, Aa, Aa, Aa, trivial⟩, W⟩
      have H := AO (Bn hb) H
      rw [hb] at F
      clear hb
      refine A5 ?_
      iterate 2 refine Bk ?_
      refine A6 (Ab ?_)
      have H := L5 _ H
      exact ⟨_, _, H, F.re ⟨rfl, Aa, Aa, trivial⟩, W⟩
     rintro a w ⟨x5, x6, hj, F, W⟩
     have hj := AQ hj
     subst hj
     have H := K4
     clear G4 K4
     refine Ah (Ac ?_)
     iterate 2 refine ls F W Aa (Ad F Aa).q fun a w F W => ?_
     obtain ⟨x17, h9, H⟩ := Ak H
     refine ls F W Aa (NK (r := (Rp.int .i64)) EH F Aa Aa Aa (Aj 0 Aa) h9).q fun a w F W => ?_
     obtain ⟨x18, h10, H⟩ := Ak H
     refine Rw (r := (Rp.int .i64)) (v := v1) (k := 0) (0 : Int) F W EH Z3 Aa Aa Aa h9 (fun w A => Fl.int.mk' w A (0 : Int)) h10 fun w W => ?_
     have W : Stw ⟨Y, X, w0⟩ [] [row v1 3 (Rp.int .i64) x18] w := W
     refine Ae (Ab (Ah (Ac ?_)))
     iterate 2 refine ls F W Aa (Ad F Aa).q fun a w F W => ?_
     obtain ⟨x19, h11, H⟩ := Ak H
     refine ls F W Aa (NK (r := (Rp.int .i64)) EH F Aa Aa Aa (Aj 0 Aa) h11).q fun a w F W => ?_
     refine ls F W Aa (Af F Aa).q fun a w F W => ?_
     refine Ae (Ab (AF (A3 ?_)))
     iterate 2 refine AN ?_
     refine A3 (AN ?_)
     have H := L3 _ H
     have H := L2 _ H
     have H := L1 _ H
     have H := AQ H
     subst H
     refine Bj (.inl Aa) F W Aa (AD F Aa) ?_
     have W := W.subRow (k := 0) Aa Aa h11
     exact ⟨((Em v1 (0 : Int) x6 1)), Aa, W⟩
    have H := AO (Bn hb) H
    rw [hb] at F
    clear hb
    refine Aq (AM (Ab ?_))
    exact ⟨H, F.re ⟨rfl, Aa, Aa, trivial⟩, W⟩
   rintro a w ⟨hj, F, W⟩
   have H := K3 _ hj
   clear hj G3 K3 L3
   refine Ac ?_
   refine ls F W Aa (Ad F Aa).q fun a w F W => ?_
   refine ls F W Aa (Bp F Aa Aa Aa).q fun a w F W => ?_
   refine ls F W Aa (Af F Aa).q fun a w F W => ?_
   refine Ae (Ab ?_)
   exact ⟨_, H, F.re ⟨rfl, Aa, Aa, trivial⟩, W⟩
  have H := AO (Bn hb) H
  rw [hb] at F
  clear hb
  refine A5 ?_
  iterate 2 refine Bk ?_
  refine A6 (Ab ?_)
  have H := L2 _ H
  exact ⟨H, F.re ⟨rfl, Aa, trivial⟩, W⟩
 rintro a w ⟨hj, F, W⟩
 have H := K1 _ hj
 clear hj G1 K1 L1
 refine Ah (Ac ?_)
 refine ls F W Aa (Ad F Aa).q fun a w F W => ?_
 refine ls F W Aa (Af F Aa).q fun a w F W => ?_
 refine Ae (Ab (AF ?_))
 have H := AQ H
 subst H
 refine Bj (.inl Aa) F W Aa (AD F Aa) ?_
 exact ⟨(v1), Aa, W⟩
theorem UD : Has Try.prog 46 := ⟨fun args w => Al Try.func46 rfl (by decide) args w⟩
noncomputable def D0 (p0 : List Int) : Option (List Int) := (CM p0).bind fun x1 => (Cy x1).bind fun x2 => some x2
theorem Kn (Y : Nat → Prop) (X : List Nat) (w0 : World) (v1 : Value) (p0 : List Int) (r : List Int) (H : D0 p0 = some r) (hL : Stw ⟨Y, X, w0⟩ [] [row v1 3 (Rp.int .i64) p0] w0) :
    Calls Try.prog 42 #[v1] w0 fun e w' => ∃ x : Value, e = .returned (x) ∧ Stw ⟨Y, X, w0⟩ [] [row (x) 3 (Rp.int .i64) r] w' := by
 refine enter Try.func42 Aa Try.ntmps42 Aa fun a F => ?_
 have W := hL
 unfold D0 at H
 refine Ah (Ac ?_)
 refine ls F W Aa (Af F Aa).q fun a w F W => ?_
 refine Ae (Ab (Ah (Ac ?_)))
 refine ls F W Aa (Ad F Aa).q fun a w F W => ?_
 obtain ⟨x1, h1, H⟩ := Ak H
 refine Bo (Ml := []) (Zl := [row v1 3 (Rp.int .i64) p0]) (M := []) (Z := []) (β := Unit) (rv := fun x => .tuple #[]) (MM := fun x => []) (ZZ := fun x => [row v1 3 (Rp.int .i64) x1]) F W UA Aa Aa (fun hL => GM _ _ w (v1) p0 _ h1 hL) fun x a w F W => ?_
 have W : Stw ⟨Y, X, w0⟩ [] [row v1 3 (Rp.int .i64) x1] w := W
 refine Ae (Ab (Ah (Ac ?_)))
 refine ls F W Aa (Ad F Aa).q fun a w F W => ?_
 obtain ⟨x2, h2, H⟩ := Ak H
 refine Bo (Ml := []) (Zl := [row v1 3 (Rp.int .i64) x1]) (M := []) (Z := []) (β := Value) (rv := fun x => x) (MM := fun x => []) (ZZ := fun x => [row x 3 (Rp.int .i64) x2]) F W UD Aa Aa (fun hL => F5 _ _ w (v1) x1 _ h2 hL) fun x a w F W => ?_
 obtain ⟨v2, rfl⟩ : ∃ y, y = x := ⟨x, rfl⟩
 have W : Stw ⟨Y, X, w0⟩ [] [row v2 3 (Rp.int .i64) x2] w := W
 refine ls F W Aa (Af F Aa).q fun a w F W => ?_
 refine Ae (Ab (AF ?_))
 have H := AQ H
 subst H
 refine Bj (.inl Aa) F W Aa (AD F Aa) ?_
 exact ⟨(v2), Aa, W⟩
theorem Vl : Has Try.prog 42 := ⟨fun args w => Al Try.func42 rfl (by decide) args w⟩
noncomputable def Dx (p0 : List (Int × Int × Int × Int)) : (List Int × Int) → Option ((List Int × Int) ⊕ (List Int))
  | (x2, x3) => (if x3 < (p0.length : Int) then (ix p0 x3).bind fun x4 => (KF x2 ([x4.2.2.2] : List Int)).bind fun x5 => some (.inl (x5, Az (x3 + 1))) else some (.inr x2))
noncomputable def EZ (p0 : List (Int × Int × Int × Int)) : Option (List Int) := (AH (Dx p0) ([], 0)).bind fun x1 => (D0 x1).bind fun x6 => some x6
theorem Mc (Y : Nat → Prop) (w0 : World) (v1 : Value) (p0 : List (Int × Int × Int × Int)) (r : List Int) (H : EZ p0 = some r) (h_v1 : Sl w0 (NX []) A4 v1 p0) :
    Calls Try.prog 30 #[v1] w0 fun e w' => ∃ x : Value, e = .returned (x) ∧ Stw ⟨Y, [], w0⟩ [] [row (x) 3 (Rp.int .i64) r] w' := by
 refine enter Try.func30 Aa Try.ntmps30 Aa fun a F => ?_
 have W := Stw.start Y w0
 unfold EZ at H
 refine Ah (Ac ?_)
 refine ls F W Aa (Af F Aa).q fun a w F W => ?_
 refine Ae (Ab (Ah (Ac ?_)))
 refine ls F W Aa (Af F Aa).q fun a w F W => ?_
 refine Ae (Ab ?_)
 obtain ⟨o1, G1, K1⟩ := Ak H
 refine AK (fun a w => ∃ x1 : List Int, ∃ v2 : Value, some (x1) = some o1 ∧ Fr 20 [] [(2, .slice none 0 0), (3, v2)] a ∧ Stw ⟨Y, [], w0⟩ [] [row v2 3 (Rp.int .i64) x1] w) ?_ ?_
 ·
  have H := G1
  clear G1 K1
  refine Ah (Ac ?_)
  refine ls F W Aa (Ad F Aa).q fun a w F W => ?_
  refine ls F W Aa (B1 (r := A4) (l := p0) OD Aa F Aa (Ap h_v1)).q fun a w F W => ?_
  refine ls F W Aa (Ad F Aa).q fun a w F W => ?_
  refine Ae (Ab (As ?_))
  have W := W.nilRow 3 (Rp.int .i64)
  refine Bh H (fun s a w => ∃ v3 : Value, Fr 20 [] [(2, .slice none 0 0), (3, v3), (6, v1), (7, .int .i64 (p0.length : Int)), (8, .int .i64 s.2)] a ∧ Stw ⟨Y, [], w0⟩ [] [row v3 3 (Rp.int .i64) s.1] w) ⟨(Value.slice none 0 0), F.re ⟨rfl, Aa, Aa, Aa, Aa, trivial⟩, W⟩ fun s o a w H L2 hR => ?_
  obtain ⟨x2, x3⟩ := s
  obtain ⟨v3, F, W⟩ := hR
  have F : Fr 20 [] [(2, .slice none 0 0), (3, v3), (6, v1), (7, .int .i64 (p0.length : Int)), (8, .int .i64 x3)] a := F
  have W : Stw ⟨Y, [], w0⟩ [] [row v3 3 (Rp.int .i64) x2] w := W
  rw [Dx] at H
  refine Ah (Ac ?_)
  refine ls F W Aa (BI F Aa Aa).q fun a w F W => ?_
  refine Ae (Ab (Ah ?_))
  refine Ay F Aa (fun hb => ?_) fun hb => ?_
  ·
   have H := AP (Bm hb) H
   rw [hb] at F
   clear hb
   refine Aq (Ab (Ah (As (Ah (Ac ?_)))))
   obtain ⟨x4, h1, H⟩ := Ak H
   refine ls F W Aa (AC (r := A4) En F Aa Aa (Ap h_v1) h1).q fun a w F W => ?_
   refine ls F W Aa (Ao (y := Value.agg #[.int .i64 x4.1, .int .i64 x4.2.1, .int .i64 x4.2.2.1, .int .i64 x4.2.2.2]) (j := 0) (i := x3) F Aa Aa (Ap h_v1) h1 Ep.to Ee Aa).q fun a w F W => ?_
   refine CB (cs := [.int .i64 0, .int .i64 0, .int .i64 0, .int .i64 0]) F W Aa S7 Aa fun b1 a w F W => ?_
   refine BW (vs := [.int .i64 x4.1, .int .i64 x4.2.1, .int .i64 x4.2.2.1, .int .i64 x4.2.2.2]) (M' := [(b1, [.int .i64 x4.1, .int .i64 x4.2.1, .int .i64 x4.2.2.1, .int .i64 x4.2.2.2])]) 0 F W Aa Aa Aa Ee Aa Aa Aa Aa Aa fun w W => ?_
   refine Ae (Ab (Ac ?_))
   refine ls F W Aa (Ad F Aa).q fun a w F W => ?_
   refine ls F W Aa (Am HD Aa Aa Aa T3 F Aa 3 Aa).q fun a w F W => ?_
   refine ls F W Aa (AB (v := Value.int .i64 x4.2.2.2) 0 F Aa Aa T3 Aa).q fun a w F W => ?_
   refine E9 (z := Value.int .i64 0) (cs := [.int .i64 x4.2.2.2]) (Rp.int .i64) ([x4.2.2.2] : List Int) F W Aa EH Z3 Aa Aa Aa Aa Aa Aa (Fl.int.repL _ _ ([x4.2.2.2] : List Int)) fun v4 a w F W => ?_
   obtain ⟨x5, h2, H⟩ := Ak H
   refine Fb (r := (Rp.int .i64)) (i := 1) F W Aa EH Aa Aa Aa Aa (GD W 0 Aa) h2 Aa fun v5 a w F W => ?_
   have W : Stw ⟨Y, [], w0⟩ [(b1, [.int .i64 x4.1, .int .i64 x4.2.1, .int .i64 x4.2.2.1, .int .i64 x4.2.2.2])] [row v5 3 (Rp.int .i64) x5, row v4 3 (Rp.int .i64) ([x4.2.2.2] : List Int)] w := W
   refine ls F W Aa (Af F Aa).q fun a w F W => ?_
   refine Ae (AM (Ab (Ac ?_)))
   refine ls F W Aa (Bp F Aa Aa Aa).q fun a w F W => ?_
   refine ls F W Aa (Ad F Aa).q fun a w F W => ?_
   refine Ae (Ab ?_)
   have W := W.sub (M' := []) (Z' := [row v5 3 (Rp.int .i64) x5]) (List.nil_sublist _) (List.Sublist.cons_cons _ (List.nil_sublist _))
   exact ⟨_, H, (v5), F.re ⟨rfl, Aa, Aa, Aa, Aa, trivial⟩, W⟩
  have H := AO (Bn hb) H
  rw [hb] at F
  clear hb
  refine A5 ?_
  iterate 2 refine Bk ?_
  refine A6 (Ab ?_)
  have H := L2 _ H
  exact ⟨_, (v3), H, F.re ⟨rfl, Aa, trivial⟩, W⟩
 rintro a w ⟨x1, v2, hj, F, W⟩
 have hj := AQ hj
 subst hj
 have H := K1
 clear G1 K1
 refine Ah (Ac ?_)
 refine ls F W Aa (Ad F Aa).q fun a w F W => ?_
 obtain ⟨x6, h3, H⟩ := Ak H
 refine Bo (Ml := []) (Zl := [row v2 3 (Rp.int .i64) x1]) (M := []) (Z := []) (β := Value) (rv := fun x => x) (MM := fun x => []) (ZZ := fun x => [row x 3 (Rp.int .i64) x6]) F W Vl Aa Aa (fun hL => Kn _ _ w (v2) x1 _ h3 hL) fun x a w F W => ?_
 obtain ⟨v6, rfl⟩ : ∃ y, y = x := ⟨x, rfl⟩
 have W : Stw ⟨Y, [], w0⟩ [] [row v6 3 (Rp.int .i64) x6] w := W
 refine ls F W Aa (Af F Aa).q fun a w F W => ?_
 refine Ae (Ab (AF ?_))
 have H := AQ H
 subst H
 refine Bj (.inl Aa) F W Aa (AD F Aa) ?_
 exact ⟨(v6), Aa, W⟩
theorem Hn : type_of% Try.underlying33 := Try.underlying33
theorem TG : (Try.prog.info? 33).bind (·.zero) = some (.agg #[.slice none 0 0, .slice none 0 0, .int .i64 0, .int .i64 0, .int .i64 0, .int .i64 0]) := by kernel_rfl
theorem S1 : Bt Try.prog 33 [.slice none 0 0, .slice none 0 0, .int .i64 0, .int .i64 0, .int .i64 0, .int .i64 0] [(0, 1), (1, 1), (2, 1), (3, 1), (4, 1), (5, 1)] := ⟨⟨.agg #[.slice none 0 0, .slice none 0 0, .int .i64 0, .int .i64 0, .int .i64 0, .int .i64 0], by kernel_rfl, rfl⟩, ⟨_, Hn, fun w => by kernel_rfl⟩⟩
theorem Np : Ty Try.prog 33 true 6 := ⟨by kernel_rfl, by kernel_rfl⟩
theorem V1 : Has Try.prog 14 := ⟨fun args w => Al Try.func14 rfl (by decide) args w⟩
noncomputable def Dv (p0 : Int × (List (Int × Int × Int × Int × Int × Int)) × (List (Int × Int))) : (Int × Int) → Option ((Int × Int) ⊕ Int)
  | (x2, x3) => (if x3 < (p0.2.1.length : Int) then (ix p0.2.1 x3).bind fun x4 => some (.inl (max x2 x4.2.2.2.2.2, Az (x3 + 1))) else some (.inr x2))
noncomputable def Ez (p0 : Int × (List (Int × Int × Int × Int × Int × Int)) × (List (Int × Int))) : Option Int := (AH (Dv p0) (0, 0)).bind fun x1 => some x1
theorem Mt (Y : Nat → Prop) (w0 : World) (v1 : Value) (v2 : Value) (p0 : Int × (List (Int × Int × Int × Int × Int × Int)) × (List (Int × Int))) (r : Int) (H : Ez p0 = some r) (h_v1 : Sl w0 (NX []) Ii v1 p0.2.1) (h_v2 : Sl w0 (NX []) Ip v2 p0.2.2) :
    Calls Try.prog 29 #[.agg #[.int .i64 p0.1, v1, v2]] w0 fun e w' => e = .returned (.int .i64 r) ∧ Below w0.heap.size w0 w' := by
 refine enter Try.func29 Aa Try.ntmps29 Aa fun a F => ?_
 have W := Stw.start Y w0
 unfold Ez at H
 refine Ah (Ac ?_)
 refine EQ (cs := [.int .i64 p0.1, v1, v2]) F W Aa Aa Aa fun b1 a w F W => ?_
 refine ls F W Aa (Af F Aa).q fun a w F W => ?_
 refine Ae (Ab (Ah (Ac ?_)))
 refine ls F W Aa (Af F Aa).q fun a w F W => ?_
 refine Ae (Ab ?_)
 obtain ⟨o1, G1, K1⟩ := Ak H
 refine AK (fun a w => ∃ x1 : Int, some (x1) = some o1 ∧ Fr 19 [] [(2, .int .i64 0), (3, .int .i64 x1)] a ∧ Stw ⟨Y, [], w0⟩ [(b1, [.int .i64 p0.1, v1, v2])] [] w) ?_ ?_
 ·
  have H := G1
  clear G1 K1
  refine Ah (Ac ?_)
  refine ls F W Aa (Am IE Aa Aa Aa Qt F Aa 1 Aa).q fun a w F W => ?_
  refine ls F W Aa (AB (v := v1) 0 F Aa Aa Qt Aa).q fun a w F W => ?_
  refine ls F W Aa (B1 (r := Ii) (l := p0.2.1) O4 Aa F Aa (Ap h_v1)).q fun a w F W => ?_
  refine ls F W Aa (Ad F Aa).q fun a w F W => ?_
  refine Ae (Ab (As ?_))
  refine Bh H (fun s a w => Fr 19 [] [(2, .int .i64 0), (3, .int .i64 s.1), (7, v1), (8, .int .i64 (p0.2.1.length : Int)), (9, .int .i64 s.2)] a ∧ Stw ⟨Y, [], w0⟩ [(b1, [.int .i64 p0.1, v1, v2])] [] w) ⟨F.re ⟨rfl, Aa, Aa, Aa, Aa, trivial⟩, W⟩ fun s o a w H L2 hR => ?_
  obtain ⟨x2, x3⟩ := s
  obtain ⟨F, W⟩ := hR
  have F : Fr 19 [] [(2, .int .i64 0), (3, .int .i64 x2), (7, v1), (8, .int .i64 (p0.2.1.length : Int)), (9, .int .i64 x3)] a := F
  have W : Stw ⟨Y, [], w0⟩ [(b1, [.int .i64 p0.1, v1, v2])] [] w := W
  rw [Dv] at H
  refine Ah (Ac ?_)
  refine ls F W Aa (BI F Aa Aa).q fun a w F W => ?_
  refine Ae (Ab (Ah ?_))
  refine Ay F Aa (fun hb => ?_) fun hb => ?_
  ·
   have H := AP (Bm hb) H
   rw [hb] at F
   clear hb
   refine Aq (Ab (Ah (As (Ah (Ac ?_)))))
   obtain ⟨x4, h1, H⟩ := Ak H
   refine ls F W Aa (AC (r := Ii) Tq F Aa Aa (Ap h_v1) h1).q fun a w F W => ?_
   refine ls F W Aa (Ao (y := Value.agg #[.int .i64 x4.1, .int .i64 x4.2.1, .int .i64 x4.2.2.1, .int .i64 x4.2.2.2.1, .int .i64 x4.2.2.2.2.1, .int .i64 x4.2.2.2.2.2]) (j := 0) (i := x3) F Aa Aa (Ap h_v1) h1 S8.to Sr Aa).q fun a w F W => ?_
   refine CB (cs := [.int .i64 0, .int .i64 0, .int .i64 0, .int .i64 0, .int .i64 0, .int .i64 0]) F W Aa TJ Aa fun b2 a w F W => ?_
   refine BW (vs := [.int .i64 x4.1, .int .i64 x4.2.1, .int .i64 x4.2.2.1, .int .i64 x4.2.2.2.1, .int .i64 x4.2.2.2.2.1, .int .i64 x4.2.2.2.2.2]) (M' := [(b2, [.int .i64 x4.1, .int .i64 x4.2.1, .int .i64 x4.2.2.1, .int .i64 x4.2.2.2.1, .int .i64 x4.2.2.2.2.1, .int .i64 x4.2.2.2.2.2]), (b1, [.int .i64 p0.1, v1, v2])]) 0 F W Aa Aa Aa Sr Aa Aa Aa Aa Aa fun w W => ?_
   refine Ae (Ab (Ac ?_))
   refine ls F W Aa (Ad F Aa).q fun a w F W => ?_
   refine ls F W Aa (Am IK Aa Aa Aa T3 F Aa 5 Aa).q fun a w F W => ?_
   refine ls F W Aa (AB (v := Value.int .i64 x4.2.2.2.2.2) 0 F Aa Aa T3 Aa).q fun a w F W => ?_
   refine ls F W Aa (Tk F Aa Aa).q fun a w F W => ?_
   refine ls F W Aa (Af F Aa).q fun a w F W => ?_
   refine Ae (AM (Ab (Ac ?_)))
   refine ls F W Aa (Bp F Aa Aa Aa).q fun a w F W => ?_
   refine ls F W Aa (Ad F Aa).q fun a w F W => ?_
   refine Ae (Ab ?_)
   have W := W.frontM (i := 1) Aa Aa
   have W := W.sub (M' := [(b1, [.int .i64 p0.1, v1, v2])]) (Z' := []) (List.Sublist.cons_cons _ (List.nil_sublist _)) (List.Sublist.refl _)
   exact ⟨_, H, F.re ⟨rfl, Aa, Aa, Aa, Aa, trivial⟩, W⟩
  have H := AO (Bn hb) H
  rw [hb] at F
  clear hb
  refine A5 ?_
  iterate 2 refine Bk ?_
  refine A6 (Ab ?_)
  have H := L2 _ H
  exact ⟨_, H, F.re ⟨rfl, Aa, trivial⟩, W⟩
 rintro a w ⟨x1, hj, F, W⟩
 have hj := AQ hj
 subst hj
 have H := K1
 clear G1 K1
 refine Ah (Ac ?_)
 refine ls F W Aa (Ad F Aa).q fun a w F W => ?_
 refine ls F W Aa (Af F Aa).q fun a w F W => ?_
 refine Ae (Ab (AF ?_))
 have H := AQ H
 subst H
 refine Bj (.inl Aa) F W Aa (AD F Aa) ?_
 exact ⟨rfl, W.done⟩
theorem Ws : Has Try.prog 29 := ⟨fun args w => Al Try.func29 rfl (by decide) args w⟩
noncomputable def Gk (p0 : Int × (List (Int × Int × Int × Int × Int × Int)) × (List (Int × Int))) : Option Int := (Ez p0).bind fun x1 => some (Az (p0.1 * x1))
theorem Lz (Y : Nat → Prop) (w0 : World) (v1 : Value) (v2 : Value) (p0 : Int × (List (Int × Int × Int × Int × Int × Int)) × (List (Int × Int))) (r : Int) (H : Gk p0 = some r) (h_v1 : Sl w0 (NX []) Ii v1 p0.2.1) (h_v2 : Sl w0 (NX []) Ip v2 p0.2.2) :
    Calls Try.prog 15 #[.agg #[.int .i64 p0.1, v1, v2]] w0 fun e w' => e = .returned (.int .i64 r) ∧ Below w0.heap.size w0 w' := by
 refine enter Try.func15 Aa Try.ntmps15 Aa fun a F => ?_
 have W := Stw.start Y w0
 unfold Gk at H
 refine Ah (Ac ?_)
 refine EQ (cs := [.int .i64 p0.1, v1, v2]) F W Aa Aa Aa fun b1 a w F W => ?_
 refine ls F W Aa (Af F Aa).q fun a w F W => ?_
 refine Ae (Ab (Ah ?_))
 refine BS W MO (by kernel_rfl) ?_
 refine qs F Aa (Am IE Aa Aa Aa T3 F Aa 0 Aa).q fun a F => ?_
 refine qs F Aa (AB (v := Value.int .i64 p0.1) 0 F Aa Aa T3 Aa).q fun a F => ?_
 refine qs F Aa (AB (v := Value.agg #[.int .i64 p0.1, v1, v2]) 0 F Aa Aa Mk Aa).q fun a F => ?_
 obtain ⟨x1, h1, H⟩ := Ak H
 refine qs F Aa (BR (v := Value.int .i64 x1) F Ws Aa (fun w W => Mt any w (v1) (v2) p0 _ h1 (((Ap h_v1) : EM _ _ _ _ _ _) w W).nx (((Ap h_v2) : EM _ _ _ _ _ _) w W).nx)) fun a F => ?_
 refine qs F Aa (Jr F Aa Aa Aa).q fun a F => ?_
 refine qs F Aa (Af F Aa).q fun a F => ?_
 refine A0 fun w W => ?_
 refine Ab (AF ?_)
 have H := AQ H
 subst H
 refine Bj (.inl Aa) F W Aa (AD F Aa) ?_
 exact ⟨rfl, W.done⟩
theorem UO : Has Try.prog 15 := ⟨fun args w => Al Try.func15 rfl (by decide) args w⟩
noncomputable def Hp (p0 : Int × (List (Int × Int × Int × Int × Int × Int)) × (List (Int × Int))) (p1 : Int) : Option Int := (Gk p0).bind fun x1 => some (Az ((Az ((Az (2 * p1)) + x1)) + 1))
theorem Mf (Y : Nat → Prop) (w0 : World) (v1 : Value) (v2 : Value) (p0 : Int × (List (Int × Int × Int × Int × Int × Int)) × (List (Int × Int))) (p1 : Int) (r : Int) (H : Hp p0 p1 = some r) (h_v1 : Sl w0 (NX []) Ii v1 p0.2.1) (h_v2 : Sl w0 (NX []) Ip v2 p0.2.2) :
    Calls Try.prog 12 #[.agg #[.int .i64 p0.1, v1, v2], .int .i64 p1] w0 fun e w' => e = .returned (.int .i64 r) ∧ Below w0.heap.size w0 w' := by
 refine enter Try.func12 Aa Try.ntmps12 Aa fun a F => ?_
 have W := Stw.start Y w0
 unfold Hp at H
 refine Ah (Ac ?_)
 refine EQ (cs := [.int .i64 p0.1, v1, v2]) F W Aa Aa Aa fun b1 a w F W => ?_
 refine ls F W Aa (Af F Aa).q fun a w F W => ?_
 refine Ae (Ab (Ah (Ac ?_)))
 refine ls F W Aa (Ad F Aa).q fun a w F W => ?_
 refine ls F W Aa (Jr F Aa Aa Aa).q fun a w F W => ?_
 refine ls F W Aa (AB (v := Value.agg #[.int .i64 p0.1, v1, v2]) 0 F Aa Aa Mk Aa).q fun a w F W => ?_
 obtain ⟨x1, h1, H⟩ := Ak H
 refine ls F W Aa (BR (v := Value.int .i64 x1) F UO Aa (fun w W => Lz any w (v1) (v2) p0 _ h1 (((Ap h_v1) : EM _ _ _ _ _ _) w W).nx (((Ap h_v2) : EM _ _ _ _ _ _) w W).nx)) fun a w F W => ?_
 iterate 2 refine ls F W Aa (Bp F Aa Aa Aa).q fun a w F W => ?_
 refine ls F W Aa (Af F Aa).q fun a w F W => ?_
 refine Ae (Ab (AF ?_))
 have H := AQ H
 subst H
 refine Bj (.inl Aa) F W Aa (AD F Aa) ?_
 exact ⟨rfl, W.done⟩
theorem R0 : type_of% Try.underlying82 := Try.underlying82
theorem K0 : type_of% Try.underlying84 := Try.underlying84
theorem Uz : Has Try.prog 12 := ⟨fun args w => Al Try.func12 rfl (by decide) args w⟩
theorem U3 : Has Try.prog 30 := ⟨fun args w => Al Try.func30 rfl (by decide) args w⟩
theorem UU : Bt Try.prog 84 [.int .i64 0, .int .i64 0, .int .i64 0] [(0, 1), (1, 1), (2, 1)] := ⟨⟨.agg #[.int .i64 0, .int .i64 0, .int .i64 0], by kernel_rfl, rfl⟩, ⟨_, K0, fun w => by kernel_rfl⟩⟩
theorem TQ : (Try.prog.info? 84).bind (·.zero) = some (.agg #[.int .i64 0, .int .i64 0, .int .i64 0]) := by kernel_rfl
abbrev Nh : Rp (Int × Int × Int) := (Rp.pair (Rp.int .i64) (Rp.pair (Rp.int .i64) (Rp.int .i64)))
def U8 (a : Int × Int × Int) : List Value := [.int .i64 a.1, .int .i64 a.2.1, .int .i64 a.2.2]
theorem Un : Fl Nh U8 := (Fl.pair Fl.int (Fl.pair Fl.int Fl.int))
theorem TO : Et Try.prog 82 84 3 24 := Et.of R0 (by kernel_rfl) (by kernel_rfl) (by kernel_rfl) (by decide)
theorem TH : Ty Try.prog 84 true 3 := ⟨by kernel_rfl, by kernel_rfl⟩
noncomputable def DG (p0 : Int) (p1 : List (Int × Int × Int)) : Int → Option (Int ⊕ (Unit ⊕ Bool))
  | x1 => (if x1 < (p1.length : Int) then (ix p1 x1).bind fun x2 => (if (decide (x2.1 < 0) || (decide (p0 ≤ x2.1) || (decide (x2.2.1 < 0) || (decide (p0 ≤ x2.2.1) || (decide (x2.2.2 < (-1073741824)) || decide (1073741824 < x2.2.2)))))) = true then some (.inr (.inr false)) else some (.inl (Az (x1 + 1)))) else some (.inr (.inl ())))
noncomputable def Gi (p0 : Int) (p1 : List (Int × Int × Int)) : Option Bool := (if (decide (p0 < 0) || (decide (64 < p0) || decide (256 < (p1.length : Int)))) = true then some false else FO (AH (DG p0 p1) 0) fun _ => some true)
theorem NL (Y : Nat → Prop) (w0 : World) (v1 : Value) (p0 : Int) (p1 : List (Int × Int × Int)) (r : Bool) (H : Gi p0 p1 = some r) (h_v1 : Sl w0 (NX []) Nh v1 p1) :
    Calls Try.prog 43 #[.int .i64 p0, v1] w0 fun e w' => e = .returned (.bool r) ∧ Below w0.heap.size w0 w' := by
 refine enter Try.func43 Aa Try.ntmps43 Aa fun a F => ?_
 have W := Stw.start Y w0
 unfold Gi at H
 refine Ah (Ac ?_)
 refine ls F W Aa (Af F Aa).q fun a w F W => ?_
 refine Ae (Ab (Ah ?_))
 refine AK (fun a w => Fr 55 [] [(0, .int .i64 p0), (1, v1), (4, .bool false), (17, .bool (decide (p0 < 0) || (decide (64 < p0) || decide (256 < (p1.length : Int)))))] a ∧ Stw ⟨Y, [], w0⟩ [] [] w) ?_ ?_
 ·
  refine Ac ?_
  refine ls F W Aa (Ad F Aa).q fun a w F W => ?_
  refine ls F W Aa (BI F Aa Aa).q fun a w F W => ?_
  refine ls F W Aa (Ad F Aa).q fun a w F W => ?_
  rcases Bool.eq_false_or_eq_true (decide (p0 < 0)) with hb0 | hb0
  ·
   rw [hb0] at F
   iterate 2 refine C1 F Aa Aa Aa Aa Aa Aa Aa fun a F => ?_
   refine ls F W Aa (Av F Aa Aa Aa).q fun a w F W => ?_
   refine ls F W Aa (Ad F Aa).q fun a w F W => ?_
   iterate 3 refine C1 F Aa Aa Aa Aa Aa Aa Aa fun a F => ?_
   refine ls F W Aa (Av F Aa Aa Aa).q fun a w F W => ?_
   refine Ae (Ab ?_)
   exact ⟨F.re ⟨rfl, Aa, Aa, (by show some (Value.bool true) = some (Value.bool (decide (p0 < 0) || (decide (64 < p0) || decide (256 < (p1.length : Int))))); try rw [hb0]; all_goals simp only [Bool.not_true, Bool.not_false, Bool.true_and, Bool.false_and, Bool.true_or, Bool.false_or, Bool.and_true, Bool.or_false, cond_true, cond_false]), trivial⟩, W⟩
  rw [hb0] at F
  refine AR F W (Ag F Aa Aa Aa Aa) Aa (An Aa) (Ad F Aa).q fun a w F W => ?_
  refine AR F W (Ag F Aa Aa Aa Aa) Aa (An Aa) (FZ F Aa Aa).q fun a w F W => ?_
  refine ls F W Aa (Ax F Aa Aa Aa).q fun a w F W => ?_
  refine ls F W Aa (Ad F Aa).q fun a w F W => ?_
  rcases Bool.eq_false_or_eq_true (decide (64 < p0)) with hb1 | hb1
  ·
   rw [hb1] at F
   iterate 3 refine C1 F Aa Aa Aa Aa Aa Aa Aa fun a F => ?_
   refine ls F W Aa (Av F Aa Aa Aa).q fun a w F W => ?_
   refine Ae (Ab ?_)
   exact ⟨F.re ⟨rfl, Aa, Aa, (by show some (Value.bool true) = some (Value.bool (decide (p0 < 0) || (decide (64 < p0) || decide (256 < (p1.length : Int))))); try rw [hb1]; try rw [hb0]; all_goals simp only [Bool.not_true, Bool.not_false, Bool.true_and, Bool.false_and, Bool.true_or, Bool.false_or, Bool.and_true, Bool.or_false, cond_true, cond_false]), trivial⟩, W⟩
  rw [hb1] at F
  refine AR F W (Ag F Aa Aa Aa Aa) Aa (An Aa) (Ad F Aa).q fun a w F W => ?_
  refine AR F W (Ag F Aa Aa Aa Aa) Aa (An Aa) (B1 (r := Nh) (l := p1) R0 Aa F Aa (Ap h_v1)).q fun a w F W => ?_
  refine AR F W (Ag F Aa Aa Aa Aa) Aa (An Aa) (FZ F Aa Aa).q fun a w F W => ?_
  refine ls F W Aa (Ax F Aa Aa Aa).q fun a w F W => ?_
  refine Ae (Ab ?_)
  exact ⟨F.re ⟨rfl, Aa, Aa, (by show some (Value.bool (decide (256 < (p1.length : Int)))) = some (Value.bool (decide (p0 < 0) || (decide (64 < p0) || decide (256 < (p1.length : Int))))); try rw [hb1]; try rw [hb0]; all_goals simp only [Bool.not_true, Bool.not_false, Bool.true_and, Bool.false_and, Bool.true_or, Bool.false_or, Bool.and_true, Bool.or_false, cond_true, cond_false]), trivial⟩, W⟩
 rintro a w ⟨F, W⟩
 refine Ay F Aa (fun hb => ?_) fun hb => ?_
 ·
  have H := AP hb H
  rw [hb] at F
  clear hb
  refine Ah (Ac ?_)
  refine ls F W Aa (Af F Aa).q fun a w F W => ?_
  refine Ae (Ab (AF (AN ?_)))
  have H := AQ H
  subst H
  refine Bj (.inl Aa) F W Aa (AD F Aa) ?_
  exact ⟨rfl, W.done⟩
 have H := AO (by rw [hb]; decide) H
 rw [hb] at F
 clear hb
 refine Aq (Ab ?_)
 obtain ⟨o1, G1, K1, L1⟩ := JX H
 refine AK (fun a w => some (Sum.inl ()) = some o1 ∧ Fr 55 [] [(4, .bool false)] a ∧ Stw ⟨Y, [], w0⟩ [] [] w) ?_ ?_
 ·
  have H := G1
  clear G1 K1
  refine Ah (Ac ?_)
  refine ls F W Aa (Ad F Aa).q fun a w F W => ?_
  refine ls F W Aa (B1 (r := Nh) (l := p1) R0 Aa F Aa (Ap h_v1)).q fun a w F W => ?_
  refine ls F W Aa (Ad F Aa).q fun a w F W => ?_
  refine Ae (Ab (As ?_))
  refine Bh H (fun s a w => Fr 55 [] [(0, .int .i64 p0), (4, .bool false), (18, v1), (19, .int .i64 (p1.length : Int)), (20, .int .i64 s)] a ∧ Stw ⟨Y, [], w0⟩ [] [] w) ⟨F.re ⟨rfl, Aa, Aa, Aa, Aa, trivial⟩, W⟩ fun s o a w H L2 hR => ?_
  obtain ⟨x1, rfl⟩ : ∃ x, x = s := ⟨s, rfl⟩
  obtain ⟨F, W⟩ := hR
  have F : Fr 55 [] [(0, .int .i64 p0), (4, .bool false), (18, v1), (19, .int .i64 (p1.length : Int)), (20, .int .i64 x1)] a := F
  have W : Stw ⟨Y, [], w0⟩ [] [] w := W
  rw [DG] at H
  refine Ah (Ac ?_)
  refine ls F W Aa (BI F Aa Aa).q fun a w F W => ?_
  refine Ae (Ab (Ah ?_))
  refine Ay F Aa (fun hb => ?_) fun hb => ?_
  ·
   have H := AP (Bm hb) H
   rw [hb] at F
   clear hb
   refine Aq (Ab (Ah (As (Ah (Ac ?_)))))
   obtain ⟨x2, h1, H⟩ := Ak H
   refine ls F W Aa (AC (r := Nh) TO F Aa Aa (Ap h_v1) h1).q fun a w F W => ?_
   refine ls F W Aa (Ao (y := Value.agg #[.int .i64 x2.1, .int .i64 x2.2.1, .int .i64 x2.2.2]) (j := 0) (i := x1) F Aa Aa (Ap h_v1) h1 Un.to TH Aa).q fun a w F W => ?_
   refine CB (cs := [.int .i64 0, .int .i64 0, .int .i64 0]) F W Aa TQ Aa fun b1 a w F W => ?_
   refine BW (vs := [.int .i64 x2.1, .int .i64 x2.2.1, .int .i64 x2.2.2]) (M' := [(b1, [.int .i64 x2.1, .int .i64 x2.2.1, .int .i64 x2.2.2])]) 0 F W Aa Aa Aa TH Aa Aa Aa Aa Aa fun w W => ?_
   refine Ae (Ab ?_)
   refine AK (fun a w => Fr 55 [] [(0, .int .i64 p0), (4, .bool false), (18, v1), (19, .int .i64 (p1.length : Int)), (20, .int .i64 x1), (53, .bool (decide (x2.1 < 0) || (decide (p0 ≤ x2.1) || (decide (x2.2.1 < 0) || (decide (p0 ≤ x2.2.1) || (decide (x2.2.2 < (-1073741824)) || decide (1073741824 < x2.2.2)))))))] a ∧ Stw ⟨Y, [], w0⟩ [(b1, [.int .i64 x2.1, .int .i64 x2.2.1, .int .i64 x2.2.2])] [] w) ?_ ?_
   ·
    refine Ac ?_
    refine ls F W Aa (Am K0 Aa Aa Aa T3 F Aa 0 Aa).q fun a w F W => ?_
    refine ls F W Aa (AB (v := Value.int .i64 x2.1) 0 F Aa Aa T3 Aa).q fun a w F W => ?_
    refine ls F W Aa (BI F Aa Aa).q fun a w F W => ?_
    refine ls F W Aa (Ad F Aa).q fun a w F W => ?_
    rcases Bool.eq_false_or_eq_true (decide (x2.1 < 0)) with hb0 | hb0
    ·
     rw [hb0] at F
     iterate 4 refine C1 F Aa Aa Aa Aa Aa Aa Aa fun a F => ?_
     refine ls F W Aa (Av F Aa Aa Aa).q fun a w F W => ?_
     refine ls F W Aa (Ad F Aa).q fun a w F W => ?_
     iterate 3 refine C1 F Aa Aa Aa Aa Aa Aa Aa fun a F => ?_
     refine ls F W Aa (Av F Aa Aa Aa).q fun a w F W => ?_
     refine ls F W Aa (Ad F Aa).q fun a w F W => ?_
     iterate 4 refine C1 F Aa Aa Aa Aa Aa Aa Aa fun a F => ?_
     refine ls F W Aa (Av F Aa Aa Aa).q fun a w F W => ?_
     refine ls F W Aa (Ad F Aa).q fun a w F W => ?_
     iterate 3 refine C1 F Aa Aa Aa Aa Aa Aa Aa fun a F => ?_
     refine ls F W Aa (Av F Aa Aa Aa).q fun a w F W => ?_
     refine ls F W Aa (Ad F Aa).q fun a w F W => ?_
     iterate 3 refine C1 F Aa Aa Aa Aa Aa Aa Aa fun a F => ?_
     refine ls F W Aa (Av F Aa Aa Aa).q fun a w F W => ?_
     refine Ae (Ab ?_)
     exact ⟨F.re ⟨rfl, Aa, Aa, Aa, Aa, (by show some (Value.bool true) = some (Value.bool (decide (x2.1 < 0) || (decide (p0 ≤ x2.1) || (decide (x2.2.1 < 0) || (decide (p0 ≤ x2.2.1) || (decide (x2.2.2 < (-1073741824)) || decide (1073741824 < x2.2.2))))))); try rw [hb0]; all_goals simp only [Bool.not_true, Bool.not_false, Bool.true_and, Bool.false_and, Bool.true_or, Bool.false_or, Bool.and_true, Bool.or_false, cond_true, cond_false]), trivial⟩, W⟩
    rw [hb0] at F
    refine AR F W (Ag F Aa Aa Aa Aa) Aa (An Aa) (Am K0 Aa Aa Aa T3 F Aa 0 Aa).q fun a w F W => ?_
    refine AR F W (Ag F Aa Aa Aa Aa) Aa (An Aa) (AB (v := Value.int .i64 x2.1) 0 F Aa Aa T3 Aa).q fun a w F W => ?_
    refine AR F W (Ag F Aa Aa Aa Aa) Aa (An Aa) (Ad F Aa).q fun a w F W => ?_
    refine AR F W (Ag F Aa Aa Aa Aa) Aa (An Aa) (Ds F Aa Aa).q fun a w F W => ?_
    refine ls F W Aa (Ax F Aa Aa Aa).q fun a w F W => ?_
    refine ls F W Aa (Ad F Aa).q fun a w F W => ?_
    rcases Bool.eq_false_or_eq_true (decide (p0 ≤ x2.1)) with hb1 | hb1
    ·
     rw [hb1] at F
     iterate 3 refine C1 F Aa Aa Aa Aa Aa Aa Aa fun a F => ?_
     refine ls F W Aa (Av F Aa Aa Aa).q fun a w F W => ?_
     refine ls F W Aa (Ad F Aa).q fun a w F W => ?_
     iterate 4 refine C1 F Aa Aa Aa Aa Aa Aa Aa fun a F => ?_
     refine ls F W Aa (Av F Aa Aa Aa).q fun a w F W => ?_
     refine ls F W Aa (Ad F Aa).q fun a w F W => ?_
     iterate 3 refine C1 F Aa Aa Aa Aa Aa Aa Aa fun a F => ?_
     refine ls F W Aa (Av F Aa Aa Aa).q fun a w F W => ?_
     refine ls F W Aa (Ad F Aa).q fun a w F W => ?_
     iterate 3 refine C1 F Aa Aa Aa Aa Aa Aa Aa fun a F => ?_
     refine ls F W Aa (Av F Aa Aa Aa).q fun a w F W => ?_
     refine Ae (Ab ?_)
     exact ⟨F.re ⟨rfl, Aa, Aa, Aa, Aa, (by show some (Value.bool true) = some (Value.bool (decide (x2.1 < 0) || (decide (p0 ≤ x2.1) || (decide (x2.2.1 < 0) || (decide (p0 ≤ x2.2.1) || (decide (x2.2.2 < (-1073741824)) || decide (1073741824 < x2.2.2))))))); try rw [hb1]; try rw [hb0]; all_goals simp only [Bool.not_true, Bool.not_false, Bool.true_and, Bool.false_and, Bool.true_or, Bool.false_or, Bool.and_true, Bool.or_false, cond_true, cond_false]), trivial⟩, W⟩
    rw [hb1] at F
    refine AR F W (Ag F Aa Aa Aa Aa) Aa (An Aa) (Am K0 Aa Aa Aa T3 F Aa 1 Aa).q fun a w F W => ?_
    refine AR F W (Ag F Aa Aa Aa Aa) Aa (An Aa) (AB (v := Value.int .i64 x2.2.1) 0 F Aa Aa T3 Aa).q fun a w F W => ?_
    refine AR F W (Ag F Aa Aa Aa Aa) Aa (An Aa) (BI F Aa Aa).q fun a w F W => ?_
    refine ls F W Aa (Ax F Aa Aa Aa).q fun a w F W => ?_
    refine ls F W Aa (Ad F Aa).q fun a w F W => ?_
    rcases Bool.eq_false_or_eq_true (decide (x2.2.1 < 0)) with hb2 | hb2
    ·
     rw [hb2] at F
     iterate 4 refine C1 F Aa Aa Aa Aa Aa Aa Aa fun a F => ?_
     refine ls F W Aa (Av F Aa Aa Aa).q fun a w F W => ?_
     refine ls F W Aa (Ad F Aa).q fun a w F W => ?_
     iterate 3 refine C1 F Aa Aa Aa Aa Aa Aa Aa fun a F => ?_
     refine ls F W Aa (Av F Aa Aa Aa).q fun a w F W => ?_
     refine ls F W Aa (Ad F Aa).q fun a w F W => ?_
     iterate 3 refine C1 F Aa Aa Aa Aa Aa Aa Aa fun a F => ?_
     refine ls F W Aa (Av F Aa Aa Aa).q fun a w F W => ?_
     refine Ae (Ab ?_)
     exact ⟨F.re ⟨rfl, Aa, Aa, Aa, Aa, (by show some (Value.bool true) = some (Value.bool (decide (x2.1 < 0) || (decide (p0 ≤ x2.1) || (decide (x2.2.1 < 0) || (decide (p0 ≤ x2.2.1) || (decide (x2.2.2 < (-1073741824)) || decide (1073741824 < x2.2.2))))))); try rw [hb2]; try rw [hb1]; try rw [hb0]; all_goals simp only [Bool.not_true, Bool.not_false, Bool.true_and, Bool.false_and, Bool.true_or, Bool.false_or, Bool.and_true, Bool.or_false, cond_true, cond_false]), trivial⟩, W⟩
    rw [hb2] at F
    refine AR F W (Ag F Aa Aa Aa Aa) Aa (An Aa) (Am K0 Aa Aa Aa T3 F Aa 1 Aa).q fun a w F W => ?_
    refine AR F W (Ag F Aa Aa Aa Aa) Aa (An Aa) (AB (v := Value.int .i64 x2.2.1) 0 F Aa Aa T3 Aa).q fun a w F W => ?_
    refine AR F W (Ag F Aa Aa Aa Aa) Aa (An Aa) (Ad F Aa).q fun a w F W => ?_
    refine AR F W (Ag F Aa Aa Aa Aa) Aa (An Aa) (Ds F Aa Aa).q fun a w F W => ?_
    refine ls F W Aa (Ax F Aa Aa Aa).q fun a w F W => ?_
    refine ls F W Aa (Ad F Aa).q fun a w F W => ?_
    rcases Bool.eq_false_or_eq_true (decide (p0 ≤ x2.2.1)) with hb3 | hb3
    ·
     rw [hb3] at F
     iterate 3 refine C1 F Aa Aa Aa Aa Aa Aa Aa fun a F => ?_
     refine ls F W Aa (Av F Aa Aa Aa).q fun a w F W => ?_
     refine ls F W Aa (Ad F Aa).q fun a w F W => ?_
     iterate 3 refine C1 F Aa Aa Aa Aa Aa Aa Aa fun a F => ?_
     refine ls F W Aa (Av F Aa Aa Aa).q fun a w F W => ?_
     refine Ae (Ab ?_)
     exact ⟨F.re ⟨rfl, Aa, Aa, Aa, Aa, (by show some (Value.bool true) = some (Value.bool (decide (x2.1 < 0) || (decide (p0 ≤ x2.1) || (decide (x2.2.1 < 0) || (decide (p0 ≤ x2.2.1) || (decide (x2.2.2 < (-1073741824)) || decide (1073741824 < x2.2.2))))))); try rw [hb3]; try rw [hb2]; try rw [hb1]; try rw [hb0]; all_goals simp only [Bool.not_true, Bool.not_false, Bool.true_and, Bool.false_and, Bool.true_or, Bool.false_or, Bool.and_true, Bool.or_false, cond_true, cond_false]), trivial⟩, W⟩
    rw [hb3] at F
    refine AR F W (Ag F Aa Aa Aa Aa) Aa (An Aa) (Am K0 Aa Aa Aa T3 F Aa 2 Aa).q fun a w F W => ?_
    refine AR F W (Ag F Aa Aa Aa Aa) Aa (An Aa) (AB (v := Value.int .i64 x2.2.2) 0 F Aa Aa T3 Aa).q fun a w F W => ?_
    refine AR F W (Ag F Aa Aa Aa Aa) Aa (An Aa) (BI F Aa Aa).q fun a w F W => ?_
    refine ls F W Aa (Ax F Aa Aa Aa).q fun a w F W => ?_
    refine ls F W Aa (Ad F Aa).q fun a w F W => ?_
    rcases Bool.eq_false_or_eq_true (decide (x2.2.2 < (-1073741824))) with hb4 | hb4
    ·
     rw [hb4] at F
     iterate 3 refine C1 F Aa Aa Aa Aa Aa Aa Aa fun a F => ?_
     refine ls F W Aa (Av F Aa Aa Aa).q fun a w F W => ?_
     refine Ae (Ab ?_)
     exact ⟨F.re ⟨rfl, Aa, Aa, Aa, Aa, (by show some (Value.bool true) = some (Value.bool (decide (x2.1 < 0) || (decide (p0 ≤ x2.1) || (decide (x2.2.1 < 0) || (decide (p0 ≤ x2.2.1) || (decide (x2.2.2 < (-1073741824)) || decide (1073741824 < x2.2.2))))))); try rw [hb4]; try rw [hb3]; try rw [hb2]; try rw [hb1]; try rw [hb0]; all_goals simp only [Bool.not_true, Bool.not_false, Bool.true_and, Bool.false_and, Bool.true_or, Bool.false_or, Bool.and_true, Bool.or_false, cond_true, cond_false]), trivial⟩, W⟩
    rw [hb4] at F
    refine AR F W (Ag F Aa Aa Aa Aa) Aa (An Aa) (Am K0 Aa Aa Aa T3 F Aa 2 Aa).q fun a w F W => ?_
    refine AR F W (Ag F Aa Aa Aa Aa) Aa (An Aa) (AB (v := Value.int .i64 x2.2.2) 0 F Aa Aa T3 Aa).q fun a w F W => ?_
    refine AR F W (Ag F Aa Aa Aa Aa) Aa (An Aa) (FZ F Aa Aa).q fun a w F W => ?_
    refine ls F W Aa (Ax F Aa Aa Aa).q fun a w F W => ?_
    refine Ae (Ab ?_)
    exact ⟨F.re ⟨rfl, Aa, Aa, Aa, Aa, (by show some (Value.bool (decide (1073741824 < x2.2.2))) = some (Value.bool (decide (x2.1 < 0) || (decide (p0 ≤ x2.1) || (decide (x2.2.1 < 0) || (decide (p0 ≤ x2.2.1) || (decide (x2.2.2 < (-1073741824)) || decide (1073741824 < x2.2.2))))))); try rw [hb4]; try rw [hb3]; try rw [hb2]; try rw [hb1]; try rw [hb0]; all_goals simp only [Bool.not_true, Bool.not_false, Bool.true_and, Bool.false_and, Bool.true_or, Bool.false_or, Bool.and_true, Bool.or_false, cond_true, cond_false]), trivial⟩, W⟩
   rintro a w ⟨F, W⟩
   refine Ay F Aa (fun hb => ?_) fun hb => ?_
   ·
    have H := AP hb H
    rw [hb] at F
    clear hb
    refine Ah (Ac ?_)
    refine ls F W Aa (Af F Aa).q fun a w F W => ?_
    refine Ae (Ab (AF (A3 ?_)))
    iterate 2 refine AN ?_
    refine A3 (AN ?_)
    have H := L2 _ H
    have H := L1 _ H
    have H := AQ H
    subst H
    refine Bj (.inl Aa) F W Aa (AD F Aa) ?_
    exact ⟨rfl, W.done⟩
   have H := AO (by rw [hb]; decide) H
   rw [hb] at F
   clear hb
   refine Aq (AM (Ab (Ac ?_)))
   refine ls F W Aa (Bp F Aa Aa Aa).q fun a w F W => ?_
   refine ls F W Aa (Ad F Aa).q fun a w F W => ?_
   refine Ae (Ab ?_)
   have W := W.sub (M' := []) (Z' := []) (List.nil_sublist _) (List.Sublist.refl _)
   exact ⟨_, H, F.re ⟨rfl, Aa, Aa, Aa, Aa, trivial⟩, W⟩
  have H := AO (Bn hb) H
  rw [hb] at F
  clear hb
  refine A5 ?_
  iterate 2 refine Bk ?_
  refine A6 (Ab ?_)
  have H := L2 _ H
  exact ⟨H, F.re ⟨rfl, trivial⟩, W⟩
 rintro a w ⟨hj, F, W⟩
 have H := K1 _ hj
 clear hj G1 K1 L1
 refine Ah (Ac ?_)
 refine ls F W Aa (Af F Aa).q fun a w F W => ?_
 refine Ae (Ab (AF ?_))
 have H := AQ H
 subst H
 refine Bj (.inl Aa) F W Aa (AD F Aa) ?_
 exact ⟨rfl, W.done⟩
end Go.Proofs.Ytghpabmmdenaoaa
