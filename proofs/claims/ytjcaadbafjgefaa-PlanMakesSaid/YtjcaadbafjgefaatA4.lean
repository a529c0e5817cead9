/- The functions of layer 24, Hp. Conditions: none. -/
import Derived.Test.YtjcaadbafjgefaatA3
namespace Go.Proofs.Ytjcaadbafjgefaa
open Go Go.RowKit
set_option linter.unusedVariables false
set_option linter.unusedSimpArgs false
set_option maxRecDepth 20000
theorem S8 : Has Try.prog 100 := ⟨fun args w => An Try.func100 rfl (by decide) args w⟩
noncomputable def BZ (p2 : Int) (x2 : List Int) : Int → Option (Int ⊕ Int)
  | x8 => (if x8 < p2 then (ix x2 x8).bind fun x10 => (ix x2 (AA (x8 - 1))).bind fun x11 => some (!(Cq x10 x11)) else some false).bind fun x9 => (if x9 = true then some (.inl (AA (x8 + 1))) else some (.inr x8))
noncomputable def A2  : (List Int × Int) → Option ((List Int × Int) ⊕ (List Int))
  | (x17, x18) => (if 1 ≤ x18 then (ix x17 x18).bind fun x19 => (ix x17 (AA (x18 - 1))).bind fun x20 => (if (!(Cq x19 x20)) = true then some (.inr x17) else (ix x17 (AA (x18 - 1))).bind fun x21 => (ix x17 x18).bind fun x22 => (ix x17 x18).bind fun x23 => (ix (AQ x17 x18 x21) (AA (x18 - 1))).bind fun x24 => some (.inl ((AQ (AQ x17 x18 x21) (AA (x18 - 1)) x22), AA (x18 - 1)))) else some (.inr x17))
noncomputable def Bc (p2 : Int) (x7 : Int) : (List Int × Int) → Option ((List Int × Int) ⊕ ((List Int × Int) ⊕ ((List Int × Int × Int) ⊕ ((List Int) ⊕ (Bool × List Int)))))
  | (x25, x26) => (if x26 < p2 then (ix x25 x26).bind fun x27 => (ix x25 (AA (x26 - 1))).bind fun x28 => (if (!(Cq x27 x28)) = true then some (.inr (.inl (x25, x7))) else (ix x25 (AA (x26 - 1))).bind fun x29 => (ix x25 x26).bind fun x30 => (ix x25 x26).bind fun x31 => (ix (AQ x25 x26 x29) (AA (x26 - 1))).bind fun x32 => some (.inl ((AQ (AQ x25 x26 x29) (AA (x26 - 1)) x30), AA (x26 + 1)))) else some (.inr (.inl (x25, x7))))
noncomputable def Bb (p1 : Int) (p2 : Int) : (List Int × Int × Int) → Option ((List Int × Int × Int) ⊕ ((List Int) ⊕ (Bool × List Int)))
  | (x2, x3, x4) => (if x4 < 5 then E6 ((AE (BZ p2 x2) x3).bind fun x7 => (if x7 = p2 then some (.inr (.inr (.inr (true, x2)))) else (if (AA (p2 - p1)) < 50 then some (.inr (.inr (.inr (false, x2)))) else (ix x2 (AA (x7 - 1))).bind fun x12 => (ix x2 x7).bind fun x13 => (ix x2 x7).bind fun x14 => (ix (AQ x2 x7 x12) (AA (x7 - 1))).bind fun x15 => (if 2 ≤ (AA (x7 - p1)) then AE (A2) ((AQ (AQ x2 x7 x12) (AA (x7 - 1)) x13), AA (x7 - 1)) else some (AQ (AQ x2 x7 x12) (AA (x7 - 1)) x13)).bind fun x16 => (if 2 ≤ (AA (p2 - x7)) then AE (Bc p2 x7) (x16, AA (x7 + 1)) else some (.inl (x16, x7)))))) fun (x5, x6) => some (.inl (x5, x6, AA (x4 + 1))) else some (.inr (.inl x2)))
noncomputable def Bz (p0 : List Int) (p1 : Int) (p2 : Int) : Option (Bool × List Int) := E6 (AE (Bb p1 p2) (p0, AA (p1 + 1), 0)) fun x1 => some (false, x1)
theorem Fb (Y : Nat → Prop) (X : List Nat) (w0 : World) (v1 : Value) (p0 : List Int) (p1 : Int) (p2 : Int) (r : Bool × List Int) (H : Bz p0 p1 p2 = some r) (hL : Stw ⟨Y, X, w0⟩ [] [row v1 3 (Rp.int .i64) p0] w0) :
    Calls Try.prog 102 #[v1, .int .i64 p1, .int .i64 p2] w0 fun e w' => ∃ x : Unit, e = .returned (.bool r.1) ∧ Stw ⟨Y, X, w0⟩ [] [row v1 3 (Rp.int .i64) r.2] w' := by
 refine enter Try.func102 Aa Try.ntmps102 Aa fun a F => ?_
 have W := hL
 unfold Bz at H
 refine Ah (Ac ?_)
 refine ls F W Aa (Af F Aa).q fun a w F W => ?_
 refine Ae (Ab (Ah (Ac ?_)))
 refine ls F W Aa (Ad F Aa).q fun a w F W => ?_
 refine ls F W Aa (A3 F Aa Aa Aa).q fun a w F W => ?_
 refine ls F W Aa (Af F Aa).q fun a w F W => ?_
 refine Ae (Ab ?_)
 obtain ⟨o1, G1, K1, L1⟩ := Jb H
 refine AC (fun a w => ∃ x1 : List Int, some (Sum.inl x1) = some o1 ∧ Fr 133 [] [(6, .bool false)] a ∧ Stw ⟨Y, X, w0⟩ [] [row v1 3 (Rp.int .i64) x1] w) ?_ ?_
 ·
  have H := G1
  clear G1 K1
  refine Ah (Ac ?_)
  refine ls F W Aa (Af F Aa).q fun a w F W => ?_
  refine Ae (Ab (wp_block ?_))
  refine A1 H (fun s a w => Fr 133 [] [(0, v1), (1, .int .i64 p1), (2, .int .i64 p2), (6, .bool false), (7, .int .i64 s.2.1), (8, .int .i64 s.2.2)] a ∧ Stw ⟨Y, X, w0⟩ [] [row v1 3 (Rp.int .i64) s.1] w) ⟨F.re ⟨rfl, Aa, Aa, Aa, Aa, Aa, trivial⟩, W⟩ fun s o a w H L2 hR => ?_
  obtain ⟨x2, x3, x4⟩ := s
  obtain ⟨F, W⟩ := hR
  have F : Fr 133 [] [(0, v1), (1, .int .i64 p1), (2, .int .i64 p2), (6, .bool false), (7, .int .i64 x3), (8, .int .i64 x4)] a := F
  have W : Stw ⟨Y, X, w0⟩ [] [row v1 3 (Rp.int .i64) x2] w := W
  rw [Bb] at H
  refine Ah (Ah (Ac ?_))
  refine ls F W Aa (Ad F Aa).q fun a w F W => ?_
  refine ls F W Aa (Bk F Aa Aa).q fun a w F W => ?_
  refine Ae (Ab ?_)
  refine Aw F Aa (fun hb => ?_) fun hb => ?_
  ·
   have H := AL (A6 hb) H
   rw [hb] at F
   clear hb
   refine wp_skip (Ab ?_)
   obtain ⟨o3, G3, K3, L3⟩ := Jb H
   refine AC (fun a w => ∃ x5 : List Int, ∃ x6 : Int, some (Sum.inl (x5, x6)) = some o3 ∧ Fr 133 [] [(0, v1), (1, .int .i64 p1), (2, .int .i64 p2), (6, .bool false), (7, .int .i64 x6), (8, .int .i64 x4)] a ∧ Stw ⟨Y, X, w0⟩ [] [row v1 3 (Rp.int .i64) x5] w) ?_ ?_
   ·
    have H := G3
    clear G3 K3
    refine wp_block ?_
    obtain ⟨o4, G4, K4⟩ := Al H
    refine AC (fun a w => ∃ x7 : Int, some (x7) = some o4 ∧ Fr 133 [] [(0, v1), (1, .int .i64 p1), (2, .int .i64 p2), (6, .bool false), (7, .int .i64 x7), (8, .int .i64 x4)] a ∧ Stw ⟨Y, X, w0⟩ [] [row v1 3 (Rp.int .i64) x2] w) ?_ ?_
    ·
     have H := G4
     clear G4 K4
     refine wp_block ?_
     refine A1 H (fun s a w => Fr 133 [] [(0, v1), (1, .int .i64 p1), (2, .int .i64 p2), (6, .bool false), (7, .int .i64 s), (8, .int .i64 x4)] a ∧ Stw ⟨Y, X, w0⟩ [] [row v1 3 (Rp.int .i64) x2] w) ⟨F.re ⟨rfl, Aa, Aa, Aa, Aa, Aa, trivial⟩, W⟩ fun s o a w H L5 hR => ?_
     obtain ⟨x8, rfl⟩ : ∃ x, x = s := ⟨s, rfl⟩
     obtain ⟨F, W⟩ := hR
     have F : Fr 133 [] [(0, v1), (1, .int .i64 p1), (2, .int .i64 p2), (6, .bool false), (7, .int .i64 x8), (8, .int .i64 x4)] a := F
     have W : Stw ⟨Y, X, w0⟩ [] [row v1 3 (Rp.int .i64) x2] w := W
     rw [BZ] at H
     refine Ah ?_
     obtain ⟨o6, G6, K6⟩ := Al H
     refine AC (fun a w => ∃ x9 : Bool, some (x9) = some o6 ∧ Fr 133 [] [(0, v1), (1, .int .i64 p1), (2, .int .i64 p2), (6, .bool false), (7, .int .i64 x8), (8, .int .i64 x4), (32, .bool x9)] a ∧ Stw ⟨Y, X, w0⟩ [] [row v1 3 (Rp.int .i64) x2] w) ?_ ?_
     ·
      have H := G6
      clear G6 K6
      refine BB W MO (by kernel_rfl) ?_
      iterate 2 refine qs F Aa (Ad F Aa).q fun a F => ?_
      refine qs F Aa (Bk F Aa Aa).q fun a F => ?_
      refine qs F Aa (Ad F Aa).q fun a F => ?_
      rcases Bool.eq_false_or_eq_true (decide (x8 < p2)) with hb | hb
      ·
       have H := AL (A6 hb) H
       rw [hb] at F
       clear hb
       iterate 2 refine Bf F (Ag F Aa Aa Aa Aa) Aa (Ak Aa) (Ad F Aa).q fun a F => ?_
       obtain ⟨x10, h1, H⟩ := Al H
       refine Bf F (Ag F Aa Aa Aa Aa) Aa (Ak Aa) (Ay (r := (Rp.int .i64)) Eo F Aa Aa (Ao 0 Aa) h1).q fun a F => ?_
       refine Bf F (Ag F Aa Aa Aa Aa) Aa (Ak Aa) (Ap (y := Value.int .i64 x10) (j := 0) (i := x8) F Aa Aa (Ao 0 Aa) h1 Fl.int.to T3 Aa).q fun a F => ?_
       iterate 2 refine Bf F (Ag F Aa Aa Aa Aa) Aa (Ak Aa) (Ad F Aa).q fun a F => ?_
       refine Bf F (Ag F Aa Aa Aa Aa) Aa (Ak Aa) (B5 F Aa Aa Aa).q fun a F => ?_
       obtain ⟨x11, h2, H⟩ := Al H
       refine Bf F (Ag F Aa Aa Aa Aa) Aa (Ak Aa) (Ay (r := (Rp.int .i64)) Eo F Aa Aa (Ao 0 Aa) h2).q fun a F => ?_
       refine Bf F (Ag F Aa Aa Aa Aa) Aa (Ak Aa) (Ap (y := Value.int .i64 x11) (j := 0) (i := AA (x8 - 1)) F Aa Aa (Ao 0 Aa) h2 Fl.int.to T3 Aa).q fun a F => ?_
       refine Bf F (Ag F Aa Aa Aa Aa) Aa (Ak Aa) (BH (v := Value.bool (Cq x10 x11)) F Pm Aa (fun w W => EK any w x10 x11 _ Aa)) fun a F => ?_
       refine Bf F (Ag F Aa Aa Aa Aa) Aa (Ak Aa) (Dt F Aa).q fun a F => ?_
       refine qs F Aa (Aq F Aa Aa Aa).q fun a F => ?_
       refine AR fun w W => ?_
       refine Ab ?_
       exact ⟨_, H, F.re ⟨rfl, Aa, Aa, Aa, Aa, Aa, Aa, trivial⟩, W⟩
      have H := AK (A7 hb) H
      rw [hb] at F
      clear hb
      iterate 11 refine El F (Dm F Aa Aa Aa Aa Aa) Aa Aa fun a F => ?_
      refine qs F Aa (Au F Aa Aa Aa).q fun a F => ?_
      refine AR fun w W => ?_
      refine Ab ?_
      exact ⟨_, H, F.re ⟨rfl, Aa, Aa, Aa, Aa, Aa, Aa, trivial⟩, W⟩
     rintro a w ⟨x9, hj, F, W⟩
     have hj := AM hj
     subst hj
     have H := K6
     clear G6 K6
     refine Aw F Aa (fun hb => ?_) fun hb => ?_
     ·
      have H := AL hb H
      rw [hb] at F
      clear hb
      refine wp_skip (Ab (wp_block (Ac ?_)))
      refine ls F W Aa (Ad F Aa).q fun a w F W => ?_
      refine ls F W Aa (A3 F Aa Aa Aa).q fun a w F W => ?_
      refine ls F W Aa (Af F Aa).q fun a w F W => ?_
      refine Ae (AH (Ab ?_))
      exact ⟨_, H, F.re ⟨rfl, Aa, Aa, Aa, Aa, Aa, trivial⟩, W⟩
     have H := AK (by rw [hb]; decide) H
     rw [hb] at F
     clear hb
     refine wp_exit ?_
     iterate 2 refine A5 ?_
     refine AU (Ab ?_)
     have H := L5 _ H
     exact ⟨_, H, F.re ⟨rfl, Aa, Aa, Aa, Aa, Aa, trivial⟩, W⟩
    rintro a w ⟨x7, hj, F, W⟩
    have hj := AM hj
    subst hj
    have H := K4
    clear G4 K4
    refine Ah (Ah (Ac ?_))
    iterate 2 refine ls F W Aa (Ad F Aa).q fun a w F W => ?_
    refine ls F W Aa (Cy F Aa Aa).q fun a w F W => ?_
    refine Ae (Ab ?_)
    refine Aw F Aa (fun hb => ?_) fun hb => ?_
    ·
     have H := AL (A6 hb) H
     rw [hb] at F
     clear hb
     refine Ah (Ac ?_)
     refine ls F W Aa (Af F Aa).q fun a w F W => ?_
     refine Ae (Ab (wp_ret (AG (AO ?_))))
     iterate 2 refine AG ?_
     refine AO (AG ?_)
     have H := L3 _ H
     have H := L2 _ H
     have H := L1 _ H
     have H := AM H
     subst H
     refine Bl (.inl Aa) F W Aa (Av F Aa) ?_
     exact ⟨(), Aa, W⟩
    have H := AK (A7 hb) H
    rw [hb] at F
    clear hb
    refine wp_skip (Ab (Ah (Ah (Ac ?_))))
    iterate 2 refine ls F W Aa (Ad F Aa).q fun a w F W => ?_
    refine ls F W Aa (B5 F Aa Aa Aa).q fun a w F W => ?_
    refine ls F W Aa (Bk F Aa Aa).q fun a w F W => ?_
    refine Ae (Ab ?_)
    refine Aw F Aa (fun hb => ?_) fun hb => ?_
    ·
     have H := AL (A6 hb) H
     rw [hb] at F
     clear hb
     refine Ah (Ac ?_)
     refine ls F W Aa (Af F Aa).q fun a w F W => ?_
     refine Ae (Ab (wp_ret (AG (AO ?_))))
     iterate 2 refine AG ?_
     refine AO (AG ?_)
     have H := L3 _ H
     have H := L2 _ H
     have H := L1 _ H
     have H := AM H
     subst H
     refine Bl (.inl Aa) F W Aa (Av F Aa) ?_
     exact ⟨(), Aa, W⟩
    have H := AK (A7 hb) H
    rw [hb] at F
    clear hb
    refine wp_skip (Ab (Ah ?_))
    refine Ev [(true, 0), (true, 1), (true, 2), (true, 3), (true, 4), (true, 5), (true, 6), (true, 7), (true, 8), (true, 9), (true, 10), (true, 11), (true, 12), (true, 13), (true, 14), (false, 15), (true, 16), (false, 17)] (CN ⟨Y, X, w0⟩ [] [(some 15, row v1 3 (Rp.int .i64) x2)]) (fun ch a d v w h => by cases d <;> exact h) MO (by kernel_rfl) W (fun w W => ⟨_, _, W, AB, (Bi (fun _ => (.head _)) AB)⟩) fun w W => ?_
    iterate 4 refine Bo (R := []) F Aa Aa (yC fun M Z hN hZ => Ad F Aa) Aa Aa fun a F => ?_
    refine Bo (R := []) F Aa Aa (yC fun M Z hN hZ => B5 F Aa Aa Aa) Aa Aa fun a F => ?_
    iterate 2 refine Bo (R := []) F Aa Aa (yC fun M Z hN hZ => Ad F Aa) Aa Aa fun a F => ?_
    refine Bo (R := []) F Aa Aa (yC fun M Z hN hZ => B5 F Aa Aa Aa) Aa Aa fun a F => ?_
    obtain ⟨x12, h3, H⟩ := Al H
    refine Bo (R := []) F Aa Aa (yC fun M Z hN hZ => Bu (r := (Rp.int .i64)) Eo F Aa Aa (CT W (Ao 0 Aa)) h3) Aa Aa fun a F => ?_
    refine Bo (R := [15]) F Aa Aa (yC fun M Z hN hZ => Ap (y := Value.int .i64 x12) (j := 0) (i := AA (x7 - 1)) F Aa Aa (CO (hZ ((some 15), row v1 3 (Rp.int .i64) x2) (.head _) Aa)) h3 Fl.int.to T3 Aa) (by kernel_rfl) Aa fun a F => ?_
    iterate 2 refine Bo (R := []) F Aa Aa (yC fun M Z hN hZ => Ad F Aa) Aa Aa fun a F => ?_
    obtain ⟨x13, h4, H⟩ := Al H
    refine Bo (R := []) F Aa Aa (yC fun M Z hN hZ => Bu (r := (Rp.int .i64)) Eo F Aa Aa (CT W (Ao 0 Aa)) h4) Aa Aa fun a F => ?_
    refine Bo (R := [15]) F Aa Aa (yC fun M Z hN hZ => Ap (y := Value.int .i64 x13) (j := 0) (i := x7) F Aa Aa (CO (hZ ((some 15), row v1 3 (Rp.int .i64) x2) (.head _) Aa)) h4 Fl.int.to T3 Aa) (by kernel_rfl) Aa fun a F => ?_
    obtain ⟨x14, h5, H⟩ := Al H
    refine Bo (R := []) F Aa Aa (yC fun M Z hN hZ => Bu (r := (Rp.int .i64)) Eo F Aa Aa (CT W (Ao 0 Aa)) h5) Aa Aa fun a F => ?_
    refine Gc Aa ?_
    refine Bh (i := x7) (j := 0) (vs := [.int .i64 x12]) (x' := x12) F W Aa Aa Aa (k := 0) Aa Aa h5 T3 Aa Aa Aa Aa (fun A cs _ => Fl.int.sto (by rfl) _ _ _) fun w W => ?_
    refine CE (N2 := []) (NZ2 := []) (N3 := []) (NZ3 := [(some 15, row v1 3 (Rp.int .i64) x2)]) W Aa Aa AB (Bi (fun h => Ch (by kernel_rfl) h) AB) ?_
    obtain ⟨x15, h6, H⟩ := Al H
    refine Bo (R := []) F Aa Aa (yC fun M Z hN hZ => Bu (r := (Rp.int .i64)) Eo F Aa Aa (CT W (Ao 0 Aa)) h6) Aa Aa fun a F => ?_
    refine Gc Aa ?_
    refine Bh (i := AA (x7 - 1)) (j := 0) (vs := [.int .i64 x13]) (x' := x13) F W Aa Aa Aa (k := 0) Aa Aa h6 T3 Aa Aa Aa Aa (fun A cs _ => Fl.int.sto (by rfl) _ _ _) fun w W => ?_
    refine CE (N2 := []) (NZ2 := []) (N3 := []) (NZ3 := [(some 15, row v1 3 (Rp.int .i64) x2)]) W Aa Aa AB (Bi (fun h => Ch (by kernel_rfl) h) AB) ?_
    refine Gs (Ab ?_)
    obtain ⟨o7, G7, K7⟩ := Al H
    refine AC (fun a w => ∃ x16 : List Int, some (x16) = some o7 ∧ Fr 133 [] [(0, v1), (1, .int .i64 p1), (2, .int .i64 p2), (6, .bool false), (7, .int .i64 x7), (8, .int .i64 x4)] a ∧ Stw ⟨Y, X, w0⟩ [] [row v1 3 (Rp.int .i64) x16] w) ?_ ?_
    ·
     have H := G7
     clear G7 K7
     refine Ah (Ac ?_)
     iterate 2 refine ls F W Aa (Ad F Aa).q fun a w F W => ?_
     refine ls F W Aa (B5 F Aa Aa Aa).q fun a w F W => ?_
     refine ls F W Aa (Dj F Aa Aa).q fun a w F W => ?_
     refine Ae (Ab ?_)
     refine Aw F Aa (fun hb => ?_) fun hb => ?_
     ·
      have H := AL (A6 hb) H
      rw [hb] at F
      clear hb
      refine Ah (Ac ?_)
      refine ls F W Aa (Ad F Aa).q fun a w F W => ?_
      refine ls F W Aa (B5 F Aa Aa Aa).q fun a w F W => ?_
      refine ls F W Aa (Af F Aa).q fun a w F W => ?_
      refine Ae (Ab (wp_block ?_))
      refine A1 H (fun s a w => Fr 133 [] [(0, v1), (1, .int .i64 p1), (2, .int .i64 p2), (6, .bool false), (7, .int .i64 x7), (8, .int .i64 x4), (9, .int .i64 s.2)] a ∧ Stw ⟨Y, X, w0⟩ [] [row v1 3 (Rp.int .i64) s.1] w) ⟨F.re ⟨rfl, Aa, Aa, Aa, Aa, Aa, Aa, trivial⟩, W⟩ fun s o a w H L8 hR => ?_
      obtain ⟨x17, x18⟩ := s
      obtain ⟨F, W⟩ := hR
      have F : Fr 133 [] [(0, v1), (1, .int .i64 p1), (2, .int .i64 p2), (6, .bool false), (7, .int .i64 x7), (8, .int .i64 x4), (9, .int .i64 x18)] a := F
      have W : Stw ⟨Y, X, w0⟩ [] [row v1 3 (Rp.int .i64) x17] w := W
      rw [A2] at H
      refine Ah (Ah (Ac ?_))
      refine ls F W Aa (Ad F Aa).q fun a w F W => ?_
      refine ls F W Aa (Dj F Aa Aa).q fun a w F W => ?_
      refine Ae (Ab ?_)
      refine Aw F Aa (fun hb => ?_) fun hb => ?_
      ·
       have H := AL (A6 hb) H
       rw [hb] at F
       clear hb
       refine wp_skip (Ab (Ah (wp_block ?_)))
       iterate 2 refine Ah ?_
       refine BB W MO (by kernel_rfl) ?_
       iterate 2 refine qs F Aa (Ad F Aa).q fun a F => ?_
       obtain ⟨x19, h7, H⟩ := Al H
       refine qs F Aa (Ay (r := (Rp.int .i64)) Eo F Aa Aa (Ao 0 Aa) h7).q fun a F => ?_
       refine qs F Aa (Ap (y := Value.int .i64 x19) (j := 0) (i := x18) F Aa Aa (Ao 0 Aa) h7 Fl.int.to T3 Aa).q fun a F => ?_
       iterate 2 refine qs F Aa (Ad F Aa).q fun a F => ?_
       refine qs F Aa (B5 F Aa Aa Aa).q fun a F => ?_
       obtain ⟨x20, h8, H⟩ := Al H
       refine qs F Aa (Ay (r := (Rp.int .i64)) Eo F Aa Aa (Ao 0 Aa) h8).q fun a F => ?_
       refine qs F Aa (Ap (y := Value.int .i64 x20) (j := 0) (i := AA (x18 - 1)) F Aa Aa (Ao 0 Aa) h8 Fl.int.to T3 Aa).q fun a F => ?_
       refine qs F Aa (BH (v := Value.bool (Cq x19 x20)) F Pm Aa (fun w W => EK any w x19 x20 _ Aa)) fun a F => ?_
       refine qs F Aa (Dt F Aa).q fun a F => ?_
       refine AR fun w W => ?_
       refine Ab ?_
       refine Aw F Aa (fun hb => ?_) fun hb => ?_
       ·
        have H := AL hb H
        rw [hb] at F
        clear hb
        refine wp_exit (A5 ?_)
        refine H1 Aa ?_
        iterate 2 refine A5 ?_
        refine AU (Ab ?_)
        have H := L8 _ H
        exact ⟨_, H, F.re ⟨rfl, Aa, Aa, Aa, Aa, Aa, trivial⟩, W⟩
       have H := AK (by rw [hb]; decide) H
       rw [hb] at F
       clear hb
       refine wp_skip (Ab ?_)
       refine Ev [(true, 0), (true, 1), (true, 2), (true, 3), (true, 4), (true, 5), (true, 6), (true, 7), (true, 8), (true, 9), (true, 10), (true, 11), (true, 12), (true, 13), (true, 14), (false, 15), (true, 16), (false, 17)] (CN ⟨Y, X, w0⟩ [] [(some 15, row v1 3 (Rp.int .i64) x17)]) (fun ch a d v w h => by cases d <;> exact h) MO (by kernel_rfl) W (fun w W => ⟨_, _, W, AB, (Bi (fun _ => (.head _)) AB)⟩) fun w W => ?_
       iterate 4 refine Bo (R := []) F Aa Aa (yC fun M Z hN hZ => Ad F Aa) Aa Aa fun a F => ?_
       refine Bo (R := []) F Aa Aa (yC fun M Z hN hZ => B5 F Aa Aa Aa) Aa Aa fun a F => ?_
       iterate 2 refine Bo (R := []) F Aa Aa (yC fun M Z hN hZ => Ad F Aa) Aa Aa fun a F => ?_
       refine Bo (R := []) F Aa Aa (yC fun M Z hN hZ => B5 F Aa Aa Aa) Aa Aa fun a F => ?_
       obtain ⟨x21, h9, H⟩ := Al H
       refine Bo (R := []) F Aa Aa (yC fun M Z hN hZ => Bu (r := (Rp.int .i64)) Eo F Aa Aa (CT W (Ao 0 Aa)) h9) Aa Aa fun a F => ?_
       refine Bo (R := [15]) F Aa Aa (yC fun M Z hN hZ => Ap (y := Value.int .i64 x21) (j := 0) (i := AA (x18 - 1)) F Aa Aa (CO (hZ ((some 15), row v1 3 (Rp.int .i64) x17) (.head _) Aa)) h9 Fl.int.to T3 Aa) (by kernel_rfl) Aa fun a F => ?_
       iterate 2 refine Bo (R := []) F Aa Aa (yC fun M Z hN hZ => Ad F Aa) Aa Aa fun a F => ?_
       obtain ⟨x22, h10, H⟩ := Al H
       refine Bo (R := []) F Aa Aa (yC fun M Z hN hZ => Bu (r := (Rp.int .i64)) Eo F Aa Aa (CT W (Ao 0 Aa)) h10) Aa Aa fun a F => ?_
       refine Bo (R := [15]) F Aa Aa (yC fun M Z hN hZ => Ap (y := Value.int .i64 x22) (j := 0) (i := x18) F Aa Aa (CO (hZ ((some 15), row v1 3 (Rp.int .i64) x17) (.head _) Aa)) h10 Fl.int.to T3 Aa) (by kernel_rfl) Aa fun a F => ?_
       obtain ⟨x23, h11, H⟩ := Al H
       refine Bo (R := []) F Aa Aa (yC fun M Z hN hZ => Bu (r := (Rp.int .i64)) Eo F Aa Aa (CT W (Ao 0 Aa)) h11) Aa Aa fun a F => ?_
       refine Gc Aa ?_
       refine Bh (i := x18) (j := 0) (vs := [.int .i64 x21]) (x' := x21) F W Aa Aa Aa (k := 0) Aa Aa h11 T3 Aa Aa Aa Aa (fun A cs _ => Fl.int.sto (by rfl) _ _ _) fun w W => ?_
       refine CE (N2 := []) (NZ2 := []) (N3 := []) (NZ3 := [(some 15, row v1 3 (Rp.int .i64) x17)]) W Aa Aa AB (Bi (fun h => Ch (by kernel_rfl) h) AB) ?_
       obtain ⟨x24, h12, H⟩ := Al H
       refine Bo (R := []) F Aa Aa (yC fun M Z hN hZ => Bu (r := (Rp.int .i64)) Eo F Aa Aa (CT W (Ao 0 Aa)) h12) Aa Aa fun a F => ?_
       refine Gc Aa ?_
       refine Bh (i := AA (x18 - 1)) (j := 0) (vs := [.int .i64 x22]) (x' := x22) F W Aa Aa Aa (k := 0) Aa Aa h12 T3 Aa Aa Aa Aa (fun A cs _ => Fl.int.sto (by rfl) _ _ _) fun w W => ?_
       refine CE (N2 := []) (NZ2 := []) (N3 := []) (NZ3 := [(some 15, row v1 3 (Rp.int .i64) x17)]) W Aa Aa AB (Bi (fun h => Ch (by kernel_rfl) h) AB) ?_
       refine Gs (AH (Ab (Ac ?_)))
       refine ls F W Aa (Ad F Aa).q fun a w F W => ?_
       refine ls F W Aa (B5 F Aa Aa Aa).q fun a w F W => ?_
       refine ls F W Aa (Af F Aa).q fun a w F W => ?_
       refine Ae (Ab ?_)
       exact ⟨_, H, F.re ⟨rfl, Aa, Aa, Aa, Aa, Aa, Aa, trivial⟩, W⟩
      have H := AK (A7 hb) H
      rw [hb] at F
      clear hb
      refine wp_exit ?_
      iterate 2 refine A5 ?_
      refine AU (Ab ?_)
      have H := L8 _ H
      exact ⟨_, H, F.re ⟨rfl, Aa, Aa, Aa, Aa, Aa, trivial⟩, W⟩
     have H := AK (A7 hb) H
     rw [hb] at F
     clear hb
     refine wp_skip (Ab ?_)
     exact ⟨_, H, F.re ⟨rfl, Aa, Aa, Aa, Aa, Aa, trivial⟩, W⟩
    rintro a w ⟨x16, hj, F, W⟩
    have hj := AM hj
    subst hj
    have H := K7
    clear G7 K7
    refine Ah (Ac ?_)
    iterate 2 refine ls F W Aa (Ad F Aa).q fun a w F W => ?_
    refine ls F W Aa (B5 F Aa Aa Aa).q fun a w F W => ?_
    refine ls F W Aa (Dj F Aa Aa).q fun a w F W => ?_
    refine Ae (Ab ?_)
    refine Aw F Aa (fun hb => ?_) fun hb => ?_
    ·
     have H := AL (A6 hb) H
     rw [hb] at F
     clear hb
     refine Ah (Ac ?_)
     refine ls F W Aa (Ad F Aa).q fun a w F W => ?_
     refine ls F W Aa (A3 F Aa Aa Aa).q fun a w F W => ?_
     refine ls F W Aa (Af F Aa).q fun a w F W => ?_
     refine Ae (Ab (wp_block ?_))
     refine A1 H (fun s a w => Fr 133 [] [(0, v1), (1, .int .i64 p1), (2, .int .i64 p2), (6, .bool false), (7, .int .i64 x7), (8, .int .i64 x4), (10, .int .i64 s.2)] a ∧ Stw ⟨Y, X, w0⟩ [] [row v1 3 (Rp.int .i64) s.1] w) ⟨F.re ⟨rfl, Aa, Aa, Aa, Aa, Aa, Aa, trivial⟩, W⟩ fun s o a w H L9 hR => ?_
     obtain ⟨x25, x26⟩ := s
     obtain ⟨F, W⟩ := hR
     have F : Fr 133 [] [(0, v1), (1, .int .i64 p1), (2, .int .i64 p2), (6, .bool false), (7, .int .i64 x7), (8, .int .i64 x4), (10, .int .i64 x26)] a := F
     have W : Stw ⟨Y, X, w0⟩ [] [row v1 3 (Rp.int .i64) x25] w := W
     rw [Bc] at H
     refine Ah (Ah (Ac ?_))
     iterate 2 refine ls F W Aa (Ad F Aa).q fun a w F W => ?_
     refine ls F W Aa (Bk F Aa Aa).q fun a w F W => ?_
     refine Ae (Ab ?_)
     refine Aw F Aa (fun hb => ?_) fun hb => ?_
     ·
      have H := AL (A6 hb) H
      rw [hb] at F
      clear hb
      refine wp_skip (Ab (Ah (wp_block ?_)))
      iterate 2 refine Ah ?_
      refine BB W MO (by kernel_rfl) ?_
      iterate 2 refine qs F Aa (Ad F Aa).q fun a F => ?_
      obtain ⟨x27, h13, H⟩ := Al H
      refine qs F Aa (Ay (r := (Rp.int .i64)) Eo F Aa Aa (Ao 0 Aa) h13).q fun a F => ?_
      refine qs F Aa (Ap (y := Value.int .i64 x27) (j := 0) (i := x26) F Aa Aa (Ao 0 Aa) h13 Fl.int.to T3 Aa).q fun a F => ?_
      iterate 2 refine qs F Aa (Ad F Aa).q fun a F => ?_
      refine qs F Aa (B5 F Aa Aa Aa).q fun a F => ?_
      obtain ⟨x28, h14, H⟩ := Al H
      refine qs F Aa (Ay (r := (Rp.int .i64)) Eo F Aa Aa (Ao 0 Aa) h14).q fun a F => ?_
      refine qs F Aa (Ap (y := Value.int .i64 x28) (j := 0) (i := AA (x26 - 1)) F Aa Aa (Ao 0 Aa) h14 Fl.int.to T3 Aa).q fun a F => ?_
      refine qs F Aa (BH (v := Value.bool (Cq x27 x28)) F Pm Aa (fun w W => EK any w x27 x28 _ Aa)) fun a F => ?_
      refine qs F Aa (Dt F Aa).q fun a F => ?_
      refine AR fun w W => ?_
      refine Ab ?_
      refine Aw F Aa (fun hb => ?_) fun hb => ?_
      ·
       have H := AL hb H
       rw [hb] at F
       clear hb
       refine wp_exit (A5 ?_)
       refine H1 Aa ?_
       iterate 2 refine A5 ?_
       refine AU (AH (Ab ?_))
       have H := L9 _ H
       exact ⟨_, _, H, F.re ⟨rfl, Aa, Aa, Aa, Aa, Aa, trivial⟩, W⟩
      have H := AK (by rw [hb]; decide) H
      rw [hb] at F
      clear hb
      refine wp_skip (Ab ?_)
      refine Ev [(true, 0), (true, 1), (true, 2), (true, 3), (true, 4), (true, 5), (true, 6), (true, 7), (true, 8), (true, 9), (true, 10), (true, 11), (true, 12), (true, 13), (true, 14), (false, 15), (true, 16), (false, 17)] (CN ⟨Y, X, w0⟩ [] [(some 15, row v1 3 (Rp.int .i64) x25)]) (fun ch a d v w h => by cases d <;> exact h) MO (by kernel_rfl) W (fun w W => ⟨_, _, W, AB, (Bi (fun _ => (.head _)) AB)⟩) fun w W => ?_
      iterate 4 refine Bo (R := []) F Aa Aa (yC fun M Z hN hZ => Ad F Aa) Aa Aa fun a F => ?_
      refine Bo (R := []) F Aa Aa (yC fun M Z hN hZ => B5 F Aa Aa Aa) Aa Aa fun a F => ?_
      iterate 2 refine Bo (R := []) F Aa Aa (yC fun M Z hN hZ => Ad F Aa) Aa Aa fun a F => ?_
      refine Bo (R := []) F Aa Aa (yC fun M Z hN hZ => B5 F Aa Aa Aa) Aa Aa fun a F => ?_
      obtain ⟨x29, h15, H⟩ := Al H
      refine Bo (R := []) F Aa Aa (yC fun M Z hN hZ => Bu (r := (Rp.int .i64)) Eo F Aa Aa (CT W (Ao 0 Aa)) h15) Aa Aa fun a F => ?_
      refine Bo (R := [15]) F Aa Aa (yC fun M Z hN hZ => Ap (y := Value.int .i64 x29) (j := 0) (i := AA (x26 - 1)) F Aa Aa (CO (hZ ((some 15), row v1 3 (Rp.int .i64) x25) (.head _) Aa)) h15 Fl.int.to T3 Aa) (by kernel_rfl) Aa fun a F => ?_
      iterate 2 refine Bo (R := []) F Aa Aa (yC fun M Z hN hZ => Ad F Aa) Aa Aa fun a F => ?_
      obtain ⟨x30, h16, H⟩ := Al H
      refine Bo (R := []) F Aa Aa (yC fun M Z hN hZ => Bu (r := (Rp.int .i64)) Eo F Aa Aa (CT W (Ao 0 Aa)) h16) Aa Aa fun a F => ?_
      refine Bo (R := [15]) F Aa Aa (yC fun M Z hN hZ => Ap (y := Value.int .i64 x30) (j := 0) (i := x26) F Aa Aa (CO (hZ ((some 15), row v1 3 (Rp.int .i64) x25) (.head _) Aa)) h16 Fl.int.to T3 Aa) (by kernel_rfl) Aa fun a F => ?_
      obtain ⟨x31, h17, H⟩ := Al H
      refine Bo (R := []) F Aa Aa (yC fun M Z hN hZ => Bu (r := (Rp.int .i64)) Eo F Aa Aa (CT W (Ao 0 Aa)) h17) Aa Aa fun a F => ?_
      refine Gc Aa ?_
      refine Bh (i := x26) (j := 0) (vs := [.int .i64 x29]) (x' := x29) F W Aa Aa Aa (k := 0) Aa Aa h17 T3 Aa Aa Aa Aa (fun A cs _ => Fl.int.sto (by rfl) _ _ _) fun w W => ?_
      refine CE (N2 := []) (NZ2 := []) (N3 := []) (NZ3 := [(some 15, row v1 3 (Rp.int .i64) x25)]) W Aa Aa AB (Bi (fun h => Ch (by kernel_rfl) h) AB) ?_
      obtain ⟨x32, h18, H⟩ := Al H
      refine Bo (R := []) F Aa Aa (yC fun M Z hN hZ => Bu (r := (Rp.int .i64)) Eo F Aa Aa (CT W (Ao 0 Aa)) h18) Aa Aa fun a F => ?_
      refine Gc Aa ?_
      refine Bh (i := AA (x26 - 1)) (j := 0) (vs := [.int .i64 x30]) (x' := x30) F W Aa Aa Aa (k := 0) Aa Aa h18 T3 Aa Aa Aa Aa (fun A cs _ => Fl.int.sto (by rfl) _ _ _) fun w W => ?_
      refine CE (N2 := []) (NZ2 := []) (N3 := []) (NZ3 := [(some 15, row v1 3 (Rp.int .i64) x25)]) W Aa Aa AB (Bi (fun h => Ch (by kernel_rfl) h) AB) ?_
      refine Gs (AH (Ab (Ac ?_)))
      refine ls F W Aa (Ad F Aa).q fun a w F W => ?_
      refine ls F W Aa (A3 F Aa Aa Aa).q fun a w F W => ?_
      refine ls F W Aa (Af F Aa).q fun a w F W => ?_
      refine Ae (Ab ?_)
      exact ⟨_, H, F.re ⟨rfl, Aa, Aa, Aa, Aa, Aa, Aa, trivial⟩, W⟩
     have H := AK (A7 hb) H
     rw [hb] at F
     clear hb
     refine wp_exit ?_
     iterate 2 refine A5 ?_
     refine AU (AH (Ab ?_))
     have H := L9 _ H
     exact ⟨_, _, H, F.re ⟨rfl, Aa, Aa, Aa, Aa, Aa, trivial⟩, W⟩
    have H := AK (A7 hb) H
    rw [hb] at F
    clear hb
    refine wp_skip (AH (Ab ?_))
    exact ⟨_, _, H, F.re ⟨rfl, Aa, Aa, Aa, Aa, Aa, trivial⟩, W⟩
   rintro a w ⟨x5, x6, hj, F, W⟩
   have H := K3 _ hj
   clear hj G3 K3 L3
   refine Ac ?_
   refine ls F W Aa (Ad F Aa).q fun a w F W => ?_
   refine ls F W Aa (A3 F Aa Aa Aa).q fun a w F W => ?_
   refine ls F W Aa (Af F Aa).q fun a w F W => ?_
   refine Ae (Ab ?_)
   exact ⟨_, H, F.re ⟨rfl, Aa, Aa, Aa, Aa, Aa, trivial⟩, W⟩
  have H := AK (A7 hb) H
  rw [hb] at F
  clear hb
  refine wp_exit ?_
  iterate 2 refine A5 ?_
  refine AU (Ab ?_)
  have H := L2 _ H
  exact ⟨_, H, F.re ⟨rfl, trivial⟩, W⟩
 rintro a w ⟨x1, hj, F, W⟩
 have H := K1 _ hj
 clear hj G1 K1 L1
 refine Ah (Ac ?_)
 refine ls F W Aa (Af F Aa).q fun a w F W => ?_
 refine Ae (Ab (wp_ret ?_))
 have H := AM H
 subst H
 refine Bl (.inl Aa) F W Aa (Av F Aa) ?_
 exact ⟨(), Aa, W⟩
theorem SN : Has Try.prog 102 := ⟨fun args w => An Try.func102 rfl (by decide) args w⟩
noncomputable def CG (p0 : List Int) (p1 : Int) (p2 : Int) (p3 : Int) : Unit → Option (Unit ⊕ (List Int))
  | _ => (if (AA (p2 - p1)) ≤ 12 then (BN p0 p1 p2).bind fun x1 => some (.inr x1) else (if p3 = 0 then none else (Cc p0 p1 p2).bind fun x2 => (if x2.2 = 2 then none else E6 (if x2.2 = 1 then (Bz p0 p1 p2).bind fun x4 => (if x4.1 = true then some (.inr (.inr x4.2)) else some (.inl x4.2)) else some (.inl p0)) fun x3 => (if 0 < p1 then (ix x3 (AA (p1 - 1))).bind fun x6 => (ix x3 x2.1).bind fun x7 => some (!(Cq x6 x7)) else some false).bind fun x5 => none)))
noncomputable def Cr (p0 : List Int) (p1 : Int) (p2 : Int) (p3 : Int) : Option (List Int) := AE (CG p0 p1 p2 p3) ()
theorem HR (Y : Nat → Prop) (X : List Nat) (w0 : World) (v1 : Value) (p0 : List Int) (p1 : Int) (p2 : Int) (p3 : Int) (r : List Int) (H : Cr p0 p1 p2 p3 = some r) (hL : Stw ⟨Y, X, w0⟩ [] [row v1 3 (Rp.int .i64) p0] w0) :
    Calls Try.prog 82 #[v1, .int .i64 p1, .int .i64 p2, .int .i64 p3] w0 fun e w' => ∃ x : Unit, e = .returned (.tuple #[]) ∧ Stw ⟨Y, X, w0⟩ [] [row v1 3 (Rp.int .i64) r] w' := by
 refine enter Try.func82 Aa Try.ntmps82 Aa fun a F => ?_
 have W := hL
 unfold Cr at H
 refine Ah (Ac ?_)
 refine ls F W Aa (Af F Aa).q fun a w F W => ?_
 refine Ae (Ab (Ah (Ac ?_)))
 refine ls F W Aa (Af F Aa).q fun a w F W => ?_
 refine Ae (Ab (wp_block ?_))
 refine A1 H (fun s a w => Fr 134 [] [(0, v1), (1, .int .i64 p1), (2, .int .i64 p2), (3, .int .i64 p3), (8, .bool true), (9, .bool true)] a ∧ Stw ⟨Y, X, w0⟩ [] [row v1 3 (Rp.int .i64) p0] w) ⟨F.re ⟨rfl, Aa, Aa, Aa, Aa, Aa, trivial⟩, W⟩ fun s o a w H L1 hR => ?_
 obtain ⟨F, W⟩ := hR
 have F : Fr 134 [] [(0, v1), (1, .int .i64 p1), (2, .int .i64 p2), (3, .int .i64 p3), (8, .bool true), (9, .bool true)] a := F
 have W : Stw ⟨Y, X, w0⟩ [] [row v1 3 (Rp.int .i64) p0] w := W
 rw [CG] at H
 refine wp_block (Ah (Ac ?_))
 iterate 2 refine ls F W Aa (Ad F Aa).q fun a w F W => ?_
 refine ls F W Aa (B5 F Aa Aa Aa).q fun a w F W => ?_
 refine ls F W Aa (Af F Aa).q fun a w F W => ?_
 refine Ae (Ab (Ah (Ah (Ac ?_))))
 refine ls F W Aa (Ad F Aa).q fun a w F W => ?_
 refine ls F W Aa (HJ F Aa Aa).q fun a w F W => ?_
 refine Ae (Ab ?_)
 refine Aw F Aa (fun hb => ?_) fun hb => ?_
 ·
  have H := AL (A6 hb) H
  rw [hb] at F
  clear hb
  refine Ah (Ac ?_)
  iterate 3 refine ls F W Aa (Ad F Aa).q fun a w F W => ?_
  obtain ⟨x1, h1, H⟩ := Al H
  refine Bp (Ml := []) (Zl := [row v1 3 (Rp.int .i64) p0]) (M := []) (Z := []) (β := Unit) (rv := fun x => .tuple #[]) (MM := fun x => []) (ZZ := fun x => [row v1 3 (Rp.int .i64) x1]) F W Uo Aa Aa (fun hL => Gq _ _ w (v1) p0 p1 p2 _ h1 hL) fun x a w F W => ?_
  have W : Stw ⟨Y, X, w0⟩ [] [row v1 3 (Rp.int .i64) x1] w := W
  refine Ae (Ab (wp_ret (AG (AO (AG (AO ?_))))))
  have H := L1 _ H
  have H := AM H
  subst H
  refine Ic (.inl Aa) F Aa ?_
  exact ⟨(), Aa, W⟩
 have H := AK (A7 hb) H
 rw [hb] at F
 clear hb
 refine wp_skip (Ab (Ah (Ah (Ac ?_))))
 refine ls F W Aa (Ad F Aa).q fun a w F W => ?_
 refine ls F W Aa (Cy F Aa Aa).q fun a w F W => ?_
 refine Ae (Ab ?_)
 refine Aw F Aa (fun hb => ?_) fun hb => ?_
 ·
  have H := AL (A6 hb) H
  rw [hb] at F
  clear hb
  exact nomatch H
 have H := AK (A7 hb) H
 rw [hb] at F
 clear hb
 refine wp_skip (Ab (Ah (Ah (Ac ?_))))
 refine ls F W Aa (Ad F Aa).q fun a w F W => ?_
 refine ls F W Aa (Dt F Aa).q fun a w F W => ?_
 refine Ae (Ab ?_)
 refine N8 F Aa ?_
 refine wp_skip (Ab (Ah (Ac ?_)))
 iterate 3 refine ls F W Aa (Ad F Aa).q fun a w F W => ?_
 obtain ⟨x2, h2, H⟩ := Al H
 refine ls F W Aa (BH (v := Value.tuple #[.int .i64 x2.1, .int .i64 x2.2]) F S8 Aa (fun w W => GJ any w (v1) p0 p1 p2 _ h2 (((Ao 0 Aa) : DT _ _ _ _ _ _) w W).nx)) fun a w F W => ?_
 refine ls F W Aa (Ad F Aa).q fun a w F W => ?_
 refine ls F W Aa (A0 (v := Value.int .i64 x2.1) F Aa Aa).q fun a w F W => ?_
 refine ls F W Aa (A0 (v := Value.int .i64 x2.2) F Aa Aa).q fun a w F W => ?_
 iterate 2 refine ls F W Aa (Af F Aa).q fun a w F W => ?_
 refine Ae (Ab (Ah (Ah (Ac ?_))))
 refine ls F W Aa (Ad F Aa).q fun a w F W => ?_
 refine ls F W Aa (Cy F Aa Aa).q fun a w F W => ?_
 refine Ae (Ab ?_)
 refine Aw F Aa (fun hb => ?_) fun hb => ?_
 ·
  have H := AL (A6 hb) H
  rw [hb] at F
  clear hb
  exact nomatch H
 have H := AK (A7 hb) H
 rw [hb] at F
 clear hb
 refine wp_skip (Ab ?_)
 obtain ⟨o2, G2, K2, L2⟩ := Jb H
 refine AC (fun a w => ∃ x3 : List Int, some (Sum.inl x3) = some o2 ∧ Fr 134 [] [(0, v1), (1, .int .i64 p1), (2, .int .i64 p2), (3, .int .i64 p3), (8, .bool true), (9, .bool true), (10, .int .i64 (AA (p2 - p1))), (11, .int .i64 x2.1)] a ∧ Stw ⟨Y, X, w0⟩ [] [row v1 3 (Rp.int .i64) x3] w) ?_ ?_
 ·
  have H := G2
  clear G2 K2
  refine Ah (Ac ?_)
  iterate 2 refine ls F W Aa (Ad F Aa).q fun a w F W => ?_
  refine AD F W (Ag F Aa Aa Aa Aa) Aa (Ak Aa) (Ad F Aa).q fun a w F W => ?_
  refine ls F W Aa (Aq F Aa Aa Aa).q fun a w F W => ?_
  refine ls F W Aa (Ad F Aa).q fun a w F W => ?_
  refine AD F W (Ag F Aa Aa Aa Aa) Aa (Ak Aa) (Ad F Aa).q fun a w F W => ?_
  refine AD F W (Ag F Aa Aa Aa Aa) Aa (Ak Aa) (Cy F Aa Aa).q fun a w F W => ?_
  refine ls F W Aa (Aq F Aa Aa Aa).q fun a w F W => ?_
  refine Ae (Ab ?_)
  refine Aw F Aa (fun hb => ?_) fun hb => ?_
  ·
   have H := AL (A6 hb) H
   rw [hb] at F
   clear hb
   refine Ah (Ac ?_)
   iterate 3 refine ls F W Aa (Ad F Aa).q fun a w F W => ?_
   obtain ⟨x4, h3, H⟩ := Al H
   refine Bp (Ml := []) (Zl := [row v1 3 (Rp.int .i64) p0]) (M := []) (Z := []) (β := Unit) (rv := fun x => .bool x4.1) (MM := fun x => []) (ZZ := fun x => [row v1 3 (Rp.int .i64) x4.2]) F W SN Aa Aa (fun hL => Fb _ _ w (v1) p0 p1 p2 _ h3 hL) fun x a w F W => ?_
   have W : Stw ⟨Y, X, w0⟩ [] [row v1 3 (Rp.int .i64) x4.2] w := W
   refine Ae (Ab ?_)
   refine Aw F Aa (fun hb => ?_) fun hb => ?_
   ·
    have H := AL hb H
    rw [hb] at F
    clear hb
    refine wp_ret (AG (AO (AG (AO ?_))))
    have H := L2 _ H
    have H := L1 _ H
    have H := AM H
    subst H
    refine Ic (.inl Aa) F Aa ?_
    exact ⟨(), Aa, W⟩
   have H := AK (by rw [hb]; decide) H
   rw [hb] at F
   clear hb
   refine wp_skip (Ab ?_)
   exact ⟨_, H, F.re ⟨rfl, Aa, Aa, Aa, Aa, Aa, Aa, Aa, trivial⟩, W⟩
  have H := AK (A7 hb) H
  rw [hb] at F
  clear hb
  refine wp_skip (Ab ?_)
  exact ⟨_, H, F.re ⟨rfl, Aa, Aa, Aa, Aa, Aa, Aa, Aa, trivial⟩, W⟩
 rintro a w ⟨x3, hj, F, W⟩
 have H := K2 _ hj
 clear hj G2 K2 L2
 refine Ah ?_
 obtain ⟨o3, G3, K3⟩ := Al H
 refine AC (fun a w => ∃ x5 : Bool, some (x5) = some o3 ∧ Fr 134 [] [(0, v1), (1, .int .i64 p1), (2, .int .i64 p2), (3, .int .i64 p3), (8, .bool true), (9, .bool true), (10, .int .i64 (AA (p2 - p1))), (11, .int .i64 x2.1), (87, .bool x5)] a ∧ Stw ⟨Y, X, w0⟩ [] [row v1 3 (Rp.int .i64) x3] w) ?_ ?_
 ·
  have H := G3
  clear G3 K3
  refine BB W MO (by kernel_rfl) ?_
  refine qs F Aa (Ad F Aa).q fun a F => ?_
  refine qs F Aa (DZ F Aa Aa).q fun a F => ?_
  refine qs F Aa (Ad F Aa).q fun a F => ?_
  rcases Bool.eq_false_or_eq_true (decide (0 < p1)) with hb | hb
  ·
   have H := AL (A6 hb) H
   rw [hb] at F
   clear hb
   iterate 2 refine Bf F (Ag F Aa Aa Aa Aa) Aa (Ak Aa) (Ad F Aa).q fun a F => ?_
   refine Bf F (Ag F Aa Aa Aa Aa) Aa (Ak Aa) (B5 F Aa Aa Aa).q fun a F => ?_
   obtain ⟨x6, h4, H⟩ := Al H
   refine Bf F (Ag F Aa Aa Aa Aa) Aa (Ak Aa) (Ay (r := (Rp.int .i64)) Eo F Aa Aa (Ao 0 Aa) h4).q fun a F => ?_
   refine Bf F (Ag F Aa Aa Aa Aa) Aa (Ak Aa) (Ap (y := Value.int .i64 x6) (j := 0) (i := AA (p1 - 1)) F Aa Aa (Ao 0 Aa) h4 Fl.int.to T3 Aa).q fun a F => ?_
   iterate 2 refine Bf F (Ag F Aa Aa Aa Aa) Aa (Ak Aa) (Ad F Aa).q fun a F => ?_
   obtain ⟨x7, h5, H⟩ := Al H
   refine Bf F (Ag F Aa Aa Aa Aa) Aa (Ak Aa) (Ay (r := (Rp.int .i64)) Eo F Aa Aa (Ao 0 Aa) h5).q fun a F => ?_
   refine Bf F (Ag F Aa Aa Aa Aa) Aa (Ak Aa) (Ap (y := Value.int .i64 x7) (j := 0) (i := x2.1) F Aa Aa (Ao 0 Aa) h5 Fl.int.to T3 Aa).q fun a F => ?_
   refine Bf F (Ag F Aa Aa Aa Aa) Aa (Ak Aa) (BH (v := Value.bool (Cq x6 x7)) F Pm Aa (fun w W => EK any w x6 x7 _ Aa)) fun a F => ?_
   refine Bf F (Ag F Aa Aa Aa Aa) Aa (Ak Aa) (Dt F Aa).q fun a F => ?_
   refine qs F Aa (Aq F Aa Aa Aa).q fun a F => ?_
   refine AR fun w W => ?_
   refine Ab ?_
   exact ⟨_, H, F.re ⟨rfl, Aa, Aa, Aa, Aa, Aa, Aa, Aa, Aa, trivial⟩, W⟩
  have H := AK (A7 hb) H
  rw [hb] at F
  clear hb
  iterate 11 refine El F (Dm F Aa Aa Aa Aa Aa) Aa Aa fun a F => ?_
  refine qs F Aa (Au F Aa Aa Aa).q fun a F => ?_
  refine AR fun w W => ?_
  refine Ab ?_
  exact ⟨_, H, F.re ⟨rfl, Aa, Aa, Aa, Aa, Aa, Aa, Aa, Aa, trivial⟩, W⟩
 rintro a w ⟨x5, hj, F, W⟩
 have hj := AM hj
 subst hj
 have H := K3
 clear G3 K3
 exact nomatch H
theorem UW : Has Try.prog 82 := ⟨fun args w => An Try.func82 rfl (by decide) args w⟩
noncomputable def CK (p0 : List Int) : Option (List Int) := (DD (IntKind.u64.wrap (p0.length : Int))).bind fun x1 => (Cr p0 0 (p0.length : Int) x1).bind fun x2 => some x2
theorem GL (Y : Nat → Prop) (X : List Nat) (w0 : World) (v1 : Value) (p0 : List Int) (r : List Int) (H : CK p0 = some r) (hL : Stw ⟨Y, X, w0⟩ [] [row v1 3 (Rp.int .i64) p0] w0) :
    Calls Try.prog 59 #[v1] w0 fun e w' => ∃ x : Unit, e = .returned (.tuple #[]) ∧ Stw ⟨Y, X, w0⟩ [] [row v1 3 (Rp.int .i64) r] w' := by
 refine enter Try.func59 Aa Try.ntmps59 Aa fun a F => ?_
 have W := hL
 unfold CK at H
 refine Ah (Ac ?_)
 refine ls F W Aa (Ad F Aa).q fun a w F W => ?_
 refine ls F W Aa (BP (r := (Rp.int .i64)) (l := p0) Hm Aa F Aa (Ao 0 Aa)).q fun a w F W => ?_
 refine ls F W Aa (Af F Aa).q fun a w F W => ?_
 refine Ae (Ab (Ac ?_))
 iterate 3 refine ls F W Aa (Ad F Aa).q fun a w F W => ?_
 refine ls F W Aa (IV Oj OY F Aa).q fun a w F W => ?_
 obtain ⟨x1, h1, H⟩ := Al H
 refine ls F W Aa (BH (v := Value.int .i64 x1) F SQ Aa (fun w W => Hx any w (IntKind.u64.wrap (p0.length : Int)) _ h1)) fun a w F W => ?_
 obtain ⟨x2, h2, H⟩ := Al H
 refine Bp (Ml := []) (Zl := [row v1 3 (Rp.int .i64) p0]) (M := []) (Z := []) (β := Unit) (rv := fun x => .tuple #[]) (MM := fun x => []) (ZZ := fun x => [row v1 3 (Rp.int .i64) x2]) F W UW Aa Aa (fun hL => HR _ _ w (v1) p0 0 (p0.length : Int) x1 _ h2 hL) fun x a w F W => ?_
 have W : Stw ⟨Y, X, w0⟩ [] [row v1 3 (Rp.int .i64) x2] w := W
 refine Ae ?_
 have H := AM H
 subst H
 refine Ic (.inr Aa) F Aa ?_
 exact ⟨(), Aa, W⟩
theorem TL : Has Try.prog 59 := ⟨fun args w => An Try.func59 rfl (by decide) args w⟩
noncomputable def B7 (p0 : List Int) (x1 : Int) : (List Int × Int × Int) → Option ((List Int × Int × Int) ⊕ (List Int × Int))
  | (x7, x8, x9) => (IL x7 x1 (p0.length : Int)).bind fun x10 => (if x9 < (x10.length : Int) then ((ix x10 x9).bind fun x13 => (ix x10 (AA (x9 - 1))).bind fun x14 => (if x13 ≠ x14 then (ix x10 x9).bind fun x15 => (ix x7 x8).bind fun x16 => some ((AQ x7 x8 x15), AA (x8 + 1)) else some (x7, x8))).bind fun (x11, x12) => some (.inl (x11, x12, AA (x9 + 1))) else some (.inr (x7, x8)))
noncomputable def BQ (p0 : List Int) : Int → Option (Int ⊕ (Unit ⊕ (List Int)))
  | x1 => (if x1 < (p0.length : Int) then E6 ((ix p0 x1).bind fun x2 => (ix p0 (AA (x1 - 1))).bind fun x3 => (if x2 = x3 then (IL p0 x1 (p0.length : Int)).bind fun x4 => (AE (B7 p0 x1) (p0, x1, 1)).bind fun (x5, x6) => (IL x5 x6 (x5.length : Int)).bind fun x17 => (RB x5 x6 (List.replicate (x17.length) (0 : Int))).bind fun x18 => (IL x18 0 x6).bind fun x19 => some (.inr (.inr (.inr x19))) else some (.inl ()))) fun _ => some (.inl (AA (x1 + 1))) else some (.inr (.inl ())))
noncomputable def Cv (p0 : List Int) : Option (List Int) := (if (p0.length : Int) < 2 then some p0 else E6 (AE (BQ p0) 1) fun _ => some p0)
theorem F0 (Y : Nat → Prop) (X : List Nat) (w0 : World) (v1 : Value) (p0 : List Int) (r : List Int) (H : Cv p0 = some r) (hL : Stw ⟨Y, X, w0⟩ [] [row v1 3 (Rp.int .i64) p0] w0) :
    Calls Try.prog 60 #[v1] w0 fun e w' => ∃ x : Value, e = .returned (x) ∧ Stw ⟨Y, X, w0⟩ [] [row (x) 3 (Rp.int .i64) r] w' := by
 refine enter Try.func60 Aa Try.ntmps60 Aa fun a F => ?_
 have W := hL
 unfold Cv at H
 refine Ah (Ac ?_)
 refine ls F W Aa (Af F Aa).q fun a w F W => ?_
 refine Ae (Ab (Ah (Ah (Ac ?_))))
 refine ls F W Aa (Ad F Aa).q fun a w F W => ?_
 refine ls F W Aa (BP (r := (Rp.int .i64)) (l := p0) Hm Aa F Aa (Ao 0 Aa)).q fun a w F W => ?_
 refine ls F W Aa (Bk F Aa Aa).q fun a w F W => ?_
 refine Ae (Ab ?_)
 refine Aw F Aa (fun hb => ?_) fun hb => ?_
 ·
  have H := AL (A6 hb) H
  rw [hb] at F
  clear hb
  refine Ah (Ac ?_)
  refine ls F W Aa (Ad F Aa).q fun a w F W => ?_
  refine ls F W Aa (Af F Aa).q fun a w F W => ?_
  refine Ae (Ab (wp_ret (AG ?_)))
  have H := AM H
  subst H
  refine Bl (.inl Aa) F W Aa (Av F Aa) ?_
  exact ⟨(v1), Aa, W⟩
 have H := AK (A7 hb) H
 rw [hb] at F
 clear hb
 refine wp_skip (Ab ?_)
 obtain ⟨o1, G1, K1, L1⟩ := Jb H
 refine AC (fun a w => some (Sum.inl ()) = some o1 ∧ Fr 61 [] [(0, v1), (2, .slice none 0 0)] a ∧ Stw ⟨Y, X, w0⟩ [] [row v1 3 (Rp.int .i64) p0] w) ?_ ?_
 ·
  have H := G1
  clear G1 K1
  refine Ah (Ac ?_)
  refine ls F W Aa (Af F Aa).q fun a w F W => ?_
  refine Ae (Ab (wp_block ?_))
  refine A1 H (fun s a w => Fr 61 [] [(0, v1), (2, .slice none 0 0), (3, .int .i64 s)] a ∧ Stw ⟨Y, X, w0⟩ [] [row v1 3 (Rp.int .i64) p0] w) ⟨F.re ⟨rfl, Aa, Aa, trivial⟩, W⟩ fun s o a w H L2 hR => ?_
  obtain ⟨x1, rfl⟩ : ∃ x, x = s := ⟨s, rfl⟩
  obtain ⟨F, W⟩ := hR
  have F : Fr 61 [] [(0, v1), (2, .slice none 0 0), (3, .int .i64 x1)] a := F
  have W : Stw ⟨Y, X, w0⟩ [] [row v1 3 (Rp.int .i64) p0] w := W
  rw [BQ] at H
  refine Ah (Ah (Ac ?_))
  iterate 2 refine ls F W Aa (Ad F Aa).q fun a w F W => ?_
  refine ls F W Aa (BP (r := (Rp.int .i64)) (l := p0) Hm Aa F Aa (Ao 0 Aa)).q fun a w F W => ?_
  refine ls F W Aa (Bk F Aa Aa).q fun a w F W => ?_
  refine Ae (Ab ?_)
  refine Aw F Aa (fun hb => ?_) fun hb => ?_
  ·
   have H := AL (A6 hb) H
   rw [hb] at F
   clear hb
   refine wp_skip (Ab ?_)
   obtain ⟨o3, G3, K3, L3⟩ := Jb H
   refine AC (fun a w => some (Sum.inl ()) = some o3 ∧ Fr 61 [] [(0, v1), (2, .slice none 0 0), (3, .int .i64 x1)] a ∧ Stw ⟨Y, X, w0⟩ [] [row v1 3 (Rp.int .i64) p0] w) ?_ ?_
   ·
    have H := G3
    clear G3 K3
    refine wp_block (Ah ?_)
    refine BB W MO (by kernel_rfl) ?_
    iterate 2 refine qs F Aa (Ad F Aa).q fun a F => ?_
    obtain ⟨x2, h1, H⟩ := Al H
    refine qs F Aa (Ay (r := (Rp.int .i64)) Eo F Aa Aa (Ao 0 Aa) h1).q fun a F => ?_
    refine qs F Aa (Ap (y := Value.int .i64 x2) (j := 0) (i := x1) F Aa Aa (Ao 0 Aa) h1 Fl.int.to T3 Aa).q fun a F => ?_
    iterate 2 refine qs F Aa (Ad F Aa).q fun a F => ?_
    refine qs F Aa (B5 F Aa Aa Aa).q fun a F => ?_
    obtain ⟨x3, h2, H⟩ := Al H
    refine qs F Aa (Ay (r := (Rp.int .i64)) Eo F Aa Aa (Ao 0 Aa) h2).q fun a F => ?_
    refine qs F Aa (Ap (y := Value.int .i64 x3) (j := 0) (i := AA (x1 - 1)) F Aa Aa (Ao 0 Aa) h2 Fl.int.to T3 Aa).q fun a F => ?_
    refine qs F Aa (Cy F Aa Aa).q fun a F => ?_
    refine AR fun w W => ?_
    refine Ab ?_
    refine Aw F Aa (fun hb => ?_) fun hb => ?_
    ·
     have H := AL (A6 hb) H
     rw [hb] at F
     clear hb
     refine Ah (Ac ?_)
     iterate 2 refine ls F W Aa (Ad F Aa).q fun a w F W => ?_
     obtain ⟨x4, h3, H⟩ := Al H
     refine ls F W Aa (Ni (r := (Rp.int .i64)) Eo F Aa Aa Aa (Ao 0 Aa) h3).q fun a w F W => ?_
     refine ls F W Aa (Af F Aa).q fun a w F W => ?_
     refine Ae (Ab ?_)
     obtain ⟨o4, G4, K4⟩ := Al H
     refine AC (fun a w => ∃ x5 : List Int, ∃ x6 : Int, some ((x5, x6)) = some o4 ∧ Fr 61 [] [(0, v1), (2, .slice none 0 0), (3, .int .i64 x6)] a ∧ Stw ⟨Y, X, w0⟩ [] [row v1 3 (Rp.int .i64) x5] w) ?_ ?_
     ·
      have H := G4
      clear G4 K4
      refine Ah (Ac ?_)
      refine ls F W Aa (Af F Aa).q fun a w F W => ?_
      refine Ae (Ab (wp_block ?_))
      refine A1 H (fun s a w => Fr 61 [] [(0, v1), (2, .slice none 0 0), (3, .int .i64 s.2.1), (4, (Ed v1 x1 (p0.length : Int) 1)), (5, .int .i64 s.2.2)] a ∧ Stw ⟨Y, X, w0⟩ [] [row v1 3 (Rp.int .i64) s.1] w) ⟨F.re ⟨rfl, Aa, Aa, Aa, Aa, trivial⟩, W⟩ fun s o a w H L5 hR => ?_
      obtain ⟨x7, x8, x9⟩ := s
      obtain ⟨F, W⟩ := hR
      have F : Fr 61 [] [(0, v1), (2, .slice none 0 0), (3, .int .i64 x8), (4, (Ed v1 x1 (p0.length : Int) 1)), (5, .int .i64 x9)] a := F
      have W : Stw ⟨Y, X, w0⟩ [] [row v1 3 (Rp.int .i64) x7] w := W
      rw [B7] at H
      refine Ah (Ah (Ac ?_))
      iterate 2 refine ls F W Aa (Ad F Aa).q fun a w F W => ?_
      obtain ⟨x10, h4, H⟩ := Al H
      refine ls F W Aa (BP (r := (Rp.int .i64)) (l := x10) Hm Aa F Aa (I3 (Ao 0 Aa) h4)).q fun a w F W => ?_
      refine ls F W Aa (Bk F Aa Aa).q fun a w F W => ?_
      refine Ae (Ab ?_)
      refine Aw F Aa (fun hb => ?_) fun hb => ?_
      ·
       have H := AL (A6 hb) H
       rw [hb] at F
       clear hb
       refine wp_skip (Ab ?_)
       obtain ⟨o6, G6, K6⟩ := Al H
       refine AC (fun a w => ∃ x11 : List Int, ∃ x12 : Int, some ((x11, x12)) = some o6 ∧ Fr 61 [] [(0, v1), (2, .slice none 0 0), (3, .int .i64 x12), (4, (Ed v1 x1 (p0.length : Int) 1)), (5, .int .i64 x9)] a ∧ Stw ⟨Y, X, w0⟩ [] [row v1 3 (Rp.int .i64) x11] w) ?_ ?_
       ·
        have H := G6
        clear G6 K6
        refine wp_block (Ah ?_)
        refine BB W MO (by kernel_rfl) ?_
        iterate 2 refine qs F Aa (Ad F Aa).q fun a F => ?_
        obtain ⟨x13, h5, H⟩ := Al H
        refine qs F Aa (Ay (r := (Rp.int .i64)) Eo F Aa Aa (I3 (Ao 0 Aa) h4) h5).q fun a F => ?_
        refine qs F Aa (Ap (y := Value.int .i64 x13) (j := 0) (i := x9) F Aa Aa (I3 (Ao 0 Aa) h4) h5 Fl.int.to T3 Aa).q fun a F => ?_
        iterate 2 refine qs F Aa (Ad F Aa).q fun a F => ?_
        refine qs F Aa (B5 F Aa Aa Aa).q fun a F => ?_
        obtain ⟨x14, h6, H⟩ := Al H
        refine qs F Aa (Ay (r := (Rp.int .i64)) Eo F Aa Aa (I3 (Ao 0 Aa) h4) h6).q fun a F => ?_
        refine qs F Aa (Ap (y := Value.int .i64 x14) (j := 0) (i := AA (x9 - 1)) F Aa Aa (I3 (Ao 0 Aa) h4) h6 Fl.int.to T3 Aa).q fun a F => ?_
        refine qs F Aa (Fe F Aa Aa).q fun a F => ?_
        refine AR fun w W => ?_
        refine Ab ?_
        refine Aw F Aa (fun hb => ?_) fun hb => ?_
        ·
         have H := AL (A6 hb) H
         rw [hb] at F
         clear hb
         refine Ah (Ac ?_)
         iterate 4 refine ls F W Aa (Ad F Aa).q fun a w F W => ?_
         obtain ⟨x15, h7, H⟩ := Al H
         refine ls F W Aa (Ay (r := (Rp.int .i64)) Eo F Aa Aa (I3 (Ao 0 Aa) h4) h7).q fun a w F W => ?_
         refine ls F W Aa (Ap (y := Value.int .i64 x15) (j := 0) (i := x9) F Aa Aa (I3 (Ao 0 Aa) h4) h7 Fl.int.to T3 Aa).q fun a w F W => ?_
         obtain ⟨x16, h8, H⟩ := Al H
         refine ls F W Aa (Ay (r := (Rp.int .i64)) Eo F Aa Aa (Ao 0 Aa) h8).q fun a w F W => ?_
         refine Bh (i := x8) (j := 0) (vs := [.int .i64 x15]) (x' := x15) F W Aa Aa Aa (k := 0) Aa Aa h8 T3 Aa Aa Aa Aa (fun A cs _ => Fl.int.sto (by rfl) _ _ _) fun w W => ?_
         refine Ae (Ab (Ac ?_))
         refine ls F W Aa (Ad F Aa).q fun a w F W => ?_
         refine ls F W Aa (A3 F Aa Aa Aa).q fun a w F W => ?_
         refine ls F W Aa (Af F Aa).q fun a w F W => ?_
         refine Ae (AH (Ab ?_))
         exact ⟨_, _, H, F.re ⟨rfl, Aa, Aa, Aa, Aa, trivial⟩, W⟩
        have H := AK (A7 hb) H
        rw [hb] at F
        clear hb
        refine wp_skip (AH (Ab ?_))
        exact ⟨_, _, H, F.re ⟨rfl, Aa, Aa, Aa, Aa, trivial⟩, W⟩
       rintro a w ⟨x11, x12, hj, F, W⟩
       have hj := AM hj
       subst hj
       have H := K6
       clear G6 K6
       refine Ac ?_
       refine ls F W Aa (Ad F Aa).q fun a w F W => ?_
       refine ls F W Aa (A3 F Aa Aa Aa).q fun a w F W => ?_
       refine ls F W Aa (Af F Aa).q fun a w F W => ?_
       refine Ae (Ab ?_)
       exact ⟨_, H, F.re ⟨rfl, Aa, Aa, Aa, Aa, trivial⟩, W⟩
      have H := AK (A7 hb) H
      rw [hb] at F
      clear hb
      refine wp_exit ?_
      iterate 2 refine A5 ?_
      refine AU (Ab ?_)
      have H := L5 _ H
      exact ⟨_, _, H, F.re ⟨rfl, Aa, Aa, trivial⟩, W⟩
     rintro a w ⟨x5, x6, hj, F, W⟩
     have hj := AM hj
     subst hj
     have H := K4
     clear G4 K4
     refine Ah (Ac ?_)
     iterate 2 refine ls F W Aa (Ad F Aa).q fun a w F W => ?_
     obtain ⟨x17, h9, H⟩ := Al H
     refine ls F W Aa (Ni (r := (Rp.int .i64)) Eo F Aa Aa Aa (Ao 0 Aa) h9).q fun a w F W => ?_
     obtain ⟨x18, h10, H⟩ := Al H
     refine Q9 (r := (Rp.int .i64)) (v := v1) (k := 0) (0 : Int) F W Eo Z3 Aa Aa Aa h9 (fun w A => Fl.int.mk' w A (0 : Int)) h10 fun w W => ?_
     have W : Stw ⟨Y, X, w0⟩ [] [row v1 3 (Rp.int .i64) x18] w := W
     refine Ae (Ab (Ah (Ac ?_)))
     iterate 2 refine ls F W Aa (Ad F Aa).q fun a w F W => ?_
     obtain ⟨x19, h11, H⟩ := Al H
     refine ls F W Aa (Ni (r := (Rp.int .i64)) Eo F Aa Aa Aa (Ao 0 Aa) h11).q fun a w F W => ?_
     refine ls F W Aa (Af F Aa).q fun a w F W => ?_
     refine Ae (Ab (wp_ret (AO ?_)))
     iterate 2 refine AG ?_
     refine AO (AG ?_)
     have H := L3 _ H
     have H := L2 _ H
     have H := L1 _ H
     have H := AM H
     subst H
     refine Bl (.inl Aa) F W Aa (Av F Aa) ?_
     have W := W.subRow (k := 0) Aa Aa h11
     exact ⟨((Ed v1 (0 : Int) x6 1)), Aa, W⟩
    have H := AK (A7 hb) H
    rw [hb] at F
    clear hb
    refine wp_skip (AH (Ab ?_))
    exact ⟨H, F.re ⟨rfl, Aa, Aa, trivial⟩, W⟩
   rintro a w ⟨hj, F, W⟩
   have H := K3 _ hj
   clear hj G3 K3 L3
   refine Ac ?_
   refine ls F W Aa (Ad F Aa).q fun a w F W => ?_
   refine ls F W Aa (A3 F Aa Aa Aa).q fun a w F W => ?_
   refine ls F W Aa (Af F Aa).q fun a w F W => ?_
   refine Ae (Ab ?_)
   exact ⟨_, H, F.re ⟨rfl, Aa, Aa, trivial⟩, W⟩
  have H := AK (A7 hb) H
  rw [hb] at F
  clear hb
  refine wp_exit ?_
  iterate 2 refine A5 ?_
  refine AU (Ab ?_)
  have H := L2 _ H
  exact ⟨H, F.re ⟨rfl, Aa, trivial⟩, W⟩
 rintro a w ⟨hj, F, W⟩
 have H := K1 _ hj
 clear hj G1 K1 L1
 refine Ah (Ac ?_)
 refine ls F W Aa (Ad F Aa).q fun a w F W => ?_
 refine ls F W Aa (Af F Aa).q fun a w F W => ?_
 refine Ae (Ab (wp_ret ?_))
 have H := AM H
 subst H
 refine Bl (.inl Aa) F W Aa (Av F Aa) ?_
 exact ⟨(v1), Aa, W⟩
theorem TA : Has Try.prog 60 := ⟨fun args w => An Try.func60 rfl (by decide) args w⟩
noncomputable def DX (p0 : List Int) : Option (List Int) := (CK p0).bind fun x1 => (Cv x1).bind fun x2 => some x2
theorem Kf (Y : Nat → Prop) (X : List Nat) (w0 : World) (v1 : Value) (p0 : List Int) (r : List Int) (H : DX p0 = some r) (hL : Stw ⟨Y, X, w0⟩ [] [row v1 3 (Rp.int .i64) p0] w0) :
    Calls Try.prog 56 #[v1] w0 fun e w' => ∃ x : Value, e = .returned (x) ∧ Stw ⟨Y, X, w0⟩ [] [row (x) 3 (Rp.int .i64) r] w' := by
 refine enter Try.func56 Aa Try.ntmps56 Aa fun a F => ?_
 have W := hL
 unfold DX at H
 refine Ah (Ac ?_)
 refine ls F W Aa (Af F Aa).q fun a w F W => ?_
 refine Ae (Ab (Ah (Ac ?_)))
 refine ls F W Aa (Ad F Aa).q fun a w F W => ?_
 obtain ⟨x1, h1, H⟩ := Al H
 refine Bp (Ml := []) (Zl := [row v1 3 (Rp.int .i64) p0]) (M := []) (Z := []) (β := Unit) (rv := fun x => .tuple #[]) (MM := fun x => []) (ZZ := fun x => [row v1 3 (Rp.int .i64) x1]) F W TL Aa Aa (fun hL => GL _ _ w (v1) p0 _ h1 hL) fun x a w F W => ?_
 have W : Stw ⟨Y, X, w0⟩ [] [row v1 3 (Rp.int .i64) x1] w := W
 refine Ae (Ab (Ah (Ac ?_)))
 refine ls F W Aa (Ad F Aa).q fun a w F W => ?_
 obtain ⟨x2, h2, H⟩ := Al H
 refine Bp (Ml := []) (Zl := [row v1 3 (Rp.int .i64) x1]) (M := []) (Z := []) (β := Value) (rv := fun x => x) (MM := fun x => []) (ZZ := fun x => [row x 3 (Rp.int .i64) x2]) F W TA Aa Aa (fun hL => F0 _ _ w (v1) x1 _ h2 hL) fun x a w F W => ?_
 obtain ⟨v2, rfl⟩ : ∃ y, y = x := ⟨x, rfl⟩
 have W : Stw ⟨Y, X, w0⟩ [] [row v2 3 (Rp.int .i64) x2] w := W
 refine ls F W Aa (Af F Aa).q fun a w F W => ?_
 refine Ae (Ab (wp_ret ?_))
 have H := AM H
 subst H
 refine Bl (.inl Aa) F W Aa (Av F Aa) ?_
 exact ⟨(v2), Aa, W⟩
theorem UC : Has Try.prog 56 := ⟨fun args w => An Try.func56 rfl (by decide) args w⟩
noncomputable def Dq (p0 : List (Int × Int × Int × Int)) : (List Int × Int) → Option ((List Int × Int) ⊕ (List Int))
  | (x2, x3) => (if x3 < (p0.length : Int) then (ix p0 x3).bind fun x4 => (JN x2 ([x4.2.2.2] : List Int)).bind fun x5 => some (.inl (x5, AA (x3 + 1))) else some (.inr x2))
noncomputable def EU (p0 : List (Int × Int × Int × Int)) : Option (List Int) := (AE (Dq p0) ([], 0)).bind fun x1 => (DX x1).bind fun x6 => some x6
theorem LV (Y : Nat → Prop) (w0 : World) (v1 : Value) (p0 : List (Int × Int × Int × Int)) (r : List Int) (H : EU p0 = some r) (h_v1 : Sl w0 (NX []) A8 v1 p0) :
    Calls Try.prog 40 #[v1] w0 fun e w' => ∃ x : Value, e = .returned (x) ∧ Stw ⟨Y, [], w0⟩ [] [row (x) 3 (Rp.int .i64) r] w' := by
 refine enter Try.func40 Aa Try.ntmps40 Aa fun a F => ?_
 have W := Stw.start Y w0
 unfold EU at H
 refine Ah (Ac ?_)
 refine ls F W Aa (Af F Aa).q fun a w F W => ?_
 refine Ae (Ab (Ah (Ac ?_)))
 refine ls F W Aa (Af F Aa).q fun a w F W => ?_
 refine Ae (Ab ?_)
 obtain ⟨o1, G1, K1⟩ := Al H
 refine AC (fun a w => ∃ x1 : List Int, ∃ v2 : Value, some (x1) = some o1 ∧ Fr 20 [] [(2, .slice none 0 0), (3, v2)] a ∧ Stw ⟨Y, [], w0⟩ [] [row v2 3 (Rp.int .i64) x1] w) ?_ ?_
 ·
  have H := G1
  clear G1 K1
  refine Ah (Ac ?_)
  refine ls F W Aa (Ad F Aa).q fun a w F W => ?_
  refine ls F W Aa (BP (r := A8) (l := p0) Nc Aa F Aa (Am h_v1)).q fun a w F W => ?_
  refine ls F W Aa (Ad F Aa).q fun a w F W => ?_
  refine Ae (Ab (wp_block ?_))
  have W := W.nilRow 3 (Rp.int .i64)
  refine A1 H (fun s a w => ∃ v3 : Value, Fr 20 [] [(2, .slice none 0 0), (3, v3), (6, v1), (7, .int .i64 (p0.length : Int)), (8, .int .i64 s.2)] a ∧ Stw ⟨Y, [], w0⟩ [] [row v3 3 (Rp.int .i64) s.1] w) ⟨(Value.slice none 0 0), F.re ⟨rfl, Aa, Aa, Aa, Aa, trivial⟩, W⟩ fun s o a w H L2 hR => ?_
  obtain ⟨x2, x3⟩ := s
  obtain ⟨v3, F, W⟩ := hR
  have F : Fr 20 [] [(2, .slice none 0 0), (3, v3), (6, v1), (7, .int .i64 (p0.length : Int)), (8, .int .i64 x3)] a := F
  have W : Stw ⟨Y, [], w0⟩ [] [row v3 3 (Rp.int .i64) x2] w := W
  rw [Dq] at H
  refine Ah (Ac ?_)
  refine ls F W Aa (Bk F Aa Aa).q fun a w F W => ?_
  refine Ae (Ab (Ah ?_))
  refine Aw F Aa (fun hb => ?_) fun hb => ?_
  ·
   have H := AL (A6 hb) H
   rw [hb] at F
   clear hb
   refine wp_skip (Ab (Ah (wp_block (Ah (Ac ?_)))))
   obtain ⟨x4, h1, H⟩ := Al H
   refine ls F W Aa (Ay (r := A8) Eb F Aa Aa (Am h_v1) h1).q fun a w F W => ?_
   refine ls F W Aa (Ap (y := Value.agg #[.int .i64 x4.1, .int .i64 x4.2.1, .int .i64 x4.2.2.1, .int .i64 x4.2.2.2]) (j := 0) (i := x3) F Aa Aa (Am h_v1) h1 Ek.to Ec Aa).q fun a w F W => ?_
   refine Cn (cs := [.int .i64 0, .int .i64 0, .int .i64 0, .int .i64 0]) F W Aa R1 Aa fun b1 a w F W => ?_
   refine Br (vs := [.int .i64 x4.1, .int .i64 x4.2.1, .int .i64 x4.2.2.1, .int .i64 x4.2.2.2]) (M' := [(b1, [.int .i64 x4.1, .int .i64 x4.2.1, .int .i64 x4.2.2.1, .int .i64 x4.2.2.2])]) 0 F W Aa Aa Aa Ec Aa Aa Aa Aa Aa fun w W => ?_
   refine Ae (Ab (Ac ?_))
   refine ls F W Aa (Ad F Aa).q fun a w F W => ?_
   refine ls F W Aa (Ai JS Aa Aa Aa T3 F Aa 3 Aa).q fun a w F W => ?_
   refine ls F W Aa (As (v := Value.int .i64 x4.2.2.2) 0 F Aa Aa T3 Aa).q fun a w F W => ?_
   refine EA (z := Value.int .i64 0) (cs := [.int .i64 x4.2.2.2]) (Rp.int .i64) ([x4.2.2.2] : List Int) F W Aa Eo Z3 Aa Aa Aa Aa Aa Aa (Fl.int.repL _ _ ([x4.2.2.2] : List Int)) fun v4 a w F W => ?_
   obtain ⟨x5, h2, H⟩ := Al H
   refine DY (r := (Rp.int .i64)) (i := 1) F W Aa Eo Aa Aa Aa Aa (EI W 0 Aa) h2 Aa fun v5 a w F W => ?_
   have W : Stw ⟨Y, [], w0⟩ [(b1, [.int .i64 x4.1, .int .i64 x4.2.1, .int .i64 x4.2.2.1, .int .i64 x4.2.2.2])] [row v5 3 (Rp.int .i64) x5, row v4 3 (Rp.int .i64) ([x4.2.2.2] : List Int)] w := W
   refine ls F W Aa (Af F Aa).q fun a w F W => ?_
   refine Ae (AH (Ab (Ac ?_)))
   refine ls F W Aa (A3 F Aa Aa Aa).q fun a w F W => ?_
   refine ls F W Aa (Ad F Aa).q fun a w F W => ?_
   refine Ae (Ab ?_)
   have W := W.sub (M' := []) (Z' := [row v5 3 (Rp.int .i64) x5]) (List.nil_sublist _) (List.Sublist.cons_cons _ (List.nil_sublist _))
   exact ⟨_, H, (v5), F.re ⟨rfl, Aa, Aa, Aa, Aa, trivial⟩, W⟩
  have H := AK (A7 hb) H
  rw [hb] at F
  clear hb
  refine wp_exit ?_
  iterate 2 refine A5 ?_
  refine AU (Ab ?_)
  have H := L2 _ H
  exact ⟨_, (v3), H, F.re ⟨rfl, Aa, trivial⟩, W⟩
 rintro a w ⟨x1, v2, hj, F, W⟩
 have hj := AM hj
 subst hj
 have H := K1
 clear G1 K1
 refine Ah (Ac ?_)
 refine ls F W Aa (Ad F Aa).q fun a w F W => ?_
 obtain ⟨x6, h3, H⟩ := Al H
 refine Bp (Ml := []) (Zl := [row v2 3 (Rp.int .i64) x1]) (M := []) (Z := []) (β := Value) (rv := fun x => x) (MM := fun x => []) (ZZ := fun x => [row x 3 (Rp.int .i64) x6]) F W UC Aa Aa (fun hL => Kf _ _ w (v2) x1 _ h3 hL) fun x a w F W => ?_
 obtain ⟨v6, rfl⟩ : ∃ y, y = x := ⟨x, rfl⟩
 have W : Stw ⟨Y, [], w0⟩ [] [row v6 3 (Rp.int .i64) x6] w := W
 refine ls F W Aa (Af F Aa).q fun a w F W => ?_
 refine Ae (Ab (wp_ret ?_))
 have H := AM H
 subst H
 refine Bl (.inl Aa) F W Aa (Av F Aa) ?_
 exact ⟨(v6), Aa, W⟩
theorem GR : type_of% Try.underlying33 := Try.underlying33
theorem SA : (Try.prog.info? 33).bind (·.zero) = some (.agg #[.slice none 0 0, .slice none 0 0, .int .i64 0, .int .i64 0, .int .i64 0, .int .i64 0]) := by kernel_rfl
theorem Se : Bt Try.prog 33 [.slice none 0 0, .slice none 0 0, .int .i64 0, .int .i64 0, .int .i64 0, .int .i64 0] [(0, 1), (1, 1), (2, 1), (3, 1), (4, 1), (5, 1)] := ⟨⟨.agg #[.slice none 0 0, .slice none 0 0, .int .i64 0, .int .i64 0, .int .i64 0, .int .i64 0], by kernel_rfl, rfl⟩, ⟨_, GR, fun w => by kernel_rfl⟩⟩
theorem N9 : Ty Try.prog 33 true 6 := ⟨by kernel_rfl, by kernel_rfl⟩
theorem T6 : Has Try.prog 21 := ⟨fun args w => An Try.func21 rfl (by decide) args w⟩
noncomputable def Cs (p0 : Int × (List (Int × Int × Int × Int × Int × Int)) × (List (Int × Int))) : (Int × Int) → Option ((Int × Int) ⊕ Int)
  | (x2, x3) => (if x3 < (p0.2.1.length : Int) then (ix p0.2.1 x3).bind fun x4 => some (.inl (max x2 x4.2.2.2.2.2, AA (x3 + 1))) else some (.inr x2))
noncomputable def DH (p0 : Int × (List (Int × Int × Int × Int × Int × Int)) × (List (Int × Int))) : Option Int := (AE (Cs p0) (0, 0)).bind fun x1 => some x1
theorem Mo (Y : Nat → Prop) (w0 : World) (v1 : Value) (v2 : Value) (p0 : Int × (List (Int × Int × Int × Int × Int × Int)) × (List (Int × Int))) (r : Int) (H : DH p0 = some r) (h_v1 : Sl w0 (NX []) FM v1 p0.2.1) (h_v2 : Sl w0 (NX []) FD v2 p0.2.2) :
    Calls Try.prog 28 #[.agg #[.int .i64 p0.1, v1, v2]] w0 fun e w' => e = .returned (.int .i64 r) ∧ Below w0.heap.size w0 w' := by
 refine enter Try.func28 Aa Try.ntmps28 Aa fun a F => ?_
 have W := Stw.start Y w0
 unfold DH at H
 refine Ah (Ac ?_)
 refine Dr (cs := [.int .i64 p0.1, v1, v2]) F W Aa Aa Aa fun b1 a w F W => ?_
 refine ls F W Aa (Af F Aa).q fun a w F W => ?_
 refine Ae (Ab (Ah (Ac ?_)))
 refine ls F W Aa (Af F Aa).q fun a w F W => ?_
 refine Ae (Ab ?_)
 obtain ⟨o1, G1, K1⟩ := Al H
 refine AC (fun a w => ∃ x1 : Int, some (x1) = some o1 ∧ Fr 19 [] [(2, .int .i64 0), (3, .int .i64 x1)] a ∧ Stw ⟨Y, [], w0⟩ [(b1, [.int .i64 p0.1, v1, v2])] [] w) ?_ ?_
 ·
  have H := G1
  clear G1 K1
  refine Ah (Ac ?_)
  refine ls F W Aa (Ai DM Aa Aa Aa JM F Aa 1 Aa).q fun a w F W => ?_
  refine ls F W Aa (As (v := v1) 0 F Aa Aa JM Aa).q fun a w F W => ?_
  refine ls F W Aa (BP (r := FM) (l := p0.2.1) Lz Aa F Aa (Am h_v1)).q fun a w F W => ?_
  refine ls F W Aa (Ad F Aa).q fun a w F W => ?_
  refine Ae (Ab (wp_block ?_))
  refine A1 H (fun s a w => Fr 19 [] [(2, .int .i64 0), (3, .int .i64 s.1), (7, v1), (8, .int .i64 (p0.2.1.length : Int)), (9, .int .i64 s.2)] a ∧ Stw ⟨Y, [], w0⟩ [(b1, [.int .i64 p0.1, v1, v2])] [] w) ⟨F.re ⟨rfl, Aa, Aa, Aa, Aa, trivial⟩, W⟩ fun s o a w H L2 hR => ?_
  obtain ⟨x2, x3⟩ := s
  obtain ⟨F, W⟩ := hR
  have F : Fr 19 [] [(2, .int .i64 0), (3, .int .i64 x2), (7, v1), (8, .int .i64 (p0.2.1.length : Int)), (9, .int .i64 x3)] a := F
  have W : Stw ⟨Y, [], w0⟩ [(b1, [.int .i64 p0.1, v1, v2])] [] w := W
  rw [Cs] at H
  refine Ah (Ac ?_)
  refine ls F W Aa (Bk F Aa Aa).q fun a w F W => ?_
  refine Ae (Ab (Ah ?_))
  refine Aw F Aa (fun hb => ?_) fun hb => ?_
  ·
   have H := AL (A6 hb) H
   rw [hb] at F
   clear hb
   refine wp_skip (Ab (Ah (wp_block (Ah (Ac ?_)))))
   obtain ⟨x4, h1, H⟩ := Al H
   refine ls F W Aa (Ay (r := FM) Qx F Aa Aa (Am h_v1) h1).q fun a w F W => ?_
   refine ls F W Aa (Ap (y := Value.agg #[.int .i64 x4.1, .int .i64 x4.2.1, .int .i64 x4.2.2.1, .int .i64 x4.2.2.2.1, .int .i64 x4.2.2.2.2.1, .int .i64 x4.2.2.2.2.2]) (j := 0) (i := x3) F Aa Aa (Am h_v1) h1 Qy.to PC Aa).q fun a w F W => ?_
   refine Cn (cs := [.int .i64 0, .int .i64 0, .int .i64 0, .int .i64 0, .int .i64 0, .int .i64 0]) F W Aa Rs Aa fun b2 a w F W => ?_
   refine Br (vs := [.int .i64 x4.1, .int .i64 x4.2.1, .int .i64 x4.2.2.1, .int .i64 x4.2.2.2.1, .int .i64 x4.2.2.2.2.1, .int .i64 x4.2.2.2.2.2]) (M' := [(b2, [.int .i64 x4.1, .int .i64 x4.2.1, .int .i64 x4.2.2.1, .int .i64 x4.2.2.2.1, .int .i64 x4.2.2.2.2.1, .int .i64 x4.2.2.2.2.2]), (b1, [.int .i64 p0.1, v1, v2])]) 0 F W Aa Aa Aa PC Aa Aa Aa Aa Aa fun w W => ?_
   refine Ae (Ab (Ac ?_))
   refine ls F W Aa (Ad F Aa).q fun a w F W => ?_
   refine ls F W Aa (Ai Ey Aa Aa Aa T3 F Aa 5 Aa).q fun a w F W => ?_
   refine ls F W Aa (As (v := Value.int .i64 x4.2.2.2.2.2) 0 F Aa Aa T3 Aa).q fun a w F W => ?_
   refine ls F W Aa (Sk F Aa Aa).q fun a w F W => ?_
   refine ls F W Aa (Af F Aa).q fun a w F W => ?_
   refine Ae (AH (Ab (Ac ?_)))
   refine ls F W Aa (A3 F Aa Aa Aa).q fun a w F W => ?_
   refine ls F W Aa (Ad F Aa).q fun a w F W => ?_
   refine Ae (Ab ?_)
   have W := W.frontM (i := 1) Aa Aa
   have W := W.sub (M' := [(b1, [.int .i64 p0.1, v1, v2])]) (Z' := []) (List.Sublist.cons_cons _ (List.nil_sublist _)) (List.Sublist.refl _)
   exact ⟨_, H, F.re ⟨rfl, Aa, Aa, Aa, Aa, trivial⟩, W⟩
  have H := AK (A7 hb) H
  rw [hb] at F
  clear hb
  refine wp_exit ?_
  iterate 2 refine A5 ?_
  refine AU (Ab ?_)
  have H := L2 _ H
  exact ⟨_, H, F.re ⟨rfl, Aa, trivial⟩, W⟩
 rintro a w ⟨x1, hj, F, W⟩
 have hj := AM hj
 subst hj
 have H := K1
 clear G1 K1
 refine Ah (Ac ?_)
 refine ls F W Aa (Ad F Aa).q fun a w F W => ?_
 refine ls F W Aa (Af F Aa).q fun a w F W => ?_
 refine Ae (Ab (wp_ret ?_))
 have H := AM H
 subst H
 refine Bl (.inl Aa) F W Aa (Av F Aa) ?_
 exact ⟨rfl, W.done⟩
theorem U8 : Has Try.prog 28 := ⟨fun args w => An Try.func28 rfl (by decide) args w⟩
noncomputable def FH (p0 : Int × (List (Int × Int × Int × Int × Int × Int)) × (List (Int × Int))) : Option Int := (DH p0).bind fun x1 => some (AA (p0.1 * x1))
theorem Lp (Y : Nat → Prop) (w0 : World) (v1 : Value) (v2 : Value) (p0 : Int × (List (Int × Int × Int × Int × Int × Int)) × (List (Int × Int))) (r : Int) (H : FH p0 = some r) (h_v1 : Sl w0 (NX []) FM v1 p0.2.1) (h_v2 : Sl w0 (NX []) FD v2 p0.2.2) :
    Calls Try.prog 12 #[.agg #[.int .i64 p0.1, v1, v2]] w0 fun e w' => e = .returned (.int .i64 r) ∧ Below w0.heap.size w0 w' := by
 refine enter Try.func12 Aa Try.ntmps12 Aa fun a F => ?_
 have W := Stw.start Y w0
 unfold FH at H
 refine Ah (Ac ?_)
 refine Dr (cs := [.int .i64 p0.1, v1, v2]) F W Aa Aa Aa fun b1 a w F W => ?_
 refine ls F W Aa (Af F Aa).q fun a w F W => ?_
 refine Ae (Ab (Ah ?_))
 refine BB W MO (by kernel_rfl) ?_
 refine qs F Aa (Ai DM Aa Aa Aa T3 F Aa 0 Aa).q fun a F => ?_
 refine qs F Aa (As (v := Value.int .i64 p0.1) 0 F Aa Aa T3 Aa).q fun a F => ?_
 refine qs F Aa (As (v := Value.agg #[.int .i64 p0.1, v1, v2]) 0 F Aa Aa Iv Aa).q fun a F => ?_
 obtain ⟨x1, h1, H⟩ := Al H
 refine qs F Aa (BH (v := Value.int .i64 x1) F U8 Aa (fun w W => Mo any w (v1) (v2) p0 _ h1 (((Am h_v1) : DT _ _ _ _ _ _) w W).nx (((Am h_v2) : DT _ _ _ _ _ _) w W).nx)) fun a F => ?_
 refine qs F Aa (I5 F Aa Aa Aa).q fun a F => ?_
 refine qs F Aa (Af F Aa).q fun a F => ?_
 refine AR fun w W => ?_
 refine Ab (wp_ret ?_)
 have H := AM H
 subst H
 refine Bl (.inl Aa) F W Aa (Av F Aa) ?_
 exact ⟨rfl, W.done⟩
theorem Tu : Has Try.prog 12 := ⟨fun args w => An Try.func12 rfl (by decide) args w⟩
noncomputable def Hf (p0 : Int × (List (Int × Int × Int × Int × Int × Int)) × (List (Int × Int))) (p1 : Int) : Option Int := (FH p0).bind fun x1 => some (AA ((AA ((AA (2 * p1)) + x1)) + 1))
theorem LT (Y : Nat → Prop) (w0 : World) (v1 : Value) (v2 : Value) (p0 : Int × (List (Int × Int × Int × Int × Int × Int)) × (List (Int × Int))) (p1 : Int) (r : Int) (H : Hf p0 p1 = some r) (h_v1 : Sl w0 (NX []) FM v1 p0.2.1) (h_v2 : Sl w0 (NX []) FD v2 p0.2.2) :
    Calls Try.prog 20 #[.agg #[.int .i64 p0.1, v1, v2], .int .i64 p1] w0 fun e w' => e = .returned (.int .i64 r) ∧ Below w0.heap.size w0 w' := by
 refine enter Try.func20 Aa Try.ntmps20 Aa fun a F => ?_
 have W := Stw.start Y w0
 unfold Hf at H
 refine Ah (Ac ?_)
 refine Dr (cs := [.int .i64 p0.1, v1, v2]) F W Aa Aa Aa fun b1 a w F W => ?_
 refine ls F W Aa (Af F Aa).q fun a w F W => ?_
 refine Ae (Ab (Ah (Ac ?_)))
 refine ls F W Aa (Ad F Aa).q fun a w F W => ?_
 refine ls F W Aa (I5 F Aa Aa Aa).q fun a w F W => ?_
 refine ls F W Aa (As (v := Value.agg #[.int .i64 p0.1, v1, v2]) 0 F Aa Aa Iv Aa).q fun a w F W => ?_
 obtain ⟨x1, h1, H⟩ := Al H
 refine ls F W Aa (BH (v := Value.int .i64 x1) F Tu Aa (fun w W => Lp any w (v1) (v2) p0 _ h1 (((Am h_v1) : DT _ _ _ _ _ _) w W).nx (((Am h_v2) : DT _ _ _ _ _ _) w W).nx)) fun a w F W => ?_
 iterate 2 refine ls F W Aa (A3 F Aa Aa Aa).q fun a w F W => ?_
 refine ls F W Aa (Af F Aa).q fun a w F W => ?_
 refine Ae (Ab (wp_ret ?_))
 have H := AM H
 subst H
 refine Bl (.inl Aa) F W Aa (Av F Aa) ?_
 exact ⟨rfl, W.done⟩
theorem Qz : type_of% Try.underlying96 := Try.underlying96
theorem KN : type_of% Try.underlying98 := Try.underlying98
theorem Tr : Has Try.prog 20 := ⟨fun args w => An Try.func20 rfl (by decide) args w⟩
theorem UE : Has Try.prog 40 := ⟨fun args w => An Try.func40 rfl (by decide) args w⟩
theorem Vi : Bt Try.prog 98 [.int .i64 0, .int .i64 0, .int .i64 0] [(0, 1), (1, 1), (2, 1)] := ⟨⟨.agg #[.int .i64 0, .int .i64 0, .int .i64 0], by kernel_rfl, rfl⟩, ⟨_, KN, fun w => by kernel_rfl⟩⟩
theorem SP : (Try.prog.info? 98).bind (·.zero) = some (.agg #[.int .i64 0, .int .i64 0, .int .i64 0]) := by kernel_rfl
abbrev MZ : Rp (Int × Int × Int) := (Rp.pair (Rp.int .i64) (Rp.pair (Rp.int .i64) (Rp.int .i64)))
def UU (a : Int × Int × Int) : List Value := [.int .i64 a.1, .int .i64 a.2.1, .int .i64 a.2.2]
theorem SX : Fl MZ UU := (Fl.pair Fl.int (Fl.pair Fl.int Fl.int))
theorem SB : Et Try.prog 96 98 3 24 := Et.of Qz (by kernel_rfl) (by kernel_rfl) (by kernel_rfl) (by decide)
theorem Sz : Ty Try.prog 98 true 3 := ⟨by kernel_rfl, by kernel_rfl⟩
noncomputable def DE (p0 : Int) (p1 : List (Int × Int × Int)) : Int → Option (Int ⊕ (Unit ⊕ Bool))
  | x1 => (if x1 < (p1.length : Int) then (ix p1 x1).bind fun x2 => (if (decide (x2.1 < 0) || (decide (p0 ≤ x2.1) || (decide (x2.2.1 < 0) || (decide (p0 ≤ x2.2.1) || (decide (x2.2.2 < (-1073741824)) || decide (1073741824 < x2.2.2)))))) = true then some (.inr (.inr false)) else some (.inl (AA (x1 + 1)))) else some (.inr (.inl ())))
noncomputable def Gd (p0 : Int) (p1 : List (Int × Int × Int)) : Option Bool := (if (decide (p0 < 0) || (decide (64 < p0) || decide (256 < (p1.length : Int)))) = true then some false else E6 (AE (DE p0 p1) 0) fun _ => some true)
theorem Nj (Y : Nat → Prop) (w0 : World) (v1 : Value) (p0 : Int) (p1 : List (Int × Int × Int)) (r : Bool) (H : Gd p0 p1 = some r) (h_v1 : Sl w0 (NX []) MZ v1 p1) :
    Calls Try.prog 57 #[.int .i64 p0, v1] w0 fun e w' => e = .returned (.bool r) ∧ Below w0.heap.size w0 w' := by
 refine enter Try.func57 Aa Try.ntmps57 Aa fun a F => ?_
 have W := Stw.start Y w0
 unfold Gd at H
 refine Ah (Ac ?_)
 refine ls F W Aa (Af F Aa).q fun a w F W => ?_
 refine Ae (Ab (Ah ?_))
 refine AC (fun a w => Fr 55 [] [(0, .int .i64 p0), (1, v1), (4, .bool false), (17, .bool (decide (p0 < 0) || (decide (64 < p0) || decide (256 < (p1.length : Int)))))] a ∧ Stw ⟨Y, [], w0⟩ [] [] w) ?_ ?_
 ·
  refine Ac ?_
  refine ls F W Aa (Ad F Aa).q fun a w F W => ?_
  refine ls F W Aa (Bk F Aa Aa).q fun a w F W => ?_
  refine ls F W Aa (Ad F Aa).q fun a w F W => ?_
  rcases Bool.eq_false_or_eq_true (decide (p0 < 0)) with hb0 | hb0
  ·
   rw [hb0] at F
   iterate 2 refine Cj F Aa Aa Aa Aa Aa Aa Aa fun a F => ?_
   refine ls F W Aa (Aq F Aa Aa Aa).q fun a w F W => ?_
   refine ls F W Aa (Ad F Aa).q fun a w F W => ?_
   iterate 3 refine Cj F Aa Aa Aa Aa Aa Aa Aa fun a F => ?_
   refine ls F W Aa (Aq F Aa Aa Aa).q fun a w F W => ?_
   refine Ae (Ab ?_)
   exact ⟨F.re ⟨rfl, Aa, Aa, (by show some (Value.bool true) = some (Value.bool (decide (p0 < 0) || (decide (64 < p0) || decide (256 < (p1.length : Int))))); try rw [hb0]; all_goals simp only [Bool.not_true, Bool.not_false, Bool.true_and, Bool.false_and, Bool.true_or, Bool.false_or, Bool.and_true, Bool.or_false, cond_true, cond_false]), trivial⟩, W⟩
  rw [hb0] at F
  refine AD F W (Ag F Aa Aa Aa Aa) Aa (Ak Aa) (Ad F Aa).q fun a w F W => ?_
  refine AD F W (Ag F Aa Aa Aa Aa) Aa (Ak Aa) (DZ F Aa Aa).q fun a w F W => ?_
  refine ls F W Aa (Au F Aa Aa Aa).q fun a w F W => ?_
  refine ls F W Aa (Ad F Aa).q fun a w F W => ?_
  rcases Bool.eq_false_or_eq_true (decide (64 < p0)) with hb1 | hb1
  ·
   rw [hb1] at F
   iterate 3 refine Cj F Aa Aa Aa Aa Aa Aa Aa fun a F => ?_
   refine ls F W Aa (Aq F Aa Aa Aa).q fun a w F W => ?_
   refine Ae (Ab ?_)
   exact ⟨F.re ⟨rfl, Aa, Aa, (by show some (Value.bool true) = some (Value.bool (decide (p0 < 0) || (decide (64 < p0) || decide (256 < (p1.length : Int))))); try rw [hb1]; try rw [hb0]; all_goals simp only [Bool.not_true, Bool.not_false, Bool.true_and, Bool.false_and, Bool.true_or, Bool.false_or, Bool.and_true, Bool.or_false, cond_true, cond_false]), trivial⟩, W⟩
  rw [hb1] at F
  refine AD F W (Ag F Aa Aa Aa Aa) Aa (Ak Aa) (Ad F Aa).q fun a w F W => ?_
  refine AD F W (Ag F Aa Aa Aa Aa) Aa (Ak Aa) (BP (r := MZ) (l := p1) Qz Aa F Aa (Am h_v1)).q fun a w F W => ?_
  refine AD F W (Ag F Aa Aa Aa Aa) Aa (Ak Aa) (DZ F Aa Aa).q fun a w F W => ?_
  refine ls F W Aa (Au F Aa Aa Aa).q fun a w F W => ?_
  refine Ae (Ab ?_)
  exact ⟨F.re ⟨rfl, Aa, Aa, (by show some (Value.bool (decide (256 < (p1.length : Int)))) = some (Value.bool (decide (p0 < 0) || (decide (64 < p0) || decide (256 < (p1.length : Int))))); try rw [hb1]; try rw [hb0]; all_goals simp only [Bool.not_true, Bool.not_false, Bool.true_and, Bool.false_and, Bool.true_or, Bool.false_or, Bool.and_true, Bool.or_false, cond_true, cond_false]), trivial⟩, W⟩
 rintro a w ⟨F, W⟩
 refine Aw F Aa (fun hb => ?_) fun hb => ?_
 ·
  have H := AL hb H
  rw [hb] at F
  clear hb
  refine Ah (Ac ?_)
  refine ls F W Aa (Af F Aa).q fun a w F W => ?_
  refine Ae (Ab (wp_ret (AG ?_)))
  have H := AM H
  subst H
  refine Bl (.inl Aa) F W Aa (Av F Aa) ?_
  exact ⟨rfl, W.done⟩
 have H := AK (by rw [hb]; decide) H
 rw [hb] at F
 clear hb
 refine wp_skip (Ab ?_)
 obtain ⟨o1, G1, K1, L1⟩ := Jb H
 refine AC (fun a w => some (Sum.inl ()) = some o1 ∧ Fr 55 [] [(4, .bool false)] a ∧ Stw ⟨Y, [], w0⟩ [] [] w) ?_ ?_
 ·
  have H := G1
  clear G1 K1
  refine Ah (Ac ?_)
  refine ls F W Aa (Ad F Aa).q fun a w F W => ?_
  refine ls F W Aa (BP (r := MZ) (l := p1) Qz Aa F Aa (Am h_v1)).q fun a w F W => ?_
  refine ls F W Aa (Ad F Aa).q fun a w F W => ?_
  refine Ae (Ab (wp_block ?_))
  refine A1 H (fun s a w => Fr 55 [] [(0, .int .i64 p0), (4, .bool false), (18, v1), (19, .int .i64 (p1.length : Int)), (20, .int .i64 s)] a ∧ Stw ⟨Y, [], w0⟩ [] [] w) ⟨F.re ⟨rfl, Aa, Aa, Aa, Aa, trivial⟩, W⟩ fun s o a w H L2 hR => ?_
  obtain ⟨x1, rfl⟩ : ∃ x, x = s := ⟨s, rfl⟩
  obtain ⟨F, W⟩ := hR
  have F : Fr 55 [] [(0, .int .i64 p0), (4, .bool false), (18, v1), (19, .int .i64 (p1.length : Int)), (20, .int .i64 x1)] a := F
  have W : Stw ⟨Y, [], w0⟩ [] [] w := W
  rw [DE] at H
  refine Ah (Ac ?_)
  refine ls F W Aa (Bk F Aa Aa).q fun a w F W => ?_
  refine Ae (Ab (Ah ?_))
  refine Aw F Aa (fun hb => ?_) fun hb => ?_
  ·
   have H := AL (A6 hb) H
   rw [hb] at F
   clear hb
   refine wp_skip (Ab (Ah (wp_block (Ah (Ac ?_)))))
   obtain ⟨x2, h1, H⟩ := Al H
   refine ls F W Aa (Ay (r := MZ) SB F Aa Aa (Am h_v1) h1).q fun a w F W => ?_
   refine ls F W Aa (Ap (y := Value.agg #[.int .i64 x2.1, .int .i64 x2.2.1, .int .i64 x2.2.2]) (j := 0) (i := x1) F Aa Aa (Am h_v1) h1 SX.to Sz Aa).q fun a w F W => ?_
   refine Cn (cs := [.int .i64 0, .int .i64 0, .int .i64 0]) F W Aa SP Aa fun b1 a w F W => ?_
   refine Br (vs := [.int .i64 x2.1, .int .i64 x2.2.1, .int .i64 x2.2.2]) (M' := [(b1, [.int .i64 x2.1, .int .i64 x2.2.1, .int .i64 x2.2.2])]) 0 F W Aa Aa Aa Sz Aa Aa Aa Aa Aa fun w W => ?_
   refine Ae (Ab ?_)
   refine AC (fun a w => Fr 55 [] [(0, .int .i64 p0), (4, .bool false), (18, v1), (19, .int .i64 (p1.length : Int)), (20, .int .i64 x1), (53, .bool (decide (x2.1 < 0) || (decide (p0 ≤ x2.1) || (decide (x2.2.1 < 0) || (decide (p0 ≤ x2.2.1) || (decide (x2.2.2 < (-1073741824)) || decide (1073741824 < x2.2.2)))))))] a ∧ Stw ⟨Y, [], w0⟩ [(b1, [.int .i64 x2.1, .int .i64 x2.2.1, .int .i64 x2.2.2])] [] w) ?_ ?_
   ·
    refine Ac ?_
    refine ls F W Aa (Ai KN Aa Aa Aa T3 F Aa 0 Aa).q fun a w F W => ?_
    refine ls F W Aa (As (v := Value.int .i64 x2.1) 0 F Aa Aa T3 Aa).q fun a w F W => ?_
    refine ls F W Aa (Bk F Aa Aa).q fun a w F W => ?_
    refine ls F W Aa (Ad F Aa).q fun a w F W => ?_
    rcases Bool.eq_false_or_eq_true (decide (x2.1 < 0)) with hb0 | hb0
    ·
     rw [hb0] at F
     iterate 4 refine Cj F Aa Aa Aa Aa Aa Aa Aa fun a F => ?_
     refine ls F W Aa (Aq F Aa Aa Aa).q fun a w F W => ?_
     refine ls F W Aa (Ad F Aa).q fun a w F W => ?_
     iterate 3 refine Cj F Aa Aa Aa Aa Aa Aa Aa fun a F => ?_
     refine ls F W Aa (Aq F Aa Aa Aa).q fun a w F W => ?_
     refine ls F W Aa (Ad F Aa).q fun a w F W => ?_
     iterate 4 refine Cj F Aa Aa Aa Aa Aa Aa Aa fun a F => ?_
     refine ls F W Aa (Aq F Aa Aa Aa).q fun a w F W => ?_
     refine ls F W Aa (Ad F Aa).q fun a w F W => ?_
     iterate 3 refine Cj F Aa Aa Aa Aa Aa Aa Aa fun a F => ?_
     refine ls F W Aa (Aq F Aa Aa Aa).q fun a w F W => ?_
     refine ls F W Aa (Ad F Aa).q fun a w F W => ?_
     iterate 3 refine Cj F Aa Aa Aa Aa Aa Aa Aa fun a F => ?_
     refine ls F W Aa (Aq F Aa Aa Aa).q fun a w F W => ?_
     refine Ae (Ab ?_)
     exact ⟨F.re ⟨rfl, Aa, Aa, Aa, Aa, (by show some (Value.bool true) = some (Value.bool (decide (x2.1 < 0) || (decide (p0 ≤ x2.1) || (decide (x2.2.1 < 0) || (decide (p0 ≤ x2.2.1) || (decide (x2.2.2 < (-1073741824)) || decide (1073741824 < x2.2.2))))))); try rw [hb0]; all_goals simp only [Bool.not_true, Bool.not_false, Bool.true_and, Bool.false_and, Bool.true_or, Bool.false_or, Bool.and_true, Bool.or_false, cond_true, cond_false]), trivial⟩, W⟩
    rw [hb0] at F
    refine AD F W (Ag F Aa Aa Aa Aa) Aa (Ak Aa) (Ai KN Aa Aa Aa T3 F Aa 0 Aa).q fun a w F W => ?_
    refine AD F W (Ag F Aa Aa Aa Aa) Aa (Ak Aa) (As (v := Value.int .i64 x2.1) 0 F Aa Aa T3 Aa).q fun a w F W => ?_
    refine AD F W (Ag F Aa Aa Aa Aa) Aa (Ak Aa) (Ad F Aa).q fun a w F W => ?_
    refine AD F W (Ag F Aa Aa Aa Aa) Aa (Ak Aa) (Dj F Aa Aa).q fun a w F W => ?_
    refine ls F W Aa (Au F Aa Aa Aa).q fun a w F W => ?_
    refine ls F W Aa (Ad F Aa).q fun a w F W => ?_
    rcases Bool.eq_false_or_eq_true (decide (p0 ≤ x2.1)) with hb1 | hb1
    ·
     rw [hb1] at F
     iterate 3 refine Cj F Aa Aa Aa Aa Aa Aa Aa fun a F => ?_
     refine ls F W Aa (Aq F Aa Aa Aa).q fun a w F W => ?_
     refine ls F W Aa (Ad F Aa).q fun a w F W => ?_
     iterate 4 refine Cj F Aa Aa Aa Aa Aa Aa Aa fun a F => ?_
     refine ls F W Aa (Aq F Aa Aa Aa).q fun a w F W => ?_
     refine ls F W Aa (Ad F Aa).q fun a w F W => ?_
     iterate 3 refine Cj F Aa Aa Aa Aa Aa Aa Aa fun a F => ?_
     refine ls F W Aa (Aq F Aa Aa Aa).q fun a w F W => ?_
     refine ls F W Aa (Ad F Aa).q fun a w F W => ?_
     iterate 3 refine Cj F Aa Aa Aa Aa Aa Aa Aa fun a F => ?_
     refine ls F W Aa (Aq F Aa Aa Aa).q fun a w F W => ?_
     refine Ae (Ab ?_)
     exact ⟨F.re ⟨rfl, Aa, Aa, Aa, Aa, (by show some (Value.bool true) = some (Value.bool (decide (x2.1 < 0) || (decide (p0 ≤ x2.1) || (decide (x2.2.1 < 0) || (decide (p0 ≤ x2.2.1) || (decide (x2.2.2 < (-1073741824)) || decide (1073741824 < x2.2.2))))))); try rw [hb1]; try rw [hb0]; all_goals simp only [Bool.not_true, Bool.not_false, Bool.true_and, Bool.false_and, Bool.true_or, Bool.false_or, Bool.and_true, Bool.or_false, cond_true, cond_false]), trivial⟩, W⟩
    rw [hb1] at F
    refine AD F W (Ag F Aa Aa Aa Aa) Aa (Ak Aa) (Ai KN Aa Aa Aa T3 F Aa 1 Aa).q fun a w F W => ?_
    refine AD F W (Ag F Aa Aa Aa Aa) Aa (Ak Aa) (As (v := Value.int .i64 x2.2.1) 0 F Aa Aa T3 Aa).q fun a w F W => ?_
    refine AD F W (Ag F Aa Aa Aa Aa) Aa (Ak Aa) (Bk F Aa Aa).q fun a w F W => ?_
    refine ls F W Aa (Au F Aa Aa Aa).q fun a w F W => ?_
    refine ls F W Aa (Ad F Aa).q fun a w F W => ?_
    rcases Bool.eq_false_or_eq_true (decide (x2.2.1 < 0)) with hb2 | hb2
    ·
     rw [hb2] at F
     iterate 4 refine Cj F Aa Aa Aa Aa Aa Aa Aa fun a F => ?_
     refine ls F W Aa (Aq F Aa Aa Aa).q fun a w F W => ?_
     refine ls F W Aa (Ad F Aa).q fun a w F W => ?_
     iterate 3 refine Cj F Aa Aa Aa Aa Aa Aa Aa fun a F => ?_
     refine ls F W Aa (Aq F Aa Aa Aa).q fun a w F W => ?_
     refine ls F W Aa (Ad F Aa).q fun a w F W => ?_
     iterate 3 refine Cj F Aa Aa Aa Aa Aa Aa Aa fun a F => ?_
     refine ls F W Aa (Aq F Aa Aa Aa).q fun a w F W => ?_
     refine Ae (Ab ?_)
     exact ⟨F.re ⟨rfl, Aa, Aa, Aa, Aa, (by show some (Value.bool true) = some (Value.bool (decide (x2.1 < 0) || (decide (p0 ≤ x2.1) || (decide (x2.2.1 < 0) || (decide (p0 ≤ x2.2.1) || (decide (x2.2.2 < (-1073741824)) || decide (1073741824 < x2.2.2))))))); try rw [hb2]; try rw [hb1]; try rw [hb0]; all_goals simp only [Bool.not_true, Bool.not_false, Bool.true_and, Bool.false_and, Bool.true_or, Bool.false_or, Bool.and_true, Bool.or_false, cond_true, cond_false]), trivial⟩, W⟩
    rw [hb2] at F
    refine AD F W (Ag F Aa Aa Aa Aa) Aa (Ak Aa) (Ai KN Aa Aa Aa T3 F Aa 1 Aa).q fun a w F W => ?_
    refine AD F W (Ag F Aa Aa Aa Aa) Aa (Ak Aa) (As (v := Value.int .i64 x2.2.1) 0 F Aa Aa T3 Aa).q fun a w F W => ?_
    refine AD F W (Ag F Aa Aa Aa Aa) Aa (Ak Aa) (Ad F Aa).q fun a w F W => ?_
    refine AD F W (Ag F Aa Aa Aa Aa) Aa (Ak Aa) (Dj F Aa Aa).q fun a w F W => ?_
    refine ls F W Aa (Au F Aa Aa Aa).q fun a w F W => ?_
    refine ls F W Aa (Ad F Aa).q fun a w F W => ?_
    rcases Bool.eq_false_or_eq_true (decide (p0 ≤ x2.2.1)) with hb3 | hb3
    ·
     rw [hb3] at F
     iterate 3 refine Cj F Aa Aa Aa Aa Aa Aa Aa fun a F => ?_
     refine ls F W Aa (Aq F Aa Aa Aa).q fun a w F W => ?_
     refine ls F W Aa (Ad F Aa).q fun a w F W => ?_
     iterate 3 refine Cj F Aa Aa Aa Aa Aa Aa Aa fun a F => ?_
     refine ls F W Aa (Aq F Aa Aa Aa).q fun a w F W => ?_
     refine Ae (Ab ?_)
     exact ⟨F.re ⟨rfl, Aa, Aa, Aa, Aa, (by show some (Value.bool true) = some (Value.bool (decide (x2.1 < 0) || (decide (p0 ≤ x2.1) || (decide (x2.2.1 < 0) || (decide (p0 ≤ x2.2.1) || (decide (x2.2.2 < (-1073741824)) || decide (1073741824 < x2.2.2))))))); try rw [hb3]; try rw [hb2]; try rw [hb1]; try rw [hb0]; all_goals simp only [Bool.not_true, Bool.not_false, Bool.true_and, Bool.false_and, Bool.true_or, Bool.false_or, Bool.and_true, Bool.or_false, cond_true, cond_false]), trivial⟩, W⟩
    rw [hb3] at F
    refine AD F W (Ag F Aa Aa Aa Aa) Aa (Ak Aa) (Ai KN Aa Aa Aa T3 F Aa 2 Aa).q fun a w F W => ?_
    refine AD F W (Ag F Aa Aa Aa Aa) Aa (Ak Aa) (As (v := Value.int .i64 x2.2.2) 0 F Aa Aa T3 Aa).q fun a w F W => ?_
    refine AD F W (Ag F Aa Aa Aa Aa) Aa (Ak Aa) (Bk F Aa Aa).q fun a w F W => ?_
    refine ls F W Aa (Au F Aa Aa Aa).q fun a w F W => ?_
    refine ls F W Aa (Ad F Aa).q fun a w F W => ?_
    rcases Bool.eq_false_or_eq_true (decide (x2.2.2 < (-1073741824))) with hb4 | hb4
    ·
     rw [hb4] at F
     iterate 3 refine Cj F Aa Aa Aa Aa Aa Aa Aa fun a F => ?_
     refine ls F W Aa (Aq F Aa Aa Aa).q fun a w F W => ?_
     refine Ae (Ab ?_)
     exact ⟨F.re ⟨rfl, Aa, Aa, Aa, Aa, (by show some (Value.bool true) = some (Value.bool (decide (x2.1 < 0) || (decide (p0 ≤ x2.1) || (decide (x2.2.1 < 0) || (decide (p0 ≤ x2.2.1) || (decide (x2.2.2 < (-1073741824)) || decide (1073741824 < x2.2.2))))))); try rw [hb4]; try rw [hb3]; try rw [hb2]; try rw [hb1]; try rw [hb0]; all_goals simp only [Bool.not_true, Bool.not_false, Bool.true_and, Bool.false_and, Bool.true_or, Bool.false_or, Bool.and_true, Bool.or_false, cond_true, cond_false]), trivial⟩, W⟩
    rw [hb4] at F
    refine AD F W (Ag F Aa Aa Aa Aa) Aa (Ak Aa) (Ai KN Aa Aa Aa T3 F Aa 2 Aa).q fun a w F W => ?_
    refine AD F W (Ag F Aa Aa Aa Aa) Aa (Ak Aa) (As (v := Value.int .i64 x2.2.2) 0 F Aa Aa T3 Aa).q fun a w F W => ?_
    refine AD F W (Ag F Aa Aa Aa Aa) Aa (Ak Aa) (DZ F Aa Aa).q fun a w F W => ?_
    refine ls F W Aa (Au F Aa Aa Aa).q fun a w F W => ?_
    refine Ae (Ab ?_)
    exact ⟨F.re ⟨rfl, Aa, Aa, Aa, Aa, (by show some (Value.bool (decide (1073741824 < x2.2.2))) = some (Value.bool (decide (x2.1 < 0) || (decide (p0 ≤ x2.1) || (decide (x2.2.1 < 0) || (decide (p0 ≤ x2.2.1) || (decide (x2.2.2 < (-1073741824)) || decide (1073741824 < x2.2.2))))))); try rw [hb4]; try rw [hb3]; try rw [hb2]; try rw [hb1]; try rw [hb0]; all_goals simp only [Bool.not_true, Bool.not_false, Bool.true_and, Bool.false_and, Bool.true_or, Bool.false_or, Bool.and_true, Bool.or_false, cond_true, cond_false]), trivial⟩, W⟩
   rintro a w ⟨F, W⟩
   refine Aw F Aa (fun hb => ?_) fun hb => ?_
   ·
    have H := AL hb H
    rw [hb] at F
    clear hb
    refine Ah (Ac ?_)
    refine ls F W Aa (Af F Aa).q fun a w F W => ?_
    refine Ae (Ab (wp_ret (AO ?_)))
    iterate 2 refine AG ?_
    refine AO (AG ?_)
    have H := L2 _ H
    have H := L1 _ H
    have H := AM H
    subst H
    refine Bl (.inl Aa) F W Aa (Av F Aa) ?_
    exact ⟨rfl, W.done⟩
   have H := AK (by rw [hb]; decide) H
   rw [hb] at F
   clear hb
   refine wp_skip (AH (Ab (Ac ?_)))
   refine ls F W Aa (A3 F Aa Aa Aa).q fun a w F W => ?_
   refine ls F W Aa (Ad F Aa).q fun a w F W => ?_
   refine Ae (Ab ?_)
   have W := W.sub (M' := []) (Z' := []) (List.nil_sublist _) (List.Sublist.refl _)
   exact ⟨_, H, F.re ⟨rfl, Aa, Aa, Aa, Aa, trivial⟩, W⟩
  have H := AK (A7 hb) H
  rw [hb] at F
  clear hb
  refine wp_exit ?_
  iterate 2 refine A5 ?_
  refine AU (Ab ?_)
  have H := L2 _ H
  exact ⟨H, F.re ⟨rfl, trivial⟩, W⟩
 rintro a w ⟨hj, F, W⟩
 have H := K1 _ hj
 clear hj G1 K1 L1
 refine Ah (Ac ?_)
 refine ls F W Aa (Af F Aa).q fun a w F W => ?_
 refine Ae (Ab (wp_ret ?_))
 have H := AM H
 subst H
 refine Bl (.inl Aa) F W Aa (Av F Aa) ?_
 exact ⟨rfl, W.done⟩
end Go.Proofs.Ytjcaadbafjgefaa
