/- The functions of layer 26, EY. Conditions: none. -/
import Derived.Test.YtepfcpffbabgmaaDoorbA0
namespace Go.Proofs.YtepfcpffbabgmaaDoor
open Go Go.RowKit
set_option linter.unusedVariables false
set_option linter.unusedSimpArgs false
set_option maxRecDepth 20000
theorem O8 : Has Tryd.prog 63 := ⟨fun args w => Ak Tryd.func63 rfl (by decide) args w⟩
noncomputable def Bd  : (List Int × Int × Int) → Option ((List Int × Int × Int) ⊕ (List Int))
  | (x1, x2, x3) => (if x2 < x3 then (ix x1 x3).bind fun x4 => (ix x1 x2).bind fun x5 => (ix x1 x2).bind fun x6 => (ix (AM x1 x2 x4) x3).bind fun x7 => some (.inl ((AM (AM x1 x2 x4) x3 x5), AJ (x2 + 1), AJ (x3 - 1))) else some (.inr x1))
noncomputable def Bz (p0 : List Int) (p1 : Int) (p2 : Int) : Option (List Int) := AZ (Bd) (p0, p1, AJ (p2 - 1))
theorem Eb (Y : Nat → Prop) (X : List Nat) (w0 : World) (v1 : Value) (p0 : List Int) (p1 : Int) (p2 : Int) (r : List Int) (H : Bz p0 p1 p2 = some r) (hL : Stw ⟨Y, X, w0⟩ [] [row v1 3 (Rp.int .i64) p0] w0) :
    Calls Tryd.prog 64 #[v1, .int .i64 p1, .int .i64 p2] w0 fun e w' => ∃ x : Unit, e = .returned (.tuple #[]) ∧ Stw ⟨Y, X, w0⟩ [] [row v1 3 (Rp.int .i64) r] w' := by
 refine enter Tryd.func64 Aa Tryd.ntmps64 Aa fun a F => ?_
 have W := hL
 unfold Bz at H
 refine Ag (Ab ?_)
 refine ls F W Aa (Af F Aa).q fun a w F W => ?_
 refine ls F W Aa (Ad F Aa).q fun a w F W => ?_
 refine Ae (Ac (Ag (Ab ?_)))
 refine ls F W Aa (Af F Aa).q fun a w F W => ?_
 refine ls F W Aa (Cd F Aa Aa Aa).q fun a w F W => ?_
 refine ls F W Aa (Ad F Aa).q fun a w F W => ?_
 refine Ae (Ac (Ap ?_))
 refine BV H (fun s a w => Fr 32 [] [(0, v1), (6, .int .i64 s.2.1), (7, .int .i64 s.2.2)] a ∧ Stw ⟨Y, X, w0⟩ [] [row v1 3 (Rp.int .i64) s.1] w) ⟨F.re ⟨rfl, Aa, Aa, trivial⟩, W⟩ fun s o a w H L1 hR => ?_
 obtain ⟨x1, x2, x3⟩ := s
 obtain ⟨F, W⟩ := hR
 have F : Fr 32 [] [(0, v1), (6, .int .i64 x2), (7, .int .i64 x3)] a := F
 have W : Stw ⟨Y, X, w0⟩ [] [row v1 3 (Rp.int .i64) x1] w := W
 rw [Bd] at H
 refine Ag (Ag (Ab ?_))
 iterate 2 refine ls F W Aa (Af F Aa).q fun a w F W => ?_
 refine ls F W Aa (Df F Aa Aa).q fun a w F W => ?_
 refine Ae (Ac ?_)
 refine Ao F Aa (fun hb => ?_) fun hb => ?_
 ·
  have H := A5 (Bv hb) H
  rw [hb] at F
  clear hb
  refine Au (Ac (Ap (Ag ?_)))
  refine Fc 13 [2, 3] [0, 1, 4, 5, 6, 7, 8, 9, 10, 11, 12] (fun ch a d v w h => by cases d <;> exact h) W MO (by kernel_rfl) ?_
  iterate 2 refine hm F Aa Aa Aa fun a F => ?_
  refine Gg ?_
  iterate 4 refine hs F Aa Aa Aa (Af F Aa).q fun a F => ?_
  obtain ⟨x4, h1, H⟩ := Aj H
  refine hs F Aa Aa Aa (Ay (r := (Rp.int .i64)) CK F Aa Aa (Ai 0 Aa) h1).q fun a F => ?_
  refine hs F Aa Aa Aa (Am (y := Value.int .i64 x4) (j := 0) (i := x3) F Aa Aa (Ai 0 Aa) h1 Fl.int.to T3 Aa).q fun a F => ?_
  iterate 2 refine hs F Aa Aa Aa (Af F Aa).q fun a F => ?_
  obtain ⟨x5, h2, H⟩ := Aj H
  refine hs F Aa Aa Aa (Ay (r := (Rp.int .i64)) CK F Aa Aa (Ai 0 Aa) h2).q fun a F => ?_
  refine hs F Aa Aa Aa (Am (y := Value.int .i64 x5) (j := 0) (i := x2) F Aa Aa (Ai 0 Aa) h2 Fl.int.to T3 Aa).q fun a F => ?_
  obtain ⟨x6, h3, H⟩ := Aj H
  refine hs F Aa Aa Aa (Ay (r := (Rp.int .i64)) CK F Aa Aa (Ai 0 Aa) h3).q fun a F => ?_
  refine Hu fun w W => ?_
  have W : Stw ⟨Y, X, w0⟩ [] [row v1 3 (Rp.int .i64) x1] w := W
  refine A9 (i := x2) (j := 0) (vs := [.int .i64 x4]) (x' := x4) F W Aa Aa Aa (k := 0) Aa Aa h3 T3 Aa Aa Aa Aa (fun A cs _ => Fl.int.sto (by rfl) _ _ _) fun w W => ?_
  obtain ⟨x7, h4, H⟩ := Aj H
  refine ls F W Aa (Ay (r := (Rp.int .i64)) CK F Aa Aa (Ai 0 Aa) h4).q fun a w F W => ?_
  refine A9 (i := x3) (j := 0) (vs := [.int .i64 x5]) (x' := x5) F W Aa Aa Aa (k := 0) Aa Aa h4 T3 Aa Aa Aa Aa (fun A cs _ => Fl.int.sto (by rfl) _ _ _) fun w W => ?_
  refine Ae (Ac (Ag (Ab ?_)))
  refine ls F W Aa (Af F Aa).q fun a w F W => ?_
  refine ls F W Aa (BM F Aa Aa Aa).q fun a w F W => ?_
  refine ls F W Aa (Ad F Aa).q fun a w F W => ?_
  refine Ae (Ac (Ab ?_))
  refine ls F W Aa (Af F Aa).q fun a w F W => ?_
  refine ls F W Aa (Cd F Aa Aa Aa).q fun a w F W => ?_
  refine ls F W Aa (Ad F Aa).q fun a w F W => ?_
  refine Ae (A6 (Ac ?_))
  exact ⟨_, H, F.re ⟨rfl, Aa, Aa, trivial⟩, W⟩
 have H := A3 (Bx hb) H
 rw [hb] at F
 clear hb
 refine BK ?_
 iterate 2 refine B7 ?_
 refine BN ?_
 have H := L1 _ H
 have H := AV H
 subst H
 refine Gm (.inr Aa) F Aa ?_
 exact ⟨(), Aa, W⟩
theorem OO : Has Tryd.prog 64 := ⟨fun args w => Ak Tryd.func64 rfl (by decide) args w⟩
noncomputable def Bh (p2 : Int) (x2 : List Int) : Int → Option (Int ⊕ Int)
  | x8 => (if x8 < p2 then (ix x2 x8).bind fun x10 => (ix x2 (AJ (x8 - 1))).bind fun x11 => some (!(AO x10 x11)) else some false).bind fun x9 => (if x9 = true then some (.inl (AJ (x8 + 1))) else some (.inr x8))
noncomputable def AD  : (List Int × Int) → Option ((List Int × Int) ⊕ (List Int))
  | (x17, x18) => (if 1 ≤ x18 then (ix x17 x18).bind fun x19 => (ix x17 (AJ (x18 - 1))).bind fun x20 => (if (!(AO x19 x20)) = true then some (.inr x17) else (ix x17 (AJ (x18 - 1))).bind fun x21 => (ix x17 x18).bind fun x22 => (ix x17 x18).bind fun x23 => (ix (AM x17 x18 x21) (AJ (x18 - 1))).bind fun x24 => some (.inl ((AM (AM x17 x18 x21) (AJ (x18 - 1)) x22), AJ (x18 - 1)))) else some (.inr x17))
noncomputable def AH (p2 : Int) (x7 : Int) : (List Int × Int) → Option ((List Int × Int) ⊕ ((List Int × Int) ⊕ ((List Int × Int × Int) ⊕ ((List Int) ⊕ (Bool × List Int)))))
  | (x25, x26) => (if x26 < p2 then (ix x25 x26).bind fun x27 => (ix x25 (AJ (x26 - 1))).bind fun x28 => (if (!(AO x27 x28)) = true then some (.inr (.inl (x25, x7))) else (ix x25 (AJ (x26 - 1))).bind fun x29 => (ix x25 x26).bind fun x30 => (ix x25 x26).bind fun x31 => (ix (AM x25 x26 x29) (AJ (x26 - 1))).bind fun x32 => some (.inl ((AM (AM x25 x26 x29) (AJ (x26 - 1)) x30), AJ (x26 + 1)))) else some (.inr (.inl (x25, x7))))
noncomputable def AG (p1 : Int) (p2 : Int) : (List Int × Int × Int) → Option ((List Int × Int × Int) ⊕ ((List Int) ⊕ (Bool × List Int)))
  | (x2, x3, x4) => (if x4 < 5 then Im ((AZ (Bh p2 x2) x3).bind fun x7 => (if x7 = p2 then some (.inr (.inr (.inr (true, x2)))) else (if (AJ (p2 - p1)) < 50 then some (.inr (.inr (.inr (false, x2)))) else (ix x2 (AJ (x7 - 1))).bind fun x12 => (ix x2 x7).bind fun x13 => (ix x2 x7).bind fun x14 => (ix (AM x2 x7 x12) (AJ (x7 - 1))).bind fun x15 => (if 2 ≤ (AJ (x7 - p1)) then AZ (AD) ((AM (AM x2 x7 x12) (AJ (x7 - 1)) x13), AJ (x7 - 1)) else some (AM (AM x2 x7 x12) (AJ (x7 - 1)) x13)).bind fun x16 => (if 2 ≤ (AJ (p2 - x7)) then AZ (AH p2 x7) (x16, AJ (x7 + 1)) else some (.inl (x16, x7)))))) fun (x5, x6) => some (.inl (x5, x6, AJ (x4 + 1))) else some (.inr (.inl x2)))
noncomputable def Bb (p0 : List Int) (p1 : Int) (p2 : Int) : Option (Bool × List Int) := Im (AZ (AG p1 p2) (p0, AJ (p1 + 1), 0)) fun x1 => some (false, x1)
theorem DE (Y : Nat → Prop) (X : List Nat) (w0 : World) (v1 : Value) (p0 : List Int) (p1 : Int) (p2 : Int) (r : Bool × List Int) (H : Bb p0 p1 p2 = some r) (hL : Stw ⟨Y, X, w0⟩ [] [row v1 3 (Rp.int .i64) p0] w0) :
    Calls Tryd.prog 65 #[v1, .int .i64 p1, .int .i64 p2] w0 fun e w' => ∃ x : Unit, e = .returned (.bool r.1) ∧ Stw ⟨Y, X, w0⟩ [] [row v1 3 (Rp.int .i64) r.2] w' := by
 refine enter Tryd.func65 Aa Tryd.ntmps65 Aa fun a F => ?_
 have W := hL
 unfold Bb at H
 refine Ag (Ab ?_)
 refine ls F W Aa (Ad F Aa).q fun a w F W => ?_
 refine Ae (Ac (Ag (Ab ?_)))
 refine ls F W Aa (Af F Aa).q fun a w F W => ?_
 refine ls F W Aa (BM F Aa Aa Aa).q fun a w F W => ?_
 refine ls F W Aa (Ad F Aa).q fun a w F W => ?_
 refine Ae (Ac ?_)
 obtain ⟨o1, G1, K1, L1⟩ := Mo H
 refine AW (fun a w => ∃ x1 : List Int, some (Sum.inl x1) = some o1 ∧ Fr 133 [] [(6, .bool false)] a ∧ Stw ⟨Y, X, w0⟩ [] [row v1 3 (Rp.int .i64) x1] w) ?_ ?_
 ·
  have H := G1
  clear G1 K1
  refine Ag (Ab ?_)
  refine ls F W Aa (Ad F Aa).q fun a w F W => ?_
  refine Ae (Ac (Ap ?_))
  refine BV H (fun s a w => Fr 133 [] [(0, v1), (1, .int .i64 p1), (2, .int .i64 p2), (6, .bool false), (7, .int .i64 s.2.1), (8, .int .i64 s.2.2)] a ∧ Stw ⟨Y, X, w0⟩ [] [row v1 3 (Rp.int .i64) s.1] w) ⟨F.re ⟨rfl, Aa, Aa, Aa, Aa, Aa, trivial⟩, W⟩ fun s o a w H L2 hR => ?_
  obtain ⟨x2, x3, x4⟩ := s
  obtain ⟨F, W⟩ := hR
  have F : Fr 133 [] [(0, v1), (1, .int .i64 p1), (2, .int .i64 p2), (6, .bool false), (7, .int .i64 x3), (8, .int .i64 x4)] a := F
  have W : Stw ⟨Y, X, w0⟩ [] [row v1 3 (Rp.int .i64) x2] w := W
  rw [AG] at H
  refine Ag (Ag (Ab ?_))
  refine ls F W Aa (Af F Aa).q fun a w F W => ?_
  refine ls F W Aa (Df F Aa Aa).q fun a w F W => ?_
  refine Ae (Ac ?_)
  refine Ao F Aa (fun hb => ?_) fun hb => ?_
  ·
   have H := A5 (Bv hb) H
   rw [hb] at F
   clear hb
   refine Au (Ac ?_)
   obtain ⟨o3, G3, K3, L3⟩ := Mo H
   refine AW (fun a w => ∃ x5 : List Int, ∃ x6 : Int, some (Sum.inl (x5, x6)) = some o3 ∧ Fr 133 [] [(0, v1), (1, .int .i64 p1), (2, .int .i64 p2), (6, .bool false), (7, .int .i64 x6), (8, .int .i64 x4)] a ∧ Stw ⟨Y, X, w0⟩ [] [row v1 3 (Rp.int .i64) x5] w) ?_ ?_
   ·
    have H := G3
    clear G3 K3
    refine Ap ?_
    obtain ⟨o4, G4, K4⟩ := Aj H
    refine AW (fun a w => ∃ x7 : Int, some (x7) = some o4 ∧ Fr 133 [] [(0, v1), (1, .int .i64 p1), (2, .int .i64 p2), (6, .bool false), (7, .int .i64 x7), (8, .int .i64 x4)] a ∧ Stw ⟨Y, X, w0⟩ [] [row v1 3 (Rp.int .i64) x2] w) ?_ ?_
    ·
     have H := G4
     clear G4 K4
     refine Ap ?_
     refine BV H (fun s a w => Fr 133 [] [(0, v1), (1, .int .i64 p1), (2, .int .i64 p2), (6, .bool false), (7, .int .i64 s), (8, .int .i64 x4)] a ∧ Stw ⟨Y, X, w0⟩ [] [row v1 3 (Rp.int .i64) x2] w) ⟨F.re ⟨rfl, Aa, Aa, Aa, Aa, Aa, trivial⟩, W⟩ fun s o a w H L5 hR => ?_
     obtain ⟨x8, rfl⟩ : ∃ x, x = s := ⟨s, rfl⟩
     obtain ⟨F, W⟩ := hR
     have F : Fr 133 [] [(0, v1), (1, .int .i64 p1), (2, .int .i64 p2), (6, .bool false), (7, .int .i64 x8), (8, .int .i64 x4)] a := F
     have W : Stw ⟨Y, X, w0⟩ [] [row v1 3 (Rp.int .i64) x2] w := W
     rw [Bh] at H
     refine Ag ?_
     obtain ⟨o6, G6, K6⟩ := Aj H
     refine AW (fun a w => ∃ x9 : Bool, some (x9) = some o6 ∧ Fr 133 [] [(0, v1), (1, .int .i64 p1), (2, .int .i64 p2), (6, .bool false), (7, .int .i64 x8), (8, .int .i64 x4), (32, .bool x9)] a ∧ Stw ⟨Y, X, w0⟩ [] [row v1 3 (Rp.int .i64) x2] w) ?_ ?_
     ·
      have H := G6
      clear G6 K6
      refine Cb W MO (by kernel_rfl) ?_
      iterate 2 refine qs F Aa (Af F Aa).q fun a F => ?_
      refine qs F Aa (Df F Aa Aa).q fun a F => ?_
      refine qs F Aa (Af F Aa).q fun a F => ?_
      rcases Bool.eq_false_or_eq_true (decide (x8 < p2)) with hb | hb
      ·
       have H := A5 (Bv hb) H
       rw [hb] at F
       clear hb
       iterate 2 refine Bj F (Ah F Aa Aa Aa Aa) Aa (An Aa) (Af F Aa).q fun a F => ?_
       obtain ⟨x10, h1, H⟩ := Aj H
       refine Bj F (Ah F Aa Aa Aa Aa) Aa (An Aa) (Ay (r := (Rp.int .i64)) CK F Aa Aa (Ai 0 Aa) h1).q fun a F => ?_
       refine Bj F (Ah F Aa Aa Aa Aa) Aa (An Aa) (Am (y := Value.int .i64 x10) (j := 0) (i := x8) F Aa Aa (Ai 0 Aa) h1 Fl.int.to T3 Aa).q fun a F => ?_
       iterate 2 refine Bj F (Ah F Aa Aa Aa Aa) Aa (An Aa) (Af F Aa).q fun a F => ?_
       refine Bj F (Ah F Aa Aa Aa Aa) Aa (An Aa) (Cd F Aa Aa Aa).q fun a F => ?_
       obtain ⟨x11, h2, H⟩ := Aj H
       refine Bj F (Ah F Aa Aa Aa Aa) Aa (An Aa) (Ay (r := (Rp.int .i64)) CK F Aa Aa (Ai 0 Aa) h2).q fun a F => ?_
       refine Bj F (Ah F Aa Aa Aa Aa) Aa (An Aa) (Am (y := Value.int .i64 x11) (j := 0) (i := AJ (x8 - 1)) F Aa Aa (Ai 0 Aa) h2 Fl.int.to T3 Aa).q fun a F => ?_
       refine Bj F (Ah F Aa Aa Aa Aa) Aa (An Aa) (Be (v := Value.bool (AO x10 x11)) F KW Aa (fun w W => BL any w x10 x11 _ Aa)) fun a F => ?_
       refine Bj F (Ah F Aa Aa Aa Aa) Aa (An Aa) (Eh F Aa).q fun a F => ?_
       refine qs F Aa (Bc F Aa Aa Aa).q fun a F => ?_
       refine AX fun w W => ?_
       refine Ac ?_
       exact ⟨_, H, F.re ⟨rfl, Aa, Aa, Aa, Aa, Aa, Aa, trivial⟩, W⟩
      have H := A3 (Bx hb) H
      rw [hb] at F
      clear hb
      iterate 11 refine CS F (Cu F Aa Aa Aa Aa Aa) Aa Aa fun a F => ?_
      refine qs F Aa (AU F Aa Aa Aa).q fun a F => ?_
      refine AX fun w W => ?_
      refine Ac ?_
      exact ⟨_, H, F.re ⟨rfl, Aa, Aa, Aa, Aa, Aa, Aa, trivial⟩, W⟩
     rintro a w ⟨x9, hj, F, W⟩
     have hj := AV hj
     subst hj
     have H := K6
     clear G6 K6
     refine Ao F Aa (fun hb => ?_) fun hb => ?_
     ·
      have H := A5 hb H
      rw [hb] at F
      clear hb
      refine Au (Ac (Ap (Ab ?_)))
      refine ls F W Aa (Af F Aa).q fun a w F W => ?_
      refine ls F W Aa (BM F Aa Aa Aa).q fun a w F W => ?_
      refine ls F W Aa (Ad F Aa).q fun a w F W => ?_
      refine Ae (A6 (Ac ?_))
      exact ⟨_, H, F.re ⟨rfl, Aa, Aa, Aa, Aa, Aa, trivial⟩, W⟩
     have H := A3 (by rw [hb]; decide) H
     rw [hb] at F
     clear hb
     refine BK ?_
     iterate 2 refine B7 ?_
     refine BN (Ac ?_)
     have H := L5 _ H
     exact ⟨_, H, F.re ⟨rfl, Aa, Aa, Aa, Aa, Aa, trivial⟩, W⟩
    rintro a w ⟨x7, hj, F, W⟩
    have hj := AV hj
    subst hj
    have H := K4
    clear G4 K4
    refine Ag (Ag (Ab ?_))
    iterate 2 refine ls F W Aa (Af F Aa).q fun a w F W => ?_
    refine ls F W Aa (BU F Aa Aa).q fun a w F W => ?_
    refine Ae (Ac ?_)
    refine Ao F Aa (fun hb => ?_) fun hb => ?_
    ·
     have H := A5 (Bv hb) H
     rw [hb] at F
     clear hb
     refine Ag (Ab ?_)
     refine ls F W Aa (Ad F Aa).q fun a w F W => ?_
     refine Ae (Ac (Aw (A4 (A0 ?_))))
     iterate 2 refine A4 ?_
     refine A0 (A4 ?_)
     have H := L3 _ H
     have H := L2 _ H
     have H := L1 _ H
     have H := AV H
     subst H
     refine A2 (.inl Aa) F W Aa (AB F Aa) ?_
     exact ⟨(), Aa, W⟩
    have H := A3 (Bx hb) H
    rw [hb] at F
    clear hb
    refine Au (Ac (Ag (Ag (Ab ?_))))
    iterate 2 refine ls F W Aa (Af F Aa).q fun a w F W => ?_
    refine ls F W Aa (Cd F Aa Aa Aa).q fun a w F W => ?_
    refine ls F W Aa (Df F Aa Aa).q fun a w F W => ?_
    refine Ae (Ac ?_)
    refine Ao F Aa (fun hb => ?_) fun hb => ?_
    ·
     have H := A5 (Bv hb) H
     rw [hb] at F
     clear hb
     refine Ag (Ab ?_)
     refine ls F W Aa (Ad F Aa).q fun a w F W => ?_
     refine Ae (Ac (Aw (A4 (A0 ?_))))
     iterate 2 refine A4 ?_
     refine A0 (A4 ?_)
     have H := L3 _ H
     have H := L2 _ H
     have H := L1 _ H
     have H := AV H
     subst H
     refine A2 (.inl Aa) F W Aa (AB F Aa) ?_
     exact ⟨(), Aa, W⟩
    have H := A3 (Bx hb) H
    rw [hb] at F
    clear hb
    refine Au (Ac (Ag ?_))
    refine EC [(true, 0), (true, 1), (true, 2), (true, 3), (true, 4), (true, 5), (true, 6), (true, 7), (true, 8), (true, 9), (true, 10), (true, 11), (true, 12), (true, 13), (true, 14), (false, 15), (true, 16), (false, 17)] (CN ⟨Y, X, w0⟩ [] [(some 15, row v1 3 (Rp.int .i64) x2)]) (fun ch a d v w h => by cases d <;> exact h) MO (by kernel_rfl) W (fun w W => ⟨_, _, W, A8, (BB (fun _ => (.head _)) A8)⟩) fun w W => ?_
    iterate 4 refine BO (R := []) F Aa Aa (yC fun M Z hN hZ => Af F Aa) Aa Aa fun a F => ?_
    refine BO (R := []) F Aa Aa (yC fun M Z hN hZ => Cd F Aa Aa Aa) Aa Aa fun a F => ?_
    iterate 2 refine BO (R := []) F Aa Aa (yC fun M Z hN hZ => Af F Aa) Aa Aa fun a F => ?_
    refine BO (R := []) F Aa Aa (yC fun M Z hN hZ => Cd F Aa Aa Aa) Aa Aa fun a F => ?_
    obtain ⟨x12, h3, H⟩ := Aj H
    refine BO (R := []) F Aa Aa (yC fun M Z hN hZ => BR (r := (Rp.int .i64)) CK F Aa Aa (C7 W (Ai 0 Aa)) h3) Aa Aa fun a F => ?_
    refine BO (R := [15]) F Aa Aa (yC fun M Z hN hZ => Am (y := Value.int .i64 x12) (j := 0) (i := AJ (x7 - 1)) F Aa Aa (C6 (hZ ((some 15), row v1 3 (Rp.int .i64) x2) (.head _) Aa)) h3 Fl.int.to T3 Aa) (by kernel_rfl) Aa fun a F => ?_
    iterate 2 refine BO (R := []) F Aa Aa (yC fun M Z hN hZ => Af F Aa) Aa Aa fun a F => ?_
    obtain ⟨x13, h4, H⟩ := Aj H
    refine BO (R := []) F Aa Aa (yC fun M Z hN hZ => BR (r := (Rp.int .i64)) CK F Aa Aa (C7 W (Ai 0 Aa)) h4) Aa Aa fun a F => ?_
    refine BO (R := [15]) F Aa Aa (yC fun M Z hN hZ => Am (y := Value.int .i64 x13) (j := 0) (i := x7) F Aa Aa (C6 (hZ ((some 15), row v1 3 (Rp.int .i64) x2) (.head _) Aa)) h4 Fl.int.to T3 Aa) (by kernel_rfl) Aa fun a F => ?_
    obtain ⟨x14, h5, H⟩ := Aj H
    refine BO (R := []) F Aa Aa (yC fun M Z hN hZ => BR (r := (Rp.int .i64)) CK F Aa Aa (C7 W (Ai 0 Aa)) h5) Aa Aa fun a F => ?_
    refine FW Aa ?_
    refine A9 (i := x7) (j := 0) (vs := [.int .i64 x12]) (x' := x12) F W Aa Aa Aa (k := 0) Aa Aa h5 T3 Aa Aa Aa Aa (fun A cs _ => Fl.int.sto (by rfl) _ _ _) fun w W => ?_
    refine C1 (N2 := []) (NZ2 := []) (N3 := []) (NZ3 := [(some 15, row v1 3 (Rp.int .i64) x2)]) W Aa Aa A8 (BB (fun h => Cr (by kernel_rfl) h) A8) ?_
    obtain ⟨x15, h6, H⟩ := Aj H
    refine BO (R := []) F Aa Aa (yC fun M Z hN hZ => BR (r := (Rp.int .i64)) CK F Aa Aa (C7 W (Ai 0 Aa)) h6) Aa Aa fun a F => ?_
    refine FW Aa ?_
    refine A9 (i := AJ (x7 - 1)) (j := 0) (vs := [.int .i64 x13]) (x' := x13) F W Aa Aa Aa (k := 0) Aa Aa h6 T3 Aa Aa Aa Aa (fun A cs _ => Fl.int.sto (by rfl) _ _ _) fun w W => ?_
    refine C1 (N2 := []) (NZ2 := []) (N3 := []) (NZ3 := [(some 15, row v1 3 (Rp.int .i64) x2)]) W Aa Aa A8 (BB (fun h => Cr (by kernel_rfl) h) A8) ?_
    refine Ge (Ac ?_)
    obtain ⟨o7, G7, K7⟩ := Aj H
    refine AW (fun a w => ∃ x16 : List Int, some (x16) = some o7 ∧ Fr 133 [] [(0, v1), (1, .int .i64 p1), (2, .int .i64 p2), (6, .bool false), (7, .int .i64 x7), (8, .int .i64 x4)] a ∧ Stw ⟨Y, X, w0⟩ [] [row v1 3 (Rp.int .i64) x16] w) ?_ ?_
    ·
     have H := G7
     clear G7 K7
     refine Ag (Ab ?_)
     iterate 2 refine ls F W Aa (Af F Aa).q fun a w F W => ?_
     refine ls F W Aa (Cd F Aa Aa Aa).q fun a w F W => ?_
     refine ls F W Aa (DT F Aa Aa).q fun a w F W => ?_
     refine Ae (Ac ?_)
     refine Ao F Aa (fun hb => ?_) fun hb => ?_
     ·
      have H := A5 (Bv hb) H
      rw [hb] at F
      clear hb
      refine Ag (Ab ?_)
      refine ls F W Aa (Af F Aa).q fun a w F W => ?_
      refine ls F W Aa (Cd F Aa Aa Aa).q fun a w F W => ?_
      refine ls F W Aa (Ad F Aa).q fun a w F W => ?_
      refine Ae (Ac (Ap ?_))
      refine BV H (fun s a w => Fr 133 [] [(0, v1), (1, .int .i64 p1), (2, .int .i64 p2), (6, .bool false), (7, .int .i64 x7), (8, .int .i64 x4), (9, .int .i64 s.2)] a ∧ Stw ⟨Y, X, w0⟩ [] [row v1 3 (Rp.int .i64) s.1] w) ⟨F.re ⟨rfl, Aa, Aa, Aa, Aa, Aa, Aa, trivial⟩, W⟩ fun s o a w H L8 hR => ?_
      obtain ⟨x17, x18⟩ := s
      obtain ⟨F, W⟩ := hR
      have F : Fr 133 [] [(0, v1), (1, .int .i64 p1), (2, .int .i64 p2), (6, .bool false), (7, .int .i64 x7), (8, .int .i64 x4), (9, .int .i64 x18)] a := F
      have W : Stw ⟨Y, X, w0⟩ [] [row v1 3 (Rp.int .i64) x17] w := W
      rw [AD] at H
      refine Ag (Ag (Ab ?_))
      refine ls F W Aa (Af F Aa).q fun a w F W => ?_
      refine ls F W Aa (DT F Aa Aa).q fun a w F W => ?_
      refine Ae (Ac ?_)
      refine Ao F Aa (fun hb => ?_) fun hb => ?_
      ·
       have H := A5 (Bv hb) H
       rw [hb] at F
       clear hb
       refine Au (Ac (Ag (Ap ?_)))
       iterate 2 refine Ag ?_
       refine Cb W MO (by kernel_rfl) ?_
       iterate 2 refine qs F Aa (Af F Aa).q fun a F => ?_
       obtain ⟨x19, h7, H⟩ := Aj H
       refine qs F Aa (Ay (r := (Rp.int .i64)) CK F Aa Aa (Ai 0 Aa) h7).q fun a F => ?_
       refine qs F Aa (Am (y := Value.int .i64 x19) (j := 0) (i := x18) F Aa Aa (Ai 0 Aa) h7 Fl.int.to T3 Aa).q fun a F => ?_
       iterate 2 refine qs F Aa (Af F Aa).q fun a F => ?_
       refine qs F Aa (Cd F Aa Aa Aa).q fun a F => ?_
       obtain ⟨x20, h8, H⟩ := Aj H
       refine qs F Aa (Ay (r := (Rp.int .i64)) CK F Aa Aa (Ai 0 Aa) h8).q fun a F => ?_
       refine qs F Aa (Am (y := Value.int .i64 x20) (j := 0) (i := AJ (x18 - 1)) F Aa Aa (Ai 0 Aa) h8 Fl.int.to T3 Aa).q fun a F => ?_
       refine qs F Aa (Be (v := Value.bool (AO x19 x20)) F KW Aa (fun w W => BL any w x19 x20 _ Aa)) fun a F => ?_
       refine qs F Aa (Eh F Aa).q fun a F => ?_
       refine AX fun w W => ?_
       refine Ac ?_
       refine Ao F Aa (fun hb => ?_) fun hb => ?_
       ·
        have H := A5 hb H
        rw [hb] at F
        clear hb
        refine BK (B7 ?_)
        refine Iu Aa ?_
        iterate 2 refine B7 ?_
        refine BN (Ac ?_)
        have H := L8 _ H
        exact ⟨_, H, F.re ⟨rfl, Aa, Aa, Aa, Aa, Aa, trivial⟩, W⟩
       have H := A3 (by rw [hb]; decide) H
       rw [hb] at F
       clear hb
       refine Au (Ac ?_)
       refine EC [(true, 0), (true, 1), (true, 2), (true, 3), (true, 4), (true, 5), (true, 6), (true, 7), (true, 8), (true, 9), (true, 10), (true, 11), (true, 12), (true, 13), (true, 14), (false, 15), (true, 16), (false, 17)] (CN ⟨Y, X, w0⟩ [] [(some 15, row v1 3 (Rp.int .i64) x17)]) (fun ch a d v w h => by cases d <;> exact h) MO (by kernel_rfl) W (fun w W => ⟨_, _, W, A8, (BB (fun _ => (.head _)) A8)⟩) fun w W => ?_
       iterate 4 refine BO (R := []) F Aa Aa (yC fun M Z hN hZ => Af F Aa) Aa Aa fun a F => ?_
       refine BO (R := []) F Aa Aa (yC fun M Z hN hZ => Cd F Aa Aa Aa) Aa Aa fun a F => ?_
       iterate 2 refine BO (R := []) F Aa Aa (yC fun M Z hN hZ => Af F Aa) Aa Aa fun a F => ?_
       refine BO (R := []) F Aa Aa (yC fun M Z hN hZ => Cd F Aa Aa Aa) Aa Aa fun a F => ?_
       obtain ⟨x21, h9, H⟩ := Aj H
       refine BO (R := []) F Aa Aa (yC fun M Z hN hZ => BR (r := (Rp.int .i64)) CK F Aa Aa (C7 W (Ai 0 Aa)) h9) Aa Aa fun a F => ?_
       refine BO (R := [15]) F Aa Aa (yC fun M Z hN hZ => Am (y := Value.int .i64 x21) (j := 0) (i := AJ (x18 - 1)) F Aa Aa (C6 (hZ ((some 15), row v1 3 (Rp.int .i64) x17) (.head _) Aa)) h9 Fl.int.to T3 Aa) (by kernel_rfl) Aa fun a F => ?_
       iterate 2 refine BO (R := []) F Aa Aa (yC fun M Z hN hZ => Af F Aa) Aa Aa fun a F => ?_
       obtain ⟨x22, h10, H⟩ := Aj H
       refine BO (R := []) F Aa Aa (yC fun M Z hN hZ => BR (r := (Rp.int .i64)) CK F Aa Aa (C7 W (Ai 0 Aa)) h10) Aa Aa fun a F => ?_
       refine BO (R := [15]) F Aa Aa (yC fun M Z hN hZ => Am (y := Value.int .i64 x22) (j := 0) (i := x18) F Aa Aa (C6 (hZ ((some 15), row v1 3 (Rp.int .i64) x17) (.head _) Aa)) h10 Fl.int.to T3 Aa) (by kernel_rfl) Aa fun a F => ?_
       obtain ⟨x23, h11, H⟩ := Aj H
       refine BO (R := []) F Aa Aa (yC fun M Z hN hZ => BR (r := (Rp.int .i64)) CK F Aa Aa (C7 W (Ai 0 Aa)) h11) Aa Aa fun a F => ?_
       refine FW Aa ?_
       refine A9 (i := x18) (j := 0) (vs := [.int .i64 x21]) (x' := x21) F W Aa Aa Aa (k := 0) Aa Aa h11 T3 Aa Aa Aa Aa (fun A cs _ => Fl.int.sto (by rfl) _ _ _) fun w W => ?_
       refine C1 (N2 := []) (NZ2 := []) (N3 := []) (NZ3 := [(some 15, row v1 3 (Rp.int .i64) x17)]) W Aa Aa A8 (BB (fun h => Cr (by kernel_rfl) h) A8) ?_
       obtain ⟨x24, h12, H⟩ := Aj H
       refine BO (R := []) F Aa Aa (yC fun M Z hN hZ => BR (r := (Rp.int .i64)) CK F Aa Aa (C7 W (Ai 0 Aa)) h12) Aa Aa fun a F => ?_
       refine FW Aa ?_
       refine A9 (i := AJ (x18 - 1)) (j := 0) (vs := [.int .i64 x22]) (x' := x22) F W Aa Aa Aa (k := 0) Aa Aa h12 T3 Aa Aa Aa Aa (fun A cs _ => Fl.int.sto (by rfl) _ _ _) fun w W => ?_
       refine C1 (N2 := []) (NZ2 := []) (N3 := []) (NZ3 := [(some 15, row v1 3 (Rp.int .i64) x17)]) W Aa Aa A8 (BB (fun h => Cr (by kernel_rfl) h) A8) ?_
       refine Ge (A6 (Ac (Ab ?_)))
       refine ls F W Aa (Af F Aa).q fun a w F W => ?_
       refine ls F W Aa (Cd F Aa Aa Aa).q fun a w F W => ?_
       refine ls F W Aa (Ad F Aa).q fun a w F W => ?_
       refine Ae (Ac ?_)
       exact ⟨_, H, F.re ⟨rfl, Aa, Aa, Aa, Aa, Aa, Aa, trivial⟩, W⟩
      have H := A3 (Bx hb) H
      rw [hb] at F
      clear hb
      refine BK ?_
      iterate 2 refine B7 ?_
      refine BN (Ac ?_)
      have H := L8 _ H
      exact ⟨_, H, F.re ⟨rfl, Aa, Aa, Aa, Aa, Aa, trivial⟩, W⟩
     have H := A3 (Bx hb) H
     rw [hb] at F
     clear hb
     refine Au (Ac ?_)
     exact ⟨_, H, F.re ⟨rfl, Aa, Aa, Aa, Aa, Aa, trivial⟩, W⟩
    rintro a w ⟨x16, hj, F, W⟩
    have hj := AV hj
    subst hj
    have H := K7
    clear G7 K7
    refine Ag (Ab ?_)
    iterate 2 refine ls F W Aa (Af F Aa).q fun a w F W => ?_
    refine ls F W Aa (Cd F Aa Aa Aa).q fun a w F W => ?_
    refine ls F W Aa (DT F Aa Aa).q fun a w F W => ?_
    refine Ae (Ac ?_)
    refine Ao F Aa (fun hb => ?_) fun hb => ?_
    ·
     have H := A5 (Bv hb) H
     rw [hb] at F
     clear hb
     refine Ag (Ab ?_)
     refine ls F W Aa (Af F Aa).q fun a w F W => ?_
     refine ls F W Aa (BM F Aa Aa Aa).q fun a w F W => ?_
     refine ls F W Aa (Ad F Aa).q fun a w F W => ?_
     refine Ae (Ac (Ap ?_))
     refine BV H (fun s a w => Fr 133 [] [(0, v1), (1, .int .i64 p1), (2, .int .i64 p2), (6, .bool false), (7, .int .i64 x7), (8, .int .i64 x4), (10, .int .i64 s.2)] a ∧ Stw ⟨Y, X, w0⟩ [] [row v1 3 (Rp.int .i64) s.1] w) ⟨F.re ⟨rfl, Aa, Aa, Aa, Aa, Aa, Aa, trivial⟩, W⟩ fun s o a w H L9 hR => ?_
     obtain ⟨x25, x26⟩ := s
     obtain ⟨F, W⟩ := hR
     have F : Fr 133 [] [(0, v1), (1, .int .i64 p1), (2, .int .i64 p2), (6, .bool false), (7, .int .i64 x7), (8, .int .i64 x4), (10, .int .i64 x26)] a := F
     have W : Stw ⟨Y, X, w0⟩ [] [row v1 3 (Rp.int .i64) x25] w := W
     rw [AH] at H
     refine Ag (Ag (Ab ?_))
     iterate 2 refine ls F W Aa (Af F Aa).q fun a w F W => ?_
     refine ls F W Aa (Df F Aa Aa).q fun a w F W => ?_
     refine Ae (Ac ?_)
     refine Ao F Aa (fun hb => ?_) fun hb => ?_
     ·
      have H := A5 (Bv hb) H
      rw [hb] at F
      clear hb
      refine Au (Ac (Ag (Ap ?_)))
      iterate 2 refine Ag ?_
      refine Cb W MO (by kernel_rfl) ?_
      iterate 2 refine qs F Aa (Af F Aa).q fun a F => ?_
      obtain ⟨x27, h13, H⟩ := Aj H
      refine qs F Aa (Ay (r := (Rp.int .i64)) CK F Aa Aa (Ai 0 Aa) h13).q fun a F => ?_
      refine qs F Aa (Am (y := Value.int .i64 x27) (j := 0) (i := x26) F Aa Aa (Ai 0 Aa) h13 Fl.int.to T3 Aa).q fun a F => ?_
      iterate 2 refine qs F Aa (Af F Aa).q fun a F => ?_
      refine qs F Aa (Cd F Aa Aa Aa).q fun a F => ?_
      obtain ⟨x28, h14, H⟩ := Aj H
      refine qs F Aa (Ay (r := (Rp.int .i64)) CK F Aa Aa (Ai 0 Aa) h14).q fun a F => ?_
      refine qs F Aa (Am (y := Value.int .i64 x28) (j := 0) (i := AJ (x26 - 1)) F Aa Aa (Ai 0 Aa) h14 Fl.int.to T3 Aa).q fun a F => ?_
      refine qs F Aa (Be (v := Value.bool (AO x27 x28)) F KW Aa (fun w W => BL any w x27 x28 _ Aa)) fun a F => ?_
      refine qs F Aa (Eh F Aa).q fun a F => ?_
      refine AX fun w W => ?_
      refine Ac ?_
      refine Ao F Aa (fun hb => ?_) fun hb => ?_
      ·
       have H := A5 hb H
       rw [hb] at F
       clear hb
       refine BK (B7 ?_)
       refine Iu Aa ?_
       iterate 2 refine B7 ?_
       refine BN (A6 (Ac ?_))
       have H := L9 _ H
       exact ⟨_, _, H, F.re ⟨rfl, Aa, Aa, Aa, Aa, Aa, trivial⟩, W⟩
      have H := A3 (by rw [hb]; decide) H
      rw [hb] at F
      clear hb
      refine Au (Ac ?_)
      refine EC [(true, 0), (true, 1), (true, 2), (true, 3), (true, 4), (true, 5), (true, 6), (true, 7), (true, 8), (true, 9), (true, 10), (true, 11), (true, 12), (true, 13), (true, 14), (false, 15), (true, 16), (false, 17)] (CN ⟨Y, X, w0⟩ [] [(some 15, row v1 3 (Rp.int .i64) x25)]) (fun ch a d v w h => by cases d <;> exact h) MO (by kernel_rfl) W (fun w W => ⟨_, _, W, A8, (BB (fun _ => (.head _)) A8)⟩) fun w W => ?_
      iterate 4 refine BO (R := []) F Aa Aa (yC fun M Z hN hZ => Af F Aa) Aa Aa fun a F => ?_
      refine BO (R := []) F Aa Aa (yC fun M Z hN hZ => Cd F Aa Aa Aa) Aa Aa fun a F => ?_
      iterate 2 refine BO (R := []) F Aa Aa (yC fun M Z hN hZ => Af F Aa) Aa Aa fun a F => ?_
      refine BO (R := []) F Aa Aa (yC fun M Z hN hZ => Cd F Aa Aa Aa) Aa Aa fun a F => ?_
      obtain ⟨x29, h15, H⟩ := Aj H
      refine BO (R := []) F Aa Aa (yC fun M Z hN hZ => BR (r := (Rp.int .i64)) CK F Aa Aa (C7 W (Ai 0 Aa)) h15) Aa Aa fun a F => ?_
      refine BO (R := [15]) F Aa Aa (yC fun M Z hN hZ => Am (y := Value.int .i64 x29) (j := 0) (i := AJ (x26 - 1)) F Aa Aa (C6 (hZ ((some 15), row v1 3 (Rp.int .i64) x25) (.head _) Aa)) h15 Fl.int.to T3 Aa) (by kernel_rfl) Aa fun a F => ?_
      iterate 2 refine BO (R := []) F Aa Aa (yC fun M Z hN hZ => Af F Aa) Aa Aa fun a F => ?_
      obtain ⟨x30, h16, H⟩ := Aj H
      refine BO (R := []) F Aa Aa (yC fun M Z hN hZ => BR (r := (Rp.int .i64)) CK F Aa Aa (C7 W (Ai 0 Aa)) h16) Aa Aa fun a F => ?_
      refine BO (R := [15]) F Aa Aa (yC fun M Z hN hZ => Am (y := Value.int .i64 x30) (j := 0) (i := x26) F Aa Aa (C6 (hZ ((some 15), row v1 3 (Rp.int .i64) x25) (.head _) Aa)) h16 Fl.int.to T3 Aa) (by kernel_rfl) Aa fun a F => ?_
      obtain ⟨x31, h17, H⟩ := Aj H
      refine BO (R := []) F Aa Aa (yC fun M Z hN hZ => BR (r := (Rp.int .i64)) CK F Aa Aa (C7 W (Ai 0 Aa)) h17) Aa Aa fun a F => ?_
      refine FW Aa ?_
      refine A9 (i := x26) (j := 0) (vs := [.int .i64 x29]) (x' := x29) F W Aa Aa Aa (k := 0) Aa Aa h17 T3 Aa Aa Aa Aa (fun A cs _ => Fl.int.sto (by rfl) _ _ _) fun w W => ?_
      refine C1 (N2 := []) (NZ2 := []) (N3 := []) (NZ3 := [(some 15, row v1 3 (Rp.int .i64) x25)]) W Aa Aa A8 (BB (fun h => Cr (by kernel_rfl) h) A8) ?_
      obtain ⟨x32, h18, H⟩ := Aj H
      refine BO (R := []) F Aa Aa (yC fun M Z hN hZ => BR (r := (Rp.int .i64)) CK F Aa Aa (C7 W (Ai 0 Aa)) h18) Aa Aa fun a F => ?_
      refine FW Aa ?_
      refine A9 (i := AJ (x26 - 1)) (j := 0) (vs := [.int .i64 x30]) (x' := x30) F W Aa Aa Aa (k := 0) Aa Aa h18 T3 Aa Aa Aa Aa (fun A cs _ => Fl.int.sto (by rfl) _ _ _) fun w W => ?_
      refine C1 (N2 := []) (NZ2 := []) (N3 := []) (NZ3 := [(some 15, row v1 3 (Rp.int .i64) x25)]) W Aa Aa A8 (BB (fun h => Cr (by kernel_rfl) h) A8) ?_
      refine Ge (A6 (Ac (Ab ?_)))
      refine ls F W Aa (Af F Aa).q fun a w F W => ?_
      refine ls F W Aa (BM F Aa Aa Aa).q fun a w F W => ?_
      refine ls F W Aa (Ad F Aa).q fun a w F W => ?_
      refine Ae (Ac ?_)
      exact ⟨_, H, F.re ⟨rfl, Aa, Aa, Aa, Aa, Aa, Aa, trivial⟩, W⟩
     have H := A3 (Bx hb) H
     rw [hb] at F
     clear hb
     refine BK ?_
     iterate 2 refine B7 ?_
     refine BN (A6 (Ac ?_))
     have H := L9 _ H
     exact ⟨_, _, H, F.re ⟨rfl, Aa, Aa, Aa, Aa, Aa, trivial⟩, W⟩
    have H := A3 (Bx hb) H
    rw [hb] at F
    clear hb
    refine Au (A6 (Ac ?_))
    exact ⟨_, _, H, F.re ⟨rfl, Aa, Aa, Aa, Aa, Aa, trivial⟩, W⟩
   rintro a w ⟨x5, x6, hj, F, W⟩
   have H := K3 _ hj
   clear hj G3 K3 L3
   refine Ab ?_
   refine ls F W Aa (Af F Aa).q fun a w F W => ?_
   refine ls F W Aa (BM F Aa Aa Aa).q fun a w F W => ?_
   refine ls F W Aa (Ad F Aa).q fun a w F W => ?_
   refine Ae (Ac ?_)
   exact ⟨_, H, F.re ⟨rfl, Aa, Aa, Aa, Aa, Aa, trivial⟩, W⟩
  have H := A3 (Bx hb) H
  rw [hb] at F
  clear hb
  refine BK ?_
  iterate 2 refine B7 ?_
  refine BN (Ac ?_)
  have H := L2 _ H
  exact ⟨_, H, F.re ⟨rfl, trivial⟩, W⟩
 rintro a w ⟨x1, hj, F, W⟩
 have H := K1 _ hj
 clear hj G1 K1 L1
 refine Ag (Ab ?_)
 refine ls F W Aa (Ad F Aa).q fun a w F W => ?_
 refine Ae (Ac (Aw ?_))
 have H := AV H
 subst H
 refine A2 (.inl Aa) F W Aa (AB F Aa) ?_
 exact ⟨(), Aa, W⟩
theorem ON : Has Tryd.prog 65 := ⟨fun args w => Ak Tryd.func65 rfl (by decide) args w⟩
noncomputable def Bq (p1 : Int) (x7 : List Int) (x9 : Int) : Int → Option (Int ⊕ Int)
  | x11 => (if x11 ≤ x9 then (ix x7 p1).bind fun x13 => (ix x7 x11).bind fun x14 => some (!(AO x13 x14)) else some false).bind fun x12 => (if x12 = true then some (.inl (AJ (x11 + 1))) else some (.inr x11))
noncomputable def Br (p1 : Int) (x7 : List Int) (x10 : Int) : Int → Option (Int ⊕ Int)
  | x16 => (if x10 ≤ x16 then (ix x7 p1).bind fun x18 => (ix x7 x16).bind fun x19 => some (AO x18 x19) else some false).bind fun x17 => (if x17 = true then some (.inl (AJ (x16 - 1))) else some (.inr x16))
noncomputable def Bi (p1 : Int) : (List Int × Int × Int) → Option ((List Int × Int × Int) ⊕ (Int × List Int))
  | (x7, x8, x9) => (AZ (Bq p1 x7 x9) x8).bind fun x10 => (AZ (Br p1 x7 x10) x9).bind fun x15 => (if x15 < x10 then some (.inr (x10, x7)) else (ix x7 x15).bind fun x20 => (ix x7 x10).bind fun x21 => (ix x7 x10).bind fun x22 => (ix (AM x7 x10 x20) x15).bind fun x23 => some (.inl ((AM (AM x7 x10 x20) x15 x21), AJ (x10 + 1), AJ (x15 - 1))))
noncomputable def BJ (p0 : List Int) (p1 : Int) (p2 : Int) (p3 : Int) : Option (Int × List Int) := (ix p0 p3).bind fun x1 => (ix p0 p1).bind fun x2 => (ix p0 p1).bind fun x3 => (ix (AM p0 p1 x1) p3).bind fun x4 => (AZ (Bi p1) ((AM (AM p0 p1 x1) p3 x2), AJ (p1 + 1), AJ (p2 - 1))).bind fun (x5, x6) => some (x5, x6)
theorem D3 (Y : Nat → Prop) (X : List Nat) (w0 : World) (v1 : Value) (p0 : List Int) (p1 : Int) (p2 : Int) (p3 : Int) (r : Int × List Int) (H : BJ p0 p1 p2 p3 = some r) (hL : Stw ⟨Y, X, w0⟩ [] [row v1 3 (Rp.int .i64) p0] w0) :
    Calls Tryd.prog 67 #[v1, .int .i64 p1, .int .i64 p2, .int .i64 p3] w0 fun e w' => ∃ x : Unit, e = .returned (.int .i64 r.1) ∧ Stw ⟨Y, X, w0⟩ [] [row v1 3 (Rp.int .i64) r.2] w' := by
 refine enter Tryd.func67 Aa Tryd.ntmps67 Aa fun a F => ?_
 have W := hL
 unfold BJ at H
 refine Ag (Ab ?_)
 refine ls F W Aa (Ad F Aa).q fun a w F W => ?_
 refine Ae (Ac (Ag ?_))
 refine Fc 13 [2, 3] [0, 1, 4, 5, 6, 7, 8, 9, 10, 11, 12] (fun ch a d v w h => by cases d <;> exact h) W MO (by kernel_rfl) ?_
 iterate 2 refine hm F Aa Aa Aa fun a F => ?_
 refine Gg ?_
 iterate 4 refine hs F Aa Aa Aa (Af F Aa).q fun a F => ?_
 obtain ⟨x1, h1, H⟩ := Aj H
 refine hs F Aa Aa Aa (Ay (r := (Rp.int .i64)) CK F Aa Aa (Ai 0 Aa) h1).q fun a F => ?_
 refine hs F Aa Aa Aa (Am (y := Value.int .i64 x1) (j := 0) (i := p3) F Aa Aa (Ai 0 Aa) h1 Fl.int.to T3 Aa).q fun a F => ?_
 iterate 2 refine hs F Aa Aa Aa (Af F Aa).q fun a F => ?_
 obtain ⟨x2, h2, H⟩ := Aj H
 refine hs F Aa Aa Aa (Ay (r := (Rp.int .i64)) CK F Aa Aa (Ai 0 Aa) h2).q fun a F => ?_
 refine hs F Aa Aa Aa (Am (y := Value.int .i64 x2) (j := 0) (i := p1) F Aa Aa (Ai 0 Aa) h2 Fl.int.to T3 Aa).q fun a F => ?_
 obtain ⟨x3, h3, H⟩ := Aj H
 refine hs F Aa Aa Aa (Ay (r := (Rp.int .i64)) CK F Aa Aa (Ai 0 Aa) h3).q fun a F => ?_
 refine Hu fun w W => ?_
 have W : Stw ⟨Y, X, w0⟩ [] [row v1 3 (Rp.int .i64) p0] w := W
 refine A9 (i := p1) (j := 0) (vs := [.int .i64 x1]) (x' := x1) F W Aa Aa Aa (k := 0) Aa Aa h3 T3 Aa Aa Aa Aa (fun A cs _ => Fl.int.sto (by rfl) _ _ _) fun w W => ?_
 obtain ⟨x4, h4, H⟩ := Aj H
 refine ls F W Aa (Ay (r := (Rp.int .i64)) CK F Aa Aa (Ai 0 Aa) h4).q fun a w F W => ?_
 refine A9 (i := p3) (j := 0) (vs := [.int .i64 x2]) (x' := x2) F W Aa Aa Aa (k := 0) Aa Aa h4 T3 Aa Aa Aa Aa (fun A cs _ => Fl.int.sto (by rfl) _ _ _) fun w W => ?_
 refine Ae (Ac (Ag (Ab ?_)))
 refine ls F W Aa (Af F Aa).q fun a w F W => ?_
 refine ls F W Aa (BM F Aa Aa Aa).q fun a w F W => ?_
 refine ls F W Aa (Af F Aa).q fun a w F W => ?_
 refine ls F W Aa (Cd F Aa Aa Aa).q fun a w F W => ?_
 iterate 2 refine ls F W Aa (Ad F Aa).q fun a w F W => ?_
 refine Ae (Ac ?_)
 obtain ⟨o1, G1, K1⟩ := Aj H
 refine AW (fun a w => ∃ x5 : Int, ∃ x6 : List Int, some ((x5, x6)) = some o1 ∧ Fr 84 [] [(8, .int .i64 0), (9, .int .i64 x5)] a ∧ Stw ⟨Y, X, w0⟩ [] [row v1 3 (Rp.int .i64) x6] w) ?_ ?_
 ·
  have H := G1
  clear G1 K1
  refine Ap ?_
  refine BV H (fun s a w => Fr 84 [] [(0, v1), (1, .int .i64 p1), (8, .int .i64 0), (9, .int .i64 s.2.1), (10, .int .i64 s.2.2)] a ∧ Stw ⟨Y, X, w0⟩ [] [row v1 3 (Rp.int .i64) s.1] w) ⟨F.re ⟨rfl, Aa, Aa, Aa, Aa, trivial⟩, W⟩ fun s o a w H L2 hR => ?_
  obtain ⟨x7, x8, x9⟩ := s
  obtain ⟨F, W⟩ := hR
  have F : Fr 84 [] [(0, v1), (1, .int .i64 p1), (8, .int .i64 0), (9, .int .i64 x8), (10, .int .i64 x9)] a := F
  have W : Stw ⟨Y, X, w0⟩ [] [row v1 3 (Rp.int .i64) x7] w := W
  rw [Bi] at H
  refine Ap ?_
  obtain ⟨o3, G3, K3⟩ := Aj H
  refine AW (fun a w => ∃ x10 : Int, some (x10) = some o3 ∧ Fr 84 [] [(0, v1), (1, .int .i64 p1), (8, .int .i64 0), (9, .int .i64 x10), (10, .int .i64 x9)] a ∧ Stw ⟨Y, X, w0⟩ [] [row v1 3 (Rp.int .i64) x7] w) ?_ ?_
  ·
   have H := G3
   clear G3 K3
   refine Ap ?_
   refine BV H (fun s a w => Fr 84 [] [(0, v1), (1, .int .i64 p1), (8, .int .i64 0), (9, .int .i64 s), (10, .int .i64 x9)] a ∧ Stw ⟨Y, X, w0⟩ [] [row v1 3 (Rp.int .i64) x7] w) ⟨F.re ⟨rfl, Aa, Aa, Aa, Aa, trivial⟩, W⟩ fun s o a w H L4 hR => ?_
   obtain ⟨x11, rfl⟩ : ∃ x, x = s := ⟨s, rfl⟩
   obtain ⟨F, W⟩ := hR
   have F : Fr 84 [] [(0, v1), (1, .int .i64 p1), (8, .int .i64 0), (9, .int .i64 x11), (10, .int .i64 x9)] a := F
   have W : Stw ⟨Y, X, w0⟩ [] [row v1 3 (Rp.int .i64) x7] w := W
   rw [Bq] at H
   refine Ag ?_
   obtain ⟨o5, G5, K5⟩ := Aj H
   refine AW (fun a w => ∃ x12 : Bool, some (x12) = some o5 ∧ Fr 84 [] [(0, v1), (1, .int .i64 p1), (8, .int .i64 0), (9, .int .i64 x11), (10, .int .i64 x9), (43, .bool x12)] a ∧ Stw ⟨Y, X, w0⟩ [] [row v1 3 (Rp.int .i64) x7] w) ?_ ?_
   ·
    have H := G5
    clear G5 K5
    refine Cb W MO (by kernel_rfl) ?_
    iterate 2 refine qs F Aa (Af F Aa).q fun a F => ?_
    refine qs F Aa (FC F Aa Aa).q fun a F => ?_
    refine qs F Aa (Af F Aa).q fun a F => ?_
    rcases Bool.eq_false_or_eq_true (decide (x11 ≤ x9)) with hb | hb
    ·
     have H := A5 (Bv hb) H
     rw [hb] at F
     clear hb
     iterate 2 refine Bj F (Ah F Aa Aa Aa Aa) Aa (An Aa) (Af F Aa).q fun a F => ?_
     obtain ⟨x13, h5, H⟩ := Aj H
     refine Bj F (Ah F Aa Aa Aa Aa) Aa (An Aa) (Ay (r := (Rp.int .i64)) CK F Aa Aa (Ai 0 Aa) h5).q fun a F => ?_
     refine Bj F (Ah F Aa Aa Aa Aa) Aa (An Aa) (Am (y := Value.int .i64 x13) (j := 0) (i := p1) F Aa Aa (Ai 0 Aa) h5 Fl.int.to T3 Aa).q fun a F => ?_
     iterate 2 refine Bj F (Ah F Aa Aa Aa Aa) Aa (An Aa) (Af F Aa).q fun a F => ?_
     obtain ⟨x14, h6, H⟩ := Aj H
     refine Bj F (Ah F Aa Aa Aa Aa) Aa (An Aa) (Ay (r := (Rp.int .i64)) CK F Aa Aa (Ai 0 Aa) h6).q fun a F => ?_
     refine Bj F (Ah F Aa Aa Aa Aa) Aa (An Aa) (Am (y := Value.int .i64 x14) (j := 0) (i := x11) F Aa Aa (Ai 0 Aa) h6 Fl.int.to T3 Aa).q fun a F => ?_
     refine Bj F (Ah F Aa Aa Aa Aa) Aa (An Aa) (Be (v := Value.bool (AO x13 x14)) F KW Aa (fun w W => BL any w x13 x14 _ Aa)) fun a F => ?_
     refine Bj F (Ah F Aa Aa Aa Aa) Aa (An Aa) (Eh F Aa).q fun a F => ?_
     refine qs F Aa (Bc F Aa Aa Aa).q fun a F => ?_
     refine AX fun w W => ?_
     refine Ac ?_
     exact ⟨_, H, F.re ⟨rfl, Aa, Aa, Aa, Aa, Aa, trivial⟩, W⟩
    have H := A3 (Bx hb) H
    rw [hb] at F
    clear hb
    iterate 10 refine CS F (Cu F Aa Aa Aa Aa Aa) Aa Aa fun a F => ?_
    refine qs F Aa (AU F Aa Aa Aa).q fun a F => ?_
    refine AX fun w W => ?_
    refine Ac ?_
    exact ⟨_, H, F.re ⟨rfl, Aa, Aa, Aa, Aa, Aa, trivial⟩, W⟩
   rintro a w ⟨x12, hj, F, W⟩
   have hj := AV hj
   subst hj
   have H := K5
   clear G5 K5
   refine Ao F Aa (fun hb => ?_) fun hb => ?_
   ·
    have H := A5 hb H
    rw [hb] at F
    clear hb
    refine Au (Ac (Ap (Ab ?_)))
    refine ls F W Aa (Af F Aa).q fun a w F W => ?_
    refine ls F W Aa (BM F Aa Aa Aa).q fun a w F W => ?_
    refine ls F W Aa (Ad F Aa).q fun a w F W => ?_
    refine Ae (A6 (Ac ?_))
    exact ⟨_, H, F.re ⟨rfl, Aa, Aa, Aa, Aa, trivial⟩, W⟩
   have H := A3 (by rw [hb]; decide) H
   rw [hb] at F
   clear hb
   refine BK ?_
   iterate 2 refine B7 ?_
   refine BN (Ac ?_)
   have H := L4 _ H
   exact ⟨_, H, F.re ⟨rfl, Aa, Aa, Aa, Aa, trivial⟩, W⟩
  rintro a w ⟨x10, hj, F, W⟩
  have hj := AV hj
  subst hj
  have H := K3
  clear G3 K3
  obtain ⟨o6, G6, K6⟩ := Aj H
  refine AW (fun a w => ∃ x15 : Int, some (x15) = some o6 ∧ Fr 84 [] [(0, v1), (1, .int .i64 p1), (8, .int .i64 0), (9, .int .i64 x10), (10, .int .i64 x15)] a ∧ Stw ⟨Y, X, w0⟩ [] [row v1 3 (Rp.int .i64) x7] w) ?_ ?_
  ·
   have H := G6
   clear G6 K6
   refine Ap ?_
   refine BV H (fun s a w => Fr 84 [] [(0, v1), (1, .int .i64 p1), (8, .int .i64 0), (9, .int .i64 x10), (10, .int .i64 s)] a ∧ Stw ⟨Y, X, w0⟩ [] [row v1 3 (Rp.int .i64) x7] w) ⟨F.re ⟨rfl, Aa, Aa, Aa, Aa, trivial⟩, W⟩ fun s o a w H L7 hR => ?_
   obtain ⟨x16, rfl⟩ : ∃ x, x = s := ⟨s, rfl⟩
   obtain ⟨F, W⟩ := hR
   have F : Fr 84 [] [(0, v1), (1, .int .i64 p1), (8, .int .i64 0), (9, .int .i64 x10), (10, .int .i64 x16)] a := F
   have W : Stw ⟨Y, X, w0⟩ [] [row v1 3 (Rp.int .i64) x7] w := W
   rw [Br] at H
   refine Ag ?_
   obtain ⟨o8, G8, K8⟩ := Aj H
   refine AW (fun a w => ∃ x17 : Bool, some (x17) = some o8 ∧ Fr 84 [] [(0, v1), (1, .int .i64 p1), (8, .int .i64 0), (9, .int .i64 x10), (10, .int .i64 x16), (59, .bool x17)] a ∧ Stw ⟨Y, X, w0⟩ [] [row v1 3 (Rp.int .i64) x7] w) ?_ ?_
   ·
    have H := G8
    clear G8 K8
    refine Cb W MO (by kernel_rfl) ?_
    iterate 2 refine qs F Aa (Af F Aa).q fun a F => ?_
    refine qs F Aa (FC F Aa Aa).q fun a F => ?_
    refine qs F Aa (Af F Aa).q fun a F => ?_
    rcases Bool.eq_false_or_eq_true (decide (x10 ≤ x16)) with hb | hb
    ·
     have H := A5 (Bv hb) H
     rw [hb] at F
     clear hb
     iterate 2 refine Bj F (Ah F Aa Aa Aa Aa) Aa (An Aa) (Af F Aa).q fun a F => ?_
     obtain ⟨x18, h7, H⟩ := Aj H
     refine Bj F (Ah F Aa Aa Aa Aa) Aa (An Aa) (Ay (r := (Rp.int .i64)) CK F Aa Aa (Ai 0 Aa) h7).q fun a F => ?_
     refine Bj F (Ah F Aa Aa Aa Aa) Aa (An Aa) (Am (y := Value.int .i64 x18) (j := 0) (i := p1) F Aa Aa (Ai 0 Aa) h7 Fl.int.to T3 Aa).q fun a F => ?_
     iterate 2 refine Bj F (Ah F Aa Aa Aa Aa) Aa (An Aa) (Af F Aa).q fun a F => ?_
     obtain ⟨x19, h8, H⟩ := Aj H
     refine Bj F (Ah F Aa Aa Aa Aa) Aa (An Aa) (Ay (r := (Rp.int .i64)) CK F Aa Aa (Ai 0 Aa) h8).q fun a F => ?_
     refine Bj F (Ah F Aa Aa Aa Aa) Aa (An Aa) (Am (y := Value.int .i64 x19) (j := 0) (i := x16) F Aa Aa (Ai 0 Aa) h8 Fl.int.to T3 Aa).q fun a F => ?_
     refine Bj F (Ah F Aa Aa Aa Aa) Aa (An Aa) (Be (v := Value.bool (AO x18 x19)) F KW Aa (fun w W => BL any w x18 x19 _ Aa)) fun a F => ?_
     refine qs F Aa (Bc F Aa Aa Aa).q fun a F => ?_
     refine AX fun w W => ?_
     refine Ac ?_
     exact ⟨_, H, F.re ⟨rfl, Aa, Aa, Aa, Aa, Aa, trivial⟩, W⟩
    have H := A3 (Bx hb) H
    rw [hb] at F
    clear hb
    iterate 9 refine CS F (Cu F Aa Aa Aa Aa Aa) Aa Aa fun a F => ?_
    refine qs F Aa (AU F Aa Aa Aa).q fun a F => ?_
    refine AX fun w W => ?_
    refine Ac ?_
    exact ⟨_, H, F.re ⟨rfl, Aa, Aa, Aa, Aa, Aa, trivial⟩, W⟩
   rintro a w ⟨x17, hj, F, W⟩
   have hj := AV hj
   subst hj
   have H := K8
   clear G8 K8
   refine Ao F Aa (fun hb => ?_) fun hb => ?_
   ·
    have H := A5 hb H
    rw [hb] at F
    clear hb
    refine Au (Ac (Ap (Ab ?_)))
    refine ls F W Aa (Af F Aa).q fun a w F W => ?_
    refine ls F W Aa (Cd F Aa Aa Aa).q fun a w F W => ?_
    refine ls F W Aa (Ad F Aa).q fun a w F W => ?_
    refine Ae (A6 (Ac ?_))
    exact ⟨_, H, F.re ⟨rfl, Aa, Aa, Aa, Aa, trivial⟩, W⟩
   have H := A3 (by rw [hb]; decide) H
   rw [hb] at F
   clear hb
   refine BK ?_
   iterate 2 refine B7 ?_
   refine BN (Ac ?_)
   have H := L7 _ H
   exact ⟨_, H, F.re ⟨rfl, Aa, Aa, Aa, Aa, trivial⟩, W⟩
  rintro a w ⟨x15, hj, F, W⟩
  have hj := AV hj
  subst hj
  have H := K6
  clear G6 K6
  refine Ag (Ag (Ab ?_))
  iterate 2 refine ls F W Aa (Af F Aa).q fun a w F W => ?_
  refine ls F W Aa (Hw F Aa Aa).q fun a w F W => ?_
  refine Ae (Ac ?_)
  refine Ao F Aa (fun hb => ?_) fun hb => ?_
  ·
   have H := A5 (Bv hb) H
   rw [hb] at F
   clear hb
   refine BK (B7 ?_)
   refine Iu Aa ?_
   refine B7 (BN (Ac ?_))
   have H := L2 _ H
   exact ⟨_, _, H, F.re ⟨rfl, Aa, trivial⟩, W⟩
  have H := A3 (Bx hb) H
  rw [hb] at F
  clear hb
  refine Au (Ac (Ag ?_))
  refine Fc 13 [2, 3] [0, 1, 4, 5, 6, 7, 8, 9, 10, 11, 12] (fun ch a d v w h => by cases d <;> exact h) W MO (by kernel_rfl) ?_
  iterate 2 refine hm F Aa Aa Aa fun a F => ?_
  refine Gg ?_
  iterate 4 refine hs F Aa Aa Aa (Af F Aa).q fun a F => ?_
  obtain ⟨x20, h9, H⟩ := Aj H
  refine hs F Aa Aa Aa (Ay (r := (Rp.int .i64)) CK F Aa Aa (Ai 0 Aa) h9).q fun a F => ?_
  refine hs F Aa Aa Aa (Am (y := Value.int .i64 x20) (j := 0) (i := x15) F Aa Aa (Ai 0 Aa) h9 Fl.int.to T3 Aa).q fun a F => ?_
  iterate 2 refine hs F Aa Aa Aa (Af F Aa).q fun a F => ?_
  obtain ⟨x21, h10, H⟩ := Aj H
  refine hs F Aa Aa Aa (Ay (r := (Rp.int .i64)) CK F Aa Aa (Ai 0 Aa) h10).q fun a F => ?_
  refine hs F Aa Aa Aa (Am (y := Value.int .i64 x21) (j := 0) (i := x10) F Aa Aa (Ai 0 Aa) h10 Fl.int.to T3 Aa).q fun a F => ?_
  obtain ⟨x22, h11, H⟩ := Aj H
  refine hs F Aa Aa Aa (Ay (r := (Rp.int .i64)) CK F Aa Aa (Ai 0 Aa) h11).q fun a F => ?_
  refine Hu fun w W => ?_
  have W : Stw ⟨Y, X, w0⟩ [] [row v1 3 (Rp.int .i64) x7] w := W
  refine A9 (i := x10) (j := 0) (vs := [.int .i64 x20]) (x' := x20) F W Aa Aa Aa (k := 0) Aa Aa h11 T3 Aa Aa Aa Aa (fun A cs _ => Fl.int.sto (by rfl) _ _ _) fun w W => ?_
  obtain ⟨x23, h12, H⟩ := Aj H
  refine ls F W Aa (Ay (r := (Rp.int .i64)) CK F Aa Aa (Ai 0 Aa) h12).q fun a w F W => ?_
  refine A9 (i := x15) (j := 0) (vs := [.int .i64 x21]) (x' := x21) F W Aa Aa Aa (k := 0) Aa Aa h12 T3 Aa Aa Aa Aa (fun A cs _ => Fl.int.sto (by rfl) _ _ _) fun w W => ?_
  refine Ae (Ac (Ag (Ab ?_)))
  refine ls F W Aa (Af F Aa).q fun a w F W => ?_
  refine ls F W Aa (BM F Aa Aa Aa).q fun a w F W => ?_
  refine ls F W Aa (Ad F Aa).q fun a w F W => ?_
  refine Ae (Ac (Ab ?_))
  refine ls F W Aa (Af F Aa).q fun a w F W => ?_
  refine ls F W Aa (Cd F Aa Aa Aa).q fun a w F W => ?_
  refine ls F W Aa (Ad F Aa).q fun a w F W => ?_
  refine Ae (A6 (Ac ?_))
  exact ⟨_, H, F.re ⟨rfl, Aa, Aa, Aa, Aa, trivial⟩, W⟩
 rintro a w ⟨x5, x6, hj, F, W⟩
 have hj := AV hj
 subst hj
 have H := K1
 clear G1 K1
 refine Ag (Ab ?_)
 refine ls F W Aa (Af F Aa).q fun a w F W => ?_
 refine ls F W Aa (Ad F Aa).q fun a w F W => ?_
 refine Ae (Ac (Aw ?_))
 have H := AV H
 subst H
 refine A2 (.inl Aa) F W Aa (AB F Aa) ?_
 exact ⟨(), Aa, W⟩
theorem OG : Has Tryd.prog 67 := ⟨fun args w => Ak Tryd.func67 rfl (by decide) args w⟩
noncomputable def Bw (p0 : List Int) (p1 : Int) (p2 : Int) (p3 : Int) (x1 : Int) (x2 : Int) : Int → Option (Int ⊕ Int)
  | x6 => (if x6 ≤ (AJ (p2 - 1)) then (ix (AM (AM p0 p1 x1) p3 x2) x6).bind fun x8 => (ix (AM (AM p0 p1 x1) p3 x2) p1).bind fun x9 => some (AO x8 x9) else some false).bind fun x7 => (if x7 = true then some (.inl (AJ (x6 + 1))) else some (.inr x6))
noncomputable def B1 (p0 : List Int) (p1 : Int) (p3 : Int) (x1 : Int) (x2 : Int) (x5 : Int) : Int → Option (Int ⊕ Int)
  | x11 => (if x5 ≤ x11 then (ix (AM (AM p0 p1 x1) p3 x2) x11).bind fun x13 => (ix (AM (AM p0 p1 x1) p3 x2) p1).bind fun x14 => some (!(AO x13 x14)) else some false).bind fun x12 => (if x12 = true then some (.inl (AJ (x11 - 1))) else some (.inr x11))
noncomputable def BZ (p1 : Int) (x25 : List Int) (x27 : Int) : Int → Option (Int ⊕ Int)
  | x29 => (if x29 ≤ x27 then (ix x25 x29).bind fun x31 => (ix x25 p1).bind fun x32 => some (AO x31 x32) else some false).bind fun x30 => (if x30 = true then some (.inl (AJ (x29 + 1))) else some (.inr x29))
noncomputable def BW (p1 : Int) (x25 : List Int) (x28 : Int) : Int → Option (Int ⊕ Int)
  | x34 => (if x28 ≤ x34 then (ix x25 x34).bind fun x36 => (ix x25 p1).bind fun x37 => some (!(AO x36 x37)) else some false).bind fun x35 => (if x35 = true then some (.inl (AJ (x34 - 1))) else some (.inr x34))
noncomputable def Bl (p1 : Int) : (List Int × Int × Int) → Option ((List Int × Int × Int) ⊕ (List Int × Int))
  | (x25, x26, x27) => (AZ (BZ p1 x25 x27) x26).bind fun x28 => (AZ (BW p1 x25 x28) x27).bind fun x33 => (if x33 < x28 then some (.inr (x25, x33)) else (ix x25 x33).bind fun x38 => (ix x25 x28).bind fun x39 => (ix x25 x28).bind fun x40 => (ix (AM x25 x28 x38) x33).bind fun x41 => some (.inl ((AM (AM x25 x28 x38) x33 x39), AJ (x28 + 1), AJ (x33 - 1))))
noncomputable def Ci (p0 : List Int) (p1 : Int) (p2 : Int) (p3 : Int) : Option (Int × Bool × List Int) := (ix p0 p3).bind fun x1 => (ix p0 p1).bind fun x2 => (ix p0 p1).bind fun x3 => (ix (AM p0 p1 x1) p3).bind fun x4 => (AZ (Bw p0 p1 p2 p3 x1 x2) (AJ (p1 + 1))).bind fun x5 => (AZ (B1 p0 p1 p3 x1 x2 x5) (AJ (p2 - 1))).bind fun x10 => (if x10 < x5 then (ix (AM (AM p0 p1 x1) p3 x2) p1).bind fun x15 => (ix (AM (AM p0 p1 x1) p3 x2) x10).bind fun x16 => (ix (AM (AM p0 p1 x1) p3 x2) x10).bind fun x17 => (ix (AM (AM (AM p0 p1 x1) p3 x2) x10 x15) p1).bind fun x18 => some (x10, true, (AM (AM (AM (AM p0 p1 x1) p3 x2) x10 x15) p1 x16)) else (ix (AM (AM p0 p1 x1) p3 x2) x10).bind fun x19 => (ix (AM (AM p0 p1 x1) p3 x2) x5).bind fun x20 => (ix (AM (AM p0 p1 x1) p3 x2) x5).bind fun x21 => (ix (AM (AM (AM p0 p1 x1) p3 x2) x5 x19) x10).bind fun x22 => (AZ (Bl p1) ((AM (AM (AM (AM p0 p1 x1) p3 x2) x5 x19) x10 x20), AJ (x5 + 1), AJ (x10 - 1))).bind fun (x23, x24) => (ix x23 p1).bind fun x42 => (ix x23 x24).bind fun x43 => (ix x23 x24).bind fun x44 => (ix (AM x23 x24 x42) p1).bind fun x45 => some (x24, false, (AM (AM x23 x24 x42) p1 x43)))
theorem EF (Y : Nat → Prop) (X : List Nat) (w0 : World) (v1 : Value) (p0 : List Int) (p1 : Int) (p2 : Int) (p3 : Int) (r : Int × Bool × List Int) (H : Ci p0 p1 p2 p3 = some r) (hL : Stw ⟨Y, X, w0⟩ [] [row v1 3 (Rp.int .i64) p0] w0) :
    Calls Tryd.prog 68 #[v1, .int .i64 p1, .int .i64 p2, .int .i64 p3] w0 fun e w' => ∃ x : Unit, e = .returned (.tuple #[.int .i64 r.1, .bool r.2.1]) ∧ Stw ⟨Y, X, w0⟩ [] [row v1 3 (Rp.int .i64) r.2.2] w' := by
 refine enter Tryd.func68 Aa Tryd.ntmps68 Aa fun a F => ?_
 have W := hL
 unfold Ci at H
 refine Ag (Ab ?_)
 iterate 2 refine ls F W Aa (Ad F Aa).q fun a w F W => ?_
 refine Ae (Ac (Ag ?_))
 refine Fc 13 [2, 3] [0, 1, 4, 5, 6, 7, 8, 9, 10, 11, 12] (fun ch a d v w h => by cases d <;> exact h) W MO (by kernel_rfl) ?_
 iterate 2 refine hm F Aa Aa Aa fun a F => ?_
 refine Gg ?_
 iterate 4 refine hs F Aa Aa Aa (Af F Aa).q fun a F => ?_
 obtain ⟨x1, h1, H⟩ := Aj H
 refine hs F Aa Aa Aa (Ay (r := (Rp.int .i64)) CK F Aa Aa (Ai 0 Aa) h1).q fun a F => ?_
 refine hs F Aa Aa Aa (Am (y := Value.int .i64 x1) (j := 0) (i := p3) F Aa Aa (Ai 0 Aa) h1 Fl.int.to T3 Aa).q fun a F => ?_
 iterate 2 refine hs F Aa Aa Aa (Af F Aa).q fun a F => ?_
 obtain ⟨x2, h2, H⟩ := Aj H
 refine hs F Aa Aa Aa (Ay (r := (Rp.int .i64)) CK F Aa Aa (Ai 0 Aa) h2).q fun a F => ?_
 refine hs F Aa Aa Aa (Am (y := Value.int .i64 x2) (j := 0) (i := p1) F Aa Aa (Ai 0 Aa) h2 Fl.int.to T3 Aa).q fun a F => ?_
 obtain ⟨x3, h3, H⟩ := Aj H
 refine hs F Aa Aa Aa (Ay (r := (Rp.int .i64)) CK F Aa Aa (Ai 0 Aa) h3).q fun a F => ?_
 refine Hu fun w W => ?_
 have W : Stw ⟨Y, X, w0⟩ [] [row v1 3 (Rp.int .i64) p0] w := W
 refine A9 (i := p1) (j := 0) (vs := [.int .i64 x1]) (x' := x1) F W Aa Aa Aa (k := 0) Aa Aa h3 T3 Aa Aa Aa Aa (fun A cs _ => Fl.int.sto (by rfl) _ _ _) fun w W => ?_
 obtain ⟨x4, h4, H⟩ := Aj H
 refine ls F W Aa (Ay (r := (Rp.int .i64)) CK F Aa Aa (Ai 0 Aa) h4).q fun a w F W => ?_
 refine A9 (i := p3) (j := 0) (vs := [.int .i64 x2]) (x' := x2) F W Aa Aa Aa (k := 0) Aa Aa h4 T3 Aa Aa Aa Aa (fun A cs _ => Fl.int.sto (by rfl) _ _ _) fun w W => ?_
 refine Ae (Ac (Ag (Ab ?_)))
 refine ls F W Aa (Af F Aa).q fun a w F W => ?_
 refine ls F W Aa (BM F Aa Aa Aa).q fun a w F W => ?_
 refine ls F W Aa (Af F Aa).q fun a w F W => ?_
 refine ls F W Aa (Cd F Aa Aa Aa).q fun a w F W => ?_
 iterate 2 refine ls F W Aa (Ad F Aa).q fun a w F W => ?_
 refine Ae (Ac ?_)
 obtain ⟨o1, G1, K1⟩ := Aj H
 refine AW (fun a w => ∃ x5 : Int, some (x5) = some o1 ∧ Fr 168 [] [(0, v1), (1, .int .i64 p1), (8, .int .i64 0), (9, .bool false), (10, .int .i64 x5), (11, .int .i64 (AJ (p2 - 1)))] a ∧ Stw ⟨Y, X, w0⟩ [] [row v1 3 (Rp.int .i64) (AM (AM p0 p1 x1) p3 x2)] w) ?_ ?_
 ·
  have H := G1
  clear G1 K1
  refine Ap ?_
  refine BV H (fun s a w => Fr 168 [] [(0, v1), (1, .int .i64 p1), (8, .int .i64 0), (9, .bool false), (10, .int .i64 s), (11, .int .i64 (AJ (p2 - 1)))] a ∧ Stw ⟨Y, X, w0⟩ [] [row v1 3 (Rp.int .i64) (AM (AM p0 p1 x1) p3 x2)] w) ⟨F.re ⟨rfl, Aa, Aa, Aa, Aa, Aa, trivial⟩, W⟩ fun s o a w H L2 hR => ?_
  obtain ⟨x6, rfl⟩ : ∃ x, x = s := ⟨s, rfl⟩
  obtain ⟨F, W⟩ := hR
  have F : Fr 168 [] [(0, v1), (1, .int .i64 p1), (8, .int .i64 0), (9, .bool false), (10, .int .i64 x6), (11, .int .i64 (AJ (p2 - 1)))] a := F
  have W : Stw ⟨Y, X, w0⟩ [] [row v1 3 (Rp.int .i64) (AM (AM p0 p1 x1) p3 x2)] w := W
  rw [Bw] at H
  refine Ag ?_
  obtain ⟨o3, G3, K3⟩ := Aj H
  refine AW (fun a w => ∃ x7 : Bool, some (x7) = some o3 ∧ Fr 168 [] [(0, v1), (1, .int .i64 p1), (8, .int .i64 0), (9, .bool false), (10, .int .i64 x6), (11, .int .i64 (AJ (p2 - 1))), (43, .bool x7)] a ∧ Stw ⟨Y, X, w0⟩ [] [row v1 3 (Rp.int .i64) (AM (AM p0 p1 x1) p3 x2)] w) ?_ ?_
  ·
   have H := G3
   clear G3 K3
   refine Cb W MO (by kernel_rfl) ?_
   iterate 2 refine qs F Aa (Af F Aa).q fun a F => ?_
   refine qs F Aa (FC F Aa Aa).q fun a F => ?_
   refine qs F Aa (Af F Aa).q fun a F => ?_
   rcases Bool.eq_false_or_eq_true (decide (x6 ≤ (AJ (p2 - 1)))) with hb | hb
   ·
    have H := A5 (Bv hb) H
    rw [hb] at F
    clear hb
    iterate 2 refine Bj F (Ah F Aa Aa Aa Aa) Aa (An Aa) (Af F Aa).q fun a F => ?_
    obtain ⟨x8, h5, H⟩ := Aj H
    refine Bj F (Ah F Aa Aa Aa Aa) Aa (An Aa) (Ay (r := (Rp.int .i64)) CK F Aa Aa (Ai 0 Aa) h5).q fun a F => ?_
    refine Bj F (Ah F Aa Aa Aa Aa) Aa (An Aa) (Am (y := Value.int .i64 x8) (j := 0) (i := x6) F Aa Aa (Ai 0 Aa) h5 Fl.int.to T3 Aa).q fun a F => ?_
    iterate 2 refine Bj F (Ah F Aa Aa Aa Aa) Aa (An Aa) (Af F Aa).q fun a F => ?_
    obtain ⟨x9, h6, H⟩ := Aj H
    refine Bj F (Ah F Aa Aa Aa Aa) Aa (An Aa) (Ay (r := (Rp.int .i64)) CK F Aa Aa (Ai 0 Aa) h6).q fun a F => ?_
    refine Bj F (Ah F Aa Aa Aa Aa) Aa (An Aa) (Am (y := Value.int .i64 x9) (j := 0) (i := p1) F Aa Aa (Ai 0 Aa) h6 Fl.int.to T3 Aa).q fun a F => ?_
    refine Bj F (Ah F Aa Aa Aa Aa) Aa (An Aa) (Be (v := Value.bool (AO x8 x9)) F KW Aa (fun w W => BL any w x8 x9 _ Aa)) fun a F => ?_
    refine qs F Aa (Bc F Aa Aa Aa).q fun a F => ?_
    refine AX fun w W => ?_
    refine Ac ?_
    exact ⟨_, H, F.re ⟨rfl, Aa, Aa, Aa, Aa, Aa, Aa, trivial⟩, W⟩
   have H := A3 (Bx hb) H
   rw [hb] at F
   clear hb
   iterate 9 refine CS F (Cu F Aa Aa Aa Aa Aa) Aa Aa fun a F => ?_
   refine qs F Aa (AU F Aa Aa Aa).q fun a F => ?_
   refine AX fun w W => ?_
   refine Ac ?_
   exact ⟨_, H, F.re ⟨rfl, Aa, Aa, Aa, Aa, Aa, Aa, trivial⟩, W⟩
  rintro a w ⟨x7, hj, F, W⟩
  have hj := AV hj
  subst hj
  have H := K3
  clear G3 K3
  refine Ao F Aa (fun hb => ?_) fun hb => ?_
  ·
   have H := A5 hb H
   rw [hb] at F
   clear hb
   refine Au (Ac (Ap (Ab ?_)))
   refine ls F W Aa (Af F Aa).q fun a w F W => ?_
   refine ls F W Aa (BM F Aa Aa Aa).q fun a w F W => ?_
   refine ls F W Aa (Ad F Aa).q fun a w F W => ?_
   refine Ae (A6 (Ac ?_))
   exact ⟨_, H, F.re ⟨rfl, Aa, Aa, Aa, Aa, Aa, trivial⟩, W⟩
  have H := A3 (by rw [hb]; decide) H
  rw [hb] at F
  clear hb
  refine BK ?_
  iterate 2 refine B7 ?_
  refine BN (Ac ?_)
  have H := L2 _ H
  exact ⟨_, H, F.re ⟨rfl, Aa, Aa, Aa, Aa, Aa, trivial⟩, W⟩
 rintro a w ⟨x5, hj, F, W⟩
 have hj := AV hj
 subst hj
 have H := K1
 clear G1 K1
 obtain ⟨o4, G4, K4⟩ := Aj H
 refine AW (fun a w => ∃ x10 : Int, some (x10) = some o4 ∧ Fr 168 [] [(0, v1), (1, .int .i64 p1), (8, .int .i64 0), (9, .bool false), (10, .int .i64 x5), (11, .int .i64 x10)] a ∧ Stw ⟨Y, X, w0⟩ [] [row v1 3 (Rp.int .i64) (AM (AM p0 p1 x1) p3 x2)] w) ?_ ?_
 ·
  have H := G4
  clear G4 K4
  refine Ap ?_
  refine BV H (fun s a w => Fr 168 [] [(0, v1), (1, .int .i64 p1), (8, .int .i64 0), (9, .bool false), (10, .int .i64 x5), (11, .int .i64 s)] a ∧ Stw ⟨Y, X, w0⟩ [] [row v1 3 (Rp.int .i64) (AM (AM p0 p1 x1) p3 x2)] w) ⟨F.re ⟨rfl, Aa, Aa, Aa, Aa, Aa, trivial⟩, W⟩ fun s o a w H L5 hR => ?_
  obtain ⟨x11, rfl⟩ : ∃ x, x = s := ⟨s, rfl⟩
  obtain ⟨F, W⟩ := hR
  have F : Fr 168 [] [(0, v1), (1, .int .i64 p1), (8, .int .i64 0), (9, .bool false), (10, .int .i64 x5), (11, .int .i64 x11)] a := F
  have W : Stw ⟨Y, X, w0⟩ [] [row v1 3 (Rp.int .i64) (AM (AM p0 p1 x1) p3 x2)] w := W
  rw [B1] at H
  refine Ag ?_
  obtain ⟨o6, G6, K6⟩ := Aj H
  refine AW (fun a w => ∃ x12 : Bool, some (x12) = some o6 ∧ Fr 168 [] [(0, v1), (1, .int .i64 p1), (8, .int .i64 0), (9, .bool false), (10, .int .i64 x5), (11, .int .i64 x11), (60, .bool x12)] a ∧ Stw ⟨Y, X, w0⟩ [] [row v1 3 (Rp.int .i64) (AM (AM p0 p1 x1) p3 x2)] w) ?_ ?_
  ·
   have H := G6
   clear G6 K6
   refine Cb W MO (by kernel_rfl) ?_
   iterate 2 refine qs F Aa (Af F Aa).q fun a F => ?_
   refine qs F Aa (FC F Aa Aa).q fun a F => ?_
   refine qs F Aa (Af F Aa).q fun a F => ?_
   rcases Bool.eq_false_or_eq_true (decide (x5 ≤ x11)) with hb | hb
   ·
    have H := A5 (Bv hb) H
    rw [hb] at F
    clear hb
    iterate 2 refine Bj F (Ah F Aa Aa Aa Aa) Aa (An Aa) (Af F Aa).q fun a F => ?_
    obtain ⟨x13, h7, H⟩ := Aj H
    refine Bj F (Ah F Aa Aa Aa Aa) Aa (An Aa) (Ay (r := (Rp.int .i64)) CK F Aa Aa (Ai 0 Aa) h7).q fun a F => ?_
    refine Bj F (Ah F Aa Aa Aa Aa) Aa (An Aa) (Am (y := Value.int .i64 x13) (j := 0) (i := x11) F Aa Aa (Ai 0 Aa) h7 Fl.int.to T3 Aa).q fun a F => ?_
    iterate 2 refine Bj F (Ah F Aa Aa Aa Aa) Aa (An Aa) (Af F Aa).q fun a F => ?_
    obtain ⟨x14, h8, H⟩ := Aj H
    refine Bj F (Ah F Aa Aa Aa Aa) Aa (An Aa) (Ay (r := (Rp.int .i64)) CK F Aa Aa (Ai 0 Aa) h8).q fun a F => ?_
    refine Bj F (Ah F Aa Aa Aa Aa) Aa (An Aa) (Am (y := Value.int .i64 x14) (j := 0) (i := p1) F Aa Aa (Ai 0 Aa) h8 Fl.int.to T3 Aa).q fun a F => ?_
    refine Bj F (Ah F Aa Aa Aa Aa) Aa (An Aa) (Be (v := Value.bool (AO x13 x14)) F KW Aa (fun w W => BL any w x13 x14 _ Aa)) fun a F => ?_
    refine Bj F (Ah F Aa Aa Aa Aa) Aa (An Aa) (Eh F Aa).q fun a F => ?_
    refine qs F Aa (Bc F Aa Aa Aa).q fun a F => ?_
    refine AX fun w W => ?_
    refine Ac ?_
    exact ⟨_, H, F.re ⟨rfl, Aa, Aa, Aa, Aa, Aa, Aa, trivial⟩, W⟩
   have H := A3 (Bx hb) H
   rw [hb] at F
   clear hb
   iterate 10 refine CS F (Cu F Aa Aa Aa Aa Aa) Aa Aa fun a F => ?_
   refine qs F Aa (AU F Aa Aa Aa).q fun a F => ?_
   refine AX fun w W => ?_
   refine Ac ?_
   exact ⟨_, H, F.re ⟨rfl, Aa, Aa, Aa, Aa, Aa, Aa, trivial⟩, W⟩
  rintro a w ⟨x12, hj, F, W⟩
  have hj := AV hj
  subst hj
  have H := K6
  clear G6 K6
  refine Ao F Aa (fun hb => ?_) fun hb => ?_
  ·
   have H := A5 hb H
   rw [hb] at F
   clear hb
   refine Au (Ac (Ap (Ab ?_)))
   refine ls F W Aa (Af F Aa).q fun a w F W => ?_
   refine ls F W Aa (Cd F Aa Aa Aa).q fun a w F W => ?_
   refine ls F W Aa (Ad F Aa).q fun a w F W => ?_
   refine Ae (A6 (Ac ?_))
   exact ⟨_, H, F.re ⟨rfl, Aa, Aa, Aa, Aa, Aa, trivial⟩, W⟩
  have H := A3 (by rw [hb]; decide) H
  rw [hb] at F
  clear hb
  refine BK ?_
  iterate 2 refine B7 ?_
  refine BN (Ac ?_)
  have H := L5 _ H
  exact ⟨_, H, F.re ⟨rfl, Aa, Aa, Aa, Aa, Aa, trivial⟩, W⟩
 rintro a w ⟨x10, hj, F, W⟩
 have hj := AV hj
 subst hj
 have H := K4
 clear G4 K4
 refine Ag (Ag (Ab ?_))
 iterate 2 refine ls F W Aa (Af F Aa).q fun a w F W => ?_
 refine ls F W Aa (Hw F Aa Aa).q fun a w F W => ?_
 refine Ae (Ac ?_)
 refine Ao F Aa (fun hb => ?_) fun hb => ?_
 ·
  have H := A5 (Bv hb) H
  rw [hb] at F
  clear hb
  refine Ag ?_
  refine Fc 13 [2, 3] [0, 1, 4, 5, 6, 7, 8, 9, 10, 11, 12] (fun ch a d v w h => by cases d <;> exact h) W MO (by kernel_rfl) ?_
  iterate 2 refine hm F Aa Aa Aa fun a F => ?_
  refine Gg ?_
  iterate 4 refine hs F Aa Aa Aa (Af F Aa).q fun a F => ?_
  obtain ⟨x15, h9, H⟩ := Aj H
  refine hs F Aa Aa Aa (Ay (r := (Rp.int .i64)) CK F Aa Aa (Ai 0 Aa) h9).q fun a F => ?_
  refine hs F Aa Aa Aa (Am (y := Value.int .i64 x15) (j := 0) (i := p1) F Aa Aa (Ai 0 Aa) h9 Fl.int.to T3 Aa).q fun a F => ?_
  iterate 2 refine hs F Aa Aa Aa (Af F Aa).q fun a F => ?_
  obtain ⟨x16, h10, H⟩ := Aj H
  refine hs F Aa Aa Aa (Ay (r := (Rp.int .i64)) CK F Aa Aa (Ai 0 Aa) h10).q fun a F => ?_
  refine hs F Aa Aa Aa (Am (y := Value.int .i64 x16) (j := 0) (i := x10) F Aa Aa (Ai 0 Aa) h10 Fl.int.to T3 Aa).q fun a F => ?_
  obtain ⟨x17, h11, H⟩ := Aj H
  refine hs F Aa Aa Aa (Ay (r := (Rp.int .i64)) CK F Aa Aa (Ai 0 Aa) h11).q fun a F => ?_
  refine Hu fun w W => ?_
  have W : Stw ⟨Y, X, w0⟩ [] [row v1 3 (Rp.int .i64) (AM (AM p0 p1 x1) p3 x2)] w := W
  refine A9 (i := x10) (j := 0) (vs := [.int .i64 x15]) (x' := x15) F W Aa Aa Aa (k := 0) Aa Aa h11 T3 Aa Aa Aa Aa (fun A cs _ => Fl.int.sto (by rfl) _ _ _) fun w W => ?_
  obtain ⟨x18, h12, H⟩ := Aj H
  refine ls F W Aa (Ay (r := (Rp.int .i64)) CK F Aa Aa (Ai 0 Aa) h12).q fun a w F W => ?_
  refine A9 (i := p1) (j := 0) (vs := [.int .i64 x16]) (x' := x16) F W Aa Aa Aa (k := 0) Aa Aa h12 T3 Aa Aa Aa Aa (fun A cs _ => Fl.int.sto (by rfl) _ _ _) fun w W => ?_
  refine Ae (Ac (Ag (Ab ?_)))
  refine ls F W Aa (Af F Aa).q fun a w F W => ?_
  iterate 2 refine ls F W Aa (Ad F Aa).q fun a w F W => ?_
  refine Ae (Ac (Aw (A4 ?_)))
  have H := AV H
  subst H
  refine Ix (.inl Aa) F W Aa (AB F Aa) (AB F Aa) ?_
  exact ⟨(), Aa, W⟩
 have H := A3 (Bx hb) H
 rw [hb] at F
 clear hb
 refine Au (Ac (Ag ?_))
 refine Fc 13 [2, 3] [0, 1, 4, 5, 6, 7, 8, 9, 10, 11, 12] (fun ch a d v w h => by cases d <;> exact h) W MO (by kernel_rfl) ?_
 iterate 2 refine hm F Aa Aa Aa fun a F => ?_
 refine Gg ?_
 iterate 4 refine hs F Aa Aa Aa (Af F Aa).q fun a F => ?_
 obtain ⟨x19, h13, H⟩ := Aj H
 refine hs F Aa Aa Aa (Ay (r := (Rp.int .i64)) CK F Aa Aa (Ai 0 Aa) h13).q fun a F => ?_
 refine hs F Aa Aa Aa (Am (y := Value.int .i64 x19) (j := 0) (i := x10) F Aa Aa (Ai 0 Aa) h13 Fl.int.to T3 Aa).q fun a F => ?_
 iterate 2 refine hs F Aa Aa Aa (Af F Aa).q fun a F => ?_
 obtain ⟨x20, h14, H⟩ := Aj H
 refine hs F Aa Aa Aa (Ay (r := (Rp.int .i64)) CK F Aa Aa (Ai 0 Aa) h14).q fun a F => ?_
 refine hs F Aa Aa Aa (Am (y := Value.int .i64 x20) (j := 0) (i := x5) F Aa Aa (Ai 0 Aa) h14 Fl.int.to T3 Aa).q fun a F => ?_
 obtain ⟨x21, h15, H⟩ := Aj H
 refine hs F Aa Aa Aa (Ay (r := (Rp.int .i64)) CK F Aa Aa (Ai 0 Aa) h15).q fun a F => ?_
 refine Hu fun w W => ?_
 have W : Stw ⟨Y, X, w0⟩ [] [row v1 3 (Rp.int .i64) (AM (AM p0 p1 x1) p3 x2)] w := W
 refine A9 (i := x5) (j := 0) (vs := [.int .i64 x19]) (x' := x19) F W Aa Aa Aa (k := 0) Aa Aa h15 T3 Aa Aa Aa Aa (fun A cs _ => Fl.int.sto (by rfl) _ _ _) fun w W => ?_
 obtain ⟨x22, h16, H⟩ := Aj H
 refine ls F W Aa (Ay (r := (Rp.int .i64)) CK F Aa Aa (Ai 0 Aa) h16).q fun a w F W => ?_
 refine A9 (i := x10) (j := 0) (vs := [.int .i64 x20]) (x' := x20) F W Aa Aa Aa (k := 0) Aa Aa h16 T3 Aa Aa Aa Aa (fun A cs _ => Fl.int.sto (by rfl) _ _ _) fun w W => ?_
 refine Ae (Ac (Ag (Ab ?_)))
 refine ls F W Aa (Af F Aa).q fun a w F W => ?_
 refine ls F W Aa (BM F Aa Aa Aa).q fun a w F W => ?_
 refine ls F W Aa (Ad F Aa).q fun a w F W => ?_
 refine Ae (Ac (Ag (Ab ?_)))
 refine ls F W Aa (Af F Aa).q fun a w F W => ?_
 refine ls F W Aa (Cd F Aa Aa Aa).q fun a w F W => ?_
 refine ls F W Aa (Ad F Aa).q fun a w F W => ?_
 refine Ae (Ac ?_)
 obtain ⟨o7, G7, K7⟩ := Aj H
 refine AW (fun a w => ∃ x23 : List Int, ∃ x24 : Int, some ((x23, x24)) = some o7 ∧ Fr 168 [] [(0, v1), (1, .int .i64 p1), (8, .int .i64 0), (9, .bool false), (11, .int .i64 x24)] a ∧ Stw ⟨Y, X, w0⟩ [] [row v1 3 (Rp.int .i64) x23] w) ?_ ?_
 ·
  have H := G7
  clear G7 K7
  refine Ap ?_
  refine BV H (fun s a w => Fr 168 [] [(0, v1), (1, .int .i64 p1), (8, .int .i64 0), (9, .bool false), (10, .int .i64 s.2.1), (11, .int .i64 s.2.2)] a ∧ Stw ⟨Y, X, w0⟩ [] [row v1 3 (Rp.int .i64) s.1] w) ⟨F.re ⟨rfl, Aa, Aa, Aa, Aa, Aa, trivial⟩, W⟩ fun s o a w H L8 hR => ?_
  obtain ⟨x25, x26, x27⟩ := s
  obtain ⟨F, W⟩ := hR
  have F : Fr 168 [] [(0, v1), (1, .int .i64 p1), (8, .int .i64 0), (9, .bool false), (10, .int .i64 x26), (11, .int .i64 x27)] a := F
  have W : Stw ⟨Y, X, w0⟩ [] [row v1 3 (Rp.int .i64) x25] w := W
  rw [Bl] at H
  refine Ap ?_
  obtain ⟨o9, G9, K9⟩ := Aj H
  refine AW (fun a w => ∃ x28 : Int, some (x28) = some o9 ∧ Fr 168 [] [(0, v1), (1, .int .i64 p1), (8, .int .i64 0), (9, .bool false), (10, .int .i64 x28), (11, .int .i64 x27)] a ∧ Stw ⟨Y, X, w0⟩ [] [row v1 3 (Rp.int .i64) x25] w) ?_ ?_
  ·
   have H := G9
   clear G9 K9
   refine Ap ?_
   refine BV H (fun s a w => Fr 168 [] [(0, v1), (1, .int .i64 p1), (8, .int .i64 0), (9, .bool false), (10, .int .i64 s), (11, .int .i64 x27)] a ∧ Stw ⟨Y, X, w0⟩ [] [row v1 3 (Rp.int .i64) x25] w) ⟨F.re ⟨rfl, Aa, Aa, Aa, Aa, Aa, trivial⟩, W⟩ fun s o a w H L10 hR => ?_
   obtain ⟨x29, rfl⟩ : ∃ x, x = s := ⟨s, rfl⟩
   obtain ⟨F, W⟩ := hR
   have F : Fr 168 [] [(0, v1), (1, .int .i64 p1), (8, .int .i64 0), (9, .bool false), (10, .int .i64 x29), (11, .int .i64 x27)] a := F
   have W : Stw ⟨Y, X, w0⟩ [] [row v1 3 (Rp.int .i64) x25] w := W
   rw [BZ] at H
   refine Ag ?_
   obtain ⟨o11, G11, K11⟩ := Aj H
   refine AW (fun a w => ∃ x30 : Bool, some (x30) = some o11 ∧ Fr 168 [] [(0, v1), (1, .int .i64 p1), (8, .int .i64 0), (9, .bool false), (10, .int .i64 x29), (11, .int .i64 x27), (112, .bool x30)] a ∧ Stw ⟨Y, X, w0⟩ [] [row v1 3 (Rp.int .i64) x25] w) ?_ ?_
   ·
    have H := G11
    clear G11 K11
    refine Cb W MO (by kernel_rfl) ?_
    iterate 2 refine qs F Aa (Af F Aa).q fun a F => ?_
    refine qs F Aa (FC F Aa Aa).q fun a F => ?_
    refine qs F Aa (Af F Aa).q fun a F => ?_
    rcases Bool.eq_false_or_eq_true (decide (x29 ≤ x27)) with hb | hb
    ·
     have H := A5 (Bv hb) H
     rw [hb] at F
     clear hb
     iterate 2 refine Bj F (Ah F Aa Aa Aa Aa) Aa (An Aa) (Af F Aa).q fun a F => ?_
     obtain ⟨x31, h17, H⟩ := Aj H
     refine Bj F (Ah F Aa Aa Aa Aa) Aa (An Aa) (Ay (r := (Rp.int .i64)) CK F Aa Aa (Ai 0 Aa) h17).q fun a F => ?_
     refine Bj F (Ah F Aa Aa Aa Aa) Aa (An Aa) (Am (y := Value.int .i64 x31) (j := 0) (i := x29) F Aa Aa (Ai 0 Aa) h17 Fl.int.to T3 Aa).q fun a F => ?_
     iterate 2 refine Bj F (Ah F Aa Aa Aa Aa) Aa (An Aa) (Af F Aa).q fun a F => ?_
     obtain ⟨x32, h18, H⟩ := Aj H
     refine Bj F (Ah F Aa Aa Aa Aa) Aa (An Aa) (Ay (r := (Rp.int .i64)) CK F Aa Aa (Ai 0 Aa) h18).q fun a F => ?_
     refine Bj F (Ah F Aa Aa Aa Aa) Aa (An Aa) (Am (y := Value.int .i64 x32) (j := 0) (i := p1) F Aa Aa (Ai 0 Aa) h18 Fl.int.to T3 Aa).q fun a F => ?_
     refine Bj F (Ah F Aa Aa Aa Aa) Aa (An Aa) (Be (v := Value.bool (AO x31 x32)) F KW Aa (fun w W => BL any w x31 x32 _ Aa)) fun a F => ?_
     refine qs F Aa (Bc F Aa Aa Aa).q fun a F => ?_
     refine AX fun w W => ?_
     refine Ac ?_
     exact ⟨_, H, F.re ⟨rfl, Aa, Aa, Aa, Aa, Aa, Aa, trivial⟩, W⟩
    have H := A3 (Bx hb) H
    rw [hb] at F
    clear hb
    iterate 9 refine CS F (Cu F Aa Aa Aa Aa Aa) Aa Aa fun a F => ?_
    refine qs F Aa (AU F Aa Aa Aa).q fun a F => ?_
    refine AX fun w W => ?_
    refine Ac ?_
    exact ⟨_, H, F.re ⟨rfl, Aa, Aa, Aa, Aa, Aa, Aa, trivial⟩, W⟩
   rintro a w ⟨x30, hj, F, W⟩
   have hj := AV hj
   subst hj
   have H := K11
   clear G11 K11
   refine Ao F Aa (fun hb => ?_) fun hb => ?_
   ·
    have H := A5 hb H
    rw [hb] at F
    clear hb
    refine Au (Ac (Ap (Ab ?_)))
    refine ls F W Aa (Af F Aa).q fun a w F W => ?_
    refine ls F W Aa (BM F Aa Aa Aa).q fun a w F W => ?_
    refine ls F W Aa (Ad F Aa).q fun a w F W => ?_
    refine Ae (A6 (Ac ?_))
    exact ⟨_, H, F.re ⟨rfl, Aa, Aa, Aa, Aa, Aa, trivial⟩, W⟩
   have H := A3 (by rw [hb]; decide) H
   rw [hb] at F
   clear hb
   refine BK ?_
   iterate 2 refine B7 ?_
   refine BN (Ac ?_)
   have H := L10 _ H
   exact ⟨_, H, F.re ⟨rfl, Aa, Aa, Aa, Aa, Aa, trivial⟩, W⟩
  rintro a w ⟨x28, hj, F, W⟩
  have hj := AV hj
  subst hj
  have H := K9
  clear G9 K9
  obtain ⟨o12, G12, K12⟩ := Aj H
  refine AW (fun a w => ∃ x33 : Int, some (x33) = some o12 ∧ Fr 168 [] [(0, v1), (1, .int .i64 p1), (8, .int .i64 0), (9, .bool false), (10, .int .i64 x28), (11, .int .i64 x33)] a ∧ Stw ⟨Y, X, w0⟩ [] [row v1 3 (Rp.int .i64) x25] w) ?_ ?_
  ·
   have H := G12
   clear G12 K12
   refine Ap ?_
   refine BV H (fun s a w => Fr 168 [] [(0, v1), (1, .int .i64 p1), (8, .int .i64 0), (9, .bool false), (10, .int .i64 x28), (11, .int .i64 s)] a ∧ Stw ⟨Y, X, w0⟩ [] [row v1 3 (Rp.int .i64) x25] w) ⟨F.re ⟨rfl, Aa, Aa, Aa, Aa, Aa, trivial⟩, W⟩ fun s o a w H L13 hR => ?_
   obtain ⟨x34, rfl⟩ : ∃ x, x = s := ⟨s, rfl⟩
   obtain ⟨F, W⟩ := hR
   have F : Fr 168 [] [(0, v1), (1, .int .i64 p1), (8, .int .i64 0), (9, .bool false), (10, .int .i64 x28), (11, .int .i64 x34)] a := F
   have W : Stw ⟨Y, X, w0⟩ [] [row v1 3 (Rp.int .i64) x25] w := W
   rw [BW] at H
   refine Ag ?_
   obtain ⟨o14, G14, K14⟩ := Aj H
   refine AW (fun a w => ∃ x35 : Bool, some (x35) = some o14 ∧ Fr 168 [] [(0, v1), (1, .int .i64 p1), (8, .int .i64 0), (9, .bool false), (10, .int .i64 x28), (11, .int .i64 x34), (129, .bool x35)] a ∧ Stw ⟨Y, X, w0⟩ [] [row v1 3 (Rp.int .i64) x25] w) ?_ ?_
   ·
    have H := G14
    clear G14 K14
    refine Cb W MO (by kernel_rfl) ?_
    iterate 2 refine qs F Aa (Af F Aa).q fun a F => ?_
    refine qs F Aa (FC F Aa Aa).q fun a F => ?_
    refine qs F Aa (Af F Aa).q fun a F => ?_
    rcases Bool.eq_false_or_eq_true (decide (x28 ≤ x34)) with hb | hb
    ·
     have H := A5 (Bv hb) H
     rw [hb] at F
     clear hb
     iterate 2 refine Bj F (Ah F Aa Aa Aa Aa) Aa (An Aa) (Af F Aa).q fun a F => ?_
     obtain ⟨x36, h19, H⟩ := Aj H
     refine Bj F (Ah F Aa Aa Aa Aa) Aa (An Aa) (Ay (r := (Rp.int .i64)) CK F Aa Aa (Ai 0 Aa) h19).q fun a F => ?_
     refine Bj F (Ah F Aa Aa Aa Aa) Aa (An Aa) (Am (y := Value.int .i64 x36) (j := 0) (i := x34) F Aa Aa (Ai 0 Aa) h19 Fl.int.to T3 Aa).q fun a F => ?_
     iterate 2 refine Bj F (Ah F Aa Aa Aa Aa) Aa (An Aa) (Af F Aa).q fun a F => ?_
     obtain ⟨x37, h20, H⟩ := Aj H
     refine Bj F (Ah F Aa Aa Aa Aa) Aa (An Aa) (Ay (r := (Rp.int .i64)) CK F Aa Aa (Ai 0 Aa) h20).q fun a F => ?_
     refine Bj F (Ah F Aa Aa Aa Aa) Aa (An Aa) (Am (y := Value.int .i64 x37) (j := 0) (i := p1) F Aa Aa (Ai 0 Aa) h20 Fl.int.to T3 Aa).q fun a F => ?_
     refine Bj F (Ah F Aa Aa Aa Aa) Aa (An Aa) (Be (v := Value.bool (AO x36 x37)) F KW Aa (fun w W => BL any w x36 x37 _ Aa)) fun a F => ?_
     refine Bj F (Ah F Aa Aa Aa Aa) Aa (An Aa) (Eh F Aa).q fun a F => ?_
     refine qs F Aa (Bc F Aa Aa Aa).q fun a F => ?_
     refine AX fun w W => ?_
     refine Ac ?_
     exact ⟨_, H, F.re ⟨rfl, Aa, Aa, Aa, Aa, Aa, Aa, trivial⟩, W⟩
    have H := A3 (Bx hb) H
    rw [hb] at F
    clear hb
    iterate 10 refine CS F (Cu F Aa Aa Aa Aa Aa) Aa Aa fun a F => ?_
    refine qs F Aa (AU F Aa Aa Aa).q fun a F => ?_
    refine AX fun w W => ?_
    refine Ac ?_
    exact ⟨_, H, F.re ⟨rfl, Aa, Aa, Aa, Aa, Aa, Aa, trivial⟩, W⟩
   rintro a w ⟨x35, hj, F, W⟩
   have hj := AV hj
   subst hj
   have H := K14
   clear G14 K14
   refine Ao F Aa (fun hb => ?_) fun hb => ?_
   ·
    have H := A5 hb H
    rw [hb] at F
    clear hb
    refine Au (Ac (Ap (Ab ?_)))
    refine ls F W Aa (Af F Aa).q fun a w F W => ?_
    refine ls F W Aa (Cd F Aa Aa Aa).q fun a w F W => ?_
    refine ls F W Aa (Ad F Aa).q fun a w F W => ?_
    refine Ae (A6 (Ac ?_))
    exact ⟨_, H, F.re ⟨rfl, Aa, Aa, Aa, Aa, Aa, trivial⟩, W⟩
   have H := A3 (by rw [hb]; decide) H
   rw [hb] at F
   clear hb
   refine BK ?_
   iterate 2 refine B7 ?_
   refine BN (Ac ?_)
   have H := L13 _ H
   exact ⟨_, H, F.re ⟨rfl, Aa, Aa, Aa, Aa, Aa, trivial⟩, W⟩
  rintro a w ⟨x33, hj, F, W⟩
  have hj := AV hj
  subst hj
  have H := K12
  clear G12 K12
  refine Ag (Ag (Ab ?_))
  iterate 2 refine ls F W Aa (Af F Aa).q fun a w F W => ?_
  refine ls F W Aa (Hw F Aa Aa).q fun a w F W => ?_
  refine Ae (Ac ?_)
  refine Ao F Aa (fun hb => ?_) fun hb => ?_
  ·
   have H := A5 (Bv hb) H
   rw [hb] at F
   clear hb
   refine BK (B7 ?_)
   refine Iu Aa ?_
   refine B7 (BN (Ac ?_))
   have H := L8 _ H
   exact ⟨_, _, H, F.re ⟨rfl, Aa, Aa, Aa, Aa, trivial⟩, W⟩
  have H := A3 (Bx hb) H
  rw [hb] at F
  clear hb
  refine Au (Ac (Ag ?_))
  refine Fc 13 [2, 3] [0, 1, 4, 5, 6, 7, 8, 9, 10, 11, 12] (fun ch a d v w h => by cases d <;> exact h) W MO (by kernel_rfl) ?_
  iterate 2 refine hm F Aa Aa Aa fun a F => ?_
  refine Gg ?_
  iterate 4 refine hs F Aa Aa Aa (Af F Aa).q fun a F => ?_
  obtain ⟨x38, h21, H⟩ := Aj H
  refine hs F Aa Aa Aa (Ay (r := (Rp.int .i64)) CK F Aa Aa (Ai 0 Aa) h21).q fun a F => ?_
  refine hs F Aa Aa Aa (Am (y := Value.int .i64 x38) (j := 0) (i := x33) F Aa Aa (Ai 0 Aa) h21 Fl.int.to T3 Aa).q fun a F => ?_
  iterate 2 refine hs F Aa Aa Aa (Af F Aa).q fun a F => ?_
  obtain ⟨x39, h22, H⟩ := Aj H
  refine hs F Aa Aa Aa (Ay (r := (Rp.int .i64)) CK F Aa Aa (Ai 0 Aa) h22).q fun a F => ?_
  refine hs F Aa Aa Aa (Am (y := Value.int .i64 x39) (j := 0) (i := x28) F Aa Aa (Ai 0 Aa) h22 Fl.int.to T3 Aa).q fun a F => ?_
  obtain ⟨x40, h23, H⟩ := Aj H
  refine hs F Aa Aa Aa (Ay (r := (Rp.int .i64)) CK F Aa Aa (Ai 0 Aa) h23).q fun a F => ?_
  refine Hu fun w W => ?_
  have W : Stw ⟨Y, X, w0⟩ [] [row v1 3 (Rp.int .i64) x25] w := W
  refine A9 (i := x28) (j := 0) (vs := [.int .i64 x38]) (x' := x38) F W Aa Aa Aa (k := 0) Aa Aa h23 T3 Aa Aa Aa Aa (fun A cs _ => Fl.int.sto (by rfl) _ _ _) fun w W => ?_
  obtain ⟨x41, h24, H⟩ := Aj H
  refine ls F W Aa (Ay (r := (Rp.int .i64)) CK F Aa Aa (Ai 0 Aa) h24).q fun a w F W => ?_
  refine A9 (i := x33) (j := 0) (vs := [.int .i64 x39]) (x' := x39) F W Aa Aa Aa (k := 0) Aa Aa h24 T3 Aa Aa Aa Aa (fun A cs _ => Fl.int.sto (by rfl) _ _ _) fun w W => ?_
  refine Ae (Ac (Ag (Ab ?_)))
  refine ls F W Aa (Af F Aa).q fun a w F W => ?_
  refine ls F W Aa (BM F Aa Aa Aa).q fun a w F W => ?_
  refine ls F W Aa (Ad F Aa).q fun a w F W => ?_
  refine Ae (Ac (Ab ?_))
  refine ls F W Aa (Af F Aa).q fun a w F W => ?_
  refine ls F W Aa (Cd F Aa Aa Aa).q fun a w F W => ?_
  refine ls F W Aa (Ad F Aa).q fun a w F W => ?_
  refine Ae (A6 (Ac ?_))
  exact ⟨_, H, F.re ⟨rfl, Aa, Aa, Aa, Aa, Aa, trivial⟩, W⟩
 rintro a w ⟨x23, x24, hj, F, W⟩
 have hj := AV hj
 subst hj
 have H := K7
 clear G7 K7
 refine Ag ?_
 refine Fc 13 [2, 3] [0, 1, 4, 5, 6, 7, 8, 9, 10, 11, 12] (fun ch a d v w h => by cases d <;> exact h) W MO (by kernel_rfl) ?_
 iterate 2 refine hm F Aa Aa Aa fun a F => ?_
 refine Gg ?_
 iterate 4 refine hs F Aa Aa Aa (Af F Aa).q fun a F => ?_
 obtain ⟨x42, h25, H⟩ := Aj H
 refine hs F Aa Aa Aa (Ay (r := (Rp.int .i64)) CK F Aa Aa (Ai 0 Aa) h25).q fun a F => ?_
 refine hs F Aa Aa Aa (Am (y := Value.int .i64 x42) (j := 0) (i := p1) F Aa Aa (Ai 0 Aa) h25 Fl.int.to T3 Aa).q fun a F => ?_
 iterate 2 refine hs F Aa Aa Aa (Af F Aa).q fun a F => ?_
 obtain ⟨x43, h26, H⟩ := Aj H
 refine hs F Aa Aa Aa (Ay (r := (Rp.int .i64)) CK F Aa Aa (Ai 0 Aa) h26).q fun a F => ?_
 refine hs F Aa Aa Aa (Am (y := Value.int .i64 x43) (j := 0) (i := x24) F Aa Aa (Ai 0 Aa) h26 Fl.int.to T3 Aa).q fun a F => ?_
 obtain ⟨x44, h27, H⟩ := Aj H
 refine hs F Aa Aa Aa (Ay (r := (Rp.int .i64)) CK F Aa Aa (Ai 0 Aa) h27).q fun a F => ?_
 refine Hu fun w W => ?_
 have W : Stw ⟨Y, X, w0⟩ [] [row v1 3 (Rp.int .i64) x23] w := W
 refine A9 (i := x24) (j := 0) (vs := [.int .i64 x42]) (x' := x42) F W Aa Aa Aa (k := 0) Aa Aa h27 T3 Aa Aa Aa Aa (fun A cs _ => Fl.int.sto (by rfl) _ _ _) fun w W => ?_
 obtain ⟨x45, h28, H⟩ := Aj H
 refine ls F W Aa (Ay (r := (Rp.int .i64)) CK F Aa Aa (Ai 0 Aa) h28).q fun a w F W => ?_
 refine A9 (i := p1) (j := 0) (vs := [.int .i64 x43]) (x' := x43) F W Aa Aa Aa (k := 0) Aa Aa h28 T3 Aa Aa Aa Aa (fun A cs _ => Fl.int.sto (by rfl) _ _ _) fun w W => ?_
 refine Ae (Ac (Ag (Ab ?_)))
 refine ls F W Aa (Af F Aa).q fun a w F W => ?_
 iterate 2 refine ls F W Aa (Ad F Aa).q fun a w F W => ?_
 refine Ae (Ac (Aw ?_))
 have H := AV H
 subst H
 refine Ix (.inl Aa) F W Aa (AB F Aa) (AB F Aa) ?_
 exact ⟨(), Aa, W⟩
theorem M7 : type_of% Tryd.underlying72 := Tryd.underlying72
theorem OX : Has Tryd.prog 68 := ⟨fun args w => Ak Tryd.func68 rfl (by decide) args w⟩
theorem NR : Has Tryd.prog 55 := ⟨fun args w => Ak Tryd.func55 rfl (by decide) args w⟩
theorem Od : (Tryd.prog.info? 100).bind (·.zero) = some (.int .u64 0) := by kernel_rfl
theorem II : Ty Tryd.prog 100 false 1 := ⟨by kernel_rfl, by kernel_rfl⟩
noncomputable def Co (p0 : Int) : Option Int := (DA (IntKind.u64.wrap p0)).bind fun x1 => (Nk (CV .u64 1 x1) x1).bind fun x2 => some x2
theorem FA (Y : Nat → Prop) (w0 : World)  (p0 : Int) (r : Int) (H : Co p0 = some r)  :
    Calls Tryd.prog 76 #[.int .i64 p0] w0 fun e w' => e = .returned (.int .u64 r) ∧ Below w0.heap.size w0 w' := by
 refine enter Tryd.func76 Aa Tryd.ntmps76 Aa fun a F => ?_
 have W := Stw.start Y w0
 unfold Co at H
 refine Ag (Ab ?_)
 refine ls F W Aa (Ad F Aa).q fun a w F W => ?_
 refine Ae (Ac (Ag (Ab ?_)))
 refine ls F W Aa (Af F Aa).q fun a w F W => ?_
 refine ls F W Aa (Gt NI M7 F Aa).q fun a w F W => ?_
 obtain ⟨x1, h1, H⟩ := Aj H
 refine ls F W Aa (Be (v := Value.int .i64 x1) F Oq Aa (fun w W => FT any w (IntKind.u64.wrap p0) _ h1)) fun a w F W => ?_
 obtain ⟨x2, h2, H⟩ := Aj H
 refine ls F W Aa (MV (GY h2).2 (KX F Aa Aa (GY h2).1)).q fun a w F W => ?_
 refine ls F W Aa (Ad F Aa).q fun a w F W => ?_
 refine Ae (Ac (Aw ?_))
 have H := AV H
 subst H
 refine A2 (.inl Aa) F W Aa (AB F Aa) ?_
 exact ⟨rfl, W.done⟩
theorem Pd : Has Tryd.prog 76 := ⟨fun args w => Ak Tryd.func76 rfl (by decide) args w⟩
def Bf (p0 : Int) : Int × Int := (CD .u64 (CD .u64 (CD .u64 p0 (CV .u64 p0 13)) (EI .u64 (CD .u64 p0 (CV .u64 p0 13)) 7)) (CV .u64 (CD .u64 (CD .u64 p0 (CV .u64 p0 13)) (EI .u64 (CD .u64 p0 (CV .u64 p0 13)) 7)) 17), CD .u64 (CD .u64 (CD .u64 p0 (CV .u64 p0 13)) (EI .u64 (CD .u64 p0 (CV .u64 p0 13)) 7)) (CV .u64 (CD .u64 (CD .u64 p0 (CV .u64 p0 13)) (EI .u64 (CD .u64 p0 (CV .u64 p0 13)) 7)) 17))
theorem FK (Y : Nat → Prop) (X : List Nat) (w0 : World) (q_p0 : Nat) (p0 : Int) (r : Int × Int) (H : Bf p0 = r) (hL : Stw ⟨Y, X, w0⟩ [(q_p0, [.int .u64 p0])] [] w0) :
    Calls Tryd.prog 77 #[.pointer (some ⟨q_p0, 0, none⟩)] w0 fun e w' => ∃ x : Unit, e = .returned (.int .u64 r.1) ∧ Stw ⟨Y, X, w0⟩ [(q_p0, [.int .u64 r.2])] [] w' := by
 refine enter Tryd.func77 Aa Tryd.ntmps77 Aa fun a F => ?_
 have W := hL
 unfold Bf at H
 refine Ag (Ab ?_)
 refine ls F W Aa (Ad F Aa).q fun a w F W => ?_
 refine Ae (Ac (Ag ?_))
 refine Ip 9 W MO (by kernel_rfl) ?_
 refine qs F Aa (Af F Aa).q fun a F => ?_
 refine qs F Aa (Cq F Aa).q fun a F => ?_
 refine qs F Aa (As (v := Value.int .u64 p0) 0 F Aa Aa II Aa).q fun a F => ?_
 refine qs F Aa (Af F Aa).q fun a F => ?_
 refine qs F Aa (Cq F Aa).q fun a F => ?_
 refine qs F Aa (As (v := Value.int .u64 p0) 0 F Aa Aa II Aa).q fun a F => ?_
 refine qs F Aa (KX F Aa Aa (by decide)).q fun a F => ?_
 refine qs F Aa (Me F Aa Aa).q fun a F => ?_
 refine qs F Aa (Cq F Aa).q fun a F => ?_
 refine AX fun w W => ?_
 refine Cl (vs := [.int .u64 (CD .u64 p0 (CV .u64 p0 13))]) (M' := [(q_p0, [.int .u64 (CD .u64 p0 (CV .u64 p0 13))])]) 0 F W Aa Aa Aa II Aa Aa Aa Aa Aa fun w W => ?_
 refine Ae (Ac (Ag ?_))
 refine Ip 9 W MO (by kernel_rfl) ?_
 refine qs F Aa (Af F Aa).q fun a F => ?_
 refine qs F Aa (Cq F Aa).q fun a F => ?_
 refine qs F Aa (As (v := Value.int .u64 (CD .u64 p0 (CV .u64 p0 13))) 0 F Aa Aa II Aa).q fun a F => ?_
 refine qs F Aa (Af F Aa).q fun a F => ?_
 refine qs F Aa (Cq F Aa).q fun a F => ?_
 refine qs F Aa (As (v := Value.int .u64 (CD .u64 p0 (CV .u64 p0 13))) 0 F Aa Aa II Aa).q fun a F => ?_
 refine qs F Aa (KM F Aa Aa (by decide)).q fun a F => ?_
 refine qs F Aa (Me F Aa Aa).q fun a F => ?_
 refine qs F Aa (Cq F Aa).q fun a F => ?_
 refine AX fun w W => ?_
 refine Cl (vs := [.int .u64 (CD .u64 (CD .u64 p0 (CV .u64 p0 13)) (EI .u64 (CD .u64 p0 (CV .u64 p0 13)) 7))]) (M' := [(q_p0, [.int .u64 (CD .u64 (CD .u64 p0 (CV .u64 p0 13)) (EI .u64 (CD .u64 p0 (CV .u64 p0 13)) 7))])]) 0 F W Aa Aa Aa II Aa Aa Aa Aa Aa fun w W => ?_
 refine Ae (Ac (Ag ?_))
 refine Ip 9 W MO (by kernel_rfl) ?_
 refine qs F Aa (Af F Aa).q fun a F => ?_
 refine qs F Aa (Cq F Aa).q fun a F => ?_
 refine qs F Aa (As (v := Value.int .u64 (CD .u64 (CD .u64 p0 (CV .u64 p0 13)) (EI .u64 (CD .u64 p0 (CV .u64 p0 13)) 7))) 0 F Aa Aa II Aa).q fun a F => ?_
 refine qs F Aa (Af F Aa).q fun a F => ?_
 refine qs F Aa (Cq F Aa).q fun a F => ?_
 refine qs F Aa (As (v := Value.int .u64 (CD .u64 (CD .u64 p0 (CV .u64 p0 13)) (EI .u64 (CD .u64 p0 (CV .u64 p0 13)) 7))) 0 F Aa Aa II Aa).q fun a F => ?_
 refine qs F Aa (KX F Aa Aa (by decide)).q fun a F => ?_
 refine qs F Aa (Me F Aa Aa).q fun a F => ?_
 refine qs F Aa (Cq F Aa).q fun a F => ?_
 refine AX fun w W => ?_
 refine Cl (vs := [.int .u64 (CD .u64 (CD .u64 (CD .u64 p0 (CV .u64 p0 13)) (EI .u64 (CD .u64 p0 (CV .u64 p0 13)) 7)) (CV .u64 (CD .u64 (CD .u64 p0 (CV .u64 p0 13)) (EI .u64 (CD .u64 p0 (CV .u64 p0 13)) 7)) 17))]) (M' := [(q_p0, [.int .u64 (CD .u64 (CD .u64 (CD .u64 p0 (CV .u64 p0 13)) (EI .u64 (CD .u64 p0 (CV .u64 p0 13)) 7)) (CV .u64 (CD .u64 (CD .u64 p0 (CV .u64 p0 13)) (EI .u64 (CD .u64 p0 (CV .u64 p0 13)) 7)) 17))])]) 0 F W Aa Aa Aa II Aa Aa Aa Aa Aa fun w W => ?_
 refine Ae (Ac (Ag (Ab ?_)))
 refine ls F W Aa (Af F Aa).q fun a w F W => ?_
 refine ls F W Aa (Cq F Aa).q fun a w F W => ?_
 refine ls F W Aa (As (v := Value.int .u64 (CD .u64 (CD .u64 (CD .u64 p0 (CV .u64 p0 13)) (EI .u64 (CD .u64 p0 (CV .u64 p0 13)) 7)) (CV .u64 (CD .u64 (CD .u64 p0 (CV .u64 p0 13)) (EI .u64 (CD .u64 p0 (CV .u64 p0 13)) 7)) 17))) 0 F Aa Aa II Aa).q fun a w F W => ?_
 refine ls F W Aa (Ad F Aa).q fun a w F W => ?_
 refine Ae (Ac (Aw ?_))
 subst H
 refine A2 (.inl Aa) F W Aa (AB F Aa) ?_
 exact ⟨(), Aa, W⟩
theorem Nz : type_of% Tryd.underlying100 := Tryd.underlying100
theorem O5 : Has Tryd.prog 77 := ⟨fun args w => Ak Tryd.func77 rfl (by decide) args w⟩
noncomputable def Bk (p1 : Int) (p2 : Int) (x1 : Int) : (List Int × Int × Int) → Option ((List Int × Int × Int) ⊕ (List Int))
  | (x2, x3, x4) => (if x3 ≤ (AJ ((AJ (p1 + (AJ ((AJ (Int.tdiv (AJ (p2 - p1)) 4)) * 2)))) + 1)) then (if (AJ (p2 - p1)) ≤ (AJ (Kq .u64 ((Bf x4).1) (IntKind.u64.wrap (x1 - 1)))) then some (AJ ((AJ (Kq .u64 ((Bf x4).1) (IntKind.u64.wrap (x1 - 1)))) - (AJ (p2 - p1)))) else some (AJ (Kq .u64 ((Bf x4).1) (IntKind.u64.wrap (x1 - 1))))).bind fun x5 => (ix x2 (AJ (p1 + x5))).bind fun x6 => (ix x2 x3).bind fun x7 => (ix x2 x3).bind fun x8 => (ix (AM x2 x3 x6) (AJ (p1 + x5))).bind fun x9 => some (.inl ((AM (AM x2 x3 x6) (AJ (p1 + x5)) x7), AJ (x3 + 1), (Bf x4).2)) else some (.inr x2))
noncomputable def Bp (p0 : List Int) (p1 : Int) (p2 : Int) : Option (List Int) := (if 8 ≤ (AJ (p2 - p1)) then (Co (AJ (p2 - p1))).bind fun x1 => AZ (Bk p1 p2 x1) (p0, AJ ((AJ (p1 + (AJ ((AJ (Int.tdiv (AJ (p2 - p1)) 4)) * 2)))) - 1), IntKind.u64.wrap (AJ (p2 - p1))) else some p0)
theorem D9 (Y : Nat → Prop) (X : List Nat) (w0 : World) (v1 : Value) (p0 : List Int) (p1 : Int) (p2 : Int) (r : List Int) (H : Bp p0 p1 p2 = some r) (hL : Stw ⟨Y, X, w0⟩ [] [row v1 3 (Rp.int .i64) p0] w0) :
    Calls Tryd.prog 62 #[v1, .int .i64 p1, .int .i64 p2] w0 fun e w' => ∃ x : Unit, e = .returned (.tuple #[]) ∧ Stw ⟨Y, X, w0⟩ [] [row v1 3 (Rp.int .i64) r] w' := by
 refine enter Tryd.func62 Aa Tryd.ntmps62 Aa fun a F => ?_
 have W := hL
 unfold Bp at H
 refine Ag (Ab ?_)
 iterate 2 refine ls F W Aa (Af F Aa).q fun a w F W => ?_
 refine ls F W Aa (Cd F Aa Aa Aa).q fun a w F W => ?_
 refine ls F W Aa (Ad F Aa).q fun a w F W => ?_
 refine Ae (Ac (Ag (Ab ?_)))
 refine ls F W Aa (Af F Aa).q fun a w F W => ?_
 refine ls F W Aa (DT F Aa Aa).q fun a w F W => ?_
 refine Ae (Ac ?_)
 refine Ao F Aa (fun hb => ?_) fun hb => ?_
 ·
  have H := A5 (Bv hb) H
  rw [hb] at F
  clear hb
  refine Ag (Ab ?_)
  refine ls F W Aa (Af F Aa).q fun a w F W => ?_
  refine ls F W Aa (Gt NI Nz F Aa).q fun a w F W => ?_
  refine C8 (cs := [.int .u64 0]) F W Aa Od Aa fun b1 a w F W => ?_
  refine Cl (vs := [.int .u64 (IntKind.u64.wrap (AJ (p2 - p1)))]) (M' := [(b1, [.int .u64 (IntKind.u64.wrap (AJ (p2 - p1)))])]) 0 F W Aa Aa Aa II Aa Aa Aa Aa Aa fun w W => ?_
  refine Ae (Ac (Ag (Ab ?_)))
  refine ls F W Aa (Af F Aa).q fun a w F W => ?_
  obtain ⟨x1, h1, H⟩ := Aj H
  refine ls F W Aa (Be (v := Value.int .u64 x1) F Pd Aa (fun w W => FA any w (AJ (p2 - p1)) _ h1)) fun a w F W => ?_
  refine ls F W Aa (Ad F Aa).q fun a w F W => ?_
  refine Ae (Ac (Ag (Ab ?_)))
  iterate 2 refine ls F W Aa (Af F Aa).q fun a w F W => ?_
  refine ls F W Aa (Il F Aa Aa (by decide) Aa).q fun a w F W => ?_
  refine ls F W Aa (Jc F Aa Aa Aa).q fun a w F W => ?_
  refine ls F W Aa (BM F Aa Aa Aa).q fun a w F W => ?_
  refine ls F W Aa (Cd F Aa Aa Aa).q fun a w F W => ?_
  refine ls F W Aa (Ad F Aa).q fun a w F W => ?_
  refine Ae (Ac (Ap ?_))
  refine BV H (fun s a w => Fr 65 [] [(0, v1), (1, .int .i64 p1), (6, .int .i64 (AJ (p2 - p1))), (7, .pointer (some ⟨b1, 0, none⟩)), (8, .int .u64 x1), (9, .int .i64 s.2.1)] a ∧ Stw ⟨Y, X, w0⟩ [(b1, [.int .u64 s.2.2])] [row v1 3 (Rp.int .i64) s.1] w) ⟨F.re ⟨rfl, Aa, Aa, Aa, Aa, Aa, trivial⟩, W⟩ fun s o a w H L1 hR => ?_
  obtain ⟨x2, x3, x4⟩ := s
  obtain ⟨F, W⟩ := hR
  have F : Fr 65 [] [(0, v1), (1, .int .i64 p1), (6, .int .i64 (AJ (p2 - p1))), (7, .pointer (some ⟨b1, 0, none⟩)), (8, .int .u64 x1), (9, .int .i64 x3)] a := F
  have W : Stw ⟨Y, X, w0⟩ [(b1, [.int .u64 x4])] [row v1 3 (Rp.int .i64) x2] w := W
  rw [Bk] at H
  refine Ag (Ag (Ab ?_))
  iterate 3 refine ls F W Aa (Af F Aa).q fun a w F W => ?_
  refine ls F W Aa (Il F Aa Aa (by decide) Aa).q fun a w F W => ?_
  refine ls F W Aa (Jc F Aa Aa Aa).q fun a w F W => ?_
  iterate 2 refine ls F W Aa (BM F Aa Aa Aa).q fun a w F W => ?_
  refine ls F W Aa (FC F Aa Aa).q fun a w F W => ?_
  refine Ae (Ac ?_)
  refine Ao F Aa (fun hb => ?_) fun hb => ?_
  ·
   have H := A5 (Bv hb) H
   rw [hb] at F
   clear hb
   refine Au (Ac (Ag (Ap (Ag (Ab ?_)))))
   refine BE (Ml := [(b1, [.int .u64 x4])]) (Zl := []) (M := []) (Z := [row v1 3 (Rp.int .i64) x2]) (β := Unit) (rv := fun x => .int .u64 ((Bf x4).1)) (MM := fun x => [(b1, [.int .u64 ((Bf x4).2)])]) (ZZ := fun x => []) F W O5 Aa Aa (fun hL => FK _ _ w b1 x4 _ Aa hL) fun x a w F W => ?_
   have W : Stw ⟨Y, X, w0⟩ [(b1, [.int .u64 ((Bf x4).2)])] [row v1 3 (Rp.int .i64) x2] w := W
   refine ls F W Aa (Af F Aa).q fun a w F W => ?_
   refine ls F W Aa (Cd F Aa Aa Aa).q fun a w F W => ?_
   refine ls F W Aa (Nu F Aa Aa).q fun a w F W => ?_
   refine ls F W Aa (Gt M7 NI F Aa).q fun a w F W => ?_
   refine ls F W Aa (Ad F Aa).q fun a w F W => ?_
   refine Ae (Ac ?_)
   obtain ⟨o2, G2, K2⟩ := Aj H
   refine AW (fun a w => ∃ x5 : Int, some (x5) = some o2 ∧ Fr 65 [] [(0, v1), (1, .int .i64 p1), (6, .int .i64 (AJ (p2 - p1))), (7, .pointer (some ⟨b1, 0, none⟩)), (8, .int .u64 x1), (9, .int .i64 x3), (10, .int .i64 x5)] a ∧ Stw ⟨Y, X, w0⟩ [(b1, [.int .u64 ((Bf x4).2)])] [row v1 3 (Rp.int .i64) x2] w) ?_ ?_
   ·
    have H := G2
    clear G2 K2
    refine Ag (Ab ?_)
    iterate 2 refine ls F W Aa (Af F Aa).q fun a w F W => ?_
    refine ls F W Aa (DT F Aa Aa).q fun a w F W => ?_
    refine Ae (Ac ?_)
    refine Ao F Aa (fun hb => ?_) fun hb => ?_
    ·
     have H := A5 (Bv hb) H
     rw [hb] at F
     clear hb
     refine Ab ?_
     iterate 2 refine ls F W Aa (Af F Aa).q fun a w F W => ?_
     refine ls F W Aa (Cd F Aa Aa Aa).q fun a w F W => ?_
     refine ls F W Aa (Ad F Aa).q fun a w F W => ?_
     refine Ae (Ac ?_)
     exact ⟨_, H, F.re ⟨rfl, Aa, Aa, Aa, Aa, Aa, Aa, trivial⟩, W⟩
    have H := A3 (Bx hb) H
    rw [hb] at F
    clear hb
    refine Au (Ac ?_)
    exact ⟨_, H, F.re ⟨rfl, Aa, Aa, Aa, Aa, Aa, Aa, trivial⟩, W⟩
   rintro a w ⟨x5, hj, F, W⟩
   have hj := AV hj
   subst hj
   have H := K2
   clear G2 K2
   refine EC [(true, 0), (true, 1), (true, 2), (true, 3), (true, 4), (true, 5), (true, 6), (true, 7), (true, 8), (true, 9), (true, 10), (true, 11), (true, 12), (true, 13), (true, 14), (true, 15), (true, 16), (false, 17), (true, 18), (false, 19)] (CN ⟨Y, X, w0⟩ [] [(some 17, row v1 3 (Rp.int .i64) x2)]) (fun ch a d v w h => by cases d <;> exact h) MO (by kernel_rfl) W (fun w W => ⟨_, _, W, A8, (BB (fun _ => (.head _)) A8)⟩) fun w W => ?_
   iterate 5 refine BO (R := []) F Aa Aa (yC fun M Z hN hZ => Af F Aa) Aa Aa fun a F => ?_
   refine BO (R := []) F Aa Aa (yC fun M Z hN hZ => BM F Aa Aa Aa) Aa Aa fun a F => ?_
   iterate 3 refine BO (R := []) F Aa Aa (yC fun M Z hN hZ => Af F Aa) Aa Aa fun a F => ?_
   refine BO (R := []) F Aa Aa (yC fun M Z hN hZ => BM F Aa Aa Aa) Aa Aa fun a F => ?_
   obtain ⟨x6, h2, H⟩ := Aj H
   refine BO (R := []) F Aa Aa (yC fun M Z hN hZ => BR (r := (Rp.int .i64)) CK F Aa Aa (C7 W (Ai 0 Aa)) h2) Aa Aa fun a F => ?_
   refine BO (R := [17]) F Aa Aa (yC fun M Z hN hZ => Am (y := Value.int .i64 x6) (j := 0) (i := AJ (p1 + x5)) F Aa Aa (C6 (hZ ((some 17), row v1 3 (Rp.int .i64) x2) (.head _) Aa)) h2 Fl.int.to T3 Aa) (by kernel_rfl) Aa fun a F => ?_
   iterate 2 refine BO (R := []) F Aa Aa (yC fun M Z hN hZ => Af F Aa) Aa Aa fun a F => ?_
   obtain ⟨x7, h3, H⟩ := Aj H
   refine BO (R := []) F Aa Aa (yC fun M Z hN hZ => BR (r := (Rp.int .i64)) CK F Aa Aa (C7 W (Ai 0 Aa)) h3) Aa Aa fun a F => ?_
   refine BO (R := [17]) F Aa Aa (yC fun M Z hN hZ => Am (y := Value.int .i64 x7) (j := 0) (i := x3) F Aa Aa (C6 (hZ ((some 17), row v1 3 (Rp.int .i64) x2) (.head _) Aa)) h3 Fl.int.to T3 Aa) (by kernel_rfl) Aa fun a F => ?_
   obtain ⟨x8, h4, H⟩ := Aj H
   refine BO (R := []) F Aa Aa (yC fun M Z hN hZ => BR (r := (Rp.int .i64)) CK F Aa Aa (C7 W (Ai 0 Aa)) h4) Aa Aa fun a F => ?_
   refine FW Aa ?_
   refine A9 (i := x3) (j := 0) (vs := [.int .i64 x6]) (x' := x6) F W Aa Aa Aa (k := 0) Aa Aa h4 T3 Aa Aa Aa Aa (fun A cs _ => Fl.int.sto (by rfl) _ _ _) fun w W => ?_
   refine C1 (N2 := []) (NZ2 := []) (N3 := []) (NZ3 := [(some 17, row v1 3 (Rp.int .i64) x2)]) W Aa Aa A8 (BB (fun h => Cr (by kernel_rfl) h) A8) ?_
   obtain ⟨x9, h5, H⟩ := Aj H
   refine BO (R := []) F Aa Aa (yC fun M Z hN hZ => BR (r := (Rp.int .i64)) CK F Aa Aa (C7 W (Ai 0 Aa)) h5) Aa Aa fun a F => ?_
   refine FW Aa ?_
   refine A9 (i := AJ (p1 + x5)) (j := 0) (vs := [.int .i64 x7]) (x' := x7) F W Aa Aa Aa (k := 0) Aa Aa h5 T3 Aa Aa Aa Aa (fun A cs _ => Fl.int.sto (by rfl) _ _ _) fun w W => ?_
   refine C1 (N2 := []) (NZ2 := []) (N3 := []) (NZ3 := [(some 17, row v1 3 (Rp.int .i64) x2)]) W Aa Aa A8 (BB (fun h => Cr (by kernel_rfl) h) A8) ?_
   refine Ge (A6 (Ac (Ab ?_)))
   refine ls F W Aa (Af F Aa).q fun a w F W => ?_
   refine ls F W Aa (BM F Aa Aa Aa).q fun a w F W => ?_
   refine ls F W Aa (Ad F Aa).q fun a w F W => ?_
   refine Ae (Ac ?_)
   exact ⟨_, H, F.re ⟨rfl, Aa, Aa, Aa, Aa, Aa, trivial⟩, W⟩
  have H := A3 (Bx hb) H
  rw [hb] at F
  clear hb
  refine BK ?_
  iterate 2 refine B7 ?_
  refine BN ?_
  have H := L1 _ H
  have H := AV H
  subst H
  refine Gm (.inr Aa) F Aa ?_
  have W := W.sub (M' := []) (Z' := [row v1 3 (Rp.int .i64) x2]) (List.nil_sublist _) (List.Sublist.refl _)
  exact ⟨(), Aa, W⟩
 have H := A3 (Bx hb) H
 rw [hb] at F
 clear hb
 refine Au ?_
 have H := AV H
 subst H
 refine Gm (.inr Aa) F Aa ?_
 exact ⟨(), Aa, W⟩
end Go.Proofs.YtepfcpffbabgmaaDoor
