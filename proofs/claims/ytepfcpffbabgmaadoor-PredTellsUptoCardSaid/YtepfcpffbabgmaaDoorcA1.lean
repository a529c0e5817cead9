/- The functions of layer 26, Gx. Conditions: none. -/
import Derived.Test.YtepfcpffbabgmaaDoorcA0
namespace Go.Proofs.YtepfcpffbabgmaaDoor
open Go Go.RowKit
set_option linter.unusedVariables false
set_option linter.unusedSimpArgs false
set_option maxRecDepth 20000
theorem SV : Has Tryd.prog 63 := ⟨fun args w => Ao Tryd.func63 rfl (by decide) args w⟩
noncomputable def Bw  : (List Int × Int × Int) → Option ((List Int × Int × Int) ⊕ (List Int))
  | (x1, x2, x3) => (if x2 < x3 then (ix x1 x3).bind fun x4 => (ix x1 x2).bind fun x5 => (ix x1 x2).bind fun x6 => (ix (Bd x1 x2 x4) x3).bind fun x7 => some (.inl ((Bd (Bd x1 x2 x4) x3 x5), A1 (x2 + 1), A1 (x3 - 1))) else some (.inr x1))
noncomputable def BX (p0 : List Int) (p1 : Int) (p2 : Int) : Option (List Int) := A3 (Bw) (p0, p1, A1 (p2 - 1))
theorem Fw (Y : Nat → Prop) (X : List Nat) (w0 : World) (v1 : Value) (p0 : List Int) (p1 : Int) (p2 : Int) (r : List Int) (H : BX p0 p1 p2 = some r) (hL : Stw ⟨Y, X, w0⟩ [] [row v1 3 (Rp.int .i64) p0] w0) :
    Calls Tryd.prog 64 #[v1, .int .i64 p1, .int .i64 p2] w0 fun e w' => ∃ x : Unit, e = .returned (.tuple #[]) ∧ Stw ⟨Y, X, w0⟩ [] [row v1 3 (Rp.int .i64) r] w' := by
 refine enter Tryd.func64 Aa Tryd.ntmps64 Aa fun a F => ?_
 have W := hL
 unfold BX at H
 refine Aj (Ae ?_)
 refine ls F W Aa (Ai F Aa).q fun a w F W => ?_
 refine ls F W Aa (Ah F Aa).q fun a w F W => ?_
 refine Ag (Ad (Aj (Ae ?_)))
 refine ls F W Aa (Ai F Aa).q fun a w F W => ?_
 refine ls F W Aa (Cn F Aa Aa Aa).q fun a w F W => ?_
 refine ls F W Aa (Ah F Aa).q fun a w F W => ?_
 refine Ag (Ad (AA ?_))
 refine BI H (fun s a w => Fr 32 [] [(0, v1), (6, .int .i64 s.2.1), (7, .int .i64 s.2.2)] a ∧ Stw ⟨Y, X, w0⟩ [] [row v1 3 (Rp.int .i64) s.1] w) ⟨F.re ⟨rfl, Aa, Aa, trivial⟩, W⟩ fun s o a w H L1 hR => ?_
 obtain ⟨x1, x2, x3⟩ := s
 obtain ⟨F, W⟩ := hR
 have F : Fr 32 [] [(0, v1), (6, .int .i64 x2), (7, .int .i64 x3)] a := F
 have W : Stw ⟨Y, X, w0⟩ [] [row v1 3 (Rp.int .i64) x1] w := W
 rw [Bw] at H
 refine Aj (Aj (Ae ?_))
 iterate 2 refine ls F W Aa (Ai F Aa).q fun a w F W => ?_
 refine ls F W Aa (Cy F Aa Aa).q fun a w F W => ?_
 refine Ag (Ad ?_)
 refine Ay F Aa (fun hb => ?_) fun hb => ?_
 ·
  have H := AW (Bm hb) H
  rw [hb] at F
  clear hb
  refine Aw (Ad (AA (Aj ?_)))
  refine GC 13 [2, 3] [0, 1, 4, 5, 6, 7, 8, 9, 10, 11, 12] (fun ch a d v w h => by cases d <;> exact h) W MO (by kernel_rfl) ?_
  iterate 2 refine hm F Aa Aa Aa fun a F => ?_
  refine HX ?_
  iterate 4 refine hs F Aa Aa Aa (Ai F Aa).q fun a F => ?_
  obtain ⟨x4, h1, H⟩ := Am H
  refine hs F Aa Aa Aa (AG (r := (Rp.int .i64)) Ds F Aa Aa (Ap 0 Aa) h1).q fun a F => ?_
  refine hs F Aa Aa Aa (Ax (y := Value.int .i64 x4) (j := 0) (i := x3) F Aa Aa (Ap 0 Aa) h1 Fl.int.to T3 Aa).q fun a F => ?_
  iterate 2 refine hs F Aa Aa Aa (Ai F Aa).q fun a F => ?_
  obtain ⟨x5, h2, H⟩ := Am H
  refine hs F Aa Aa Aa (AG (r := (Rp.int .i64)) Ds F Aa Aa (Ap 0 Aa) h2).q fun a F => ?_
  refine hs F Aa Aa Aa (Ax (y := Value.int .i64 x5) (j := 0) (i := x2) F Aa Aa (Ap 0 Aa) h2 Fl.int.to T3 Aa).q fun a F => ?_
  obtain ⟨x6, h3, H⟩ := Am H
  refine hs F Aa Aa Aa (AG (r := (Rp.int .i64)) Ds F Aa Aa (Ap 0 Aa) h3).q fun a F => ?_
  refine Jy fun w W => ?_
  have W : Stw ⟨Y, X, w0⟩ [] [row v1 3 (Rp.int .i64) x1] w := W
  refine Br (i := x2) (j := 0) (vs := [.int .i64 x4]) (x' := x4) F W Aa Aa Aa (k := 0) Aa Aa h3 T3 Aa Aa Aa Aa (fun A cs _ => Fl.int.sto (by rfl) _ _ _) fun w W => ?_
  obtain ⟨x7, h4, H⟩ := Am H
  refine ls F W Aa (AG (r := (Rp.int .i64)) Ds F Aa Aa (Ap 0 Aa) h4).q fun a w F W => ?_
  refine Br (i := x3) (j := 0) (vs := [.int .i64 x5]) (x' := x5) F W Aa Aa Aa (k := 0) Aa Aa h4 T3 Aa Aa Aa Aa (fun A cs _ => Fl.int.sto (by rfl) _ _ _) fun w W => ?_
  refine Ag (Ad (Aj (Ae ?_)))
  refine ls F W Aa (Ai F Aa).q fun a w F W => ?_
  refine ls F W Aa (BC F Aa Aa Aa).q fun a w F W => ?_
  refine ls F W Aa (Ah F Aa).q fun a w F W => ?_
  refine Ag (Ad (Ae ?_))
  refine ls F W Aa (Ai F Aa).q fun a w F W => ?_
  refine ls F W Aa (Cn F Aa Aa Aa).q fun a w F W => ?_
  refine ls F W Aa (Ah F Aa).q fun a w F W => ?_
  refine Ag (A8 (Ad ?_))
  exact ⟨_, H, F.re ⟨rfl, Aa, Aa, trivial⟩, W⟩
 have H := AX (Bl hb) H
 rw [hb] at F
 clear hb
 refine Bx ?_
 iterate 2 refine BO ?_
 refine Bz ?_
 have H := L1 _ H
 have H := AM H
 subst H
 refine HQ (.inr Aa) F Aa ?_
 exact ⟨(), Aa, W⟩
theorem Tp : Has Tryd.prog 64 := ⟨fun args w => Ao Tryd.func64 rfl (by decide) args w⟩
noncomputable def BE (p2 : Int) (x2 : List Int) : Int → Option (Int ⊕ Int)
  | x8 => (if x8 < p2 then (ix x2 x8).bind fun x10 => (ix x2 (A1 (x8 - 1))).bind fun x11 => some (!(Be x10 x11)) else some false).bind fun x9 => (if x9 = true then some (.inl (A1 (x8 + 1))) else some (.inr x8))
noncomputable def A0  : (List Int × Int) → Option ((List Int × Int) ⊕ (List Int))
  | (x17, x18) => (if 1 ≤ x18 then (ix x17 x18).bind fun x19 => (ix x17 (A1 (x18 - 1))).bind fun x20 => (if (!(Be x19 x20)) = true then some (.inr x17) else (ix x17 (A1 (x18 - 1))).bind fun x21 => (ix x17 x18).bind fun x22 => (ix x17 x18).bind fun x23 => (ix (Bd x17 x18 x21) (A1 (x18 - 1))).bind fun x24 => some (.inl ((Bd (Bd x17 x18 x21) (A1 (x18 - 1)) x22), A1 (x18 - 1)))) else some (.inr x17))
noncomputable def Ba (p2 : Int) (x7 : Int) : (List Int × Int) → Option ((List Int × Int) ⊕ ((List Int × Int) ⊕ ((List Int × Int × Int) ⊕ ((List Int) ⊕ (Bool × List Int)))))
  | (x25, x26) => (if x26 < p2 then (ix x25 x26).bind fun x27 => (ix x25 (A1 (x26 - 1))).bind fun x28 => (if (!(Be x27 x28)) = true then some (.inr (.inl (x25, x7))) else (ix x25 (A1 (x26 - 1))).bind fun x29 => (ix x25 x26).bind fun x30 => (ix x25 x26).bind fun x31 => (ix (Bd x25 x26 x29) (A1 (x26 - 1))).bind fun x32 => some (.inl ((Bd (Bd x25 x26 x29) (A1 (x26 - 1)) x30), A1 (x26 + 1)))) else some (.inr (.inl (x25, x7))))
noncomputable def A9 (p1 : Int) (p2 : Int) : (List Int × Int × Int) → Option ((List Int × Int × Int) ⊕ ((List Int) ⊕ (Bool × List Int)))
  | (x2, x3, x4) => (if x4 < 5 then IX ((A3 (BE p2 x2) x3).bind fun x7 => (if x7 = p2 then some (.inr (.inr (.inr (true, x2)))) else (if (A1 (p2 - p1)) < 50 then some (.inr (.inr (.inr (false, x2)))) else (ix x2 (A1 (x7 - 1))).bind fun x12 => (ix x2 x7).bind fun x13 => (ix x2 x7).bind fun x14 => (ix (Bd x2 x7 x12) (A1 (x7 - 1))).bind fun x15 => (if 2 ≤ (A1 (x7 - p1)) then A3 (A0) ((Bd (Bd x2 x7 x12) (A1 (x7 - 1)) x13), A1 (x7 - 1)) else some (Bd (Bd x2 x7 x12) (A1 (x7 - 1)) x13)).bind fun x16 => (if 2 ≤ (A1 (p2 - x7)) then A3 (Ba p2 x7) (x16, A1 (x7 + 1)) else some (.inl (x16, x7)))))) fun (x5, x6) => some (.inl (x5, x6, A1 (x4 + 1))) else some (.inr (.inl x2)))
noncomputable def Bv (p0 : List Int) (p1 : Int) (p2 : Int) : Option (Bool × List Int) := IX (A3 (A9 p1 p2) (p0, A1 (p1 + 1), 0)) fun x1 => some (false, x1)
theorem EM (Y : Nat → Prop) (X : List Nat) (w0 : World) (v1 : Value) (p0 : List Int) (p1 : Int) (p2 : Int) (r : Bool × List Int) (H : Bv p0 p1 p2 = some r) (hL : Stw ⟨Y, X, w0⟩ [] [row v1 3 (Rp.int .i64) p0] w0) :
    Calls Tryd.prog 65 #[v1, .int .i64 p1, .int .i64 p2] w0 fun e w' => ∃ x : Unit, e = .returned (.bool r.1) ∧ Stw ⟨Y, X, w0⟩ [] [row v1 3 (Rp.int .i64) r.2] w' := by
 refine enter Tryd.func65 Aa Tryd.ntmps65 Aa fun a F => ?_
 have W := hL
 unfold Bv at H
 refine Aj (Ae ?_)
 refine ls F W Aa (Ah F Aa).q fun a w F W => ?_
 refine Ag (Ad (Aj (Ae ?_)))
 refine ls F W Aa (Ai F Aa).q fun a w F W => ?_
 refine ls F W Aa (BC F Aa Aa Aa).q fun a w F W => ?_
 refine ls F W Aa (Ah F Aa).q fun a w F W => ?_
 refine Ag (Ad ?_)
 obtain ⟨o1, G1, K1, L1⟩ := OP H
 refine AO (fun a w => ∃ x1 : List Int, some (Sum.inl x1) = some o1 ∧ Fr 133 [] [(6, .bool false)] a ∧ Stw ⟨Y, X, w0⟩ [] [row v1 3 (Rp.int .i64) x1] w) ?_ ?_
 ·
  have H := G1
  clear G1 K1
  refine Aj (Ae ?_)
  refine ls F W Aa (Ah F Aa).q fun a w F W => ?_
  refine Ag (Ad (AA ?_))
  refine BI H (fun s a w => Fr 133 [] [(0, v1), (1, .int .i64 p1), (2, .int .i64 p2), (6, .bool false), (7, .int .i64 s.2.1), (8, .int .i64 s.2.2)] a ∧ Stw ⟨Y, X, w0⟩ [] [row v1 3 (Rp.int .i64) s.1] w) ⟨F.re ⟨rfl, Aa, Aa, Aa, Aa, Aa, trivial⟩, W⟩ fun s o a w H L2 hR => ?_
  obtain ⟨x2, x3, x4⟩ := s
  obtain ⟨F, W⟩ := hR
  have F : Fr 133 [] [(0, v1), (1, .int .i64 p1), (2, .int .i64 p2), (6, .bool false), (7, .int .i64 x3), (8, .int .i64 x4)] a := F
  have W : Stw ⟨Y, X, w0⟩ [] [row v1 3 (Rp.int .i64) x2] w := W
  rw [A9] at H
  refine Aj (Aj (Ae ?_))
  refine ls F W Aa (Ai F Aa).q fun a w F W => ?_
  refine ls F W Aa (Cy F Aa Aa).q fun a w F W => ?_
  refine Ag (Ad ?_)
  refine Ay F Aa (fun hb => ?_) fun hb => ?_
  ·
   have H := AW (Bm hb) H
   rw [hb] at F
   clear hb
   refine Aw (Ad ?_)
   obtain ⟨o3, G3, K3, L3⟩ := OP H
   refine AO (fun a w => ∃ x5 : List Int, ∃ x6 : Int, some (Sum.inl (x5, x6)) = some o3 ∧ Fr 133 [] [(0, v1), (1, .int .i64 p1), (2, .int .i64 p2), (6, .bool false), (7, .int .i64 x6), (8, .int .i64 x4)] a ∧ Stw ⟨Y, X, w0⟩ [] [row v1 3 (Rp.int .i64) x5] w) ?_ ?_
   ·
    have H := G3
    clear G3 K3
    refine AA ?_
    obtain ⟨o4, G4, K4⟩ := Am H
    refine AO (fun a w => ∃ x7 : Int, some (x7) = some o4 ∧ Fr 133 [] [(0, v1), (1, .int .i64 p1), (2, .int .i64 p2), (6, .bool false), (7, .int .i64 x7), (8, .int .i64 x4)] a ∧ Stw ⟨Y, X, w0⟩ [] [row v1 3 (Rp.int .i64) x2] w) ?_ ?_
    ·
     have H := G4
     clear G4 K4
     refine AA ?_
     refine BI H (fun s a w => Fr 133 [] [(0, v1), (1, .int .i64 p1), (2, .int .i64 p2), (6, .bool false), (7, .int .i64 s), (8, .int .i64 x4)] a ∧ Stw ⟨Y, X, w0⟩ [] [row v1 3 (Rp.int .i64) x2] w) ⟨F.re ⟨rfl, Aa, Aa, Aa, Aa, Aa, trivial⟩, W⟩ fun s o a w H L5 hR => ?_
     obtain ⟨x8, rfl⟩ : ∃ x, x = s := ⟨s, rfl⟩
     obtain ⟨F, W⟩ := hR
     have F : Fr 133 [] [(0, v1), (1, .int .i64 p1), (2, .int .i64 p2), (6, .bool false), (7, .int .i64 x8), (8, .int .i64 x4)] a := F
     have W : Stw ⟨Y, X, w0⟩ [] [row v1 3 (Rp.int .i64) x2] w := W
     rw [BE] at H
     refine Aj ?_
     obtain ⟨o6, G6, K6⟩ := Am H
     refine AO (fun a w => ∃ x9 : Bool, some (x9) = some o6 ∧ Fr 133 [] [(0, v1), (1, .int .i64 p1), (2, .int .i64 p2), (6, .bool false), (7, .int .i64 x8), (8, .int .i64 x4), (32, .bool x9)] a ∧ Stw ⟨Y, X, w0⟩ [] [row v1 3 (Rp.int .i64) x2] w) ?_ ?_
     ·
      have H := G6
      clear G6 K6
      refine BS W MO (by kernel_rfl) ?_
      iterate 2 refine qs F Aa (Ai F Aa).q fun a F => ?_
      refine qs F Aa (Cy F Aa Aa).q fun a F => ?_
      refine qs F Aa (Ai F Aa).q fun a F => ?_
      rcases Bool.eq_false_or_eq_true (decide (x8 < p2)) with hb | hb
      ·
       have H := AW (Bm hb) H
       rw [hb] at F
       clear hb
       iterate 2 refine Bi F (Af F Aa Aa Aa Aa) Aa (An Aa) (Ai F Aa).q fun a F => ?_
       obtain ⟨x10, h1, H⟩ := Am H
       refine Bi F (Af F Aa Aa Aa Aa) Aa (An Aa) (AG (r := (Rp.int .i64)) Ds F Aa Aa (Ap 0 Aa) h1).q fun a F => ?_
       refine Bi F (Af F Aa Aa Aa Aa) Aa (An Aa) (Ax (y := Value.int .i64 x10) (j := 0) (i := x8) F Aa Aa (Ap 0 Aa) h1 Fl.int.to T3 Aa).q fun a F => ?_
       iterate 2 refine Bi F (Af F Aa Aa Aa Aa) Aa (An Aa) (Ai F Aa).q fun a F => ?_
       refine Bi F (Af F Aa Aa Aa Aa) Aa (An Aa) (Cn F Aa Aa Aa).q fun a F => ?_
       obtain ⟨x11, h2, H⟩ := Am H
       refine Bi F (Af F Aa Aa Aa Aa) Aa (An Aa) (AG (r := (Rp.int .i64)) Ds F Aa Aa (Ap 0 Aa) h2).q fun a F => ?_
       refine Bi F (Af F Aa Aa Aa Aa) Aa (An Aa) (Ax (y := Value.int .i64 x11) (j := 0) (i := A1 (x8 - 1)) F Aa Aa (Ap 0 Aa) h2 Fl.int.to T3 Aa).q fun a F => ?_
       refine Bi F (Af F Aa Aa Aa Aa) Aa (An Aa) (AU (v := Value.bool (Be x10 x11)) F Om Aa (fun w W => B9 any w x10 x11 _ Aa)) fun a F => ?_
       refine Bi F (Af F Aa Aa Aa Aa) Aa (An Aa) (ET F Aa).q fun a F => ?_
       refine qs F Aa (Au F Aa Aa Aa).q fun a F => ?_
       refine A2 fun w W => ?_
       refine Ad ?_
       exact ⟨_, H, F.re ⟨rfl, Aa, Aa, Aa, Aa, Aa, Aa, trivial⟩, W⟩
      have H := AX (Bl hb) H
      rw [hb] at F
      clear hb
      iterate 11 refine Ca F (AH F Aa Aa Aa Aa Aa) Aa Aa fun a F => ?_
      refine qs F Aa (As F Aa Aa Aa).q fun a F => ?_
      refine A2 fun w W => ?_
      refine Ad ?_
      exact ⟨_, H, F.re ⟨rfl, Aa, Aa, Aa, Aa, Aa, Aa, trivial⟩, W⟩
     rintro a w ⟨x9, hj, F, W⟩
     have hj := AM hj
     subst hj
     have H := K6
     clear G6 K6
     refine Ay F Aa (fun hb => ?_) fun hb => ?_
     ·
      have H := AW hb H
      rw [hb] at F
      clear hb
      refine Aw (Ad (AA (Ae ?_)))
      refine ls F W Aa (Ai F Aa).q fun a w F W => ?_
      refine ls F W Aa (BC F Aa Aa Aa).q fun a w F W => ?_
      refine ls F W Aa (Ah F Aa).q fun a w F W => ?_
      refine Ag (A8 (Ad ?_))
      exact ⟨_, H, F.re ⟨rfl, Aa, Aa, Aa, Aa, Aa, trivial⟩, W⟩
     have H := AX (by rw [hb]; decide) H
     rw [hb] at F
     clear hb
     refine Bx ?_
     iterate 2 refine BO ?_
     refine Bz (Ad ?_)
     have H := L5 _ H
     exact ⟨_, H, F.re ⟨rfl, Aa, Aa, Aa, Aa, Aa, trivial⟩, W⟩
    rintro a w ⟨x7, hj, F, W⟩
    have hj := AM hj
    subst hj
    have H := K4
    clear G4 K4
    refine Aj (Aj (Ae ?_))
    iterate 2 refine ls F W Aa (Ai F Aa).q fun a w F W => ?_
    refine ls F W Aa (Bq F Aa Aa).q fun a w F W => ?_
    refine Ag (Ad ?_)
    refine Ay F Aa (fun hb => ?_) fun hb => ?_
    ·
     have H := AW (Bm hb) H
     rw [hb] at F
     clear hb
     refine Aj (Ae ?_)
     refine ls F W Aa (Ah F Aa).q fun a w F W => ?_
     refine Ag (Ad (Az (AR (Bk ?_))))
     iterate 2 refine AR ?_
     refine Bk (AR ?_)
     have H := L3 _ H
     have H := L2 _ H
     have H := L1 _ H
     have H := AM H
     subst H
     refine AQ (.inl Aa) F W Aa (AD F Aa) ?_
     exact ⟨(), Aa, W⟩
    have H := AX (Bl hb) H
    rw [hb] at F
    clear hb
    refine Aw (Ad (Aj (Aj (Ae ?_))))
    iterate 2 refine ls F W Aa (Ai F Aa).q fun a w F W => ?_
    refine ls F W Aa (Cn F Aa Aa Aa).q fun a w F W => ?_
    refine ls F W Aa (Cy F Aa Aa).q fun a w F W => ?_
    refine Ag (Ad ?_)
    refine Ay F Aa (fun hb => ?_) fun hb => ?_
    ·
     have H := AW (Bm hb) H
     rw [hb] at F
     clear hb
     refine Aj (Ae ?_)
     refine ls F W Aa (Ah F Aa).q fun a w F W => ?_
     refine Ag (Ad (Az (AR (Bk ?_))))
     iterate 2 refine AR ?_
     refine Bk (AR ?_)
     have H := L3 _ H
     have H := L2 _ H
     have H := L1 _ H
     have H := AM H
     subst H
     refine AQ (.inl Aa) F W Aa (AD F Aa) ?_
     exact ⟨(), Aa, W⟩
    have H := AX (Bl hb) H
    rw [hb] at F
    clear hb
    refine Aw (Ad (Aj ?_))
    refine Eb [(true, 0), (true, 1), (true, 2), (true, 3), (true, 4), (true, 5), (true, 6), (true, 7), (true, 8), (true, 9), (true, 10), (true, 11), (true, 12), (true, 13), (true, 14), (false, 15), (true, 16), (false, 17)] (CN ⟨Y, X, w0⟩ [] [(some 15, row v1 3 (Rp.int .i64) x2)]) (fun ch a d v w h => by cases d <;> exact h) MO (by kernel_rfl) W (fun w W => ⟨_, _, W, Al, (Ab (fun _ => (.head _)) Al)⟩) fun w W => ?_
    iterate 4 refine A6 (R := []) F Aa Aa (yC fun M Z hN hZ => Ai F Aa) Aa Aa fun a F => ?_
    refine A6 (R := []) F Aa Aa (yC fun M Z hN hZ => Cn F Aa Aa Aa) Aa Aa fun a F => ?_
    iterate 2 refine A6 (R := []) F Aa Aa (yC fun M Z hN hZ => Ai F Aa) Aa Aa fun a F => ?_
    refine A6 (R := []) F Aa Aa (yC fun M Z hN hZ => Cn F Aa Aa Aa) Aa Aa fun a F => ?_
    obtain ⟨x12, h3, H⟩ := Am H
    refine A6 (R := []) F Aa Aa (yC fun M Z hN hZ => Ce (r := (Rp.int .i64)) Ds F Aa Aa (D2 W (Ap 0 Aa)) h3) Aa Aa fun a F => ?_
    refine A6 (R := [15]) F Aa Aa (yC fun M Z hN hZ => Ax (y := Value.int .i64 x12) (j := 0) (i := A1 (x7 - 1)) F Aa Aa (DV (hZ ((some 15), row v1 3 (Rp.int .i64) x2) (.head _) Aa)) h3 Fl.int.to T3 Aa) (by kernel_rfl) Aa fun a F => ?_
    iterate 2 refine A6 (R := []) F Aa Aa (yC fun M Z hN hZ => Ai F Aa) Aa Aa fun a F => ?_
    obtain ⟨x13, h4, H⟩ := Am H
    refine A6 (R := []) F Aa Aa (yC fun M Z hN hZ => Ce (r := (Rp.int .i64)) Ds F Aa Aa (D2 W (Ap 0 Aa)) h4) Aa Aa fun a F => ?_
    refine A6 (R := [15]) F Aa Aa (yC fun M Z hN hZ => Ax (y := Value.int .i64 x13) (j := 0) (i := x7) F Aa Aa (DV (hZ ((some 15), row v1 3 (Rp.int .i64) x2) (.head _) Aa)) h4 Fl.int.to T3 Aa) (by kernel_rfl) Aa fun a F => ?_
    obtain ⟨x14, h5, H⟩ := Am H
    refine A6 (R := []) F Aa Aa (yC fun M Z hN hZ => Ce (r := (Rp.int .i64)) Ds F Aa Aa (D2 W (Ap 0 Aa)) h5) Aa Aa fun a F => ?_
    refine BG Aa ?_
    refine Br (i := x7) (j := 0) (vs := [.int .i64 x12]) (x' := x12) F W Aa Aa Aa (k := 0) Aa Aa h5 T3 Aa Aa Aa Aa (fun A cs _ => Fl.int.sto (by rfl) _ _ _) fun w W => ?_
    refine AC (N2 := []) (NZ2 := []) (N3 := []) (NZ3 := [(some 15, row v1 3 (Rp.int .i64) x2)]) W Aa Aa Al (Ab (fun h => Ac (by kernel_rfl) h) Al) ?_
    obtain ⟨x15, h6, H⟩ := Am H
    refine A6 (R := []) F Aa Aa (yC fun M Z hN hZ => Ce (r := (Rp.int .i64)) Ds F Aa Aa (D2 W (Ap 0 Aa)) h6) Aa Aa fun a F => ?_
    refine BG Aa ?_
    refine Br (i := A1 (x7 - 1)) (j := 0) (vs := [.int .i64 x13]) (x' := x13) F W Aa Aa Aa (k := 0) Aa Aa h6 T3 Aa Aa Aa Aa (fun A cs _ => Fl.int.sto (by rfl) _ _ _) fun w W => ?_
    refine AC (N2 := []) (NZ2 := []) (N3 := []) (NZ3 := [(some 15, row v1 3 (Rp.int .i64) x2)]) W Aa Aa Al (Ab (fun h => Ac (by kernel_rfl) h) Al) ?_
    refine DS (Ad ?_)
    obtain ⟨o7, G7, K7⟩ := Am H
    refine AO (fun a w => ∃ x16 : List Int, some (x16) = some o7 ∧ Fr 133 [] [(0, v1), (1, .int .i64 p1), (2, .int .i64 p2), (6, .bool false), (7, .int .i64 x7), (8, .int .i64 x4)] a ∧ Stw ⟨Y, X, w0⟩ [] [row v1 3 (Rp.int .i64) x16] w) ?_ ?_
    ·
     have H := G7
     clear G7 K7
     refine Aj (Ae ?_)
     iterate 2 refine ls F W Aa (Ai F Aa).q fun a w F W => ?_
     refine ls F W Aa (Cn F Aa Aa Aa).q fun a w F W => ?_
     refine ls F W Aa (D6 F Aa Aa).q fun a w F W => ?_
     refine Ag (Ad ?_)
     refine Ay F Aa (fun hb => ?_) fun hb => ?_
     ·
      have H := AW (Bm hb) H
      rw [hb] at F
      clear hb
      refine Aj (Ae ?_)
      refine ls F W Aa (Ai F Aa).q fun a w F W => ?_
      refine ls F W Aa (Cn F Aa Aa Aa).q fun a w F W => ?_
      refine ls F W Aa (Ah F Aa).q fun a w F W => ?_
      refine Ag (Ad (AA ?_))
      refine BI H (fun s a w => Fr 133 [] [(0, v1), (1, .int .i64 p1), (2, .int .i64 p2), (6, .bool false), (7, .int .i64 x7), (8, .int .i64 x4), (9, .int .i64 s.2)] a ∧ Stw ⟨Y, X, w0⟩ [] [row v1 3 (Rp.int .i64) s.1] w) ⟨F.re ⟨rfl, Aa, Aa, Aa, Aa, Aa, Aa, trivial⟩, W⟩ fun s o a w H L8 hR => ?_
      obtain ⟨x17, x18⟩ := s
      obtain ⟨F, W⟩ := hR
      have F : Fr 133 [] [(0, v1), (1, .int .i64 p1), (2, .int .i64 p2), (6, .bool false), (7, .int .i64 x7), (8, .int .i64 x4), (9, .int .i64 x18)] a := F
      have W : Stw ⟨Y, X, w0⟩ [] [row v1 3 (Rp.int .i64) x17] w := W
      rw [A0] at H
      refine Aj (Aj (Ae ?_))
      refine ls F W Aa (Ai F Aa).q fun a w F W => ?_
      refine ls F W Aa (D6 F Aa Aa).q fun a w F W => ?_
      refine Ag (Ad ?_)
      refine Ay F Aa (fun hb => ?_) fun hb => ?_
      ·
       have H := AW (Bm hb) H
       rw [hb] at F
       clear hb
       refine Aw (Ad (Aj (AA ?_)))
       iterate 2 refine Aj ?_
       refine BS W MO (by kernel_rfl) ?_
       iterate 2 refine qs F Aa (Ai F Aa).q fun a F => ?_
       obtain ⟨x19, h7, H⟩ := Am H
       refine qs F Aa (AG (r := (Rp.int .i64)) Ds F Aa Aa (Ap 0 Aa) h7).q fun a F => ?_
       refine qs F Aa (Ax (y := Value.int .i64 x19) (j := 0) (i := x18) F Aa Aa (Ap 0 Aa) h7 Fl.int.to T3 Aa).q fun a F => ?_
       iterate 2 refine qs F Aa (Ai F Aa).q fun a F => ?_
       refine qs F Aa (Cn F Aa Aa Aa).q fun a F => ?_
       obtain ⟨x20, h8, H⟩ := Am H
       refine qs F Aa (AG (r := (Rp.int .i64)) Ds F Aa Aa (Ap 0 Aa) h8).q fun a F => ?_
       refine qs F Aa (Ax (y := Value.int .i64 x20) (j := 0) (i := A1 (x18 - 1)) F Aa Aa (Ap 0 Aa) h8 Fl.int.to T3 Aa).q fun a F => ?_
       refine qs F Aa (AU (v := Value.bool (Be x19 x20)) F Om Aa (fun w W => B9 any w x19 x20 _ Aa)) fun a F => ?_
       refine qs F Aa (ET F Aa).q fun a F => ?_
       refine A2 fun w W => ?_
       refine Ad ?_
       refine Ay F Aa (fun hb => ?_) fun hb => ?_
       ·
        have H := AW hb H
        rw [hb] at F
        clear hb
        refine Bx (BO ?_)
        refine KK Aa ?_
        iterate 2 refine BO ?_
        refine Bz (Ad ?_)
        have H := L8 _ H
        exact ⟨_, H, F.re ⟨rfl, Aa, Aa, Aa, Aa, Aa, trivial⟩, W⟩
       have H := AX (by rw [hb]; decide) H
       rw [hb] at F
       clear hb
       refine Aw (Ad ?_)
       refine Eb [(true, 0), (true, 1), (true, 2), (true, 3), (true, 4), (true, 5), (true, 6), (true, 7), (true, 8), (true, 9), (true, 10), (true, 11), (true, 12), (true, 13), (true, 14), (false, 15), (true, 16), (false, 17)] (CN ⟨Y, X, w0⟩ [] [(some 15, row v1 3 (Rp.int .i64) x17)]) (fun ch a d v w h => by cases d <;> exact h) MO (by kernel_rfl) W (fun w W => ⟨_, _, W, Al, (Ab (fun _ => (.head _)) Al)⟩) fun w W => ?_
       iterate 4 refine A6 (R := []) F Aa Aa (yC fun M Z hN hZ => Ai F Aa) Aa Aa fun a F => ?_
       refine A6 (R := []) F Aa Aa (yC fun M Z hN hZ => Cn F Aa Aa Aa) Aa Aa fun a F => ?_
       iterate 2 refine A6 (R := []) F Aa Aa (yC fun M Z hN hZ => Ai F Aa) Aa Aa fun a F => ?_
       refine A6 (R := []) F Aa Aa (yC fun M Z hN hZ => Cn F Aa Aa Aa) Aa Aa fun a F => ?_
       obtain ⟨x21, h9, H⟩ := Am H
       refine A6 (R := []) F Aa Aa (yC fun M Z hN hZ => Ce (r := (Rp.int .i64)) Ds F Aa Aa (D2 W (Ap 0 Aa)) h9) Aa Aa fun a F => ?_
       refine A6 (R := [15]) F Aa Aa (yC fun M Z hN hZ => Ax (y := Value.int .i64 x21) (j := 0) (i := A1 (x18 - 1)) F Aa Aa (DV (hZ ((some 15), row v1 3 (Rp.int .i64) x17) (.head _) Aa)) h9 Fl.int.to T3 Aa) (by kernel_rfl) Aa fun a F => ?_
       iterate 2 refine A6 (R := []) F Aa Aa (yC fun M Z hN hZ => Ai F Aa) Aa Aa fun a F => ?_
       obtain ⟨x22, h10, H⟩ := Am H
       refine A6 (R := []) F Aa Aa (yC fun M Z hN hZ => Ce (r := (Rp.int .i64)) Ds F Aa Aa (D2 W (Ap 0 Aa)) h10) Aa Aa fun a F => ?_
       refine A6 (R := [15]) F Aa Aa (yC fun M Z hN hZ => Ax (y := Value.int .i64 x22) (j := 0) (i := x18) F Aa Aa (DV (hZ ((some 15), row v1 3 (Rp.int .i64) x17) (.head _) Aa)) h10 Fl.int.to T3 Aa) (by kernel_rfl) Aa fun a F => ?_
       obtain ⟨x23, h11, H⟩ := Am H
       refine A6 (R := []) F Aa Aa (yC fun M Z hN hZ => Ce (r := (Rp.int .i64)) Ds F Aa Aa (D2 W (Ap 0 Aa)) h11) Aa Aa fun a F => ?_
       refine BG Aa ?_
       refine Br (i := x18) (j := 0) (vs := [.int .i64 x21]) (x' := x21) F W Aa Aa Aa (k := 0) Aa Aa h11 T3 Aa Aa Aa Aa (fun A cs _ => Fl.int.sto (by rfl) _ _ _) fun w W => ?_
       refine AC (N2 := []) (NZ2 := []) (N3 := []) (NZ3 := [(some 15, row v1 3 (Rp.int .i64) x17)]) W Aa Aa Al (Ab (fun h => Ac (by kernel_rfl) h) Al) ?_
       obtain ⟨x24, h12, H⟩ := Am H
       refine A6 (R := []) F Aa Aa (yC fun M Z hN hZ => Ce (r := (Rp.int .i64)) Ds F Aa Aa (D2 W (Ap 0 Aa)) h12) Aa Aa fun a F => ?_
       refine BG Aa ?_
       refine Br (i := A1 (x18 - 1)) (j := 0) (vs := [.int .i64 x22]) (x' := x22) F W Aa Aa Aa (k := 0) Aa Aa h12 T3 Aa Aa Aa Aa (fun A cs _ => Fl.int.sto (by rfl) _ _ _) fun w W => ?_
       refine AC (N2 := []) (NZ2 := []) (N3 := []) (NZ3 := [(some 15, row v1 3 (Rp.int .i64) x17)]) W Aa Aa Al (Ab (fun h => Ac (by kernel_rfl) h) Al) ?_
       refine DS (A8 (Ad (Ae ?_)))
       refine ls F W Aa (Ai F Aa).q fun a w F W => ?_
       refine ls F W Aa (Cn F Aa Aa Aa).q fun a w F W => ?_
       refine ls F W Aa (Ah F Aa).q fun a w F W => ?_
       refine Ag (Ad ?_)
       exact ⟨_, H, F.re ⟨rfl, Aa, Aa, Aa, Aa, Aa, Aa, trivial⟩, W⟩
      have H := AX (Bl hb) H
      rw [hb] at F
      clear hb
      refine Bx ?_
      iterate 2 refine BO ?_
      refine Bz (Ad ?_)
      have H := L8 _ H
      exact ⟨_, H, F.re ⟨rfl, Aa, Aa, Aa, Aa, Aa, trivial⟩, W⟩
     have H := AX (Bl hb) H
     rw [hb] at F
     clear hb
     refine Aw (Ad ?_)
     exact ⟨_, H, F.re ⟨rfl, Aa, Aa, Aa, Aa, Aa, trivial⟩, W⟩
    rintro a w ⟨x16, hj, F, W⟩
    have hj := AM hj
    subst hj
    have H := K7
    clear G7 K7
    refine Aj (Ae ?_)
    iterate 2 refine ls F W Aa (Ai F Aa).q fun a w F W => ?_
    refine ls F W Aa (Cn F Aa Aa Aa).q fun a w F W => ?_
    refine ls F W Aa (D6 F Aa Aa).q fun a w F W => ?_
    refine Ag (Ad ?_)
    refine Ay F Aa (fun hb => ?_) fun hb => ?_
    ·
     have H := AW (Bm hb) H
     rw [hb] at F
     clear hb
     refine Aj (Ae ?_)
     refine ls F W Aa (Ai F Aa).q fun a w F W => ?_
     refine ls F W Aa (BC F Aa Aa Aa).q fun a w F W => ?_
     refine ls F W Aa (Ah F Aa).q fun a w F W => ?_
     refine Ag (Ad (AA ?_))
     refine BI H (fun s a w => Fr 133 [] [(0, v1), (1, .int .i64 p1), (2, .int .i64 p2), (6, .bool false), (7, .int .i64 x7), (8, .int .i64 x4), (10, .int .i64 s.2)] a ∧ Stw ⟨Y, X, w0⟩ [] [row v1 3 (Rp.int .i64) s.1] w) ⟨F.re ⟨rfl, Aa, Aa, Aa, Aa, Aa, Aa, trivial⟩, W⟩ fun s o a w H L9 hR => ?_
     obtain ⟨x25, x26⟩ := s
     obtain ⟨F, W⟩ := hR
     have F : Fr 133 [] [(0, v1), (1, .int .i64 p1), (2, .int .i64 p2), (6, .bool false), (7, .int .i64 x7), (8, .int .i64 x4), (10, .int .i64 x26)] a := F
     have W : Stw ⟨Y, X, w0⟩ [] [row v1 3 (Rp.int .i64) x25] w := W
     rw [Ba] at H
     refine Aj (Aj (Ae ?_))
     iterate 2 refine ls F W Aa (Ai F Aa).q fun a w F W => ?_
     refine ls F W Aa (Cy F Aa Aa).q fun a w F W => ?_
     refine Ag (Ad ?_)
     refine Ay F Aa (fun hb => ?_) fun hb => ?_
     ·
      have H := AW (Bm hb) H
      rw [hb] at F
      clear hb
      refine Aw (Ad (Aj (AA ?_)))
      iterate 2 refine Aj ?_
      refine BS W MO (by kernel_rfl) ?_
      iterate 2 refine qs F Aa (Ai F Aa).q fun a F => ?_
      obtain ⟨x27, h13, H⟩ := Am H
      refine qs F Aa (AG (r := (Rp.int .i64)) Ds F Aa Aa (Ap 0 Aa) h13).q fun a F => ?_
      refine qs F Aa (Ax (y := Value.int .i64 x27) (j := 0) (i := x26) F Aa Aa (Ap 0 Aa) h13 Fl.int.to T3 Aa).q fun a F => ?_
      iterate 2 refine qs F Aa (Ai F Aa).q fun a F => ?_
      refine qs F Aa (Cn F Aa Aa Aa).q fun a F => ?_
      obtain ⟨x28, h14, H⟩ := Am H
      refine qs F Aa (AG (r := (Rp.int .i64)) Ds F Aa Aa (Ap 0 Aa) h14).q fun a F => ?_
      refine qs F Aa (Ax (y := Value.int .i64 x28) (j := 0) (i := A1 (x26 - 1)) F Aa Aa (Ap 0 Aa) h14 Fl.int.to T3 Aa).q fun a F => ?_
      refine qs F Aa (AU (v := Value.bool (Be x27 x28)) F Om Aa (fun w W => B9 any w x27 x28 _ Aa)) fun a F => ?_
      refine qs F Aa (ET F Aa).q fun a F => ?_
      refine A2 fun w W => ?_
      refine Ad ?_
      refine Ay F Aa (fun hb => ?_) fun hb => ?_
      ·
       have H := AW hb H
       rw [hb] at F
       clear hb
       refine Bx (BO ?_)
       refine KK Aa ?_
       iterate 2 refine BO ?_
       refine Bz (A8 (Ad ?_))
       have H := L9 _ H
       exact ⟨_, _, H, F.re ⟨rfl, Aa, Aa, Aa, Aa, Aa, trivial⟩, W⟩
      have H := AX (by rw [hb]; decide) H
      rw [hb] at F
      clear hb
      refine Aw (Ad ?_)
      refine Eb [(true, 0), (true, 1), (true, 2), (true, 3), (true, 4), (true, 5), (true, 6), (true, 7), (true, 8), (true, 9), (true, 10), (true, 11), (true, 12), (true, 13), (true, 14), (false, 15), (true, 16), (false, 17)] (CN ⟨Y, X, w0⟩ [] [(some 15, row v1 3 (Rp.int .i64) x25)]) (fun ch a d v w h => by cases d <;> exact h) MO (by kernel_rfl) W (fun w W => ⟨_, _, W, Al, (Ab (fun _ => (.head _)) Al)⟩) fun w W => ?_
      iterate 4 refine A6 (R := []) F Aa Aa (yC fun M Z hN hZ => Ai F Aa) Aa Aa fun a F => ?_
      refine A6 (R := []) F Aa Aa (yC fun M Z hN hZ => Cn F Aa Aa Aa) Aa Aa fun a F => ?_
      iterate 2 refine A6 (R := []) F Aa Aa (yC fun M Z hN hZ => Ai F Aa) Aa Aa fun a F => ?_
      refine A6 (R := []) F Aa Aa (yC fun M Z hN hZ => Cn F Aa Aa Aa) Aa Aa fun a F => ?_
      obtain ⟨x29, h15, H⟩ := Am H
      refine A6 (R := []) F Aa Aa (yC fun M Z hN hZ => Ce (r := (Rp.int .i64)) Ds F Aa Aa (D2 W (Ap 0 Aa)) h15) Aa Aa fun a F => ?_
      refine A6 (R := [15]) F Aa Aa (yC fun M Z hN hZ => Ax (y := Value.int .i64 x29) (j := 0) (i := A1 (x26 - 1)) F Aa Aa (DV (hZ ((some 15), row v1 3 (Rp.int .i64) x25) (.head _) Aa)) h15 Fl.int.to T3 Aa) (by kernel_rfl) Aa fun a F => ?_
      iterate 2 refine A6 (R := []) F Aa Aa (yC fun M Z hN hZ => Ai F Aa) Aa Aa fun a F => ?_
      obtain ⟨x30, h16, H⟩ := Am H
      refine A6 (R := []) F Aa Aa (yC fun M Z hN hZ => Ce (r := (Rp.int .i64)) Ds F Aa Aa (D2 W (Ap 0 Aa)) h16) Aa Aa fun a F => ?_
      refine A6 (R := [15]) F Aa Aa (yC fun M Z hN hZ => Ax (y := Value.int .i64 x30) (j := 0) (i := x26) F Aa Aa (DV (hZ ((some 15), row v1 3 (Rp.int .i64) x25) (.head _) Aa)) h16 Fl.int.to T3 Aa) (by kernel_rfl) Aa fun a F => ?_
      obtain ⟨x31, h17, H⟩ := Am H
      refine A6 (R := []) F Aa Aa (yC fun M Z hN hZ => Ce (r := (Rp.int .i64)) Ds F Aa Aa (D2 W (Ap 0 Aa)) h17) Aa Aa fun a F => ?_
      refine BG Aa ?_
      refine Br (i := x26) (j := 0) (vs := [.int .i64 x29]) (x' := x29) F W Aa Aa Aa (k := 0) Aa Aa h17 T3 Aa Aa Aa Aa (fun A cs _ => Fl.int.sto (by rfl) _ _ _) fun w W => ?_
      refine AC (N2 := []) (NZ2 := []) (N3 := []) (NZ3 := [(some 15, row v1 3 (Rp.int .i64) x25)]) W Aa Aa Al (Ab (fun h => Ac (by kernel_rfl) h) Al) ?_
      obtain ⟨x32, h18, H⟩ := Am H
      refine A6 (R := []) F Aa Aa (yC fun M Z hN hZ => Ce (r := (Rp.int .i64)) Ds F Aa Aa (D2 W (Ap 0 Aa)) h18) Aa Aa fun a F => ?_
      refine BG Aa ?_
      refine Br (i := A1 (x26 - 1)) (j := 0) (vs := [.int .i64 x30]) (x' := x30) F W Aa Aa Aa (k := 0) Aa Aa h18 T3 Aa Aa Aa Aa (fun A cs _ => Fl.int.sto (by rfl) _ _ _) fun w W => ?_
      refine AC (N2 := []) (NZ2 := []) (N3 := []) (NZ3 := [(some 15, row v1 3 (Rp.int .i64) x25)]) W Aa Aa Al (Ab (fun h => Ac (by kernel_rfl) h) Al) ?_
      refine DS (A8 (Ad (Ae ?_)))
      refine ls F W Aa (Ai F Aa).q fun a w F W => ?_
      refine ls F W Aa (BC F Aa Aa Aa).q fun a w F W => ?_
      refine ls F W Aa (Ah F Aa).q fun a w F W => ?_
      refine Ag (Ad ?_)
      exact ⟨_, H, F.re ⟨rfl, Aa, Aa, Aa, Aa, Aa, Aa, trivial⟩, W⟩
     have H := AX (Bl hb) H
     rw [hb] at F
     clear hb
     refine Bx ?_
     iterate 2 refine BO ?_
     refine Bz (A8 (Ad ?_))
     have H := L9 _ H
     exact ⟨_, _, H, F.re ⟨rfl, Aa, Aa, Aa, Aa, Aa, trivial⟩, W⟩
    have H := AX (Bl hb) H
    rw [hb] at F
    clear hb
    refine Aw (A8 (Ad ?_))
    exact ⟨_, _, H, F.re ⟨rfl, Aa, Aa, Aa, Aa, Aa, trivial⟩, W⟩
   rintro a w ⟨x5, x6, hj, F, W⟩
   have H := K3 _ hj
   clear hj G3 K3 L3
   refine Ae ?_
   refine ls F W Aa (Ai F Aa).q fun a w F W => ?_
   refine ls F W Aa (BC F Aa Aa Aa).q fun a w F W => ?_
   refine ls F W Aa (Ah F Aa).q fun a w F W => ?_
   refine Ag (Ad ?_)
   exact ⟨_, H, F.re ⟨rfl, Aa, Aa, Aa, Aa, Aa, trivial⟩, W⟩
  have H := AX (Bl hb) H
  rw [hb] at F
  clear hb
  refine Bx ?_
  iterate 2 refine BO ?_
  refine Bz (Ad ?_)
  have H := L2 _ H
  exact ⟨_, H, F.re ⟨rfl, trivial⟩, W⟩
 rintro a w ⟨x1, hj, F, W⟩
 have H := K1 _ hj
 clear hj G1 K1 L1
 refine Aj (Ae ?_)
 refine ls F W Aa (Ah F Aa).q fun a w F W => ?_
 refine Ag (Ad (Az ?_))
 have H := AM H
 subst H
 refine AQ (.inl Aa) F W Aa (AD F Aa) ?_
 exact ⟨(), Aa, W⟩
theorem Ts : Has Tryd.prog 65 := ⟨fun args w => Ao Tryd.func65 rfl (by decide) args w⟩
noncomputable def BU (p1 : Int) (x7 : List Int) (x9 : Int) : Int → Option (Int ⊕ Int)
  | x11 => (if x11 ≤ x9 then (ix x7 p1).bind fun x13 => (ix x7 x11).bind fun x14 => some (!(Be x13 x14)) else some false).bind fun x12 => (if x12 = true then some (.inl (A1 (x11 + 1))) else some (.inr x11))
noncomputable def BW (p1 : Int) (x7 : List Int) (x10 : Int) : Int → Option (Int ⊕ Int)
  | x16 => (if x10 ≤ x16 then (ix x7 p1).bind fun x18 => (ix x7 x16).bind fun x19 => some (Be x18 x19) else some false).bind fun x17 => (if x17 = true then some (.inl (A1 (x16 - 1))) else some (.inr x16))
noncomputable def BH (p1 : Int) : (List Int × Int × Int) → Option ((List Int × Int × Int) ⊕ (Int × List Int))
  | (x7, x8, x9) => (A3 (BU p1 x7 x9) x8).bind fun x10 => (A3 (BW p1 x7 x10) x9).bind fun x15 => (if x15 < x10 then some (.inr (x10, x7)) else (ix x7 x15).bind fun x20 => (ix x7 x10).bind fun x21 => (ix x7 x10).bind fun x22 => (ix (Bd x7 x10 x20) x15).bind fun x23 => some (.inl ((Bd (Bd x7 x10 x20) x15 x21), A1 (x10 + 1), A1 (x15 - 1))))
noncomputable def B8 (p0 : List Int) (p1 : Int) (p2 : Int) (p3 : Int) : Option (Int × List Int) := (ix p0 p3).bind fun x1 => (ix p0 p1).bind fun x2 => (ix p0 p1).bind fun x3 => (ix (Bd p0 p1 x1) p3).bind fun x4 => (A3 (BH p1) ((Bd (Bd p0 p1 x1) p3 x2), A1 (p1 + 1), A1 (p2 - 1))).bind fun (x5, x6) => some (x5, x6)
theorem Fc (Y : Nat → Prop) (X : List Nat) (w0 : World) (v1 : Value) (p0 : List Int) (p1 : Int) (p2 : Int) (p3 : Int) (r : Int × List Int) (H : B8 p0 p1 p2 p3 = some r) (hL : Stw ⟨Y, X, w0⟩ [] [row v1 3 (Rp.int .i64) p0] w0) :
    Calls Tryd.prog 67 #[v1, .int .i64 p1, .int .i64 p2, .int .i64 p3] w0 fun e w' => ∃ x : Unit, e = .returned (.int .i64 r.1) ∧ Stw ⟨Y, X, w0⟩ [] [row v1 3 (Rp.int .i64) r.2] w' := by
 refine enter Tryd.func67 Aa Tryd.ntmps67 Aa fun a F => ?_
 have W := hL
 unfold B8 at H
 refine Aj (Ae ?_)
 refine ls F W Aa (Ah F Aa).q fun a w F W => ?_
 refine Ag (Ad (Aj ?_))
 refine GC 13 [2, 3] [0, 1, 4, 5, 6, 7, 8, 9, 10, 11, 12] (fun ch a d v w h => by cases d <;> exact h) W MO (by kernel_rfl) ?_
 iterate 2 refine hm F Aa Aa Aa fun a F => ?_
 refine HX ?_
 iterate 4 refine hs F Aa Aa Aa (Ai F Aa).q fun a F => ?_
 obtain ⟨x1, h1, H⟩ := Am H
 refine hs F Aa Aa Aa (AG (r := (Rp.int .i64)) Ds F Aa Aa (Ap 0 Aa) h1).q fun a F => ?_
 refine hs F Aa Aa Aa (Ax (y := Value.int .i64 x1) (j := 0) (i := p3) F Aa Aa (Ap 0 Aa) h1 Fl.int.to T3 Aa).q fun a F => ?_
 iterate 2 refine hs F Aa Aa Aa (Ai F Aa).q fun a F => ?_
 obtain ⟨x2, h2, H⟩ := Am H
 refine hs F Aa Aa Aa (AG (r := (Rp.int .i64)) Ds F Aa Aa (Ap 0 Aa) h2).q fun a F => ?_
 refine hs F Aa Aa Aa (Ax (y := Value.int .i64 x2) (j := 0) (i := p1) F Aa Aa (Ap 0 Aa) h2 Fl.int.to T3 Aa).q fun a F => ?_
 obtain ⟨x3, h3, H⟩ := Am H
 refine hs F Aa Aa Aa (AG (r := (Rp.int .i64)) Ds F Aa Aa (Ap 0 Aa) h3).q fun a F => ?_
 refine Jy fun w W => ?_
 have W : Stw ⟨Y, X, w0⟩ [] [row v1 3 (Rp.int .i64) p0] w := W
 refine Br (i := p1) (j := 0) (vs := [.int .i64 x1]) (x' := x1) F W Aa Aa Aa (k := 0) Aa Aa h3 T3 Aa Aa Aa Aa (fun A cs _ => Fl.int.sto (by rfl) _ _ _) fun w W => ?_
 obtain ⟨x4, h4, H⟩ := Am H
 refine ls F W Aa (AG (r := (Rp.int .i64)) Ds F Aa Aa (Ap 0 Aa) h4).q fun a w F W => ?_
 refine Br (i := p3) (j := 0) (vs := [.int .i64 x2]) (x' := x2) F W Aa Aa Aa (k := 0) Aa Aa h4 T3 Aa Aa Aa Aa (fun A cs _ => Fl.int.sto (by rfl) _ _ _) fun w W => ?_
 refine Ag (Ad (Aj (Ae ?_)))
 refine ls F W Aa (Ai F Aa).q fun a w F W => ?_
 refine ls F W Aa (BC F Aa Aa Aa).q fun a w F W => ?_
 refine ls F W Aa (Ai F Aa).q fun a w F W => ?_
 refine ls F W Aa (Cn F Aa Aa Aa).q fun a w F W => ?_
 iterate 2 refine ls F W Aa (Ah F Aa).q fun a w F W => ?_
 refine Ag (Ad ?_)
 obtain ⟨o1, G1, K1⟩ := Am H
 refine AO (fun a w => ∃ x5 : Int, ∃ x6 : List Int, some ((x5, x6)) = some o1 ∧ Fr 84 [] [(8, .int .i64 0), (9, .int .i64 x5)] a ∧ Stw ⟨Y, X, w0⟩ [] [row v1 3 (Rp.int .i64) x6] w) ?_ ?_
 ·
  have H := G1
  clear G1 K1
  refine AA ?_
  refine BI H (fun s a w => Fr 84 [] [(0, v1), (1, .int .i64 p1), (8, .int .i64 0), (9, .int .i64 s.2.1), (10, .int .i64 s.2.2)] a ∧ Stw ⟨Y, X, w0⟩ [] [row v1 3 (Rp.int .i64) s.1] w) ⟨F.re ⟨rfl, Aa, Aa, Aa, Aa, trivial⟩, W⟩ fun s o a w H L2 hR => ?_
  obtain ⟨x7, x8, x9⟩ := s
  obtain ⟨F, W⟩ := hR
  have F : Fr 84 [] [(0, v1), (1, .int .i64 p1), (8, .int .i64 0), (9, .int .i64 x8), (10, .int .i64 x9)] a := F
  have W : Stw ⟨Y, X, w0⟩ [] [row v1 3 (Rp.int .i64) x7] w := W
  rw [BH] at H
  refine AA ?_
  obtain ⟨o3, G3, K3⟩ := Am H
  refine AO (fun a w => ∃ x10 : Int, some (x10) = some o3 ∧ Fr 84 [] [(0, v1), (1, .int .i64 p1), (8, .int .i64 0), (9, .int .i64 x10), (10, .int .i64 x9)] a ∧ Stw ⟨Y, X, w0⟩ [] [row v1 3 (Rp.int .i64) x7] w) ?_ ?_
  ·
   have H := G3
   clear G3 K3
   refine AA ?_
   refine BI H (fun s a w => Fr 84 [] [(0, v1), (1, .int .i64 p1), (8, .int .i64 0), (9, .int .i64 s), (10, .int .i64 x9)] a ∧ Stw ⟨Y, X, w0⟩ [] [row v1 3 (Rp.int .i64) x7] w) ⟨F.re ⟨rfl, Aa, Aa, Aa, Aa, trivial⟩, W⟩ fun s o a w H L4 hR => ?_
   obtain ⟨x11, rfl⟩ : ∃ x, x = s := ⟨s, rfl⟩
   obtain ⟨F, W⟩ := hR
   have F : Fr 84 [] [(0, v1), (1, .int .i64 p1), (8, .int .i64 0), (9, .int .i64 x11), (10, .int .i64 x9)] a := F
   have W : Stw ⟨Y, X, w0⟩ [] [row v1 3 (Rp.int .i64) x7] w := W
   rw [BU] at H
   refine Aj ?_
   obtain ⟨o5, G5, K5⟩ := Am H
   refine AO (fun a w => ∃ x12 : Bool, some (x12) = some o5 ∧ Fr 84 [] [(0, v1), (1, .int .i64 p1), (8, .int .i64 0), (9, .int .i64 x11), (10, .int .i64 x9), (43, .bool x12)] a ∧ Stw ⟨Y, X, w0⟩ [] [row v1 3 (Rp.int .i64) x7] w) ?_ ?_
   ·
    have H := G5
    clear G5 K5
    refine BS W MO (by kernel_rfl) ?_
    iterate 2 refine qs F Aa (Ai F Aa).q fun a F => ?_
    refine qs F Aa (F9 F Aa Aa).q fun a F => ?_
    refine qs F Aa (Ai F Aa).q fun a F => ?_
    rcases Bool.eq_false_or_eq_true (decide (x11 ≤ x9)) with hb | hb
    ·
     have H := AW (Bm hb) H
     rw [hb] at F
     clear hb
     iterate 2 refine Bi F (Af F Aa Aa Aa Aa) Aa (An Aa) (Ai F Aa).q fun a F => ?_
     obtain ⟨x13, h5, H⟩ := Am H
     refine Bi F (Af F Aa Aa Aa Aa) Aa (An Aa) (AG (r := (Rp.int .i64)) Ds F Aa Aa (Ap 0 Aa) h5).q fun a F => ?_
     refine Bi F (Af F Aa Aa Aa Aa) Aa (An Aa) (Ax (y := Value.int .i64 x13) (j := 0) (i := p1) F Aa Aa (Ap 0 Aa) h5 Fl.int.to T3 Aa).q fun a F => ?_
     iterate 2 refine Bi F (Af F Aa Aa Aa Aa) Aa (An Aa) (Ai F Aa).q fun a F => ?_
     obtain ⟨x14, h6, H⟩ := Am H
     refine Bi F (Af F Aa Aa Aa Aa) Aa (An Aa) (AG (r := (Rp.int .i64)) Ds F Aa Aa (Ap 0 Aa) h6).q fun a F => ?_
     refine Bi F (Af F Aa Aa Aa Aa) Aa (An Aa) (Ax (y := Value.int .i64 x14) (j := 0) (i := x11) F Aa Aa (Ap 0 Aa) h6 Fl.int.to T3 Aa).q fun a F => ?_
     refine Bi F (Af F Aa Aa Aa Aa) Aa (An Aa) (AU (v := Value.bool (Be x13 x14)) F Om Aa (fun w W => B9 any w x13 x14 _ Aa)) fun a F => ?_
     refine Bi F (Af F Aa Aa Aa Aa) Aa (An Aa) (ET F Aa).q fun a F => ?_
     refine qs F Aa (Au F Aa Aa Aa).q fun a F => ?_
     refine A2 fun w W => ?_
     refine Ad ?_
     exact ⟨_, H, F.re ⟨rfl, Aa, Aa, Aa, Aa, Aa, trivial⟩, W⟩
    have H := AX (Bl hb) H
    rw [hb] at F
    clear hb
    iterate 10 refine Ca F (AH F Aa Aa Aa Aa Aa) Aa Aa fun a F => ?_
    refine qs F Aa (As F Aa Aa Aa).q fun a F => ?_
    refine A2 fun w W => ?_
    refine Ad ?_
    exact ⟨_, H, F.re ⟨rfl, Aa, Aa, Aa, Aa, Aa, trivial⟩, W⟩
   rintro a w ⟨x12, hj, F, W⟩
   have hj := AM hj
   subst hj
   have H := K5
   clear G5 K5
   refine Ay F Aa (fun hb => ?_) fun hb => ?_
   ·
    have H := AW hb H
    rw [hb] at F
    clear hb
    refine Aw (Ad (AA (Ae ?_)))
    refine ls F W Aa (Ai F Aa).q fun a w F W => ?_
    refine ls F W Aa (BC F Aa Aa Aa).q fun a w F W => ?_
    refine ls F W Aa (Ah F Aa).q fun a w F W => ?_
    refine Ag (A8 (Ad ?_))
    exact ⟨_, H, F.re ⟨rfl, Aa, Aa, Aa, Aa, trivial⟩, W⟩
   have H := AX (by rw [hb]; decide) H
   rw [hb] at F
   clear hb
   refine Bx ?_
   iterate 2 refine BO ?_
   refine Bz (Ad ?_)
   have H := L4 _ H
   exact ⟨_, H, F.re ⟨rfl, Aa, Aa, Aa, Aa, trivial⟩, W⟩
  rintro a w ⟨x10, hj, F, W⟩
  have hj := AM hj
  subst hj
  have H := K3
  clear G3 K3
  obtain ⟨o6, G6, K6⟩ := Am H
  refine AO (fun a w => ∃ x15 : Int, some (x15) = some o6 ∧ Fr 84 [] [(0, v1), (1, .int .i64 p1), (8, .int .i64 0), (9, .int .i64 x10), (10, .int .i64 x15)] a ∧ Stw ⟨Y, X, w0⟩ [] [row v1 3 (Rp.int .i64) x7] w) ?_ ?_
  ·
   have H := G6
   clear G6 K6
   refine AA ?_
   refine BI H (fun s a w => Fr 84 [] [(0, v1), (1, .int .i64 p1), (8, .int .i64 0), (9, .int .i64 x10), (10, .int .i64 s)] a ∧ Stw ⟨Y, X, w0⟩ [] [row v1 3 (Rp.int .i64) x7] w) ⟨F.re ⟨rfl, Aa, Aa, Aa, Aa, trivial⟩, W⟩ fun s o a w H L7 hR => ?_
   obtain ⟨x16, rfl⟩ : ∃ x, x = s := ⟨s, rfl⟩
   obtain ⟨F, W⟩ := hR
   have F : Fr 84 [] [(0, v1), (1, .int .i64 p1), (8, .int .i64 0), (9, .int .i64 x10), (10, .int .i64 x16)] a := F
   have W : Stw ⟨Y, X, w0⟩ [] [row v1 3 (Rp.int .i64) x7] w := W
   rw [BW] at H
   refine Aj ?_
   obtain ⟨o8, G8, K8⟩ := Am H
   refine AO (fun a w => ∃ x17 : Bool, some (x17) = some o8 ∧ Fr 84 [] [(0, v1), (1, .int .i64 p1), (8, .int .i64 0), (9, .int .i64 x10), (10, .int .i64 x16), (59, .bool x17)] a ∧ Stw ⟨Y, X, w0⟩ [] [row v1 3 (Rp.int .i64) x7] w) ?_ ?_
   ·
    have H := G8
    clear G8 K8
    refine BS W MO (by kernel_rfl) ?_
    iterate 2 refine qs F Aa (Ai F Aa).q fun a F => ?_
    refine qs F Aa (F9 F Aa Aa).q fun a F => ?_
    refine qs F Aa (Ai F Aa).q fun a F => ?_
    rcases Bool.eq_false_or_eq_true (decide (x10 ≤ x16)) with hb | hb
    ·
     have H := AW (Bm hb) H
     rw [hb] at F
     clear hb
     iterate 2 refine Bi F (Af F Aa Aa Aa Aa) Aa (An Aa) (Ai F Aa).q fun a F => ?_
     obtain ⟨x18, h7, H⟩ := Am H
     refine Bi F (Af F Aa Aa Aa Aa) Aa (An Aa) (AG (r := (Rp.int .i64)) Ds F Aa Aa (Ap 0 Aa) h7).q fun a F => ?_
     refine Bi F (Af F Aa Aa Aa Aa) Aa (An Aa) (Ax (y := Value.int .i64 x18) (j := 0) (i := p1) F Aa Aa (Ap 0 Aa) h7 Fl.int.to T3 Aa).q fun a F => ?_
     iterate 2 refine Bi F (Af F Aa Aa Aa Aa) Aa (An Aa) (Ai F Aa).q fun a F => ?_
     obtain ⟨x19, h8, H⟩ := Am H
     refine Bi F (Af F Aa Aa Aa Aa) Aa (An Aa) (AG (r := (Rp.int .i64)) Ds F Aa Aa (Ap 0 Aa) h8).q fun a F => ?_
     refine Bi F (Af F Aa Aa Aa Aa) Aa (An Aa) (Ax (y := Value.int .i64 x19) (j := 0) (i := x16) F Aa Aa (Ap 0 Aa) h8 Fl.int.to T3 Aa).q fun a F => ?_
     refine Bi F (Af F Aa Aa Aa Aa) Aa (An Aa) (AU (v := Value.bool (Be x18 x19)) F Om Aa (fun w W => B9 any w x18 x19 _ Aa)) fun a F => ?_
     refine qs F Aa (Au F Aa Aa Aa).q fun a F => ?_
     refine A2 fun w W => ?_
     refine Ad ?_
     exact ⟨_, H, F.re ⟨rfl, Aa, Aa, Aa, Aa, Aa, trivial⟩, W⟩
    have H := AX (Bl hb) H
    rw [hb] at F
    clear hb
    iterate 9 refine Ca F (AH F Aa Aa Aa Aa Aa) Aa Aa fun a F => ?_
    refine qs F Aa (As F Aa Aa Aa).q fun a F => ?_
    refine A2 fun w W => ?_
    refine Ad ?_
    exact ⟨_, H, F.re ⟨rfl, Aa, Aa, Aa, Aa, Aa, trivial⟩, W⟩
   rintro a w ⟨x17, hj, F, W⟩
   have hj := AM hj
   subst hj
   have H := K8
   clear G8 K8
   refine Ay F Aa (fun hb => ?_) fun hb => ?_
   ·
    have H := AW hb H
    rw [hb] at F
    clear hb
    refine Aw (Ad (AA (Ae ?_)))
    refine ls F W Aa (Ai F Aa).q fun a w F W => ?_
    refine ls F W Aa (Cn F Aa Aa Aa).q fun a w F W => ?_
    refine ls F W Aa (Ah F Aa).q fun a w F W => ?_
    refine Ag (A8 (Ad ?_))
    exact ⟨_, H, F.re ⟨rfl, Aa, Aa, Aa, Aa, trivial⟩, W⟩
   have H := AX (by rw [hb]; decide) H
   rw [hb] at F
   clear hb
   refine Bx ?_
   iterate 2 refine BO ?_
   refine Bz (Ad ?_)
   have H := L7 _ H
   exact ⟨_, H, F.re ⟨rfl, Aa, Aa, Aa, Aa, trivial⟩, W⟩
  rintro a w ⟨x15, hj, F, W⟩
  have hj := AM hj
  subst hj
  have H := K6
  clear G6 K6
  refine Aj (Aj (Ae ?_))
  iterate 2 refine ls F W Aa (Ai F Aa).q fun a w F W => ?_
  refine ls F W Aa (EW F Aa Aa).q fun a w F W => ?_
  refine Ag (Ad ?_)
  refine Ay F Aa (fun hb => ?_) fun hb => ?_
  ·
   have H := AW (Bm hb) H
   rw [hb] at F
   clear hb
   refine Bx (BO ?_)
   refine KK Aa ?_
   refine BO (Bz (Ad ?_))
   have H := L2 _ H
   exact ⟨_, _, H, F.re ⟨rfl, Aa, trivial⟩, W⟩
  have H := AX (Bl hb) H
  rw [hb] at F
  clear hb
  refine Aw (Ad (Aj ?_))
  refine GC 13 [2, 3] [0, 1, 4, 5, 6, 7, 8, 9, 10, 11, 12] (fun ch a d v w h => by cases d <;> exact h) W MO (by kernel_rfl) ?_
  iterate 2 refine hm F Aa Aa Aa fun a F => ?_
  refine HX ?_
  iterate 4 refine hs F Aa Aa Aa (Ai F Aa).q fun a F => ?_
  obtain ⟨x20, h9, H⟩ := Am H
  refine hs F Aa Aa Aa (AG (r := (Rp.int .i64)) Ds F Aa Aa (Ap 0 Aa) h9).q fun a F => ?_
  refine hs F Aa Aa Aa (Ax (y := Value.int .i64 x20) (j := 0) (i := x15) F Aa Aa (Ap 0 Aa) h9 Fl.int.to T3 Aa).q fun a F => ?_
  iterate 2 refine hs F Aa Aa Aa (Ai F Aa).q fun a F => ?_
  obtain ⟨x21, h10, H⟩ := Am H
  refine hs F Aa Aa Aa (AG (r := (Rp.int .i64)) Ds F Aa Aa (Ap 0 Aa) h10).q fun a F => ?_
  refine hs F Aa Aa Aa (Ax (y := Value.int .i64 x21) (j := 0) (i := x10) F Aa Aa (Ap 0 Aa) h10 Fl.int.to T3 Aa).q fun a F => ?_
  obtain ⟨x22, h11, H⟩ := Am H
  refine hs F Aa Aa Aa (AG (r := (Rp.int .i64)) Ds F Aa Aa (Ap 0 Aa) h11).q fun a F => ?_
  refine Jy fun w W => ?_
  have W : Stw ⟨Y, X, w0⟩ [] [row v1 3 (Rp.int .i64) x7] w := W
  refine Br (i := x10) (j := 0) (vs := [.int .i64 x20]) (x' := x20) F W Aa Aa Aa (k := 0) Aa Aa h11 T3 Aa Aa Aa Aa (fun A cs _ => Fl.int.sto (by rfl) _ _ _) fun w W => ?_
  obtain ⟨x23, h12, H⟩ := Am H
  refine ls F W Aa (AG (r := (Rp.int .i64)) Ds F Aa Aa (Ap 0 Aa) h12).q fun a w F W => ?_
  refine Br (i := x15) (j := 0) (vs := [.int .i64 x21]) (x' := x21) F W Aa Aa Aa (k := 0) Aa Aa h12 T3 Aa Aa Aa Aa (fun A cs _ => Fl.int.sto (by rfl) _ _ _) fun w W => ?_
  refine Ag (Ad (Aj (Ae ?_)))
  refine ls F W Aa (Ai F Aa).q fun a w F W => ?_
  refine ls F W Aa (BC F Aa Aa Aa).q fun a w F W => ?_
  refine ls F W Aa (Ah F Aa).q fun a w F W => ?_
  refine Ag (Ad (Ae ?_))
  refine ls F W Aa (Ai F Aa).q fun a w F W => ?_
  refine ls F W Aa (Cn F Aa Aa Aa).q fun a w F W => ?_
  refine ls F W Aa (Ah F Aa).q fun a w F W => ?_
  refine Ag (A8 (Ad ?_))
  exact ⟨_, H, F.re ⟨rfl, Aa, Aa, Aa, Aa, trivial⟩, W⟩
 rintro a w ⟨x5, x6, hj, F, W⟩
 have hj := AM hj
 subst hj
 have H := K1
 clear G1 K1
 refine Aj (Ae ?_)
 refine ls F W Aa (Ai F Aa).q fun a w F W => ?_
 refine ls F W Aa (Ah F Aa).q fun a w F W => ?_
 refine Ag (Ad (Az ?_))
 have H := AM H
 subst H
 refine AQ (.inl Aa) F W Aa (AD F Aa) ?_
 exact ⟨(), Aa, W⟩
theorem SZ : Has Tryd.prog 67 := ⟨fun args w => Ao Tryd.func67 rfl (by decide) args w⟩
noncomputable def B0 (p0 : List Int) (p1 : Int) (p2 : Int) (p3 : Int) (x1 : Int) (x2 : Int) : Int → Option (Int ⊕ Int)
  | x6 => (if x6 ≤ (A1 (p2 - 1)) then (ix (Bd (Bd p0 p1 x1) p3 x2) x6).bind fun x8 => (ix (Bd (Bd p0 p1 x1) p3 x2) p1).bind fun x9 => some (Be x8 x9) else some false).bind fun x7 => (if x7 = true then some (.inl (A1 (x6 + 1))) else some (.inr x6))
noncomputable def Ch (p0 : List Int) (p1 : Int) (p3 : Int) (x1 : Int) (x2 : Int) (x5 : Int) : Int → Option (Int ⊕ Int)
  | x11 => (if x5 ≤ x11 then (ix (Bd (Bd p0 p1 x1) p3 x2) x11).bind fun x13 => (ix (Bd (Bd p0 p1 x1) p3 x2) p1).bind fun x14 => some (!(Be x13 x14)) else some false).bind fun x12 => (if x12 = true then some (.inl (A1 (x11 - 1))) else some (.inr x11))
noncomputable def Cg (p1 : Int) (x25 : List Int) (x27 : Int) : Int → Option (Int ⊕ Int)
  | x29 => (if x29 ≤ x27 then (ix x25 x29).bind fun x31 => (ix x25 p1).bind fun x32 => some (Be x31 x32) else some false).bind fun x30 => (if x30 = true then some (.inl (A1 (x29 + 1))) else some (.inr x29))
noncomputable def Ci (p1 : Int) (x25 : List Int) (x28 : Int) : Int → Option (Int ⊕ Int)
  | x34 => (if x28 ≤ x34 then (ix x25 x34).bind fun x36 => (ix x25 p1).bind fun x37 => some (!(Be x36 x37)) else some false).bind fun x35 => (if x35 = true then some (.inl (A1 (x34 - 1))) else some (.inr x34))
noncomputable def BK (p1 : Int) : (List Int × Int × Int) → Option ((List Int × Int × Int) ⊕ (List Int × Int))
  | (x25, x26, x27) => (A3 (Cg p1 x25 x27) x26).bind fun x28 => (A3 (Ci p1 x25 x28) x27).bind fun x33 => (if x33 < x28 then some (.inr (x25, x33)) else (ix x25 x33).bind fun x38 => (ix x25 x28).bind fun x39 => (ix x25 x28).bind fun x40 => (ix (Bd x25 x28 x38) x33).bind fun x41 => some (.inl ((Bd (Bd x25 x28 x38) x33 x39), A1 (x28 + 1), A1 (x33 - 1))))
noncomputable def CA (p0 : List Int) (p1 : Int) (p2 : Int) (p3 : Int) : Option (Int × Bool × List Int) := (ix p0 p3).bind fun x1 => (ix p0 p1).bind fun x2 => (ix p0 p1).bind fun x3 => (ix (Bd p0 p1 x1) p3).bind fun x4 => (A3 (B0 p0 p1 p2 p3 x1 x2) (A1 (p1 + 1))).bind fun x5 => (A3 (Ch p0 p1 p3 x1 x2 x5) (A1 (p2 - 1))).bind fun x10 => (if x10 < x5 then (ix (Bd (Bd p0 p1 x1) p3 x2) p1).bind fun x15 => (ix (Bd (Bd p0 p1 x1) p3 x2) x10).bind fun x16 => (ix (Bd (Bd p0 p1 x1) p3 x2) x10).bind fun x17 => (ix (Bd (Bd (Bd p0 p1 x1) p3 x2) x10 x15) p1).bind fun x18 => some (x10, true, (Bd (Bd (Bd (Bd p0 p1 x1) p3 x2) x10 x15) p1 x16)) else (ix (Bd (Bd p0 p1 x1) p3 x2) x10).bind fun x19 => (ix (Bd (Bd p0 p1 x1) p3 x2) x5).bind fun x20 => (ix (Bd (Bd p0 p1 x1) p3 x2) x5).bind fun x21 => (ix (Bd (Bd (Bd p0 p1 x1) p3 x2) x5 x19) x10).bind fun x22 => (A3 (BK p1) ((Bd (Bd (Bd (Bd p0 p1 x1) p3 x2) x5 x19) x10 x20), A1 (x5 + 1), A1 (x10 - 1))).bind fun (x23, x24) => (ix x23 p1).bind fun x42 => (ix x23 x24).bind fun x43 => (ix x23 x24).bind fun x44 => (ix (Bd x23 x24 x42) p1).bind fun x45 => some (x24, false, (Bd (Bd x23 x24 x42) p1 x43)))
theorem F1 (Y : Nat → Prop) (X : List Nat) (w0 : World) (v1 : Value) (p0 : List Int) (p1 : Int) (p2 : Int) (p3 : Int) (r : Int × Bool × List Int) (H : CA p0 p1 p2 p3 = some r) (hL : Stw ⟨Y, X, w0⟩ [] [row v1 3 (Rp.int .i64) p0] w0) :
    Calls Tryd.prog 68 #[v1, .int .i64 p1, .int .i64 p2, .int .i64 p3] w0 fun e w' => ∃ x : Unit, e = .returned (.tuple #[.int .i64 r.1, .bool r.2.1]) ∧ Stw ⟨Y, X, w0⟩ [] [row v1 3 (Rp.int .i64) r.2.2] w' := by
 refine enter Tryd.func68 Aa Tryd.ntmps68 Aa fun a F => ?_
 have W := hL
 unfold CA at H
 refine Aj (Ae ?_)
 iterate 2 refine ls F W Aa (Ah F Aa).q fun a w F W => ?_
 refine Ag (Ad (Aj ?_))
 refine GC 13 [2, 3] [0, 1, 4, 5, 6, 7, 8, 9, 10, 11, 12] (fun ch a d v w h => by cases d <;> exact h) W MO (by kernel_rfl) ?_
 iterate 2 refine hm F Aa Aa Aa fun a F => ?_
 refine HX ?_
 iterate 4 refine hs F Aa Aa Aa (Ai F Aa).q fun a F => ?_
 obtain ⟨x1, h1, H⟩ := Am H
 refine hs F Aa Aa Aa (AG (r := (Rp.int .i64)) Ds F Aa Aa (Ap 0 Aa) h1).q fun a F => ?_
 refine hs F Aa Aa Aa (Ax (y := Value.int .i64 x1) (j := 0) (i := p3) F Aa Aa (Ap 0 Aa) h1 Fl.int.to T3 Aa).q fun a F => ?_
 iterate 2 refine hs F Aa Aa Aa (Ai F Aa).q fun a F => ?_
 obtain ⟨x2, h2, H⟩ := Am H
 refine hs F Aa Aa Aa (AG (r := (Rp.int .i64)) Ds F Aa Aa (Ap 0 Aa) h2).q fun a F => ?_
 refine hs F Aa Aa Aa (Ax (y := Value.int .i64 x2) (j := 0) (i := p1) F Aa Aa (Ap 0 Aa) h2 Fl.int.to T3 Aa).q fun a F => ?_
 obtain ⟨x3, h3, H⟩ := Am H
 refine hs F Aa Aa Aa (AG (r := (Rp.int .i64)) Ds F Aa Aa (Ap 0 Aa) h3).q fun a F => ?_
 refine Jy fun w W => ?_
 have W : Stw ⟨Y, X, w0⟩ [] [row v1 3 (Rp.int .i64) p0] w := W
 refine Br (i := p1) (j := 0) (vs := [.int .i64 x1]) (x' := x1) F W Aa Aa Aa (k := 0) Aa Aa h3 T3 Aa Aa Aa Aa (fun A cs _ => Fl.int.sto (by rfl) _ _ _) fun w W => ?_
 obtain ⟨x4, h4, H⟩ := Am H
 refine ls F W Aa (AG (r := (Rp.int .i64)) Ds F Aa Aa (Ap 0 Aa) h4).q fun a w F W => ?_
 refine Br (i := p3) (j := 0) (vs := [.int .i64 x2]) (x' := x2) F W Aa Aa Aa (k := 0) Aa Aa h4 T3 Aa Aa Aa Aa (fun A cs _ => Fl.int.sto (by rfl) _ _ _) fun w W => ?_
 refine Ag (Ad (Aj (Ae ?_)))
 refine ls F W Aa (Ai F Aa).q fun a w F W => ?_
 refine ls F W Aa (BC F Aa Aa Aa).q fun a w F W => ?_
 refine ls F W Aa (Ai F Aa).q fun a w F W => ?_
 refine ls F W Aa (Cn F Aa Aa Aa).q fun a w F W => ?_
 iterate 2 refine ls F W Aa (Ah F Aa).q fun a w F W => ?_
 refine Ag (Ad ?_)
 obtain ⟨o1, G1, K1⟩ := Am H
 refine AO (fun a w => ∃ x5 : Int, some (x5) = some o1 ∧ Fr 168 [] [(0, v1), (1, .int .i64 p1), (8, .int .i64 0), (9, .bool false), (10, .int .i64 x5), (11, .int .i64 (A1 (p2 - 1)))] a ∧ Stw ⟨Y, X, w0⟩ [] [row v1 3 (Rp.int .i64) (Bd (Bd p0 p1 x1) p3 x2)] w) ?_ ?_
 ·
  have H := G1
  clear G1 K1
  refine AA ?_
  refine BI H (fun s a w => Fr 168 [] [(0, v1), (1, .int .i64 p1), (8, .int .i64 0), (9, .bool false), (10, .int .i64 s), (11, .int .i64 (A1 (p2 - 1)))] a ∧ Stw ⟨Y, X, w0⟩ [] [row v1 3 (Rp.int .i64) (Bd (Bd p0 p1 x1) p3 x2)] w) ⟨F.re ⟨rfl, Aa, Aa, Aa, Aa, Aa, trivial⟩, W⟩ fun s o a w H L2 hR => ?_
  obtain ⟨x6, rfl⟩ : ∃ x, x = s := ⟨s, rfl⟩
  obtain ⟨F, W⟩ := hR
  have F : Fr 168 [] [(0, v1), (1, .int .i64 p1), (8, .int .i64 0), (9, .bool false), (10, .int .i64 x6), (11, .int .i64 (A1 (p2 - 1)))] a := F
  have W : Stw ⟨Y, X, w0⟩ [] [row v1 3 (Rp.int .i64) (Bd (Bd p0 p1 x1) p3 x2)] w := W
  rw [B0] at H
  refine Aj ?_
  obtain ⟨o3, G3, K3⟩ := Am H
  refine AO (fun a w => ∃ x7 : Bool, some (x7) = some o3 ∧ Fr 168 [] [(0, v1), (1, .int .i64 p1), (8, .int .i64 0), (9, .bool false), (10, .int .i64 x6), (11, .int .i64 (A1 (p2 - 1))), (43, .bool x7)] a ∧ Stw ⟨Y, X, w0⟩ [] [row v1 3 (Rp.int .i64) (Bd (Bd p0 p1 x1) p3 x2)] w) ?_ ?_
  ·
   have H := G3
   clear G3 K3
   refine BS W MO (by kernel_rfl) ?_
   iterate 2 refine qs F Aa (Ai F Aa).q fun a F => ?_
   refine qs F Aa (F9 F Aa Aa).q fun a F => ?_
   refine qs F Aa (Ai F Aa).q fun a F => ?_
   rcases Bool.eq_false_or_eq_true (decide (x6 ≤ (A1 (p2 - 1)))) with hb | hb
   ·
    have H := AW (Bm hb) H
    rw [hb] at F
    clear hb
    iterate 2 refine Bi F (Af F Aa Aa Aa Aa) Aa (An Aa) (Ai F Aa).q fun a F => ?_
    obtain ⟨x8, h5, H⟩ := Am H
    refine Bi F (Af F Aa Aa Aa Aa) Aa (An Aa) (AG (r := (Rp.int .i64)) Ds F Aa Aa (Ap 0 Aa) h5).q fun a F => ?_
    refine Bi F (Af F Aa Aa Aa Aa) Aa (An Aa) (Ax (y := Value.int .i64 x8) (j := 0) (i := x6) F Aa Aa (Ap 0 Aa) h5 Fl.int.to T3 Aa).q fun a F => ?_
    iterate 2 refine Bi F (Af F Aa Aa Aa Aa) Aa (An Aa) (Ai F Aa).q fun a F => ?_
    obtain ⟨x9, h6, H⟩ := Am H
    refine Bi F (Af F Aa Aa Aa Aa) Aa (An Aa) (AG (r := (Rp.int .i64)) Ds F Aa Aa (Ap 0 Aa) h6).q fun a F => ?_
    refine Bi F (Af F Aa Aa Aa Aa) Aa (An Aa) (Ax (y := Value.int .i64 x9) (j := 0) (i := p1) F Aa Aa (Ap 0 Aa) h6 Fl.int.to T3 Aa).q fun a F => ?_
    refine Bi F (Af F Aa Aa Aa Aa) Aa (An Aa) (AU (v := Value.bool (Be x8 x9)) F Om Aa (fun w W => B9 any w x8 x9 _ Aa)) fun a F => ?_
    refine qs F Aa (Au F Aa Aa Aa).q fun a F => ?_
    refine A2 fun w W => ?_
    refine Ad ?_
    exact ⟨_, H, F.re ⟨rfl, Aa, Aa, Aa, Aa, Aa, Aa, trivial⟩, W⟩
   have H := AX (Bl hb) H
   rw [hb] at F
   clear hb
   iterate 9 refine Ca F (AH F Aa Aa Aa Aa Aa) Aa Aa fun a F => ?_
   refine qs F Aa (As F Aa Aa Aa).q fun a F => ?_
   refine A2 fun w W => ?_
   refine Ad ?_
   exact ⟨_, H, F.re ⟨rfl, Aa, Aa, Aa, Aa, Aa, Aa, trivial⟩, W⟩
  rintro a w ⟨x7, hj, F, W⟩
  have hj := AM hj
  subst hj
  have H := K3
  clear G3 K3
  refine Ay F Aa (fun hb => ?_) fun hb => ?_
  ·
   have H := AW hb H
   rw [hb] at F
   clear hb
   refine Aw (Ad (AA (Ae ?_)))
   refine ls F W Aa (Ai F Aa).q fun a w F W => ?_
   refine ls F W Aa (BC F Aa Aa Aa).q fun a w F W => ?_
   refine ls F W Aa (Ah F Aa).q fun a w F W => ?_
   refine Ag (A8 (Ad ?_))
   exact ⟨_, H, F.re ⟨rfl, Aa, Aa, Aa, Aa, Aa, trivial⟩, W⟩
  have H := AX (by rw [hb]; decide) H
  rw [hb] at F
  clear hb
  refine Bx ?_
  iterate 2 refine BO ?_
  refine Bz (Ad ?_)
  have H := L2 _ H
  exact ⟨_, H, F.re ⟨rfl, Aa, Aa, Aa, Aa, Aa, trivial⟩, W⟩
 rintro a w ⟨x5, hj, F, W⟩
 have hj := AM hj
 subst hj
 have H := K1
 clear G1 K1
 obtain ⟨o4, G4, K4⟩ := Am H
 refine AO (fun a w => ∃ x10 : Int, some (x10) = some o4 ∧ Fr 168 [] [(0, v1), (1, .int .i64 p1), (8, .int .i64 0), (9, .bool false), (10, .int .i64 x5), (11, .int .i64 x10)] a ∧ Stw ⟨Y, X, w0⟩ [] [row v1 3 (Rp.int .i64) (Bd (Bd p0 p1 x1) p3 x2)] w) ?_ ?_
 ·
  have H := G4
  clear G4 K4
  refine AA ?_
  refine BI H (fun s a w => Fr 168 [] [(0, v1), (1, .int .i64 p1), (8, .int .i64 0), (9, .bool false), (10, .int .i64 x5), (11, .int .i64 s)] a ∧ Stw ⟨Y, X, w0⟩ [] [row v1 3 (Rp.int .i64) (Bd (Bd p0 p1 x1) p3 x2)] w) ⟨F.re ⟨rfl, Aa, Aa, Aa, Aa, Aa, trivial⟩, W⟩ fun s o a w H L5 hR => ?_
  obtain ⟨x11, rfl⟩ : ∃ x, x = s := ⟨s, rfl⟩
  obtain ⟨F, W⟩ := hR
  have F : Fr 168 [] [(0, v1), (1, .int .i64 p1), (8, .int .i64 0), (9, .bool false), (10, .int .i64 x5), (11, .int .i64 x11)] a := F
  have W : Stw ⟨Y, X, w0⟩ [] [row v1 3 (Rp.int .i64) (Bd (Bd p0 p1 x1) p3 x2)] w := W
  rw [Ch] at H
  refine Aj ?_
  obtain ⟨o6, G6, K6⟩ := Am H
  refine AO (fun a w => ∃ x12 : Bool, some (x12) = some o6 ∧ Fr 168 [] [(0, v1), (1, .int .i64 p1), (8, .int .i64 0), (9, .bool false), (10, .int .i64 x5), (11, .int .i64 x11), (60, .bool x12)] a ∧ Stw ⟨Y, X, w0⟩ [] [row v1 3 (Rp.int .i64) (Bd (Bd p0 p1 x1) p3 x2)] w) ?_ ?_
  ·
   have H := G6
   clear G6 K6
   refine BS W MO (by kernel_rfl) ?_
   iterate 2 refine qs F Aa (Ai F Aa).q fun a F => ?_
   refine qs F Aa (F9 F Aa Aa).q fun a F => ?_
   refine qs F Aa (Ai F Aa).q fun a F => ?_
   rcases Bool.eq_false_or_eq_true (decide (x5 ≤ x11)) with hb | hb
   ·
    have H := AW (Bm hb) H
    rw [hb] at F
    clear hb
    iterate 2 refine Bi F (Af F Aa Aa Aa Aa) Aa (An Aa) (Ai F Aa).q fun a F => ?_
    obtain ⟨x13, h7, H⟩ := Am H
    refine Bi F (Af F Aa Aa Aa Aa) Aa (An Aa) (AG (r := (Rp.int .i64)) Ds F Aa Aa (Ap 0 Aa) h7).q fun a F => ?_
    refine Bi F (Af F Aa Aa Aa Aa) Aa (An Aa) (Ax (y := Value.int .i64 x13) (j := 0) (i := x11) F Aa Aa (Ap 0 Aa) h7 Fl.int.to T3 Aa).q fun a F => ?_
    iterate 2 refine Bi F (Af F Aa Aa Aa Aa) Aa (An Aa) (Ai F Aa).q fun a F => ?_
    obtain ⟨x14, h8, H⟩ := Am H
    refine Bi F (Af F Aa Aa Aa Aa) Aa (An Aa) (AG (r := (Rp.int .i64)) Ds F Aa Aa (Ap 0 Aa) h8).q fun a F => ?_
    refine Bi F (Af F Aa Aa Aa Aa) Aa (An Aa) (Ax (y := Value.int .i64 x14) (j := 0) (i := p1) F Aa Aa (Ap 0 Aa) h8 Fl.int.to T3 Aa).q fun a F => ?_
    refine Bi F (Af F Aa Aa Aa Aa) Aa (An Aa) (AU (v := Value.bool (Be x13 x14)) F Om Aa (fun w W => B9 any w x13 x14 _ Aa)) fun a F => ?_
    refine Bi F (Af F Aa Aa Aa Aa) Aa (An Aa) (ET F Aa).q fun a F => ?_
    refine qs F Aa (Au F Aa Aa Aa).q fun a F => ?_
    refine A2 fun w W => ?_
    refine Ad ?_
    exact ⟨_, H, F.re ⟨rfl, Aa, Aa, Aa, Aa, Aa, Aa, trivial⟩, W⟩
   have H := AX (Bl hb) H
   rw [hb] at F
   clear hb
   iterate 10 refine Ca F (AH F Aa Aa Aa Aa Aa) Aa Aa fun a F => ?_
   refine qs F Aa (As F Aa Aa Aa).q fun a F => ?_
   refine A2 fun w W => ?_
   refine Ad ?_
   exact ⟨_, H, F.re ⟨rfl, Aa, Aa, Aa, Aa, Aa, Aa, trivial⟩, W⟩
  rintro a w ⟨x12, hj, F, W⟩
  have hj := AM hj
  subst hj
  have H := K6
  clear G6 K6
  refine Ay F Aa (fun hb => ?_) fun hb => ?_
  ·
   have H := AW hb H
   rw [hb] at F
   clear hb
   refine Aw (Ad (AA (Ae ?_)))
   refine ls F W Aa (Ai F Aa).q fun a w F W => ?_
   refine ls F W Aa (Cn F Aa Aa Aa).q fun a w F W => ?_
   refine ls F W Aa (Ah F Aa).q fun a w F W => ?_
   refine Ag (A8 (Ad ?_))
   exact ⟨_, H, F.re ⟨rfl, Aa, Aa, Aa, Aa, Aa, trivial⟩, W⟩
  have H := AX (by rw [hb]; decide) H
  rw [hb] at F
  clear hb
  refine Bx ?_
  iterate 2 refine BO ?_
  refine Bz (Ad ?_)
  have H := L5 _ H
  exact ⟨_, H, F.re ⟨rfl, Aa, Aa, Aa, Aa, Aa, trivial⟩, W⟩
 rintro a w ⟨x10, hj, F, W⟩
 have hj := AM hj
 subst hj
 have H := K4
 clear G4 K4
 refine Aj (Aj (Ae ?_))
 iterate 2 refine ls F W Aa (Ai F Aa).q fun a w F W => ?_
 refine ls F W Aa (EW F Aa Aa).q fun a w F W => ?_
 refine Ag (Ad ?_)
 refine Ay F Aa (fun hb => ?_) fun hb => ?_
 ·
  have H := AW (Bm hb) H
  rw [hb] at F
  clear hb
  refine Aj ?_
  refine GC 13 [2, 3] [0, 1, 4, 5, 6, 7, 8, 9, 10, 11, 12] (fun ch a d v w h => by cases d <;> exact h) W MO (by kernel_rfl) ?_
  iterate 2 refine hm F Aa Aa Aa fun a F => ?_
  refine HX ?_
  iterate 4 refine hs F Aa Aa Aa (Ai F Aa).q fun a F => ?_
  obtain ⟨x15, h9, H⟩ := Am H
  refine hs F Aa Aa Aa (AG (r := (Rp.int .i64)) Ds F Aa Aa (Ap 0 Aa) h9).q fun a F => ?_
  refine hs F Aa Aa Aa (Ax (y := Value.int .i64 x15) (j := 0) (i := p1) F Aa Aa (Ap 0 Aa) h9 Fl.int.to T3 Aa).q fun a F => ?_
  iterate 2 refine hs F Aa Aa Aa (Ai F Aa).q fun a F => ?_
  obtain ⟨x16, h10, H⟩ := Am H
  refine hs F Aa Aa Aa (AG (r := (Rp.int .i64)) Ds F Aa Aa (Ap 0 Aa) h10).q fun a F => ?_
  refine hs F Aa Aa Aa (Ax (y := Value.int .i64 x16) (j := 0) (i := x10) F Aa Aa (Ap 0 Aa) h10 Fl.int.to T3 Aa).q fun a F => ?_
  obtain ⟨x17, h11, H⟩ := Am H
  refine hs F Aa Aa Aa (AG (r := (Rp.int .i64)) Ds F Aa Aa (Ap 0 Aa) h11).q fun a F => ?_
  refine Jy fun w W => ?_
  have W : Stw ⟨Y, X, w0⟩ [] [row v1 3 (Rp.int .i64) (Bd (Bd p0 p1 x1) p3 x2)] w := W
  refine Br (i := x10) (j := 0) (vs := [.int .i64 x15]) (x' := x15) F W Aa Aa Aa (k := 0) Aa Aa h11 T3 Aa Aa Aa Aa (fun A cs _ => Fl.int.sto (by rfl) _ _ _) fun w W => ?_
  obtain ⟨x18, h12, H⟩ := Am H
  refine ls F W Aa (AG (r := (Rp.int .i64)) Ds F Aa Aa (Ap 0 Aa) h12).q fun a w F W => ?_
  refine Br (i := p1) (j := 0) (vs := [.int .i64 x16]) (x' := x16) F W Aa Aa Aa (k := 0) Aa Aa h12 T3 Aa Aa Aa Aa (fun A cs _ => Fl.int.sto (by rfl) _ _ _) fun w W => ?_
  refine Ag (Ad (Aj (Ae ?_)))
  refine ls F W Aa (Ai F Aa).q fun a w F W => ?_
  iterate 2 refine ls F W Aa (Ah F Aa).q fun a w F W => ?_
  refine Ag (Ad (Az (AR ?_)))
  have H := AM H
  subst H
  refine KR (.inl Aa) F W Aa (AD F Aa) (AD F Aa) ?_
  exact ⟨(), Aa, W⟩
 have H := AX (Bl hb) H
 rw [hb] at F
 clear hb
 refine Aw (Ad (Aj ?_))
 refine GC 13 [2, 3] [0, 1, 4, 5, 6, 7, 8, 9, 10, 11, 12] (fun ch a d v w h => by cases d <;> exact h) W MO (by kernel_rfl) ?_
 iterate 2 refine hm F Aa Aa Aa fun a F => ?_
 refine HX ?_
 iterate 4 refine hs F Aa Aa Aa (Ai F Aa).q fun a F => ?_
 obtain ⟨x19, h13, H⟩ := Am H
 refine hs F Aa Aa Aa (AG (r := (Rp.int .i64)) Ds F Aa Aa (Ap 0 Aa) h13).q fun a F => ?_
 refine hs F Aa Aa Aa (Ax (y := Value.int .i64 x19) (j := 0) (i := x10) F Aa Aa (Ap 0 Aa) h13 Fl.int.to T3 Aa).q fun a F => ?_
 iterate 2 refine hs F Aa Aa Aa (Ai F Aa).q fun a F => ?_
 obtain ⟨x20, h14, H⟩ := Am H
 refine hs F Aa Aa Aa (AG (r := (Rp.int .i64)) Ds F Aa Aa (Ap 0 Aa) h14).q fun a F => ?_
 refine hs F Aa Aa Aa (Ax (y := Value.int .i64 x20) (j := 0) (i := x5) F Aa Aa (Ap 0 Aa) h14 Fl.int.to T3 Aa).q fun a F => ?_
 obtain ⟨x21, h15, H⟩ := Am H
 refine hs F Aa Aa Aa (AG (r := (Rp.int .i64)) Ds F Aa Aa (Ap 0 Aa) h15).q fun a F => ?_
 refine Jy fun w W => ?_
 have W : Stw ⟨Y, X, w0⟩ [] [row v1 3 (Rp.int .i64) (Bd (Bd p0 p1 x1) p3 x2)] w := W
 refine Br (i := x5) (j := 0) (vs := [.int .i64 x19]) (x' := x19) F W Aa Aa Aa (k := 0) Aa Aa h15 T3 Aa Aa Aa Aa (fun A cs _ => Fl.int.sto (by rfl) _ _ _) fun w W => ?_
 obtain ⟨x22, h16, H⟩ := Am H
 refine ls F W Aa (AG (r := (Rp.int .i64)) Ds F Aa Aa (Ap 0 Aa) h16).q fun a w F W => ?_
 refine Br (i := x10) (j := 0) (vs := [.int .i64 x20]) (x' := x20) F W Aa Aa Aa (k := 0) Aa Aa h16 T3 Aa Aa Aa Aa (fun A cs _ => Fl.int.sto (by rfl) _ _ _) fun w W => ?_
 refine Ag (Ad (Aj (Ae ?_)))
 refine ls F W Aa (Ai F Aa).q fun a w F W => ?_
 refine ls F W Aa (BC F Aa Aa Aa).q fun a w F W => ?_
 refine ls F W Aa (Ah F Aa).q fun a w F W => ?_
 refine Ag (Ad (Aj (Ae ?_)))
 refine ls F W Aa (Ai F Aa).q fun a w F W => ?_
 refine ls F W Aa (Cn F Aa Aa Aa).q fun a w F W => ?_
 refine ls F W Aa (Ah F Aa).q fun a w F W => ?_
 refine Ag (Ad ?_)
 obtain ⟨o7, G7, K7⟩ := Am H
 refine AO (fun a w => ∃ x23 : List Int, ∃ x24 : Int, some ((x23, x24)) = some o7 ∧ Fr 168 [] [(0, v1), (1, .int .i64 p1), (8, .int .i64 0), (9, .bool false), (11, .int .i64 x24)] a ∧ Stw ⟨Y, X, w0⟩ [] [row v1 3 (Rp.int .i64) x23] w) ?_ ?_
 ·
  have H := G7
  clear G7 K7
  refine AA ?_
  refine BI H (fun s a w => Fr 168 [] [(0, v1), (1, .int .i64 p1), (8, .int .i64 0), (9, .bool false), (10, .int .i64 s.2.1), (11, .int .i64 s.2.2)] a ∧ Stw ⟨Y, X, w0⟩ [] [row v1 3 (Rp.int .i64) s.1] w) ⟨F.re ⟨rfl, Aa, Aa, Aa, Aa, Aa, trivial⟩, W⟩ fun s o a w H L8 hR => ?_
  obtain ⟨x25, x26, x27⟩ := s
  obtain ⟨F, W⟩ := hR
  have F : Fr 168 [] [(0, v1), (1, .int .i64 p1), (8, .int .i64 0), (9, .bool false), (10, .int .i64 x26), (11, .int .i64 x27)] a := F
  have W : Stw ⟨Y, X, w0⟩ [] [row v1 3 (Rp.int .i64) x25] w := W
  rw [BK] at H
  refine AA ?_
  obtain ⟨o9, G9, K9⟩ := Am H
  refine AO (fun a w => ∃ x28 : Int, some (x28) = some o9 ∧ Fr 168 [] [(0, v1), (1, .int .i64 p1), (8, .int .i64 0), (9, .bool false), (10, .int .i64 x28), (11, .int .i64 x27)] a ∧ Stw ⟨Y, X, w0⟩ [] [row v1 3 (Rp.int .i64) x25] w) ?_ ?_
  ·
   have H := G9
   clear G9 K9
   refine AA ?_
   refine BI H (fun s a w => Fr 168 [] [(0, v1), (1, .int .i64 p1), (8, .int .i64 0), (9, .bool false), (10, .int .i64 s), (11, .int .i64 x27)] a ∧ Stw ⟨Y, X, w0⟩ [] [row v1 3 (Rp.int .i64) x25] w) ⟨F.re ⟨rfl, Aa, Aa, Aa, Aa, Aa, trivial⟩, W⟩ fun s o a w H L10 hR => ?_
   obtain ⟨x29, rfl⟩ : ∃ x, x = s := ⟨s, rfl⟩
   obtain ⟨F, W⟩ := hR
   have F : Fr 168 [] [(0, v1), (1, .int .i64 p1), (8, .int .i64 0), (9, .bool false), (10, .int .i64 x29), (11, .int .i64 x27)] a := F
   have W : Stw ⟨Y, X, w0⟩ [] [row v1 3 (Rp.int .i64) x25] w := W
   rw [Cg] at H
   refine Aj ?_
   obtain ⟨o11, G11, K11⟩ := Am H
   refine AO (fun a w => ∃ x30 : Bool, some (x30) = some o11 ∧ Fr 168 [] [(0, v1), (1, .int .i64 p1), (8, .int .i64 0), (9, .bool false), (10, .int .i64 x29), (11, .int .i64 x27), (112, .bool x30)] a ∧ Stw ⟨Y, X, w0⟩ [] [row v1 3 (Rp.int .i64) x25] w) ?_ ?_
   ·
    have H := G11
    clear G11 K11
    refine BS W MO (by kernel_rfl) ?_
    iterate 2 refine qs F Aa (Ai F Aa).q fun a F => ?_
    refine qs F Aa (F9 F Aa Aa).q fun a F => ?_
    refine qs F Aa (Ai F Aa).q fun a F => ?_
    rcases Bool.eq_false_or_eq_true (decide (x29 ≤ x27)) with hb | hb
    ·
     have H := AW (Bm hb) H
     rw [hb] at F
     clear hb
     iterate 2 refine Bi F (Af F Aa Aa Aa Aa) Aa (An Aa) (Ai F Aa).q fun a F => ?_
     obtain ⟨x31, h17, H⟩ := Am H
     refine Bi F (Af F Aa Aa Aa Aa) Aa (An Aa) (AG (r := (Rp.int .i64)) Ds F Aa Aa (Ap 0 Aa) h17).q fun a F => ?_
     refine Bi F (Af F Aa Aa Aa Aa) Aa (An Aa) (Ax (y := Value.int .i64 x31) (j := 0) (i := x29) F Aa Aa (Ap 0 Aa) h17 Fl.int.to T3 Aa).q fun a F => ?_
     iterate 2 refine Bi F (Af F Aa Aa Aa Aa) Aa (An Aa) (Ai F Aa).q fun a F => ?_
     obtain ⟨x32, h18, H⟩ := Am H
     refine Bi F (Af F Aa Aa Aa Aa) Aa (An Aa) (AG (r := (Rp.int .i64)) Ds F Aa Aa (Ap 0 Aa) h18).q fun a F => ?_
     refine Bi F (Af F Aa Aa Aa Aa) Aa (An Aa) (Ax (y := Value.int .i64 x32) (j := 0) (i := p1) F Aa Aa (Ap 0 Aa) h18 Fl.int.to T3 Aa).q fun a F => ?_
     refine Bi F (Af F Aa Aa Aa Aa) Aa (An Aa) (AU (v := Value.bool (Be x31 x32)) F Om Aa (fun w W => B9 any w x31 x32 _ Aa)) fun a F => ?_
     refine qs F Aa (Au F Aa Aa Aa).q fun a F => ?_
     refine A2 fun w W => ?_
     refine Ad ?_
     exact ⟨_, H, F.re ⟨rfl, Aa, Aa, Aa, Aa, Aa, Aa, trivial⟩, W⟩
    have H := AX (Bl hb) H
    rw [hb] at F
    clear hb
    iterate 9 refine Ca F (AH F Aa Aa Aa Aa Aa) Aa Aa fun a F => ?_
    refine qs F Aa (As F Aa Aa Aa).q fun a F => ?_
    refine A2 fun w W => ?_
    refine Ad ?_
    exact ⟨_, H, F.re ⟨rfl, Aa, Aa, Aa, Aa, Aa, Aa, trivial⟩, W⟩
   rintro a w ⟨x30, hj, F, W⟩
   have hj := AM hj
   subst hj
   have H := K11
   clear G11 K11
   refine Ay F Aa (fun hb => ?_) fun hb => ?_
   ·
    have H := AW hb H
    rw [hb] at F
    clear hb
    refine Aw (Ad (AA (Ae ?_)))
    refine ls F W Aa (Ai F Aa).q fun a w F W => ?_
    refine ls F W Aa (BC F Aa Aa Aa).q fun a w F W => ?_
    refine ls F W Aa (Ah F Aa).q fun a w F W => ?_
    refine Ag (A8 (Ad ?_))
    exact ⟨_, H, F.re ⟨rfl, Aa, Aa, Aa, Aa, Aa, trivial⟩, W⟩
   have H := AX (by rw [hb]; decide) H
   rw [hb] at F
   clear hb
   refine Bx ?_
   iterate 2 refine BO ?_
   refine Bz (Ad ?_)
   have H := L10 _ H
   exact ⟨_, H, F.re ⟨rfl, Aa, Aa, Aa, Aa, Aa, trivial⟩, W⟩
  rintro a w ⟨x28, hj, F, W⟩
  have hj := AM hj
  subst hj
  have H := K9
  clear G9 K9
  obtain ⟨o12, G12, K12⟩ := Am H
  refine AO (fun a w => ∃ x33 : Int, some (x33) = some o12 ∧ Fr 168 [] [(0, v1), (1, .int .i64 p1), (8, .int .i64 0), (9, .bool false), (10, .int .i64 x28), (11, .int .i64 x33)] a ∧ Stw ⟨Y, X, w0⟩ [] [row v1 3 (Rp.int .i64) x25] w) ?_ ?_
  ·
   have H := G12
   clear G12 K12
   refine AA ?_
   refine BI H (fun s a w => Fr 168 [] [(0, v1), (1, .int .i64 p1), (8, .int .i64 0), (9, .bool false), (10, .int .i64 x28), (11, .int .i64 s)] a ∧ Stw ⟨Y, X, w0⟩ [] [row v1 3 (Rp.int .i64) x25] w) ⟨F.re ⟨rfl, Aa, Aa, Aa, Aa, Aa, trivial⟩, W⟩ fun s o a w H L13 hR => ?_
   obtain ⟨x34, rfl⟩ : ∃ x, x = s := ⟨s, rfl⟩
   obtain ⟨F, W⟩ := hR
   have F : Fr 168 [] [(0, v1), (1, .int .i64 p1), (8, .int .i64 0), (9, .bool false), (10, .int .i64 x28), (11, .int .i64 x34)] a := F
   have W : Stw ⟨Y, X, w0⟩ [] [row v1 3 (Rp.int .i64) x25] w := W
   rw [Ci] at H
   refine Aj ?_
   obtain ⟨o14, G14, K14⟩ := Am H
   refine AO (fun a w => ∃ x35 : Bool, some (x35) = some o14 ∧ Fr 168 [] [(0, v1), (1, .int .i64 p1), (8, .int .i64 0), (9, .bool false), (10, .int .i64 x28), (11, .int .i64 x34), (129, .bool x35)] a ∧ Stw ⟨Y, X, w0⟩ [] [row v1 3 (Rp.int .i64) x25] w) ?_ ?_
   ·
    have H := G14
    clear G14 K14
    refine BS W MO (by kernel_rfl) ?_
    iterate 2 refine qs F Aa (Ai F Aa).q fun a F => ?_
    refine qs F Aa (F9 F Aa Aa).q fun a F => ?_
    refine qs F Aa (Ai F Aa).q fun a F => ?_
    rcases Bool.eq_false_or_eq_true (decide (x28 ≤ x34)) with hb | hb
    ·
     have H := AW (Bm hb) H
     rw [hb] at F
     clear hb
     iterate 2 refine Bi F (Af F Aa Aa Aa Aa) Aa (An Aa) (Ai F Aa).q fun a F => ?_
     obtain ⟨x36, h19, H⟩ := Am H
     refine Bi F (Af F Aa Aa Aa Aa) Aa (An Aa) (AG (r := (Rp.int .i64)) Ds F Aa Aa (Ap 0 Aa) h19).q fun a F => ?_
     refine Bi F (Af F Aa Aa Aa Aa) Aa (An Aa) (Ax (y := Value.int .i64 x36) (j := 0) (i := x34) F Aa Aa (Ap 0 Aa) h19 Fl.int.to T3 Aa).q fun a F => ?_
     iterate 2 refine Bi F (Af F Aa Aa Aa Aa) Aa (An Aa) (Ai F Aa).q fun a F => ?_
     obtain ⟨x37, h20, H⟩ := Am H
     refine Bi F (Af F Aa Aa Aa Aa) Aa (An Aa) (AG (r := (Rp.int .i64)) Ds F Aa Aa (Ap 0 Aa) h20).q fun a F => ?_
     refine Bi F (Af F Aa Aa Aa Aa) Aa (An Aa) (Ax (y := Value.int .i64 x37) (j := 0) (i := p1) F Aa Aa (Ap 0 Aa) h20 Fl.int.to T3 Aa).q fun a F => ?_
     refine Bi F (Af F Aa Aa Aa Aa) Aa (An Aa) (AU (v := Value.bool (Be x36 x37)) F Om Aa (fun w W => B9 any w x36 x37 _ Aa)) fun a F => ?_
     refine Bi F (Af F Aa Aa Aa Aa) Aa (An Aa) (ET F Aa).q fun a F => ?_
     refine qs F Aa (Au F Aa Aa Aa).q fun a F => ?_
     refine A2 fun w W => ?_
     refine Ad ?_
     exact ⟨_, H, F.re ⟨rfl, Aa, Aa, Aa, Aa, Aa, Aa, trivial⟩, W⟩
    have H := AX (Bl hb) H
    rw [hb] at F
    clear hb
    iterate 10 refine Ca F (AH F Aa Aa Aa Aa Aa) Aa Aa fun a F => ?_
    refine qs F Aa (As F Aa Aa Aa).q fun a F => ?_
    refine A2 fun w W => ?_
    refine Ad ?_
    exact ⟨_, H, F.re ⟨rfl, Aa, Aa, Aa, Aa, Aa, Aa, trivial⟩, W⟩
   rintro a w ⟨x35, hj, F, W⟩
   have hj := AM hj
   subst hj
   have H := K14
   clear G14 K14
   refine Ay F Aa (fun hb => ?_) fun hb => ?_
   ·
    have H := AW hb H
    rw [hb] at F
    clear hb
    refine Aw (Ad (AA (Ae ?_)))
    refine ls F W Aa (Ai F Aa).q fun a w F W => ?_
    refine ls F W Aa (Cn F Aa Aa Aa).q fun a w F W => ?_
    refine ls F W Aa (Ah F Aa).q fun a w F W => ?_
    refine Ag (A8 (Ad ?_))
    exact ⟨_, H, F.re ⟨rfl, Aa, Aa, Aa, Aa, Aa, trivial⟩, W⟩
   have H := AX (by rw [hb]; decide) H
   rw [hb] at F
   clear hb
   refine Bx ?_
   iterate 2 refine BO ?_
   refine Bz (Ad ?_)
   have H := L13 _ H
   exact ⟨_, H, F.re ⟨rfl, Aa, Aa, Aa, Aa, Aa, trivial⟩, W⟩
  rintro a w ⟨x33, hj, F, W⟩
  have hj := AM hj
  subst hj
  have H := K12
  clear G12 K12
  refine Aj (Aj (Ae ?_))
  iterate 2 refine ls F W Aa (Ai F Aa).q fun a w F W => ?_
  refine ls F W Aa (EW F Aa Aa).q fun a w F W => ?_
  refine Ag (Ad ?_)
  refine Ay F Aa (fun hb => ?_) fun hb => ?_
  ·
   have H := AW (Bm hb) H
   rw [hb] at F
   clear hb
   refine Bx (BO ?_)
   refine KK Aa ?_
   refine BO (Bz (Ad ?_))
   have H := L8 _ H
   exact ⟨_, _, H, F.re ⟨rfl, Aa, Aa, Aa, Aa, trivial⟩, W⟩
  have H := AX (Bl hb) H
  rw [hb] at F
  clear hb
  refine Aw (Ad (Aj ?_))
  refine GC 13 [2, 3] [0, 1, 4, 5, 6, 7, 8, 9, 10, 11, 12] (fun ch a d v w h => by cases d <;> exact h) W MO (by kernel_rfl) ?_
  iterate 2 refine hm F Aa Aa Aa fun a F => ?_
  refine HX ?_
  iterate 4 refine hs F Aa Aa Aa (Ai F Aa).q fun a F => ?_
  obtain ⟨x38, h21, H⟩ := Am H
  refine hs F Aa Aa Aa (AG (r := (Rp.int .i64)) Ds F Aa Aa (Ap 0 Aa) h21).q fun a F => ?_
  refine hs F Aa Aa Aa (Ax (y := Value.int .i64 x38) (j := 0) (i := x33) F Aa Aa (Ap 0 Aa) h21 Fl.int.to T3 Aa).q fun a F => ?_
  iterate 2 refine hs F Aa Aa Aa (Ai F Aa).q fun a F => ?_
  obtain ⟨x39, h22, H⟩ := Am H
  refine hs F Aa Aa Aa (AG (r := (Rp.int .i64)) Ds F Aa Aa (Ap 0 Aa) h22).q fun a F => ?_
  refine hs F Aa Aa Aa (Ax (y := Value.int .i64 x39) (j := 0) (i := x28) F Aa Aa (Ap 0 Aa) h22 Fl.int.to T3 Aa).q fun a F => ?_
  obtain ⟨x40, h23, H⟩ := Am H
  refine hs F Aa Aa Aa (AG (r := (Rp.int .i64)) Ds F Aa Aa (Ap 0 Aa) h23).q fun a F => ?_
  refine Jy fun w W => ?_
  have W : Stw ⟨Y, X, w0⟩ [] [row v1 3 (Rp.int .i64) x25] w := W
  refine Br (i := x28) (j := 0) (vs := [.int .i64 x38]) (x' := x38) F W Aa Aa Aa (k := 0) Aa Aa h23 T3 Aa Aa Aa Aa (fun A cs _ => Fl.int.sto (by rfl) _ _ _) fun w W => ?_
  obtain ⟨x41, h24, H⟩ := Am H
  refine ls F W Aa (AG (r := (Rp.int .i64)) Ds F Aa Aa (Ap 0 Aa) h24).q fun a w F W => ?_
  refine Br (i := x33) (j := 0) (vs := [.int .i64 x39]) (x' := x39) F W Aa Aa Aa (k := 0) Aa Aa h24 T3 Aa Aa Aa Aa (fun A cs _ => Fl.int.sto (by rfl) _ _ _) fun w W => ?_
  refine Ag (Ad (Aj (Ae ?_)))
  refine ls F W Aa (Ai F Aa).q fun a w F W => ?_
  refine ls F W Aa (BC F Aa Aa Aa).q fun a w F W => ?_
  refine ls F W Aa (Ah F Aa).q fun a w F W => ?_
  refine Ag (Ad (Ae ?_))
  refine ls F W Aa (Ai F Aa).q fun a w F W => ?_
  refine ls F W Aa (Cn F Aa Aa Aa).q fun a w F W => ?_
  refine ls F W Aa (Ah F Aa).q fun a w F W => ?_
  refine Ag (A8 (Ad ?_))
  exact ⟨_, H, F.re ⟨rfl, Aa, Aa, Aa, Aa, Aa, trivial⟩, W⟩
 rintro a w ⟨x23, x24, hj, F, W⟩
 have hj := AM hj
 subst hj
 have H := K7
 clear G7 K7
 refine Aj ?_
 refine GC 13 [2, 3] [0, 1, 4, 5, 6, 7, 8, 9, 10, 11, 12] (fun ch a d v w h => by cases d <;> exact h) W MO (by kernel_rfl) ?_
 iterate 2 refine hm F Aa Aa Aa fun a F => ?_
 refine HX ?_
 iterate 4 refine hs F Aa Aa Aa (Ai F Aa).q fun a F => ?_
 obtain ⟨x42, h25, H⟩ := Am H
 refine hs F Aa Aa Aa (AG (r := (Rp.int .i64)) Ds F Aa Aa (Ap 0 Aa) h25).q fun a F => ?_
 refine hs F Aa Aa Aa (Ax (y := Value.int .i64 x42) (j := 0) (i := p1) F Aa Aa (Ap 0 Aa) h25 Fl.int.to T3 Aa).q fun a F => ?_
 iterate 2 refine hs F Aa Aa Aa (Ai F Aa).q fun a F => ?_
 obtain ⟨x43, h26, H⟩ := Am H
 refine hs F Aa Aa Aa (AG (r := (Rp.int .i64)) Ds F Aa Aa (Ap 0 Aa) h26).q fun a F => ?_
 refine hs F Aa Aa Aa (Ax (y := Value.int .i64 x43) (j := 0) (i := x24) F Aa Aa (Ap 0 Aa) h26 Fl.int.to T3 Aa).q fun a F => ?_
 obtain ⟨x44, h27, H⟩ := Am H
 refine hs F Aa Aa Aa (AG (r := (Rp.int .i64)) Ds F Aa Aa (Ap 0 Aa) h27).q fun a F => ?_
 refine Jy fun w W => ?_
 have W : Stw ⟨Y, X, w0⟩ [] [row v1 3 (Rp.int .i64) x23] w := W
 refine Br (i := x24) (j := 0) (vs := [.int .i64 x42]) (x' := x42) F W Aa Aa Aa (k := 0) Aa Aa h27 T3 Aa Aa Aa Aa (fun A cs _ => Fl.int.sto (by rfl) _ _ _) fun w W => ?_
 obtain ⟨x45, h28, H⟩ := Am H
 refine ls F W Aa (AG (r := (Rp.int .i64)) Ds F Aa Aa (Ap 0 Aa) h28).q fun a w F W => ?_
 refine Br (i := p1) (j := 0) (vs := [.int .i64 x43]) (x' := x43) F W Aa Aa Aa (k := 0) Aa Aa h28 T3 Aa Aa Aa Aa (fun A cs _ => Fl.int.sto (by rfl) _ _ _) fun w W => ?_
 refine Ag (Ad (Aj (Ae ?_)))
 refine ls F W Aa (Ai F Aa).q fun a w F W => ?_
 iterate 2 refine ls F W Aa (Ah F Aa).q fun a w F W => ?_
 refine Ag (Ad (Az ?_))
 have H := AM H
 subst H
 refine KR (.inl Aa) F W Aa (AD F Aa) (AD F Aa) ?_
 exact ⟨(), Aa, W⟩
theorem Rr : type_of% Tryd.underlying72 := Tryd.underlying72
theorem Tb : Has Tryd.prog 68 := ⟨fun args w => Ao Tryd.func68 rfl (by decide) args w⟩
theorem Sc : Has Tryd.prog 55 := ⟨fun args w => Ao Tryd.func55 rfl (by decide) args w⟩
theorem Sh : (Tryd.prog.info? 100).bind (·.zero) = some (.int .u64 0) := by kernel_rfl
theorem Kf : Ty Tryd.prog 100 false 1 := ⟨by kernel_rfl, by kernel_rfl⟩
noncomputable def CO (p0 : Int) : Option Int := (EL (IntKind.u64.wrap p0)).bind fun x1 => (Rn (DP .u64 1 x1) x1).bind fun x2 => some x2
theorem GZ (Y : Nat → Prop) (w0 : World)  (p0 : Int) (r : Int) (H : CO p0 = some r)  :
    Calls Tryd.prog 76 #[.int .i64 p0] w0 fun e w' => e = .returned (.int .u64 r) ∧ Below w0.heap.size w0 w' := by
 refine enter Tryd.func76 Aa Tryd.ntmps76 Aa fun a F => ?_
 have W := Stw.start Y w0
 unfold CO at H
 refine Aj (Ae ?_)
 refine ls F W Aa (Ah F Aa).q fun a w F W => ?_
 refine Ag (Ad (Aj (Ae ?_)))
 refine ls F W Aa (Ai F Aa).q fun a w F W => ?_
 refine ls F W Aa (Ic RN Rr F Aa).q fun a w F W => ?_
 obtain ⟨x1, h1, H⟩ := Am H
 refine ls F W Aa (AU (v := Value.int .i64 x1) F SO Aa (fun w W => Hs any w (IntKind.u64.wrap p0) _ h1)) fun a w F W => ?_
 obtain ⟨x2, h2, H⟩ := Am H
 refine ls F W Aa (Q1 (I8 h2).2 (Ol F Aa Aa (I8 h2).1)).q fun a w F W => ?_
 refine ls F W Aa (Ah F Aa).q fun a w F W => ?_
 refine Ag (Ad (Az ?_))
 have H := AM H
 subst H
 refine AQ (.inl Aa) F W Aa (AD F Aa) ?_
 exact ⟨rfl, W.done⟩
theorem To : Has Tryd.prog 76 := ⟨fun args w => Ao Tryd.func76 rfl (by decide) args w⟩
def BF (p0 : Int) : Int × Int := (De .u64 (De .u64 (De .u64 p0 (DP .u64 p0 13)) (FU .u64 (De .u64 p0 (DP .u64 p0 13)) 7)) (DP .u64 (De .u64 (De .u64 p0 (DP .u64 p0 13)) (FU .u64 (De .u64 p0 (DP .u64 p0 13)) 7)) 17), De .u64 (De .u64 (De .u64 p0 (DP .u64 p0 13)) (FU .u64 (De .u64 p0 (DP .u64 p0 13)) 7)) (DP .u64 (De .u64 (De .u64 p0 (DP .u64 p0 13)) (FU .u64 (De .u64 p0 (DP .u64 p0 13)) 7)) 17))
theorem Hg (Y : Nat → Prop) (X : List Nat) (w0 : World) (q_p0 : Nat) (p0 : Int) (r : Int × Int) (H : BF p0 = r) (hL : Stw ⟨Y, X, w0⟩ [(q_p0, [.int .u64 p0])] [] w0) :
    Calls Tryd.prog 77 #[.pointer (some ⟨q_p0, 0, none⟩)] w0 fun e w' => ∃ x : Unit, e = .returned (.int .u64 r.1) ∧ Stw ⟨Y, X, w0⟩ [(q_p0, [.int .u64 r.2])] [] w' := by
 refine enter Tryd.func77 Aa Tryd.ntmps77 Aa fun a F => ?_
 have W := hL
 unfold BF at H
 refine Aj (Ae ?_)
 refine ls F W Aa (Ah F Aa).q fun a w F W => ?_
 refine Ag (Ad (Aj ?_))
 refine Kq 9 W MO (by kernel_rfl) ?_
 refine qs F Aa (Ai F Aa).q fun a F => ?_
 refine qs F Aa (CU F Aa).q fun a F => ?_
 refine qs F Aa (Aq (v := Value.int .u64 p0) 0 F Aa Aa Kf Aa).q fun a F => ?_
 refine qs F Aa (Ai F Aa).q fun a F => ?_
 refine qs F Aa (CU F Aa).q fun a F => ?_
 refine qs F Aa (Aq (v := Value.int .u64 p0) 0 F Aa Aa Kf Aa).q fun a F => ?_
 refine qs F Aa (Ol F Aa Aa (by decide)).q fun a F => ?_
 refine qs F Aa (Pt F Aa Aa).q fun a F => ?_
 refine qs F Aa (CU F Aa).q fun a F => ?_
 refine A2 fun w W => ?_
 refine BN (vs := [.int .u64 (De .u64 p0 (DP .u64 p0 13))]) (M' := [(q_p0, [.int .u64 (De .u64 p0 (DP .u64 p0 13))])]) 0 F W Aa Aa Aa Kf Aa Aa Aa Aa Aa fun w W => ?_
 refine Ag (Ad (Aj ?_))
 refine Kq 9 W MO (by kernel_rfl) ?_
 refine qs F Aa (Ai F Aa).q fun a F => ?_
 refine qs F Aa (CU F Aa).q fun a F => ?_
 refine qs F Aa (Aq (v := Value.int .u64 (De .u64 p0 (DP .u64 p0 13))) 0 F Aa Aa Kf Aa).q fun a F => ?_
 refine qs F Aa (Ai F Aa).q fun a F => ?_
 refine qs F Aa (CU F Aa).q fun a F => ?_
 refine qs F Aa (Aq (v := Value.int .u64 (De .u64 p0 (DP .u64 p0 13))) 0 F Aa Aa Kf Aa).q fun a F => ?_
 refine qs F Aa (OE F Aa Aa (by decide)).q fun a F => ?_
 refine qs F Aa (Pt F Aa Aa).q fun a F => ?_
 refine qs F Aa (CU F Aa).q fun a F => ?_
 refine A2 fun w W => ?_
 refine BN (vs := [.int .u64 (De .u64 (De .u64 p0 (DP .u64 p0 13)) (FU .u64 (De .u64 p0 (DP .u64 p0 13)) 7))]) (M' := [(q_p0, [.int .u64 (De .u64 (De .u64 p0 (DP .u64 p0 13)) (FU .u64 (De .u64 p0 (DP .u64 p0 13)) 7))])]) 0 F W Aa Aa Aa Kf Aa Aa Aa Aa Aa fun w W => ?_
 refine Ag (Ad (Aj ?_))
 refine Kq 9 W MO (by kernel_rfl) ?_
 refine qs F Aa (Ai F Aa).q fun a F => ?_
 refine qs F Aa (CU F Aa).q fun a F => ?_
 refine qs F Aa (Aq (v := Value.int .u64 (De .u64 (De .u64 p0 (DP .u64 p0 13)) (FU .u64 (De .u64 p0 (DP .u64 p0 13)) 7))) 0 F Aa Aa Kf Aa).q fun a F => ?_
 refine qs F Aa (Ai F Aa).q fun a F => ?_
 refine qs F Aa (CU F Aa).q fun a F => ?_
 refine qs F Aa (Aq (v := Value.int .u64 (De .u64 (De .u64 p0 (DP .u64 p0 13)) (FU .u64 (De .u64 p0 (DP .u64 p0 13)) 7))) 0 F Aa Aa Kf Aa).q fun a F => ?_
 refine qs F Aa (Ol F Aa Aa (by decide)).q fun a F => ?_
 refine qs F Aa (Pt F Aa Aa).q fun a F => ?_
 refine qs F Aa (CU F Aa).q fun a F => ?_
 refine A2 fun w W => ?_
 refine BN (vs := [.int .u64 (De .u64 (De .u64 (De .u64 p0 (DP .u64 p0 13)) (FU .u64 (De .u64 p0 (DP .u64 p0 13)) 7)) (DP .u64 (De .u64 (De .u64 p0 (DP .u64 p0 13)) (FU .u64 (De .u64 p0 (DP .u64 p0 13)) 7)) 17))]) (M' := [(q_p0, [.int .u64 (De .u64 (De .u64 (De .u64 p0 (DP .u64 p0 13)) (FU .u64 (De .u64 p0 (DP .u64 p0 13)) 7)) (DP .u64 (De .u64 (De .u64 p0 (DP .u64 p0 13)) (FU .u64 (De .u64 p0 (DP .u64 p0 13)) 7)) 17))])]) 0 F W Aa Aa Aa Kf Aa Aa Aa Aa Aa fun w W => ?_
 refine Ag (Ad (Aj (Ae ?_)))
 refine ls F W Aa (Ai F Aa).q fun a w F W => ?_
 refine ls F W Aa (CU F Aa).q fun a w F W => ?_
 refine ls F W Aa (Aq (v := Value.int .u64 (De .u64 (De .u64 (De .u64 p0 (DP .u64 p0 13)) (FU .u64 (De .u64 p0 (DP .u64 p0 13)) 7)) (DP .u64 (De .u64 (De .u64 p0 (DP .u64 p0 13)) (FU .u64 (De .u64 p0 (DP .u64 p0 13)) 7)) 17))) 0 F Aa Aa Kf Aa).q fun a w F W => ?_
 refine ls F W Aa (Ah F Aa).q fun a w F W => ?_
 refine Ag (Ad (Az ?_))
 subst H
 refine AQ (.inl Aa) F W Aa (AD F Aa) ?_
 exact ⟨(), Aa, W⟩
theorem RR : type_of% Tryd.underlying100 := Tryd.underlying100
theorem SU : Has Tryd.prog 77 := ⟨fun args w => Ao Tryd.func77 rfl (by decide) args w⟩
noncomputable def BL (p1 : Int) (p2 : Int) (x1 : Int) : (List Int × Int × Int) → Option ((List Int × Int × Int) ⊕ (List Int))
  | (x2, x3, x4) => (if x3 ≤ (A1 ((A1 (p1 + (A1 ((A1 (Int.tdiv (A1 (p2 - p1)) 4)) * 2)))) + 1)) then (if (A1 (p2 - p1)) ≤ (A1 (Oi .u64 ((BF x4).1) (IntKind.u64.wrap (x1 - 1)))) then some (A1 ((A1 (Oi .u64 ((BF x4).1) (IntKind.u64.wrap (x1 - 1)))) - (A1 (p2 - p1)))) else some (A1 (Oi .u64 ((BF x4).1) (IntKind.u64.wrap (x1 - 1))))).bind fun x5 => (ix x2 (A1 (p1 + x5))).bind fun x6 => (ix x2 x3).bind fun x7 => (ix x2 x3).bind fun x8 => (ix (Bd x2 x3 x6) (A1 (p1 + x5))).bind fun x9 => some (.inl ((Bd (Bd x2 x3 x6) (A1 (p1 + x5)) x7), A1 (x3 + 1), (BF x4).2)) else some (.inr x2))
noncomputable def BT (p0 : List Int) (p1 : Int) (p2 : Int) : Option (List Int) := (if 8 ≤ (A1 (p2 - p1)) then (CO (A1 (p2 - p1))).bind fun x1 => A3 (BL p1 p2 x1) (p0, A1 ((A1 (p1 + (A1 ((A1 (Int.tdiv (A1 (p2 - p1)) 4)) * 2)))) - 1), IntKind.u64.wrap (A1 (p2 - p1))) else some p0)
theorem Fm (Y : Nat → Prop) (X : List Nat) (w0 : World) (v1 : Value) (p0 : List Int) (p1 : Int) (p2 : Int) (r : List Int) (H : BT p0 p1 p2 = some r) (hL : Stw ⟨Y, X, w0⟩ [] [row v1 3 (Rp.int .i64) p0] w0) :
    Calls Tryd.prog 62 #[v1, .int .i64 p1, .int .i64 p2] w0 fun e w' => ∃ x : Unit, e = .returned (.tuple #[]) ∧ Stw ⟨Y, X, w0⟩ [] [row v1 3 (Rp.int .i64) r] w' := by
 refine enter Tryd.func62 Aa Tryd.ntmps62 Aa fun a F => ?_
 have W := hL
 unfold BT at H
 refine Aj (Ae ?_)
 iterate 2 refine ls F W Aa (Ai F Aa).q fun a w F W => ?_
 refine ls F W Aa (Cn F Aa Aa Aa).q fun a w F W => ?_
 refine ls F W Aa (Ah F Aa).q fun a w F W => ?_
 refine Ag (Ad (Aj (Ae ?_)))
 refine ls F W Aa (Ai F Aa).q fun a w F W => ?_
 refine ls F W Aa (D6 F Aa Aa).q fun a w F W => ?_
 refine Ag (Ad ?_)
 refine Ay F Aa (fun hb => ?_) fun hb => ?_
 ·
  have H := AW (Bm hb) H
  rw [hb] at F
  clear hb
  refine Aj (Ae ?_)
  refine ls F W Aa (Ai F Aa).q fun a w F W => ?_
  refine ls F W Aa (Ic RN RR F Aa).q fun a w F W => ?_
  refine CK (cs := [.int .u64 0]) F W Aa Sh Aa fun b1 a w F W => ?_
  refine BN (vs := [.int .u64 (IntKind.u64.wrap (A1 (p2 - p1)))]) (M' := [(b1, [.int .u64 (IntKind.u64.wrap (A1 (p2 - p1)))])]) 0 F W Aa Aa Aa Kf Aa Aa Aa Aa Aa fun w W => ?_
  refine Ag (Ad (Aj (Ae ?_)))
  refine ls F W Aa (Ai F Aa).q fun a w F W => ?_
  obtain ⟨x1, h1, H⟩ := Am H
  refine ls F W Aa (AU (v := Value.int .u64 x1) F To Aa (fun w W => GZ any w (A1 (p2 - p1)) _ h1)) fun a w F W => ?_
  refine ls F W Aa (Ah F Aa).q fun a w F W => ?_
  refine Ag (Ad (Aj (Ae ?_)))
  iterate 2 refine ls F W Aa (Ai F Aa).q fun a w F W => ?_
  refine ls F W Aa (Ja F Aa Aa (by decide) Aa).q fun a w F W => ?_
  refine ls F W Aa (LS F Aa Aa Aa).q fun a w F W => ?_
  refine ls F W Aa (BC F Aa Aa Aa).q fun a w F W => ?_
  refine ls F W Aa (Cn F Aa Aa Aa).q fun a w F W => ?_
  refine ls F W Aa (Ah F Aa).q fun a w F W => ?_
  refine Ag (Ad (AA ?_))
  refine BI H (fun s a w => Fr 65 [] [(0, v1), (1, .int .i64 p1), (6, .int .i64 (A1 (p2 - p1))), (7, .pointer (some ⟨b1, 0, none⟩)), (8, .int .u64 x1), (9, .int .i64 s.2.1)] a ∧ Stw ⟨Y, X, w0⟩ [(b1, [.int .u64 s.2.2])] [row v1 3 (Rp.int .i64) s.1] w) ⟨F.re ⟨rfl, Aa, Aa, Aa, Aa, Aa, trivial⟩, W⟩ fun s o a w H L1 hR => ?_
  obtain ⟨x2, x3, x4⟩ := s
  obtain ⟨F, W⟩ := hR
  have F : Fr 65 [] [(0, v1), (1, .int .i64 p1), (6, .int .i64 (A1 (p2 - p1))), (7, .pointer (some ⟨b1, 0, none⟩)), (8, .int .u64 x1), (9, .int .i64 x3)] a := F
  have W : Stw ⟨Y, X, w0⟩ [(b1, [.int .u64 x4])] [row v1 3 (Rp.int .i64) x2] w := W
  rw [BL] at H
  refine Aj (Aj (Ae ?_))
  iterate 3 refine ls F W Aa (Ai F Aa).q fun a w F W => ?_
  refine ls F W Aa (Ja F Aa Aa (by decide) Aa).q fun a w F W => ?_
  refine ls F W Aa (LS F Aa Aa Aa).q fun a w F W => ?_
  iterate 2 refine ls F W Aa (BC F Aa Aa Aa).q fun a w F W => ?_
  refine ls F W Aa (F9 F Aa Aa).q fun a w F W => ?_
  refine Ag (Ad ?_)
  refine Ay F Aa (fun hb => ?_) fun hb => ?_
  ·
   have H := AW (Bm hb) H
   rw [hb] at F
   clear hb
   refine Aw (Ad (Aj (AA (Aj (Ae ?_)))))
   refine BD (Ml := [(b1, [.int .u64 x4])]) (Zl := []) (M := []) (Z := [row v1 3 (Rp.int .i64) x2]) (β := Unit) (rv := fun x => .int .u64 ((BF x4).1)) (MM := fun x => [(b1, [.int .u64 ((BF x4).2)])]) (ZZ := fun x => []) F W SU Aa Aa (fun hL => Hg _ _ w b1 x4 _ Aa hL) fun x a w F W => ?_
   have W : Stw ⟨Y, X, w0⟩ [(b1, [.int .u64 ((BF x4).2)])] [row v1 3 (Rp.int .i64) x2] w := W
   refine ls F W Aa (Ai F Aa).q fun a w F W => ?_
   refine ls F W Aa (Cn F Aa Aa Aa).q fun a w F W => ?_
   refine ls F W Aa (RZ F Aa Aa).q fun a w F W => ?_
   refine ls F W Aa (Ic Rr RN F Aa).q fun a w F W => ?_
   refine ls F W Aa (Ah F Aa).q fun a w F W => ?_
   refine Ag (Ad ?_)
   obtain ⟨o2, G2, K2⟩ := Am H
   refine AO (fun a w => ∃ x5 : Int, some (x5) = some o2 ∧ Fr 65 [] [(0, v1), (1, .int .i64 p1), (6, .int .i64 (A1 (p2 - p1))), (7, .pointer (some ⟨b1, 0, none⟩)), (8, .int .u64 x1), (9, .int .i64 x3), (10, .int .i64 x5)] a ∧ Stw ⟨Y, X, w0⟩ [(b1, [.int .u64 ((BF x4).2)])] [row v1 3 (Rp.int .i64) x2] w) ?_ ?_
   ·
    have H := G2
    clear G2 K2
    refine Aj (Ae ?_)
    iterate 2 refine ls F W Aa (Ai F Aa).q fun a w F W => ?_
    refine ls F W Aa (D6 F Aa Aa).q fun a w F W => ?_
    refine Ag (Ad ?_)
    refine Ay F Aa (fun hb => ?_) fun hb => ?_
    ·
     have H := AW (Bm hb) H
     rw [hb] at F
     clear hb
     refine Ae ?_
     iterate 2 refine ls F W Aa (Ai F Aa).q fun a w F W => ?_
     refine ls F W Aa (Cn F Aa Aa Aa).q fun a w F W => ?_
     refine ls F W Aa (Ah F Aa).q fun a w F W => ?_
     refine Ag (Ad ?_)
     exact ⟨_, H, F.re ⟨rfl, Aa, Aa, Aa, Aa, Aa, Aa, trivial⟩, W⟩
    have H := AX (Bl hb) H
    rw [hb] at F
    clear hb
    refine Aw (Ad ?_)
    exact ⟨_, H, F.re ⟨rfl, Aa, Aa, Aa, Aa, Aa, Aa, trivial⟩, W⟩
   rintro a w ⟨x5, hj, F, W⟩
   have hj := AM hj
   subst hj
   have H := K2
   clear G2 K2
   refine Eb [(true, 0), (true, 1), (true, 2), (true, 3), (true, 4), (true, 5), (true, 6), (true, 7), (true, 8), (true, 9), (true, 10), (true, 11), (true, 12), (true, 13), (true, 14), (true, 15), (true, 16), (false, 17), (true, 18), (false, 19)] (CN ⟨Y, X, w0⟩ [] [(some 17, row v1 3 (Rp.int .i64) x2)]) (fun ch a d v w h => by cases d <;> exact h) MO (by kernel_rfl) W (fun w W => ⟨_, _, W, Al, (Ab (fun _ => (.head _)) Al)⟩) fun w W => ?_
   iterate 5 refine A6 (R := []) F Aa Aa (yC fun M Z hN hZ => Ai F Aa) Aa Aa fun a F => ?_
   refine A6 (R := []) F Aa Aa (yC fun M Z hN hZ => BC F Aa Aa Aa) Aa Aa fun a F => ?_
   iterate 3 refine A6 (R := []) F Aa Aa (yC fun M Z hN hZ => Ai F Aa) Aa Aa fun a F => ?_
   refine A6 (R := []) F Aa Aa (yC fun M Z hN hZ => BC F Aa Aa Aa) Aa Aa fun a F => ?_
   obtain ⟨x6, h2, H⟩ := Am H
   refine A6 (R := []) F Aa Aa (yC fun M Z hN hZ => Ce (r := (Rp.int .i64)) Ds F Aa Aa (D2 W (Ap 0 Aa)) h2) Aa Aa fun a F => ?_
   refine A6 (R := [17]) F Aa Aa (yC fun M Z hN hZ => Ax (y := Value.int .i64 x6) (j := 0) (i := A1 (p1 + x5)) F Aa Aa (DV (hZ ((some 17), row v1 3 (Rp.int .i64) x2) (.head _) Aa)) h2 Fl.int.to T3 Aa) (by kernel_rfl) Aa fun a F => ?_
   iterate 2 refine A6 (R := []) F Aa Aa (yC fun M Z hN hZ => Ai F Aa) Aa Aa fun a F => ?_
   obtain ⟨x7, h3, H⟩ := Am H
   refine A6 (R := []) F Aa Aa (yC fun M Z hN hZ => Ce (r := (Rp.int .i64)) Ds F Aa Aa (D2 W (Ap 0 Aa)) h3) Aa Aa fun a F => ?_
   refine A6 (R := [17]) F Aa Aa (yC fun M Z hN hZ => Ax (y := Value.int .i64 x7) (j := 0) (i := x3) F Aa Aa (DV (hZ ((some 17), row v1 3 (Rp.int .i64) x2) (.head _) Aa)) h3 Fl.int.to T3 Aa) (by kernel_rfl) Aa fun a F => ?_
   obtain ⟨x8, h4, H⟩ := Am H
   refine A6 (R := []) F Aa Aa (yC fun M Z hN hZ => Ce (r := (Rp.int .i64)) Ds F Aa Aa (D2 W (Ap 0 Aa)) h4) Aa Aa fun a F => ?_
   refine BG Aa ?_
   refine Br (i := x3) (j := 0) (vs := [.int .i64 x6]) (x' := x6) F W Aa Aa Aa (k := 0) Aa Aa h4 T3 Aa Aa Aa Aa (fun A cs _ => Fl.int.sto (by rfl) _ _ _) fun w W => ?_
   refine AC (N2 := []) (NZ2 := []) (N3 := []) (NZ3 := [(some 17, row v1 3 (Rp.int .i64) x2)]) W Aa Aa Al (Ab (fun h => Ac (by kernel_rfl) h) Al) ?_
   obtain ⟨x9, h5, H⟩ := Am H
   refine A6 (R := []) F Aa Aa (yC fun M Z hN hZ => Ce (r := (Rp.int .i64)) Ds F Aa Aa (D2 W (Ap 0 Aa)) h5) Aa Aa fun a F => ?_
   refine BG Aa ?_
   refine Br (i := A1 (p1 + x5)) (j := 0) (vs := [.int .i64 x7]) (x' := x7) F W Aa Aa Aa (k := 0) Aa Aa h5 T3 Aa Aa Aa Aa (fun A cs _ => Fl.int.sto (by rfl) _ _ _) fun w W => ?_
   refine AC (N2 := []) (NZ2 := []) (N3 := []) (NZ3 := [(some 17, row v1 3 (Rp.int .i64) x2)]) W Aa Aa Al (Ab (fun h => Ac (by kernel_rfl) h) Al) ?_
   refine DS (A8 (Ad (Ae ?_)))
   refine ls F W Aa (Ai F Aa).q fun a w F W => ?_
   refine ls F W Aa (BC F Aa Aa Aa).q fun a w F W => ?_
   refine ls F W Aa (Ah F Aa).q fun a w F W => ?_
   refine Ag (Ad ?_)
   exact ⟨_, H, F.re ⟨rfl, Aa, Aa, Aa, Aa, Aa, trivial⟩, W⟩
  have H := AX (Bl hb) H
  rw [hb] at F
  clear hb
  refine Bx ?_
  iterate 2 refine BO ?_
  refine Bz ?_
  have H := L1 _ H
  have H := AM H
  subst H
  refine HQ (.inr Aa) F Aa ?_
  have W := W.sub (M' := []) (Z' := [row v1 3 (Rp.int .i64) x2]) (List.nil_sublist _) (List.Sublist.refl _)
  exact ⟨(), Aa, W⟩
 have H := AX (Bl hb) H
 rw [hb] at F
 clear hb
 refine Aw ?_
 have H := AM H
 subst H
 refine HQ (.inr Aa) F Aa ?_
 exact ⟨(), Aa, W⟩
end Go.Proofs.YtepfcpffbabgmaaDoor
