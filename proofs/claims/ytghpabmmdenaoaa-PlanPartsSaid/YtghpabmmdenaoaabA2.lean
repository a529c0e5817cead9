/- The functions of layer 24, Ig. Conditions: none. -/
import Derived.Test.YtghpabmmdenaoaabA1
namespace Go.Proofs.Ytghpabmmdenaoaa
open Go Go.RowKit
set_option linter.unusedVariables false
set_option linter.unusedSimpArgs false
set_option maxRecDepth 20000
theorem Vq : Has Try.prog 59 := ⟨fun args w => Al Try.func59 rfl (by decide) args w⟩
noncomputable def Br  : ((List (Int × Int × Int × Int)) × Int × Int) → Option (((List (Int × Int × Int × Int)) × Int × Int) ⊕ (List (Int × Int × Int × Int)))
  | (x1, x2, x3) => (if x2 < x3 then (ix x1 x3).bind fun x4 => (ix x1 x2).bind fun x5 => (ix x1 x2).bind fun x6 => (ix (AE x1 x2 x4) x3).bind fun x7 => some (.inl ((AE (AE x1 x2 x4) x3 x5), Az (x2 + 1), Az (x3 - 1))) else some (.inr x1))
noncomputable def BF (p0 : List (Int × Int × Int × Int)) (p1 : Int) (p2 : Int) : Option (List (Int × Int × Int × Int)) := AH (Br) (p0, p1, Az (p2 - 1))
theorem Fq (Y : Nat → Prop) (X : List Nat) (w0 : World) (v1 : Value) (p0 : List (Int × Int × Int × Int)) (p1 : Int) (p2 : Int) (r : (List (Int × Int × Int × Int))) (H : BF p0 p1 p2 = some r) (hL : Stw ⟨Y, X, w0⟩ [] [row v1 70 A4 p0] w0) :
    Calls Try.prog 60 #[v1, .int .i64 p1, .int .i64 p2, .func (.func 26) #[] #[]] w0 fun e w' => ∃ x : Unit, e = .returned (.tuple #[]) ∧ Stw ⟨Y, X, w0⟩ [] [row v1 70 A4 r] w' := by
 refine enter Try.func60 Aa Try.ntmps60 Aa fun a F => ?_
 have W := hL
 unfold BF at H
 refine Ah (Ac ?_)
 refine ls F W Aa (Ad F Aa).q fun a w F W => ?_
 refine ls F W Aa (Af F Aa).q fun a w F W => ?_
 refine Ae (Ab (Ah (Ac ?_)))
 refine ls F W Aa (Ad F Aa).q fun a w F W => ?_
 refine ls F W Aa (B9 F Aa Aa Aa).q fun a w F W => ?_
 refine ls F W Aa (Af F Aa).q fun a w F W => ?_
 refine Ae (Ab (As ?_))
 refine Bh H (fun s a w => Fr 34 [] [(0, v1), (8, .int .i64 s.2.1), (9, .int .i64 s.2.2)] a ∧ Stw ⟨Y, X, w0⟩ [] [row v1 70 A4 s.1] w) ⟨F.re ⟨rfl, Aa, Aa, trivial⟩, W⟩ fun s o a w H L1 hR => ?_
 obtain ⟨x1, x2, x3⟩ := s
 obtain ⟨F, W⟩ := hR
 have F : Fr 34 [] [(0, v1), (8, .int .i64 x2), (9, .int .i64 x3)] a := F
 have W : Stw ⟨Y, X, w0⟩ [] [row v1 70 A4 x1] w := W
 rw [Br] at H
 refine Ah (Ah (Ac ?_))
 iterate 2 refine ls F W Aa (Ad F Aa).q fun a w F W => ?_
 refine ls F W Aa (BI F Aa Aa).q fun a w F W => ?_
 refine Ae (Ab ?_)
 refine Ay F Aa (fun hb => ?_) fun hb => ?_
 ·
  have H := AP (Bm hb) H
  rw [hb] at F
  clear hb
  refine Aq (Ab (As (Ah ?_)))
  refine Ik 13 [2, 3] [0, 1, 4, 5, 6, 7, 8, 9, 10, 11, 12] (fun ch a d v w h => by cases d <;> exact h) W MO (by kernel_rfl) ?_
  iterate 2 refine hm F Aa Aa Aa fun a F => ?_
  refine JA ?_
  iterate 4 refine hs F Aa Aa Aa (Ad F Aa).q fun a F => ?_
  obtain ⟨x4, h1, H⟩ := Ak H
  refine hs F Aa Aa Aa (AC (r := A4) En F Aa Aa (Aj 0 Aa) h1).q fun a F => ?_
  refine hs F Aa Aa Aa (Ao (y := Value.agg #[.int .i64 x4.1, .int .i64 x4.2.1, .int .i64 x4.2.2.1, .int .i64 x4.2.2.2]) (j := 0) (i := x3) F Aa Aa (Aj 0 Aa) h1 Ep.to Ee Aa).q fun a F => ?_
  iterate 2 refine hs F Aa Aa Aa (Ad F Aa).q fun a F => ?_
  obtain ⟨x5, h2, H⟩ := Ak H
  refine hs F Aa Aa Aa (AC (r := A4) En F Aa Aa (Aj 0 Aa) h2).q fun a F => ?_
  refine hs F Aa Aa Aa (Ao (y := Value.agg #[.int .i64 x5.1, .int .i64 x5.2.1, .int .i64 x5.2.2.1, .int .i64 x5.2.2.2]) (j := 0) (i := x2) F Aa Aa (Aj 0 Aa) h2 Ep.to Ee Aa).q fun a F => ?_
  obtain ⟨x6, h3, H⟩ := Ak H
  refine hs F Aa Aa Aa (AC (r := A4) En F Aa Aa (Aj 0 Aa) h3).q fun a F => ?_
  refine Lx fun w W => ?_
  have W : Stw ⟨Y, X, w0⟩ [] [row v1 70 A4 x1] w := W
  refine A8 (i := x2) (j := 0) (vs := [.int .i64 x4.1, .int .i64 x4.2.1, .int .i64 x4.2.2.1, .int .i64 x4.2.2.2]) (x' := x4) F W Aa Aa Aa (k := 0) Aa Aa h3 Ee Aa Aa Aa Aa (fun A cs _ => Ep.sto (by rfl) _ _ _) fun w W => ?_
  obtain ⟨x7, h4, H⟩ := Ak H
  refine ls F W Aa (AC (r := A4) En F Aa Aa (Aj 0 Aa) h4).q fun a w F W => ?_
  refine A8 (i := x3) (j := 0) (vs := [.int .i64 x5.1, .int .i64 x5.2.1, .int .i64 x5.2.2.1, .int .i64 x5.2.2.2]) (x' := x5) F W Aa Aa Aa (k := 0) Aa Aa h4 Ee Aa Aa Aa Aa (fun A cs _ => Ep.sto (by rfl) _ _ _) fun w W => ?_
  refine Ae (Ab (Ah (Ac ?_)))
  refine ls F W Aa (Ad F Aa).q fun a w F W => ?_
  refine ls F W Aa (Bp F Aa Aa Aa).q fun a w F W => ?_
  refine ls F W Aa (Af F Aa).q fun a w F W => ?_
  refine Ae (Ab (Ac ?_))
  refine ls F W Aa (Ad F Aa).q fun a w F W => ?_
  refine ls F W Aa (B9 F Aa Aa Aa).q fun a w F W => ?_
  refine ls F W Aa (Af F Aa).q fun a w F W => ?_
  refine Ae (AM (Ab ?_))
  exact ⟨_, H, F.re ⟨rfl, Aa, Aa, trivial⟩, W⟩
 have H := AO (Bn hb) H
 rw [hb] at F
 clear hb
 refine A5 ?_
 iterate 2 refine Bk ?_
 refine A6 ?_
 have H := L1 _ H
 have H := AQ H
 subst H
 refine He (.inr Aa) F Aa ?_
 exact ⟨(), Aa, W⟩
theorem Wq : Has Try.prog 60 := ⟨fun args w => Al Try.func60 rfl (by decide) args w⟩
noncomputable def BG (p2 : Int) (x2 : List (Int × Int × Int × Int)) : Int → Option (Int ⊕ Int)
  | x8 => (if x8 < p2 then (ix x2 x8).bind fun x10 => (ix x2 (Az (x8 - 1))).bind fun x11 => (B8 x10 x11).bind fun x12 => some (!(decide (x12 < 0))) else some false).bind fun x9 => (if x9 = true then some (.inl (Az (x8 + 1))) else some (.inr x8))
noncomputable def AL  : ((List (Int × Int × Int × Int)) × Int) → Option (((List (Int × Int × Int × Int)) × Int) ⊕ (List (Int × Int × Int × Int)))
  | (x18, x19) => (if 1 ≤ x19 then (ix x18 x19).bind fun x20 => (ix x18 (Az (x19 - 1))).bind fun x21 => (B8 x20 x21).bind fun x22 => (if (!(decide (x22 < 0))) = true then some (.inr x18) else (ix x18 (Az (x19 - 1))).bind fun x23 => (ix x18 x19).bind fun x24 => (ix x18 x19).bind fun x25 => (ix (AE x18 x19 x23) (Az (x19 - 1))).bind fun x26 => some (.inl ((AE (AE x18 x19 x23) (Az (x19 - 1)) x24), Az (x19 - 1)))) else some (.inr x18))
noncomputable def AV (p2 : Int) (x7 : Int) : ((List (Int × Int × Int × Int)) × Int) → Option (((List (Int × Int × Int × Int)) × Int) ⊕ (((List (Int × Int × Int × Int)) × Int) ⊕ (((List (Int × Int × Int × Int)) × Int × Int) ⊕ ((List (Int × Int × Int × Int)) ⊕ (Bool × (List (Int × Int × Int × Int)))))))
  | (x27, x28) => (if x28 < p2 then (ix x27 x28).bind fun x29 => (ix x27 (Az (x28 - 1))).bind fun x30 => (B8 x29 x30).bind fun x31 => (if (!(decide (x31 < 0))) = true then some (.inr (.inl (x27, x7))) else (ix x27 (Az (x28 - 1))).bind fun x32 => (ix x27 x28).bind fun x33 => (ix x27 x28).bind fun x34 => (ix (AE x27 x28 x32) (Az (x28 - 1))).bind fun x35 => some (.inl ((AE (AE x27 x28 x32) (Az (x28 - 1)) x33), Az (x28 + 1)))) else some (.inr (.inl (x27, x7))))
noncomputable def AU (p1 : Int) (p2 : Int) : ((List (Int × Int × Int × Int)) × Int × Int) → Option (((List (Int × Int × Int × Int)) × Int × Int) ⊕ ((List (Int × Int × Int × Int)) ⊕ (Bool × (List (Int × Int × Int × Int)))))
  | (x2, x3, x4) => (if x4 < 5 then FO ((AH (BG p2 x2) x3).bind fun x7 => (if x7 = p2 then some (.inr (.inr (.inr (true, x2)))) else (if (Az (p2 - p1)) < 50 then some (.inr (.inr (.inr (false, x2)))) else (ix x2 (Az (x7 - 1))).bind fun x13 => (ix x2 x7).bind fun x14 => (ix x2 x7).bind fun x15 => (ix (AE x2 x7 x13) (Az (x7 - 1))).bind fun x16 => (if 2 ≤ (Az (x7 - p1)) then AH (AL) ((AE (AE x2 x7 x13) (Az (x7 - 1)) x14), Az (x7 - 1)) else some (AE (AE x2 x7 x13) (Az (x7 - 1)) x14)).bind fun x17 => (if 2 ≤ (Az (p2 - x7)) then AH (AV p2 x7) (x17, Az (x7 + 1)) else some (.inl (x17, x7)))))) fun (x5, x6) => some (.inl (x5, x6, Az (x4 + 1))) else some (.inr (.inl x2)))
noncomputable def Bc (p0 : List (Int × Int × Int × Int)) (p1 : Int) (p2 : Int) : Option (Bool × (List (Int × Int × Int × Int))) := FO (AH (AU p1 p2) (p0, Az (p1 + 1), 0)) fun x1 => some (false, x1)
theorem EB (Y : Nat → Prop) (X : List Nat) (w0 : World) (v1 : Value) (p0 : List (Int × Int × Int × Int)) (p1 : Int) (p2 : Int) (r : Bool × (List (Int × Int × Int × Int))) (H : Bc p0 p1 p2 = some r) (hL : Stw ⟨Y, X, w0⟩ [] [row v1 70 A4 p0] w0) :
    Calls Try.prog 61 #[v1, .int .i64 p1, .int .i64 p2, .func (.func 26) #[] #[]] w0 fun e w' => ∃ x : Unit, e = .returned (.bool r.1) ∧ Stw ⟨Y, X, w0⟩ [] [row v1 70 A4 r.2] w' := by
 refine enter Try.func61 Aa Try.ntmps61 Aa fun a F => ?_
 have W := hL
 unfold Bc at H
 refine Ah (Ac ?_)
 refine ls F W Aa (Af F Aa).q fun a w F W => ?_
 refine Ae (Ab (Ah (Ac ?_)))
 refine ls F W Aa (Ad F Aa).q fun a w F W => ?_
 refine ls F W Aa (Bp F Aa Aa Aa).q fun a w F W => ?_
 refine ls F W Aa (Af F Aa).q fun a w F W => ?_
 refine Ae (Ab ?_)
 obtain ⟨o1, G1, K1, L1⟩ := JX H
 refine AK (fun a w => ∃ x1 : List (Int × Int × Int × Int), some (Sum.inl x1) = some o1 ∧ Fr 141 [] [(8, .bool false)] a ∧ Stw ⟨Y, X, w0⟩ [] [row v1 70 A4 x1] w) ?_ ?_
 ·
  have H := G1
  clear G1 K1
  refine Ah (Ac ?_)
  refine ls F W Aa (Af F Aa).q fun a w F W => ?_
  refine Ae (Ab (As ?_))
  refine Bh H (fun s a w => Fr 141 [] [(0, v1), (1, .int .i64 p1), (2, .int .i64 p2), (3, .func (.func 26) #[] #[]), (8, .bool false), (9, .int .i64 s.2.1), (10, .int .i64 s.2.2)] a ∧ Stw ⟨Y, X, w0⟩ [] [row v1 70 A4 s.1] w) ⟨F.re ⟨rfl, Aa, Aa, Aa, Aa, Aa, Aa, trivial⟩, W⟩ fun s o a w H L2 hR => ?_
  obtain ⟨x2, x3, x4⟩ := s
  obtain ⟨F, W⟩ := hR
  have F : Fr 141 [] [(0, v1), (1, .int .i64 p1), (2, .int .i64 p2), (3, .func (.func 26) #[] #[]), (8, .bool false), (9, .int .i64 x3), (10, .int .i64 x4)] a := F
  have W : Stw ⟨Y, X, w0⟩ [] [row v1 70 A4 x2] w := W
  rw [AU] at H
  refine Ah (Ah (Ac ?_))
  refine ls F W Aa (Ad F Aa).q fun a w F W => ?_
  refine ls F W Aa (BI F Aa Aa).q fun a w F W => ?_
  refine Ae (Ab ?_)
  refine Ay F Aa (fun hb => ?_) fun hb => ?_
  ·
   have H := AP (Bm hb) H
   rw [hb] at F
   clear hb
   refine Aq (Ab ?_)
   obtain ⟨o3, G3, K3, L3⟩ := JX H
   refine AK (fun a w => ∃ x5 : List (Int × Int × Int × Int), ∃ x6 : Int, some (Sum.inl (x5, x6)) = some o3 ∧ Fr 141 [] [(0, v1), (1, .int .i64 p1), (2, .int .i64 p2), (3, .func (.func 26) #[] #[]), (8, .bool false), (9, .int .i64 x6), (10, .int .i64 x4)] a ∧ Stw ⟨Y, X, w0⟩ [] [row v1 70 A4 x5] w) ?_ ?_
   ·
    have H := G3
    clear G3 K3
    refine As ?_
    obtain ⟨o4, G4, K4⟩ := Ak H
    refine AK (fun a w => ∃ x7 : Int, some (x7) = some o4 ∧ Fr 141 [] [(0, v1), (1, .int .i64 p1), (2, .int .i64 p2), (3, .func (.func 26) #[] #[]), (8, .bool false), (9, .int .i64 x7), (10, .int .i64 x4)] a ∧ Stw ⟨Y, X, w0⟩ [] [row v1 70 A4 x2] w) ?_ ?_
    ·
     have H := G4
     clear G4 K4
     refine As ?_
     refine Bh H (fun s a w => Fr 141 [] [(0, v1), (1, .int .i64 p1), (2, .int .i64 p2), (3, .func (.func 26) #[] #[]), (8, .bool false), (9, .int .i64 s), (10, .int .i64 x4)] a ∧ Stw ⟨Y, X, w0⟩ [] [row v1 70 A4 x2] w) ⟨F.re ⟨rfl, Aa, Aa, Aa, Aa, Aa, Aa, trivial⟩, W⟩ fun s o a w H L5 hR => ?_
     obtain ⟨x8, rfl⟩ : ∃ x, x = s := ⟨s, rfl⟩
     obtain ⟨F, W⟩ := hR
     have F : Fr 141 [] [(0, v1), (1, .int .i64 p1), (2, .int .i64 p2), (3, .func (.func 26) #[] #[]), (8, .bool false), (9, .int .i64 x8), (10, .int .i64 x4)] a := F
     have W : Stw ⟨Y, X, w0⟩ [] [row v1 70 A4 x2] w := W
     rw [BG] at H
     refine Ah ?_
     obtain ⟨o6, G6, K6⟩ := Ak H
     refine AK (fun a w => ∃ x9 : Bool, some (x9) = some o6 ∧ Fr 141 [] [(0, v1), (1, .int .i64 p1), (2, .int .i64 p2), (3, .func (.func 26) #[] #[]), (8, .bool false), (9, .int .i64 x8), (10, .int .i64 x4), (36, .bool x9)] a ∧ Stw ⟨Y, X, w0⟩ [] [row v1 70 A4 x2] w) ?_ ?_
     ·
      have H := G6
      clear G6 K6
      refine BS W MO (by kernel_rfl) ?_
      iterate 2 refine qs F Aa (Ad F Aa).q fun a F => ?_
      refine qs F Aa (BI F Aa Aa).q fun a F => ?_
      refine qs F Aa (Ad F Aa).q fun a F => ?_
      rcases Bool.eq_false_or_eq_true (decide (x8 < p2)) with hb | hb
      ·
       have H := AP (Bm hb) H
       rw [hb] at F
       clear hb
       iterate 3 refine BM F (Ag F Aa Aa Aa Aa) Aa (An Aa) (Ad F Aa).q fun a F => ?_
       obtain ⟨x10, h1, H⟩ := Ak H
       refine BM F (Ag F Aa Aa Aa Aa) Aa (An Aa) (AC (r := A4) En F Aa Aa (Aj 0 Aa) h1).q fun a F => ?_
       refine BM F (Ag F Aa Aa Aa Aa) Aa (An Aa) (Ao (y := Value.agg #[.int .i64 x10.1, .int .i64 x10.2.1, .int .i64 x10.2.2.1, .int .i64 x10.2.2.2]) (j := 0) (i := x8) F Aa Aa (Aj 0 Aa) h1 Ep.to Ee Aa).q fun a F => ?_
       iterate 2 refine BM F (Ag F Aa Aa Aa Aa) Aa (An Aa) (Ad F Aa).q fun a F => ?_
       refine BM F (Ag F Aa Aa Aa Aa) Aa (An Aa) (B9 F Aa Aa Aa).q fun a F => ?_
       obtain ⟨x11, h2, H⟩ := Ak H
       refine BM F (Ag F Aa Aa Aa Aa) Aa (An Aa) (AC (r := A4) En F Aa Aa (Aj 0 Aa) h2).q fun a F => ?_
       refine BM F (Ag F Aa Aa Aa Aa) Aa (An Aa) (Ao (y := Value.agg #[.int .i64 x11.1, .int .i64 x11.2.1, .int .i64 x11.2.2.1, .int .i64 x11.2.2.2]) (j := 0) (i := Az (x8 - 1)) F Aa Aa (Aj 0 Aa) h2 Ep.to Ee Aa).q fun a F => ?_
       obtain ⟨x12, h3, H⟩ := Ak H
       refine BM F (Ag F Aa Aa Aa Aa) Aa (An Aa) (EO (ws := [.agg #[.int .i64 x10.1, .int .i64 x10.2.1, .int .i64 x10.2.2.1, .int .i64 x10.2.2.2], .agg #[.int .i64 x11.1, .int .i64 x11.2.1, .int .i64 x11.2.2.1, .int .i64 x11.2.2.2]]) (v := Value.int .i64 x12) F Px Aa (fun w W => Cn any w x10 x11 _ h3)) fun a F => ?_
       refine BM F (Ag F Aa Aa Aa Aa) Aa (An Aa) (BI F Aa Aa).q fun a F => ?_
       refine BM F (Ag F Aa Aa Aa Aa) Aa (An Aa) (ED F Aa).q fun a F => ?_
       refine qs F Aa (Av F Aa Aa Aa).q fun a F => ?_
       refine A0 fun w W => ?_
       refine Ab ?_
       exact ⟨_, H, F.re ⟨rfl, Aa, Aa, Aa, Aa, Aa, Aa, Aa, trivial⟩, W⟩
      have H := AO (Bn hb) H
      rw [hb] at F
      clear hb
      iterate 13 refine D7 F (CJ F Aa Aa Aa Aa Aa) Aa Aa fun a F => ?_
      refine qs F Aa (Ax F Aa Aa Aa).q fun a F => ?_
      refine A0 fun w W => ?_
      refine Ab ?_
      exact ⟨_, H, F.re ⟨rfl, Aa, Aa, Aa, Aa, Aa, Aa, Aa, trivial⟩, W⟩
     rintro a w ⟨x9, hj, F, W⟩
     have hj := AQ hj
     subst hj
     have H := K6
     clear G6 K6
     refine Ay F Aa (fun hb => ?_) fun hb => ?_
     ·
      have H := AP hb H
      rw [hb] at F
      clear hb
      refine Aq (Ab (As (Ac ?_)))
      refine ls F W Aa (Ad F Aa).q fun a w F W => ?_
      refine ls F W Aa (Bp F Aa Aa Aa).q fun a w F W => ?_
      refine ls F W Aa (Af F Aa).q fun a w F W => ?_
      refine Ae (AM (Ab ?_))
      exact ⟨_, H, F.re ⟨rfl, Aa, Aa, Aa, Aa, Aa, Aa, trivial⟩, W⟩
     have H := AO (by rw [hb]; decide) H
     rw [hb] at F
     clear hb
     refine A5 ?_
     iterate 2 refine Bk ?_
     refine A6 (Ab ?_)
     have H := L5 _ H
     exact ⟨_, H, F.re ⟨rfl, Aa, Aa, Aa, Aa, Aa, Aa, trivial⟩, W⟩
    rintro a w ⟨x7, hj, F, W⟩
    have hj := AQ hj
    subst hj
    have H := K4
    clear G4 K4
    refine Ah (Ah (Ac ?_))
    iterate 2 refine ls F W Aa (Ad F Aa).q fun a w F W => ?_
    refine ls F W Aa (Dl F Aa Aa).q fun a w F W => ?_
    refine Ae (Ab ?_)
    refine Ay F Aa (fun hb => ?_) fun hb => ?_
    ·
     have H := AP (Bm hb) H
     rw [hb] at F
     clear hb
     refine Ah (Ac ?_)
     refine ls F W Aa (Af F Aa).q fun a w F W => ?_
     refine Ae (Ab (AF (AN (A3 ?_))))
     iterate 2 refine AN ?_
     refine A3 (AN ?_)
     have H := L3 _ H
     have H := L2 _ H
     have H := L1 _ H
     have H := AQ H
     subst H
     refine Bj (.inl Aa) F W Aa (AD F Aa) ?_
     exact ⟨(), Aa, W⟩
    have H := AO (Bn hb) H
    rw [hb] at F
    clear hb
    refine Aq (Ab (Ah (Ah (Ac ?_))))
    iterate 2 refine ls F W Aa (Ad F Aa).q fun a w F W => ?_
    refine ls F W Aa (B9 F Aa Aa Aa).q fun a w F W => ?_
    refine ls F W Aa (BI F Aa Aa).q fun a w F W => ?_
    refine Ae (Ab ?_)
    refine Ay F Aa (fun hb => ?_) fun hb => ?_
    ·
     have H := AP (Bm hb) H
     rw [hb] at F
     clear hb
     refine Ah (Ac ?_)
     refine ls F W Aa (Af F Aa).q fun a w F W => ?_
     refine Ae (Ab (AF (AN (A3 ?_))))
     iterate 2 refine AN ?_
     refine A3 (AN ?_)
     have H := L3 _ H
     have H := L2 _ H
     have H := L1 _ H
     have H := AQ H
     subst H
     refine Bj (.inl Aa) F W Aa (AD F Aa) ?_
     exact ⟨(), Aa, W⟩
    have H := AO (Bn hb) H
    rw [hb] at F
    clear hb
    refine Aq (Ab (Ah ?_))
    refine El [(true, 0), (true, 1), (true, 2), (true, 3), (true, 4), (true, 5), (true, 6), (true, 7), (true, 8), (true, 9), (true, 10), (true, 11), (true, 12), (true, 13), (true, 14), (false, 15), (true, 16), (false, 17)] (CN ⟨Y, X, w0⟩ [] [(some 15, row v1 70 A4 x2)]) (fun ch a d v w h => by cases d <;> exact h) MO (by kernel_rfl) W (fun w W => ⟨_, _, W, Aw, (all_cons (fun _ => (.head _)) Aw)⟩) fun w W => ?_
    iterate 4 refine Bd (R := []) F Aa Aa (yC fun M Z hN hZ => Ad F Aa) Aa Aa fun a F => ?_
    refine Bd (R := []) F Aa Aa (yC fun M Z hN hZ => B9 F Aa Aa Aa) Aa Aa fun a F => ?_
    iterate 2 refine Bd (R := []) F Aa Aa (yC fun M Z hN hZ => Ad F Aa) Aa Aa fun a F => ?_
    refine Bd (R := []) F Aa Aa (yC fun M Z hN hZ => B9 F Aa Aa Aa) Aa Aa fun a F => ?_
    obtain ⟨x13, h4, H⟩ := Ak H
    refine Bd (R := []) F Aa Aa (yC fun M Z hN hZ => Bi (r := A4) En F Aa Aa (CC W (Aj 0 Aa)) h4) Aa Aa fun a F => ?_
    refine Bd (R := [15]) F Aa Aa (yC fun M Z hN hZ => Ao (y := Value.agg #[.int .i64 x13.1, .int .i64 x13.2.1, .int .i64 x13.2.2.1, .int .i64 x13.2.2.2]) (j := 0) (i := Az (x7 - 1)) F Aa Aa (Ck (hZ ((some 15), row v1 70 A4 x2) (.head _) Aa)) h4 Ep.to Ee Aa) (by kernel_rfl) Aa fun a F => ?_
    iterate 2 refine Bd (R := []) F Aa Aa (yC fun M Z hN hZ => Ad F Aa) Aa Aa fun a F => ?_
    obtain ⟨x14, h5, H⟩ := Ak H
    refine Bd (R := []) F Aa Aa (yC fun M Z hN hZ => Bi (r := A4) En F Aa Aa (CC W (Aj 0 Aa)) h5) Aa Aa fun a F => ?_
    refine Bd (R := [15]) F Aa Aa (yC fun M Z hN hZ => Ao (y := Value.agg #[.int .i64 x14.1, .int .i64 x14.2.1, .int .i64 x14.2.2.1, .int .i64 x14.2.2.2]) (j := 0) (i := x7) F Aa Aa (Ck (hZ ((some 15), row v1 70 A4 x2) (.head _) Aa)) h5 Ep.to Ee Aa) (by kernel_rfl) Aa fun a F => ?_
    obtain ⟨x15, h6, H⟩ := Ak H
    refine Bd (R := []) F Aa Aa (yC fun M Z hN hZ => Bi (r := A4) En F Aa Aa (CC W (Aj 0 Aa)) h6) Aa Aa fun a F => ?_
    refine Fh Aa ?_
    refine A8 (i := x7) (j := 0) (vs := [.int .i64 x13.1, .int .i64 x13.2.1, .int .i64 x13.2.2.1, .int .i64 x13.2.2.2]) (x' := x13) F W Aa Aa Aa (k := 0) Aa Aa h6 Ee Aa Aa Aa Aa (fun A cs _ => Ep.sto (by rfl) _ _ _) fun w W => ?_
    refine Cr (N2 := []) (NZ2 := []) (N3 := []) (NZ3 := [(some 15, row v1 70 A4 x2)]) W Aa Aa Aw (all_cons (fun h => Be (by kernel_rfl) h) Aw) ?_
    obtain ⟨x16, h7, H⟩ := Ak H
    refine Bd (R := []) F Aa Aa (yC fun M Z hN hZ => Bi (r := A4) En F Aa Aa (CC W (Aj 0 Aa)) h7) Aa Aa fun a F => ?_
    refine Fh Aa ?_
    refine A8 (i := Az (x7 - 1)) (j := 0) (vs := [.int .i64 x14.1, .int .i64 x14.2.1, .int .i64 x14.2.2.1, .int .i64 x14.2.2.2]) (x' := x14) F W Aa Aa Aa (k := 0) Aa Aa h7 Ee Aa Aa Aa Aa (fun A cs _ => Ep.sto (by rfl) _ _ _) fun w W => ?_
    refine Cr (N2 := []) (NZ2 := []) (N3 := []) (NZ3 := [(some 15, row v1 70 A4 x2)]) W Aa Aa Aw (all_cons (fun h => Be (by kernel_rfl) h) Aw) ?_
    refine FC (Ab ?_)
    obtain ⟨o7, G7, K7⟩ := Ak H
    refine AK (fun a w => ∃ x17 : List (Int × Int × Int × Int), some (x17) = some o7 ∧ Fr 141 [] [(0, v1), (1, .int .i64 p1), (2, .int .i64 p2), (3, .func (.func 26) #[] #[]), (8, .bool false), (9, .int .i64 x7), (10, .int .i64 x4)] a ∧ Stw ⟨Y, X, w0⟩ [] [row v1 70 A4 x17] w) ?_ ?_
    ·
     have H := G7
     clear G7 K7
     refine Ah (Ac ?_)
     iterate 2 refine ls F W Aa (Ad F Aa).q fun a w F W => ?_
     refine ls F W Aa (B9 F Aa Aa Aa).q fun a w F W => ?_
     refine ls F W Aa (Ds F Aa Aa).q fun a w F W => ?_
     refine Ae (Ab ?_)
     refine Ay F Aa (fun hb => ?_) fun hb => ?_
     ·
      have H := AP (Bm hb) H
      rw [hb] at F
      clear hb
      refine Ah (Ac ?_)
      refine ls F W Aa (Ad F Aa).q fun a w F W => ?_
      refine ls F W Aa (B9 F Aa Aa Aa).q fun a w F W => ?_
      refine ls F W Aa (Af F Aa).q fun a w F W => ?_
      refine Ae (Ab (As ?_))
      refine Bh H (fun s a w => Fr 141 [] [(0, v1), (1, .int .i64 p1), (2, .int .i64 p2), (3, .func (.func 26) #[] #[]), (8, .bool false), (9, .int .i64 x7), (10, .int .i64 x4), (11, .int .i64 s.2)] a ∧ Stw ⟨Y, X, w0⟩ [] [row v1 70 A4 s.1] w) ⟨F.re ⟨rfl, Aa, Aa, Aa, Aa, Aa, Aa, Aa, trivial⟩, W⟩ fun s o a w H L8 hR => ?_
      obtain ⟨x18, x19⟩ := s
      obtain ⟨F, W⟩ := hR
      have F : Fr 141 [] [(0, v1), (1, .int .i64 p1), (2, .int .i64 p2), (3, .func (.func 26) #[] #[]), (8, .bool false), (9, .int .i64 x7), (10, .int .i64 x4), (11, .int .i64 x19)] a := F
      have W : Stw ⟨Y, X, w0⟩ [] [row v1 70 A4 x18] w := W
      rw [AL] at H
      refine Ah (Ah (Ac ?_))
      refine ls F W Aa (Ad F Aa).q fun a w F W => ?_
      refine ls F W Aa (Ds F Aa Aa).q fun a w F W => ?_
      refine Ae (Ab ?_)
      refine Ay F Aa (fun hb => ?_) fun hb => ?_
      ·
       have H := AP (Bm hb) H
       rw [hb] at F
       clear hb
       refine Aq (Ab (Ah (As ?_)))
       iterate 2 refine Ah ?_
       refine BS W MO (by kernel_rfl) ?_
       iterate 3 refine qs F Aa (Ad F Aa).q fun a F => ?_
       obtain ⟨x20, h8, H⟩ := Ak H
       refine qs F Aa (AC (r := A4) En F Aa Aa (Aj 0 Aa) h8).q fun a F => ?_
       refine qs F Aa (Ao (y := Value.agg #[.int .i64 x20.1, .int .i64 x20.2.1, .int .i64 x20.2.2.1, .int .i64 x20.2.2.2]) (j := 0) (i := x19) F Aa Aa (Aj 0 Aa) h8 Ep.to Ee Aa).q fun a F => ?_
       iterate 2 refine qs F Aa (Ad F Aa).q fun a F => ?_
       refine qs F Aa (B9 F Aa Aa Aa).q fun a F => ?_
       obtain ⟨x21, h9, H⟩ := Ak H
       refine qs F Aa (AC (r := A4) En F Aa Aa (Aj 0 Aa) h9).q fun a F => ?_
       refine qs F Aa (Ao (y := Value.agg #[.int .i64 x21.1, .int .i64 x21.2.1, .int .i64 x21.2.2.1, .int .i64 x21.2.2.2]) (j := 0) (i := Az (x19 - 1)) F Aa Aa (Aj 0 Aa) h9 Ep.to Ee Aa).q fun a F => ?_
       obtain ⟨x22, h10, H⟩ := Ak H
       refine qs F Aa (EO (ws := [.agg #[.int .i64 x20.1, .int .i64 x20.2.1, .int .i64 x20.2.2.1, .int .i64 x20.2.2.2], .agg #[.int .i64 x21.1, .int .i64 x21.2.1, .int .i64 x21.2.2.1, .int .i64 x21.2.2.2]]) (v := Value.int .i64 x22) F Px Aa (fun w W => Cn any w x20 x21 _ h10)) fun a F => ?_
       refine qs F Aa (BI F Aa Aa).q fun a F => ?_
       refine qs F Aa (ED F Aa).q fun a F => ?_
       refine A0 fun w W => ?_
       refine Ab ?_
       refine Ay F Aa (fun hb => ?_) fun hb => ?_
       ·
        have H := AP hb H
        rw [hb] at F
        clear hb
        refine A5 (Bk ?_)
        refine Ib Aa ?_
        iterate 2 refine Bk ?_
        refine A6 (Ab ?_)
        have H := L8 _ H
        exact ⟨_, H, F.re ⟨rfl, Aa, Aa, Aa, Aa, Aa, Aa, trivial⟩, W⟩
       have H := AO (by rw [hb]; decide) H
       rw [hb] at F
       clear hb
       refine Aq (Ab ?_)
       refine El [(true, 0), (true, 1), (true, 2), (true, 3), (true, 4), (true, 5), (true, 6), (true, 7), (true, 8), (true, 9), (true, 10), (true, 11), (true, 12), (true, 13), (true, 14), (false, 15), (true, 16), (false, 17)] (CN ⟨Y, X, w0⟩ [] [(some 15, row v1 70 A4 x18)]) (fun ch a d v w h => by cases d <;> exact h) MO (by kernel_rfl) W (fun w W => ⟨_, _, W, Aw, (all_cons (fun _ => (.head _)) Aw)⟩) fun w W => ?_
       iterate 4 refine Bd (R := []) F Aa Aa (yC fun M Z hN hZ => Ad F Aa) Aa Aa fun a F => ?_
       refine Bd (R := []) F Aa Aa (yC fun M Z hN hZ => B9 F Aa Aa Aa) Aa Aa fun a F => ?_
       iterate 2 refine Bd (R := []) F Aa Aa (yC fun M Z hN hZ => Ad F Aa) Aa Aa fun a F => ?_
       refine Bd (R := []) F Aa Aa (yC fun M Z hN hZ => B9 F Aa Aa Aa) Aa Aa fun a F => ?_
       obtain ⟨x23, h11, H⟩ := Ak H
       refine Bd (R := []) F Aa Aa (yC fun M Z hN hZ => Bi (r := A4) En F Aa Aa (CC W (Aj 0 Aa)) h11) Aa Aa fun a F => ?_
       refine Bd (R := [15]) F Aa Aa (yC fun M Z hN hZ => Ao (y := Value.agg #[.int .i64 x23.1, .int .i64 x23.2.1, .int .i64 x23.2.2.1, .int .i64 x23.2.2.2]) (j := 0) (i := Az (x19 - 1)) F Aa Aa (Ck (hZ ((some 15), row v1 70 A4 x18) (.head _) Aa)) h11 Ep.to Ee Aa) (by kernel_rfl) Aa fun a F => ?_
       iterate 2 refine Bd (R := []) F Aa Aa (yC fun M Z hN hZ => Ad F Aa) Aa Aa fun a F => ?_
       obtain ⟨x24, h12, H⟩ := Ak H
       refine Bd (R := []) F Aa Aa (yC fun M Z hN hZ => Bi (r := A4) En F Aa Aa (CC W (Aj 0 Aa)) h12) Aa Aa fun a F => ?_
       refine Bd (R := [15]) F Aa Aa (yC fun M Z hN hZ => Ao (y := Value.agg #[.int .i64 x24.1, .int .i64 x24.2.1, .int .i64 x24.2.2.1, .int .i64 x24.2.2.2]) (j := 0) (i := x19) F Aa Aa (Ck (hZ ((some 15), row v1 70 A4 x18) (.head _) Aa)) h12 Ep.to Ee Aa) (by kernel_rfl) Aa fun a F => ?_
       obtain ⟨x25, h13, H⟩ := Ak H
       refine Bd (R := []) F Aa Aa (yC fun M Z hN hZ => Bi (r := A4) En F Aa Aa (CC W (Aj 0 Aa)) h13) Aa Aa fun a F => ?_
       refine Fh Aa ?_
       refine A8 (i := x19) (j := 0) (vs := [.int .i64 x23.1, .int .i64 x23.2.1, .int .i64 x23.2.2.1, .int .i64 x23.2.2.2]) (x' := x23) F W Aa Aa Aa (k := 0) Aa Aa h13 Ee Aa Aa Aa Aa (fun A cs _ => Ep.sto (by rfl) _ _ _) fun w W => ?_
       refine Cr (N2 := []) (NZ2 := []) (N3 := []) (NZ3 := [(some 15, row v1 70 A4 x18)]) W Aa Aa Aw (all_cons (fun h => Be (by kernel_rfl) h) Aw) ?_
       obtain ⟨x26, h14, H⟩ := Ak H
       refine Bd (R := []) F Aa Aa (yC fun M Z hN hZ => Bi (r := A4) En F Aa Aa (CC W (Aj 0 Aa)) h14) Aa Aa fun a F => ?_
       refine Fh Aa ?_
       refine A8 (i := Az (x19 - 1)) (j := 0) (vs := [.int .i64 x24.1, .int .i64 x24.2.1, .int .i64 x24.2.2.1, .int .i64 x24.2.2.2]) (x' := x24) F W Aa Aa Aa (k := 0) Aa Aa h14 Ee Aa Aa Aa Aa (fun A cs _ => Ep.sto (by rfl) _ _ _) fun w W => ?_
       refine Cr (N2 := []) (NZ2 := []) (N3 := []) (NZ3 := [(some 15, row v1 70 A4 x18)]) W Aa Aa Aw (all_cons (fun h => Be (by kernel_rfl) h) Aw) ?_
       refine FC (AM (Ab (Ac ?_)))
       refine ls F W Aa (Ad F Aa).q fun a w F W => ?_
       refine ls F W Aa (B9 F Aa Aa Aa).q fun a w F W => ?_
       refine ls F W Aa (Af F Aa).q fun a w F W => ?_
       refine Ae (Ab ?_)
       exact ⟨_, H, F.re ⟨rfl, Aa, Aa, Aa, Aa, Aa, Aa, Aa, trivial⟩, W⟩
      have H := AO (Bn hb) H
      rw [hb] at F
      clear hb
      refine A5 ?_
      iterate 2 refine Bk ?_
      refine A6 (Ab ?_)
      have H := L8 _ H
      exact ⟨_, H, F.re ⟨rfl, Aa, Aa, Aa, Aa, Aa, Aa, trivial⟩, W⟩
     have H := AO (Bn hb) H
     rw [hb] at F
     clear hb
     refine Aq (Ab ?_)
     exact ⟨_, H, F.re ⟨rfl, Aa, Aa, Aa, Aa, Aa, Aa, trivial⟩, W⟩
    rintro a w ⟨x17, hj, F, W⟩
    have hj := AQ hj
    subst hj
    have H := K7
    clear G7 K7
    refine Ah (Ac ?_)
    iterate 2 refine ls F W Aa (Ad F Aa).q fun a w F W => ?_
    refine ls F W Aa (B9 F Aa Aa Aa).q fun a w F W => ?_
    refine ls F W Aa (Ds F Aa Aa).q fun a w F W => ?_
    refine Ae (Ab ?_)
    refine Ay F Aa (fun hb => ?_) fun hb => ?_
    ·
     have H := AP (Bm hb) H
     rw [hb] at F
     clear hb
     refine Ah (Ac ?_)
     refine ls F W Aa (Ad F Aa).q fun a w F W => ?_
     refine ls F W Aa (Bp F Aa Aa Aa).q fun a w F W => ?_
     refine ls F W Aa (Af F Aa).q fun a w F W => ?_
     refine Ae (Ab (As ?_))
     refine Bh H (fun s a w => Fr 141 [] [(0, v1), (1, .int .i64 p1), (2, .int .i64 p2), (3, .func (.func 26) #[] #[]), (8, .bool false), (9, .int .i64 x7), (10, .int .i64 x4), (12, .int .i64 s.2)] a ∧ Stw ⟨Y, X, w0⟩ [] [row v1 70 A4 s.1] w) ⟨F.re ⟨rfl, Aa, Aa, Aa, Aa, Aa, Aa, Aa, trivial⟩, W⟩ fun s o a w H L9 hR => ?_
     obtain ⟨x27, x28⟩ := s
     obtain ⟨F, W⟩ := hR
     have F : Fr 141 [] [(0, v1), (1, .int .i64 p1), (2, .int .i64 p2), (3, .func (.func 26) #[] #[]), (8, .bool false), (9, .int .i64 x7), (10, .int .i64 x4), (12, .int .i64 x28)] a := F
     have W : Stw ⟨Y, X, w0⟩ [] [row v1 70 A4 x27] w := W
     rw [AV] at H
     refine Ah (Ah (Ac ?_))
     iterate 2 refine ls F W Aa (Ad F Aa).q fun a w F W => ?_
     refine ls F W Aa (BI F Aa Aa).q fun a w F W => ?_
     refine Ae (Ab ?_)
     refine Ay F Aa (fun hb => ?_) fun hb => ?_
     ·
      have H := AP (Bm hb) H
      rw [hb] at F
      clear hb
      refine Aq (Ab (Ah (As ?_)))
      iterate 2 refine Ah ?_
      refine BS W MO (by kernel_rfl) ?_
      iterate 3 refine qs F Aa (Ad F Aa).q fun a F => ?_
      obtain ⟨x29, h15, H⟩ := Ak H
      refine qs F Aa (AC (r := A4) En F Aa Aa (Aj 0 Aa) h15).q fun a F => ?_
      refine qs F Aa (Ao (y := Value.agg #[.int .i64 x29.1, .int .i64 x29.2.1, .int .i64 x29.2.2.1, .int .i64 x29.2.2.2]) (j := 0) (i := x28) F Aa Aa (Aj 0 Aa) h15 Ep.to Ee Aa).q fun a F => ?_
      iterate 2 refine qs F Aa (Ad F Aa).q fun a F => ?_
      refine qs F Aa (B9 F Aa Aa Aa).q fun a F => ?_
      obtain ⟨x30, h16, H⟩ := Ak H
      refine qs F Aa (AC (r := A4) En F Aa Aa (Aj 0 Aa) h16).q fun a F => ?_
      refine qs F Aa (Ao (y := Value.agg #[.int .i64 x30.1, .int .i64 x30.2.1, .int .i64 x30.2.2.1, .int .i64 x30.2.2.2]) (j := 0) (i := Az (x28 - 1)) F Aa Aa (Aj 0 Aa) h16 Ep.to Ee Aa).q fun a F => ?_
      obtain ⟨x31, h17, H⟩ := Ak H
      refine qs F Aa (EO (ws := [.agg #[.int .i64 x29.1, .int .i64 x29.2.1, .int .i64 x29.2.2.1, .int .i64 x29.2.2.2], .agg #[.int .i64 x30.1, .int .i64 x30.2.1, .int .i64 x30.2.2.1, .int .i64 x30.2.2.2]]) (v := Value.int .i64 x31) F Px Aa (fun w W => Cn any w x29 x30 _ h17)) fun a F => ?_
      refine qs F Aa (BI F Aa Aa).q fun a F => ?_
      refine qs F Aa (ED F Aa).q fun a F => ?_
      refine A0 fun w W => ?_
      refine Ab ?_
      refine Ay F Aa (fun hb => ?_) fun hb => ?_
      ·
       have H := AP hb H
       rw [hb] at F
       clear hb
       refine A5 (Bk ?_)
       refine Ib Aa ?_
       iterate 2 refine Bk ?_
       refine A6 (AM (Ab ?_))
       have H := L9 _ H
       exact ⟨_, _, H, F.re ⟨rfl, Aa, Aa, Aa, Aa, Aa, Aa, trivial⟩, W⟩
      have H := AO (by rw [hb]; decide) H
      rw [hb] at F
      clear hb
      refine Aq (Ab ?_)
      refine El [(true, 0), (true, 1), (true, 2), (true, 3), (true, 4), (true, 5), (true, 6), (true, 7), (true, 8), (true, 9), (true, 10), (true, 11), (true, 12), (true, 13), (true, 14), (false, 15), (true, 16), (false, 17)] (CN ⟨Y, X, w0⟩ [] [(some 15, row v1 70 A4 x27)]) (fun ch a d v w h => by cases d <;> exact h) MO (by kernel_rfl) W (fun w W => ⟨_, _, W, Aw, (all_cons (fun _ => (.head _)) Aw)⟩) fun w W => ?_
      iterate 4 refine Bd (R := []) F Aa Aa (yC fun M Z hN hZ => Ad F Aa) Aa Aa fun a F => ?_
      refine Bd (R := []) F Aa Aa (yC fun M Z hN hZ => B9 F Aa Aa Aa) Aa Aa fun a F => ?_
      iterate 2 refine Bd (R := []) F Aa Aa (yC fun M Z hN hZ => Ad F Aa) Aa Aa fun a F => ?_
      refine Bd (R := []) F Aa Aa (yC fun M Z hN hZ => B9 F Aa Aa Aa) Aa Aa fun a F => ?_
      obtain ⟨x32, h18, H⟩ := Ak H
      refine Bd (R := []) F Aa Aa (yC fun M Z hN hZ => Bi (r := A4) En F Aa Aa (CC W (Aj 0 Aa)) h18) Aa Aa fun a F => ?_
      refine Bd (R := [15]) F Aa Aa (yC fun M Z hN hZ => Ao (y := Value.agg #[.int .i64 x32.1, .int .i64 x32.2.1, .int .i64 x32.2.2.1, .int .i64 x32.2.2.2]) (j := 0) (i := Az (x28 - 1)) F Aa Aa (Ck (hZ ((some 15), row v1 70 A4 x27) (.head _) Aa)) h18 Ep.to Ee Aa) (by kernel_rfl) Aa fun a F => ?_
      iterate 2 refine Bd (R := []) F Aa Aa (yC fun M Z hN hZ => Ad F Aa) Aa Aa fun a F => ?_
      obtain ⟨x33, h19, H⟩ := Ak H
      refine Bd (R := []) F Aa Aa (yC fun M Z hN hZ => Bi (r := A4) En F Aa Aa (CC W (Aj 0 Aa)) h19) Aa Aa fun a F => ?_
      refine Bd (R := [15]) F Aa Aa (yC fun M Z hN hZ => Ao (y := Value.agg #[.int .i64 x33.1, .int .i64 x33.2.1, .int .i64 x33.2.2.1, .int .i64 x33.2.2.2]) (j := 0) (i := x28) F Aa Aa (Ck (hZ ((some 15), row v1 70 A4 x27) (.head _) Aa)) h19 Ep.to Ee Aa) (by kernel_rfl) Aa fun a F => ?_
      obtain ⟨x34, h20, H⟩ := Ak H
      refine Bd (R := []) F Aa Aa (yC fun M Z hN hZ => Bi (r := A4) En F Aa Aa (CC W (Aj 0 Aa)) h20) Aa Aa fun a F => ?_
      refine Fh Aa ?_
      refine A8 (i := x28) (j := 0) (vs := [.int .i64 x32.1, .int .i64 x32.2.1, .int .i64 x32.2.2.1, .int .i64 x32.2.2.2]) (x' := x32) F W Aa Aa Aa (k := 0) Aa Aa h20 Ee Aa Aa Aa Aa (fun A cs _ => Ep.sto (by rfl) _ _ _) fun w W => ?_
      refine Cr (N2 := []) (NZ2 := []) (N3 := []) (NZ3 := [(some 15, row v1 70 A4 x27)]) W Aa Aa Aw (all_cons (fun h => Be (by kernel_rfl) h) Aw) ?_
      obtain ⟨x35, h21, H⟩ := Ak H
      refine Bd (R := []) F Aa Aa (yC fun M Z hN hZ => Bi (r := A4) En F Aa Aa (CC W (Aj 0 Aa)) h21) Aa Aa fun a F => ?_
      refine Fh Aa ?_
      refine A8 (i := Az (x28 - 1)) (j := 0) (vs := [.int .i64 x33.1, .int .i64 x33.2.1, .int .i64 x33.2.2.1, .int .i64 x33.2.2.2]) (x' := x33) F W Aa Aa Aa (k := 0) Aa Aa h21 Ee Aa Aa Aa Aa (fun A cs _ => Ep.sto (by rfl) _ _ _) fun w W => ?_
      refine Cr (N2 := []) (NZ2 := []) (N3 := []) (NZ3 := [(some 15, row v1 70 A4 x27)]) W Aa Aa Aw (all_cons (fun h => Be (by kernel_rfl) h) Aw) ?_
      refine FC (AM (Ab (Ac ?_)))
      refine ls F W Aa (Ad F Aa).q fun a w F W => ?_
      refine ls F W Aa (Bp F Aa Aa Aa).q fun a w F W => ?_
      refine ls F W Aa (Af F Aa).q fun a w F W => ?_
      refine Ae (Ab ?_)
      exact ⟨_, H, F.re ⟨rfl, Aa, Aa, Aa, Aa, Aa, Aa, Aa, trivial⟩, W⟩
     have H := AO (Bn hb) H
     rw [hb] at F
     clear hb
     refine A5 ?_
     iterate 2 refine Bk ?_
     refine A6 (AM (Ab ?_))
     have H := L9 _ H
     exact ⟨_, _, H, F.re ⟨rfl, Aa, Aa, Aa, Aa, Aa, Aa, trivial⟩, W⟩
    have H := AO (Bn hb) H
    rw [hb] at F
    clear hb
    refine Aq (AM (Ab ?_))
    exact ⟨_, _, H, F.re ⟨rfl, Aa, Aa, Aa, Aa, Aa, Aa, trivial⟩, W⟩
   rintro a w ⟨x5, x6, hj, F, W⟩
   have H := K3 _ hj
   clear hj G3 K3 L3
   refine Ac ?_
   refine ls F W Aa (Ad F Aa).q fun a w F W => ?_
   refine ls F W Aa (Bp F Aa Aa Aa).q fun a w F W => ?_
   refine ls F W Aa (Af F Aa).q fun a w F W => ?_
   refine Ae (Ab ?_)
   exact ⟨_, H, F.re ⟨rfl, Aa, Aa, Aa, Aa, Aa, Aa, trivial⟩, W⟩
  have H := AO (Bn hb) H
  rw [hb] at F
  clear hb
  refine A5 ?_
  iterate 2 refine Bk ?_
  refine A6 (Ab ?_)
  have H := L2 _ H
  exact ⟨_, H, F.re ⟨rfl, trivial⟩, W⟩
 rintro a w ⟨x1, hj, F, W⟩
 have H := K1 _ hj
 clear hj G1 K1 L1
 refine Ah (Ac ?_)
 refine ls F W Aa (Af F Aa).q fun a w F W => ?_
 refine Ae (Ab (AF ?_))
 have H := AQ H
 subst H
 refine Bj (.inl Aa) F W Aa (AD F Aa) ?_
 exact ⟨(), Aa, W⟩
theorem VB : Has Try.prog 61 := ⟨fun args w => Al Try.func61 rfl (by decide) args w⟩
noncomputable def BV (p1 : Int) (x7 : List (Int × Int × Int × Int)) (x9 : Int) : Int → Option (Int ⊕ Int)
  | x11 => (if x11 ≤ x9 then (ix x7 p1).bind fun x13 => (ix x7 x11).bind fun x14 => (B8 x13 x14).bind fun x15 => some (!(decide (x15 < 0))) else some false).bind fun x12 => (if x12 = true then some (.inl (Az (x11 + 1))) else some (.inr x11))
noncomputable def BU (p1 : Int) (x7 : List (Int × Int × Int × Int)) (x10 : Int) : Int → Option (Int ⊕ Int)
  | x17 => (if x10 ≤ x17 then (ix x7 p1).bind fun x19 => (ix x7 x17).bind fun x20 => (B8 x19 x20).bind fun x21 => some (decide (x21 < 0)) else some false).bind fun x18 => (if x18 = true then some (.inl (Az (x17 - 1))) else some (.inr x17))
noncomputable def BC (p1 : Int) : ((List (Int × Int × Int × Int)) × Int × Int) → Option (((List (Int × Int × Int × Int)) × Int × Int) ⊕ (Int × (List (Int × Int × Int × Int))))
  | (x7, x8, x9) => (AH (BV p1 x7 x9) x8).bind fun x10 => (AH (BU p1 x7 x10) x9).bind fun x16 => (if x16 < x10 then some (.inr (x10, x7)) else (ix x7 x16).bind fun x22 => (ix x7 x10).bind fun x23 => (ix x7 x10).bind fun x24 => (ix (AE x7 x10 x22) x16).bind fun x25 => some (.inl ((AE (AE x7 x10 x22) x16 x23), Az (x10 + 1), Az (x16 - 1))))
noncomputable def BP (p0 : List (Int × Int × Int × Int)) (p1 : Int) (p2 : Int) (p3 : Int) : Option (Int × (List (Int × Int × Int × Int))) := (ix p0 p3).bind fun x1 => (ix p0 p1).bind fun x2 => (ix p0 p1).bind fun x3 => (ix (AE p0 p1 x1) p3).bind fun x4 => (AH (BC p1) ((AE (AE p0 p1 x1) p3 x2), Az (p1 + 1), Az (p2 - 1))).bind fun (x5, x6) => some (x5, x6)
theorem E7 (Y : Nat → Prop) (X : List Nat) (w0 : World) (v1 : Value) (p0 : List (Int × Int × Int × Int)) (p1 : Int) (p2 : Int) (p3 : Int) (r : Int × (List (Int × Int × Int × Int))) (H : BP p0 p1 p2 p3 = some r) (hL : Stw ⟨Y, X, w0⟩ [] [row v1 70 A4 p0] w0) :
    Calls Try.prog 62 #[v1, .int .i64 p1, .int .i64 p2, .int .i64 p3, .func (.func 26) #[] #[]] w0 fun e w' => ∃ x : Unit, e = .returned (.int .i64 r.1) ∧ Stw ⟨Y, X, w0⟩ [] [row v1 70 A4 r.2] w' := by
 refine enter Try.func62 Aa Try.ntmps62 Aa fun a F => ?_
 have W := hL
 unfold BP at H
 refine Ah (Ac ?_)
 refine ls F W Aa (Af F Aa).q fun a w F W => ?_
 refine Ae (Ab (Ah ?_))
 refine Ik 13 [2, 3] [0, 1, 4, 5, 6, 7, 8, 9, 10, 11, 12] (fun ch a d v w h => by cases d <;> exact h) W MO (by kernel_rfl) ?_
 iterate 2 refine hm F Aa Aa Aa fun a F => ?_
 refine JA ?_
 iterate 4 refine hs F Aa Aa Aa (Ad F Aa).q fun a F => ?_
 obtain ⟨x1, h1, H⟩ := Ak H
 refine hs F Aa Aa Aa (AC (r := A4) En F Aa Aa (Aj 0 Aa) h1).q fun a F => ?_
 refine hs F Aa Aa Aa (Ao (y := Value.agg #[.int .i64 x1.1, .int .i64 x1.2.1, .int .i64 x1.2.2.1, .int .i64 x1.2.2.2]) (j := 0) (i := p3) F Aa Aa (Aj 0 Aa) h1 Ep.to Ee Aa).q fun a F => ?_
 iterate 2 refine hs F Aa Aa Aa (Ad F Aa).q fun a F => ?_
 obtain ⟨x2, h2, H⟩ := Ak H
 refine hs F Aa Aa Aa (AC (r := A4) En F Aa Aa (Aj 0 Aa) h2).q fun a F => ?_
 refine hs F Aa Aa Aa (Ao (y := Value.agg #[.int .i64 x2.1, .int .i64 x2.2.1, .int .i64 x2.2.2.1, .int .i64 x2.2.2.2]) (j := 0) (i := p1) F Aa Aa (Aj 0 Aa) h2 Ep.to Ee Aa).q fun a F => ?_
 obtain ⟨x3, h3, H⟩ := Ak H
 refine hs F Aa Aa Aa (AC (r := A4) En F Aa Aa (Aj 0 Aa) h3).q fun a F => ?_
 refine Lx fun w W => ?_
 have W : Stw ⟨Y, X, w0⟩ [] [row v1 70 A4 p0] w := W
 refine A8 (i := p1) (j := 0) (vs := [.int .i64 x1.1, .int .i64 x1.2.1, .int .i64 x1.2.2.1, .int .i64 x1.2.2.2]) (x' := x1) F W Aa Aa Aa (k := 0) Aa Aa h3 Ee Aa Aa Aa Aa (fun A cs _ => Ep.sto (by rfl) _ _ _) fun w W => ?_
 obtain ⟨x4, h4, H⟩ := Ak H
 refine ls F W Aa (AC (r := A4) En F Aa Aa (Aj 0 Aa) h4).q fun a w F W => ?_
 refine A8 (i := p3) (j := 0) (vs := [.int .i64 x2.1, .int .i64 x2.2.1, .int .i64 x2.2.2.1, .int .i64 x2.2.2.2]) (x' := x2) F W Aa Aa Aa (k := 0) Aa Aa h4 Ee Aa Aa Aa Aa (fun A cs _ => Ep.sto (by rfl) _ _ _) fun w W => ?_
 refine Ae (Ab (Ah (Ac ?_)))
 refine ls F W Aa (Ad F Aa).q fun a w F W => ?_
 refine ls F W Aa (Bp F Aa Aa Aa).q fun a w F W => ?_
 refine ls F W Aa (Ad F Aa).q fun a w F W => ?_
 refine ls F W Aa (B9 F Aa Aa Aa).q fun a w F W => ?_
 iterate 2 refine ls F W Aa (Af F Aa).q fun a w F W => ?_
 refine Ae (Ab ?_)
 obtain ⟨o1, G1, K1⟩ := Ak H
 refine AK (fun a w => ∃ x5 : Int, ∃ x6 : List (Int × Int × Int × Int), some ((x5, x6)) = some o1 ∧ Fr 90 [] [(10, .int .i64 0), (11, .int .i64 x5)] a ∧ Stw ⟨Y, X, w0⟩ [] [row v1 70 A4 x6] w) ?_ ?_
 ·
  have H := G1
  clear G1 K1
  refine As ?_
  refine Bh H (fun s a w => Fr 90 [] [(0, v1), (1, .int .i64 p1), (4, .func (.func 26) #[] #[]), (10, .int .i64 0), (11, .int .i64 s.2.1), (12, .int .i64 s.2.2)] a ∧ Stw ⟨Y, X, w0⟩ [] [row v1 70 A4 s.1] w) ⟨F.re ⟨rfl, Aa, Aa, Aa, Aa, Aa, trivial⟩, W⟩ fun s o a w H L2 hR => ?_
  obtain ⟨x7, x8, x9⟩ := s
  obtain ⟨F, W⟩ := hR
  have F : Fr 90 [] [(0, v1), (1, .int .i64 p1), (4, .func (.func 26) #[] #[]), (10, .int .i64 0), (11, .int .i64 x8), (12, .int .i64 x9)] a := F
  have W : Stw ⟨Y, X, w0⟩ [] [row v1 70 A4 x7] w := W
  rw [BC] at H
  refine As ?_
  obtain ⟨o3, G3, K3⟩ := Ak H
  refine AK (fun a w => ∃ x10 : Int, some (x10) = some o3 ∧ Fr 90 [] [(0, v1), (1, .int .i64 p1), (4, .func (.func 26) #[] #[]), (10, .int .i64 0), (11, .int .i64 x10), (12, .int .i64 x9)] a ∧ Stw ⟨Y, X, w0⟩ [] [row v1 70 A4 x7] w) ?_ ?_
  ·
   have H := G3
   clear G3 K3
   refine As ?_
   refine Bh H (fun s a w => Fr 90 [] [(0, v1), (1, .int .i64 p1), (4, .func (.func 26) #[] #[]), (10, .int .i64 0), (11, .int .i64 s), (12, .int .i64 x9)] a ∧ Stw ⟨Y, X, w0⟩ [] [row v1 70 A4 x7] w) ⟨F.re ⟨rfl, Aa, Aa, Aa, Aa, Aa, trivial⟩, W⟩ fun s o a w H L4 hR => ?_
   obtain ⟨x11, rfl⟩ : ∃ x, x = s := ⟨s, rfl⟩
   obtain ⟨F, W⟩ := hR
   have F : Fr 90 [] [(0, v1), (1, .int .i64 p1), (4, .func (.func 26) #[] #[]), (10, .int .i64 0), (11, .int .i64 x11), (12, .int .i64 x9)] a := F
   have W : Stw ⟨Y, X, w0⟩ [] [row v1 70 A4 x7] w := W
   rw [BV] at H
   refine Ah ?_
   obtain ⟨o5, G5, K5⟩ := Ak H
   refine AK (fun a w => ∃ x12 : Bool, some (x12) = some o5 ∧ Fr 90 [] [(0, v1), (1, .int .i64 p1), (4, .func (.func 26) #[] #[]), (10, .int .i64 0), (11, .int .i64 x11), (12, .int .i64 x9), (47, .bool x12)] a ∧ Stw ⟨Y, X, w0⟩ [] [row v1 70 A4 x7] w) ?_ ?_
   ·
    have H := G5
    clear G5 K5
    refine BS W MO (by kernel_rfl) ?_
    iterate 2 refine qs F Aa (Ad F Aa).q fun a F => ?_
    refine qs F Aa (Im F Aa Aa).q fun a F => ?_
    refine qs F Aa (Ad F Aa).q fun a F => ?_
    rcases Bool.eq_false_or_eq_true (decide (x11 ≤ x9)) with hb | hb
    ·
     have H := AP (Bm hb) H
     rw [hb] at F
     clear hb
     iterate 3 refine BM F (Ag F Aa Aa Aa Aa) Aa (An Aa) (Ad F Aa).q fun a F => ?_
     obtain ⟨x13, h5, H⟩ := Ak H
     refine BM F (Ag F Aa Aa Aa Aa) Aa (An Aa) (AC (r := A4) En F Aa Aa (Aj 0 Aa) h5).q fun a F => ?_
     refine BM F (Ag F Aa Aa Aa Aa) Aa (An Aa) (Ao (y := Value.agg #[.int .i64 x13.1, .int .i64 x13.2.1, .int .i64 x13.2.2.1, .int .i64 x13.2.2.2]) (j := 0) (i := p1) F Aa Aa (Aj 0 Aa) h5 Ep.to Ee Aa).q fun a F => ?_
     iterate 2 refine BM F (Ag F Aa Aa Aa Aa) Aa (An Aa) (Ad F Aa).q fun a F => ?_
     obtain ⟨x14, h6, H⟩ := Ak H
     refine BM F (Ag F Aa Aa Aa Aa) Aa (An Aa) (AC (r := A4) En F Aa Aa (Aj 0 Aa) h6).q fun a F => ?_
     refine BM F (Ag F Aa Aa Aa Aa) Aa (An Aa) (Ao (y := Value.agg #[.int .i64 x14.1, .int .i64 x14.2.1, .int .i64 x14.2.2.1, .int .i64 x14.2.2.2]) (j := 0) (i := x11) F Aa Aa (Aj 0 Aa) h6 Ep.to Ee Aa).q fun a F => ?_
     obtain ⟨x15, h7, H⟩ := Ak H
     refine BM F (Ag F Aa Aa Aa Aa) Aa (An Aa) (EO (ws := [.agg #[.int .i64 x13.1, .int .i64 x13.2.1, .int .i64 x13.2.2.1, .int .i64 x13.2.2.2], .agg #[.int .i64 x14.1, .int .i64 x14.2.1, .int .i64 x14.2.2.1, .int .i64 x14.2.2.2]]) (v := Value.int .i64 x15) F Px Aa (fun w W => Cn any w x13 x14 _ h7)) fun a F => ?_
     refine BM F (Ag F Aa Aa Aa Aa) Aa (An Aa) (BI F Aa Aa).q fun a F => ?_
     refine BM F (Ag F Aa Aa Aa Aa) Aa (An Aa) (ED F Aa).q fun a F => ?_
     refine qs F Aa (Av F Aa Aa Aa).q fun a F => ?_
     refine A0 fun w W => ?_
     refine Ab ?_
     exact ⟨_, H, F.re ⟨rfl, Aa, Aa, Aa, Aa, Aa, Aa, trivial⟩, W⟩
    have H := AO (Bn hb) H
    rw [hb] at F
    clear hb
    iterate 12 refine D7 F (CJ F Aa Aa Aa Aa Aa) Aa Aa fun a F => ?_
    refine qs F Aa (Ax F Aa Aa Aa).q fun a F => ?_
    refine A0 fun w W => ?_
    refine Ab ?_
    exact ⟨_, H, F.re ⟨rfl, Aa, Aa, Aa, Aa, Aa, Aa, trivial⟩, W⟩
   rintro a w ⟨x12, hj, F, W⟩
   have hj := AQ hj
   subst hj
   have H := K5
   clear G5 K5
   refine Ay F Aa (fun hb => ?_) fun hb => ?_
   ·
    have H := AP hb H
    rw [hb] at F
    clear hb
    refine Aq (Ab (As (Ac ?_)))
    refine ls F W Aa (Ad F Aa).q fun a w F W => ?_
    refine ls F W Aa (Bp F Aa Aa Aa).q fun a w F W => ?_
    refine ls F W Aa (Af F Aa).q fun a w F W => ?_
    refine Ae (AM (Ab ?_))
    exact ⟨_, H, F.re ⟨rfl, Aa, Aa, Aa, Aa, Aa, trivial⟩, W⟩
   have H := AO (by rw [hb]; decide) H
   rw [hb] at F
   clear hb
   refine A5 ?_
   iterate 2 refine Bk ?_
   refine A6 (Ab ?_)
   have H := L4 _ H
   exact ⟨_, H, F.re ⟨rfl, Aa, Aa, Aa, Aa, Aa, trivial⟩, W⟩
  rintro a w ⟨x10, hj, F, W⟩
  have hj := AQ hj
  subst hj
  have H := K3
  clear G3 K3
  obtain ⟨o6, G6, K6⟩ := Ak H
  refine AK (fun a w => ∃ x16 : Int, some (x16) = some o6 ∧ Fr 90 [] [(0, v1), (1, .int .i64 p1), (4, .func (.func 26) #[] #[]), (10, .int .i64 0), (11, .int .i64 x10), (12, .int .i64 x16)] a ∧ Stw ⟨Y, X, w0⟩ [] [row v1 70 A4 x7] w) ?_ ?_
  ·
   have H := G6
   clear G6 K6
   refine As ?_
   refine Bh H (fun s a w => Fr 90 [] [(0, v1), (1, .int .i64 p1), (4, .func (.func 26) #[] #[]), (10, .int .i64 0), (11, .int .i64 x10), (12, .int .i64 s)] a ∧ Stw ⟨Y, X, w0⟩ [] [row v1 70 A4 x7] w) ⟨F.re ⟨rfl, Aa, Aa, Aa, Aa, Aa, trivial⟩, W⟩ fun s o a w H L7 hR => ?_
   obtain ⟨x17, rfl⟩ : ∃ x, x = s := ⟨s, rfl⟩
   obtain ⟨F, W⟩ := hR
   have F : Fr 90 [] [(0, v1), (1, .int .i64 p1), (4, .func (.func 26) #[] #[]), (10, .int .i64 0), (11, .int .i64 x10), (12, .int .i64 x17)] a := F
   have W : Stw ⟨Y, X, w0⟩ [] [row v1 70 A4 x7] w := W
   rw [BU] at H
   refine Ah ?_
   obtain ⟨o8, G8, K8⟩ := Ak H
   refine AK (fun a w => ∃ x18 : Bool, some (x18) = some o8 ∧ Fr 90 [] [(0, v1), (1, .int .i64 p1), (4, .func (.func 26) #[] #[]), (10, .int .i64 0), (11, .int .i64 x10), (12, .int .i64 x17), (65, .bool x18)] a ∧ Stw ⟨Y, X, w0⟩ [] [row v1 70 A4 x7] w) ?_ ?_
   ·
    have H := G8
    clear G8 K8
    refine BS W MO (by kernel_rfl) ?_
    iterate 2 refine qs F Aa (Ad F Aa).q fun a F => ?_
    refine qs F Aa (Im F Aa Aa).q fun a F => ?_
    refine qs F Aa (Ad F Aa).q fun a F => ?_
    rcases Bool.eq_false_or_eq_true (decide (x10 ≤ x17)) with hb | hb
    ·
     have H := AP (Bm hb) H
     rw [hb] at F
     clear hb
     iterate 3 refine BM F (Ag F Aa Aa Aa Aa) Aa (An Aa) (Ad F Aa).q fun a F => ?_
     obtain ⟨x19, h8, H⟩ := Ak H
     refine BM F (Ag F Aa Aa Aa Aa) Aa (An Aa) (AC (r := A4) En F Aa Aa (Aj 0 Aa) h8).q fun a F => ?_
     refine BM F (Ag F Aa Aa Aa Aa) Aa (An Aa) (Ao (y := Value.agg #[.int .i64 x19.1, .int .i64 x19.2.1, .int .i64 x19.2.2.1, .int .i64 x19.2.2.2]) (j := 0) (i := p1) F Aa Aa (Aj 0 Aa) h8 Ep.to Ee Aa).q fun a F => ?_
     iterate 2 refine BM F (Ag F Aa Aa Aa Aa) Aa (An Aa) (Ad F Aa).q fun a F => ?_
     obtain ⟨x20, h9, H⟩ := Ak H
     refine BM F (Ag F Aa Aa Aa Aa) Aa (An Aa) (AC (r := A4) En F Aa Aa (Aj 0 Aa) h9).q fun a F => ?_
     refine BM F (Ag F Aa Aa Aa Aa) Aa (An Aa) (Ao (y := Value.agg #[.int .i64 x20.1, .int .i64 x20.2.1, .int .i64 x20.2.2.1, .int .i64 x20.2.2.2]) (j := 0) (i := x17) F Aa Aa (Aj 0 Aa) h9 Ep.to Ee Aa).q fun a F => ?_
     obtain ⟨x21, h10, H⟩ := Ak H
     refine BM F (Ag F Aa Aa Aa Aa) Aa (An Aa) (EO (ws := [.agg #[.int .i64 x19.1, .int .i64 x19.2.1, .int .i64 x19.2.2.1, .int .i64 x19.2.2.2], .agg #[.int .i64 x20.1, .int .i64 x20.2.1, .int .i64 x20.2.2.1, .int .i64 x20.2.2.2]]) (v := Value.int .i64 x21) F Px Aa (fun w W => Cn any w x19 x20 _ h10)) fun a F => ?_
     refine BM F (Ag F Aa Aa Aa Aa) Aa (An Aa) (BI F Aa Aa).q fun a F => ?_
     refine qs F Aa (Av F Aa Aa Aa).q fun a F => ?_
     refine A0 fun w W => ?_
     refine Ab ?_
     exact ⟨_, H, F.re ⟨rfl, Aa, Aa, Aa, Aa, Aa, Aa, trivial⟩, W⟩
    have H := AO (Bn hb) H
    rw [hb] at F
    clear hb
    iterate 11 refine D7 F (CJ F Aa Aa Aa Aa Aa) Aa Aa fun a F => ?_
    refine qs F Aa (Ax F Aa Aa Aa).q fun a F => ?_
    refine A0 fun w W => ?_
    refine Ab ?_
    exact ⟨_, H, F.re ⟨rfl, Aa, Aa, Aa, Aa, Aa, Aa, trivial⟩, W⟩
   rintro a w ⟨x18, hj, F, W⟩
   have hj := AQ hj
   subst hj
   have H := K8
   clear G8 K8
   refine Ay F Aa (fun hb => ?_) fun hb => ?_
   ·
    have H := AP hb H
    rw [hb] at F
    clear hb
    refine Aq (Ab (As (Ac ?_)))
    refine ls F W Aa (Ad F Aa).q fun a w F W => ?_
    refine ls F W Aa (B9 F Aa Aa Aa).q fun a w F W => ?_
    refine ls F W Aa (Af F Aa).q fun a w F W => ?_
    refine Ae (AM (Ab ?_))
    exact ⟨_, H, F.re ⟨rfl, Aa, Aa, Aa, Aa, Aa, trivial⟩, W⟩
   have H := AO (by rw [hb]; decide) H
   rw [hb] at F
   clear hb
   refine A5 ?_
   iterate 2 refine Bk ?_
   refine A6 (Ab ?_)
   have H := L7 _ H
   exact ⟨_, H, F.re ⟨rfl, Aa, Aa, Aa, Aa, Aa, trivial⟩, W⟩
  rintro a w ⟨x16, hj, F, W⟩
  have hj := AQ hj
  subst hj
  have H := K6
  clear G6 K6
  refine Ah (Ah (Ac ?_))
  iterate 2 refine ls F W Aa (Ad F Aa).q fun a w F W => ?_
  refine ls F W Aa (FZ F Aa Aa).q fun a w F W => ?_
  refine Ae (Ab ?_)
  refine Ay F Aa (fun hb => ?_) fun hb => ?_
  ·
   have H := AP (Bm hb) H
   rw [hb] at F
   clear hb
   refine A5 (Bk ?_)
   refine Ib Aa ?_
   refine Bk (A6 (Ab ?_))
   have H := L2 _ H
   exact ⟨_, _, H, F.re ⟨rfl, Aa, trivial⟩, W⟩
  have H := AO (Bn hb) H
  rw [hb] at F
  clear hb
  refine Aq (Ab (Ah ?_))
  refine Ik 13 [2, 3] [0, 1, 4, 5, 6, 7, 8, 9, 10, 11, 12] (fun ch a d v w h => by cases d <;> exact h) W MO (by kernel_rfl) ?_
  iterate 2 refine hm F Aa Aa Aa fun a F => ?_
  refine JA ?_
  iterate 4 refine hs F Aa Aa Aa (Ad F Aa).q fun a F => ?_
  obtain ⟨x22, h11, H⟩ := Ak H
  refine hs F Aa Aa Aa (AC (r := A4) En F Aa Aa (Aj 0 Aa) h11).q fun a F => ?_
  refine hs F Aa Aa Aa (Ao (y := Value.agg #[.int .i64 x22.1, .int .i64 x22.2.1, .int .i64 x22.2.2.1, .int .i64 x22.2.2.2]) (j := 0) (i := x16) F Aa Aa (Aj 0 Aa) h11 Ep.to Ee Aa).q fun a F => ?_
  iterate 2 refine hs F Aa Aa Aa (Ad F Aa).q fun a F => ?_
  obtain ⟨x23, h12, H⟩ := Ak H
  refine hs F Aa Aa Aa (AC (r := A4) En F Aa Aa (Aj 0 Aa) h12).q fun a F => ?_
  refine hs F Aa Aa Aa (Ao (y := Value.agg #[.int .i64 x23.1, .int .i64 x23.2.1, .int .i64 x23.2.2.1, .int .i64 x23.2.2.2]) (j := 0) (i := x10) F Aa Aa (Aj 0 Aa) h12 Ep.to Ee Aa).q fun a F => ?_
  obtain ⟨x24, h13, H⟩ := Ak H
  refine hs F Aa Aa Aa (AC (r := A4) En F Aa Aa (Aj 0 Aa) h13).q fun a F => ?_
  refine Lx fun w W => ?_
  have W : Stw ⟨Y, X, w0⟩ [] [row v1 70 A4 x7] w := W
  refine A8 (i := x10) (j := 0) (vs := [.int .i64 x22.1, .int .i64 x22.2.1, .int .i64 x22.2.2.1, .int .i64 x22.2.2.2]) (x' := x22) F W Aa Aa Aa (k := 0) Aa Aa h13 Ee Aa Aa Aa Aa (fun A cs _ => Ep.sto (by rfl) _ _ _) fun w W => ?_
  obtain ⟨x25, h14, H⟩ := Ak H
  refine ls F W Aa (AC (r := A4) En F Aa Aa (Aj 0 Aa) h14).q fun a w F W => ?_
  refine A8 (i := x16) (j := 0) (vs := [.int .i64 x23.1, .int .i64 x23.2.1, .int .i64 x23.2.2.1, .int .i64 x23.2.2.2]) (x' := x23) F W Aa Aa Aa (k := 0) Aa Aa h14 Ee Aa Aa Aa Aa (fun A cs _ => Ep.sto (by rfl) _ _ _) fun w W => ?_
  refine Ae (Ab (Ah (Ac ?_)))
  refine ls F W Aa (Ad F Aa).q fun a w F W => ?_
  refine ls F W Aa (Bp F Aa Aa Aa).q fun a w F W => ?_
  refine ls F W Aa (Af F Aa).q fun a w F W => ?_
  refine Ae (Ab (Ac ?_))
  refine ls F W Aa (Ad F Aa).q fun a w F W => ?_
  refine ls F W Aa (B9 F Aa Aa Aa).q fun a w F W => ?_
  refine ls F W Aa (Af F Aa).q fun a w F W => ?_
  refine Ae (AM (Ab ?_))
  exact ⟨_, H, F.re ⟨rfl, Aa, Aa, Aa, Aa, Aa, trivial⟩, W⟩
 rintro a w ⟨x5, x6, hj, F, W⟩
 have hj := AQ hj
 subst hj
 have H := K1
 clear G1 K1
 refine Ah (Ac ?_)
 refine ls F W Aa (Ad F Aa).q fun a w F W => ?_
 refine ls F W Aa (Af F Aa).q fun a w F W => ?_
 refine Ae (Ab (AF ?_))
 have H := AQ H
 subst H
 refine Bj (.inl Aa) F W Aa (AD F Aa) ?_
 exact ⟨(), Aa, W⟩
theorem UW : Has Try.prog 62 := ⟨fun args w => Al Try.func62 rfl (by decide) args w⟩
noncomputable def BT (p0 : List (Int × Int × Int × Int)) (p1 : Int) (p2 : Int) (p3 : Int) (x1 : Int × Int × Int × Int) (x2 : Int × Int × Int × Int) : Int → Option (Int ⊕ Int)
  | x6 => (if x6 ≤ (Az (p2 - 1)) then (ix (AE (AE p0 p1 x1) p3 x2) x6).bind fun x8 => (ix (AE (AE p0 p1 x1) p3 x2) p1).bind fun x9 => (B8 x8 x9).bind fun x10 => some (decide (x10 < 0)) else some false).bind fun x7 => (if x7 = true then some (.inl (Az (x6 + 1))) else some (.inr x6))
noncomputable def Cj (p0 : List (Int × Int × Int × Int)) (p1 : Int) (p3 : Int) (x1 : Int × Int × Int × Int) (x2 : Int × Int × Int × Int) (x5 : Int) : Int → Option (Int ⊕ Int)
  | x12 => (if x5 ≤ x12 then (ix (AE (AE p0 p1 x1) p3 x2) x12).bind fun x14 => (ix (AE (AE p0 p1 x1) p3 x2) p1).bind fun x15 => (B8 x14 x15).bind fun x16 => some (!(decide (x16 < 0))) else some false).bind fun x13 => (if x13 = true then some (.inl (Az (x12 - 1))) else some (.inr x12))
noncomputable def Ch (p1 : Int) (x27 : List (Int × Int × Int × Int)) (x29 : Int) : Int → Option (Int ⊕ Int)
  | x31 => (if x31 ≤ x29 then (ix x27 x31).bind fun x33 => (ix x27 p1).bind fun x34 => (B8 x33 x34).bind fun x35 => some (decide (x35 < 0)) else some false).bind fun x32 => (if x32 = true then some (.inl (Az (x31 + 1))) else some (.inr x31))
noncomputable def Ci (p1 : Int) (x27 : List (Int × Int × Int × Int)) (x30 : Int) : Int → Option (Int ⊕ Int)
  | x37 => (if x30 ≤ x37 then (ix x27 x37).bind fun x39 => (ix x27 p1).bind fun x40 => (B8 x39 x40).bind fun x41 => some (!(decide (x41 < 0))) else some false).bind fun x38 => (if x38 = true then some (.inl (Az (x37 - 1))) else some (.inr x37))
noncomputable def BB (p1 : Int) : ((List (Int × Int × Int × Int)) × Int × Int) → Option (((List (Int × Int × Int × Int)) × Int × Int) ⊕ ((List (Int × Int × Int × Int)) × Int))
  | (x27, x28, x29) => (AH (Ch p1 x27 x29) x28).bind fun x30 => (AH (Ci p1 x27 x30) x29).bind fun x36 => (if x36 < x30 then some (.inr (x27, x36)) else (ix x27 x36).bind fun x42 => (ix x27 x30).bind fun x43 => (ix x27 x30).bind fun x44 => (ix (AE x27 x30 x42) x36).bind fun x45 => some (.inl ((AE (AE x27 x30 x42) x36 x43), Az (x30 + 1), Az (x36 - 1))))
noncomputable def Cc (p0 : List (Int × Int × Int × Int)) (p1 : Int) (p2 : Int) (p3 : Int) : Option (Int × Bool × (List (Int × Int × Int × Int))) := (ix p0 p3).bind fun x1 => (ix p0 p1).bind fun x2 => (ix p0 p1).bind fun x3 => (ix (AE p0 p1 x1) p3).bind fun x4 => (AH (BT p0 p1 p2 p3 x1 x2) (Az (p1 + 1))).bind fun x5 => (AH (Cj p0 p1 p3 x1 x2 x5) (Az (p2 - 1))).bind fun x11 => (if x11 < x5 then (ix (AE (AE p0 p1 x1) p3 x2) p1).bind fun x17 => (ix (AE (AE p0 p1 x1) p3 x2) x11).bind fun x18 => (ix (AE (AE p0 p1 x1) p3 x2) x11).bind fun x19 => (ix (AE (AE (AE p0 p1 x1) p3 x2) x11 x17) p1).bind fun x20 => some (x11, true, (AE (AE (AE (AE p0 p1 x1) p3 x2) x11 x17) p1 x18)) else (ix (AE (AE p0 p1 x1) p3 x2) x11).bind fun x21 => (ix (AE (AE p0 p1 x1) p3 x2) x5).bind fun x22 => (ix (AE (AE p0 p1 x1) p3 x2) x5).bind fun x23 => (ix (AE (AE (AE p0 p1 x1) p3 x2) x5 x21) x11).bind fun x24 => (AH (BB p1) ((AE (AE (AE (AE p0 p1 x1) p3 x2) x5 x21) x11 x22), Az (x5 + 1), Az (x11 - 1))).bind fun (x25, x26) => (ix x25 p1).bind fun x46 => (ix x25 x26).bind fun x47 => (ix x25 x26).bind fun x48 => (ix (AE x25 x26 x46) p1).bind fun x49 => some (x26, false, (AE (AE x25 x26 x46) p1 x47)))
theorem FU (Y : Nat → Prop) (X : List Nat) (w0 : World) (v1 : Value) (p0 : List (Int × Int × Int × Int)) (p1 : Int) (p2 : Int) (p3 : Int) (r : Int × Bool × (List (Int × Int × Int × Int))) (H : Cc p0 p1 p2 p3 = some r) (hL : Stw ⟨Y, X, w0⟩ [] [row v1 70 A4 p0] w0) :
    Calls Try.prog 63 #[v1, .int .i64 p1, .int .i64 p2, .int .i64 p3, .func (.func 26) #[] #[]] w0 fun e w' => ∃ x : Unit, e = .returned (.tuple #[.int .i64 r.1, .bool r.2.1]) ∧ Stw ⟨Y, X, w0⟩ [] [row v1 70 A4 r.2.2] w' := by
 refine enter Try.func63 Aa Try.ntmps63 Aa fun a F => ?_
 have W := hL
 unfold Cc at H
 refine Ah (Ac ?_)
 iterate 2 refine ls F W Aa (Af F Aa).q fun a w F W => ?_
 refine Ae (Ab (Ah ?_))
 refine Ik 13 [2, 3] [0, 1, 4, 5, 6, 7, 8, 9, 10, 11, 12] (fun ch a d v w h => by cases d <;> exact h) W MO (by kernel_rfl) ?_
 iterate 2 refine hm F Aa Aa Aa fun a F => ?_
 refine JA ?_
 iterate 4 refine hs F Aa Aa Aa (Ad F Aa).q fun a F => ?_
 obtain ⟨x1, h1, H⟩ := Ak H
 refine hs F Aa Aa Aa (AC (r := A4) En F Aa Aa (Aj 0 Aa) h1).q fun a F => ?_
 refine hs F Aa Aa Aa (Ao (y := Value.agg #[.int .i64 x1.1, .int .i64 x1.2.1, .int .i64 x1.2.2.1, .int .i64 x1.2.2.2]) (j := 0) (i := p3) F Aa Aa (Aj 0 Aa) h1 Ep.to Ee Aa).q fun a F => ?_
 iterate 2 refine hs F Aa Aa Aa (Ad F Aa).q fun a F => ?_
 obtain ⟨x2, h2, H⟩ := Ak H
 refine hs F Aa Aa Aa (AC (r := A4) En F Aa Aa (Aj 0 Aa) h2).q fun a F => ?_
 refine hs F Aa Aa Aa (Ao (y := Value.agg #[.int .i64 x2.1, .int .i64 x2.2.1, .int .i64 x2.2.2.1, .int .i64 x2.2.2.2]) (j := 0) (i := p1) F Aa Aa (Aj 0 Aa) h2 Ep.to Ee Aa).q fun a F => ?_
 obtain ⟨x3, h3, H⟩ := Ak H
 refine hs F Aa Aa Aa (AC (r := A4) En F Aa Aa (Aj 0 Aa) h3).q fun a F => ?_
 refine Lx fun w W => ?_
 have W : Stw ⟨Y, X, w0⟩ [] [row v1 70 A4 p0] w := W
 refine A8 (i := p1) (j := 0) (vs := [.int .i64 x1.1, .int .i64 x1.2.1, .int .i64 x1.2.2.1, .int .i64 x1.2.2.2]) (x' := x1) F W Aa Aa Aa (k := 0) Aa Aa h3 Ee Aa Aa Aa Aa (fun A cs _ => Ep.sto (by rfl) _ _ _) fun w W => ?_
 obtain ⟨x4, h4, H⟩ := Ak H
 refine ls F W Aa (AC (r := A4) En F Aa Aa (Aj 0 Aa) h4).q fun a w F W => ?_
 refine A8 (i := p3) (j := 0) (vs := [.int .i64 x2.1, .int .i64 x2.2.1, .int .i64 x2.2.2.1, .int .i64 x2.2.2.2]) (x' := x2) F W Aa Aa Aa (k := 0) Aa Aa h4 Ee Aa Aa Aa Aa (fun A cs _ => Ep.sto (by rfl) _ _ _) fun w W => ?_
 refine Ae (Ab (Ah (Ac ?_)))
 refine ls F W Aa (Ad F Aa).q fun a w F W => ?_
 refine ls F W Aa (Bp F Aa Aa Aa).q fun a w F W => ?_
 refine ls F W Aa (Ad F Aa).q fun a w F W => ?_
 refine ls F W Aa (B9 F Aa Aa Aa).q fun a w F W => ?_
 iterate 2 refine ls F W Aa (Af F Aa).q fun a w F W => ?_
 refine Ae (Ab ?_)
 obtain ⟨o1, G1, K1⟩ := Ak H
 refine AK (fun a w => ∃ x5 : Int, some (x5) = some o1 ∧ Fr 178 [] [(0, v1), (1, .int .i64 p1), (4, .func (.func 26) #[] #[]), (10, .int .i64 0), (11, .bool false), (12, .int .i64 x5), (13, .int .i64 (Az (p2 - 1)))] a ∧ Stw ⟨Y, X, w0⟩ [] [row v1 70 A4 (AE (AE p0 p1 x1) p3 x2)] w) ?_ ?_
 ·
  have H := G1
  clear G1 K1
  refine As ?_
  refine Bh H (fun s a w => Fr 178 [] [(0, v1), (1, .int .i64 p1), (4, .func (.func 26) #[] #[]), (10, .int .i64 0), (11, .bool false), (12, .int .i64 s), (13, .int .i64 (Az (p2 - 1)))] a ∧ Stw ⟨Y, X, w0⟩ [] [row v1 70 A4 (AE (AE p0 p1 x1) p3 x2)] w) ⟨F.re ⟨rfl, Aa, Aa, Aa, Aa, Aa, Aa, trivial⟩, W⟩ fun s o a w H L2 hR => ?_
  obtain ⟨x6, rfl⟩ : ∃ x, x = s := ⟨s, rfl⟩
  obtain ⟨F, W⟩ := hR
  have F : Fr 178 [] [(0, v1), (1, .int .i64 p1), (4, .func (.func 26) #[] #[]), (10, .int .i64 0), (11, .bool false), (12, .int .i64 x6), (13, .int .i64 (Az (p2 - 1)))] a := F
  have W : Stw ⟨Y, X, w0⟩ [] [row v1 70 A4 (AE (AE p0 p1 x1) p3 x2)] w := W
  rw [BT] at H
  refine Ah ?_
  obtain ⟨o3, G3, K3⟩ := Ak H
  refine AK (fun a w => ∃ x7 : Bool, some (x7) = some o3 ∧ Fr 178 [] [(0, v1), (1, .int .i64 p1), (4, .func (.func 26) #[] #[]), (10, .int .i64 0), (11, .bool false), (12, .int .i64 x6), (13, .int .i64 (Az (p2 - 1))), (47, .bool x7)] a ∧ Stw ⟨Y, X, w0⟩ [] [row v1 70 A4 (AE (AE p0 p1 x1) p3 x2)] w) ?_ ?_
  ·
   have H := G3
   clear G3 K3
   refine BS W MO (by kernel_rfl) ?_
   iterate 2 refine qs F Aa (Ad F Aa).q fun a F => ?_
   refine qs F Aa (Im F Aa Aa).q fun a F => ?_
   refine qs F Aa (Ad F Aa).q fun a F => ?_
   rcases Bool.eq_false_or_eq_true (decide (x6 ≤ (Az (p2 - 1)))) with hb | hb
   ·
    have H := AP (Bm hb) H
    rw [hb] at F
    clear hb
    iterate 3 refine BM F (Ag F Aa Aa Aa Aa) Aa (An Aa) (Ad F Aa).q fun a F => ?_
    obtain ⟨x8, h5, H⟩ := Ak H
    refine BM F (Ag F Aa Aa Aa Aa) Aa (An Aa) (AC (r := A4) En F Aa Aa (Aj 0 Aa) h5).q fun a F => ?_
    refine BM F (Ag F Aa Aa Aa Aa) Aa (An Aa) (Ao (y := Value.agg #[.int .i64 x8.1, .int .i64 x8.2.1, .int .i64 x8.2.2.1, .int .i64 x8.2.2.2]) (j := 0) (i := x6) F Aa Aa (Aj 0 Aa) h5 Ep.to Ee Aa).q fun a F => ?_
    iterate 2 refine BM F (Ag F Aa Aa Aa Aa) Aa (An Aa) (Ad F Aa).q fun a F => ?_
    obtain ⟨x9, h6, H⟩ := Ak H
    refine BM F (Ag F Aa Aa Aa Aa) Aa (An Aa) (AC (r := A4) En F Aa Aa (Aj 0 Aa) h6).q fun a F => ?_
    refine BM F (Ag F Aa Aa Aa Aa) Aa (An Aa) (Ao (y := Value.agg #[.int .i64 x9.1, .int .i64 x9.2.1, .int .i64 x9.2.2.1, .int .i64 x9.2.2.2]) (j := 0) (i := p1) F Aa Aa (Aj 0 Aa) h6 Ep.to Ee Aa).q fun a F => ?_
    obtain ⟨x10, h7, H⟩ := Ak H
    refine BM F (Ag F Aa Aa Aa Aa) Aa (An Aa) (EO (ws := [.agg #[.int .i64 x8.1, .int .i64 x8.2.1, .int .i64 x8.2.2.1, .int .i64 x8.2.2.2], .agg #[.int .i64 x9.1, .int .i64 x9.2.1, .int .i64 x9.2.2.1, .int .i64 x9.2.2.2]]) (v := Value.int .i64 x10) F Px Aa (fun w W => Cn any w x8 x9 _ h7)) fun a F => ?_
    refine BM F (Ag F Aa Aa Aa Aa) Aa (An Aa) (BI F Aa Aa).q fun a F => ?_
    refine qs F Aa (Av F Aa Aa Aa).q fun a F => ?_
    refine A0 fun w W => ?_
    refine Ab ?_
    exact ⟨_, H, F.re ⟨rfl, Aa, Aa, Aa, Aa, Aa, Aa, Aa, trivial⟩, W⟩
   have H := AO (Bn hb) H
   rw [hb] at F
   clear hb
   iterate 11 refine D7 F (CJ F Aa Aa Aa Aa Aa) Aa Aa fun a F => ?_
   refine qs F Aa (Ax F Aa Aa Aa).q fun a F => ?_
   refine A0 fun w W => ?_
   refine Ab ?_
   exact ⟨_, H, F.re ⟨rfl, Aa, Aa, Aa, Aa, Aa, Aa, Aa, trivial⟩, W⟩
  rintro a w ⟨x7, hj, F, W⟩
  have hj := AQ hj
  subst hj
  have H := K3
  clear G3 K3
  refine Ay F Aa (fun hb => ?_) fun hb => ?_
  ·
   have H := AP hb H
   rw [hb] at F
   clear hb
   refine Aq (Ab (As (Ac ?_)))
   refine ls F W Aa (Ad F Aa).q fun a w F W => ?_
   refine ls F W Aa (Bp F Aa Aa Aa).q fun a w F W => ?_
   refine ls F W Aa (Af F Aa).q fun a w F W => ?_
   refine Ae (AM (Ab ?_))
   exact ⟨_, H, F.re ⟨rfl, Aa, Aa, Aa, Aa, Aa, Aa, trivial⟩, W⟩
  have H := AO (by rw [hb]; decide) H
  rw [hb] at F
  clear hb
  refine A5 ?_
  iterate 2 refine Bk ?_
  refine A6 (Ab ?_)
  have H := L2 _ H
  exact ⟨_, H, F.re ⟨rfl, Aa, Aa, Aa, Aa, Aa, Aa, trivial⟩, W⟩
 rintro a w ⟨x5, hj, F, W⟩
 have hj := AQ hj
 subst hj
 have H := K1
 clear G1 K1
 obtain ⟨o4, G4, K4⟩ := Ak H
 refine AK (fun a w => ∃ x11 : Int, some (x11) = some o4 ∧ Fr 178 [] [(0, v1), (1, .int .i64 p1), (4, .func (.func 26) #[] #[]), (10, .int .i64 0), (11, .bool false), (12, .int .i64 x5), (13, .int .i64 x11)] a ∧ Stw ⟨Y, X, w0⟩ [] [row v1 70 A4 (AE (AE p0 p1 x1) p3 x2)] w) ?_ ?_
 ·
  have H := G4
  clear G4 K4
  refine As ?_
  refine Bh H (fun s a w => Fr 178 [] [(0, v1), (1, .int .i64 p1), (4, .func (.func 26) #[] #[]), (10, .int .i64 0), (11, .bool false), (12, .int .i64 x5), (13, .int .i64 s)] a ∧ Stw ⟨Y, X, w0⟩ [] [row v1 70 A4 (AE (AE p0 p1 x1) p3 x2)] w) ⟨F.re ⟨rfl, Aa, Aa, Aa, Aa, Aa, Aa, trivial⟩, W⟩ fun s o a w H L5 hR => ?_
  obtain ⟨x12, rfl⟩ : ∃ x, x = s := ⟨s, rfl⟩
  obtain ⟨F, W⟩ := hR
  have F : Fr 178 [] [(0, v1), (1, .int .i64 p1), (4, .func (.func 26) #[] #[]), (10, .int .i64 0), (11, .bool false), (12, .int .i64 x5), (13, .int .i64 x12)] a := F
  have W : Stw ⟨Y, X, w0⟩ [] [row v1 70 A4 (AE (AE p0 p1 x1) p3 x2)] w := W
  rw [Cj] at H
  refine Ah ?_
  obtain ⟨o6, G6, K6⟩ := Ak H
  refine AK (fun a w => ∃ x13 : Bool, some (x13) = some o6 ∧ Fr 178 [] [(0, v1), (1, .int .i64 p1), (4, .func (.func 26) #[] #[]), (10, .int .i64 0), (11, .bool false), (12, .int .i64 x5), (13, .int .i64 x12), (66, .bool x13)] a ∧ Stw ⟨Y, X, w0⟩ [] [row v1 70 A4 (AE (AE p0 p1 x1) p3 x2)] w) ?_ ?_
  ·
   have H := G6
   clear G6 K6
   refine BS W MO (by kernel_rfl) ?_
   iterate 2 refine qs F Aa (Ad F Aa).q fun a F => ?_
   refine qs F Aa (Im F Aa Aa).q fun a F => ?_
   refine qs F Aa (Ad F Aa).q fun a F => ?_
   rcases Bool.eq_false_or_eq_true (decide (x5 ≤ x12)) with hb | hb
   ·
    have H := AP (Bm hb) H
    rw [hb] at F
    clear hb
    iterate 3 refine BM F (Ag F Aa Aa Aa Aa) Aa (An Aa) (Ad F Aa).q fun a F => ?_
    obtain ⟨x14, h8, H⟩ := Ak H
    refine BM F (Ag F Aa Aa Aa Aa) Aa (An Aa) (AC (r := A4) En F Aa Aa (Aj 0 Aa) h8).q fun a F => ?_
    refine BM F (Ag F Aa Aa Aa Aa) Aa (An Aa) (Ao (y := Value.agg #[.int .i64 x14.1, .int .i64 x14.2.1, .int .i64 x14.2.2.1, .int .i64 x14.2.2.2]) (j := 0) (i := x12) F Aa Aa (Aj 0 Aa) h8 Ep.to Ee Aa).q fun a F => ?_
    iterate 2 refine BM F (Ag F Aa Aa Aa Aa) Aa (An Aa) (Ad F Aa).q fun a F => ?_
    obtain ⟨x15, h9, H⟩ := Ak H
    refine BM F (Ag F Aa Aa Aa Aa) Aa (An Aa) (AC (r := A4) En F Aa Aa (Aj 0 Aa) h9).q fun a F => ?_
    refine BM F (Ag F Aa Aa Aa Aa) Aa (An Aa) (Ao (y := Value.agg #[.int .i64 x15.1, .int .i64 x15.2.1, .int .i64 x15.2.2.1, .int .i64 x15.2.2.2]) (j := 0) (i := p1) F Aa Aa (Aj 0 Aa) h9 Ep.to Ee Aa).q fun a F => ?_
    obtain ⟨x16, h10, H⟩ := Ak H
    refine BM F (Ag F Aa Aa Aa Aa) Aa (An Aa) (EO (ws := [.agg #[.int .i64 x14.1, .int .i64 x14.2.1, .int .i64 x14.2.2.1, .int .i64 x14.2.2.2], .agg #[.int .i64 x15.1, .int .i64 x15.2.1, .int .i64 x15.2.2.1, .int .i64 x15.2.2.2]]) (v := Value.int .i64 x16) F Px Aa (fun w W => Cn any w x14 x15 _ h10)) fun a F => ?_
    refine BM F (Ag F Aa Aa Aa Aa) Aa (An Aa) (BI F Aa Aa).q fun a F => ?_
    refine BM F (Ag F Aa Aa Aa Aa) Aa (An Aa) (ED F Aa).q fun a F => ?_
    refine qs F Aa (Av F Aa Aa Aa).q fun a F => ?_
    refine A0 fun w W => ?_
    refine Ab ?_
    exact ⟨_, H, F.re ⟨rfl, Aa, Aa, Aa, Aa, Aa, Aa, Aa, trivial⟩, W⟩
   have H := AO (Bn hb) H
   rw [hb] at F
   clear hb
   iterate 12 refine D7 F (CJ F Aa Aa Aa Aa Aa) Aa Aa fun a F => ?_
   refine qs F Aa (Ax F Aa Aa Aa).q fun a F => ?_
   refine A0 fun w W => ?_
   refine Ab ?_
   exact ⟨_, H, F.re ⟨rfl, Aa, Aa, Aa, Aa, Aa, Aa, Aa, trivial⟩, W⟩
  rintro a w ⟨x13, hj, F, W⟩
  have hj := AQ hj
  subst hj
  have H := K6
  clear G6 K6
  refine Ay F Aa (fun hb => ?_) fun hb => ?_
  ·
   have H := AP hb H
   rw [hb] at F
   clear hb
   refine Aq (Ab (As (Ac ?_)))
   refine ls F W Aa (Ad F Aa).q fun a w F W => ?_
   refine ls F W Aa (B9 F Aa Aa Aa).q fun a w F W => ?_
   refine ls F W Aa (Af F Aa).q fun a w F W => ?_
   refine Ae (AM (Ab ?_))
   exact ⟨_, H, F.re ⟨rfl, Aa, Aa, Aa, Aa, Aa, Aa, trivial⟩, W⟩
  have H := AO (by rw [hb]; decide) H
  rw [hb] at F
  clear hb
  refine A5 ?_
  iterate 2 refine Bk ?_
  refine A6 (Ab ?_)
  have H := L5 _ H
  exact ⟨_, H, F.re ⟨rfl, Aa, Aa, Aa, Aa, Aa, Aa, trivial⟩, W⟩
 rintro a w ⟨x11, hj, F, W⟩
 have hj := AQ hj
 subst hj
 have H := K4
 clear G4 K4
 refine Ah (Ah (Ac ?_))
 iterate 2 refine ls F W Aa (Ad F Aa).q fun a w F W => ?_
 refine ls F W Aa (FZ F Aa Aa).q fun a w F W => ?_
 refine Ae (Ab ?_)
 refine Ay F Aa (fun hb => ?_) fun hb => ?_
 ·
  have H := AP (Bm hb) H
  rw [hb] at F
  clear hb
  refine Ah ?_
  refine Ik 13 [2, 3] [0, 1, 4, 5, 6, 7, 8, 9, 10, 11, 12] (fun ch a d v w h => by cases d <;> exact h) W MO (by kernel_rfl) ?_
  iterate 2 refine hm F Aa Aa Aa fun a F => ?_
  refine JA ?_
  iterate 4 refine hs F Aa Aa Aa (Ad F Aa).q fun a F => ?_
  obtain ⟨x17, h11, H⟩ := Ak H
  refine hs F Aa Aa Aa (AC (r := A4) En F Aa Aa (Aj 0 Aa) h11).q fun a F => ?_
  refine hs F Aa Aa Aa (Ao (y := Value.agg #[.int .i64 x17.1, .int .i64 x17.2.1, .int .i64 x17.2.2.1, .int .i64 x17.2.2.2]) (j := 0) (i := p1) F Aa Aa (Aj 0 Aa) h11 Ep.to Ee Aa).q fun a F => ?_
  iterate 2 refine hs F Aa Aa Aa (Ad F Aa).q fun a F => ?_
  obtain ⟨x18, h12, H⟩ := Ak H
  refine hs F Aa Aa Aa (AC (r := A4) En F Aa Aa (Aj 0 Aa) h12).q fun a F => ?_
  refine hs F Aa Aa Aa (Ao (y := Value.agg #[.int .i64 x18.1, .int .i64 x18.2.1, .int .i64 x18.2.2.1, .int .i64 x18.2.2.2]) (j := 0) (i := x11) F Aa Aa (Aj 0 Aa) h12 Ep.to Ee Aa).q fun a F => ?_
  obtain ⟨x19, h13, H⟩ := Ak H
  refine hs F Aa Aa Aa (AC (r := A4) En F Aa Aa (Aj 0 Aa) h13).q fun a F => ?_
  refine Lx fun w W => ?_
  have W : Stw ⟨Y, X, w0⟩ [] [row v1 70 A4 (AE (AE p0 p1 x1) p3 x2)] w := W
  refine A8 (i := x11) (j := 0) (vs := [.int .i64 x17.1, .int .i64 x17.2.1, .int .i64 x17.2.2.1, .int .i64 x17.2.2.2]) (x' := x17) F W Aa Aa Aa (k := 0) Aa Aa h13 Ee Aa Aa Aa Aa (fun A cs _ => Ep.sto (by rfl) _ _ _) fun w W => ?_
  obtain ⟨x20, h14, H⟩ := Ak H
  refine ls F W Aa (AC (r := A4) En F Aa Aa (Aj 0 Aa) h14).q fun a w F W => ?_
  refine A8 (i := p1) (j := 0) (vs := [.int .i64 x18.1, .int .i64 x18.2.1, .int .i64 x18.2.2.1, .int .i64 x18.2.2.2]) (x' := x18) F W Aa Aa Aa (k := 0) Aa Aa h14 Ee Aa Aa Aa Aa (fun A cs _ => Ep.sto (by rfl) _ _ _) fun w W => ?_
  refine Ae (Ab (Ah (Ac ?_)))
  refine ls F W Aa (Ad F Aa).q fun a w F W => ?_
  iterate 2 refine ls F W Aa (Af F Aa).q fun a w F W => ?_
  refine Ae (Ab (AF (AN ?_)))
  have H := AQ H
  subst H
  refine EU (.inl Aa) F W Aa (AD F Aa) (AD F Aa) ?_
  exact ⟨(), Aa, W⟩
 have H := AO (Bn hb) H
 rw [hb] at F
 clear hb
 refine Aq (Ab (Ah ?_))
 refine Ik 13 [2, 3] [0, 1, 4, 5, 6, 7, 8, 9, 10, 11, 12] (fun ch a d v w h => by cases d <;> exact h) W MO (by kernel_rfl) ?_
 iterate 2 refine hm F Aa Aa Aa fun a F => ?_
 refine JA ?_
 iterate 4 refine hs F Aa Aa Aa (Ad F Aa).q fun a F => ?_
 obtain ⟨x21, h15, H⟩ := Ak H
 refine hs F Aa Aa Aa (AC (r := A4) En F Aa Aa (Aj 0 Aa) h15).q fun a F => ?_
 refine hs F Aa Aa Aa (Ao (y := Value.agg #[.int .i64 x21.1, .int .i64 x21.2.1, .int .i64 x21.2.2.1, .int .i64 x21.2.2.2]) (j := 0) (i := x11) F Aa Aa (Aj 0 Aa) h15 Ep.to Ee Aa).q fun a F => ?_
 iterate 2 refine hs F Aa Aa Aa (Ad F Aa).q fun a F => ?_
 obtain ⟨x22, h16, H⟩ := Ak H
 refine hs F Aa Aa Aa (AC (r := A4) En F Aa Aa (Aj 0 Aa) h16).q fun a F => ?_
 refine hs F Aa Aa Aa (Ao (y := Value.agg #[.int .i64 x22.1, .int .i64 x22.2.1, .int .i64 x22.2.2.1, .int .i64 x22.2.2.2]) (j := 0) (i := x5) F Aa Aa (Aj 0 Aa) h16 Ep.to Ee Aa).q fun a F => ?_
 obtain ⟨x23, h17, H⟩ := Ak H
 refine hs F Aa Aa Aa (AC (r := A4) En F Aa Aa (Aj 0 Aa) h17).q fun a F => ?_
 refine Lx fun w W => ?_
 have W : Stw ⟨Y, X, w0⟩ [] [row v1 70 A4 (AE (AE p0 p1 x1) p3 x2)] w := W
 refine A8 (i := x5) (j := 0) (vs := [.int .i64 x21.1, .int .i64 x21.2.1, .int .i64 x21.2.2.1, .int .i64 x21.2.2.2]) (x' := x21) F W Aa Aa Aa (k := 0) Aa Aa h17 Ee Aa Aa Aa Aa (fun A cs _ => Ep.sto (by rfl) _ _ _) fun w W => ?_
 obtain ⟨x24, h18, H⟩ := Ak H
 refine ls F W Aa (AC (r := A4) En F Aa Aa (Aj 0 Aa) h18).q fun a w F W => ?_
 refine A8 (i := x11) (j := 0) (vs := [.int .i64 x22.1, .int .i64 x22.2.1, .int .i64 x22.2.2.1, .int .i64 x22.2.2.2]) (x' := x22) F W Aa Aa Aa (k := 0) Aa Aa h18 Ee Aa Aa Aa Aa (fun A cs _ => Ep.sto (by rfl) _ _ _) fun w W => ?_
 refine Ae (Ab (Ah (Ac ?_)))
 refine ls F W Aa (Ad F Aa).q fun a w F W => ?_
 refine ls F W Aa (Bp F Aa Aa Aa).q fun a w F W => ?_
 refine ls F W Aa (Af F Aa).q fun a w F W => ?_
 refine Ae (Ab (Ah (Ac ?_)))
 refine ls F W Aa (Ad F Aa).q fun a w F W => ?_
 refine ls F W Aa (B9 F Aa Aa Aa).q fun a w F W => ?_
 refine ls F W Aa (Af F Aa).q fun a w F W => ?_
 refine Ae (Ab ?_)
 obtain ⟨o7, G7, K7⟩ := Ak H
 refine AK (fun a w => ∃ x25 : List (Int × Int × Int × Int), ∃ x26 : Int, some ((x25, x26)) = some o7 ∧ Fr 178 [] [(0, v1), (1, .int .i64 p1), (10, .int .i64 0), (11, .bool false), (13, .int .i64 x26)] a ∧ Stw ⟨Y, X, w0⟩ [] [row v1 70 A4 x25] w) ?_ ?_
 ·
  have H := G7
  clear G7 K7
  refine As ?_
  refine Bh H (fun s a w => Fr 178 [] [(0, v1), (1, .int .i64 p1), (4, .func (.func 26) #[] #[]), (10, .int .i64 0), (11, .bool false), (12, .int .i64 s.2.1), (13, .int .i64 s.2.2)] a ∧ Stw ⟨Y, X, w0⟩ [] [row v1 70 A4 s.1] w) ⟨F.re ⟨rfl, Aa, Aa, Aa, Aa, Aa, Aa, trivial⟩, W⟩ fun s o a w H L8 hR => ?_
  obtain ⟨x27, x28, x29⟩ := s
  obtain ⟨F, W⟩ := hR
  have F : Fr 178 [] [(0, v1), (1, .int .i64 p1), (4, .func (.func 26) #[] #[]), (10, .int .i64 0), (11, .bool false), (12, .int .i64 x28), (13, .int .i64 x29)] a := F
  have W : Stw ⟨Y, X, w0⟩ [] [row v1 70 A4 x27] w := W
  rw [BB] at H
  refine As ?_
  obtain ⟨o9, G9, K9⟩ := Ak H
  refine AK (fun a w => ∃ x30 : Int, some (x30) = some o9 ∧ Fr 178 [] [(0, v1), (1, .int .i64 p1), (4, .func (.func 26) #[] #[]), (10, .int .i64 0), (11, .bool false), (12, .int .i64 x30), (13, .int .i64 x29)] a ∧ Stw ⟨Y, X, w0⟩ [] [row v1 70 A4 x27] w) ?_ ?_
  ·
   have H := G9
   clear G9 K9
   refine As ?_
   refine Bh H (fun s a w => Fr 178 [] [(0, v1), (1, .int .i64 p1), (4, .func (.func 26) #[] #[]), (10, .int .i64 0), (11, .bool false), (12, .int .i64 s), (13, .int .i64 x29)] a ∧ Stw ⟨Y, X, w0⟩ [] [row v1 70 A4 x27] w) ⟨F.re ⟨rfl, Aa, Aa, Aa, Aa, Aa, Aa, trivial⟩, W⟩ fun s o a w H L10 hR => ?_
   obtain ⟨x31, rfl⟩ : ∃ x, x = s := ⟨s, rfl⟩
   obtain ⟨F, W⟩ := hR
   have F : Fr 178 [] [(0, v1), (1, .int .i64 p1), (4, .func (.func 26) #[] #[]), (10, .int .i64 0), (11, .bool false), (12, .int .i64 x31), (13, .int .i64 x29)] a := F
   have W : Stw ⟨Y, X, w0⟩ [] [row v1 70 A4 x27] w := W
   rw [Ch] at H
   refine Ah ?_
   obtain ⟨o11, G11, K11⟩ := Ak H
   refine AK (fun a w => ∃ x32 : Bool, some (x32) = some o11 ∧ Fr 178 [] [(0, v1), (1, .int .i64 p1), (4, .func (.func 26) #[] #[]), (10, .int .i64 0), (11, .bool false), (12, .int .i64 x31), (13, .int .i64 x29), (120, .bool x32)] a ∧ Stw ⟨Y, X, w0⟩ [] [row v1 70 A4 x27] w) ?_ ?_
   ·
    have H := G11
    clear G11 K11
    refine BS W MO (by kernel_rfl) ?_
    iterate 2 refine qs F Aa (Ad F Aa).q fun a F => ?_
    refine qs F Aa (Im F Aa Aa).q fun a F => ?_
    refine qs F Aa (Ad F Aa).q fun a F => ?_
    rcases Bool.eq_false_or_eq_true (decide (x31 ≤ x29)) with hb | hb
    ·
     have H := AP (Bm hb) H
     rw [hb] at F
     clear hb
     iterate 3 refine BM F (Ag F Aa Aa Aa Aa) Aa (An Aa) (Ad F Aa).q fun a F => ?_
     obtain ⟨x33, h19, H⟩ := Ak H
     refine BM F (Ag F Aa Aa Aa Aa) Aa (An Aa) (AC (r := A4) En F Aa Aa (Aj 0 Aa) h19).q fun a F => ?_
     refine BM F (Ag F Aa Aa Aa Aa) Aa (An Aa) (Ao (y := Value.agg #[.int .i64 x33.1, .int .i64 x33.2.1, .int .i64 x33.2.2.1, .int .i64 x33.2.2.2]) (j := 0) (i := x31) F Aa Aa (Aj 0 Aa) h19 Ep.to Ee Aa).q fun a F => ?_
     iterate 2 refine BM F (Ag F Aa Aa Aa Aa) Aa (An Aa) (Ad F Aa).q fun a F => ?_
     obtain ⟨x34, h20, H⟩ := Ak H
     refine BM F (Ag F Aa Aa Aa Aa) Aa (An Aa) (AC (r := A4) En F Aa Aa (Aj 0 Aa) h20).q fun a F => ?_
     refine BM F (Ag F Aa Aa Aa Aa) Aa (An Aa) (Ao (y := Value.agg #[.int .i64 x34.1, .int .i64 x34.2.1, .int .i64 x34.2.2.1, .int .i64 x34.2.2.2]) (j := 0) (i := p1) F Aa Aa (Aj 0 Aa) h20 Ep.to Ee Aa).q fun a F => ?_
     obtain ⟨x35, h21, H⟩ := Ak H
     refine BM F (Ag F Aa Aa Aa Aa) Aa (An Aa) (EO (ws := [.agg #[.int .i64 x33.1, .int .i64 x33.2.1, .int .i64 x33.2.2.1, .int .i64 x33.2.2.2], .agg #[.int .i64 x34.1, .int .i64 x34.2.1, .int .i64 x34.2.2.1, .int .i64 x34.2.2.2]]) (v := Value.int .i64 x35) F Px Aa (fun w W => Cn any w x33 x34 _ h21)) fun a F => ?_
     refine BM F (Ag F Aa Aa Aa Aa) Aa (An Aa) (BI F Aa Aa).q fun a F => ?_
     refine qs F Aa (Av F Aa Aa Aa).q fun a F => ?_
     refine A0 fun w W => ?_
     refine Ab ?_
     exact ⟨_, H, F.re ⟨rfl, Aa, Aa, Aa, Aa, Aa, Aa, Aa, trivial⟩, W⟩
    have H := AO (Bn hb) H
    rw [hb] at F
    clear hb
    iterate 11 refine D7 F (CJ F Aa Aa Aa Aa Aa) Aa Aa fun a F => ?_
    refine qs F Aa (Ax F Aa Aa Aa).q fun a F => ?_
    refine A0 fun w W => ?_
    refine Ab ?_
    exact ⟨_, H, F.re ⟨rfl, Aa, Aa, Aa, Aa, Aa, Aa, Aa, trivial⟩, W⟩
   rintro a w ⟨x32, hj, F, W⟩
   have hj := AQ hj
   subst hj
   have H := K11
   clear G11 K11
   refine Ay F Aa (fun hb => ?_) fun hb => ?_
   ·
    have H := AP hb H
    rw [hb] at F
    clear hb
    refine Aq (Ab (As (Ac ?_)))
    refine ls F W Aa (Ad F Aa).q fun a w F W => ?_
    refine ls F W Aa (Bp F Aa Aa Aa).q fun a w F W => ?_
    refine ls F W Aa (Af F Aa).q fun a w F W => ?_
    refine Ae (AM (Ab ?_))
    exact ⟨_, H, F.re ⟨rfl, Aa, Aa, Aa, Aa, Aa, Aa, trivial⟩, W⟩
   have H := AO (by rw [hb]; decide) H
   rw [hb] at F
   clear hb
   refine A5 ?_
   iterate 2 refine Bk ?_
   refine A6 (Ab ?_)
   have H := L10 _ H
   exact ⟨_, H, F.re ⟨rfl, Aa, Aa, Aa, Aa, Aa, Aa, trivial⟩, W⟩
  rintro a w ⟨x30, hj, F, W⟩
  have hj := AQ hj
  subst hj
  have H := K9
  clear G9 K9
  obtain ⟨o12, G12, K12⟩ := Ak H
  refine AK (fun a w => ∃ x36 : Int, some (x36) = some o12 ∧ Fr 178 [] [(0, v1), (1, .int .i64 p1), (4, .func (.func 26) #[] #[]), (10, .int .i64 0), (11, .bool false), (12, .int .i64 x30), (13, .int .i64 x36)] a ∧ Stw ⟨Y, X, w0⟩ [] [row v1 70 A4 x27] w) ?_ ?_
  ·
   have H := G12
   clear G12 K12
   refine As ?_
   refine Bh H (fun s a w => Fr 178 [] [(0, v1), (1, .int .i64 p1), (4, .func (.func 26) #[] #[]), (10, .int .i64 0), (11, .bool false), (12, .int .i64 x30), (13, .int .i64 s)] a ∧ Stw ⟨Y, X, w0⟩ [] [row v1 70 A4 x27] w) ⟨F.re ⟨rfl, Aa, Aa, Aa, Aa, Aa, Aa, trivial⟩, W⟩ fun s o a w H L13 hR => ?_
   obtain ⟨x37, rfl⟩ : ∃ x, x = s := ⟨s, rfl⟩
   obtain ⟨F, W⟩ := hR
   have F : Fr 178 [] [(0, v1), (1, .int .i64 p1), (4, .func (.func 26) #[] #[]), (10, .int .i64 0), (11, .bool false), (12, .int .i64 x30), (13, .int .i64 x37)] a := F
   have W : Stw ⟨Y, X, w0⟩ [] [row v1 70 A4 x27] w := W
   rw [Ci] at H
   refine Ah ?_
   obtain ⟨o14, G14, K14⟩ := Ak H
   refine AK (fun a w => ∃ x38 : Bool, some (x38) = some o14 ∧ Fr 178 [] [(0, v1), (1, .int .i64 p1), (4, .func (.func 26) #[] #[]), (10, .int .i64 0), (11, .bool false), (12, .int .i64 x30), (13, .int .i64 x37), (139, .bool x38)] a ∧ Stw ⟨Y, X, w0⟩ [] [row v1 70 A4 x27] w) ?_ ?_
   ·
    have H := G14
    clear G14 K14
    refine BS W MO (by kernel_rfl) ?_
    iterate 2 refine qs F Aa (Ad F Aa).q fun a F => ?_
    refine qs F Aa (Im F Aa Aa).q fun a F => ?_
    refine qs F Aa (Ad F Aa).q fun a F => ?_
    rcases Bool.eq_false_or_eq_true (decide (x30 ≤ x37)) with hb | hb
    ·
     have H := AP (Bm hb) H
     rw [hb] at F
     clear hb
     iterate 3 refine BM F (Ag F Aa Aa Aa Aa) Aa (An Aa) (Ad F Aa).q fun a F => ?_
     obtain ⟨x39, h22, H⟩ := Ak H
     refine BM F (Ag F Aa Aa Aa Aa) Aa (An Aa) (AC (r := A4) En F Aa Aa (Aj 0 Aa) h22).q fun a F => ?_
     refine BM F (Ag F Aa Aa Aa Aa) Aa (An Aa) (Ao (y := Value.agg #[.int .i64 x39.1, .int .i64 x39.2.1, .int .i64 x39.2.2.1, .int .i64 x39.2.2.2]) (j := 0) (i := x37) F Aa Aa (Aj 0 Aa) h22 Ep.to Ee Aa).q fun a F => ?_
     iterate 2 refine BM F (Ag F Aa Aa Aa Aa) Aa (An Aa) (Ad F Aa).q fun a F => ?_
     obtain ⟨x40, h23, H⟩ := Ak H
     refine BM F (Ag F Aa Aa Aa Aa) Aa (An Aa) (AC (r := A4) En F Aa Aa (Aj 0 Aa) h23).q fun a F => ?_
     refine BM F (Ag F Aa Aa Aa Aa) Aa (An Aa) (Ao (y := Value.agg #[.int .i64 x40.1, .int .i64 x40.2.1, .int .i64 x40.2.2.1, .int .i64 x40.2.2.2]) (j := 0) (i := p1) F Aa Aa (Aj 0 Aa) h23 Ep.to Ee Aa).q fun a F => ?_
     obtain ⟨x41, h24, H⟩ := Ak H
     refine BM F (Ag F Aa Aa Aa Aa) Aa (An Aa) (EO (ws := [.agg #[.int .i64 x39.1, .int .i64 x39.2.1, .int .i64 x39.2.2.1, .int .i64 x39.2.2.2], .agg #[.int .i64 x40.1, .int .i64 x40.2.1, .int .i64 x40.2.2.1, .int .i64 x40.2.2.2]]) (v := Value.int .i64 x41) F Px Aa (fun w W => Cn any w x39 x40 _ h24)) fun a F => ?_
     refine BM F (Ag F Aa Aa Aa Aa) Aa (An Aa) (BI F Aa Aa).q fun a F => ?_
     refine BM F (Ag F Aa Aa Aa Aa) Aa (An Aa) (ED F Aa).q fun a F => ?_
     refine qs F Aa (Av F Aa Aa Aa).q fun a F => ?_
     refine A0 fun w W => ?_
     refine Ab ?_
     exact ⟨_, H, F.re ⟨rfl, Aa, Aa, Aa, Aa, Aa, Aa, Aa, trivial⟩, W⟩
    have H := AO (Bn hb) H
    rw [hb] at F
    clear hb
    iterate 12 refine D7 F (CJ F Aa Aa Aa Aa Aa) Aa Aa fun a F => ?_
    refine qs F Aa (Ax F Aa Aa Aa).q fun a F => ?_
    refine A0 fun w W => ?_
    refine Ab ?_
    exact ⟨_, H, F.re ⟨rfl, Aa, Aa, Aa, Aa, Aa, Aa, Aa, trivial⟩, W⟩
   rintro a w ⟨x38, hj, F, W⟩
   have hj := AQ hj
   subst hj
   have H := K14
   clear G14 K14
   refine Ay F Aa (fun hb => ?_) fun hb => ?_
   ·
    have H := AP hb H
    rw [hb] at F
    clear hb
    refine Aq (Ab (As (Ac ?_)))
    refine ls F W Aa (Ad F Aa).q fun a w F W => ?_
    refine ls F W Aa (B9 F Aa Aa Aa).q fun a w F W => ?_
    refine ls F W Aa (Af F Aa).q fun a w F W => ?_
    refine Ae (AM (Ab ?_))
    exact ⟨_, H, F.re ⟨rfl, Aa, Aa, Aa, Aa, Aa, Aa, trivial⟩, W⟩
   have H := AO (by rw [hb]; decide) H
   rw [hb] at F
   clear hb
   refine A5 ?_
   iterate 2 refine Bk ?_
   refine A6 (Ab ?_)
   have H := L13 _ H
   exact ⟨_, H, F.re ⟨rfl, Aa, Aa, Aa, Aa, Aa, Aa, trivial⟩, W⟩
  rintro a w ⟨x36, hj, F, W⟩
  have hj := AQ hj
  subst hj
  have H := K12
  clear G12 K12
  refine Ah (Ah (Ac ?_))
  iterate 2 refine ls F W Aa (Ad F Aa).q fun a w F W => ?_
  refine ls F W Aa (FZ F Aa Aa).q fun a w F W => ?_
  refine Ae (Ab ?_)
  refine Ay F Aa (fun hb => ?_) fun hb => ?_
  ·
   have H := AP (Bm hb) H
   rw [hb] at F
   clear hb
   refine A5 (Bk ?_)
   refine Ib Aa ?_
   refine Bk (A6 (Ab ?_))
   have H := L8 _ H
   exact ⟨_, _, H, F.re ⟨rfl, Aa, Aa, Aa, Aa, trivial⟩, W⟩
  have H := AO (Bn hb) H
  rw [hb] at F
  clear hb
  refine Aq (Ab (Ah ?_))
  refine Ik 13 [2, 3] [0, 1, 4, 5, 6, 7, 8, 9, 10, 11, 12] (fun ch a d v w h => by cases d <;> exact h) W MO (by kernel_rfl) ?_
  iterate 2 refine hm F Aa Aa Aa fun a F => ?_
  refine JA ?_
  iterate 4 refine hs F Aa Aa Aa (Ad F Aa).q fun a F => ?_
  obtain ⟨x42, h25, H⟩ := Ak H
  refine hs F Aa Aa Aa (AC (r := A4) En F Aa Aa (Aj 0 Aa) h25).q fun a F => ?_
  refine hs F Aa Aa Aa (Ao (y := Value.agg #[.int .i64 x42.1, .int .i64 x42.2.1, .int .i64 x42.2.2.1, .int .i64 x42.2.2.2]) (j := 0) (i := x36) F Aa Aa (Aj 0 Aa) h25 Ep.to Ee Aa).q fun a F => ?_
  iterate 2 refine hs F Aa Aa Aa (Ad F Aa).q fun a F => ?_
  obtain ⟨x43, h26, H⟩ := Ak H
  refine hs F Aa Aa Aa (AC (r := A4) En F Aa Aa (Aj 0 Aa) h26).q fun a F => ?_
  refine hs F Aa Aa Aa (Ao (y := Value.agg #[.int .i64 x43.1, .int .i64 x43.2.1, .int .i64 x43.2.2.1, .int .i64 x43.2.2.2]) (j := 0) (i := x30) F Aa Aa (Aj 0 Aa) h26 Ep.to Ee Aa).q fun a F => ?_
  obtain ⟨x44, h27, H⟩ := Ak H
  refine hs F Aa Aa Aa (AC (r := A4) En F Aa Aa (Aj 0 Aa) h27).q fun a F => ?_
  refine Lx fun w W => ?_
  have W : Stw ⟨Y, X, w0⟩ [] [row v1 70 A4 x27] w := W
  refine A8 (i := x30) (j := 0) (vs := [.int .i64 x42.1, .int .i64 x42.2.1, .int .i64 x42.2.2.1, .int .i64 x42.2.2.2]) (x' := x42) F W Aa Aa Aa (k := 0) Aa Aa h27 Ee Aa Aa Aa Aa (fun A cs _ => Ep.sto (by rfl) _ _ _) fun w W => ?_
  obtain ⟨x45, h28, H⟩ := Ak H
  refine ls F W Aa (AC (r := A4) En F Aa Aa (Aj 0 Aa) h28).q fun a w F W => ?_
  refine A8 (i := x36) (j := 0) (vs := [.int .i64 x43.1, .int .i64 x43.2.1, .int .i64 x43.2.2.1, .int .i64 x43.2.2.2]) (x' := x43) F W Aa Aa Aa (k := 0) Aa Aa h28 Ee Aa Aa Aa Aa (fun A cs _ => Ep.sto (by rfl) _ _ _) fun w W => ?_
  refine Ae (Ab (Ah (Ac ?_)))
  refine ls F W Aa (Ad F Aa).q fun a w F W => ?_
  refine ls F W Aa (Bp F Aa Aa Aa).q fun a w F W => ?_
  refine ls F W Aa (Af F Aa).q fun a w F W => ?_
  refine Ae (Ab (Ac ?_))
  refine ls F W Aa (Ad F Aa).q fun a w F W => ?_
  refine ls F W Aa (B9 F Aa Aa Aa).q fun a w F W => ?_
  refine ls F W Aa (Af F Aa).q fun a w F W => ?_
  refine Ae (AM (Ab ?_))
  exact ⟨_, H, F.re ⟨rfl, Aa, Aa, Aa, Aa, Aa, Aa, trivial⟩, W⟩
 rintro a w ⟨x25, x26, hj, F, W⟩
 have hj := AQ hj
 subst hj
 have H := K7
 clear G7 K7
 refine Ah ?_
 refine Ik 13 [2, 3] [0, 1, 4, 5, 6, 7, 8, 9, 10, 11, 12] (fun ch a d v w h => by cases d <;> exact h) W MO (by kernel_rfl) ?_
 iterate 2 refine hm F Aa Aa Aa fun a F => ?_
 refine JA ?_
 iterate 4 refine hs F Aa Aa Aa (Ad F Aa).q fun a F => ?_
 obtain ⟨x46, h29, H⟩ := Ak H
 refine hs F Aa Aa Aa (AC (r := A4) En F Aa Aa (Aj 0 Aa) h29).q fun a F => ?_
 refine hs F Aa Aa Aa (Ao (y := Value.agg #[.int .i64 x46.1, .int .i64 x46.2.1, .int .i64 x46.2.2.1, .int .i64 x46.2.2.2]) (j := 0) (i := p1) F Aa Aa (Aj 0 Aa) h29 Ep.to Ee Aa).q fun a F => ?_
 iterate 2 refine hs F Aa Aa Aa (Ad F Aa).q fun a F => ?_
 obtain ⟨x47, h30, H⟩ := Ak H
 refine hs F Aa Aa Aa (AC (r := A4) En F Aa Aa (Aj 0 Aa) h30).q fun a F => ?_
 refine hs F Aa Aa Aa (Ao (y := Value.agg #[.int .i64 x47.1, .int .i64 x47.2.1, .int .i64 x47.2.2.1, .int .i64 x47.2.2.2]) (j := 0) (i := x26) F Aa Aa (Aj 0 Aa) h30 Ep.to Ee Aa).q fun a F => ?_
 obtain ⟨x48, h31, H⟩ := Ak H
 refine hs F Aa Aa Aa (AC (r := A4) En F Aa Aa (Aj 0 Aa) h31).q fun a F => ?_
 refine Lx fun w W => ?_
 have W : Stw ⟨Y, X, w0⟩ [] [row v1 70 A4 x25] w := W
 refine A8 (i := x26) (j := 0) (vs := [.int .i64 x46.1, .int .i64 x46.2.1, .int .i64 x46.2.2.1, .int .i64 x46.2.2.2]) (x' := x46) F W Aa Aa Aa (k := 0) Aa Aa h31 Ee Aa Aa Aa Aa (fun A cs _ => Ep.sto (by rfl) _ _ _) fun w W => ?_
 obtain ⟨x49, h32, H⟩ := Ak H
 refine ls F W Aa (AC (r := A4) En F Aa Aa (Aj 0 Aa) h32).q fun a w F W => ?_
 refine A8 (i := p1) (j := 0) (vs := [.int .i64 x47.1, .int .i64 x47.2.1, .int .i64 x47.2.2.1, .int .i64 x47.2.2.2]) (x' := x47) F W Aa Aa Aa (k := 0) Aa Aa h32 Ee Aa Aa Aa Aa (fun A cs _ => Ep.sto (by rfl) _ _ _) fun w W => ?_
 refine Ae (Ab (Ah (Ac ?_)))
 refine ls F W Aa (Ad F Aa).q fun a w F W => ?_
 iterate 2 refine ls F W Aa (Af F Aa).q fun a w F W => ?_
 refine Ae (Ab (AF ?_))
 have H := AQ H
 subst H
 refine EU (.inl Aa) F W Aa (AD F Aa) (AD F Aa) ?_
 exact ⟨(), Aa, W⟩
theorem RM : type_of% Try.underlying98 := Try.underlying98
theorem VK : Has Try.prog 63 := ⟨fun args w => Al Try.func63 rfl (by decide) args w⟩
theorem TU : Has Try.prog 39 := ⟨fun args w => Al Try.func39 rfl (by decide) args w⟩
theorem Uu : (Try.prog.info? 138).bind (·.zero) = some (.int .u64 0) := by kernel_rfl
theorem Mp : Ty Try.prog 138 false 1 := ⟨by kernel_rfl, by kernel_rfl⟩
noncomputable def C7 (p0 : Int) : Option Int := (DI (IntKind.u64.wrap p0)).bind fun x1 => (SU (Ek .u64 1 x1) x1).bind fun x2 => some x2
theorem IP (Y : Nat → Prop) (w0 : World)  (p0 : Int) (r : Int) (H : C7 p0 = some r)  :
    Calls Try.prog 75 #[.int .i64 p0] w0 fun e w' => e = .returned (.int .u64 r) ∧ Below w0.heap.size w0 w' := by
 refine enter Try.func75 Aa Try.ntmps75 Aa fun a F => ?_
 have W := Stw.start Y w0
 unfold C7 at H
 refine Ah (Ac ?_)
 refine ls F W Aa (Af F Aa).q fun a w F W => ?_
 refine Ae (Ab (Ah (Ac ?_)))
 refine ls F W Aa (Ad F Aa).q fun a w F W => ?_
 refine ls F W Aa (IZ OI RM F Aa).q fun a w F W => ?_
 obtain ⟨x1, h1, H⟩ := Ak H
 refine ls F W Aa (BR (v := Value.int .i64 x1) F Ux Aa (fun w W => Hs any w (IntKind.u64.wrap p0) _ h1)) fun a w F W => ?_
 obtain ⟨x2, h2, H⟩ := Ak H
 refine ls F W Aa (Sc (Kl h2).2 (PA F Aa Aa (Kl h2).1)).q fun a w F W => ?_
 refine ls F W Aa (Af F Aa).q fun a w F W => ?_
 refine Ae (Ab (AF ?_))
 have H := AQ H
 subst H
 refine Bj (.inl Aa) F W Aa (AD F Aa) ?_
 exact ⟨rfl, W.done⟩
theorem Wl : Has Try.prog 75 := ⟨fun args w => Al Try.func75 rfl (by decide) args w⟩
def B4 (p0 : Int) : Int × Int := (DB .u64 (DB .u64 (DB .u64 p0 (Ek .u64 p0 13)) (GB .u64 (DB .u64 p0 (Ek .u64 p0 13)) 7)) (Ek .u64 (DB .u64 (DB .u64 p0 (Ek .u64 p0 13)) (GB .u64 (DB .u64 p0 (Ek .u64 p0 13)) 7)) 17), DB .u64 (DB .u64 (DB .u64 p0 (Ek .u64 p0 13)) (GB .u64 (DB .u64 p0 (Ek .u64 p0 13)) 7)) (Ek .u64 (DB .u64 (DB .u64 p0 (Ek .u64 p0 13)) (GB .u64 (DB .u64 p0 (Ek .u64 p0 13)) 7)) 17))
theorem Ja (Y : Nat → Prop) (X : List Nat) (w0 : World) (q_p0 : Nat) (p0 : Int) (r : Int × Int) (H : B4 p0 = r) (hL : Stw ⟨Y, X, w0⟩ [(q_p0, [.int .u64 p0])] [] w0) :
    Calls Try.prog 76 #[.pointer (some ⟨q_p0, 0, none⟩)] w0 fun e w' => ∃ x : Unit, e = .returned (.int .u64 r.1) ∧ Stw ⟨Y, X, w0⟩ [(q_p0, [.int .u64 r.2])] [] w' := by
 refine enter Try.func76 Aa Try.ntmps76 Aa fun a F => ?_
 have W := hL
 unfold B4 at H
 refine Ah (Ac ?_)
 refine ls F W Aa (Af F Aa).q fun a w F W => ?_
 refine Ae (Ab (Ah ?_))
 refine JC 9 W MO (by kernel_rfl) ?_
 refine qs F Aa (Ad F Aa).q fun a F => ?_
 refine qs F Aa (Dm F Aa).q fun a F => ?_
 refine qs F Aa (AB (v := Value.int .u64 p0) 0 F Aa Aa Mp Aa).q fun a F => ?_
 refine qs F Aa (Ad F Aa).q fun a F => ?_
 refine qs F Aa (Dm F Aa).q fun a F => ?_
 refine qs F Aa (AB (v := Value.int .u64 p0) 0 F Aa Aa Mp Aa).q fun a F => ?_
 refine qs F Aa (PA F Aa Aa (by decide)).q fun a F => ?_
 refine qs F Aa (QB F Aa Aa).q fun a F => ?_
 refine qs F Aa (Dm F Aa).q fun a F => ?_
 refine A0 fun w W => ?_
 refine BW (vs := [.int .u64 (DB .u64 p0 (Ek .u64 p0 13))]) (M' := [(q_p0, [.int .u64 (DB .u64 p0 (Ek .u64 p0 13))])]) 0 F W Aa Aa Aa Mp Aa Aa Aa Aa Aa fun w W => ?_
 refine Ae (Ab (Ah ?_))
 refine JC 9 W MO (by kernel_rfl) ?_
 refine qs F Aa (Ad F Aa).q fun a F => ?_
 refine qs F Aa (Dm F Aa).q fun a F => ?_
 refine qs F Aa (AB (v := Value.int .u64 (DB .u64 p0 (Ek .u64 p0 13))) 0 F Aa Aa Mp Aa).q fun a F => ?_
 refine qs F Aa (Ad F Aa).q fun a F => ?_
 refine qs F Aa (Dm F Aa).q fun a F => ?_
 refine qs F Aa (AB (v := Value.int .u64 (DB .u64 p0 (Ek .u64 p0 13))) 0 F Aa Aa Mp Aa).q fun a F => ?_
 refine qs F Aa (PF F Aa Aa (by decide)).q fun a F => ?_
 refine qs F Aa (QB F Aa Aa).q fun a F => ?_
 refine qs F Aa (Dm F Aa).q fun a F => ?_
 refine A0 fun w W => ?_
 refine BW (vs := [.int .u64 (DB .u64 (DB .u64 p0 (Ek .u64 p0 13)) (GB .u64 (DB .u64 p0 (Ek .u64 p0 13)) 7))]) (M' := [(q_p0, [.int .u64 (DB .u64 (DB .u64 p0 (Ek .u64 p0 13)) (GB .u64 (DB .u64 p0 (Ek .u64 p0 13)) 7))])]) 0 F W Aa Aa Aa Mp Aa Aa Aa Aa Aa fun w W => ?_
 refine Ae (Ab (Ah ?_))
 refine JC 9 W MO (by kernel_rfl) ?_
 refine qs F Aa (Ad F Aa).q fun a F => ?_
 refine qs F Aa (Dm F Aa).q fun a F => ?_
 refine qs F Aa (AB (v := Value.int .u64 (DB .u64 (DB .u64 p0 (Ek .u64 p0 13)) (GB .u64 (DB .u64 p0 (Ek .u64 p0 13)) 7))) 0 F Aa Aa Mp Aa).q fun a F => ?_
 refine qs F Aa (Ad F Aa).q fun a F => ?_
 refine qs F Aa (Dm F Aa).q fun a F => ?_
 refine qs F Aa (AB (v := Value.int .u64 (DB .u64 (DB .u64 p0 (Ek .u64 p0 13)) (GB .u64 (DB .u64 p0 (Ek .u64 p0 13)) 7))) 0 F Aa Aa Mp Aa).q fun a F => ?_
 refine qs F Aa (PA F Aa Aa (by decide)).q fun a F => ?_
 refine qs F Aa (QB F Aa Aa).q fun a F => ?_
 refine qs F Aa (Dm F Aa).q fun a F => ?_
 refine A0 fun w W => ?_
 refine BW (vs := [.int .u64 (DB .u64 (DB .u64 (DB .u64 p0 (Ek .u64 p0 13)) (GB .u64 (DB .u64 p0 (Ek .u64 p0 13)) 7)) (Ek .u64 (DB .u64 (DB .u64 p0 (Ek .u64 p0 13)) (GB .u64 (DB .u64 p0 (Ek .u64 p0 13)) 7)) 17))]) (M' := [(q_p0, [.int .u64 (DB .u64 (DB .u64 (DB .u64 p0 (Ek .u64 p0 13)) (GB .u64 (DB .u64 p0 (Ek .u64 p0 13)) 7)) (Ek .u64 (DB .u64 (DB .u64 p0 (Ek .u64 p0 13)) (GB .u64 (DB .u64 p0 (Ek .u64 p0 13)) 7)) 17))])]) 0 F W Aa Aa Aa Mp Aa Aa Aa Aa Aa fun w W => ?_
 refine Ae (Ab (Ah (Ac ?_)))
 refine ls F W Aa (Ad F Aa).q fun a w F W => ?_
 refine ls F W Aa (Dm F Aa).q fun a w F W => ?_
 refine ls F W Aa (AB (v := Value.int .u64 (DB .u64 (DB .u64 (DB .u64 p0 (Ek .u64 p0 13)) (GB .u64 (DB .u64 p0 (Ek .u64 p0 13)) 7)) (Ek .u64 (DB .u64 (DB .u64 p0 (Ek .u64 p0 13)) (GB .u64 (DB .u64 p0 (Ek .u64 p0 13)) 7)) 17))) 0 F Aa Aa Mp Aa).q fun a w F W => ?_
 refine ls F W Aa (Af F Aa).q fun a w F W => ?_
 refine Ae (Ab (AF ?_))
 subst H
 refine Bj (.inl Aa) F W Aa (AD F Aa) ?_
 exact ⟨(), Aa, W⟩
end Go.Proofs.Ytghpabmmdenaoaa
