/- The functions of layer 40, FH. Conditions: none. -/
import Derived.Test.YthmkgdnnocemmaaDoorcA1
namespace Go.Proofs.YthmkgdnnocemmaaDoor
open Go Go.RowKit
set_option linter.unusedVariables false
set_option linter.unusedSimpArgs false
set_option maxRecDepth 20000
theorem JL : Has Tryd.prog 71 := ⟨fun args w => Am Tryd.func71 rfl (by decide) args w⟩
theorem Ox : Et Tryd.prog 47 5 1 1 := Et.of LT (by kernel_rfl) (by kernel_rfl) (by kernel_rfl) (by decide)
noncomputable def BF (x1 : List UInt8) : (Int × Int × Bool) → Option ((Int × Int × Bool) ⊕ (Int ⊕ Bool))
  | (x16, x17, x18) => (if x17 < (x1.length : Int) then Es (((ix x1 x17).bind fun x23 => (if 48 ≤ (x23.toNat : Int) then (ix x1 x17).bind fun x24 => (if (x24.toNat : Int) ≤ 57 then some (x18, true) else (if x18 = true then (ix x1 x17).bind fun x25 => (if 97 ≤ (Ah (x25.toNat : Int)) then (ix x1 x17).bind fun x26 => some (true, decide ((Ah (x26.toNat : Int)) ≤ 102)) else some (true, false)) else some (false, false))) else (if x18 = true then (ix x1 x17).bind fun x27 => (if 97 ≤ (Ah (x27.toNat : Int)) then (ix x1 x17).bind fun x28 => some (true, decide ((Ah (x28.toNat : Int)) ≤ 102)) else some (true, false)) else some (false, false)))).bind fun (x21, x22) => (if x22 = true then some (.inl ((48 : Int), x21)) else (ix x1 x17).bind fun x29 => (if (x29.toNat : Int) = 95 then (if x16 ≠ 48 then some (.inr (.inr (.inr false))) else some (.inl ((95 : Int), x21))) else (if x16 = 95 then some (.inr (.inr (.inr false))) else some (.inl ((33 : Int), x21)))))) fun (x19, x20) => some (.inl (x19, CL (x17 + 1), x20)) else some (.inr (.inl x16)))
noncomputable def BA (p0 : List UInt8) : Option Bool := ((if 1 ≤ (p0.length : Int) then (ix p0 0).bind fun x3 => (if (x3.toNat : Int) = 45 then some true else (ix p0 0).bind fun x4 => some (decide ((x4.toNat : Int) = 43))) else some false).bind fun x2 => (if x2 = true then (Ef p0 1 (p0.length : Int)).bind fun x5 => some x5 else some p0)).bind fun x1 => ((if 2 ≤ (x1.length : Int) then (ix x1 0).bind fun x10 => (if (x10.toNat : Int) = 48 then (ix x1 1).bind fun x11 => (if (Ah (x11.toNat : Int)) = 98 then some true else (ix x1 1).bind fun x12 => (if (Ah (x12.toNat : Int)) = 111 then some true else (ix x1 1).bind fun x13 => some (decide ((Ah (x13.toNat : Int)) = 120)))) else some false) else some false).bind fun x9 => (if x9 = true then (ix x1 1).bind fun x14 => some ((48 : Int), (2 : Int), decide ((Ah (x14.toNat : Int)) = 120)) else some ((94 : Int), (0 : Int), false))).bind fun (x6, x7, x8) => Es (BB (BF x1) (x6, x7, x8)) fun x15 => some (decide (x15 ≠ 95))
theorem DI (Y : Nat → Prop) (w0 : World)  (p0 : List UInt8) (r : Bool) (H : BA p0 = some r)  :
    Calls Tryd.prog 72 #[.string (bs p0)] w0 fun e w' => e = .returned (.bool r) ∧ Below w0.heap.size w0 w' := by
 refine enter Tryd.func72 Aa Tryd.ntmps72 Aa fun a F => ?_
 have W := Stw.start Y w0
 unfold BA at H
 refine Aj (Ac ?_)
 refine ls F W Aa (Ag F Aa).q fun a w F W => ?_
 refine Af (Ad (Aj (Ac ?_)))
 refine ls F W Aa (Ag F Aa).q fun a w F W => ?_
 refine Af (Ad (Aj (Ac ?_)))
 refine ls F W Aa (Ag F Aa).q fun a w F W => ?_
 refine Af (Ad ?_)
 obtain ⟨o1, G1, K1⟩ := An H
 refine AX (fun a w => ∃ x1 : List UInt8, some (x1) = some o1 ∧ Fr 94 [] [(0, .string (bs x1)), (2, .bool false), (3, .int .i32 94), (4, .int .i64 0)] a ∧ Stw ⟨Y, [], w0⟩ [] [] w) ?_ ?_
 ·
  have H := G1
  clear G1 K1
  obtain ⟨o2, G2, K2⟩ := An H
  refine AX (fun a w => ∃ x2 : Bool, some (x2) = some o2 ∧ Fr 94 [] [(0, .string (bs p0)), (2, .bool false), (3, .int .i32 94), (4, .int .i64 0), (18, .bool x2)] a ∧ Stw ⟨Y, [], w0⟩ [] [] w) ?_ ?_
  ·
   have H := G2
   clear G2 K2
   refine Ac ?_
   refine ls F W Aa (Ae F Aa).q fun a w F W => ?_
   refine ls F W Aa (Fp (l := p0) Fk Aa F Aa).q fun a w F W => ?_
   refine ls F W Aa (Gr F Aa Aa).q fun a w F W => ?_
   refine ls F W Aa (Ae F Aa).q fun a w F W => ?_
   rcases Bool.eq_false_or_eq_true (decide (1 ≤ (p0.length : Int))) with hb | hb
   ·
    have H := AZ (BQ hb) H
    rw [hb] at F
    clear hb
    refine Av F W (Ai F Aa Aa Aa Aa) Aa (Ao Aa) (Ae F Aa).q fun a w F W => ?_
    obtain ⟨x3, h1, H⟩ := An H
    refine Av F W (Ai F Aa Aa Aa Aa) Aa (Ao Aa) (BP (l := p0) Fk F Aa Aa h1).q fun a w F W => ?_
    refine Av F W (Ai F Aa Aa Aa Aa) Aa (Ao Aa) (CC F Aa Aa).q fun a w F W => ?_
    refine Av F W (Ai F Aa Aa Aa Aa) Aa (Ao Aa) (Ae F Aa).q fun a w F W => ?_
    rcases Bool.eq_false_or_eq_true (decide ((x3.toNat : Int) = 45)) with hb | hb
    ·
     have H := AZ (BQ hb) H
     rw [hb] at F
     clear hb
     iterate 3 refine Cm F Aa Aa Aa Aa Aa Aa Aa fun a F => ?_
     refine Av F W (Ai F Aa Aa Aa Aa) Aa (Ao Aa) (Au F Aa Aa Aa).q fun a w F W => ?_
     refine ls F W Aa (Au F Aa Aa Aa).q fun a w F W => ?_
     refine Af (Ad ?_)
     exact ⟨_, H, F.re ⟨rfl, Aa, Aa, Aa, Aa, trivial⟩, W⟩
    have H := AY (BR hb) H
    rw [hb] at F
    clear hb
    refine Av F W (Ai F Aa Aa Aa Aa) Aa (Ao Aa) (Ae F Aa).q fun a w F W => ?_
    obtain ⟨x4, h2, H⟩ := An H
    refine Av F W (Ai F Aa Aa Aa Aa) Aa (Ao Aa) (BP (l := p0) Fk F Aa Aa h2).q fun a w F W => ?_
    refine Av F W (Ai F Aa Aa Aa Aa) Aa (Ao Aa) (CC F Aa Aa).q fun a w F W => ?_
    refine Av F W (Ai F Aa Aa Aa Aa) Aa (Ao Aa) (Al F Aa Aa Aa).q fun a w F W => ?_
    refine ls F W Aa (Au F Aa Aa Aa).q fun a w F W => ?_
    refine Af (Ad ?_)
    exact ⟨_, H, F.re ⟨rfl, Aa, Aa, Aa, Aa, trivial⟩, W⟩
   have H := AY (BR hb) H
   rw [hb] at F
   clear hb
   iterate 4 refine Cm F Aa Aa Aa Aa Aa Aa Aa fun a F => ?_
   iterate 3 refine MF F Aa Aa Aa Aa Aa Aa fun a F => ?_
   refine Cm F Aa Aa Aa Aa Aa Aa Aa fun a F => ?_
   refine ls F W Aa (Al F Aa Aa Aa).q fun a w F W => ?_
   refine Af (Ad ?_)
   exact ⟨_, H, F.re ⟨rfl, Aa, Aa, Aa, Aa, trivial⟩, W⟩
  rintro a w ⟨x2, hj, F, W⟩
  have hj := A2 hj
  subst hj
  have H := K2
  clear G2 K2
  refine AA F Aa (fun hb => ?_) fun hb => ?_
  ·
   have H := AZ hb H
   rw [hb] at F
   clear hb
   refine Ac ?_
   refine ls F W Aa (Ae F Aa).q fun a w F W => ?_
   obtain ⟨x5, h3, H⟩ := An H
   refine ls F W Aa (Fw (l := p0) Fk F Aa Aa Aa h3).q fun a w F W => ?_
   refine ls F W Aa (Ag F Aa).q fun a w F W => ?_
   refine Af (Ad ?_)
   exact ⟨_, H, F.re ⟨rfl, Aa, Aa, Aa, trivial⟩, W⟩
  have H := AY (by rw [hb]; decide) H
  rw [hb] at F
  clear hb
  refine Ax (Ad ?_)
  exact ⟨_, H, F.re ⟨rfl, Aa, Aa, Aa, trivial⟩, W⟩
 rintro a w ⟨x1, hj, F, W⟩
 have hj := A2 hj
 subst hj
 have H := K1
 clear G1 K1
 refine Aj (Ac ?_)
 refine ls F W Aa (Ag F Aa).q fun a w F W => ?_
 refine Af (Ad ?_)
 obtain ⟨o3, G3, K3⟩ := An H
 refine AX (fun a w => ∃ x6 : Int, ∃ x7 : Int, ∃ x8 : Bool, some ((x6, x7, x8)) = some o3 ∧ Fr 94 [] [(0, .string (bs x1)), (2, .bool false), (3, .int .i32 x6), (4, .int .i64 x7), (5, .bool x8)] a ∧ Stw ⟨Y, [], w0⟩ [] [] w) ?_ ?_
 ·
  have H := G3
  clear G3 K3
  obtain ⟨o4, G4, K4⟩ := An H
  refine AX (fun a w => ∃ x9 : Bool, some (x9) = some o4 ∧ Fr 94 [] [(0, .string (bs x1)), (2, .bool false), (3, .int .i32 94), (4, .int .i64 0), (5, .bool false), (46, .bool x9)] a ∧ Stw ⟨Y, [], w0⟩ [] [] w) ?_ ?_
  ·
   have H := G4
   clear G4 K4
   refine Ac ?_
   refine ls F W Aa (Ae F Aa).q fun a w F W => ?_
   refine ls F W Aa (Fp (l := x1) Fk Aa F Aa).q fun a w F W => ?_
   refine ls F W Aa (Gr F Aa Aa).q fun a w F W => ?_
   refine ls F W Aa (Ae F Aa).q fun a w F W => ?_
   rcases Bool.eq_false_or_eq_true (decide (2 ≤ (x1.length : Int))) with hb | hb
   ·
    have H := AZ (BQ hb) H
    rw [hb] at F
    clear hb
    refine Av F W (Ai F Aa Aa Aa Aa) Aa (Ao Aa) (Ae F Aa).q fun a w F W => ?_
    obtain ⟨x10, h4, H⟩ := An H
    refine Av F W (Ai F Aa Aa Aa Aa) Aa (Ao Aa) (BP (l := x1) Fk F Aa Aa h4).q fun a w F W => ?_
    refine Av F W (Ai F Aa Aa Aa Aa) Aa (Ao Aa) (CC F Aa Aa).q fun a w F W => ?_
    refine ls F W Aa (Au F Aa Aa Aa).q fun a w F W => ?_
    refine ls F W Aa (Ae F Aa).q fun a w F W => ?_
    rcases Bool.eq_false_or_eq_true (decide ((x10.toNat : Int) = 48)) with hb | hb
    ·
     have H := AZ (BQ hb) H
     rw [hb] at F
     clear hb
     refine Av F W (Ai F Aa Aa Aa Aa) Aa (Ao Aa) (Ae F Aa).q fun a w F W => ?_
     obtain ⟨x11, h5, H⟩ := An H
     refine Av F W (Ai F Aa Aa Aa Aa) Aa (Ao Aa) (BP (l := x1) Fk F Aa Aa h5).q fun a w F W => ?_
     refine Ew (Ai F Aa Aa Aa Aa) ?_
     refine ls F W Aa (Ba (v := Value.int .u8 (Ah (x11.toNat : Int))) F JL Aa (fun w W => As any w (x11.toNat : Int) _ Aa)) fun a w F W => ?_
     refine Av F W (Ai F Aa Aa Aa Aa) Aa (Ao Aa) (CC F Aa Aa).q fun a w F W => ?_
     refine Av F W (Ai F Aa Aa Aa Aa) Aa (Ao Aa) (Ae F Aa).q fun a w F W => ?_
     rcases Bool.eq_false_or_eq_true (decide ((Ah (x11.toNat : Int)) = 98)) with hb | hb
     ·
      have H := AZ (BQ hb) H
      rw [hb] at F
      clear hb
      iterate 4 refine Cm F Aa Aa Aa Aa Aa Aa Aa fun a F => ?_
      refine Av F W (Ai F Aa Aa Aa Aa) Aa (Ao Aa) (Au F Aa Aa Aa).q fun a w F W => ?_
      refine Av F W (Ai F Aa Aa Aa Aa) Aa (Ao Aa) (Ae F Aa).q fun a w F W => ?_
      iterate 4 refine Cm F Aa Aa Aa Aa Aa Aa Aa fun a F => ?_
      refine Av F W (Ai F Aa Aa Aa Aa) Aa (Ao Aa) (Au F Aa Aa Aa).q fun a w F W => ?_
      refine ls F W Aa (Au F Aa Aa Aa).q fun a w F W => ?_
      refine Af (Ad ?_)
      exact ⟨_, H, F.re ⟨rfl, Aa, Aa, Aa, Aa, Aa, trivial⟩, W⟩
     have H := AY (BR hb) H
     rw [hb] at F
     clear hb
     refine Av F W (Ai F Aa Aa Aa Aa) Aa (Ao Aa) (Ae F Aa).q fun a w F W => ?_
     obtain ⟨x12, h6, H⟩ := An H
     refine Av F W (Ai F Aa Aa Aa Aa) Aa (Ao Aa) (BP (l := x1) Fk F Aa Aa h6).q fun a w F W => ?_
     refine Ew (Ai F Aa Aa Aa Aa) ?_
     refine ls F W Aa (Ba (v := Value.int .u8 (Ah (x12.toNat : Int))) F JL Aa (fun w W => As any w (x12.toNat : Int) _ Aa)) fun a w F W => ?_
     refine Av F W (Ai F Aa Aa Aa Aa) Aa (Ao Aa) (CC F Aa Aa).q fun a w F W => ?_
     refine Av F W (Ai F Aa Aa Aa Aa) Aa (Ao Aa) (Al F Aa Aa Aa).q fun a w F W => ?_
     refine Av F W (Ai F Aa Aa Aa Aa) Aa (Ao Aa) (Ae F Aa).q fun a w F W => ?_
     rcases Bool.eq_false_or_eq_true (decide ((Ah (x12.toNat : Int)) = 111)) with hb | hb
     ·
      have H := AZ (BQ hb) H
      rw [hb] at F
      clear hb
      iterate 4 refine Cm F Aa Aa Aa Aa Aa Aa Aa fun a F => ?_
      refine Av F W (Ai F Aa Aa Aa Aa) Aa (Ao Aa) (Au F Aa Aa Aa).q fun a w F W => ?_
      refine ls F W Aa (Au F Aa Aa Aa).q fun a w F W => ?_
      refine Af (Ad ?_)
      exact ⟨_, H, F.re ⟨rfl, Aa, Aa, Aa, Aa, Aa, trivial⟩, W⟩
     have H := AY (BR hb) H
     rw [hb] at F
     clear hb
     refine Av F W (Ai F Aa Aa Aa Aa) Aa (Ao Aa) (Ae F Aa).q fun a w F W => ?_
     obtain ⟨x13, h7, H⟩ := An H
     refine Av F W (Ai F Aa Aa Aa Aa) Aa (Ao Aa) (BP (l := x1) Fk F Aa Aa h7).q fun a w F W => ?_
     refine Ew (Ai F Aa Aa Aa Aa) ?_
     refine ls F W Aa (Ba (v := Value.int .u8 (Ah (x13.toNat : Int))) F JL Aa (fun w W => As any w (x13.toNat : Int) _ Aa)) fun a w F W => ?_
     refine Av F W (Ai F Aa Aa Aa Aa) Aa (Ao Aa) (CC F Aa Aa).q fun a w F W => ?_
     refine Av F W (Ai F Aa Aa Aa Aa) Aa (Ao Aa) (Al F Aa Aa Aa).q fun a w F W => ?_
     refine ls F W Aa (Au F Aa Aa Aa).q fun a w F W => ?_
     refine Af (Ad ?_)
     exact ⟨_, H, F.re ⟨rfl, Aa, Aa, Aa, Aa, Aa, trivial⟩, W⟩
    have H := AY (BR hb) H
    rw [hb] at F
    clear hb
    iterate 5 refine Cm F Aa Aa Aa Aa Aa Aa Aa fun a F => ?_
    iterate 4 refine MF F Aa Aa Aa Aa Aa Aa fun a F => ?_
    iterate 2 refine Cm F Aa Aa Aa Aa Aa Aa Aa fun a F => ?_
    iterate 4 refine MF F Aa Aa Aa Aa Aa Aa fun a F => ?_
    refine Cm F Aa Aa Aa Aa Aa Aa Aa fun a F => ?_
    refine ls F W Aa (Al F Aa Aa Aa).q fun a w F W => ?_
    refine Af (Ad ?_)
    exact ⟨_, H, F.re ⟨rfl, Aa, Aa, Aa, Aa, Aa, trivial⟩, W⟩
   have H := AY (BR hb) H
   rw [hb] at F
   clear hb
   iterate 3 refine Cm F Aa Aa Aa Aa Aa Aa Aa fun a F => ?_
   refine ls F W Aa (Al F Aa Aa Aa).q fun a w F W => ?_
   refine ls F W Aa (Ae F Aa).q fun a w F W => ?_
   iterate 5 refine Cm F Aa Aa Aa Aa Aa Aa Aa fun a F => ?_
   iterate 4 refine MF F Aa Aa Aa Aa Aa Aa fun a F => ?_
   iterate 2 refine Cm F Aa Aa Aa Aa Aa Aa Aa fun a F => ?_
   iterate 4 refine MF F Aa Aa Aa Aa Aa Aa fun a F => ?_
   refine Cm F Aa Aa Aa Aa Aa Aa Aa fun a F => ?_
   refine ls F W Aa (Al F Aa Aa Aa).q fun a w F W => ?_
   refine Af (Ad ?_)
   exact ⟨_, H, F.re ⟨rfl, Aa, Aa, Aa, Aa, Aa, trivial⟩, W⟩
  rintro a w ⟨x9, hj, F, W⟩
  have hj := A2 hj
  subst hj
  have H := K4
  clear G4 K4
  refine AA F Aa (fun hb => ?_) fun hb => ?_
  ·
   have H := AZ hb H
   rw [hb] at F
   clear hb
   refine Aj (Ac ?_)
   refine ls F W Aa (Ag F Aa).q fun a w F W => ?_
   refine Af (Ad (Aj (Ac ?_)))
   refine ls F W Aa (Ag F Aa).q fun a w F W => ?_
   refine Af (Ad (Ac ?_))
   refine ls F W Aa (Ae F Aa).q fun a w F W => ?_
   obtain ⟨x14, h8, H⟩ := An H
   refine ls F W Aa (BP (l := x1) Fk F Aa Aa h8).q fun a w F W => ?_
   refine ls F W Aa (Ba (v := Value.int .u8 (Ah (x14.toNat : Int))) F JL Aa (fun w W => As any w (x14.toNat : Int) _ Aa)) fun a w F W => ?_
   refine ls F W Aa (CC F Aa Aa).q fun a w F W => ?_
   refine ls F W Aa (Ag F Aa).q fun a w F W => ?_
   refine Af (Ad ?_)
   exact ⟨_, _, _, H, F.re ⟨rfl, Aa, Aa, Aa, Aa, trivial⟩, W⟩
  have H := AY (by rw [hb]; decide) H
  rw [hb] at F
  clear hb
  refine Ax (Ad ?_)
  exact ⟨_, _, _, H, F.re ⟨rfl, Aa, Aa, Aa, Aa, trivial⟩, W⟩
 rintro a w ⟨x6, x7, x8, hj, F, W⟩
 have hj := A2 hj
 subst hj
 have H := K3
 clear G3 K3
 obtain ⟨o5, G5, K5, L5⟩ := IB H
 refine AX (fun a w => ∃ x15 : Int, some (Sum.inl x15) = some o5 ∧ Fr 94 [] [(2, .bool false), (3, .int .i32 x15)] a ∧ Stw ⟨Y, [], w0⟩ [] [] w) ?_ ?_
 ·
  have H := G5
  clear G5 K5
  refine AF ?_
  refine CA H (fun s a w => Fr 94 [] [(0, .string (bs x1)), (2, .bool false), (3, .int .i32 s.1), (4, .int .i64 s.2.1), (5, .bool s.2.2)] a ∧ Stw ⟨Y, [], w0⟩ [] [] w) ⟨F.re ⟨rfl, Aa, Aa, Aa, Aa, trivial⟩, W⟩ fun s o a w H L6 hR => ?_
  obtain ⟨x16, x17, x18⟩ := s
  obtain ⟨F, W⟩ := hR
  have F : Fr 94 [] [(0, .string (bs x1)), (2, .bool false), (3, .int .i32 x16), (4, .int .i64 x17), (5, .bool x18)] a := F
  have W : Stw ⟨Y, [], w0⟩ [] [] w := W
  rw [BF] at H
  refine Aj (Aj (Ac ?_))
  iterate 2 refine ls F W Aa (Ae F Aa).q fun a w F W => ?_
  refine ls F W Aa (Fp (l := x1) Fk Aa F Aa).q fun a w F W => ?_
  refine ls F W Aa (DM F Aa Aa).q fun a w F W => ?_
  refine Af (Ad ?_)
  refine AA F Aa (fun hb => ?_) fun hb => ?_
  ·
   have H := AZ (BQ hb) H
   rw [hb] at F
   clear hb
   refine Ax (Ad ?_)
   obtain ⟨o7, G7, K7, L7⟩ := IB H
   refine AX (fun a w => ∃ x19 : Int, ∃ x20 : Bool, some (Sum.inl (x19, x20)) = some o7 ∧ Fr 94 [] [(0, .string (bs x1)), (2, .bool false), (3, .int .i32 x19), (4, .int .i64 x17), (5, .bool x20)] a ∧ Stw ⟨Y, [], w0⟩ [] [] w) ?_ ?_
   ·
    have H := G7
    clear G7 K7
    refine AF (Aj ?_)
    obtain ⟨o8, G8, K8⟩ := An H
    refine AX (fun a w => ∃ x21 : Bool, ∃ x22 : Bool, some ((x21, x22)) = some o8 ∧ Fr 94 [] [(0, .string (bs x1)), (2, .bool false), (3, .int .i32 x16), (4, .int .i64 x17), (5, .bool x21), (83, .bool x22)] a ∧ Stw ⟨Y, [], w0⟩ [] [] w) ?_ ?_
    ·
     have H := G8
     clear G8 K8
     refine Ac ?_
     iterate 2 refine ls F W Aa (Ae F Aa).q fun a w F W => ?_
     obtain ⟨x23, h9, H⟩ := An H
     refine ls F W Aa (BP (l := x1) Fk F Aa Aa h9).q fun a w F W => ?_
     refine ls F W Aa (Fg F Aa Aa).q fun a w F W => ?_
     refine ls F W Aa (Ae F Aa).q fun a w F W => ?_
     rcases Bool.eq_false_or_eq_true (decide (48 ≤ (x23.toNat : Int))) with hb | hb
     ·
      have H := AZ (BQ hb) H
      rw [hb] at F
      clear hb
      iterate 2 refine Av F W (Ai F Aa Aa Aa Aa) Aa (Ao Aa) (Ae F Aa).q fun a w F W => ?_
      obtain ⟨x24, h10, H⟩ := An H
      refine Av F W (Ai F Aa Aa Aa Aa) Aa (Ao Aa) (BP (l := x1) Fk F Aa Aa h10).q fun a w F W => ?_
      refine Av F W (Ai F Aa Aa Aa Aa) Aa (Ao Aa) (Fg F Aa Aa).q fun a w F W => ?_
      refine ls F W Aa (Au F Aa Aa Aa).q fun a w F W => ?_
      refine ls F W Aa (Ae F Aa).q fun a w F W => ?_
      rcases Bool.eq_false_or_eq_true (decide ((x24.toNat : Int) ≤ 57)) with hb | hb
      ·
       have H := AZ (BQ hb) H
       rw [hb] at F
       clear hb
       iterate 2 refine Cm F Aa Aa Aa Aa Aa Aa Aa fun a F => ?_
       iterate 5 refine MF F Aa Aa Aa Aa Aa Aa fun a F => ?_
       iterate 2 refine Cm F Aa Aa Aa Aa Aa Aa Aa fun a F => ?_
       iterate 5 refine MF F Aa Aa Aa Aa Aa Aa fun a F => ?_
       refine Cm F Aa Aa Aa Aa Aa Aa Aa fun a F => ?_
       refine ls F W Aa (Au F Aa Aa Aa).q fun a w F W => ?_
       refine Af (Ad ?_)
       exact ⟨_, _, H, F.re ⟨rfl, Aa, Aa, Aa, Aa, Aa, trivial⟩, W⟩
      have H := AY (BR hb) H
      rw [hb] at F
      clear hb
      iterate 2 refine Av F W (Ai F Aa Aa Aa Aa) Aa (Ao Aa) (Ae F Aa).q fun a w F W => ?_
      rcases Bool.eq_false_or_eq_true x18 with hb | hb
      ·
       have H := AZ hb H
       rw [hb] at F
       clear hb
       iterate 2 refine Av F W (Ai F Aa Aa Aa Aa) Aa (Ao Aa) (Ae F Aa).q fun a w F W => ?_
       obtain ⟨x25, h11, H⟩ := An H
       refine Av F W (Ai F Aa Aa Aa Aa) Aa (Ao Aa) (BP (l := x1) Fk F Aa Aa h11).q fun a w F W => ?_
       refine Ew (Ai F Aa Aa Aa Aa) ?_
       refine ls F W Aa (Ba (v := Value.int .u8 (Ah (x25.toNat : Int))) F JL Aa (fun w W => As any w (x25.toNat : Int) _ Aa)) fun a w F W => ?_
       refine Av F W (Ai F Aa Aa Aa Aa) Aa (Ao Aa) (Fg F Aa Aa).q fun a w F W => ?_
       refine Av F W (Ai F Aa Aa Aa Aa) Aa (Ao Aa) (Au F Aa Aa Aa).q fun a w F W => ?_
       refine Av F W (Ai F Aa Aa Aa Aa) Aa (Ao Aa) (Ae F Aa).q fun a w F W => ?_
       rcases Bool.eq_false_or_eq_true (decide (97 ≤ (Ah (x25.toNat : Int)))) with hb | hb
       ·
        have H := AZ (BQ hb) H
        rw [hb] at F
        clear hb
        iterate 2 refine Av F W (Ai F Aa Aa Aa Aa) Aa (Ao Aa) (Ae F Aa).q fun a w F W => ?_
        obtain ⟨x26, h12, H⟩ := An H
        refine Av F W (Ai F Aa Aa Aa Aa) Aa (Ao Aa) (BP (l := x1) Fk F Aa Aa h12).q fun a w F W => ?_
        refine Ew (Ai F Aa Aa Aa Aa) ?_
        refine ls F W Aa (Ba (v := Value.int .u8 (Ah (x26.toNat : Int))) F JL Aa (fun w W => As any w (x26.toNat : Int) _ Aa)) fun a w F W => ?_
        refine Av F W (Ai F Aa Aa Aa Aa) Aa (Ao Aa) (Fg F Aa Aa).q fun a w F W => ?_
        refine Av F W (Ai F Aa Aa Aa Aa) Aa (Ao Aa) (Au F Aa Aa Aa).q fun a w F W => ?_
        refine ls F W Aa (Al F Aa Aa Aa).q fun a w F W => ?_
        refine Af (Ad ?_)
        exact ⟨_, _, H, F.re ⟨rfl, Aa, Aa, Aa, Aa, Aa, trivial⟩, W⟩
       have H := AY (BR hb) H
       rw [hb] at F
       clear hb
       iterate 5 refine Cm F Aa Aa Aa Aa Aa Aa Aa fun a F => ?_
       refine Av F W (Ai F Aa Aa Aa Aa) Aa (Ao Aa) (Al F Aa Aa Aa).q fun a w F W => ?_
       refine ls F W Aa (Al F Aa Aa Aa).q fun a w F W => ?_
       refine Af (Ad ?_)
       exact ⟨_, _, H, F.re ⟨rfl, Aa, Aa, Aa, Aa, Aa, trivial⟩, W⟩
      have H := AY (by rw [hb]; decide) H
      rw [hb] at F
      clear hb
      iterate 5 refine Cm F Aa Aa Aa Aa Aa Aa Aa fun a F => ?_
      refine Av F W (Ai F Aa Aa Aa Aa) Aa (Ao Aa) (Al F Aa Aa Aa).q fun a w F W => ?_
      refine Av F W (Ai F Aa Aa Aa Aa) Aa (Ao Aa) (Ae F Aa).q fun a w F W => ?_
      iterate 5 refine Cm F Aa Aa Aa Aa Aa Aa Aa fun a F => ?_
      refine Av F W (Ai F Aa Aa Aa Aa) Aa (Ao Aa) (Al F Aa Aa Aa).q fun a w F W => ?_
      refine ls F W Aa (Al F Aa Aa Aa).q fun a w F W => ?_
      refine Af (Ad ?_)
      exact ⟨_, _, H, F.re ⟨rfl, Aa, Aa, Aa, Aa, Aa, trivial⟩, W⟩
     have H := AY (BR hb) H
     rw [hb] at F
     clear hb
     iterate 4 refine Cm F Aa Aa Aa Aa Aa Aa Aa fun a F => ?_
     refine ls F W Aa (Al F Aa Aa Aa).q fun a w F W => ?_
     refine ls F W Aa (Ae F Aa).q fun a w F W => ?_
     iterate 2 refine Av F W (Ai F Aa Aa Aa Aa) Aa (Ao Aa) (Ae F Aa).q fun a w F W => ?_
     rcases Bool.eq_false_or_eq_true x18 with hb | hb
     ·
      have H := AZ hb H
      rw [hb] at F
      clear hb
      iterate 2 refine Av F W (Ai F Aa Aa Aa Aa) Aa (Ao Aa) (Ae F Aa).q fun a w F W => ?_
      obtain ⟨x27, h13, H⟩ := An H
      refine Av F W (Ai F Aa Aa Aa Aa) Aa (Ao Aa) (BP (l := x1) Fk F Aa Aa h13).q fun a w F W => ?_
      refine Ew (Ai F Aa Aa Aa Aa) ?_
      refine ls F W Aa (Ba (v := Value.int .u8 (Ah (x27.toNat : Int))) F JL Aa (fun w W => As any w (x27.toNat : Int) _ Aa)) fun a w F W => ?_
      refine Av F W (Ai F Aa Aa Aa Aa) Aa (Ao Aa) (Fg F Aa Aa).q fun a w F W => ?_
      refine Av F W (Ai F Aa Aa Aa Aa) Aa (Ao Aa) (Au F Aa Aa Aa).q fun a w F W => ?_
      refine Av F W (Ai F Aa Aa Aa Aa) Aa (Ao Aa) (Ae F Aa).q fun a w F W => ?_
      rcases Bool.eq_false_or_eq_true (decide (97 ≤ (Ah (x27.toNat : Int)))) with hb | hb
      ·
       have H := AZ (BQ hb) H
       rw [hb] at F
       clear hb
       iterate 2 refine Av F W (Ai F Aa Aa Aa Aa) Aa (Ao Aa) (Ae F Aa).q fun a w F W => ?_
       obtain ⟨x28, h14, H⟩ := An H
       refine Av F W (Ai F Aa Aa Aa Aa) Aa (Ao Aa) (BP (l := x1) Fk F Aa Aa h14).q fun a w F W => ?_
       refine Ew (Ai F Aa Aa Aa Aa) ?_
       refine ls F W Aa (Ba (v := Value.int .u8 (Ah (x28.toNat : Int))) F JL Aa (fun w W => As any w (x28.toNat : Int) _ Aa)) fun a w F W => ?_
       refine Av F W (Ai F Aa Aa Aa Aa) Aa (Ao Aa) (Fg F Aa Aa).q fun a w F W => ?_
       refine Av F W (Ai F Aa Aa Aa Aa) Aa (Ao Aa) (Au F Aa Aa Aa).q fun a w F W => ?_
       refine ls F W Aa (Al F Aa Aa Aa).q fun a w F W => ?_
       refine Af (Ad ?_)
       exact ⟨_, _, H, F.re ⟨rfl, Aa, Aa, Aa, Aa, Aa, trivial⟩, W⟩
      have H := AY (BR hb) H
      rw [hb] at F
      clear hb
      iterate 5 refine Cm F Aa Aa Aa Aa Aa Aa Aa fun a F => ?_
      refine Av F W (Ai F Aa Aa Aa Aa) Aa (Ao Aa) (Al F Aa Aa Aa).q fun a w F W => ?_
      refine ls F W Aa (Al F Aa Aa Aa).q fun a w F W => ?_
      refine Af (Ad ?_)
      exact ⟨_, _, H, F.re ⟨rfl, Aa, Aa, Aa, Aa, Aa, trivial⟩, W⟩
     have H := AY (by rw [hb]; decide) H
     rw [hb] at F
     clear hb
     iterate 5 refine Cm F Aa Aa Aa Aa Aa Aa Aa fun a F => ?_
     refine Av F W (Ai F Aa Aa Aa Aa) Aa (Ao Aa) (Al F Aa Aa Aa).q fun a w F W => ?_
     refine Av F W (Ai F Aa Aa Aa Aa) Aa (Ao Aa) (Ae F Aa).q fun a w F W => ?_
     iterate 5 refine Cm F Aa Aa Aa Aa Aa Aa Aa fun a F => ?_
     refine Av F W (Ai F Aa Aa Aa Aa) Aa (Ao Aa) (Al F Aa Aa Aa).q fun a w F W => ?_
     refine ls F W Aa (Al F Aa Aa Aa).q fun a w F W => ?_
     refine Af (Ad ?_)
     exact ⟨_, _, H, F.re ⟨rfl, Aa, Aa, Aa, Aa, Aa, trivial⟩, W⟩
    rintro a w ⟨x21, x22, hj, F, W⟩
    have hj := A2 hj
    subst hj
    have H := K8
    clear G8 K8
    refine AA F Aa (fun hb => ?_) fun hb => ?_
    ·
     have H := AZ hb H
     rw [hb] at F
     clear hb
     refine Aj (Ac ?_)
     refine ls F W Aa (Ag F Aa).q fun a w F W => ?_
     refine Af (Ad (Ci (CM (Cj (Ad ?_)))))
     exact ⟨_, _, H, F.re ⟨rfl, Aa, Aa, Aa, Aa, trivial⟩, W⟩
    have H := AY (by rw [hb]; decide) H
    rw [hb] at F
    clear hb
    refine Ax (Ad (Aj (Aj (Ac ?_))))
    iterate 2 refine ls F W Aa (Ae F Aa).q fun a w F W => ?_
    obtain ⟨x29, h15, H⟩ := An H
    refine ls F W Aa (BP (l := x1) Fk F Aa Aa h15).q fun a w F W => ?_
    refine ls F W Aa (CC F Aa Aa).q fun a w F W => ?_
    refine Af (Ad ?_)
    refine AA F Aa (fun hb => ?_) fun hb => ?_
    ·
     have H := AZ (BQ hb) H
     rw [hb] at F
     clear hb
     refine Aj (Aj (Ac ?_))
     refine ls F W Aa (Ae F Aa).q fun a w F W => ?_
     refine ls F W Aa (Fe F Aa Aa).q fun a w F W => ?_
     refine Af (Ad ?_)
     refine AA F Aa (fun hb => ?_) fun hb => ?_
     ·
      have H := AZ (BQ hb) H
      rw [hb] at F
      clear hb
      refine Aj (Ac ?_)
      refine ls F W Aa (Ag F Aa).q fun a w F W => ?_
      refine Af (Ad (A1 ?_))
      iterate 2 refine Bx ?_
      refine B5 ?_
      iterate 2 refine Bx ?_
      refine B5 (Bx ?_)
      have H := L7 _ H
      have H := L6 _ H
      have H := L5 _ H
      have H := A2 H
      subst H
      refine Ck (.inl Aa) F W Aa (AL F Aa) ?_
      exact ⟨rfl, W.done⟩
     have H := AY (BR hb) H
     rw [hb] at F
     clear hb
     refine Ax (Ad (Aj (Ac ?_)))
     refine ls F W Aa (Ag F Aa).q fun a w F W => ?_
     refine Af (Ad (Ci (CM (Cj (Ad ?_)))))
     exact ⟨_, _, H, F.re ⟨rfl, Aa, Aa, Aa, Aa, trivial⟩, W⟩
    have H := AY (BR hb) H
    rw [hb] at F
    clear hb
    refine Ax (Ad (Aj (Aj (Ac ?_))))
    refine ls F W Aa (Ae F Aa).q fun a w F W => ?_
    refine ls F W Aa (CC F Aa Aa).q fun a w F W => ?_
    refine Af (Ad ?_)
    refine AA F Aa (fun hb => ?_) fun hb => ?_
    ·
     have H := AZ (BQ hb) H
     rw [hb] at F
     clear hb
     refine Aj (Ac ?_)
     refine ls F W Aa (Ag F Aa).q fun a w F W => ?_
     refine Af (Ad (A1 (Bx (B5 ?_))))
     iterate 2 refine Bx ?_
     refine B5 (Bx ?_)
     have H := L7 _ H
     have H := L6 _ H
     have H := L5 _ H
     have H := A2 H
     subst H
     refine Ck (.inl Aa) F W Aa (AL F Aa) ?_
     exact ⟨rfl, W.done⟩
    have H := AY (BR hb) H
    rw [hb] at F
    clear hb
    refine Ax (Ad (Ac ?_))
    refine ls F W Aa (Ag F Aa).q fun a w F W => ?_
    refine Af (Bk (Ad ?_))
    exact ⟨_, _, H, F.re ⟨rfl, Aa, Aa, Aa, Aa, trivial⟩, W⟩
   rintro a w ⟨x19, x20, hj, F, W⟩
   have H := K7 _ hj
   clear hj G7 K7 L7
   refine Ac ?_
   refine ls F W Aa (Ae F Aa).q fun a w F W => ?_
   refine ls F W Aa (DJ F Aa Aa Aa).q fun a w F W => ?_
   refine ls F W Aa (Ag F Aa).q fun a w F W => ?_
   refine Af (Ad ?_)
   exact ⟨_, H, F.re ⟨rfl, Aa, Aa, Aa, Aa, trivial⟩, W⟩
  have H := AY (BR hb) H
  rw [hb] at F
  clear hb
  refine Ci ?_
  iterate 2 refine CM ?_
  refine Cj (Ad ?_)
  have H := L6 _ H
  exact ⟨_, H, F.re ⟨rfl, Aa, trivial⟩, W⟩
 rintro a w ⟨x15, hj, F, W⟩
 have H := K5 _ hj
 clear hj G5 K5 L5
 refine Aj (Ac ?_)
 refine ls F W Aa (Ae F Aa).q fun a w F W => ?_
 refine ls F W Aa (Fe F Aa Aa).q fun a w F W => ?_
 refine ls F W Aa (Ag F Aa).q fun a w F W => ?_
 refine Af (Ad (A1 ?_))
 have H := A2 H
 subst H
 refine Ck (.inl Aa) F W Aa (AL F Aa) ?_
 exact ⟨rfl, W.done⟩
theorem Og : Has Tryd.prog 72 := ⟨fun args w => Am Tryd.func72 rfl (by decide) args w⟩
noncomputable def AB (x1 : List UInt8) (x2 : Int) (x3 : Bool) (x16 : Int) (x18 : Int) : (Bool × Int × Int) → Option ((Bool × Int × Int) ⊕ ((Bool × Int) ⊕ ((Int × Int) ⊕ Int)))
  | (x21, x22, x23) => (if x23 < ((List.map (fun b => (b.toNat : Int)) x1).length : Int) then Es ((ix (List.map (fun b => (b.toNat : Int)) x1) x23).bind fun x26 => Es (if (decide (x26 = 95) && x3) = true then some (.inr (.inl (true, x22))) else (if (decide (48 ≤ x26) && decide (x26 ≤ 57)) = true then some (.inl (IntKind.u8.wrap (x26 - 48))) else (if (decide (97 ≤ (Ah x26)) && decide ((Ah x26) ≤ 122)) = true then some (.inl (IntKind.u8.wrap ((IntKind.u8.wrap ((Ah x26) - 97)) + 10))) else some (.inr (.inr (.inr (.inr (.inl (0, 2))))))))) fun x27 => (if (IntKind.u8.wrap x2) ≤ x27 then some (.inr (.inr (.inr (.inl (0, 2))))) else (if x16 ≤ x22 then some (.inr (.inr (.inr (.inl (IntKind.u64.wrap (x18 - 1), 1))))) else (if (decide ((IntKind.u64.wrap ((IntKind.u64.wrap (x22 * (IntKind.u64.wrap x2))) + (IntKind.u64.wrap x27))) < (IntKind.u64.wrap (x22 * (IntKind.u64.wrap x2)))) || decide ((IntKind.u64.wrap (x18 - 1)) < (IntKind.u64.wrap ((IntKind.u64.wrap (x22 * (IntKind.u64.wrap x2))) + (IntKind.u64.wrap x27))))) = true then some (.inr (.inr (.inr (.inl (IntKind.u64.wrap (x18 - 1), 1))))) else some (.inl (x21, IntKind.u64.wrap ((IntKind.u64.wrap (x22 * (IntKind.u64.wrap x2))) + (IntKind.u64.wrap x27)))))))) fun (x24, x25) => some (.inl (x24, x25, CL (x23 + 1))) else some (.inr (.inl (x21, x22))))
noncomputable def Be (p0 : List UInt8) (p1 : Int) (p2 : Int) : Option ((Int × Int) ⊕ Int) := (if p0 = ([] : List UInt8) then some (.inl (0, 2)) else Es (if (decide (2 ≤ p1) && decide (p1 ≤ 36)) = true then some (.inl (p0, p1, decide (p1 = 0))) else (if p1 = 0 then (ix p0 0).bind fun x4 => (if (x4.toNat : Int) = 48 then (if 3 ≤ (p0.length : Int) then (ix p0 1).bind fun x6 => some (decide ((Ah (x6.toNat : Int)) = 98)) else some false).bind fun x5 => (if x5 = true then (Ef p0 2 (p0.length : Int)).bind fun x7 => some (.inl (x7, (2 : Int), true)) else (if 3 ≤ (p0.length : Int) then (ix p0 1).bind fun x9 => some (decide ((Ah (x9.toNat : Int)) = 111)) else some false).bind fun x8 => (if x8 = true then (Ef p0 2 (p0.length : Int)).bind fun x10 => some (.inl (x10, (8 : Int), true)) else (if 3 ≤ (p0.length : Int) then (ix p0 1).bind fun x12 => some (decide ((Ah (x12.toNat : Int)) = 120)) else some false).bind fun x11 => (if x11 = true then (Ef p0 2 (p0.length : Int)).bind fun x13 => some (.inl (x13, (16 : Int), true)) else (Ef p0 1 (p0.length : Int)).bind fun x14 => some (.inl (x14, (8 : Int), true))))) else some (.inl (p0, (10 : Int), true))) else some (.inr (.inl (0, 3))))) fun (x1, x2, x3) => Es (if p2 = 0 then some (.inl (64 : Int)) else (if (decide (p2 < 0) || decide (64 < p2)) = true then some (.inr (.inl (0, 4))) else some (.inl p2))) fun x15 => (if x2 = 10 then some (1844674407370955162 : Int) else (if x2 = 16 then some (1152921504606846976 : Int) else (MR .u64 18446744073709551615 (IntKind.u64.wrap x2)).bind fun x17 => some (IntKind.u64.wrap (x17 + 1)))).bind fun x16 => (Mg (Ln .u64 1 (IntKind.u64.wrap x15)) (IntKind.u64.wrap x15)).bind fun x18 => Es (BB (AB x1 x2 x3 x16 x18) (false, 0, 0)) fun (x19, x20) => (if x19 = true then (BA p0).bind fun x29 => some (!x29) else some false).bind fun x28 => (if x28 = true then some (.inl (0, 2)) else some (.inr x20)))
theorem De (Y : Nat → Prop) (w0 : World)  (p0 : List UInt8) (p1 : Int) (p2 : Int) (r : (Int × Int) ⊕ Int) (H : Be p0 p1 p2 = some r)  :
    Calls Tryd.prog 54 #[.string (bs p0), .int .i64 p1, .int .i64 p2] w0 fun e w' => HP r (fun r => ∃ x : Unit, e = .returned (.tuple #[.int .u64 r.1, .iface 106 (.int .i64 r.2)]) ∧ Stw ⟨Y, [], w0⟩ [] [] w') (fun r => ∃ x : Unit, e = .returned (.tuple #[.int .u64 r, .nilIface]) ∧ Stw ⟨Y, [], w0⟩ [] [] w') := by
 refine enter Tryd.func54 Aa Tryd.ntmps54 Aa fun a F => ?_
 have W := Stw.start Y w0
 unfold Be at H
 refine Aj (Ac ?_)
 iterate 2 refine ls F W Aa (Ag F Aa).q fun a w F W => ?_
 refine Af (Ad (Aj (Aj (Ac ?_))))
 refine ls F W Aa (Ae F Aa).q fun a w F W => ?_
 refine ls F W Aa (JP (l := p0) (m := ([] : List UInt8)) F Aa Aa).q fun a w F W => ?_
 refine Af (Ad ?_)
 refine AA F Aa (fun hb => ?_) fun hb => ?_
 ·
  have H := AZ (BQ hb) H
  rw [hb] at F
  clear hb
  refine Aj (Ac ?_)
  refine ls F W Aa (CD Je F Aa).q fun a w F W => ?_
  iterate 2 refine ls F W Aa (Ag F Aa).q fun a w F W => ?_
  refine Af (Ad (A1 (Bx ?_)))
  have H := A2 H
  subst H
  refine Fi (.inl Aa) F W Aa (AL F Aa) (AL F Aa) ?_
  exact ⟨(), Aa, W⟩
 have H := AY (BR hb) H
 rw [hb] at F
 clear hb
 refine Ax (Ad (Aj (Ac ?_)))
 refine ls F W Aa (Ae F Aa).q fun a w F W => ?_
 refine ls F W Aa (CC F Aa Aa).q fun a w F W => ?_
 refine ls F W Aa (Ag F Aa).q fun a w F W => ?_
 refine Af (Ad (Aj (Ac ?_)))
 refine ls F W Aa (Ae F Aa).q fun a w F W => ?_
 refine ls F W Aa (Ag F Aa).q fun a w F W => ?_
 refine Af (Ad ?_)
 obtain ⟨o1, G1, K1, L1⟩ := IB H
 refine AX (fun a w => ∃ x1 : List UInt8, ∃ x2 : Int, ∃ x3 : Bool, some (Sum.inl (x1, x2, x3)) = some o1 ∧ Fr 172 [] [(0, .string (bs x1)), (1, .int .i64 x2), (2, .int .i64 p2), (6, .int .u64 0), (7, .nilIface), (8, .bool x3), (9, .string (bs p0))] a ∧ Stw ⟨Y, [], w0⟩ [] [] w) ?_ ?_
 ·
  have H := G1
  clear G1 K1
  refine AF ?_
  refine AX (fun a w => Fr 172 [] [(0, .string (bs p0)), (1, .int .i64 p1), (2, .int .i64 p2), (6, .int .u64 0), (7, .nilIface), (8, .bool (decide (p1 = 0))), (9, .string (bs p0)), (25, .bool (decide (2 ≤ p1) && decide (p1 ≤ 36)))] a ∧ Stw ⟨Y, [], w0⟩ [] [] w) ?_ ?_
  ·
   refine Ac ?_
   refine ls F W Aa (Ae F Aa).q fun a w F W => ?_
   refine ls F W Aa (Fg F Aa Aa).q fun a w F W => ?_
   refine ls F W Aa (Ae F Aa).q fun a w F W => ?_
   rcases Bool.eq_false_or_eq_true (decide (2 ≤ p1)) with hb0 | hb0
   ·
    rw [hb0] at F
    refine Av F W (Ai F Aa Aa Aa Aa) Aa (Ao Aa) (Ae F Aa).q fun a w F W => ?_
    refine Av F W (Ai F Aa Aa Aa Aa) Aa (Ao Aa) (Fg F Aa Aa).q fun a w F W => ?_
    refine ls F W Aa (Au F Aa Aa Aa).q fun a w F W => ?_
    refine ls F W Aa (Ag F Aa).q fun a w F W => ?_
    refine Af (Ad ?_)
    exact ⟨F.re ⟨rfl, Aa, Aa, Aa, Aa, Aa, Aa, (IY (by try rw [hb0]; all_goals simp only [IP])), trivial⟩, W⟩
   rw [hb0] at F
   iterate 2 refine Cm F Aa Aa Aa Aa Aa Aa Aa fun a F => ?_
   refine ls F W Aa (Al F Aa Aa Aa).q fun a w F W => ?_
   refine ls F W Aa (Ag F Aa).q fun a w F W => ?_
   refine Af (Ad ?_)
   exact ⟨F.re ⟨rfl, Aa, Aa, Aa, Aa, Aa, Aa, (IY (by try rw [hb0]; all_goals simp only [IP])), trivial⟩, W⟩
  rintro a w ⟨F, W⟩
  refine AA F Aa (fun hb => ?_) fun hb => ?_
  ·
   have H := AZ hb H
   rw [hb] at F
   clear hb
   refine Ax (Bk (Ad ?_))
   exact ⟨_, _, _, H, F.re ⟨rfl, Aa, Aa, Aa, Aa, Aa, Aa, trivial⟩, W⟩
  have H := AY (by rw [hb]; decide) H
  rw [hb] at F
  clear hb
  refine Aj (Ac ?_)
  refine ls F W Aa (Ae F Aa).q fun a w F W => ?_
  refine ls F W Aa (CC F Aa Aa).q fun a w F W => ?_
  refine ls F W Aa (Ag F Aa).q fun a w F W => ?_
  refine Af (Ad ?_)
  refine AA F Aa (fun hb => ?_) fun hb => ?_
  ·
   have H := AZ (BQ hb) H
   rw [hb] at F
   clear hb
   refine Aj (Ac ?_)
   refine ls F W Aa (Ag F Aa).q fun a w F W => ?_
   refine Af (Ad (Aj (Ac ?_)))
   refine ls F W Aa (Ae F Aa).q fun a w F W => ?_
   obtain ⟨x4, h1, H⟩ := An H
   refine ls F W Aa (BP (l := p0) Fk F Aa Aa h1).q fun a w F W => ?_
   refine ls F W Aa (CC F Aa Aa).q fun a w F W => ?_
   refine Af (Ad ?_)
   refine AA F Aa (fun hb => ?_) fun hb => ?_
   ·
    have H := AZ (BQ hb) H
    rw [hb] at F
    clear hb
    refine AF ?_
    obtain ⟨o2, G2, K2⟩ := An H
    refine AX (fun a w => ∃ x5 : Bool, some (x5) = some o2 ∧ Fr 172 [] [(0, .string (bs p0)), (1, .int .i64 10), (2, .int .i64 p2), (6, .int .u64 0), (7, .nilIface), (8, .bool true), (9, .string (bs p0)), (40, .bool x5)] a ∧ Stw ⟨Y, [], w0⟩ [] [] w) ?_ ?_
    ·
     have H := G2
     clear G2 K2
     refine Ac ?_
     refine ls F W Aa (Ae F Aa).q fun a w F W => ?_
     refine ls F W Aa (Fp (l := p0) Fk Aa F Aa).q fun a w F W => ?_
     refine ls F W Aa (Gr F Aa Aa).q fun a w F W => ?_
     refine ls F W Aa (Ae F Aa).q fun a w F W => ?_
     rcases Bool.eq_false_or_eq_true (decide (3 ≤ (p0.length : Int))) with hb | hb
     ·
      have H := AZ (BQ hb) H
      rw [hb] at F
      clear hb
      refine Av F W (Ai F Aa Aa Aa Aa) Aa (Ao Aa) (Ae F Aa).q fun a w F W => ?_
      obtain ⟨x6, h2, H⟩ := An H
      refine Av F W (Ai F Aa Aa Aa Aa) Aa (Ao Aa) (BP (l := p0) Fk F Aa Aa h2).q fun a w F W => ?_
      refine Ew (Ai F Aa Aa Aa Aa) ?_
      refine ls F W Aa (Ba (v := Value.int .u8 (Ah (x6.toNat : Int))) F JL Aa (fun w W => As any w (x6.toNat : Int) _ Aa)) fun a w F W => ?_
      refine Av F W (Ai F Aa Aa Aa Aa) Aa (Ao Aa) (CC F Aa Aa).q fun a w F W => ?_
      refine ls F W Aa (Au F Aa Aa Aa).q fun a w F W => ?_
      refine ls F W Aa (Ag F Aa).q fun a w F W => ?_
      refine Af (Ad ?_)
      exact ⟨_, H, F.re ⟨rfl, Aa, Aa, Aa, Aa, Aa, Aa, Aa, trivial⟩, W⟩
     have H := AY (BR hb) H
     rw [hb] at F
     clear hb
     iterate 4 refine Cm F Aa Aa Aa Aa Aa Aa Aa fun a F => ?_
     refine ls F W Aa (Al F Aa Aa Aa).q fun a w F W => ?_
     refine ls F W Aa (Ag F Aa).q fun a w F W => ?_
     refine Af (Ad ?_)
     exact ⟨_, H, F.re ⟨rfl, Aa, Aa, Aa, Aa, Aa, Aa, Aa, trivial⟩, W⟩
    rintro a w ⟨x5, hj, F, W⟩
    have hj := A2 hj
    subst hj
    have H := K2
    clear G2 K2
    refine AA F Aa (fun hb => ?_) fun hb => ?_
    ·
     have H := AZ hb H
     rw [hb] at F
     clear hb
     refine Aj (Ac ?_)
     refine ls F W Aa (Ag F Aa).q fun a w F W => ?_
     refine Af (Ad (Ac ?_))
     refine ls F W Aa (Ae F Aa).q fun a w F W => ?_
     obtain ⟨x7, h3, H⟩ := An H
     refine ls F W Aa (Fw (l := p0) Fk F Aa Aa Aa h3).q fun a w F W => ?_
     refine ls F W Aa (Ag F Aa).q fun a w F W => ?_
     refine Af ?_
     iterate 2 refine Bk ?_
     refine Ad ?_
     exact ⟨_, _, _, H, F.re ⟨rfl, Aa, Aa, Aa, Aa, Aa, Aa, trivial⟩, W⟩
    have H := AY (by rw [hb]; decide) H
    rw [hb] at F
    clear hb
    obtain ⟨o3, G3, K3⟩ := An H
    refine AX (fun a w => ∃ x8 : Bool, some (x8) = some o3 ∧ Fr 172 [] [(0, .string (bs p0)), (1, .int .i64 10), (2, .int .i64 p2), (6, .int .u64 0), (7, .nilIface), (8, .bool true), (9, .string (bs p0)), (52, .bool x8)] a ∧ Stw ⟨Y, [], w0⟩ [] [] w) ?_ ?_
    ·
     have H := G3
     clear G3 K3
     refine Ac ?_
     refine ls F W Aa (Ae F Aa).q fun a w F W => ?_
     refine ls F W Aa (Fp (l := p0) Fk Aa F Aa).q fun a w F W => ?_
     refine ls F W Aa (Gr F Aa Aa).q fun a w F W => ?_
     refine ls F W Aa (Ae F Aa).q fun a w F W => ?_
     rcases Bool.eq_false_or_eq_true (decide (3 ≤ (p0.length : Int))) with hb | hb
     ·
      have H := AZ (BQ hb) H
      rw [hb] at F
      clear hb
      refine Av F W (Ai F Aa Aa Aa Aa) Aa (Ao Aa) (Ae F Aa).q fun a w F W => ?_
      obtain ⟨x9, h4, H⟩ := An H
      refine Av F W (Ai F Aa Aa Aa Aa) Aa (Ao Aa) (BP (l := p0) Fk F Aa Aa h4).q fun a w F W => ?_
      refine Ew (Ai F Aa Aa Aa Aa) ?_
      refine ls F W Aa (Ba (v := Value.int .u8 (Ah (x9.toNat : Int))) F JL Aa (fun w W => As any w (x9.toNat : Int) _ Aa)) fun a w F W => ?_
      refine Av F W (Ai F Aa Aa Aa Aa) Aa (Ao Aa) (CC F Aa Aa).q fun a w F W => ?_
      refine ls F W Aa (Au F Aa Aa Aa).q fun a w F W => ?_
      refine ls F W Aa (Ag F Aa).q fun a w F W => ?_
      refine Af (Ad ?_)
      exact ⟨_, H, F.re ⟨rfl, Aa, Aa, Aa, Aa, Aa, Aa, Aa, trivial⟩, W⟩
     have H := AY (BR hb) H
     rw [hb] at F
     clear hb
     iterate 4 refine Cm F Aa Aa Aa Aa Aa Aa Aa fun a F => ?_
     refine ls F W Aa (Al F Aa Aa Aa).q fun a w F W => ?_
     refine ls F W Aa (Ag F Aa).q fun a w F W => ?_
     refine Af (Ad ?_)
     exact ⟨_, H, F.re ⟨rfl, Aa, Aa, Aa, Aa, Aa, Aa, Aa, trivial⟩, W⟩
    rintro a w ⟨x8, hj, F, W⟩
    have hj := A2 hj
    subst hj
    have H := K3
    clear G3 K3
    refine AA F Aa (fun hb => ?_) fun hb => ?_
    ·
     have H := AZ hb H
     rw [hb] at F
     clear hb
     refine Aj (Ac ?_)
     refine ls F W Aa (Ag F Aa).q fun a w F W => ?_
     refine Af (Ad (Ac ?_))
     refine ls F W Aa (Ae F Aa).q fun a w F W => ?_
     obtain ⟨x10, h5, H⟩ := An H
     refine ls F W Aa (Fw (l := p0) Fk F Aa Aa Aa h5).q fun a w F W => ?_
     refine ls F W Aa (Ag F Aa).q fun a w F W => ?_
     refine Af ?_
     iterate 2 refine Bk ?_
     refine Ad ?_
     exact ⟨_, _, _, H, F.re ⟨rfl, Aa, Aa, Aa, Aa, Aa, Aa, trivial⟩, W⟩
    have H := AY (by rw [hb]; decide) H
    rw [hb] at F
    clear hb
    obtain ⟨o4, G4, K4⟩ := An H
    refine AX (fun a w => ∃ x11 : Bool, some (x11) = some o4 ∧ Fr 172 [] [(0, .string (bs p0)), (1, .int .i64 10), (2, .int .i64 p2), (6, .int .u64 0), (7, .nilIface), (8, .bool true), (9, .string (bs p0)), (64, .bool x11)] a ∧ Stw ⟨Y, [], w0⟩ [] [] w) ?_ ?_
    ·
     have H := G4
     clear G4 K4
     refine Ac ?_
     refine ls F W Aa (Ae F Aa).q fun a w F W => ?_
     refine ls F W Aa (Fp (l := p0) Fk Aa F Aa).q fun a w F W => ?_
     refine ls F W Aa (Gr F Aa Aa).q fun a w F W => ?_
     refine ls F W Aa (Ae F Aa).q fun a w F W => ?_
     rcases Bool.eq_false_or_eq_true (decide (3 ≤ (p0.length : Int))) with hb | hb
     ·
      have H := AZ (BQ hb) H
      rw [hb] at F
      clear hb
      refine Av F W (Ai F Aa Aa Aa Aa) Aa (Ao Aa) (Ae F Aa).q fun a w F W => ?_
      obtain ⟨x12, h6, H⟩ := An H
      refine Av F W (Ai F Aa Aa Aa Aa) Aa (Ao Aa) (BP (l := p0) Fk F Aa Aa h6).q fun a w F W => ?_
      refine Ew (Ai F Aa Aa Aa Aa) ?_
      refine ls F W Aa (Ba (v := Value.int .u8 (Ah (x12.toNat : Int))) F JL Aa (fun w W => As any w (x12.toNat : Int) _ Aa)) fun a w F W => ?_
      refine Av F W (Ai F Aa Aa Aa Aa) Aa (Ao Aa) (CC F Aa Aa).q fun a w F W => ?_
      refine ls F W Aa (Au F Aa Aa Aa).q fun a w F W => ?_
      refine ls F W Aa (Ag F Aa).q fun a w F W => ?_
      refine Af (Ad ?_)
      exact ⟨_, H, F.re ⟨rfl, Aa, Aa, Aa, Aa, Aa, Aa, Aa, trivial⟩, W⟩
     have H := AY (BR hb) H
     rw [hb] at F
     clear hb
     iterate 4 refine Cm F Aa Aa Aa Aa Aa Aa Aa fun a F => ?_
     refine ls F W Aa (Al F Aa Aa Aa).q fun a w F W => ?_
     refine ls F W Aa (Ag F Aa).q fun a w F W => ?_
     refine Af (Ad ?_)
     exact ⟨_, H, F.re ⟨rfl, Aa, Aa, Aa, Aa, Aa, Aa, Aa, trivial⟩, W⟩
    rintro a w ⟨x11, hj, F, W⟩
    have hj := A2 hj
    subst hj
    have H := K4
    clear G4 K4
    refine AA F Aa (fun hb => ?_) fun hb => ?_
    ·
     have H := AZ hb H
     rw [hb] at F
     clear hb
     refine Aj (Ac ?_)
     refine ls F W Aa (Ag F Aa).q fun a w F W => ?_
     refine Af (Ad (Ac ?_))
     refine ls F W Aa (Ae F Aa).q fun a w F W => ?_
     obtain ⟨x13, h7, H⟩ := An H
     refine ls F W Aa (Fw (l := p0) Fk F Aa Aa Aa h7).q fun a w F W => ?_
     refine ls F W Aa (Ag F Aa).q fun a w F W => ?_
     refine Af ?_
     iterate 2 refine Bk ?_
     refine Ad ?_
     exact ⟨_, _, _, H, F.re ⟨rfl, Aa, Aa, Aa, Aa, Aa, Aa, trivial⟩, W⟩
    have H := AY (by rw [hb]; decide) H
    rw [hb] at F
    clear hb
    refine Aj (Ac ?_)
    refine ls F W Aa (Ag F Aa).q fun a w F W => ?_
    refine Af (Ad (Ac ?_))
    refine ls F W Aa (Ae F Aa).q fun a w F W => ?_
    obtain ⟨x14, h8, H⟩ := An H
    refine ls F W Aa (Fw (l := p0) Fk F Aa Aa Aa h8).q fun a w F W => ?_
    refine ls F W Aa (Ag F Aa).q fun a w F W => ?_
    refine Af ?_
    iterate 2 refine Bk ?_
    refine Ad ?_
    exact ⟨_, _, _, H, F.re ⟨rfl, Aa, Aa, Aa, Aa, Aa, Aa, trivial⟩, W⟩
   have H := AY (BR hb) H
   rw [hb] at F
   clear hb
   refine Ax (Bk (Ad ?_))
   exact ⟨_, _, _, H, F.re ⟨rfl, Aa, Aa, Aa, Aa, Aa, Aa, trivial⟩, W⟩
  have H := AY (BR hb) H
  rw [hb] at F
  clear hb
  refine Aj (Ac ?_)
  refine ls F W Aa (CD Je F Aa).q fun a w F W => ?_
  iterate 2 refine ls F W Aa (Ag F Aa).q fun a w F W => ?_
  refine Af (Ad (A1 (B5 (Bx ?_))))
  have H := L1 _ H
  have H := A2 H
  subst H
  refine Fi (.inl Aa) F W Aa (AL F Aa) (AL F Aa) ?_
  exact ⟨(), Aa, W⟩
 rintro a w ⟨x1, x2, x3, hj, F, W⟩
 have H := K1 _ hj
 clear hj G1 K1 L1
 obtain ⟨o5, G5, K5, L5⟩ := IB H
 refine AX (fun a w => ∃ x15 : Int, some (Sum.inl x15) = some o5 ∧ Fr 172 [] [(0, .string (bs x1)), (1, .int .i64 x2), (2, .int .i64 x15), (6, .int .u64 0), (7, .nilIface), (8, .bool x3), (9, .string (bs p0))] a ∧ Stw ⟨Y, [], w0⟩ [] [] w) ?_ ?_
 ·
  have H := G5
  clear G5 K5
  refine Aj (Ac ?_)
  refine ls F W Aa (Ae F Aa).q fun a w F W => ?_
  refine ls F W Aa (CC F Aa Aa).q fun a w F W => ?_
  refine Af (Ad ?_)
  refine AA F Aa (fun hb => ?_) fun hb => ?_
  ·
   have H := AZ (BQ hb) H
   rw [hb] at F
   clear hb
   refine Ac ?_
   refine ls F W Aa (Ag F Aa).q fun a w F W => ?_
   refine Af (Ad ?_)
   exact ⟨_, H, F.re ⟨rfl, Aa, Aa, Aa, Aa, Aa, Aa, trivial⟩, W⟩
  have H := AY (BR hb) H
  rw [hb] at F
  clear hb
  refine AX (fun a w => Fr 172 [] [(0, .string (bs x1)), (1, .int .i64 x2), (2, .int .i64 p2), (6, .int .u64 0), (7, .nilIface), (8, .bool x3), (9, .string (bs p0)), (83, .bool (decide (p2 < 0) || decide (64 < p2)))] a ∧ Stw ⟨Y, [], w0⟩ [] [] w) ?_ ?_
  ·
   refine Ac ?_
   refine ls F W Aa (Ae F Aa).q fun a w F W => ?_
   refine ls F W Aa (DM F Aa Aa).q fun a w F W => ?_
   refine ls F W Aa (Ae F Aa).q fun a w F W => ?_
   rcases Bool.eq_false_or_eq_true (decide (p2 < 0)) with hb0 | hb0
   ·
    rw [hb0] at F
    iterate 2 refine Cm F Aa Aa Aa Aa Aa Aa Aa fun a F => ?_
    refine ls F W Aa (Au F Aa Aa Aa).q fun a w F W => ?_
    refine Af (Ad ?_)
    exact ⟨F.re ⟨rfl, Aa, Aa, Aa, Aa, Aa, Aa, (IY (by try rw [hb0]; all_goals simp only [IP])), trivial⟩, W⟩
   rw [hb0] at F
   refine Av F W (Ai F Aa Aa Aa Aa) Aa (Ao Aa) (Ae F Aa).q fun a w F W => ?_
   refine Av F W (Ai F Aa Aa Aa Aa) Aa (Ao Aa) (HV F Aa Aa).q fun a w F W => ?_
   refine ls F W Aa (Al F Aa Aa Aa).q fun a w F W => ?_
   refine Af (Ad ?_)
   exact ⟨F.re ⟨rfl, Aa, Aa, Aa, Aa, Aa, Aa, (IY (by try rw [hb0]; all_goals simp only [IP])), trivial⟩, W⟩
  rintro a w ⟨F, W⟩
  refine AA F Aa (fun hb => ?_) fun hb => ?_
  ·
   have H := AZ hb H
   rw [hb] at F
   clear hb
   refine Aj (Ac ?_)
   refine ls F W Aa (CD Je F Aa).q fun a w F W => ?_
   iterate 2 refine ls F W Aa (Ag F Aa).q fun a w F W => ?_
   refine Af (Ad (A1 (Bx ?_)))
   have H := L5 _ H
   have H := A2 H
   subst H
   refine Fi (.inl Aa) F W Aa (AL F Aa) (AL F Aa) ?_
   exact ⟨(), Aa, W⟩
  have H := AY (by rw [hb]; decide) H
  rw [hb] at F
  clear hb
  refine Ax (Ad ?_)
  exact ⟨_, H, F.re ⟨rfl, Aa, Aa, Aa, Aa, Aa, Aa, trivial⟩, W⟩
 rintro a w ⟨x15, hj, F, W⟩
 have H := K5 _ hj
 clear hj G5 K5 L5
 refine Aj (Ac ?_)
 refine ls F W Aa (Ag F Aa).q fun a w F W => ?_
 refine Af (Ad ?_)
 obtain ⟨o6, G6, K6⟩ := An H
 refine AX (fun a w => ∃ x16 : Int, some (x16) = some o6 ∧ Fr 172 [] [(0, .string (bs x1)), (1, .int .i64 x2), (2, .int .i64 x15), (6, .int .u64 0), (7, .nilIface), (8, .bool x3), (9, .string (bs p0)), (10, .int .u64 x16)] a ∧ Stw ⟨Y, [], w0⟩ [] [] w) ?_ ?_
 ·
  have H := G6
  clear G6 K6
  refine Aj (Ac ?_)
  refine ls F W Aa (Ae F Aa).q fun a w F W => ?_
  refine Af (Ad (AF (Aj (Ac ?_))))
  refine ls F W Aa (CC F Aa Aa).q fun a w F W => ?_
  refine ls F W Aa (Ag F Aa).q fun a w F W => ?_
  refine Af (Ad ?_)
  refine AA F Aa (fun hb => ?_) fun hb => ?_
  ·
   have H := AZ (BQ hb) H
   rw [hb] at F
   clear hb
   refine Ac ?_
   refine ls F W Aa (Ag F Aa).q fun a w F W => ?_
   refine Af (Bk (Ad ?_))
   exact ⟨_, H, F.re ⟨rfl, Aa, Aa, Aa, Aa, Aa, Aa, Aa, trivial⟩, W⟩
  have H := AY (BR hb) H
  rw [hb] at F
  clear hb
  refine Aj (Ac ?_)
  refine ls F W Aa (CC F Aa Aa).q fun a w F W => ?_
  refine ls F W Aa (Ag F Aa).q fun a w F W => ?_
  refine Af (Ad ?_)
  refine AA F Aa (fun hb => ?_) fun hb => ?_
  ·
   have H := AZ (BQ hb) H
   rw [hb] at F
   clear hb
   refine Ac ?_
   refine ls F W Aa (Ag F Aa).q fun a w F W => ?_
   refine Af (Bk (Ad ?_))
   exact ⟨_, H, F.re ⟨rfl, Aa, Aa, Aa, Aa, Aa, Aa, Aa, trivial⟩, W⟩
  have H := AY (BR hb) H
  rw [hb] at F
  clear hb
  refine Ac ?_
  refine ls F W Aa (Ae F Aa).q fun a w F W => ?_
  refine ls F W Aa (DX Jc KJ F Aa).q fun a w F W => ?_
  obtain ⟨x17, h9, H⟩ := An H
  refine ls F W Aa (Mi F Aa Aa (Gh h9).1 (Gh h9).2).q fun a w F W => ?_
  refine ls F W Aa (DJ F Aa Aa Aa).q fun a w F W => ?_
  refine ls F W Aa (Ag F Aa).q fun a w F W => ?_
  refine Af (Bk (Ad ?_))
  exact ⟨_, H, F.re ⟨rfl, Aa, Aa, Aa, Aa, Aa, Aa, Aa, trivial⟩, W⟩
 rintro a w ⟨x16, hj, F, W⟩
 have hj := A2 hj
 subst hj
 have H := K6
 clear G6 K6
 refine Aj (Ac ?_)
 refine ls F W Aa (Ae F Aa).q fun a w F W => ?_
 refine ls F W Aa (DX Jc LP F Aa).q fun a w F W => ?_
 obtain ⟨x18, h10, H⟩ := An H
 refine ls F W Aa (Mf (Gi h10).2 (Nh F Aa Aa (Gi h10).1)).q fun a w F W => ?_
 refine ls F W Aa (Ff F Aa Aa Aa).q fun a w F W => ?_
 refine ls F W Aa (Ag F Aa).q fun a w F W => ?_
 refine Af (Ad (Aj (Ac ?_)))
 refine ls F W Aa (Ag F Aa).q fun a w F W => ?_
 refine Af (Ad (Aj (Ac ?_)))
 refine ls F W Aa (Ag F Aa).q fun a w F W => ?_
 refine Af (Ad ?_)
 obtain ⟨o7, G7, K7, L7⟩ := IB H
 refine AX (fun a w => ∃ x19 : Bool, ∃ x20 : Int, some (Sum.inl (x19, x20)) = some o7 ∧ Fr 172 [] [(6, .int .u64 0), (7, .nilIface), (9, .string (bs p0)), (12, .bool x19), (13, .int .u64 x20)] a ∧ Stw ⟨Y, [], w0⟩ [] [] w) ?_ ?_
 ·
  have H := G7
  clear G7 K7
  refine Aj (Ac ?_)
  refine ls F W Aa (Ae F Aa).q fun a w F W => ?_
  refine LN (l := x1) Fk LT Nt F W Aa Aa fun v1 a w F W => ?_
  have W : Stw ⟨Y, [], w0⟩ [] [Ij v1 (Rp.int .u8) (List.map (fun b => (b.toNat : Int)) x1)] w := W
  refine ls F W Aa (Dg (r := (Rp.int .u8)) (l := (List.map (fun b => (b.toNat : Int)) x1)) LT Aa F Aa (Ik 0 Aa)).q fun a w F W => ?_
  refine ls F W Aa (Ae F Aa).q fun a w F W => ?_
  refine Af (Ad (AF ?_))
  refine CA H (fun s a w => Fr 172 [] [(1, .int .i64 x2), (6, .int .u64 0), (7, .nilIface), (8, .bool x3), (9, .string (bs p0)), (10, .int .u64 x16), (11, .int .u64 (IntKind.u64.wrap (x18 - 1))), (12, .bool s.1), (13, .int .u64 s.2.1), (99, v1), (100, .int .i64 ((List.map (fun b => (b.toNat : Int)) x1).length : Int)), (101, .int .i64 s.2.2)] a ∧ Stw ⟨Y, [], w0⟩ [] [Ij v1 (Rp.int .u8) (List.map (fun b => (b.toNat : Int)) x1)] w) ⟨F.re ⟨rfl, Aa, Aa, Aa, Aa, Aa, Aa, Aa, Aa, Aa, Aa, Aa, trivial⟩, W⟩ fun s o a w H L8 hR => ?_
  obtain ⟨x21, x22, x23⟩ := s
  obtain ⟨F, W⟩ := hR
  have F : Fr 172 [] [(1, .int .i64 x2), (6, .int .u64 0), (7, .nilIface), (8, .bool x3), (9, .string (bs p0)), (10, .int .u64 x16), (11, .int .u64 (IntKind.u64.wrap (x18 - 1))), (12, .bool x21), (13, .int .u64 x22), (99, v1), (100, .int .i64 ((List.map (fun b => (b.toNat : Int)) x1).length : Int)), (101, .int .i64 x23)] a := F
  have W : Stw ⟨Y, [], w0⟩ [] [Ij v1 (Rp.int .u8) (List.map (fun b => (b.toNat : Int)) x1)] w := W
  rw [AB] at H
  refine Aj (Ac ?_)
  refine ls F W Aa (DM F Aa Aa).q fun a w F W => ?_
  refine Af (Ad (Aj ?_))
  refine AA F Aa (fun hb => ?_) fun hb => ?_
  ·
   have H := AZ (BQ hb) H
   rw [hb] at F
   clear hb
   refine Ax (Ad ?_)
   obtain ⟨o9, G9, K9, L9⟩ := IB H
   refine AX (fun a w => ∃ x24 : Bool, ∃ x25 : Int, some (Sum.inl (x24, x25)) = some o9 ∧ Fr 172 [] [(1, .int .i64 x2), (6, .int .u64 0), (7, .nilIface), (8, .bool x3), (9, .string (bs p0)), (10, .int .u64 x16), (11, .int .u64 (IntKind.u64.wrap (x18 - 1))), (12, .bool x24), (13, .int .u64 x25), (99, v1), (100, .int .i64 ((List.map (fun b => (b.toNat : Int)) x1).length : Int)), (101, .int .i64 x23)] a ∧ Stw ⟨Y, [], w0⟩ [] [Ij v1 (Rp.int .u8) (List.map (fun b => (b.toNat : Int)) x1)] w) ?_ ?_
   ·
    have H := G9
    clear G9 K9
    refine AF (Aj (Ac ?_))
    obtain ⟨x26, h11, H⟩ := An H
    refine ls F W Aa (Cv (r := (Rp.int .u8)) Ox F Aa Aa (Ik 0 Aa) h11).q fun a w F W => ?_
    refine ls F W Aa (A3 (y := Value.int .u8 x26) (j := 0) (i := x23) F Aa Aa (Ik 0 Aa) h11 Fl.int.to T5 Aa).q fun a w F W => ?_
    refine ls F W Aa (Ag F Aa).q fun a w F W => ?_
    refine Af (Ad (Aj (Ac ?_)))
    refine ls F W Aa (Ag F Aa).q fun a w F W => ?_
    refine Af (Ad ?_)
    obtain ⟨o10, G10, K10, L10⟩ := IB H
    refine AX (fun a w => ∃ x27 : Int, some (Sum.inl x27) = some o10 ∧ Fr 172 [] [(1, .int .i64 x2), (6, .int .u64 0), (7, .nilIface), (8, .bool x3), (9, .string (bs p0)), (10, .int .u64 x16), (11, .int .u64 (IntKind.u64.wrap (x18 - 1))), (12, .bool x21), (13, .int .u64 x22), (16, .int .u8 x27), (99, v1), (100, .int .i64 ((List.map (fun b => (b.toNat : Int)) x1).length : Int)), (101, .int .i64 x23)] a ∧ Stw ⟨Y, [], w0⟩ [] [Ij v1 (Rp.int .u8) (List.map (fun b => (b.toNat : Int)) x1)] w) ?_ ?_
    ·
     have H := G10
     clear G10 K10
     refine AF ?_
     refine AX (fun a w => Fr 172 [] [(1, .int .i64 x2), (6, .int .u64 0), (7, .nilIface), (8, .bool x3), (9, .string (bs p0)), (10, .int .u64 x16), (11, .int .u64 (IntKind.u64.wrap (x18 - 1))), (12, .bool x21), (13, .int .u64 x22), (15, .int .u8 x26), (16, .int .u8 0), (99, v1), (100, .int .i64 ((List.map (fun b => (b.toNat : Int)) x1).length : Int)), (101, .int .i64 x23), (106, .bool (decide (x26 = 95) && x3))] a ∧ Stw ⟨Y, [], w0⟩ [] [Ij v1 (Rp.int .u8) (List.map (fun b => (b.toNat : Int)) x1)] w) ?_ ?_
     ·
      refine Ac ?_
      refine ls F W Aa (Ae F Aa).q fun a w F W => ?_
      refine ls F W Aa (CC F Aa Aa).q fun a w F W => ?_
      refine ls F W Aa (Ae F Aa).q fun a w F W => ?_
      rcases Bool.eq_false_or_eq_true (decide (x26 = 95)) with hb0 | hb0
      ·
       rw [hb0] at F
       refine Av F W (Ai F Aa Aa Aa Aa) Aa (Ao Aa) (Ae F Aa).q fun a w F W => ?_
       refine ls F W Aa (Au F Aa Aa Aa).q fun a w F W => ?_
       refine ls F W Aa (Ag F Aa).q fun a w F W => ?_
       refine Af (Ad ?_)
       exact ⟨F.re ⟨rfl, Aa, Aa, Aa, Aa, Aa, Aa, Aa, Aa, Aa, Aa, Aa, Aa, Aa, (IY (by try rw [hb0]; all_goals simp only [IP])), trivial⟩, W⟩
      rw [hb0] at F
      refine Cm F Aa Aa Aa Aa Aa Aa Aa fun a F => ?_
      refine ls F W Aa (Al F Aa Aa Aa).q fun a w F W => ?_
      refine ls F W Aa (Ag F Aa).q fun a w F W => ?_
      refine Af (Ad ?_)
      exact ⟨F.re ⟨rfl, Aa, Aa, Aa, Aa, Aa, Aa, Aa, Aa, Aa, Aa, Aa, Aa, Aa, (IY (by try rw [hb0]; all_goals simp only [IP])), trivial⟩, W⟩
     rintro a w ⟨F, W⟩
     refine AA F Aa (fun hb => ?_) fun hb => ?_
     ·
      have H := AZ hb H
      rw [hb] at F
      clear hb
      refine Aj (Ac ?_)
      refine ls F W Aa (Ag F Aa).q fun a w F W => ?_
      refine Af (Ad (Ci ?_))
      refine MN Aa ?_
      refine CM (Cj (Ad ?_))
      have H := L10 _ H
      exact ⟨_, _, H, F.re ⟨rfl, Aa, Aa, Aa, Aa, Aa, Aa, Aa, Aa, Aa, Aa, Aa, trivial⟩, W⟩
     have H := AY (by rw [hb]; decide) H
     rw [hb] at F
     clear hb
     refine AX (fun a w => Fr 172 [] [(1, .int .i64 x2), (6, .int .u64 0), (7, .nilIface), (8, .bool x3), (9, .string (bs p0)), (10, .int .u64 x16), (11, .int .u64 (IntKind.u64.wrap (x18 - 1))), (12, .bool x21), (13, .int .u64 x22), (15, .int .u8 x26), (16, .int .u8 0), (99, v1), (100, .int .i64 ((List.map (fun b => (b.toNat : Int)) x1).length : Int)), (101, .int .i64 x23), (112, .bool (decide (48 ≤ x26) && decide (x26 ≤ 57)))] a ∧ Stw ⟨Y, [], w0⟩ [] [Ij v1 (Rp.int .u8) (List.map (fun b => (b.toNat : Int)) x1)] w) ?_ ?_
     ·
      refine Ac ?_
      refine ls F W Aa (Ae F Aa).q fun a w F W => ?_
      refine ls F W Aa (Fg F Aa Aa).q fun a w F W => ?_
      refine ls F W Aa (Ae F Aa).q fun a w F W => ?_
      rcases Bool.eq_false_or_eq_true (decide (48 ≤ x26)) with hb0 | hb0
      ·
       rw [hb0] at F
       refine Av F W (Ai F Aa Aa Aa Aa) Aa (Ao Aa) (Ae F Aa).q fun a w F W => ?_
       refine Av F W (Ai F Aa Aa Aa Aa) Aa (Ao Aa) (Fg F Aa Aa).q fun a w F W => ?_
       refine ls F W Aa (Au F Aa Aa Aa).q fun a w F W => ?_
       refine ls F W Aa (Ag F Aa).q fun a w F W => ?_
       refine Af (Ad ?_)
       exact ⟨F.re ⟨rfl, Aa, Aa, Aa, Aa, Aa, Aa, Aa, Aa, Aa, Aa, Aa, Aa, Aa, (IY (by try rw [hb0]; all_goals simp only [IP])), trivial⟩, W⟩
      rw [hb0] at F
      iterate 2 refine Cm F Aa Aa Aa Aa Aa Aa Aa fun a F => ?_
      refine ls F W Aa (Al F Aa Aa Aa).q fun a w F W => ?_
      refine ls F W Aa (Ag F Aa).q fun a w F W => ?_
      refine Af (Ad ?_)
      exact ⟨F.re ⟨rfl, Aa, Aa, Aa, Aa, Aa, Aa, Aa, Aa, Aa, Aa, Aa, Aa, Aa, (IY (by try rw [hb0]; all_goals simp only [IP])), trivial⟩, W⟩
     rintro a w ⟨F, W⟩
     refine AA F Aa (fun hb => ?_) fun hb => ?_
     ·
      have H := AZ hb H
      rw [hb] at F
      clear hb
      refine Ac ?_
      refine ls F W Aa (Ae F Aa).q fun a w F W => ?_
      refine ls F W Aa (Ff F Aa Aa Aa).q fun a w F W => ?_
      refine ls F W Aa (Ag F Aa).q fun a w F W => ?_
      refine Af (Bk (Ad ?_))
      exact ⟨_, H, F.re ⟨rfl, Aa, Aa, Aa, Aa, Aa, Aa, Aa, Aa, Aa, Aa, Aa, Aa, trivial⟩, W⟩
     have H := AY (by rw [hb]; decide) H
     rw [hb] at F
     clear hb
     refine AX (fun a w => Fr 172 [] [(1, .int .i64 x2), (6, .int .u64 0), (7, .nilIface), (8, .bool x3), (9, .string (bs p0)), (10, .int .u64 x16), (11, .int .u64 (IntKind.u64.wrap (x18 - 1))), (12, .bool x21), (13, .int .u64 x22), (15, .int .u8 x26), (16, .int .u8 0), (99, v1), (100, .int .i64 ((List.map (fun b => (b.toNat : Int)) x1).length : Int)), (101, .int .i64 x23), (121, .bool (decide (97 ≤ (Ah x26)) && decide ((Ah x26) ≤ 122)))] a ∧ Stw ⟨Y, [], w0⟩ [] [Ij v1 (Rp.int .u8) (List.map (fun b => (b.toNat : Int)) x1)] w) ?_ ?_
     ·
      refine Ac ?_
      refine ls F W Aa (Ae F Aa).q fun a w F W => ?_
      refine ls F W Aa (Ba (v := Value.int .u8 (Ah x26)) F JL Aa (fun w W => As any w x26 _ Aa)) fun a w F W => ?_
      refine ls F W Aa (Fg F Aa Aa).q fun a w F W => ?_
      refine ls F W Aa (Ae F Aa).q fun a w F W => ?_
      rcases Bool.eq_false_or_eq_true (decide (97 ≤ (Ah x26))) with hb0 | hb0
      ·
       rw [hb0] at F
       refine Av F W (Ai F Aa Aa Aa Aa) Aa (Ao Aa) (Ae F Aa).q fun a w F W => ?_
       refine Ew (Ai F Aa Aa Aa Aa) ?_
       refine ls F W Aa (Ba (v := Value.int .u8 (Ah x26)) F JL Aa (fun w W => As any w x26 _ Aa)) fun a w F W => ?_
       refine Av F W (Ai F Aa Aa Aa Aa) Aa (Ao Aa) (Fg F Aa Aa).q fun a w F W => ?_
       refine ls F W Aa (Au F Aa Aa Aa).q fun a w F W => ?_
       refine ls F W Aa (Ag F Aa).q fun a w F W => ?_
       refine Af (Ad ?_)
       exact ⟨F.re ⟨rfl, Aa, Aa, Aa, Aa, Aa, Aa, Aa, Aa, Aa, Aa, Aa, Aa, Aa, (IY (by try rw [hb0]; all_goals simp only [IP])), trivial⟩, W⟩
      rw [hb0] at F
      iterate 3 refine Cm F Aa Aa Aa Aa Aa Aa Aa fun a F => ?_
      refine ls F W Aa (Al F Aa Aa Aa).q fun a w F W => ?_
      refine ls F W Aa (Ag F Aa).q fun a w F W => ?_
      refine Af (Ad ?_)
      exact ⟨F.re ⟨rfl, Aa, Aa, Aa, Aa, Aa, Aa, Aa, Aa, Aa, Aa, Aa, Aa, Aa, (IY (by try rw [hb0]; all_goals simp only [IP])), trivial⟩, W⟩
     rintro a w ⟨F, W⟩
     refine AA F Aa (fun hb => ?_) fun hb => ?_
     ·
      have H := AZ hb H
      rw [hb] at F
      clear hb
      refine Ac ?_
      refine ls F W Aa (Ae F Aa).q fun a w F W => ?_
      refine ls F W Aa (Ba (v := Value.int .u8 (Ah x26)) F JL Aa (fun w W => As any w x26 _ Aa)) fun a w F W => ?_
      refine ls F W Aa (Ff F Aa Aa Aa).q fun a w F W => ?_
      refine ls F W Aa (DJ F Aa Aa Aa).q fun a w F W => ?_
      refine ls F W Aa (Ag F Aa).q fun a w F W => ?_
      refine Af (Bk (Ad ?_))
      exact ⟨_, H, F.re ⟨rfl, Aa, Aa, Aa, Aa, Aa, Aa, Aa, Aa, Aa, Aa, Aa, Aa, trivial⟩, W⟩
     have H := AY (by rw [hb]; decide) H
     rw [hb] at F
     clear hb
     refine Aj (Ac ?_)
     refine ls F W Aa (CD Je F Aa).q fun a w F W => ?_
     iterate 2 refine ls F W Aa (Ag F Aa).q fun a w F W => ?_
     refine Af (Ad (A1 (B5 (Bx (B5 ?_)))))
     iterate 2 refine Bx ?_
     refine B5 (Bx ?_)
     have H := L10 _ H
     have H := L9 _ H
     have H := L8 _ H
     have H := L7 _ H
     have H := A2 H
     subst H
     refine Fi (.inl Aa) F W Aa (AL F Aa) (AL F Aa) ?_
     have W := W.sub (M' := []) (Z' := []) (List.Sublist.refl _) (List.nil_sublist _)
     exact ⟨(), Aa, W⟩
    rintro a w ⟨x27, hj, F, W⟩
    have H := K10 _ hj
    clear hj G10 K10 L10
    refine Aj (Aj (Ac ?_))
    iterate 2 refine ls F W Aa (Ae F Aa).q fun a w F W => ?_
    refine ls F W Aa (DX Jc Nt F Aa).q fun a w F W => ?_
    refine ls F W Aa (Gr F Aa Aa).q fun a w F W => ?_
    refine Af (Ad ?_)
    refine AA F Aa (fun hb => ?_) fun hb => ?_
    ·
     have H := AZ (BQ hb) H
     rw [hb] at F
     clear hb
     refine Aj (Ac ?_)
     refine ls F W Aa (CD Je F Aa).q fun a w F W => ?_
     iterate 2 refine ls F W Aa (Ag F Aa).q fun a w F W => ?_
     refine Af (Ad (A1 (Bx (B5 ?_))))
     iterate 2 refine Bx ?_
     refine B5 (Bx ?_)
     have H := L9 _ H
     have H := L8 _ H
     have H := L7 _ H
     have H := A2 H
     subst H
     refine Fi (.inl Aa) F W Aa (AL F Aa) (AL F Aa) ?_
     have W := W.sub (M' := []) (Z' := []) (List.Sublist.refl _) (List.nil_sublist _)
     exact ⟨(), Aa, W⟩
    have H := AY (BR hb) H
    rw [hb] at F
    clear hb
    refine Ax (Ad (Aj (Aj (Ac ?_))))
    iterate 2 refine ls F W Aa (Ae F Aa).q fun a w F W => ?_
    refine ls F W Aa (Gr F Aa Aa).q fun a w F W => ?_
    refine Af (Ad ?_)
    refine AA F Aa (fun hb => ?_) fun hb => ?_
    ·
     have H := AZ (BQ hb) H
     rw [hb] at F
     clear hb
     refine Aj (Ac ?_)
     refine ls F W Aa (Ae F Aa).q fun a w F W => ?_
     refine ls F W Aa (CD Je F Aa).q fun a w F W => ?_
     iterate 2 refine ls F W Aa (Ag F Aa).q fun a w F W => ?_
     refine Af (Ad (A1 (Bx (B5 ?_))))
     iterate 2 refine Bx ?_
     refine B5 (Bx ?_)
     have H := L9 _ H
     have H := L8 _ H
     have H := L7 _ H
     have H := A2 H
     subst H
     refine Fi (.inl Aa) F W Aa (AL F Aa) (AL F Aa) ?_
     have W := W.sub (M' := []) (Z' := []) (List.Sublist.refl _) (List.nil_sublist _)
     exact ⟨(), Aa, W⟩
    have H := AY (BR hb) H
    rw [hb] at F
    clear hb
    refine Ax (Ad (Aj (Ac ?_)))
    iterate 2 refine ls F W Aa (Ae F Aa).q fun a w F W => ?_
    refine ls F W Aa (DX Jc KJ F Aa).q fun a w F W => ?_
    refine ls F W Aa (Mn F Aa Aa Aa).q fun a w F W => ?_
    refine ls F W Aa (Ag F Aa).q fun a w F W => ?_
    refine Af (Ad (Aj (Ac ?_)))
    iterate 2 refine ls F W Aa (Ae F Aa).q fun a w F W => ?_
    refine ls F W Aa (DX Nt KJ F Aa).q fun a w F W => ?_
    refine ls F W Aa (DJ F Aa Aa Aa).q fun a w F W => ?_
    refine ls F W Aa (Ag F Aa).q fun a w F W => ?_
    refine Af (Ad (Aj ?_))
    refine AX (fun a w => Fr 172 [] [(1, .int .i64 x2), (6, .int .u64 0), (7, .nilIface), (8, .bool x3), (9, .string (bs p0)), (10, .int .u64 x16), (11, .int .u64 (IntKind.u64.wrap (x18 - 1))), (12, .bool x21), (13, .int .u64 (IntKind.u64.wrap (x22 * (IntKind.u64.wrap x2)))), (17, .int .u64 (IntKind.u64.wrap ((IntKind.u64.wrap (x22 * (IntKind.u64.wrap x2))) + (IntKind.u64.wrap x27)))), (99, v1), (100, .int .i64 ((List.map (fun b => (b.toNat : Int)) x1).length : Int)), (101, .int .i64 x23), (159, .bool (decide ((IntKind.u64.wrap ((IntKind.u64.wrap (x22 * (IntKind.u64.wrap x2))) + (IntKind.u64.wrap x27))) < (IntKind.u64.wrap (x22 * (IntKind.u64.wrap x2)))) || decide ((IntKind.u64.wrap (x18 - 1)) < (IntKind.u64.wrap ((IntKind.u64.wrap (x22 * (IntKind.u64.wrap x2))) + (IntKind.u64.wrap x27))))))] a ∧ Stw ⟨Y, [], w0⟩ [] [Ij v1 (Rp.int .u8) (List.map (fun b => (b.toNat : Int)) x1)] w) ?_ ?_
    ·
     refine Ac ?_
     iterate 2 refine ls F W Aa (Ae F Aa).q fun a w F W => ?_
     refine ls F W Aa (DM F Aa Aa).q fun a w F W => ?_
     refine ls F W Aa (Ae F Aa).q fun a w F W => ?_
     rcases Bool.eq_false_or_eq_true (decide ((IntKind.u64.wrap ((IntKind.u64.wrap (x22 * (IntKind.u64.wrap x2))) + (IntKind.u64.wrap x27))) < (IntKind.u64.wrap (x22 * (IntKind.u64.wrap x2))))) with hb0 | hb0
     ·
      rw [hb0] at F
      iterate 3 refine Cm F Aa Aa Aa Aa Aa Aa Aa fun a F => ?_
      refine ls F W Aa (Au F Aa Aa Aa).q fun a w F W => ?_
      refine Af (Ad ?_)
      exact ⟨F.re ⟨rfl, Aa, Aa, Aa, Aa, Aa, Aa, Aa, Aa, Aa, Aa, Aa, Aa, (IY (by try rw [hb0]; all_goals simp only [IP])), trivial⟩, W⟩
     rw [hb0] at F
     iterate 2 refine Av F W (Ai F Aa Aa Aa Aa) Aa (Ao Aa) (Ae F Aa).q fun a w F W => ?_
     refine Av F W (Ai F Aa Aa Aa Aa) Aa (Ao Aa) (HV F Aa Aa).q fun a w F W => ?_
     refine ls F W Aa (Al F Aa Aa Aa).q fun a w F W => ?_
     refine Af (Ad ?_)
     exact ⟨F.re ⟨rfl, Aa, Aa, Aa, Aa, Aa, Aa, Aa, Aa, Aa, Aa, Aa, Aa, (IY (by try rw [hb0]; all_goals simp only [IP])), trivial⟩, W⟩
    rintro a w ⟨F, W⟩
    refine AA F Aa (fun hb => ?_) fun hb => ?_
    ·
     have H := AZ hb H
     rw [hb] at F
     clear hb
     refine Aj (Ac ?_)
     refine ls F W Aa (Ae F Aa).q fun a w F W => ?_
     refine ls F W Aa (CD Je F Aa).q fun a w F W => ?_
     iterate 2 refine ls F W Aa (Ag F Aa).q fun a w F W => ?_
     refine Af (Ad (A1 (Bx (B5 ?_))))
     iterate 2 refine Bx ?_
     refine B5 (Bx ?_)
     have H := L9 _ H
     have H := L8 _ H
     have H := L7 _ H
     have H := A2 H
     subst H
     refine Fi (.inl Aa) F W Aa (AL F Aa) (AL F Aa) ?_
     have W := W.sub (M' := []) (Z' := []) (List.Sublist.refl _) (List.nil_sublist _)
     exact ⟨(), Aa, W⟩
    have H := AY (by rw [hb]; decide) H
    rw [hb] at F
    clear hb
    refine Ax (Ad (Ac ?_))
    refine ls F W Aa (Ae F Aa).q fun a w F W => ?_
    refine ls F W Aa (Ag F Aa).q fun a w F W => ?_
    refine Af (Bk (Ad ?_))
    exact ⟨_, _, H, F.re ⟨rfl, Aa, Aa, Aa, Aa, Aa, Aa, Aa, Aa, Aa, Aa, Aa, trivial⟩, W⟩
   rintro a w ⟨x24, x25, hj, F, W⟩
   have H := K9 _ hj
   clear hj G9 K9 L9
   refine Ac ?_
   refine ls F W Aa (DJ F Aa Aa Aa).q fun a w F W => ?_
   refine ls F W Aa (Ae F Aa).q fun a w F W => ?_
   refine Af (Ad ?_)
   exact ⟨_, H, F.re ⟨rfl, Aa, Aa, Aa, Aa, Aa, Aa, Aa, Aa, Aa, Aa, Aa, trivial⟩, W⟩
  have H := AY (BR hb) H
  rw [hb] at F
  clear hb
  refine Ci ?_
  iterate 2 refine CM ?_
  refine Cj (Ad ?_)
  have W := W.sub (M' := []) (Z' := []) (List.Sublist.refl _) (List.nil_sublist _)
  have H := L8 _ H
  exact ⟨_, _, H, F.re ⟨rfl, Aa, Aa, Aa, Aa, trivial⟩, W⟩
 rintro a w ⟨x19, x20, hj, F, W⟩
 have H := K7 _ hj
 clear hj G7 K7 L7
 refine Aj ?_
 obtain ⟨o11, G11, K11⟩ := An H
 refine AX (fun a w => ∃ x28 : Bool, some (x28) = some o11 ∧ Fr 172 [] [(6, .int .u64 0), (7, .nilIface), (13, .int .u64 x20), (169, .bool x28)] a ∧ Stw ⟨Y, [], w0⟩ [] [] w) ?_ ?_
 ·
  have H := G11
  clear G11 K11
  refine Ac ?_
  iterate 2 refine ls F W Aa (Ae F Aa).q fun a w F W => ?_
  rcases Bool.eq_false_or_eq_true x19 with hb | hb
  ·
   have H := AZ hb H
   rw [hb] at F
   clear hb
   refine Av F W (Ai F Aa Aa Aa Aa) Aa (Ao Aa) (Ae F Aa).q fun a w F W => ?_
   refine Ew (Ai F Aa Aa Aa Aa) ?_
   obtain ⟨x29, h12, H⟩ := An H
   refine ls F W Aa (Ba (v := Value.bool x29) F Og Aa (fun w W => DI any w p0 _ h12)) fun a w F W => ?_
   refine Av F W (Ai F Aa Aa Aa Aa) Aa (Ao Aa) (JO F Aa).q fun a w F W => ?_
   refine ls F W Aa (Au F Aa Aa Aa).q fun a w F W => ?_
   refine Af (Ad ?_)
   exact ⟨_, H, F.re ⟨rfl, Aa, Aa, Aa, trivial⟩, W⟩
  have H := AY (by rw [hb]; decide) H
  rw [hb] at F
  clear hb
  iterate 3 refine Cm F Aa Aa Aa Aa Aa Aa Aa fun a F => ?_
  refine ls F W Aa (Al F Aa Aa Aa).q fun a w F W => ?_
  refine Af (Ad ?_)
  exact ⟨_, H, F.re ⟨rfl, Aa, Aa, Aa, trivial⟩, W⟩
 rintro a w ⟨x28, hj, F, W⟩
 have hj := A2 hj
 subst hj
 have H := K11
 clear G11 K11
 refine AA F Aa (fun hb => ?_) fun hb => ?_
 ·
  have H := AZ hb H
  rw [hb] at F
  clear hb
  refine Aj (Ac ?_)
  refine ls F W Aa (CD Je F Aa).q fun a w F W => ?_
  iterate 2 refine ls F W Aa (Ag F Aa).q fun a w F W => ?_
  refine Af (Ad (A1 (Bx ?_)))
  have H := A2 H
  subst H
  refine Fi (.inl Aa) F W Aa (AL F Aa) (AL F Aa) ?_
  exact ⟨(), Aa, W⟩
 have H := AY (by rw [hb]; decide) H
 rw [hb] at F
 clear hb
 refine Ax (Ad (Aj (Ac ?_)))
 refine ls F W Aa (Ae F Aa).q fun a w F W => ?_
 iterate 2 refine ls F W Aa (Ag F Aa).q fun a w F W => ?_
 refine Af (Ad (A1 ?_))
 have H := A2 H
 subst H
 refine Fi (.inl Aa) F W Aa (AL F Aa) (AL F Aa) ?_
 exact ⟨(), Aa, W⟩
theorem NR : Has Tryd.prog 54 := ⟨fun args w => Am Tryd.func54 rfl (by decide) args w⟩
theorem Ov : Has Tryd.prog 53 := ⟨fun args w => Am Tryd.func53 rfl (by decide) args w⟩
noncomputable def Ca (p0 : List UInt8) (p1 : Int) (p2 : Int) : Option (Int ⊕ Int) := (Be p0 p1 p2).bind fun x1 => B3 x1 (fun x2 => (Gw ([80, 97, 114, 115, 101, 85, 105, 110, 116] : List UInt8) p0 p1 p2 x2.2).bind fun x4 => some (.inl x2.1)) (fun x3 => some (.inr x3))
theorem Ej (Y : Nat → Prop) (w0 : World)  (p0 : List UInt8) (p1 : Int) (p2 : Int) (r : Int ⊕ Int) (H : Ca p0 p1 p2 = some r) (hG : Gk [] w0) :
    Calls Tryd.prog 42 #[.string (bs p0), .int .i64 p1, .int .i64 p2] w0 fun e w' => HP r (fun r => ∃ x : Nat, e = .returned (.tuple #[.int .u64 r, .iface 109 (.pointer (some ⟨x, 0, none⟩))]) ∧ Stw ⟨Y, [], w0⟩ [] [] w') (fun r => ∃ x : Unit, e = .returned (.tuple #[.int .u64 r, .nilIface]) ∧ Stw ⟨Y, [], w0⟩ [] [] w') := by
 refine enter Tryd.func42 Aa Tryd.ntmps42 Aa fun a F => ?_
 have W := Stw.start Y w0
 unfold Ca at H
 refine Aj (Ac ?_)
 iterate 2 refine ls F W Aa (Ag F Aa).q fun a w F W => ?_
 refine Af (Ad (Aj (Ac ?_)))
 iterate 3 refine ls F W Aa (Ae F Aa).q fun a w F W => ?_
 obtain ⟨x1, h1, H⟩ := An H
 rcases x1 with x2 | x3
 ·
  have H := EG H
  refine AE (Ml := []) (Zl := []) (M := []) (Z := []) (β := Unit) (rv := fun x => .tuple #[.int .u64 x2.1, .iface 106 (.int .i64 x2.2)]) (MM := fun x => []) (ZZ := fun x => []) F W NR Aa Aa (fun hL => De _ w p0 p1 p2 _ h1) fun x a w F W => ?_
  have W : Stw ⟨Y, [], w0⟩ [] [] w := W
  refine ls F W Aa (Ae F Aa).q fun a w F W => ?_
  refine ls F W Aa (AP (v := Value.int .u64 x2.1) F Aa Aa).q fun a w F W => ?_
  refine ls F W Aa (AP (v := Value.iface 106 (.int .i64 x2.2)) F Aa Aa).q fun a w F W => ?_
  iterate 2 refine ls F W Aa (Ag F Aa).q fun a w F W => ?_
  refine Af (Ad (Aj (Aj (Ac ?_))))
  refine ls F W Aa (Ae F Aa).q fun a w F W => ?_
  refine ls F W Aa (DU Kk F Aa).q fun a w F W => ?_
  refine Af (Ad ?_)
  refine Gg F Aa ?_
  refine Aj (Ac ?_)
  iterate 5 refine ls F W Aa (Ae F Aa).q fun a w F W => ?_
  obtain ⟨x4, h2, H⟩ := An H
  refine AE (Ml := []) (Zl := []) (M := []) (Z := []) (β := Nat) (rv := fun x => .iface 109 (.pointer (some ⟨x, 0, none⟩))) (MM := fun x => []) (ZZ := fun x => []) F W Ov Aa Aa (fun hL => LF _ w ([80, 97, 114, 115, 101, 85, 105, 110, 116] : List UInt8) p0 p1 p2 x2.2 _ h2 (hG.go0 W)) fun x a w F W => ?_
  obtain ⟨b1, rfl⟩ : ∃ y, y = x := ⟨x, rfl⟩
  have W : Stw ⟨Y, [], w0⟩ [] [] w := W
  iterate 2 refine ls F W Aa (Ag F Aa).q fun a w F W => ?_
  refine Af (Ad (A1 (Bx ?_)))
  have H := A2 H
  subst H
  refine Fi (.inl Aa) F W Aa (AL F Aa) (AL F Aa) ?_
  exact ⟨b1, Aa, W⟩
 have H := EF H
 refine AE (Ml := []) (Zl := []) (M := []) (Z := []) (β := Unit) (rv := fun x => .tuple #[.int .u64 x3, .nilIface]) (MM := fun x => []) (ZZ := fun x => []) F W NR Aa Aa (fun hL => De _ w p0 p1 p2 _ h1) fun x a w F W => ?_
 have W : Stw ⟨Y, [], w0⟩ [] [] w := W
 refine ls F W Aa (Ae F Aa).q fun a w F W => ?_
 refine ls F W Aa (AP (v := Value.int .u64 x3) F Aa Aa).q fun a w F W => ?_
 refine ls F W Aa (AP (v := Value.nilIface) F Aa Aa).q fun a w F W => ?_
 iterate 2 refine ls F W Aa (Ag F Aa).q fun a w F W => ?_
 refine Af (Ad (Aj (Aj (Ac ?_))))
 refine ls F W Aa (Ae F Aa).q fun a w F W => ?_
 refine ls F W Aa (Er Kk F Aa).q fun a w F W => ?_
 refine Af (Ad ?_)
 refine He F Aa ?_
 refine Ax (Ad (Aj (Ac ?_)))
 refine ls F W Aa (Ae F Aa).q fun a w F W => ?_
 iterate 2 refine ls F W Aa (Ag F Aa).q fun a w F W => ?_
 refine Af (Ad (A1 ?_))
 have H := A2 H
 subst H
 refine Fi (.inl Aa) F W Aa (AL F Aa) (AL F Aa) ?_
 exact ⟨(), Aa, W⟩
theorem N7 : Has Tryd.prog 42 := ⟨fun args w => Am Tryd.func42 rfl (by decide) args w⟩
noncomputable def AU (p0 : List UInt8 × Int) (x3 : List (List UInt8)) : (List Int × Int) → Option ((List Int × Int) ⊕ ((List Int) ⊕ ((List Int × (List UInt8 × Int)) ⊕ (Int × (List UInt8 × Int)))))
  | (x5, x6) => (if x6 < (x3.length : Int) then (ix x3 x6).bind fun x7 => (Ca x7 16 64).bind fun x8 => B3 x8 (fun x9 => some (.inr (.inr (.inr ((Ap p0), p0))))) (fun x10 => (Du x10).bind fun x11 => (if x11 ≠ x7 then some (.inr (.inr (.inr ((Ap p0), p0)))) else (DB x5 ([x10] : List Int)).bind fun x12 => some (.inl (x12, CL (x6 + 1))))) else some (.inr (.inl x5)))
noncomputable def BS (p0 : List UInt8 × Int) (p1 : List UInt8) : Option ((List Int × (List UInt8 × Int)) ⊕ (Int × (List UInt8 × Int))) := Es ((Bo p0 p1).bind fun x2 => B3 x2 (fun x3 => BB (AU p0 x3) ([], 0)) (fun x4 => some (.inr (.inr (x4, p0))))) fun x1 => (Bw p0).bind fun x13 => some (.inl (x1, x13))
theorem Ek (Y : Nat → Prop) (X : List Nat) (w0 : World) (q_p0 : Nat) (p0 : List UInt8 × Int) (p1 : List UInt8) (r : (List Int × (List UInt8 × Int)) ⊕ (Int × (List UInt8 × Int))) (H : BS p0 p1 = some r) (hG : Gk X w0) (hL : Stw ⟨Y, X, w0⟩ [(q_p0, [.string (bs p0.1), .int .i64 p0.2])] [] w0) :
    Calls Tryd.prog 22 #[.pointer (some ⟨q_p0, 0, none⟩), .string (bs p1)] w0 fun e w' => HP r (fun r => ∃ x : Value, e = .returned (x) ∧ Stw ⟨Y, X, w0⟩ [(q_p0, [.string (bs r.2.1), .int .i64 r.2.2])] [row (x) 45 (Rp.int .u64) r.1] w') (fun r => ∃ x : Unit, e = .panicked [{ v := .iface 75 (.agg #[.int .i64 r.1]), recovered := false }] ∧ Stw ⟨Y, X, w0⟩ [(q_p0, [.string (bs r.2.1), .int .i64 r.2.2])] [] w') := by
 refine enter Tryd.func22 Aa Tryd.ntmps22 Aa fun a F => ?_
 have W := hL
 unfold BS at H
 refine Aj (Ac ?_)
 refine ls F W Aa (Ag F Aa).q fun a w F W => ?_
 refine Af (Ad (Aj (Ac ?_)))
 refine ls F W Aa (Ag F Aa).q fun a w F W => ?_
 refine Af (Ad ?_)
 obtain ⟨o1, G1, K1, L1⟩ := IB H
 refine AX (fun a w => ∃ x1 : List Int, ∃ v1 : Value, some (Sum.inl x1) = some o1 ∧ Fr 41 [] [(0, .pointer (some ⟨q_p0, 0, none⟩)), (4, .slice none 0 0), (5, v1)] a ∧ Stw ⟨Y, X, w0⟩ [(q_p0, [.string (bs p0.1), .int .i64 p0.2])] [row v1 45 (Rp.int .u64) x1] w) ?_ ?_
 ·
  have H := G1
  clear G1 K1
  refine Aj (Ac ?_)
  iterate 2 refine ls F W Aa (Ae F Aa).q fun a w F W => ?_
  obtain ⟨x2, h1, H⟩ := An H
  rcases x2 with x3 | x4
  ·
   have H := EG H
   refine AE (Ml := []) (Zl := []) (M := [(q_p0, [.string (bs p0.1), .int .i64 p0.2])]) (Z := []) (β := Value) (rv := fun x => x) (MM := fun x => []) (ZZ := fun x => [row x 9 Rp.str x3]) F W Nk Aa Aa (fun hL => CR _ w q_p0 p0 p1 _ h1 (Fs W 0 Aa) (hG.go0 W)) fun x a w F W => ?_
   obtain ⟨v2, rfl⟩ : ∃ y, y = x := ⟨x, rfl⟩
   have W : Stw ⟨Y, X, w0⟩ [(q_p0, [.string (bs p0.1), .int .i64 p0.2])] [row v2 9 Rp.str x3] w := W
   refine ls F W Aa (Dg (r := Rp.str) (l := x3) MI Aa F Aa (AO 0 Aa)).q fun a w F W => ?_
   refine ls F W Aa (Ae F Aa).q fun a w F W => ?_
   refine Af (Ad (AF ?_))
   have W := W.nilRow 45 (Rp.int .u64)
   have W := W.frontZ (i := 1) Aa Aa
   have W := W.frontZ (i := 1) Aa Aa
   refine CA H (fun s a w => ∃ v3 : Value, Fr 41 [] [(0, .pointer (some ⟨q_p0, 0, none⟩)), (4, .slice none 0 0), (5, v3), (12, v2), (13, .int .i64 (x3.length : Int)), (14, .int .i64 s.2)] a ∧ Stw ⟨Y, X, w0⟩ [(q_p0, [.string (bs p0.1), .int .i64 p0.2])] [row v3 45 (Rp.int .u64) s.1, row v2 9 Rp.str x3] w) ⟨(Value.slice none 0 0), F.re ⟨rfl, Aa, Aa, Aa, Aa, Aa, trivial⟩, W⟩ fun s o a w H L2 hR => ?_
   obtain ⟨x5, x6⟩ := s
   obtain ⟨v3, F, W⟩ := hR
   have F : Fr 41 [] [(0, .pointer (some ⟨q_p0, 0, none⟩)), (4, .slice none 0 0), (5, v3), (12, v2), (13, .int .i64 (x3.length : Int)), (14, .int .i64 x6)] a := F
   have W : Stw ⟨Y, X, w0⟩ [(q_p0, [.string (bs p0.1), .int .i64 p0.2])] [row v3 45 (Rp.int .u64) x5, row v2 9 Rp.str x3] w := W
   rw [AU] at H
   refine Aj (Ac ?_)
   refine ls F W Aa (DM F Aa Aa).q fun a w F W => ?_
   refine Af (Ad (Aj ?_))
   refine AA F Aa (fun hb => ?_) fun hb => ?_
   ·
    have H := AZ (BQ hb) H
    rw [hb] at F
    clear hb
    refine Ax (Ad (Aj (AF (Aj (Ac ?_)))))
    obtain ⟨x7, h2, H⟩ := An H
    refine ls F W Aa (Cv (r := Rp.str) Np F Aa Aa (AO 1 Aa) h2).q fun a w F W => ?_
    refine ls F W Aa (A3 (y := Value.string (bs x7)) (j := 0) (i := x6) F Aa Aa (AO 1 Aa) h2 Fl.str.to T9 Aa).q fun a w F W => ?_
    refine ls F W Aa (Ag F Aa).q fun a w F W => ?_
    refine Af (Ad (Aj (Ac ?_)))
    refine ls F W Aa (Ae F Aa).q fun a w F W => ?_
    obtain ⟨x8, h3, H⟩ := An H
    rcases x8 with x9 | x10
    ·
     have H := EG H
     refine AE (Ml := []) (Zl := []) (M := [(q_p0, [.string (bs p0.1), .int .i64 p0.2])]) (Z := [row v3 45 (Rp.int .u64) x5, row v2 9 Rp.str x3]) (β := Nat) (rv := fun x => .tuple #[.int .u64 x9, .iface 109 (.pointer (some ⟨x, 0, none⟩))]) (MM := fun x => []) (ZZ := fun x => []) F W N7 Aa Aa (fun hL => Ej _ w x7 16 64 _ h3 (hG.go0 W)) fun x a w F W => ?_
     obtain ⟨b1, rfl⟩ : ∃ y, y = x := ⟨x, rfl⟩
     have W : Stw ⟨Y, X, w0⟩ [(q_p0, [.string (bs p0.1), .int .i64 p0.2])] [row v3 45 (Rp.int .u64) x5, row v2 9 Rp.str x3] w := W
     refine ls F W Aa (Ae F Aa).q fun a w F W => ?_
     refine ls F W Aa (AP (v := Value.int .u64 x9) F Aa Aa).q fun a w F W => ?_
     refine ls F W Aa (AP (v := Value.iface 109 (.pointer (some ⟨b1, 0, none⟩))) F Aa Aa).q fun a w F W => ?_
     iterate 2 refine ls F W Aa (Ag F Aa).q fun a w F W => ?_
     refine Af (Ad (Aj (Aj (Ac ?_))))
     refine ls F W Aa (Ae F Aa).q fun a w F W => ?_
     refine ls F W Aa (DU Kk F Aa).q fun a w F W => ?_
     refine ls F W Aa (Ae F Aa).q fun a w F W => ?_
     iterate 4 refine Cm F Aa Aa Aa Aa Aa Aa Aa fun a F => ?_
     refine ls F W Aa (Au F Aa Aa Aa).q fun a w F W => ?_
     refine Af (Ad ?_)
     refine Gg F Aa ?_
     refine Ac ?_
     refine ls F W Aa (Ae F Aa).q fun a w F W => ?_
     refine BH (Ml := []) (Zl := []) (M := [(q_p0, [.string (bs p0.1), .int .i64 p0.2])]) (Z := [row v3 45 (Rp.int .u64) x5, row v2 9 Rp.str x3]) (β := Unit) (pv := fun x => .iface 75 (.agg #[.int .i64 (Ap p0)])) (MM := fun x => []) (ZZ := fun x => []) F W Ms Aa (fun hL => BD _ w q_p0 p0 _ Aa (Fs W 0 Aa)) fun x w W => ?_
     have W : Stw ⟨Y, X, w0⟩ [(q_p0, [.string (bs p0.1), .int .i64 p0.2])] [row v3 45 (Rp.int .u64) x5, row v2 9 Rp.str x3] w := W
     refine Bp (CT ?_)
     iterate 2 refine Bp ?_
     refine CT (Bp ?_)
     have H := L2 _ H
     have H := L1 _ H
     have H := A2 H
     subst H
     refine B7 F ?_
     have W := W.sub (M' := [(q_p0, [.string (bs p0.1), .int .i64 p0.2])]) (Z' := []) (List.Sublist.refl _) (List.nil_sublist _)
     exact ⟨(), Aa, W⟩
    have H := EF H
    refine AE (Ml := []) (Zl := []) (M := [(q_p0, [.string (bs p0.1), .int .i64 p0.2])]) (Z := [row v3 45 (Rp.int .u64) x5, row v2 9 Rp.str x3]) (β := Unit) (rv := fun x => .tuple #[.int .u64 x10, .nilIface]) (MM := fun x => []) (ZZ := fun x => []) F W N7 Aa Aa (fun hL => Ej _ w x7 16 64 _ h3 (hG.go0 W)) fun x a w F W => ?_
    have W : Stw ⟨Y, X, w0⟩ [(q_p0, [.string (bs p0.1), .int .i64 p0.2])] [row v3 45 (Rp.int .u64) x5, row v2 9 Rp.str x3] w := W
    refine ls F W Aa (Ae F Aa).q fun a w F W => ?_
    refine ls F W Aa (AP (v := Value.int .u64 x10) F Aa Aa).q fun a w F W => ?_
    refine ls F W Aa (AP (v := Value.nilIface) F Aa Aa).q fun a w F W => ?_
    iterate 2 refine ls F W Aa (Ag F Aa).q fun a w F W => ?_
    refine Af (Ad (Aj (Aj (Ac ?_))))
    refine ls F W Aa (Ae F Aa).q fun a w F W => ?_
    refine ls F W Aa (Er Kk F Aa).q fun a w F W => ?_
    refine ls F W Aa (Ae F Aa).q fun a w F W => ?_
    refine Av F W (Ai F Aa Aa Aa Aa) Aa (Ao Aa) (Ae F Aa).q fun a w F W => ?_
    refine Ew (Ai F Aa Aa Aa Aa) ?_
    obtain ⟨x11, h4, H⟩ := An H
    refine ls F W Aa (Ba (v := Value.string (bs x11)) F N1 Aa (fun w W => GJ any w x10 _ h4 (hG.go0 W))) fun a w F W => ?_
    refine Av F W (Ai F Aa Aa Aa Aa) Aa (Ao Aa) (Ae F Aa).q fun a w F W => ?_
    refine Av F W (Ai F Aa Aa Aa Aa) Aa (Ao Aa) (JE (l := x11) (m := x7) F Aa Aa).q fun a w F W => ?_
    refine ls F W Aa (Al F Aa Aa Aa).q fun a w F W => ?_
    refine Af (Ad ?_)
    refine AA F Aa (fun hb => ?_) fun hb => ?_
    ·
     have H := AZ (BQ hb) H
     rw [hb] at F
     clear hb
     refine Ac ?_
     refine ls F W Aa (Ae F Aa).q fun a w F W => ?_
     refine BH (Ml := []) (Zl := []) (M := [(q_p0, [.string (bs p0.1), .int .i64 p0.2])]) (Z := [row v3 45 (Rp.int .u64) x5, row v2 9 Rp.str x3]) (β := Unit) (pv := fun x => .iface 75 (.agg #[.int .i64 (Ap p0)])) (MM := fun x => []) (ZZ := fun x => []) F W Ms Aa (fun hL => BD _ w q_p0 p0 _ Aa (Fs W 0 Aa)) fun x w W => ?_
     have W : Stw ⟨Y, X, w0⟩ [(q_p0, [.string (bs p0.1), .int .i64 p0.2])] [row v3 45 (Rp.int .u64) x5, row v2 9 Rp.str x3] w := W
     refine Bp (CT ?_)
     iterate 2 refine Bp ?_
     refine CT (Bp ?_)
     have H := L2 _ H
     have H := L1 _ H
     have H := A2 H
     subst H
     refine B7 F ?_
     have W := W.sub (M' := [(q_p0, [.string (bs p0.1), .int .i64 p0.2])]) (Z' := []) (List.Sublist.refl _) (List.nil_sublist _)
     exact ⟨(), Aa, W⟩
    have H := AY (BR hb) H
    rw [hb] at F
    clear hb
    refine Ax (Ad (Ac ?_))
    iterate 2 refine ls F W Aa (Ae F Aa).q fun a w F W => ?_
    refine D6 (z := Value.int .u64 0) (cs := [.int .u64 x10]) (Rp.int .u64) ([x10] : List Int) F W Aa MS NY Aa Aa Aa Aa Aa Aa (Fl.int.repL _ _ ([x10] : List Int)) fun v4 a w F W => ?_
    obtain ⟨x12, h5, H⟩ := An H
    refine Fx (r := (Rp.int .u64)) (i := 1) F W Aa MS Aa Aa Aa Aa (Gc W 0 Aa) h5 Aa fun v5 a w F W => ?_
    have W : Stw ⟨Y, X, w0⟩ [(q_p0, [.string (bs p0.1), .int .i64 p0.2])] [row v5 45 (Rp.int .u64) x12, row v4 45 (Rp.int .u64) ([x10] : List Int), row v2 9 Rp.str x3] w := W
    refine ls F W Aa (Ag F Aa).q fun a w F W => ?_
    refine Af (Bk (Ad (Ac ?_)))
    refine ls F W Aa (DJ F Aa Aa Aa).q fun a w F W => ?_
    refine ls F W Aa (Ae F Aa).q fun a w F W => ?_
    refine Af (Ad ?_)
    have W := W.frontZ (i := 2) Aa Aa
    have W := W.frontZ (i := 1) Aa Aa
    have W := W.sub (M' := [(q_p0, [.string (bs p0.1), .int .i64 p0.2])]) (Z' := [row v5 45 (Rp.int .u64) x12, row v2 9 Rp.str x3]) (List.Sublist.refl _) (List.Sublist.cons_cons _ (List.Sublist.cons_cons _ (List.nil_sublist _)))
    exact ⟨_, H, (v5), F.re ⟨rfl, Aa, Aa, Aa, Aa, Aa, trivial⟩, W⟩
   have H := AY (BR hb) H
   rw [hb] at F
   clear hb
   refine Ci ?_
   iterate 2 refine CM ?_
   refine Cj (Ad ?_)
   have W := W.sub (M' := [(q_p0, [.string (bs p0.1), .int .i64 p0.2])]) (Z' := [row v3 45 (Rp.int .u64) x5]) (List.Sublist.refl _) (List.Sublist.cons_cons _ (List.nil_sublist _))
   have H := L2 _ H
   exact ⟨_, (v3), H, F.re ⟨rfl, Aa, Aa, trivial⟩, W⟩
  have H := EF H
  refine BH (Ml := []) (Zl := []) (M := [(q_p0, [.string (bs p0.1), .int .i64 p0.2])]) (Z := []) (β := Unit) (pv := fun x => .iface 75 (.agg #[.int .i64 x4])) (MM := fun x => []) (ZZ := fun x => []) F W Nk Aa (fun hL => CR _ w q_p0 p0 p1 _ h1 (Fs W 0 Aa) (hG.go0 W)) fun x w W => ?_
  have W : Stw ⟨Y, X, w0⟩ [(q_p0, [.string (bs p0.1), .int .i64 p0.2])] [] w := W
  iterate 2 refine Bp ?_
  have H := L1 _ H
  have H := A2 H
  subst H
  refine B7 F ?_
  exact ⟨(), Aa, W⟩
 rintro a w ⟨x1, v1, hj, F, W⟩
 have H := K1 _ hj
 clear hj G1 K1 L1
 refine Aj (Ac ?_)
 refine ls F W Aa (Ae F Aa).q fun a w F W => ?_
 obtain ⟨x13, h6, H⟩ := An H
 refine AE (Ml := [(q_p0, [.string (bs p0.1), .int .i64 p0.2])]) (Zl := []) (M := []) (Z := [row v1 45 (Rp.int .u64) x1]) (β := Unit) (rv := fun x => .tuple #[]) (MM := fun x => [(q_p0, [.string (bs x13.1), .int .i64 x13.2])]) (ZZ := fun x => []) F W N0 Aa Aa (fun hL => Em _ _ w q_p0 p0 _ h6 (hG.go W) hL) fun x a w F W => ?_
 have W : Stw ⟨Y, X, w0⟩ [(q_p0, [.string (bs x13.1), .int .i64 x13.2])] [row v1 45 (Rp.int .u64) x1] w := W
 refine Af (Ad (Aj (Ac ?_)))
 refine ls F W Aa (Ae F Aa).q fun a w F W => ?_
 refine ls F W Aa (Ag F Aa).q fun a w F W => ?_
 refine Af (Ad (A1 ?_))
 have H := A2 H
 subst H
 refine Ck (.inl Aa) F W Aa (AL F Aa) ?_
 exact ⟨(v1), Aa, W⟩
theorem N4 : Has Tryd.prog 22 := ⟨fun args w => Am Tryd.func22 rfl (by decide) args w⟩
def CG (p0 : List UInt8 × Int) : Unit ⊕ Int := (if p0.1 ≠ ([] : List UInt8) then .inr (Ap p0) else .inl ())
theorem EL (Y : Nat → Prop) (w0 : World) (q_p0 : Nat) (p0 : List UInt8 × Int) (r : Unit ⊕ Int) (H : CG p0 = r) (a_q_p0 : At ⟨Y, [], w0⟩ q_p0 0 [.string (bs p0.1), .int .i64 p0.2]) :
    Calls Tryd.prog 23 #[.pointer (some ⟨q_p0, 0, none⟩)] w0 fun e w' => HP r (fun r => ∃ x : Unit, e = .returned (.tuple #[]) ∧ Stw ⟨Y, [], w0⟩ [] [] w') (fun r => ∃ x : Unit, e = .panicked [{ v := .iface 75 (.agg #[.int .i64 r]), recovered := false }] ∧ Stw ⟨Y, [], w0⟩ [] [] w') := by
 refine enter Tryd.func23 Aa Tryd.ntmps23 Aa fun a F => ?_
 have W := Stw.start Y w0
 unfold CG at H
 refine Aj (Ac ?_)
 refine ls F W Aa (Ae F Aa).q fun a w F W => ?_
 refine ls F W Aa (Dr F Aa).q fun a w F W => ?_
 refine ls F W Aa (Ak ID Aa Aa Aa T9 F Aa 0 Aa).q fun a w F W => ?_
 refine ls F W Aa (GG (y := Value.string (bs p0.1)) (j := 0) F Aa (Nat.zero_add _).symm a_q_p0 T9 Aa).q fun a w F W => ?_
 refine ls F W Aa (JE (l := p0.1) (m := ([] : List UInt8)) F Aa Aa).q fun a w F W => ?_
 refine Af (Ad ?_)
 refine AA F Aa (fun hb => ?_) fun hb => ?_
 ·
  have H := AZ (BQ hb) H
  rw [hb] at F
  clear hb
  refine Ac ?_
  refine ls F W Aa (Ae F Aa).q fun a w F W => ?_
  refine BH (Ml := []) (Zl := []) (M := []) (Z := []) (β := Unit) (pv := fun x => .iface 75 (.agg #[.int .i64 (Ap p0)])) (MM := fun x => []) (ZZ := fun x => []) F W Ms Aa (fun hL => BD _ w q_p0 p0 _ Aa (At.re a_q_p0 W)) fun x w W => ?_
  have W : Stw ⟨Y, [], w0⟩ [] [] w := W
  subst H
  refine B7 F ?_
  exact ⟨(), Aa, W⟩
 have H := AY (BR hb) H
 rw [hb] at F
 clear hb
 refine Ax ?_
 subst H
 refine JU (.inr Aa) F Aa ?_
 exact ⟨(), Aa, W⟩
theorem NU : Has Tryd.prog 23 := ⟨fun args w => Am Tryd.func23 rfl (by decide) args w⟩
def EJ (p0 : (Int × (List (Int × Int × Int × Int × Int × Int)) × (List (Int × Int))) × List (List Int) × List Int × Int × Int × Int × Int × Int × Int) (p1 : Int) (p2 : Int) : Unit := ()
theorem Fv (Y : Nat → Prop) (X : List Nat) (w0 : World) (q_p0 : Nat) (v1 : Value) (v2 : Value) (v3 : Value) (v4 : Value) (q_p1 : Nat) (q_p2 : Nat) (p0 : (Int × (List (Int × Int × Int × Int × Int × Int)) × (List (Int × Int))) × List (List Int) × List Int × Int × Int × Int × Int × Int × Int) (p1 : Int) (p2 : Int) (r : Unit) (H : EJ p0 p1 p2 = r) (hL : Stw ⟨Y, X, w0⟩ [(q_p0, [.int .i64 p0.1.1, v1, v2, v3, v4, .int .i64 p0.2.2.2.1, .int .i64 p0.2.2.2.2.1, .int .i64 p0.2.2.2.2.2.1, .int .i64 p0.2.2.2.2.2.2.1, .int .i64 p0.2.2.2.2.2.2.2.1, .int .i64 p0.2.2.2.2.2.2.2.2]), (q_p1, [.int .i64 p1]), (q_p2, [.int .i64 p2])] [row v1 41 Bu p0.1.2.1, row v2 43 BC p0.1.2.2, row v3 39 (Rp.slice (Rp.int .u64)) p0.2.1, row v4 3 (Rp.int .i64) p0.2.2.1] w0) :
    CallsD Tryd.prog 17 #[.pointer (some ⟨q_p0, 0, none⟩), .pointer (some ⟨q_p1, 0, none⟩), .pointer (some ⟨q_p2, 0, none⟩)] .returning w0 fun e u' w' => u' = .returning ∧ (∃ x : Unit, e = .returned (.tuple #[]) ∧ Stw ⟨Y, X, w0⟩ [(q_p0, [.int .i64 p0.1.1, v1, v2, v3, v4, .int .i64 p0.2.2.2.1, .int .i64 p0.2.2.2.2.1, .int .i64 p0.2.2.2.2.2.1, .int .i64 p0.2.2.2.2.2.2.1, .int .i64 p0.2.2.2.2.2.2.2.1, .int .i64 p0.2.2.2.2.2.2.2.2]), (q_p1, [.int .i64 p1]), (q_p2, [.int .i64 p2])] [row v1 41 Bu p0.1.2.1, row v2 43 BC p0.1.2.2, row v3 39 (Rp.slice (Rp.int .u64)) p0.2.1, row v4 3 (Rp.int .i64) p0.2.2.1] w') := by
 refine HI Tryd.func17 Aa Tryd.ntmps17 Aa Aa Aa fun a F => ?_
 have W := hL
 unfold EJ at H
 refine Aj (Ac ?_)
 refine ls F W Aa (Ae F Aa).q fun a w F W => ?_
 refine ls F W Aa (Er Nd F Aa).q fun a w F W => ?_
 refine Af (Ad ?_)
 refine He F Aa ?_
 refine Ax ?_
 subst H
 refine JU (.inr Aa) F Aa ?_
 have W := W.frontZ (i := 3) Aa Aa
 have W := W.frontZ (i := 3) Aa Aa
 have W := W.frontZ (i := 3) Aa Aa
 have W := W.frontZ (i := 3) Aa Aa
 have W := W.frontM (i := 2) Aa Aa
 have W := W.frontM (i := 2) Aa Aa
 have W := W.frontM (i := 2) Aa Aa
 exact ⟨(), Aa, W⟩
end Go.Proofs.YthmkgdnnocemmaaDoor
