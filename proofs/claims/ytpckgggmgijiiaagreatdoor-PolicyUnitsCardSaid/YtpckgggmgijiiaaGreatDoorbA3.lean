/- The functions of layer 27, Ix. Conditions: none. -/
import Derived.Test.YtpckgggmgijiiaaGreatDoorbA2
namespace Go.Proofs.YtpckgggmgijiiaaGreatDoor
open Go Go.RowKit
set_option linter.unusedVariables false
set_option linter.unusedSimpArgs false
set_option maxRecDepth 20000
theorem YY : Has Tryz.prog 97 := CJ Tryz.func97
noncomputable def BA (p2 : Int) (x2 : List (Int × (Int × Int × Int × Int))) : Int → Option (Int ⊕ Int)
  | x8 => (if x8 < p2 then (ix x2 x8).bind fun x10 => (ix x2 (AO (x8 - 1))).bind fun x11 => (Cj x10 x11).bind fun x12 => some (!(decide (x12 < 0))) else some false).bind fun x9 => (if x9 = true then some (.inl (AO (x8 + 1))) else some (.inr x8))
noncomputable def AC  : ((List (Int × (Int × Int × Int × Int))) × Int) → Option (((List (Int × (Int × Int × Int × Int))) × Int) ⊕ (List (Int × (Int × Int × Int × Int))))
  | (x18, x19) => (if 1 ≤ x19 then (ix x18 x19).bind fun x20 => (ix x18 (AO (x19 - 1))).bind fun x21 => (Cj x20 x21).bind fun x22 => (if (!(decide (x22 < 0))) = true then some (.inr x18) else (ix x18 (AO (x19 - 1))).bind fun x23 => (ix x18 x19).bind fun x24 => (ix x18 x19).bind fun x25 => (ix (Bf x18 x19 x23) (AO (x19 - 1))).bind fun x26 => some (.inl ((Bf (Bf x18 x19 x23) (AO (x19 - 1)) x24), AO (x19 - 1)))) else some (.inr x18))
noncomputable def AM (p2 : Int) (x7 : Int) : ((List (Int × (Int × Int × Int × Int))) × Int) → Option (((List (Int × (Int × Int × Int × Int))) × Int) ⊕ (((List (Int × (Int × Int × Int × Int))) × Int) ⊕ (((List (Int × (Int × Int × Int × Int))) × Int × Int) ⊕ ((List (Int × (Int × Int × Int × Int))) ⊕ (Bool × (List (Int × (Int × Int × Int × Int))))))))
  | (x27, x28) => (if x28 < p2 then (ix x27 x28).bind fun x29 => (ix x27 (AO (x28 - 1))).bind fun x30 => (Cj x29 x30).bind fun x31 => (if (!(decide (x31 < 0))) = true then some (.inr (.inl (x27, x7))) else (ix x27 (AO (x28 - 1))).bind fun x32 => (ix x27 x28).bind fun x33 => (ix x27 x28).bind fun x34 => (ix (Bf x27 x28 x32) (AO (x28 - 1))).bind fun x35 => some (.inl ((Bf (Bf x27 x28 x32) (AO (x28 - 1)) x33), AO (x28 + 1)))) else some (.inr (.inl (x27, x7))))
noncomputable def AN (p1 : Int) (p2 : Int) : ((List (Int × (Int × Int × Int × Int))) × Int × Int) → Option (((List (Int × (Int × Int × Int × Int))) × Int × Int) ⊕ ((List (Int × (Int × Int × Int × Int))) ⊕ (Bool × (List (Int × (Int × Int × Int × Int))))))
  | (x2, x3, x4) => (if x4 < 5 then Ko ((AW (BA p2 x2) x3).bind fun x7 => (if x7 = p2 then some (.inr (.inr (.inr (true, x2)))) else (if (AO (p2 - p1)) < 50 then some (.inr (.inr (.inr (false, x2)))) else (ix x2 (AO (x7 - 1))).bind fun x13 => (ix x2 x7).bind fun x14 => (ix x2 x7).bind fun x15 => (ix (Bf x2 x7 x13) (AO (x7 - 1))).bind fun x16 => (if 2 ≤ (AO (x7 - p1)) then AW (AC) ((Bf (Bf x2 x7 x13) (AO (x7 - 1)) x14), AO (x7 - 1)) else some (Bf (Bf x2 x7 x13) (AO (x7 - 1)) x14)).bind fun x17 => (if 2 ≤ (AO (p2 - x7)) then AW (AM p2 x7) (x17, AO (x7 + 1)) else some (.inl (x17, x7)))))) fun (x5, x6) => some (.inl (x5, x6, AO (x4 + 1))) else some (.inr (.inl x2)))
noncomputable def Bn (p0 : List (Int × (Int × Int × Int × Int))) (p1 : Int) (p2 : Int) : Option (Bool × (List (Int × (Int × Int × Int × Int)))) := Ko (AW (AN p1 p2) (p0, AO (p1 + 1), 0)) fun x1 => some (false, x1)
theorem EF (Y : Nat → Prop) (X : List Nat) (w0 : World) (v1 : Value) (p0 : List (Int × (Int × Int × Int × Int))) (p1 : Int) (p2 : Int) (r : Bool × (List (Int × (Int × Int × Int × Int)))) (H : Bn p0 p1 p2 = some r) (hL : Stw ⟨Y, X, w0⟩ [] [row v1 63 Bg p0] w0) :
    Calls Tryz.prog 98 #[v1, .int .i64 p1, .int .i64 p2, .func (.func 41) #[] #[]] w0 fun e w' => ∃ x : Unit, e = .returned (.bool r.1) ∧ Stw ⟨Y, X, w0⟩ [] [row v1 63 Bg r.2] w' := by
 refine enter Tryz.func98 Aa Tryz.ntmps98 Aa fun a F => ?_
 have W := hL
 unfold Bn at H
 refine vc tk 12 F W fun a w F W => ?_
 obtain ⟨o1, G1, K1, L1⟩ := QS H
 refine Ax (fun a w => ∃ x1 : List (Int × (Int × Int × Int × Int)), some (Sum.inl x1) = some o1 ∧ Fr 141 [] [(8, .bool false)] a ∧ Stw ⟨Y, X, w0⟩ [] [row v1 63 Bg x1] w) ?_ ?_
 ·
  have H := G1
  clear G1 K1
  refine vc tk 6 F W fun a w F W => ?_
  refine BF H (fun s a w => Fr 141 [] [(0, v1), (1, .int .i64 p1), (2, .int .i64 p2), (3, .func (.func 41) #[] #[]), (8, .bool false), (9, .int .i64 s.2.1), (10, .int .i64 s.2.2)] a ∧ Stw ⟨Y, X, w0⟩ [] [row v1 63 Bg s.1] w) ⟨F.ra Aa, W⟩ fun s o a w H L2 hR => ?_
  obtain ⟨x2, x3, x4⟩ := s
  obtain ⟨F, W⟩ := hR
  have F : Fr 141 [] [(0, v1), (1, .int .i64 p1), (2, .int .i64 p2), (3, .func (.func 41) #[] #[]), (8, .bool false), (9, .int .i64 x3), (10, .int .i64 x4)] a := F
  have W : Stw ⟨Y, X, w0⟩ [] [row v1 63 Bg x2] w := W
  rw [AN] at H
  refine vc tk 7 F W fun a w F W => ?_
  refine BJ F Aa H (fun F H => ?_) fun F H => ?_
  ·
   refine AX (Ac ?_)
   obtain ⟨o3, G3, K3, L3⟩ := QS H
   refine Ax (fun a w => ∃ x5 : List (Int × (Int × Int × Int × Int)), ∃ x6 : Int, some (Sum.inl (x5, x6)) = some o3 ∧ Fr 141 [] [(0, v1), (1, .int .i64 p1), (2, .int .i64 p2), (3, .func (.func 41) #[] #[]), (8, .bool false), (9, .int .i64 x6), (10, .int .i64 x4)] a ∧ Stw ⟨Y, X, w0⟩ [] [row v1 63 Bg x5] w) ?_ ?_
   ·
    have H := G3
    clear G3 K3
    refine D7 ?_
    obtain ⟨o4, G4, K4⟩ := Ad H
    refine Ax (fun a w => ∃ x7 : Int, some (x7) = some o4 ∧ Fr 141 [] [(0, v1), (1, .int .i64 p1), (2, .int .i64 p2), (3, .func (.func 41) #[] #[]), (8, .bool false), (9, .int .i64 x7), (10, .int .i64 x4)] a ∧ Stw ⟨Y, X, w0⟩ [] [row v1 63 Bg x2] w) ?_ ?_
    ·
     have H := G4
     clear G4 K4
     refine D7 ?_
     refine BF H (fun s a w => Fr 141 [] [(0, v1), (1, .int .i64 p1), (2, .int .i64 p2), (3, .func (.func 41) #[] #[]), (8, .bool false), (9, .int .i64 s), (10, .int .i64 x4)] a ∧ Stw ⟨Y, X, w0⟩ [] [row v1 63 Bg x2] w) ⟨F.ra Aa, W⟩ fun s o a w H L5 hR => ?_
     obtain ⟨x8, rfl⟩ : ∃ x, x = s := ⟨s, rfl⟩
     obtain ⟨F, W⟩ := hR
     have F : Fr 141 [] [(0, v1), (1, .int .i64 p1), (2, .int .i64 p2), (3, .func (.func 41) #[] #[]), (8, .bool false), (9, .int .i64 x8), (10, .int .i64 x4)] a := F
     have W : Stw ⟨Y, X, w0⟩ [] [row v1 63 Bg x2] w := W
     rw [BA] at H
     refine FS ?_
     obtain ⟨o6, G6, K6⟩ := Ad H
     refine Ax (fun a w => ∃ x9 : Bool, some (x9) = some o6 ∧ Fr 141 [] [(0, v1), (1, .int .i64 p1), (2, .int .i64 p2), (3, .func (.func 41) #[] #[]), (8, .bool false), (9, .int .i64 x8), (10, .int .i64 x4), (36, .bool x9)] a ∧ Stw ⟨Y, X, w0⟩ [] [row v1 63 Bg x2] w) ?_ ?_
     ·
      have H := G6
      clear G6 K6
      refine Cw W MO (by kernel_rfl) ?_
      iterate 2 refine qs F Aa (An F Aa).q fun a F => ?_
      refine qs F Aa (F7 F Aa Aa).q fun a F => ?_
      refine qs F Aa (An F Aa).q fun a F => ?_
      rcases Bool.eq_false_or_eq_true (decide (x8 < p2)) with hb | hb
      ·
       have H := B8 (CI hb) H
       rw [hb] at F
       clear hb
       iterate 3 refine AL F (Ab F Aa Aa Aa Aa) Aa (Ao Aa) (An F Aa).q fun a F => ?_
       obtain ⟨x10, h1, H⟩ := Ad H
       refine AL F (Ab F Aa Aa Aa Aa) Aa (Ao Aa) (Av (r := Bg) Eg F Aa Aa (Aj 0 Aa) h1).q fun a F => ?_
       refine AL F (Ab F Aa Aa Aa Aa) Aa (Ao Aa) (Al (y := Value.agg #[.int .i64 x10.1, .int .i64 x10.2.1, .int .i64 x10.2.2.1, .int .i64 x10.2.2.2.1, .int .i64 x10.2.2.2.2]) (j := 0) (i := x8) F Aa Aa (Aj 0 Aa) h1 Ej.to DP Aa).q fun a F => ?_
       iterate 2 refine AL F (Ab F Aa Aa Aa Aa) Aa (Ao Aa) (An F Aa).q fun a F => ?_
       refine AL F (Ab F Aa Aa Aa Aa) Aa (Ao Aa) (HQ F Aa Aa Aa).q fun a F => ?_
       obtain ⟨x11, h2, H⟩ := Ad H
       refine AL F (Ab F Aa Aa Aa Aa) Aa (Ao Aa) (Av (r := Bg) Eg F Aa Aa (Aj 0 Aa) h2).q fun a F => ?_
       refine AL F (Ab F Aa Aa Aa Aa) Aa (Ao Aa) (Al (y := Value.agg #[.int .i64 x11.1, .int .i64 x11.2.1, .int .i64 x11.2.2.1, .int .i64 x11.2.2.2.1, .int .i64 x11.2.2.2.2]) (j := 0) (i := AO (x8 - 1)) F Aa Aa (Aj 0 Aa) h2 Ej.to DP Aa).q fun a F => ?_
       obtain ⟨x12, h3, H⟩ := Ad H
       refine AL F (Ab F Aa Aa Aa Aa) Aa (Ao Aa) (Eo (ws := (Ib x10 x11)) (v := Value.int .i64 x12) F RL Aa (fun w W => Cp any w x10 x11 _ h3)) fun a F => ?_
       refine AL F (Ab F Aa Aa Aa Aa) Aa (Ao Aa) (F7 F Aa Aa).q fun a F => ?_
       refine AL F (Ab F Aa Aa Aa Aa) Aa (Ao Aa) (Js F Aa).q fun a F => ?_
       refine qs F Aa (Bq F Aa Aa Aa).q fun a F => ?_
       refine AJ fun w W => ?_
       refine Ac ?_
       exact ⟨_, H, F.ra Aa, W⟩
      have H := B7 (CH hb) H
      rw [hb] at F
      clear hb
      iterate 13 refine Bj F (A7 F Aa Aa Aa Aa Aa) Aa Aa fun a F => ?_
      refine qs F Aa (Br F Aa Aa Aa).q fun a F => ?_
      refine AJ fun w W => ?_
      refine Ac ?_
      exact ⟨_, H, F.ra Aa, W⟩
     rintro a w ⟨x9, hj, F, W⟩
     have hj := AA hj
     subst hj
     have H := K6
     clear G6 K6
     refine Cz F Aa H (fun F H => ?_) fun F H => ?_
     ·
      refine FL tk 8 F W fun a w F W => ?_
      refine Ac ?_
      exact ⟨_, H, F.ra Aa, W⟩
     refine Bu ?_
     iterate 2 refine BL ?_
     refine Bp (Ac ?_)
     have H := L5 _ H
     exact ⟨_, H, F.ra Aa, W⟩
    rintro a w ⟨x7, hj, F, W⟩
    have hj := AA hj
    subst hj
    have H := K4
    clear G4 K4
    refine vc tk 8 F W fun a w F W => ?_
    refine BJ F Aa H (fun F H => ?_) fun F H => ?_
    ·
     refine vc tk 5 F W fun a w F W => ?_
     refine Ak (Ay (AD ?_))
     iterate 2 refine Ay ?_
     refine AD (Ay ?_)
     have H := L3 _ H
     have H := L2 _ H
     have H := L1 _ H
     have H := AA H
     subst H
     refine Au (.inl Aa) F W Aa (Am F Aa) ?_
     exact ⟨(), Aa, W⟩
    refine FL tk 11 F W fun a w F W => ?_
    refine BJ F Aa H (fun F H => ?_) fun F H => ?_
    ·
     refine vc tk 5 F W fun a w F W => ?_
     refine Ak (Ay (AD ?_))
     iterate 2 refine Ay ?_
     refine AD (Ay ?_)
     have H := L3 _ H
     have H := L2 _ H
     have H := L1 _ H
     have H := AA H
     subst H
     refine Au (.inl Aa) F W Aa (Am F Aa) ?_
     exact ⟨(), Aa, W⟩
    refine FL tk 3 F W fun a w F W => ?_
    refine D6 [(true, 0), (true, 1), (true, 2), (true, 3), (true, 4), (true, 5), (true, 6), (true, 7), (true, 8), (true, 9), (true, 10), (true, 11), (true, 12), (true, 13), (true, 14), (false, 15), (true, 16), (false, 17)] (CN ⟨Y, X, w0⟩ [] [(some 15, row v1 63 Bg x2)]) (fun ch a d v w h => by cases d <;> exact h) MO (by kernel_rfl) W (fun w W => ⟨_, _, W, Ag, (all_cons (fun _ => (.head _)) Ag)⟩) fun w W => ?_
    iterate 4 refine Bo (R := []) F Aa Aa (yC fun M Z hN hZ => An F Aa) Aa Aa fun a F => ?_
    refine Bo (R := []) F Aa Aa (yC fun M Z hN hZ => HQ F Aa Aa Aa) Aa Aa fun a F => ?_
    iterate 2 refine Bo (R := []) F Aa Aa (yC fun M Z hN hZ => An F Aa) Aa Aa fun a F => ?_
    refine Bo (R := []) F Aa Aa (yC fun M Z hN hZ => HQ F Aa Aa Aa) Aa Aa fun a F => ?_
    obtain ⟨x13, h4, H⟩ := Ad H
    refine Bo (R := []) F Aa Aa (yC fun M Z hN hZ => Cn (r := Bg) Eg F Aa Aa (Eh W (Aj 0 Aa)) h4) Aa Aa fun a F => ?_
    refine Bo (R := [15]) F Aa Aa (yC fun M Z hN hZ => Al (y := Value.agg #[.int .i64 x13.1, .int .i64 x13.2.1, .int .i64 x13.2.2.1, .int .i64 x13.2.2.2.1, .int .i64 x13.2.2.2.2]) (j := 0) (i := AO (x7 - 1)) F Aa Aa (DL (hZ ((some 15), row v1 63 Bg x2) (.head _) Aa)) h4 Ej.to DP Aa) (by kernel_rfl) Aa fun a F => ?_
    iterate 2 refine Bo (R := []) F Aa Aa (yC fun M Z hN hZ => An F Aa) Aa Aa fun a F => ?_
    obtain ⟨x14, h5, H⟩ := Ad H
    refine Bo (R := []) F Aa Aa (yC fun M Z hN hZ => Cn (r := Bg) Eg F Aa Aa (Eh W (Aj 0 Aa)) h5) Aa Aa fun a F => ?_
    refine Bo (R := [15]) F Aa Aa (yC fun M Z hN hZ => Al (y := Value.agg #[.int .i64 x14.1, .int .i64 x14.2.1, .int .i64 x14.2.2.1, .int .i64 x14.2.2.2.1, .int .i64 x14.2.2.2.2]) (j := 0) (i := x7) F Aa Aa (DL (hZ ((some 15), row v1 63 Bg x2) (.head _) Aa)) h5 Ej.to DP Aa) (by kernel_rfl) Aa fun a F => ?_
    obtain ⟨x15, h6, H⟩ := Ad H
    refine Bo (R := []) F Aa Aa (yC fun M Z hN hZ => Cn (r := Bg) Eg F Aa Aa (Eh W (Aj 0 Aa)) h6) Aa Aa fun a F => ?_
    refine Dr Aa ?_
    refine BG (i := x7) (j := 0) (vs := (CT x13)) (x' := x13) F W Aa Aa Aa (k := 0) Aa Aa h6 DP Aa Aa Aa Aa (fun A cs _ => Ej.sto (by rfl) _ _ _) fun w W => ?_
    refine Bl (N2 := []) (NZ2 := []) (N3 := []) (NZ3 := [(some 15, row v1 63 Bg x2)]) W Aa Aa Ag (all_cons (fun h => Ah (by kernel_rfl) h) Ag) ?_
    obtain ⟨x16, h7, H⟩ := Ad H
    refine Bo (R := []) F Aa Aa (yC fun M Z hN hZ => Cn (r := Bg) Eg F Aa Aa (Eh W (Aj 0 Aa)) h7) Aa Aa fun a F => ?_
    refine Dr Aa ?_
    refine BG (i := AO (x7 - 1)) (j := 0) (vs := (CT x14)) (x' := x14) F W Aa Aa Aa (k := 0) Aa Aa h7 DP Aa Aa Aa Aa (fun A cs _ => Ej.sto (by rfl) _ _ _) fun w W => ?_
    refine Bl (N2 := []) (NZ2 := []) (N3 := []) (NZ3 := [(some 15, row v1 63 Bg x2)]) W Aa Aa Ag (all_cons (fun h => Ah (by kernel_rfl) h) Ag) ?_
    refine Fw (Ac ?_)
    obtain ⟨o7, G7, K7⟩ := Ad H
    refine Ax (fun a w => ∃ x17 : List (Int × (Int × Int × Int × Int)), some (x17) = some o7 ∧ Fr 141 [] [(0, v1), (1, .int .i64 p1), (2, .int .i64 p2), (3, .func (.func 41) #[] #[]), (8, .bool false), (9, .int .i64 x7), (10, .int .i64 x4)] a ∧ Stw ⟨Y, X, w0⟩ [] [row v1 63 Bg x17] w) ?_ ?_
    ·
     have H := G7
     clear G7 K7
     refine vc tk 8 F W fun a w F W => ?_
     refine BJ F Aa H (fun F H => ?_) fun F H => ?_
     ·
      refine vc tk 8 F W fun a w F W => ?_
      refine BF H (fun s a w => Fr 141 [] [(0, v1), (1, .int .i64 p1), (2, .int .i64 p2), (3, .func (.func 41) #[] #[]), (8, .bool false), (9, .int .i64 x7), (10, .int .i64 x4), (11, .int .i64 s.2)] a ∧ Stw ⟨Y, X, w0⟩ [] [row v1 63 Bg s.1] w) ⟨F.ra Aa, W⟩ fun s o a w H L8 hR => ?_
      obtain ⟨x18, x19⟩ := s
      obtain ⟨F, W⟩ := hR
      have F : Fr 141 [] [(0, v1), (1, .int .i64 p1), (2, .int .i64 p2), (3, .func (.func 41) #[] #[]), (8, .bool false), (9, .int .i64 x7), (10, .int .i64 x4), (11, .int .i64 x19)] a := F
      have W : Stw ⟨Y, X, w0⟩ [] [row v1 63 Bg x18] w := W
      rw [AC] at H
      refine vc tk 7 F W fun a w F W => ?_
      refine BJ F Aa H (fun F H => ?_) fun F H => ?_
      ·
       refine FL tk 6 F W fun a w F W => ?_
       refine Cw W MO (by kernel_rfl) ?_
       iterate 3 refine qs F Aa (An F Aa).q fun a F => ?_
       obtain ⟨x20, h8, H⟩ := Ad H
       refine qs F Aa (Av (r := Bg) Eg F Aa Aa (Aj 0 Aa) h8).q fun a F => ?_
       refine qs F Aa (Al (y := Value.agg #[.int .i64 x20.1, .int .i64 x20.2.1, .int .i64 x20.2.2.1, .int .i64 x20.2.2.2.1, .int .i64 x20.2.2.2.2]) (j := 0) (i := x19) F Aa Aa (Aj 0 Aa) h8 Ej.to DP Aa).q fun a F => ?_
       iterate 2 refine qs F Aa (An F Aa).q fun a F => ?_
       refine qs F Aa (HQ F Aa Aa Aa).q fun a F => ?_
       obtain ⟨x21, h9, H⟩ := Ad H
       refine qs F Aa (Av (r := Bg) Eg F Aa Aa (Aj 0 Aa) h9).q fun a F => ?_
       refine qs F Aa (Al (y := Value.agg #[.int .i64 x21.1, .int .i64 x21.2.1, .int .i64 x21.2.2.1, .int .i64 x21.2.2.2.1, .int .i64 x21.2.2.2.2]) (j := 0) (i := AO (x19 - 1)) F Aa Aa (Aj 0 Aa) h9 Ej.to DP Aa).q fun a F => ?_
       obtain ⟨x22, h10, H⟩ := Ad H
       refine qs F Aa (Eo (ws := (Ib x20 x21)) (v := Value.int .i64 x22) F RL Aa (fun w W => Cp any w x20 x21 _ h10)) fun a F => ?_
       refine qs F Aa (F7 F Aa Aa).q fun a F => ?_
       refine qs F Aa (Js F Aa).q fun a F => ?_
       refine AJ fun w W => ?_
       refine Ac ?_
       refine Cz F Aa H (fun F H => ?_) fun F H => ?_
       ·
        refine Bu (BL ?_)
        refine LX Aa ?_
        iterate 2 refine BL ?_
        refine Bp (Ac ?_)
        have H := L8 _ H
        exact ⟨_, H, F.ra Aa, W⟩
       refine FL tk 2 F W fun a w F W => ?_
       refine D6 [(true, 0), (true, 1), (true, 2), (true, 3), (true, 4), (true, 5), (true, 6), (true, 7), (true, 8), (true, 9), (true, 10), (true, 11), (true, 12), (true, 13), (true, 14), (false, 15), (true, 16), (false, 17)] (CN ⟨Y, X, w0⟩ [] [(some 15, row v1 63 Bg x18)]) (fun ch a d v w h => by cases d <;> exact h) MO (by kernel_rfl) W (fun w W => ⟨_, _, W, Ag, (all_cons (fun _ => (.head _)) Ag)⟩) fun w W => ?_
       iterate 4 refine Bo (R := []) F Aa Aa (yC fun M Z hN hZ => An F Aa) Aa Aa fun a F => ?_
       refine Bo (R := []) F Aa Aa (yC fun M Z hN hZ => HQ F Aa Aa Aa) Aa Aa fun a F => ?_
       iterate 2 refine Bo (R := []) F Aa Aa (yC fun M Z hN hZ => An F Aa) Aa Aa fun a F => ?_
       refine Bo (R := []) F Aa Aa (yC fun M Z hN hZ => HQ F Aa Aa Aa) Aa Aa fun a F => ?_
       obtain ⟨x23, h11, H⟩ := Ad H
       refine Bo (R := []) F Aa Aa (yC fun M Z hN hZ => Cn (r := Bg) Eg F Aa Aa (Eh W (Aj 0 Aa)) h11) Aa Aa fun a F => ?_
       refine Bo (R := [15]) F Aa Aa (yC fun M Z hN hZ => Al (y := Value.agg #[.int .i64 x23.1, .int .i64 x23.2.1, .int .i64 x23.2.2.1, .int .i64 x23.2.2.2.1, .int .i64 x23.2.2.2.2]) (j := 0) (i := AO (x19 - 1)) F Aa Aa (DL (hZ ((some 15), row v1 63 Bg x18) (.head _) Aa)) h11 Ej.to DP Aa) (by kernel_rfl) Aa fun a F => ?_
       iterate 2 refine Bo (R := []) F Aa Aa (yC fun M Z hN hZ => An F Aa) Aa Aa fun a F => ?_
       obtain ⟨x24, h12, H⟩ := Ad H
       refine Bo (R := []) F Aa Aa (yC fun M Z hN hZ => Cn (r := Bg) Eg F Aa Aa (Eh W (Aj 0 Aa)) h12) Aa Aa fun a F => ?_
       refine Bo (R := [15]) F Aa Aa (yC fun M Z hN hZ => Al (y := Value.agg #[.int .i64 x24.1, .int .i64 x24.2.1, .int .i64 x24.2.2.1, .int .i64 x24.2.2.2.1, .int .i64 x24.2.2.2.2]) (j := 0) (i := x19) F Aa Aa (DL (hZ ((some 15), row v1 63 Bg x18) (.head _) Aa)) h12 Ej.to DP Aa) (by kernel_rfl) Aa fun a F => ?_
       obtain ⟨x25, h13, H⟩ := Ad H
       refine Bo (R := []) F Aa Aa (yC fun M Z hN hZ => Cn (r := Bg) Eg F Aa Aa (Eh W (Aj 0 Aa)) h13) Aa Aa fun a F => ?_
       refine Dr Aa ?_
       refine BG (i := x19) (j := 0) (vs := (CT x23)) (x' := x23) F W Aa Aa Aa (k := 0) Aa Aa h13 DP Aa Aa Aa Aa (fun A cs _ => Ej.sto (by rfl) _ _ _) fun w W => ?_
       refine Bl (N2 := []) (NZ2 := []) (N3 := []) (NZ3 := [(some 15, row v1 63 Bg x18)]) W Aa Aa Ag (all_cons (fun h => Ah (by kernel_rfl) h) Ag) ?_
       obtain ⟨x26, h14, H⟩ := Ad H
       refine Bo (R := []) F Aa Aa (yC fun M Z hN hZ => Cn (r := Bg) Eg F Aa Aa (Eh W (Aj 0 Aa)) h14) Aa Aa fun a F => ?_
       refine Dr Aa ?_
       refine BG (i := AO (x19 - 1)) (j := 0) (vs := (CT x24)) (x' := x24) F W Aa Aa Aa (k := 0) Aa Aa h14 DP Aa Aa Aa Aa (fun A cs _ => Ej.sto (by rfl) _ _ _) fun w W => ?_
       refine Bl (N2 := []) (NZ2 := []) (N3 := []) (NZ3 := [(some 15, row v1 63 Bg x18)]) W Aa Aa Ag (all_cons (fun h => Ah (by kernel_rfl) h) Ag) ?_
       refine Fw (AG ?_)
       refine vn tk 5 F W fun a w F W => ?_
       refine Ac ?_
       exact ⟨_, H, F.ra Aa, W⟩
      refine Bu ?_
      iterate 2 refine BL ?_
      refine Bp (Ac ?_)
      have H := L8 _ H
      exact ⟨_, H, F.ra Aa, W⟩
     refine AX (Ac ?_)
     exact ⟨_, H, F.ra Aa, W⟩
    rintro a w ⟨x17, hj, F, W⟩
    have hj := AA hj
    subst hj
    have H := K7
    clear G7 K7
    refine vc tk 8 F W fun a w F W => ?_
    refine BJ F Aa H (fun F H => ?_) fun F H => ?_
    ·
     refine vc tk 8 F W fun a w F W => ?_
     refine BF H (fun s a w => Fr 141 [] [(0, v1), (1, .int .i64 p1), (2, .int .i64 p2), (3, .func (.func 41) #[] #[]), (8, .bool false), (9, .int .i64 x7), (10, .int .i64 x4), (12, .int .i64 s.2)] a ∧ Stw ⟨Y, X, w0⟩ [] [row v1 63 Bg s.1] w) ⟨F.ra Aa, W⟩ fun s o a w H L9 hR => ?_
     obtain ⟨x27, x28⟩ := s
     obtain ⟨F, W⟩ := hR
     have F : Fr 141 [] [(0, v1), (1, .int .i64 p1), (2, .int .i64 p2), (3, .func (.func 41) #[] #[]), (8, .bool false), (9, .int .i64 x7), (10, .int .i64 x4), (12, .int .i64 x28)] a := F
     have W : Stw ⟨Y, X, w0⟩ [] [row v1 63 Bg x27] w := W
     rw [AM] at H
     refine vc tk 8 F W fun a w F W => ?_
     refine BJ F Aa H (fun F H => ?_) fun F H => ?_
     ·
      refine FL tk 6 F W fun a w F W => ?_
      refine Cw W MO (by kernel_rfl) ?_
      iterate 3 refine qs F Aa (An F Aa).q fun a F => ?_
      obtain ⟨x29, h15, H⟩ := Ad H
      refine qs F Aa (Av (r := Bg) Eg F Aa Aa (Aj 0 Aa) h15).q fun a F => ?_
      refine qs F Aa (Al (y := Value.agg #[.int .i64 x29.1, .int .i64 x29.2.1, .int .i64 x29.2.2.1, .int .i64 x29.2.2.2.1, .int .i64 x29.2.2.2.2]) (j := 0) (i := x28) F Aa Aa (Aj 0 Aa) h15 Ej.to DP Aa).q fun a F => ?_
      iterate 2 refine qs F Aa (An F Aa).q fun a F => ?_
      refine qs F Aa (HQ F Aa Aa Aa).q fun a F => ?_
      obtain ⟨x30, h16, H⟩ := Ad H
      refine qs F Aa (Av (r := Bg) Eg F Aa Aa (Aj 0 Aa) h16).q fun a F => ?_
      refine qs F Aa (Al (y := Value.agg #[.int .i64 x30.1, .int .i64 x30.2.1, .int .i64 x30.2.2.1, .int .i64 x30.2.2.2.1, .int .i64 x30.2.2.2.2]) (j := 0) (i := AO (x28 - 1)) F Aa Aa (Aj 0 Aa) h16 Ej.to DP Aa).q fun a F => ?_
      obtain ⟨x31, h17, H⟩ := Ad H
      refine qs F Aa (Eo (ws := (Ib x29 x30)) (v := Value.int .i64 x31) F RL Aa (fun w W => Cp any w x29 x30 _ h17)) fun a F => ?_
      refine qs F Aa (F7 F Aa Aa).q fun a F => ?_
      refine qs F Aa (Js F Aa).q fun a F => ?_
      refine AJ fun w W => ?_
      refine Ac ?_
      refine Cz F Aa H (fun F H => ?_) fun F H => ?_
      ·
       refine Bu (BL ?_)
       refine LX Aa ?_
       iterate 2 refine BL ?_
       refine Bp (AG (Ac ?_))
       have H := L9 _ H
       exact ⟨_, _, H, F.ra Aa, W⟩
      refine FL tk 2 F W fun a w F W => ?_
      refine D6 [(true, 0), (true, 1), (true, 2), (true, 3), (true, 4), (true, 5), (true, 6), (true, 7), (true, 8), (true, 9), (true, 10), (true, 11), (true, 12), (true, 13), (true, 14), (false, 15), (true, 16), (false, 17)] (CN ⟨Y, X, w0⟩ [] [(some 15, row v1 63 Bg x27)]) (fun ch a d v w h => by cases d <;> exact h) MO (by kernel_rfl) W (fun w W => ⟨_, _, W, Ag, (all_cons (fun _ => (.head _)) Ag)⟩) fun w W => ?_
      iterate 4 refine Bo (R := []) F Aa Aa (yC fun M Z hN hZ => An F Aa) Aa Aa fun a F => ?_
      refine Bo (R := []) F Aa Aa (yC fun M Z hN hZ => HQ F Aa Aa Aa) Aa Aa fun a F => ?_
      iterate 2 refine Bo (R := []) F Aa Aa (yC fun M Z hN hZ => An F Aa) Aa Aa fun a F => ?_
      refine Bo (R := []) F Aa Aa (yC fun M Z hN hZ => HQ F Aa Aa Aa) Aa Aa fun a F => ?_
      obtain ⟨x32, h18, H⟩ := Ad H
      refine Bo (R := []) F Aa Aa (yC fun M Z hN hZ => Cn (r := Bg) Eg F Aa Aa (Eh W (Aj 0 Aa)) h18) Aa Aa fun a F => ?_
      refine Bo (R := [15]) F Aa Aa (yC fun M Z hN hZ => Al (y := Value.agg #[.int .i64 x32.1, .int .i64 x32.2.1, .int .i64 x32.2.2.1, .int .i64 x32.2.2.2.1, .int .i64 x32.2.2.2.2]) (j := 0) (i := AO (x28 - 1)) F Aa Aa (DL (hZ ((some 15), row v1 63 Bg x27) (.head _) Aa)) h18 Ej.to DP Aa) (by kernel_rfl) Aa fun a F => ?_
      iterate 2 refine Bo (R := []) F Aa Aa (yC fun M Z hN hZ => An F Aa) Aa Aa fun a F => ?_
      obtain ⟨x33, h19, H⟩ := Ad H
      refine Bo (R := []) F Aa Aa (yC fun M Z hN hZ => Cn (r := Bg) Eg F Aa Aa (Eh W (Aj 0 Aa)) h19) Aa Aa fun a F => ?_
      refine Bo (R := [15]) F Aa Aa (yC fun M Z hN hZ => Al (y := Value.agg #[.int .i64 x33.1, .int .i64 x33.2.1, .int .i64 x33.2.2.1, .int .i64 x33.2.2.2.1, .int .i64 x33.2.2.2.2]) (j := 0) (i := x28) F Aa Aa (DL (hZ ((some 15), row v1 63 Bg x27) (.head _) Aa)) h19 Ej.to DP Aa) (by kernel_rfl) Aa fun a F => ?_
      obtain ⟨x34, h20, H⟩ := Ad H
      refine Bo (R := []) F Aa Aa (yC fun M Z hN hZ => Cn (r := Bg) Eg F Aa Aa (Eh W (Aj 0 Aa)) h20) Aa Aa fun a F => ?_
      refine Dr Aa ?_
      refine BG (i := x28) (j := 0) (vs := (CT x32)) (x' := x32) F W Aa Aa Aa (k := 0) Aa Aa h20 DP Aa Aa Aa Aa (fun A cs _ => Ej.sto (by rfl) _ _ _) fun w W => ?_
      refine Bl (N2 := []) (NZ2 := []) (N3 := []) (NZ3 := [(some 15, row v1 63 Bg x27)]) W Aa Aa Ag (all_cons (fun h => Ah (by kernel_rfl) h) Ag) ?_
      obtain ⟨x35, h21, H⟩ := Ad H
      refine Bo (R := []) F Aa Aa (yC fun M Z hN hZ => Cn (r := Bg) Eg F Aa Aa (Eh W (Aj 0 Aa)) h21) Aa Aa fun a F => ?_
      refine Dr Aa ?_
      refine BG (i := AO (x28 - 1)) (j := 0) (vs := (CT x33)) (x' := x33) F W Aa Aa Aa (k := 0) Aa Aa h21 DP Aa Aa Aa Aa (fun A cs _ => Ej.sto (by rfl) _ _ _) fun w W => ?_
      refine Bl (N2 := []) (NZ2 := []) (N3 := []) (NZ3 := [(some 15, row v1 63 Bg x27)]) W Aa Aa Ag (all_cons (fun h => Ah (by kernel_rfl) h) Ag) ?_
      refine Fw (AG ?_)
      refine vn tk 5 F W fun a w F W => ?_
      refine Ac ?_
      exact ⟨_, H, F.ra Aa, W⟩
     refine Bu ?_
     iterate 2 refine BL ?_
     refine Bp (AG (Ac ?_))
     have H := L9 _ H
     exact ⟨_, _, H, F.ra Aa, W⟩
    refine AX (AG (Ac ?_))
    exact ⟨_, _, H, F.ra Aa, W⟩
   rintro a w ⟨x5, x6, hj, F, W⟩
   have H := K3 _ hj
   clear hj G3 K3 L3
   refine vc tk 5 F W fun a w F W => ?_
   refine Ac ?_
   exact ⟨_, H, F.ra Aa, W⟩
  refine Bu ?_
  iterate 2 refine BL ?_
  refine Bp (Ac ?_)
  have H := L2 _ H
  exact ⟨_, H, F.ra Aa, W⟩
 rintro a w ⟨x1, hj, F, W⟩
 have H := K1 _ hj
 clear hj G1 K1 L1
 refine vc tk 5 F W fun a w F W => ?_
 refine Ak ?_
 have H := AA H
 subst H
 refine Au (.inl Aa) F W Aa (Am F Aa) ?_
 exact ⟨(), Aa, W⟩
theorem YO : Has Tryz.prog 98 := CJ Tryz.func98
noncomputable def BR (p1 : Int) (x7 : List (Int × (Int × Int × Int × Int))) (x9 : Int) : Int → Option (Int ⊕ Int)
  | x11 => (if x11 ≤ x9 then (ix x7 p1).bind fun x13 => (ix x7 x11).bind fun x14 => (Cj x13 x14).bind fun x15 => some (!(decide (x15 < 0))) else some false).bind fun x12 => (if x12 = true then some (.inl (AO (x11 + 1))) else some (.inr x11))
noncomputable def BQ (p1 : Int) (x7 : List (Int × (Int × Int × Int × Int))) (x10 : Int) : Int → Option (Int ⊕ Int)
  | x17 => (if x10 ≤ x17 then (ix x7 p1).bind fun x19 => (ix x7 x17).bind fun x20 => (Cj x19 x20).bind fun x21 => some (decide (x21 < 0)) else some false).bind fun x18 => (if x18 = true then some (.inl (AO (x17 - 1))) else some (.inr x17))
noncomputable def Bx (p1 : Int) : ((List (Int × (Int × Int × Int × Int))) × Int × Int) → Option (((List (Int × (Int × Int × Int × Int))) × Int × Int) ⊕ (Int × (List (Int × (Int × Int × Int × Int)))))
  | (x7, x8, x9) => (AW (BR p1 x7 x9) x8).bind fun x10 => (AW (BQ p1 x7 x10) x9).bind fun x16 => (if x16 < x10 then some (.inr (x10, x7)) else (ix x7 x16).bind fun x22 => (ix x7 x10).bind fun x23 => (ix x7 x10).bind fun x24 => (ix (Bf x7 x10 x22) x16).bind fun x25 => some (.inl ((Bf (Bf x7 x10 x22) x16 x23), AO (x10 + 1), AO (x16 - 1))))
noncomputable def B4 (p0 : List (Int × (Int × Int × Int × Int))) (p1 : Int) (p2 : Int) (p3 : Int) : Option (Int × (List (Int × (Int × Int × Int × Int)))) := (ix p0 p3).bind fun x1 => (ix p0 p1).bind fun x2 => (ix p0 p1).bind fun x3 => (ix (Bf p0 p1 x1) p3).bind fun x4 => (AW (Bx p1) ((Bf (Bf p0 p1 x1) p3 x2), AO (p1 + 1), AO (p2 - 1))).bind fun (x5, x6) => some (x5, x6)
theorem FB (Y : Nat → Prop) (X : List Nat) (w0 : World) (v1 : Value) (p0 : List (Int × (Int × Int × Int × Int))) (p1 : Int) (p2 : Int) (p3 : Int) (r : Int × (List (Int × (Int × Int × Int × Int)))) (H : B4 p0 p1 p2 p3 = some r) (hL : Stw ⟨Y, X, w0⟩ [] [row v1 63 Bg p0] w0) :
    Calls Tryz.prog 99 #[v1, .int .i64 p1, .int .i64 p2, .int .i64 p3, .func (.func 41) #[] #[]] w0 fun e w' => ∃ x : Unit, e = .returned (.int .i64 r.1) ∧ Stw ⟨Y, X, w0⟩ [] [row v1 63 Bg r.2] w' := by
 refine enter Tryz.func99 Aa Tryz.ntmps99 Aa fun a F => ?_
 have W := hL
 unfold B4 at H
 refine vc tk 6 F W fun a w F W => ?_
 refine Ia 13 [2, 3] [0, 1, 4, 5, 6, 7, 8, 9, 10, 11, 12] (fun ch a d v w h => by cases d <;> exact h) W MO (by kernel_rfl) ?_
 iterate 2 refine hm F Aa Aa Aa fun a F => ?_
 refine JG ?_
 iterate 4 refine hs F Aa Aa Aa (An F Aa).q fun a F => ?_
 obtain ⟨x1, h1, H⟩ := Ad H
 refine hs F Aa Aa Aa (Av (r := Bg) Eg F Aa Aa (Aj 0 Aa) h1).q fun a F => ?_
 refine hs F Aa Aa Aa (Al (y := Value.agg #[.int .i64 x1.1, .int .i64 x1.2.1, .int .i64 x1.2.2.1, .int .i64 x1.2.2.2.1, .int .i64 x1.2.2.2.2]) (j := 0) (i := p3) F Aa Aa (Aj 0 Aa) h1 Ej.to DP Aa).q fun a F => ?_
 iterate 2 refine hs F Aa Aa Aa (An F Aa).q fun a F => ?_
 obtain ⟨x2, h2, H⟩ := Ad H
 refine hs F Aa Aa Aa (Av (r := Bg) Eg F Aa Aa (Aj 0 Aa) h2).q fun a F => ?_
 refine hs F Aa Aa Aa (Al (y := Value.agg #[.int .i64 x2.1, .int .i64 x2.2.1, .int .i64 x2.2.2.1, .int .i64 x2.2.2.2.1, .int .i64 x2.2.2.2.2]) (j := 0) (i := p1) F Aa Aa (Aj 0 Aa) h2 Ej.to DP Aa).q fun a F => ?_
 obtain ⟨x3, h3, H⟩ := Ad H
 refine hs F Aa Aa Aa (Av (r := Bg) Eg F Aa Aa (Aj 0 Aa) h3).q fun a F => ?_
 refine ME fun w W => ?_
 have W : Stw ⟨Y, X, w0⟩ [] [row v1 63 Bg p0] w := W
 refine BG (i := p1) (j := 0) (vs := (CT x1)) (x' := x1) F W Aa Aa Aa (k := 0) Aa Aa h3 DP Aa Aa Aa Aa (fun A cs _ => Ej.sto (by rfl) _ _ _) fun w W => ?_
 obtain ⟨x4, h4, H⟩ := Ad H
 refine ls F W Aa (Av (r := Bg) Eg F Aa Aa (Aj 0 Aa) h4).q fun a w F W => ?_
 refine BG (i := p3) (j := 0) (vs := (CT x2)) (x' := x2) F W Aa Aa Aa (k := 0) Aa Aa h4 DP Aa Aa Aa Aa (fun A cs _ => Ej.sto (by rfl) _ _ _) fun w W => ?_
 refine Cl tk 12 F W fun a w F W => ?_
 obtain ⟨o1, G1, K1⟩ := Ad H
 refine Ax (fun a w => ∃ x5 : Int, ∃ x6 : List (Int × (Int × Int × Int × Int)), some ((x5, x6)) = some o1 ∧ Fr 90 [] [(10, .int .i64 0), (11, .int .i64 x5)] a ∧ Stw ⟨Y, X, w0⟩ [] [row v1 63 Bg x6] w) ?_ ?_
 ·
  have H := G1
  clear G1 K1
  refine D7 ?_
  refine BF H (fun s a w => Fr 90 [] [(0, v1), (1, .int .i64 p1), (4, .func (.func 41) #[] #[]), (10, .int .i64 0), (11, .int .i64 s.2.1), (12, .int .i64 s.2.2)] a ∧ Stw ⟨Y, X, w0⟩ [] [row v1 63 Bg s.1] w) ⟨F.ra Aa, W⟩ fun s o a w H L2 hR => ?_
  obtain ⟨x7, x8, x9⟩ := s
  obtain ⟨F, W⟩ := hR
  have F : Fr 90 [] [(0, v1), (1, .int .i64 p1), (4, .func (.func 41) #[] #[]), (10, .int .i64 0), (11, .int .i64 x8), (12, .int .i64 x9)] a := F
  have W : Stw ⟨Y, X, w0⟩ [] [row v1 63 Bg x7] w := W
  rw [Bx] at H
  refine D7 ?_
  obtain ⟨o3, G3, K3⟩ := Ad H
  refine Ax (fun a w => ∃ x10 : Int, some (x10) = some o3 ∧ Fr 90 [] [(0, v1), (1, .int .i64 p1), (4, .func (.func 41) #[] #[]), (10, .int .i64 0), (11, .int .i64 x10), (12, .int .i64 x9)] a ∧ Stw ⟨Y, X, w0⟩ [] [row v1 63 Bg x7] w) ?_ ?_
  ·
   have H := G3
   clear G3 K3
   refine D7 ?_
   refine BF H (fun s a w => Fr 90 [] [(0, v1), (1, .int .i64 p1), (4, .func (.func 41) #[] #[]), (10, .int .i64 0), (11, .int .i64 s), (12, .int .i64 x9)] a ∧ Stw ⟨Y, X, w0⟩ [] [row v1 63 Bg x7] w) ⟨F.ra Aa, W⟩ fun s o a w H L4 hR => ?_
   obtain ⟨x11, rfl⟩ : ∃ x, x = s := ⟨s, rfl⟩
   obtain ⟨F, W⟩ := hR
   have F : Fr 90 [] [(0, v1), (1, .int .i64 p1), (4, .func (.func 41) #[] #[]), (10, .int .i64 0), (11, .int .i64 x11), (12, .int .i64 x9)] a := F
   have W : Stw ⟨Y, X, w0⟩ [] [row v1 63 Bg x7] w := W
   rw [BR] at H
   refine FS ?_
   obtain ⟨o5, G5, K5⟩ := Ad H
   refine Ax (fun a w => ∃ x12 : Bool, some (x12) = some o5 ∧ Fr 90 [] [(0, v1), (1, .int .i64 p1), (4, .func (.func 41) #[] #[]), (10, .int .i64 0), (11, .int .i64 x11), (12, .int .i64 x9), (47, .bool x12)] a ∧ Stw ⟨Y, X, w0⟩ [] [row v1 63 Bg x7] w) ?_ ?_
   ·
    have H := G5
    clear G5 K5
    refine Cw W MO (by kernel_rfl) ?_
    iterate 2 refine qs F Aa (An F Aa).q fun a F => ?_
    refine qs F Aa (KN F Aa Aa).q fun a F => ?_
    refine qs F Aa (An F Aa).q fun a F => ?_
    rcases Bool.eq_false_or_eq_true (decide (x11 ≤ x9)) with hb | hb
    ·
     have H := B8 (CI hb) H
     rw [hb] at F
     clear hb
     iterate 3 refine AL F (Ab F Aa Aa Aa Aa) Aa (Ao Aa) (An F Aa).q fun a F => ?_
     obtain ⟨x13, h5, H⟩ := Ad H
     refine AL F (Ab F Aa Aa Aa Aa) Aa (Ao Aa) (Av (r := Bg) Eg F Aa Aa (Aj 0 Aa) h5).q fun a F => ?_
     refine AL F (Ab F Aa Aa Aa Aa) Aa (Ao Aa) (Al (y := Value.agg #[.int .i64 x13.1, .int .i64 x13.2.1, .int .i64 x13.2.2.1, .int .i64 x13.2.2.2.1, .int .i64 x13.2.2.2.2]) (j := 0) (i := p1) F Aa Aa (Aj 0 Aa) h5 Ej.to DP Aa).q fun a F => ?_
     iterate 2 refine AL F (Ab F Aa Aa Aa Aa) Aa (Ao Aa) (An F Aa).q fun a F => ?_
     obtain ⟨x14, h6, H⟩ := Ad H
     refine AL F (Ab F Aa Aa Aa Aa) Aa (Ao Aa) (Av (r := Bg) Eg F Aa Aa (Aj 0 Aa) h6).q fun a F => ?_
     refine AL F (Ab F Aa Aa Aa Aa) Aa (Ao Aa) (Al (y := Value.agg #[.int .i64 x14.1, .int .i64 x14.2.1, .int .i64 x14.2.2.1, .int .i64 x14.2.2.2.1, .int .i64 x14.2.2.2.2]) (j := 0) (i := x11) F Aa Aa (Aj 0 Aa) h6 Ej.to DP Aa).q fun a F => ?_
     obtain ⟨x15, h7, H⟩ := Ad H
     refine AL F (Ab F Aa Aa Aa Aa) Aa (Ao Aa) (Eo (ws := (Ib x13 x14)) (v := Value.int .i64 x15) F RL Aa (fun w W => Cp any w x13 x14 _ h7)) fun a F => ?_
     refine AL F (Ab F Aa Aa Aa Aa) Aa (Ao Aa) (F7 F Aa Aa).q fun a F => ?_
     refine AL F (Ab F Aa Aa Aa Aa) Aa (Ao Aa) (Js F Aa).q fun a F => ?_
     refine qs F Aa (Bq F Aa Aa Aa).q fun a F => ?_
     refine AJ fun w W => ?_
     refine Ac ?_
     exact ⟨_, H, F.ra Aa, W⟩
    have H := B7 (CH hb) H
    rw [hb] at F
    clear hb
    iterate 12 refine Bj F (A7 F Aa Aa Aa Aa Aa) Aa Aa fun a F => ?_
    refine qs F Aa (Br F Aa Aa Aa).q fun a F => ?_
    refine AJ fun w W => ?_
    refine Ac ?_
    exact ⟨_, H, F.ra Aa, W⟩
   rintro a w ⟨x12, hj, F, W⟩
   have hj := AA hj
   subst hj
   have H := K5
   clear G5 K5
   refine Cz F Aa H (fun F H => ?_) fun F H => ?_
   ·
    refine FL tk 8 F W fun a w F W => ?_
    refine Ac ?_
    exact ⟨_, H, F.ra Aa, W⟩
   refine Bu ?_
   iterate 2 refine BL ?_
   refine Bp (Ac ?_)
   have H := L4 _ H
   exact ⟨_, H, F.ra Aa, W⟩
  rintro a w ⟨x10, hj, F, W⟩
  have hj := AA hj
  subst hj
  have H := K3
  clear G3 K3
  obtain ⟨o6, G6, K6⟩ := Ad H
  refine Ax (fun a w => ∃ x16 : Int, some (x16) = some o6 ∧ Fr 90 [] [(0, v1), (1, .int .i64 p1), (4, .func (.func 41) #[] #[]), (10, .int .i64 0), (11, .int .i64 x10), (12, .int .i64 x16)] a ∧ Stw ⟨Y, X, w0⟩ [] [row v1 63 Bg x7] w) ?_ ?_
  ·
   have H := G6
   clear G6 K6
   refine D7 ?_
   refine BF H (fun s a w => Fr 90 [] [(0, v1), (1, .int .i64 p1), (4, .func (.func 41) #[] #[]), (10, .int .i64 0), (11, .int .i64 x10), (12, .int .i64 s)] a ∧ Stw ⟨Y, X, w0⟩ [] [row v1 63 Bg x7] w) ⟨F.ra Aa, W⟩ fun s o a w H L7 hR => ?_
   obtain ⟨x17, rfl⟩ : ∃ x, x = s := ⟨s, rfl⟩
   obtain ⟨F, W⟩ := hR
   have F : Fr 90 [] [(0, v1), (1, .int .i64 p1), (4, .func (.func 41) #[] #[]), (10, .int .i64 0), (11, .int .i64 x10), (12, .int .i64 x17)] a := F
   have W : Stw ⟨Y, X, w0⟩ [] [row v1 63 Bg x7] w := W
   rw [BQ] at H
   refine FS ?_
   obtain ⟨o8, G8, K8⟩ := Ad H
   refine Ax (fun a w => ∃ x18 : Bool, some (x18) = some o8 ∧ Fr 90 [] [(0, v1), (1, .int .i64 p1), (4, .func (.func 41) #[] #[]), (10, .int .i64 0), (11, .int .i64 x10), (12, .int .i64 x17), (65, .bool x18)] a ∧ Stw ⟨Y, X, w0⟩ [] [row v1 63 Bg x7] w) ?_ ?_
   ·
    have H := G8
    clear G8 K8
    refine Cw W MO (by kernel_rfl) ?_
    iterate 2 refine qs F Aa (An F Aa).q fun a F => ?_
    refine qs F Aa (KN F Aa Aa).q fun a F => ?_
    refine qs F Aa (An F Aa).q fun a F => ?_
    rcases Bool.eq_false_or_eq_true (decide (x10 ≤ x17)) with hb | hb
    ·
     have H := B8 (CI hb) H
     rw [hb] at F
     clear hb
     iterate 3 refine AL F (Ab F Aa Aa Aa Aa) Aa (Ao Aa) (An F Aa).q fun a F => ?_
     obtain ⟨x19, h8, H⟩ := Ad H
     refine AL F (Ab F Aa Aa Aa Aa) Aa (Ao Aa) (Av (r := Bg) Eg F Aa Aa (Aj 0 Aa) h8).q fun a F => ?_
     refine AL F (Ab F Aa Aa Aa Aa) Aa (Ao Aa) (Al (y := Value.agg #[.int .i64 x19.1, .int .i64 x19.2.1, .int .i64 x19.2.2.1, .int .i64 x19.2.2.2.1, .int .i64 x19.2.2.2.2]) (j := 0) (i := p1) F Aa Aa (Aj 0 Aa) h8 Ej.to DP Aa).q fun a F => ?_
     iterate 2 refine AL F (Ab F Aa Aa Aa Aa) Aa (Ao Aa) (An F Aa).q fun a F => ?_
     obtain ⟨x20, h9, H⟩ := Ad H
     refine AL F (Ab F Aa Aa Aa Aa) Aa (Ao Aa) (Av (r := Bg) Eg F Aa Aa (Aj 0 Aa) h9).q fun a F => ?_
     refine AL F (Ab F Aa Aa Aa Aa) Aa (Ao Aa) (Al (y := Value.agg #[.int .i64 x20.1, .int .i64 x20.2.1, .int .i64 x20.2.2.1, .int .i64 x20.2.2.2.1, .int .i64 x20.2.2.2.2]) (j := 0) (i := x17) F Aa Aa (Aj 0 Aa) h9 Ej.to DP Aa).q fun a F => ?_
     obtain ⟨x21, h10, H⟩ := Ad H
     refine AL F (Ab F Aa Aa Aa Aa) Aa (Ao Aa) (Eo (ws := (Ib x19 x20)) (v := Value.int .i64 x21) F RL Aa (fun w W => Cp any w x19 x20 _ h10)) fun a F => ?_
     refine AL F (Ab F Aa Aa Aa Aa) Aa (Ao Aa) (F7 F Aa Aa).q fun a F => ?_
     refine qs F Aa (Bq F Aa Aa Aa).q fun a F => ?_
     refine AJ fun w W => ?_
     refine Ac ?_
     exact ⟨_, H, F.ra Aa, W⟩
    have H := B7 (CH hb) H
    rw [hb] at F
    clear hb
    iterate 11 refine Bj F (A7 F Aa Aa Aa Aa Aa) Aa Aa fun a F => ?_
    refine qs F Aa (Br F Aa Aa Aa).q fun a F => ?_
    refine AJ fun w W => ?_
    refine Ac ?_
    exact ⟨_, H, F.ra Aa, W⟩
   rintro a w ⟨x18, hj, F, W⟩
   have hj := AA hj
   subst hj
   have H := K8
   clear G8 K8
   refine Cz F Aa H (fun F H => ?_) fun F H => ?_
   ·
    refine FL tk 8 F W fun a w F W => ?_
    refine Ac ?_
    exact ⟨_, H, F.ra Aa, W⟩
   refine Bu ?_
   iterate 2 refine BL ?_
   refine Bp (Ac ?_)
   have H := L7 _ H
   exact ⟨_, H, F.ra Aa, W⟩
  rintro a w ⟨x16, hj, F, W⟩
  have hj := AA hj
  subst hj
  have H := K6
  clear G6 K6
  refine vc tk 8 F W fun a w F W => ?_
  refine BJ F Aa H (fun F H => ?_) fun F H => ?_
  ·
   refine Bu (BL ?_)
   refine LX Aa ?_
   refine BL (Bp (Ac ?_))
   have H := L2 _ H
   exact ⟨_, _, H, F.ra Aa, W⟩
  refine FL tk 3 F W fun a w F W => ?_
  refine Ia 13 [2, 3] [0, 1, 4, 5, 6, 7, 8, 9, 10, 11, 12] (fun ch a d v w h => by cases d <;> exact h) W MO (by kernel_rfl) ?_
  iterate 2 refine hm F Aa Aa Aa fun a F => ?_
  refine JG ?_
  iterate 4 refine hs F Aa Aa Aa (An F Aa).q fun a F => ?_
  obtain ⟨x22, h11, H⟩ := Ad H
  refine hs F Aa Aa Aa (Av (r := Bg) Eg F Aa Aa (Aj 0 Aa) h11).q fun a F => ?_
  refine hs F Aa Aa Aa (Al (y := Value.agg #[.int .i64 x22.1, .int .i64 x22.2.1, .int .i64 x22.2.2.1, .int .i64 x22.2.2.2.1, .int .i64 x22.2.2.2.2]) (j := 0) (i := x16) F Aa Aa (Aj 0 Aa) h11 Ej.to DP Aa).q fun a F => ?_
  iterate 2 refine hs F Aa Aa Aa (An F Aa).q fun a F => ?_
  obtain ⟨x23, h12, H⟩ := Ad H
  refine hs F Aa Aa Aa (Av (r := Bg) Eg F Aa Aa (Aj 0 Aa) h12).q fun a F => ?_
  refine hs F Aa Aa Aa (Al (y := Value.agg #[.int .i64 x23.1, .int .i64 x23.2.1, .int .i64 x23.2.2.1, .int .i64 x23.2.2.2.1, .int .i64 x23.2.2.2.2]) (j := 0) (i := x10) F Aa Aa (Aj 0 Aa) h12 Ej.to DP Aa).q fun a F => ?_
  obtain ⟨x24, h13, H⟩ := Ad H
  refine hs F Aa Aa Aa (Av (r := Bg) Eg F Aa Aa (Aj 0 Aa) h13).q fun a F => ?_
  refine ME fun w W => ?_
  have W : Stw ⟨Y, X, w0⟩ [] [row v1 63 Bg x7] w := W
  refine BG (i := x10) (j := 0) (vs := (CT x22)) (x' := x22) F W Aa Aa Aa (k := 0) Aa Aa h13 DP Aa Aa Aa Aa (fun A cs _ => Ej.sto (by rfl) _ _ _) fun w W => ?_
  obtain ⟨x25, h14, H⟩ := Ad H
  refine ls F W Aa (Av (r := Bg) Eg F Aa Aa (Aj 0 Aa) h14).q fun a w F W => ?_
  refine BG (i := x16) (j := 0) (vs := (CT x23)) (x' := x23) F W Aa Aa Aa (k := 0) Aa Aa h14 DP Aa Aa Aa Aa (fun A cs _ => Ej.sto (by rfl) _ _ _) fun w W => ?_
  refine Cl tk 14 F W fun a w F W => ?_
  refine AG (Ac ?_)
  exact ⟨_, H, F.ra Aa, W⟩
 rintro a w ⟨x5, x6, hj, F, W⟩
 have hj := AA hj
 subst hj
 have H := K1
 clear G1 K1
 refine vc tk 6 F W fun a w F W => ?_
 refine Ak ?_
 have H := AA H
 subst H
 refine Au (.inl Aa) F W Aa (Am F Aa) ?_
 exact ⟨(), Aa, W⟩
theorem YX : Has Tryz.prog 99 := CJ Tryz.func99
noncomputable def BP (p0 : List (Int × (Int × Int × Int × Int))) (p1 : Int) (p2 : Int) (p3 : Int) (x1 : Int × (Int × Int × Int × Int)) (x2 : Int × (Int × Int × Int × Int)) : Int → Option (Int ⊕ Int)
  | x6 => (if x6 ≤ (AO (p2 - 1)) then (ix (Bf (Bf p0 p1 x1) p3 x2) x6).bind fun x8 => (ix (Bf (Bf p0 p1 x1) p3 x2) p1).bind fun x9 => (Cj x8 x9).bind fun x10 => some (decide (x10 < 0)) else some false).bind fun x7 => (if x7 = true then some (.inl (AO (x6 + 1))) else some (.inr x6))
noncomputable def Cc (p0 : List (Int × (Int × Int × Int × Int))) (p1 : Int) (p3 : Int) (x1 : Int × (Int × Int × Int × Int)) (x2 : Int × (Int × Int × Int × Int)) (x5 : Int) : Int → Option (Int ⊕ Int)
  | x12 => (if x5 ≤ x12 then (ix (Bf (Bf p0 p1 x1) p3 x2) x12).bind fun x14 => (ix (Bf (Bf p0 p1 x1) p3 x2) p1).bind fun x15 => (Cj x14 x15).bind fun x16 => some (!(decide (x16 < 0))) else some false).bind fun x13 => (if x13 = true then some (.inl (AO (x12 - 1))) else some (.inr x12))
noncomputable def Cb (p1 : Int) (x27 : List (Int × (Int × Int × Int × Int))) (x29 : Int) : Int → Option (Int ⊕ Int)
  | x31 => (if x31 ≤ x29 then (ix x27 x31).bind fun x33 => (ix x27 p1).bind fun x34 => (Cj x33 x34).bind fun x35 => some (decide (x35 < 0)) else some false).bind fun x32 => (if x32 = true then some (.inl (AO (x31 + 1))) else some (.inr x31))
noncomputable def Ca (p1 : Int) (x27 : List (Int × (Int × Int × Int × Int))) (x30 : Int) : Int → Option (Int ⊕ Int)
  | x37 => (if x30 ≤ x37 then (ix x27 x37).bind fun x39 => (ix x27 p1).bind fun x40 => (Cj x39 x40).bind fun x41 => some (!(decide (x41 < 0))) else some false).bind fun x38 => (if x38 = true then some (.inl (AO (x37 - 1))) else some (.inr x37))
noncomputable def Bz (p1 : Int) : ((List (Int × (Int × Int × Int × Int))) × Int × Int) → Option (((List (Int × (Int × Int × Int × Int))) × Int × Int) ⊕ ((List (Int × (Int × Int × Int × Int))) × Int))
  | (x27, x28, x29) => (AW (Cb p1 x27 x29) x28).bind fun x30 => (AW (Ca p1 x27 x30) x29).bind fun x36 => (if x36 < x30 then some (.inr (x27, x36)) else (ix x27 x36).bind fun x42 => (ix x27 x30).bind fun x43 => (ix x27 x30).bind fun x44 => (ix (Bf x27 x30 x42) x36).bind fun x45 => some (.inl ((Bf (Bf x27 x30 x42) x36 x43), AO (x30 + 1), AO (x36 - 1))))
noncomputable def Co (p0 : List (Int × (Int × Int × Int × Int))) (p1 : Int) (p2 : Int) (p3 : Int) : Option (Int × Bool × (List (Int × (Int × Int × Int × Int)))) := (ix p0 p3).bind fun x1 => (ix p0 p1).bind fun x2 => (ix p0 p1).bind fun x3 => (ix (Bf p0 p1 x1) p3).bind fun x4 => (AW (BP p0 p1 p2 p3 x1 x2) (AO (p1 + 1))).bind fun x5 => (AW (Cc p0 p1 p3 x1 x2 x5) (AO (p2 - 1))).bind fun x11 => (if x11 < x5 then (ix (Bf (Bf p0 p1 x1) p3 x2) p1).bind fun x17 => (ix (Bf (Bf p0 p1 x1) p3 x2) x11).bind fun x18 => (ix (Bf (Bf p0 p1 x1) p3 x2) x11).bind fun x19 => (ix (Bf (Bf (Bf p0 p1 x1) p3 x2) x11 x17) p1).bind fun x20 => some (x11, true, (Bf (Bf (Bf (Bf p0 p1 x1) p3 x2) x11 x17) p1 x18)) else (ix (Bf (Bf p0 p1 x1) p3 x2) x11).bind fun x21 => (ix (Bf (Bf p0 p1 x1) p3 x2) x5).bind fun x22 => (ix (Bf (Bf p0 p1 x1) p3 x2) x5).bind fun x23 => (ix (Bf (Bf (Bf p0 p1 x1) p3 x2) x5 x21) x11).bind fun x24 => (AW (Bz p1) ((Bf (Bf (Bf (Bf p0 p1 x1) p3 x2) x5 x21) x11 x22), AO (x5 + 1), AO (x11 - 1))).bind fun (x25, x26) => (ix x25 p1).bind fun x46 => (ix x25 x26).bind fun x47 => (ix x25 x26).bind fun x48 => (ix (Bf x25 x26 x46) p1).bind fun x49 => some (x26, false, (Bf (Bf x25 x26 x46) p1 x47)))
theorem Gf (Y : Nat → Prop) (X : List Nat) (w0 : World) (v1 : Value) (p0 : List (Int × (Int × Int × Int × Int))) (p1 : Int) (p2 : Int) (p3 : Int) (r : Int × Bool × (List (Int × (Int × Int × Int × Int)))) (H : Co p0 p1 p2 p3 = some r) (hL : Stw ⟨Y, X, w0⟩ [] [row v1 63 Bg p0] w0) :
    Calls Tryz.prog 100 #[v1, .int .i64 p1, .int .i64 p2, .int .i64 p3, .func (.func 41) #[] #[]] w0 fun e w' => ∃ x : Unit, e = .returned (.tuple #[.int .i64 r.1, .bool r.2.1]) ∧ Stw ⟨Y, X, w0⟩ [] [row v1 63 Bg r.2.2] w' := by
 refine enter Tryz.func100 Aa Tryz.ntmps100 Aa fun a F => ?_
 have W := hL
 unfold Co at H
 refine vc tk 7 F W fun a w F W => ?_
 refine Ia 13 [2, 3] [0, 1, 4, 5, 6, 7, 8, 9, 10, 11, 12] (fun ch a d v w h => by cases d <;> exact h) W MO (by kernel_rfl) ?_
 iterate 2 refine hm F Aa Aa Aa fun a F => ?_
 refine JG ?_
 iterate 4 refine hs F Aa Aa Aa (An F Aa).q fun a F => ?_
 obtain ⟨x1, h1, H⟩ := Ad H
 refine hs F Aa Aa Aa (Av (r := Bg) Eg F Aa Aa (Aj 0 Aa) h1).q fun a F => ?_
 refine hs F Aa Aa Aa (Al (y := Value.agg #[.int .i64 x1.1, .int .i64 x1.2.1, .int .i64 x1.2.2.1, .int .i64 x1.2.2.2.1, .int .i64 x1.2.2.2.2]) (j := 0) (i := p3) F Aa Aa (Aj 0 Aa) h1 Ej.to DP Aa).q fun a F => ?_
 iterate 2 refine hs F Aa Aa Aa (An F Aa).q fun a F => ?_
 obtain ⟨x2, h2, H⟩ := Ad H
 refine hs F Aa Aa Aa (Av (r := Bg) Eg F Aa Aa (Aj 0 Aa) h2).q fun a F => ?_
 refine hs F Aa Aa Aa (Al (y := Value.agg #[.int .i64 x2.1, .int .i64 x2.2.1, .int .i64 x2.2.2.1, .int .i64 x2.2.2.2.1, .int .i64 x2.2.2.2.2]) (j := 0) (i := p1) F Aa Aa (Aj 0 Aa) h2 Ej.to DP Aa).q fun a F => ?_
 obtain ⟨x3, h3, H⟩ := Ad H
 refine hs F Aa Aa Aa (Av (r := Bg) Eg F Aa Aa (Aj 0 Aa) h3).q fun a F => ?_
 refine ME fun w W => ?_
 have W : Stw ⟨Y, X, w0⟩ [] [row v1 63 Bg p0] w := W
 refine BG (i := p1) (j := 0) (vs := (CT x1)) (x' := x1) F W Aa Aa Aa (k := 0) Aa Aa h3 DP Aa Aa Aa Aa (fun A cs _ => Ej.sto (by rfl) _ _ _) fun w W => ?_
 obtain ⟨x4, h4, H⟩ := Ad H
 refine ls F W Aa (Av (r := Bg) Eg F Aa Aa (Aj 0 Aa) h4).q fun a w F W => ?_
 refine BG (i := p3) (j := 0) (vs := (CT x2)) (x' := x2) F W Aa Aa Aa (k := 0) Aa Aa h4 DP Aa Aa Aa Aa (fun A cs _ => Ej.sto (by rfl) _ _ _) fun w W => ?_
 refine Cl tk 12 F W fun a w F W => ?_
 obtain ⟨o1, G1, K1⟩ := Ad H
 refine Ax (fun a w => ∃ x5 : Int, some (x5) = some o1 ∧ Fr 178 [] [(0, v1), (1, .int .i64 p1), (4, .func (.func 41) #[] #[]), (10, .int .i64 0), (11, .bool false), (12, .int .i64 x5), (13, .int .i64 (AO (p2 - 1)))] a ∧ Stw ⟨Y, X, w0⟩ [] [row v1 63 Bg (Bf (Bf p0 p1 x1) p3 x2)] w) ?_ ?_
 ·
  have H := G1
  clear G1 K1
  refine D7 ?_
  refine BF H (fun s a w => Fr 178 [] [(0, v1), (1, .int .i64 p1), (4, .func (.func 41) #[] #[]), (10, .int .i64 0), (11, .bool false), (12, .int .i64 s), (13, .int .i64 (AO (p2 - 1)))] a ∧ Stw ⟨Y, X, w0⟩ [] [row v1 63 Bg (Bf (Bf p0 p1 x1) p3 x2)] w) ⟨F.ra Aa, W⟩ fun s o a w H L2 hR => ?_
  obtain ⟨x6, rfl⟩ : ∃ x, x = s := ⟨s, rfl⟩
  obtain ⟨F, W⟩ := hR
  have F : Fr 178 [] [(0, v1), (1, .int .i64 p1), (4, .func (.func 41) #[] #[]), (10, .int .i64 0), (11, .bool false), (12, .int .i64 x6), (13, .int .i64 (AO (p2 - 1)))] a := F
  have W : Stw ⟨Y, X, w0⟩ [] [row v1 63 Bg (Bf (Bf p0 p1 x1) p3 x2)] w := W
  rw [BP] at H
  refine FS ?_
  obtain ⟨o3, G3, K3⟩ := Ad H
  refine Ax (fun a w => ∃ x7 : Bool, some (x7) = some o3 ∧ Fr 178 [] [(0, v1), (1, .int .i64 p1), (4, .func (.func 41) #[] #[]), (10, .int .i64 0), (11, .bool false), (12, .int .i64 x6), (13, .int .i64 (AO (p2 - 1))), (47, .bool x7)] a ∧ Stw ⟨Y, X, w0⟩ [] [row v1 63 Bg (Bf (Bf p0 p1 x1) p3 x2)] w) ?_ ?_
  ·
   have H := G3
   clear G3 K3
   refine Cw W MO (by kernel_rfl) ?_
   iterate 2 refine qs F Aa (An F Aa).q fun a F => ?_
   refine qs F Aa (KN F Aa Aa).q fun a F => ?_
   refine qs F Aa (An F Aa).q fun a F => ?_
   rcases Bool.eq_false_or_eq_true (decide (x6 ≤ (AO (p2 - 1)))) with hb | hb
   ·
    have H := B8 (CI hb) H
    rw [hb] at F
    clear hb
    iterate 3 refine AL F (Ab F Aa Aa Aa Aa) Aa (Ao Aa) (An F Aa).q fun a F => ?_
    obtain ⟨x8, h5, H⟩ := Ad H
    refine AL F (Ab F Aa Aa Aa Aa) Aa (Ao Aa) (Av (r := Bg) Eg F Aa Aa (Aj 0 Aa) h5).q fun a F => ?_
    refine AL F (Ab F Aa Aa Aa Aa) Aa (Ao Aa) (Al (y := Value.agg #[.int .i64 x8.1, .int .i64 x8.2.1, .int .i64 x8.2.2.1, .int .i64 x8.2.2.2.1, .int .i64 x8.2.2.2.2]) (j := 0) (i := x6) F Aa Aa (Aj 0 Aa) h5 Ej.to DP Aa).q fun a F => ?_
    iterate 2 refine AL F (Ab F Aa Aa Aa Aa) Aa (Ao Aa) (An F Aa).q fun a F => ?_
    obtain ⟨x9, h6, H⟩ := Ad H
    refine AL F (Ab F Aa Aa Aa Aa) Aa (Ao Aa) (Av (r := Bg) Eg F Aa Aa (Aj 0 Aa) h6).q fun a F => ?_
    refine AL F (Ab F Aa Aa Aa Aa) Aa (Ao Aa) (Al (y := Value.agg #[.int .i64 x9.1, .int .i64 x9.2.1, .int .i64 x9.2.2.1, .int .i64 x9.2.2.2.1, .int .i64 x9.2.2.2.2]) (j := 0) (i := p1) F Aa Aa (Aj 0 Aa) h6 Ej.to DP Aa).q fun a F => ?_
    obtain ⟨x10, h7, H⟩ := Ad H
    refine AL F (Ab F Aa Aa Aa Aa) Aa (Ao Aa) (Eo (ws := (Ib x8 x9)) (v := Value.int .i64 x10) F RL Aa (fun w W => Cp any w x8 x9 _ h7)) fun a F => ?_
    refine AL F (Ab F Aa Aa Aa Aa) Aa (Ao Aa) (F7 F Aa Aa).q fun a F => ?_
    refine qs F Aa (Bq F Aa Aa Aa).q fun a F => ?_
    refine AJ fun w W => ?_
    refine Ac ?_
    exact ⟨_, H, F.ra Aa, W⟩
   have H := B7 (CH hb) H
   rw [hb] at F
   clear hb
   iterate 11 refine Bj F (A7 F Aa Aa Aa Aa Aa) Aa Aa fun a F => ?_
   refine qs F Aa (Br F Aa Aa Aa).q fun a F => ?_
   refine AJ fun w W => ?_
   refine Ac ?_
   exact ⟨_, H, F.ra Aa, W⟩
  rintro a w ⟨x7, hj, F, W⟩
  have hj := AA hj
  subst hj
  have H := K3
  clear G3 K3
  refine Cz F Aa H (fun F H => ?_) fun F H => ?_
  ·
   refine FL tk 8 F W fun a w F W => ?_
   refine Ac ?_
   exact ⟨_, H, F.ra Aa, W⟩
  refine Bu ?_
  iterate 2 refine BL ?_
  refine Bp (Ac ?_)
  have H := L2 _ H
  exact ⟨_, H, F.ra Aa, W⟩
 rintro a w ⟨x5, hj, F, W⟩
 have hj := AA hj
 subst hj
 have H := K1
 clear G1 K1
 obtain ⟨o4, G4, K4⟩ := Ad H
 refine Ax (fun a w => ∃ x11 : Int, some (x11) = some o4 ∧ Fr 178 [] [(0, v1), (1, .int .i64 p1), (4, .func (.func 41) #[] #[]), (10, .int .i64 0), (11, .bool false), (12, .int .i64 x5), (13, .int .i64 x11)] a ∧ Stw ⟨Y, X, w0⟩ [] [row v1 63 Bg (Bf (Bf p0 p1 x1) p3 x2)] w) ?_ ?_
 ·
  have H := G4
  clear G4 K4
  refine D7 ?_
  refine BF H (fun s a w => Fr 178 [] [(0, v1), (1, .int .i64 p1), (4, .func (.func 41) #[] #[]), (10, .int .i64 0), (11, .bool false), (12, .int .i64 x5), (13, .int .i64 s)] a ∧ Stw ⟨Y, X, w0⟩ [] [row v1 63 Bg (Bf (Bf p0 p1 x1) p3 x2)] w) ⟨F.ra Aa, W⟩ fun s o a w H L5 hR => ?_
  obtain ⟨x12, rfl⟩ : ∃ x, x = s := ⟨s, rfl⟩
  obtain ⟨F, W⟩ := hR
  have F : Fr 178 [] [(0, v1), (1, .int .i64 p1), (4, .func (.func 41) #[] #[]), (10, .int .i64 0), (11, .bool false), (12, .int .i64 x5), (13, .int .i64 x12)] a := F
  have W : Stw ⟨Y, X, w0⟩ [] [row v1 63 Bg (Bf (Bf p0 p1 x1) p3 x2)] w := W
  rw [Cc] at H
  refine FS ?_
  obtain ⟨o6, G6, K6⟩ := Ad H
  refine Ax (fun a w => ∃ x13 : Bool, some (x13) = some o6 ∧ Fr 178 [] [(0, v1), (1, .int .i64 p1), (4, .func (.func 41) #[] #[]), (10, .int .i64 0), (11, .bool false), (12, .int .i64 x5), (13, .int .i64 x12), (66, .bool x13)] a ∧ Stw ⟨Y, X, w0⟩ [] [row v1 63 Bg (Bf (Bf p0 p1 x1) p3 x2)] w) ?_ ?_
  ·
   have H := G6
   clear G6 K6
   refine Cw W MO (by kernel_rfl) ?_
   iterate 2 refine qs F Aa (An F Aa).q fun a F => ?_
   refine qs F Aa (KN F Aa Aa).q fun a F => ?_
   refine qs F Aa (An F Aa).q fun a F => ?_
   rcases Bool.eq_false_or_eq_true (decide (x5 ≤ x12)) with hb | hb
   ·
    have H := B8 (CI hb) H
    rw [hb] at F
    clear hb
    iterate 3 refine AL F (Ab F Aa Aa Aa Aa) Aa (Ao Aa) (An F Aa).q fun a F => ?_
    obtain ⟨x14, h8, H⟩ := Ad H
    refine AL F (Ab F Aa Aa Aa Aa) Aa (Ao Aa) (Av (r := Bg) Eg F Aa Aa (Aj 0 Aa) h8).q fun a F => ?_
    refine AL F (Ab F Aa Aa Aa Aa) Aa (Ao Aa) (Al (y := Value.agg #[.int .i64 x14.1, .int .i64 x14.2.1, .int .i64 x14.2.2.1, .int .i64 x14.2.2.2.1, .int .i64 x14.2.2.2.2]) (j := 0) (i := x12) F Aa Aa (Aj 0 Aa) h8 Ej.to DP Aa).q fun a F => ?_
    iterate 2 refine AL F (Ab F Aa Aa Aa Aa) Aa (Ao Aa) (An F Aa).q fun a F => ?_
    obtain ⟨x15, h9, H⟩ := Ad H
    refine AL F (Ab F Aa Aa Aa Aa) Aa (Ao Aa) (Av (r := Bg) Eg F Aa Aa (Aj 0 Aa) h9).q fun a F => ?_
    refine AL F (Ab F Aa Aa Aa Aa) Aa (Ao Aa) (Al (y := Value.agg #[.int .i64 x15.1, .int .i64 x15.2.1, .int .i64 x15.2.2.1, .int .i64 x15.2.2.2.1, .int .i64 x15.2.2.2.2]) (j := 0) (i := p1) F Aa Aa (Aj 0 Aa) h9 Ej.to DP Aa).q fun a F => ?_
    obtain ⟨x16, h10, H⟩ := Ad H
    refine AL F (Ab F Aa Aa Aa Aa) Aa (Ao Aa) (Eo (ws := (Ib x14 x15)) (v := Value.int .i64 x16) F RL Aa (fun w W => Cp any w x14 x15 _ h10)) fun a F => ?_
    refine AL F (Ab F Aa Aa Aa Aa) Aa (Ao Aa) (F7 F Aa Aa).q fun a F => ?_
    refine AL F (Ab F Aa Aa Aa Aa) Aa (Ao Aa) (Js F Aa).q fun a F => ?_
    refine qs F Aa (Bq F Aa Aa Aa).q fun a F => ?_
    refine AJ fun w W => ?_
    refine Ac ?_
    exact ⟨_, H, F.ra Aa, W⟩
   have H := B7 (CH hb) H
   rw [hb] at F
   clear hb
   iterate 12 refine Bj F (A7 F Aa Aa Aa Aa Aa) Aa Aa fun a F => ?_
   refine qs F Aa (Br F Aa Aa Aa).q fun a F => ?_
   refine AJ fun w W => ?_
   refine Ac ?_
   exact ⟨_, H, F.ra Aa, W⟩
  rintro a w ⟨x13, hj, F, W⟩
  have hj := AA hj
  subst hj
  have H := K6
  clear G6 K6
  refine Cz F Aa H (fun F H => ?_) fun F H => ?_
  ·
   refine FL tk 8 F W fun a w F W => ?_
   refine Ac ?_
   exact ⟨_, H, F.ra Aa, W⟩
  refine Bu ?_
  iterate 2 refine BL ?_
  refine Bp (Ac ?_)
  have H := L5 _ H
  exact ⟨_, H, F.ra Aa, W⟩
 rintro a w ⟨x11, hj, F, W⟩
 have hj := AA hj
 subst hj
 have H := K4
 clear G4 K4
 refine vc tk 8 F W fun a w F W => ?_
 refine BJ F Aa H (fun F H => ?_) fun F H => ?_
 ·
  refine FS ?_
  refine Ia 13 [2, 3] [0, 1, 4, 5, 6, 7, 8, 9, 10, 11, 12] (fun ch a d v w h => by cases d <;> exact h) W MO (by kernel_rfl) ?_
  iterate 2 refine hm F Aa Aa Aa fun a F => ?_
  refine JG ?_
  iterate 4 refine hs F Aa Aa Aa (An F Aa).q fun a F => ?_
  obtain ⟨x17, h11, H⟩ := Ad H
  refine hs F Aa Aa Aa (Av (r := Bg) Eg F Aa Aa (Aj 0 Aa) h11).q fun a F => ?_
  refine hs F Aa Aa Aa (Al (y := Value.agg #[.int .i64 x17.1, .int .i64 x17.2.1, .int .i64 x17.2.2.1, .int .i64 x17.2.2.2.1, .int .i64 x17.2.2.2.2]) (j := 0) (i := p1) F Aa Aa (Aj 0 Aa) h11 Ej.to DP Aa).q fun a F => ?_
  iterate 2 refine hs F Aa Aa Aa (An F Aa).q fun a F => ?_
  obtain ⟨x18, h12, H⟩ := Ad H
  refine hs F Aa Aa Aa (Av (r := Bg) Eg F Aa Aa (Aj 0 Aa) h12).q fun a F => ?_
  refine hs F Aa Aa Aa (Al (y := Value.agg #[.int .i64 x18.1, .int .i64 x18.2.1, .int .i64 x18.2.2.1, .int .i64 x18.2.2.2.1, .int .i64 x18.2.2.2.2]) (j := 0) (i := x11) F Aa Aa (Aj 0 Aa) h12 Ej.to DP Aa).q fun a F => ?_
  obtain ⟨x19, h13, H⟩ := Ad H
  refine hs F Aa Aa Aa (Av (r := Bg) Eg F Aa Aa (Aj 0 Aa) h13).q fun a F => ?_
  refine ME fun w W => ?_
  have W : Stw ⟨Y, X, w0⟩ [] [row v1 63 Bg (Bf (Bf p0 p1 x1) p3 x2)] w := W
  refine BG (i := x11) (j := 0) (vs := (CT x17)) (x' := x17) F W Aa Aa Aa (k := 0) Aa Aa h13 DP Aa Aa Aa Aa (fun A cs _ => Ej.sto (by rfl) _ _ _) fun w W => ?_
  obtain ⟨x20, h14, H⟩ := Ad H
  refine ls F W Aa (Av (r := Bg) Eg F Aa Aa (Aj 0 Aa) h14).q fun a w F W => ?_
  refine BG (i := p1) (j := 0) (vs := (CT x18)) (x' := x18) F W Aa Aa Aa (k := 0) Aa Aa h14 DP Aa Aa Aa Aa (fun A cs _ => Ej.sto (by rfl) _ _ _) fun w W => ?_
  refine Cl tk 9 F W fun a w F W => ?_
  refine Ak (Ay ?_)
  have H := AA H
  subst H
  refine NG (.inl Aa) F W Aa (Am F Aa) (Am F Aa) ?_
  exact ⟨(), Aa, W⟩
 refine FL tk 3 F W fun a w F W => ?_
 refine Ia 13 [2, 3] [0, 1, 4, 5, 6, 7, 8, 9, 10, 11, 12] (fun ch a d v w h => by cases d <;> exact h) W MO (by kernel_rfl) ?_
 iterate 2 refine hm F Aa Aa Aa fun a F => ?_
 refine JG ?_
 iterate 4 refine hs F Aa Aa Aa (An F Aa).q fun a F => ?_
 obtain ⟨x21, h15, H⟩ := Ad H
 refine hs F Aa Aa Aa (Av (r := Bg) Eg F Aa Aa (Aj 0 Aa) h15).q fun a F => ?_
 refine hs F Aa Aa Aa (Al (y := Value.agg #[.int .i64 x21.1, .int .i64 x21.2.1, .int .i64 x21.2.2.1, .int .i64 x21.2.2.2.1, .int .i64 x21.2.2.2.2]) (j := 0) (i := x11) F Aa Aa (Aj 0 Aa) h15 Ej.to DP Aa).q fun a F => ?_
 iterate 2 refine hs F Aa Aa Aa (An F Aa).q fun a F => ?_
 obtain ⟨x22, h16, H⟩ := Ad H
 refine hs F Aa Aa Aa (Av (r := Bg) Eg F Aa Aa (Aj 0 Aa) h16).q fun a F => ?_
 refine hs F Aa Aa Aa (Al (y := Value.agg #[.int .i64 x22.1, .int .i64 x22.2.1, .int .i64 x22.2.2.1, .int .i64 x22.2.2.2.1, .int .i64 x22.2.2.2.2]) (j := 0) (i := x5) F Aa Aa (Aj 0 Aa) h16 Ej.to DP Aa).q fun a F => ?_
 obtain ⟨x23, h17, H⟩ := Ad H
 refine hs F Aa Aa Aa (Av (r := Bg) Eg F Aa Aa (Aj 0 Aa) h17).q fun a F => ?_
 refine ME fun w W => ?_
 have W : Stw ⟨Y, X, w0⟩ [] [row v1 63 Bg (Bf (Bf p0 p1 x1) p3 x2)] w := W
 refine BG (i := x5) (j := 0) (vs := (CT x21)) (x' := x21) F W Aa Aa Aa (k := 0) Aa Aa h17 DP Aa Aa Aa Aa (fun A cs _ => Ej.sto (by rfl) _ _ _) fun w W => ?_
 obtain ⟨x24, h18, H⟩ := Ad H
 refine ls F W Aa (Av (r := Bg) Eg F Aa Aa (Aj 0 Aa) h18).q fun a w F W => ?_
 refine BG (i := x11) (j := 0) (vs := (CT x22)) (x' := x22) F W Aa Aa Aa (k := 0) Aa Aa h18 DP Aa Aa Aa Aa (fun A cs _ => Ej.sto (by rfl) _ _ _) fun w W => ?_
 refine Cl tk 16 F W fun a w F W => ?_
 obtain ⟨o7, G7, K7⟩ := Ad H
 refine Ax (fun a w => ∃ x25 : List (Int × (Int × Int × Int × Int)), ∃ x26 : Int, some ((x25, x26)) = some o7 ∧ Fr 178 [] [(0, v1), (1, .int .i64 p1), (10, .int .i64 0), (11, .bool false), (13, .int .i64 x26)] a ∧ Stw ⟨Y, X, w0⟩ [] [row v1 63 Bg x25] w) ?_ ?_
 ·
  have H := G7
  clear G7 K7
  refine D7 ?_
  refine BF H (fun s a w => Fr 178 [] [(0, v1), (1, .int .i64 p1), (4, .func (.func 41) #[] #[]), (10, .int .i64 0), (11, .bool false), (12, .int .i64 s.2.1), (13, .int .i64 s.2.2)] a ∧ Stw ⟨Y, X, w0⟩ [] [row v1 63 Bg s.1] w) ⟨F.ra Aa, W⟩ fun s o a w H L8 hR => ?_
  obtain ⟨x27, x28, x29⟩ := s
  obtain ⟨F, W⟩ := hR
  have F : Fr 178 [] [(0, v1), (1, .int .i64 p1), (4, .func (.func 41) #[] #[]), (10, .int .i64 0), (11, .bool false), (12, .int .i64 x28), (13, .int .i64 x29)] a := F
  have W : Stw ⟨Y, X, w0⟩ [] [row v1 63 Bg x27] w := W
  rw [Bz] at H
  refine D7 ?_
  obtain ⟨o9, G9, K9⟩ := Ad H
  refine Ax (fun a w => ∃ x30 : Int, some (x30) = some o9 ∧ Fr 178 [] [(0, v1), (1, .int .i64 p1), (4, .func (.func 41) #[] #[]), (10, .int .i64 0), (11, .bool false), (12, .int .i64 x30), (13, .int .i64 x29)] a ∧ Stw ⟨Y, X, w0⟩ [] [row v1 63 Bg x27] w) ?_ ?_
  ·
   have H := G9
   clear G9 K9
   refine D7 ?_
   refine BF H (fun s a w => Fr 178 [] [(0, v1), (1, .int .i64 p1), (4, .func (.func 41) #[] #[]), (10, .int .i64 0), (11, .bool false), (12, .int .i64 s), (13, .int .i64 x29)] a ∧ Stw ⟨Y, X, w0⟩ [] [row v1 63 Bg x27] w) ⟨F.ra Aa, W⟩ fun s o a w H L10 hR => ?_
   obtain ⟨x31, rfl⟩ : ∃ x, x = s := ⟨s, rfl⟩
   obtain ⟨F, W⟩ := hR
   have F : Fr 178 [] [(0, v1), (1, .int .i64 p1), (4, .func (.func 41) #[] #[]), (10, .int .i64 0), (11, .bool false), (12, .int .i64 x31), (13, .int .i64 x29)] a := F
   have W : Stw ⟨Y, X, w0⟩ [] [row v1 63 Bg x27] w := W
   rw [Cb] at H
   refine FS ?_
   obtain ⟨o11, G11, K11⟩ := Ad H
   refine Ax (fun a w => ∃ x32 : Bool, some (x32) = some o11 ∧ Fr 178 [] [(0, v1), (1, .int .i64 p1), (4, .func (.func 41) #[] #[]), (10, .int .i64 0), (11, .bool false), (12, .int .i64 x31), (13, .int .i64 x29), (120, .bool x32)] a ∧ Stw ⟨Y, X, w0⟩ [] [row v1 63 Bg x27] w) ?_ ?_
   ·
    have H := G11
    clear G11 K11
    refine Cw W MO (by kernel_rfl) ?_
    iterate 2 refine qs F Aa (An F Aa).q fun a F => ?_
    refine qs F Aa (KN F Aa Aa).q fun a F => ?_
    refine qs F Aa (An F Aa).q fun a F => ?_
    rcases Bool.eq_false_or_eq_true (decide (x31 ≤ x29)) with hb | hb
    ·
     have H := B8 (CI hb) H
     rw [hb] at F
     clear hb
     iterate 3 refine AL F (Ab F Aa Aa Aa Aa) Aa (Ao Aa) (An F Aa).q fun a F => ?_
     obtain ⟨x33, h19, H⟩ := Ad H
     refine AL F (Ab F Aa Aa Aa Aa) Aa (Ao Aa) (Av (r := Bg) Eg F Aa Aa (Aj 0 Aa) h19).q fun a F => ?_
     refine AL F (Ab F Aa Aa Aa Aa) Aa (Ao Aa) (Al (y := Value.agg #[.int .i64 x33.1, .int .i64 x33.2.1, .int .i64 x33.2.2.1, .int .i64 x33.2.2.2.1, .int .i64 x33.2.2.2.2]) (j := 0) (i := x31) F Aa Aa (Aj 0 Aa) h19 Ej.to DP Aa).q fun a F => ?_
     iterate 2 refine AL F (Ab F Aa Aa Aa Aa) Aa (Ao Aa) (An F Aa).q fun a F => ?_
     obtain ⟨x34, h20, H⟩ := Ad H
     refine AL F (Ab F Aa Aa Aa Aa) Aa (Ao Aa) (Av (r := Bg) Eg F Aa Aa (Aj 0 Aa) h20).q fun a F => ?_
     refine AL F (Ab F Aa Aa Aa Aa) Aa (Ao Aa) (Al (y := Value.agg #[.int .i64 x34.1, .int .i64 x34.2.1, .int .i64 x34.2.2.1, .int .i64 x34.2.2.2.1, .int .i64 x34.2.2.2.2]) (j := 0) (i := p1) F Aa Aa (Aj 0 Aa) h20 Ej.to DP Aa).q fun a F => ?_
     obtain ⟨x35, h21, H⟩ := Ad H
     refine AL F (Ab F Aa Aa Aa Aa) Aa (Ao Aa) (Eo (ws := (Ib x33 x34)) (v := Value.int .i64 x35) F RL Aa (fun w W => Cp any w x33 x34 _ h21)) fun a F => ?_
     refine AL F (Ab F Aa Aa Aa Aa) Aa (Ao Aa) (F7 F Aa Aa).q fun a F => ?_
     refine qs F Aa (Bq F Aa Aa Aa).q fun a F => ?_
     refine AJ fun w W => ?_
     refine Ac ?_
     exact ⟨_, H, F.ra Aa, W⟩
    have H := B7 (CH hb) H
    rw [hb] at F
    clear hb
    iterate 11 refine Bj F (A7 F Aa Aa Aa Aa Aa) Aa Aa fun a F => ?_
    refine qs F Aa (Br F Aa Aa Aa).q fun a F => ?_
    refine AJ fun w W => ?_
    refine Ac ?_
    exact ⟨_, H, F.ra Aa, W⟩
   rintro a w ⟨x32, hj, F, W⟩
   have hj := AA hj
   subst hj
   have H := K11
   clear G11 K11
   refine Cz F Aa H (fun F H => ?_) fun F H => ?_
   ·
    refine FL tk 8 F W fun a w F W => ?_
    refine Ac ?_
    exact ⟨_, H, F.ra Aa, W⟩
   refine Bu ?_
   iterate 2 refine BL ?_
   refine Bp (Ac ?_)
   have H := L10 _ H
   exact ⟨_, H, F.ra Aa, W⟩
  rintro a w ⟨x30, hj, F, W⟩
  have hj := AA hj
  subst hj
  have H := K9
  clear G9 K9
  obtain ⟨o12, G12, K12⟩ := Ad H
  refine Ax (fun a w => ∃ x36 : Int, some (x36) = some o12 ∧ Fr 178 [] [(0, v1), (1, .int .i64 p1), (4, .func (.func 41) #[] #[]), (10, .int .i64 0), (11, .bool false), (12, .int .i64 x30), (13, .int .i64 x36)] a ∧ Stw ⟨Y, X, w0⟩ [] [row v1 63 Bg x27] w) ?_ ?_
  ·
   have H := G12
   clear G12 K12
   refine D7 ?_
   refine BF H (fun s a w => Fr 178 [] [(0, v1), (1, .int .i64 p1), (4, .func (.func 41) #[] #[]), (10, .int .i64 0), (11, .bool false), (12, .int .i64 x30), (13, .int .i64 s)] a ∧ Stw ⟨Y, X, w0⟩ [] [row v1 63 Bg x27] w) ⟨F.ra Aa, W⟩ fun s o a w H L13 hR => ?_
   obtain ⟨x37, rfl⟩ : ∃ x, x = s := ⟨s, rfl⟩
   obtain ⟨F, W⟩ := hR
   have F : Fr 178 [] [(0, v1), (1, .int .i64 p1), (4, .func (.func 41) #[] #[]), (10, .int .i64 0), (11, .bool false), (12, .int .i64 x30), (13, .int .i64 x37)] a := F
   have W : Stw ⟨Y, X, w0⟩ [] [row v1 63 Bg x27] w := W
   rw [Ca] at H
   refine FS ?_
   obtain ⟨o14, G14, K14⟩ := Ad H
   refine Ax (fun a w => ∃ x38 : Bool, some (x38) = some o14 ∧ Fr 178 [] [(0, v1), (1, .int .i64 p1), (4, .func (.func 41) #[] #[]), (10, .int .i64 0), (11, .bool false), (12, .int .i64 x30), (13, .int .i64 x37), (139, .bool x38)] a ∧ Stw ⟨Y, X, w0⟩ [] [row v1 63 Bg x27] w) ?_ ?_
   ·
    have H := G14
    clear G14 K14
    refine Cw W MO (by kernel_rfl) ?_
    iterate 2 refine qs F Aa (An F Aa).q fun a F => ?_
    refine qs F Aa (KN F Aa Aa).q fun a F => ?_
    refine qs F Aa (An F Aa).q fun a F => ?_
    rcases Bool.eq_false_or_eq_true (decide (x30 ≤ x37)) with hb | hb
    ·
     have H := B8 (CI hb) H
     rw [hb] at F
     clear hb
     iterate 3 refine AL F (Ab F Aa Aa Aa Aa) Aa (Ao Aa) (An F Aa).q fun a F => ?_
     obtain ⟨x39, h22, H⟩ := Ad H
     refine AL F (Ab F Aa Aa Aa Aa) Aa (Ao Aa) (Av (r := Bg) Eg F Aa Aa (Aj 0 Aa) h22).q fun a F => ?_
     refine AL F (Ab F Aa Aa Aa Aa) Aa (Ao Aa) (Al (y := Value.agg #[.int .i64 x39.1, .int .i64 x39.2.1, .int .i64 x39.2.2.1, .int .i64 x39.2.2.2.1, .int .i64 x39.2.2.2.2]) (j := 0) (i := x37) F Aa Aa (Aj 0 Aa) h22 Ej.to DP Aa).q fun a F => ?_
     iterate 2 refine AL F (Ab F Aa Aa Aa Aa) Aa (Ao Aa) (An F Aa).q fun a F => ?_
     obtain ⟨x40, h23, H⟩ := Ad H
     refine AL F (Ab F Aa Aa Aa Aa) Aa (Ao Aa) (Av (r := Bg) Eg F Aa Aa (Aj 0 Aa) h23).q fun a F => ?_
     refine AL F (Ab F Aa Aa Aa Aa) Aa (Ao Aa) (Al (y := Value.agg #[.int .i64 x40.1, .int .i64 x40.2.1, .int .i64 x40.2.2.1, .int .i64 x40.2.2.2.1, .int .i64 x40.2.2.2.2]) (j := 0) (i := p1) F Aa Aa (Aj 0 Aa) h23 Ej.to DP Aa).q fun a F => ?_
     obtain ⟨x41, h24, H⟩ := Ad H
     refine AL F (Ab F Aa Aa Aa Aa) Aa (Ao Aa) (Eo (ws := (Ib x39 x40)) (v := Value.int .i64 x41) F RL Aa (fun w W => Cp any w x39 x40 _ h24)) fun a F => ?_
     refine AL F (Ab F Aa Aa Aa Aa) Aa (Ao Aa) (F7 F Aa Aa).q fun a F => ?_
     refine AL F (Ab F Aa Aa Aa Aa) Aa (Ao Aa) (Js F Aa).q fun a F => ?_
     refine qs F Aa (Bq F Aa Aa Aa).q fun a F => ?_
     refine AJ fun w W => ?_
     refine Ac ?_
     exact ⟨_, H, F.ra Aa, W⟩
    have H := B7 (CH hb) H
    rw [hb] at F
    clear hb
    iterate 12 refine Bj F (A7 F Aa Aa Aa Aa Aa) Aa Aa fun a F => ?_
    refine qs F Aa (Br F Aa Aa Aa).q fun a F => ?_
    refine AJ fun w W => ?_
    refine Ac ?_
    exact ⟨_, H, F.ra Aa, W⟩
   rintro a w ⟨x38, hj, F, W⟩
   have hj := AA hj
   subst hj
   have H := K14
   clear G14 K14
   refine Cz F Aa H (fun F H => ?_) fun F H => ?_
   ·
    refine FL tk 8 F W fun a w F W => ?_
    refine Ac ?_
    exact ⟨_, H, F.ra Aa, W⟩
   refine Bu ?_
   iterate 2 refine BL ?_
   refine Bp (Ac ?_)
   have H := L13 _ H
   exact ⟨_, H, F.ra Aa, W⟩
  rintro a w ⟨x36, hj, F, W⟩
  have hj := AA hj
  subst hj
  have H := K12
  clear G12 K12
  refine vc tk 8 F W fun a w F W => ?_
  refine BJ F Aa H (fun F H => ?_) fun F H => ?_
  ·
   refine Bu (BL ?_)
   refine LX Aa ?_
   refine BL (Bp (Ac ?_))
   have H := L8 _ H
   exact ⟨_, _, H, F.ra Aa, W⟩
  refine FL tk 3 F W fun a w F W => ?_
  refine Ia 13 [2, 3] [0, 1, 4, 5, 6, 7, 8, 9, 10, 11, 12] (fun ch a d v w h => by cases d <;> exact h) W MO (by kernel_rfl) ?_
  iterate 2 refine hm F Aa Aa Aa fun a F => ?_
  refine JG ?_
  iterate 4 refine hs F Aa Aa Aa (An F Aa).q fun a F => ?_
  obtain ⟨x42, h25, H⟩ := Ad H
  refine hs F Aa Aa Aa (Av (r := Bg) Eg F Aa Aa (Aj 0 Aa) h25).q fun a F => ?_
  refine hs F Aa Aa Aa (Al (y := Value.agg #[.int .i64 x42.1, .int .i64 x42.2.1, .int .i64 x42.2.2.1, .int .i64 x42.2.2.2.1, .int .i64 x42.2.2.2.2]) (j := 0) (i := x36) F Aa Aa (Aj 0 Aa) h25 Ej.to DP Aa).q fun a F => ?_
  iterate 2 refine hs F Aa Aa Aa (An F Aa).q fun a F => ?_
  obtain ⟨x43, h26, H⟩ := Ad H
  refine hs F Aa Aa Aa (Av (r := Bg) Eg F Aa Aa (Aj 0 Aa) h26).q fun a F => ?_
  refine hs F Aa Aa Aa (Al (y := Value.agg #[.int .i64 x43.1, .int .i64 x43.2.1, .int .i64 x43.2.2.1, .int .i64 x43.2.2.2.1, .int .i64 x43.2.2.2.2]) (j := 0) (i := x30) F Aa Aa (Aj 0 Aa) h26 Ej.to DP Aa).q fun a F => ?_
  obtain ⟨x44, h27, H⟩ := Ad H
  refine hs F Aa Aa Aa (Av (r := Bg) Eg F Aa Aa (Aj 0 Aa) h27).q fun a F => ?_
  refine ME fun w W => ?_
  have W : Stw ⟨Y, X, w0⟩ [] [row v1 63 Bg x27] w := W
  refine BG (i := x30) (j := 0) (vs := (CT x42)) (x' := x42) F W Aa Aa Aa (k := 0) Aa Aa h27 DP Aa Aa Aa Aa (fun A cs _ => Ej.sto (by rfl) _ _ _) fun w W => ?_
  obtain ⟨x45, h28, H⟩ := Ad H
  refine ls F W Aa (Av (r := Bg) Eg F Aa Aa (Aj 0 Aa) h28).q fun a w F W => ?_
  refine BG (i := x36) (j := 0) (vs := (CT x43)) (x' := x43) F W Aa Aa Aa (k := 0) Aa Aa h28 DP Aa Aa Aa Aa (fun A cs _ => Ej.sto (by rfl) _ _ _) fun w W => ?_
  refine Cl tk 14 F W fun a w F W => ?_
  refine AG (Ac ?_)
  exact ⟨_, H, F.ra Aa, W⟩
 rintro a w ⟨x25, x26, hj, F, W⟩
 have hj := AA hj
 subst hj
 have H := K7
 clear G7 K7
 refine FS ?_
 refine Ia 13 [2, 3] [0, 1, 4, 5, 6, 7, 8, 9, 10, 11, 12] (fun ch a d v w h => by cases d <;> exact h) W MO (by kernel_rfl) ?_
 iterate 2 refine hm F Aa Aa Aa fun a F => ?_
 refine JG ?_
 iterate 4 refine hs F Aa Aa Aa (An F Aa).q fun a F => ?_
 obtain ⟨x46, h29, H⟩ := Ad H
 refine hs F Aa Aa Aa (Av (r := Bg) Eg F Aa Aa (Aj 0 Aa) h29).q fun a F => ?_
 refine hs F Aa Aa Aa (Al (y := Value.agg #[.int .i64 x46.1, .int .i64 x46.2.1, .int .i64 x46.2.2.1, .int .i64 x46.2.2.2.1, .int .i64 x46.2.2.2.2]) (j := 0) (i := p1) F Aa Aa (Aj 0 Aa) h29 Ej.to DP Aa).q fun a F => ?_
 iterate 2 refine hs F Aa Aa Aa (An F Aa).q fun a F => ?_
 obtain ⟨x47, h30, H⟩ := Ad H
 refine hs F Aa Aa Aa (Av (r := Bg) Eg F Aa Aa (Aj 0 Aa) h30).q fun a F => ?_
 refine hs F Aa Aa Aa (Al (y := Value.agg #[.int .i64 x47.1, .int .i64 x47.2.1, .int .i64 x47.2.2.1, .int .i64 x47.2.2.2.1, .int .i64 x47.2.2.2.2]) (j := 0) (i := x26) F Aa Aa (Aj 0 Aa) h30 Ej.to DP Aa).q fun a F => ?_
 obtain ⟨x48, h31, H⟩ := Ad H
 refine hs F Aa Aa Aa (Av (r := Bg) Eg F Aa Aa (Aj 0 Aa) h31).q fun a F => ?_
 refine ME fun w W => ?_
 have W : Stw ⟨Y, X, w0⟩ [] [row v1 63 Bg x25] w := W
 refine BG (i := x26) (j := 0) (vs := (CT x46)) (x' := x46) F W Aa Aa Aa (k := 0) Aa Aa h31 DP Aa Aa Aa Aa (fun A cs _ => Ej.sto (by rfl) _ _ _) fun w W => ?_
 obtain ⟨x49, h32, H⟩ := Ad H
 refine ls F W Aa (Av (r := Bg) Eg F Aa Aa (Aj 0 Aa) h32).q fun a w F W => ?_
 refine BG (i := p1) (j := 0) (vs := (CT x47)) (x' := x47) F W Aa Aa Aa (k := 0) Aa Aa h32 DP Aa Aa Aa Aa (fun A cs _ => Ej.sto (by rfl) _ _ _) fun w W => ?_
 refine Cl tk 9 F W fun a w F W => ?_
 refine Ak ?_
 have H := AA H
 subst H
 refine NG (.inl Aa) F W Aa (Am F Aa) (Am F Aa) ?_
 exact ⟨(), Aa, W⟩
theorem S4 : type_of% Tryz.underlying104 := Tryz.underlying104
theorem Xo : Has Tryz.prog 100 := CJ Tryz.func100
theorem Xe : Has Tryz.prog 73 := CJ Tryz.func73
theorem Xv : (Tryz.prog.info? 150).bind (·.zero) = some (.int .u64 0) := by kernel_rfl
theorem OY : Ty Tryz.prog 150 false 1 := ⟨by kernel_rfl, by kernel_rfl⟩
noncomputable def Dc (p0 : Int) : Option Int := (Fq (IntKind.u64.wrap p0)).bind fun x1 => (VG (He .u64 1 x1) x1).bind fun x2 => some x2
theorem IR (Y : Nat → Prop) (w0 : World)  (p0 : Int) (r : Int) (H : Dc p0 = some r)  :
    Calls Tryz.prog 126 #[.int .i64 p0] w0 fun e w' => e = .returned (.int .u64 r) ∧ Below w0.heap.size w0 w' := by
 refine enter Tryz.func126 Aa Tryz.ntmps126 Aa fun a F => ?_
 have W := Stw.start Y w0
 unfold Dc at H
 refine vc tk 8 F W fun a w F W => ?_
 refine ls F W Aa (Kp Vo S4 F Aa).q fun a w F W => ?_
 obtain ⟨x1, h1, H⟩ := Ad H
 refine ls F W Aa (AK (v := Value.int .i64 x1) F Ya Aa (fun w W => Ju any w (IntKind.u64.wrap p0) _ h1)) fun a w F W => ?_
 obtain ⟨x2, h2, H⟩ := Ad H
 refine ls F W Aa (UF (LG h2).2 (RU F Aa Aa (LG h2).1)).q fun a w F W => ?_
 refine Cl tk 3 F W fun a w F W => ?_
 refine Ak ?_
 have H := AA H
 subst H
 refine Au (.inl Aa) F W Aa (Am F Aa) ?_
 exact ⟨rfl, W.done⟩
theorem XU : Has Tryz.prog 126 := CJ Tryz.func126
def BN (p0 : Int) : Int × Int := (GT .u64 (GT .u64 (GT .u64 p0 (He .u64 p0 13)) (Jx .u64 (GT .u64 p0 (He .u64 p0 13)) 7)) (He .u64 (GT .u64 (GT .u64 p0 (He .u64 p0 13)) (Jx .u64 (GT .u64 p0 (He .u64 p0 13)) 7)) 17), GT .u64 (GT .u64 (GT .u64 p0 (He .u64 p0 13)) (Jx .u64 (GT .u64 p0 (He .u64 p0 13)) 7)) (He .u64 (GT .u64 (GT .u64 p0 (He .u64 p0 13)) (Jx .u64 (GT .u64 p0 (He .u64 p0 13)) 7)) 17))
theorem Jo (Y : Nat → Prop) (X : List Nat) (w0 : World) (q_p0 : Nat) (p0 : Int) (r : Int × Int) (H : BN p0 = r) (hL : Stw ⟨Y, X, w0⟩ [(q_p0, [.int .u64 p0])] [] w0) :
    Calls Tryz.prog 127 #[.pointer (some ⟨q_p0, 0, none⟩)] w0 fun e w' => ∃ x : Unit, e = .returned (.int .u64 r.1) ∧ Stw ⟨Y, X, w0⟩ [(q_p0, [.int .u64 r.2])] [] w' := by
 refine enter Tryz.func127 Aa Tryz.ntmps127 Aa fun a F => ?_
 have W := hL
 unfold BN at H
 refine vc tk 6 F W fun a w F W => ?_
 refine JT 9 W MO (by kernel_rfl) ?_
 refine qs F Aa (An F Aa).q fun a F => ?_
 refine qs F Aa (Cu F Aa).q fun a F => ?_
 refine qs F Aa (Bw (v := Value.int .u64 p0) 0 F Aa Aa OY Aa).q fun a F => ?_
 refine qs F Aa (An F Aa).q fun a F => ?_
 refine qs F Aa (Cu F Aa).q fun a F => ?_
 refine qs F Aa (Bw (v := Value.int .u64 p0) 0 F Aa Aa OY Aa).q fun a F => ?_
 refine qs F Aa (RU F Aa Aa (by decide)).q fun a F => ?_
 refine qs F Aa (R2 F Aa Aa).q fun a F => ?_
 refine qs F Aa (Cu F Aa).q fun a F => ?_
 refine AJ fun w W => ?_
 refine Ed 0 F W Aa Aa Aa OY Aa Aa Aa fun w W => ?_
 refine Cl tk 3 F W fun a w F W => ?_
 refine JT 9 W MO (by kernel_rfl) ?_
 refine qs F Aa (An F Aa).q fun a F => ?_
 refine qs F Aa (Cu F Aa).q fun a F => ?_
 refine qs F Aa (Bw (v := Value.int .u64 (GT .u64 p0 (He .u64 p0 13))) 0 F Aa Aa OY Aa).q fun a F => ?_
 refine qs F Aa (An F Aa).q fun a F => ?_
 refine qs F Aa (Cu F Aa).q fun a F => ?_
 refine qs F Aa (Bw (v := Value.int .u64 (GT .u64 p0 (He .u64 p0 13))) 0 F Aa Aa OY Aa).q fun a F => ?_
 refine qs F Aa (RQ F Aa Aa (by decide)).q fun a F => ?_
 refine qs F Aa (R2 F Aa Aa).q fun a F => ?_
 refine qs F Aa (Cu F Aa).q fun a F => ?_
 refine AJ fun w W => ?_
 refine Ed 0 F W Aa Aa Aa OY Aa Aa Aa fun w W => ?_
 refine Cl tk 3 F W fun a w F W => ?_
 refine JT 9 W MO (by kernel_rfl) ?_
 refine qs F Aa (An F Aa).q fun a F => ?_
 refine qs F Aa (Cu F Aa).q fun a F => ?_
 refine qs F Aa (Bw (v := Value.int .u64 (GT .u64 (GT .u64 p0 (He .u64 p0 13)) (Jx .u64 (GT .u64 p0 (He .u64 p0 13)) 7))) 0 F Aa Aa OY Aa).q fun a F => ?_
 refine qs F Aa (An F Aa).q fun a F => ?_
 refine qs F Aa (Cu F Aa).q fun a F => ?_
 refine qs F Aa (Bw (v := Value.int .u64 (GT .u64 (GT .u64 p0 (He .u64 p0 13)) (Jx .u64 (GT .u64 p0 (He .u64 p0 13)) 7))) 0 F Aa Aa OY Aa).q fun a F => ?_
 refine qs F Aa (RU F Aa Aa (by decide)).q fun a F => ?_
 refine qs F Aa (R2 F Aa Aa).q fun a F => ?_
 refine qs F Aa (Cu F Aa).q fun a F => ?_
 refine AJ fun w W => ?_
 refine Ed 0 F W Aa Aa Aa OY Aa Aa Aa fun w W => ?_
 refine Cl tk 5 F W fun a w F W => ?_
 refine ls F W Aa (Cu F Aa).q fun a w F W => ?_
 refine FC tk 4 [0] F W (ai fun a w F W => ?_)
 refine Ak ?_
 subst H
 refine Au (.inl Aa) F W Aa (Am F Aa) ?_
 exact ⟨(), Aa, W⟩
theorem Wj : type_of% Tryz.underlying150 := Tryz.underlying150
theorem W7 : Has Tryz.prog 127 := CJ Tryz.func127
noncomputable def BC (p1 : Int) (p2 : Int) (x1 : Int) : ((List (Int × (Int × Int × Int × Int))) × Int × Int) → Option (((List (Int × (Int × Int × Int × Int))) × Int × Int) ⊕ (List (Int × (Int × Int × Int × Int))))
  | (x2, x3, x4) => (if x3 ≤ (AO ((AO (p1 + (AO ((AO (Int.tdiv (AO (p2 - p1)) 4)) * 2)))) + 1)) then (if (AO (p2 - p1)) ≤ (AO (QA .u64 ((BN x4).1) (IntKind.u64.wrap (x1 - 1)))) then some (AO ((AO (QA .u64 ((BN x4).1) (IntKind.u64.wrap (x1 - 1)))) - (AO (p2 - p1)))) else some (AO (QA .u64 ((BN x4).1) (IntKind.u64.wrap (x1 - 1))))).bind fun x5 => (ix x2 (AO (p1 + x5))).bind fun x6 => (ix x2 x3).bind fun x7 => (ix x2 x3).bind fun x8 => (ix (Bf x2 x3 x6) (AO (p1 + x5))).bind fun x9 => some (.inl ((Bf (Bf x2 x3 x6) (AO (p1 + x5)) x7), AO (x3 + 1), (BN x4).2)) else some (.inr x2))
noncomputable def BI (p0 : List (Int × (Int × Int × Int × Int))) (p1 : Int) (p2 : Int) : Option (List (Int × (Int × Int × Int × Int))) := (if 8 ≤ (AO (p2 - p1)) then (Dc (AO (p2 - p1))).bind fun x1 => AW (BC p1 p2 x1) (p0, AO ((AO (p1 + (AO ((AO (Int.tdiv (AO (p2 - p1)) 4)) * 2)))) - 1), IntKind.u64.wrap (AO (p2 - p1))) else some p0)
theorem FI (Y : Nat → Prop) (X : List Nat) (w0 : World) (v1 : Value) (p0 : List (Int × (Int × Int × Int × Int))) (p1 : Int) (p2 : Int) (r : (List (Int × (Int × Int × Int × Int)))) (H : BI p0 p1 p2 = some r) (hL : Stw ⟨Y, X, w0⟩ [] [row v1 63 Bg p0] w0) :
    Calls Tryz.prog 95 #[v1, .int .i64 p1, .int .i64 p2, .func (.func 41) #[] #[]] w0 fun e w' => ∃ x : Unit, e = .returned (.tuple #[]) ∧ Stw ⟨Y, X, w0⟩ [] [row v1 63 Bg r] w' := by
 refine enter Tryz.func95 Aa Tryz.ntmps95 Aa fun a F => ?_
 have W := hL
 unfold BI at H
 refine vc tk 14 F W fun a w F W => ?_
 refine BJ F Aa H (fun F H => ?_) fun F H => ?_
 ·
  refine vc tk 3 F W fun a w F W => ?_
  refine ls F W Aa (Kp Vo Wj F Aa).q fun a w F W => ?_
  refine B9 (cs := [.int .u64 0]) F W Aa Xv Aa fun b1 a w F W => ?_
  refine Ed 0 F W Aa Aa Aa OY Aa Aa Aa fun w W => ?_
  refine Cl tk 5 F W fun a w F W => ?_
  obtain ⟨x1, h1, H⟩ := Ad H
  refine ls F W Aa (AK (v := Value.int .u64 x1) F XU Aa (fun w W => IR any w (AO (p2 - p1)) _ h1)) fun a w F W => ?_
  refine Cl tk 7 F W fun a w F W => ?_
  refine ls F W Aa (Ow F Aa Aa (by decide) Aa).q fun a w F W => ?_
  refine Cl tk 7 F W fun a w F W => ?_
  refine BF H (fun s a w => Fr 67 [] [(0, v1), (1, .int .i64 p1), (8, .int .i64 (AO (p2 - p1))), (9, .pointer (some ⟨b1, 0, none⟩)), (10, .int .u64 x1), (11, .int .i64 s.2.1)] a ∧ Stw ⟨Y, X, w0⟩ [(b1, [.int .u64 s.2.2])] [row v1 63 Bg s.1] w) ⟨F.ra Aa, W⟩ fun s o a w H L1 hR => ?_
  obtain ⟨x2, x3, x4⟩ := s
  obtain ⟨F, W⟩ := hR
  have F : Fr 67 [] [(0, v1), (1, .int .i64 p1), (8, .int .i64 (AO (p2 - p1))), (9, .pointer (some ⟨b1, 0, none⟩)), (10, .int .u64 x1), (11, .int .i64 x3)] a := F
  have W : Stw ⟨Y, X, w0⟩ [(b1, [.int .u64 x4])] [row v1 63 Bg x2] w := W
  rw [BC] at H
  refine vc tk 6 F W fun a w F W => ?_
  refine ls F W Aa (Ow F Aa Aa (by decide) Aa).q fun a w F W => ?_
  refine Cl tk 6 F W fun a w F W => ?_
  refine BJ F Aa H (fun F H => ?_) fun F H => ?_
  ·
   refine FL tk 6 F W fun a w F W => ?_
   refine Bv (Ml := [(b1, [.int .u64 x4])]) (Zl := []) (β := Unit) (rv := fun x => .int .u64 ((BN x4).1)) (MM := fun x => [(b1, [.int .u64 ((BN x4).2)])]) (ZZ := fun x => []) F W W7 Aa Aa (fun hL => Jo _ _ w b1 x4 _ Aa hL) fun x a w F W => ?_
   have W : Stw ⟨Y, X, w0⟩ [(b1, [.int .u64 ((BN x4).2)])] [row v1 63 Bg x2] w := W
   refine vl tk 3 F W fun a w F W => ?_
   refine ls F W Aa (Kp S4 Vo F Aa).q fun a w F W => ?_
   refine vl tk 2 F W fun a w F W => ?_
   refine Ac ?_
   obtain ⟨o2, G2, K2⟩ := Ad H
   refine Ax (fun a w => ∃ x5 : Int, some (x5) = some o2 ∧ Fr 67 [] [(0, v1), (1, .int .i64 p1), (8, .int .i64 (AO (p2 - p1))), (9, .pointer (some ⟨b1, 0, none⟩)), (10, .int .u64 x1), (11, .int .i64 x3), (12, .int .i64 x5)] a ∧ Stw ⟨Y, X, w0⟩ [(b1, [.int .u64 ((BN x4).2)])] [row v1 63 Bg x2] w) ?_ ?_
   ·
    have H := G2
    clear G2 K2
    refine vc tk 7 F W fun a w F W => ?_
    refine BJ F Aa H (fun F H => ?_) fun F H => ?_
    ·
     refine vc tk 6 F W fun a w F W => ?_
     refine Ac ?_
     exact ⟨_, H, F.ra Aa, W⟩
    refine AX (Ac ?_)
    exact ⟨_, H, F.ra Aa, W⟩
   rintro a w ⟨x5, hj, F, W⟩
   have hj := AA hj
   subst hj
   have H := K2
   clear G2 K2
   refine D6 [(true, 0), (true, 1), (true, 2), (true, 3), (true, 4), (true, 5), (true, 6), (true, 7), (true, 8), (true, 9), (true, 10), (true, 11), (true, 12), (true, 13), (true, 14), (true, 15), (true, 16), (false, 17), (true, 18), (false, 19)] (CN ⟨Y, X, w0⟩ [] [(some 17, row v1 63 Bg x2)]) (fun ch a d v w h => by cases d <;> exact h) MO (by kernel_rfl) W (fun w W => ⟨_, _, W, Ag, (all_cons (fun _ => (.head _)) Ag)⟩) fun w W => ?_
   iterate 5 refine Bo (R := []) F Aa Aa (yC fun M Z hN hZ => An F Aa) Aa Aa fun a F => ?_
   refine Bo (R := []) F Aa Aa (yC fun M Z hN hZ => HV F Aa Aa Aa) Aa Aa fun a F => ?_
   iterate 3 refine Bo (R := []) F Aa Aa (yC fun M Z hN hZ => An F Aa) Aa Aa fun a F => ?_
   refine Bo (R := []) F Aa Aa (yC fun M Z hN hZ => HV F Aa Aa Aa) Aa Aa fun a F => ?_
   obtain ⟨x6, h2, H⟩ := Ad H
   refine Bo (R := []) F Aa Aa (yC fun M Z hN hZ => Cn (r := Bg) Eg F Aa Aa (Eh W (Aj 0 Aa)) h2) Aa Aa fun a F => ?_
   refine Bo (R := [17]) F Aa Aa (yC fun M Z hN hZ => Al (y := Value.agg #[.int .i64 x6.1, .int .i64 x6.2.1, .int .i64 x6.2.2.1, .int .i64 x6.2.2.2.1, .int .i64 x6.2.2.2.2]) (j := 0) (i := AO (p1 + x5)) F Aa Aa (DL (hZ ((some 17), row v1 63 Bg x2) (.head _) Aa)) h2 Ej.to DP Aa) (by kernel_rfl) Aa fun a F => ?_
   iterate 2 refine Bo (R := []) F Aa Aa (yC fun M Z hN hZ => An F Aa) Aa Aa fun a F => ?_
   obtain ⟨x7, h3, H⟩ := Ad H
   refine Bo (R := []) F Aa Aa (yC fun M Z hN hZ => Cn (r := Bg) Eg F Aa Aa (Eh W (Aj 0 Aa)) h3) Aa Aa fun a F => ?_
   refine Bo (R := [17]) F Aa Aa (yC fun M Z hN hZ => Al (y := Value.agg #[.int .i64 x7.1, .int .i64 x7.2.1, .int .i64 x7.2.2.1, .int .i64 x7.2.2.2.1, .int .i64 x7.2.2.2.2]) (j := 0) (i := x3) F Aa Aa (DL (hZ ((some 17), row v1 63 Bg x2) (.head _) Aa)) h3 Ej.to DP Aa) (by kernel_rfl) Aa fun a F => ?_
   obtain ⟨x8, h4, H⟩ := Ad H
   refine Bo (R := []) F Aa Aa (yC fun M Z hN hZ => Cn (r := Bg) Eg F Aa Aa (Eh W (Aj 0 Aa)) h4) Aa Aa fun a F => ?_
   refine Dr Aa ?_
   refine BG (i := x3) (j := 0) (vs := (CT x6)) (x' := x6) F W Aa Aa Aa (k := 0) Aa Aa h4 DP Aa Aa Aa Aa (fun A cs _ => Ej.sto (by rfl) _ _ _) fun w W => ?_
   refine Bl (N2 := []) (NZ2 := []) (N3 := []) (NZ3 := [(some 17, row v1 63 Bg x2)]) W Aa Aa Ag (all_cons (fun h => Ah (by kernel_rfl) h) Ag) ?_
   obtain ⟨x9, h5, H⟩ := Ad H
   refine Bo (R := []) F Aa Aa (yC fun M Z hN hZ => Cn (r := Bg) Eg F Aa Aa (Eh W (Aj 0 Aa)) h5) Aa Aa fun a F => ?_
   refine Dr Aa ?_
   refine BG (i := AO (p1 + x5)) (j := 0) (vs := (CT x7)) (x' := x7) F W Aa Aa Aa (k := 0) Aa Aa h5 DP Aa Aa Aa Aa (fun A cs _ => Ej.sto (by rfl) _ _ _) fun w W => ?_
   refine Bl (N2 := []) (NZ2 := []) (N3 := []) (NZ3 := [(some 17, row v1 63 Bg x2)]) W Aa Aa Ag (all_cons (fun h => Ah (by kernel_rfl) h) Ag) ?_
   refine Fw (AG ?_)
   refine vn tk 5 F W fun a w F W => ?_
   refine Ac ?_
   exact ⟨_, H, F.ra Aa, W⟩
  refine Bu ?_
  iterate 2 refine BL ?_
  refine Bp ?_
  have H := L1 _ H
  have H := AA H
  subst H
  refine Jq (.inr Aa) F Aa ?_
  have W := W.sub (M' := []) (Z' := [row v1 63 Bg x2]) (List.nil_sublist _) (List.Sublist.refl _)
  exact ⟨(), Aa, W⟩
 refine AX ?_
 have H := AA H
 subst H
 refine Jq (.inr Aa) F Aa ?_
 exact ⟨(), Aa, W⟩
theorem YH : Has Tryz.prog 95 := CJ Tryz.func95
noncomputable def As (fRec : (List (Int × (Int × Int × Int × Int))) → Int → Int → Int → Option (List (Int × (Int × Int × Int × Int)))) : ((List (Int × (Int × Int × Int × Int))) × Int × Int × Int × Bool × Bool) → Option (((List (Int × (Int × Int × Int × Int))) × Int × Int × Int × Bool × Bool) ⊕ (List (Int × (Int × Int × Int × Int))))
  | (x1, x2, x3, x4, x5, x6) => (if (AO (x3 - x2)) ≤ 12 then (B5 x1 x2 x3).bind fun x7 => some (.inr x7) else (if x4 = 0 then (Cy x1 x2 x3).bind fun x8 => some (.inr x8) else (if (!x5) = true then (BI x1 x2 x3).bind fun x11 => some (x11, AO (x4 - 1)) else some (x1, x4)).bind fun (x9, x10) => (Cg x9 x2 x3).bind fun x12 => (if x12.2 = 2 then (BO x9 x2 x3).bind fun x16 => some (x16, AO ((AO (x3 - 1)) - (AO (x12.1 - x2))), 1) else some (x9, x12.1, x12.2)).bind fun (x13, x14, x15) => Ko (if (x5 && (x6 && decide (x15 = 1))) = true then (Bn x13 x2 x3).bind fun x18 => (if x18.1 = true then some (.inr (.inr x18.2)) else some (.inl x18.2)) else some (.inl x13)) fun x17 => (if 0 < x2 then (ix x17 (AO (x2 - 1))).bind fun x20 => (ix x17 x14).bind fun x21 => (Cj x20 x21).bind fun x22 => some (!(decide (x22 < 0))) else some false).bind fun x19 => (if x19 = true then (B4 x17 x2 x3 x14).bind fun x23 => some (.inl (x23.2, x23.1, x3, x10, (x5 && (x6 || true)), (bif x5 then x6 else x6))) else (Co x17 x2 x3 x14).bind fun x24 => (if (AO (x24.1 - x2)) < (AO (x3 - x24.1)) then (fRec x24.2.2 x2 x24.1 x10).bind fun x25 => some (.inl (x25, AO (x24.1 + 1), x3, x10, decide ((AO (Int.tdiv (AO (x3 - x2)) 8)) ≤ (AO (x24.1 - x2))), x24.2.1)) else (fRec x24.2.2 (AO (x24.1 + 1)) x3 x10).bind fun x26 => some (.inl (x26, x2, x24.1, x10, decide ((AO (Int.tdiv (AO (x3 - x2)) 8)) ≤ (AO (x3 - x24.1))), x24.2.1))))))
noncomputable def Dg (fRec : (List (Int × (Int × Int × Int × Int))) → Int → Int → Int → Option (List (Int × (Int × Int × Int × Int)))) (p0 : List (Int × (Int × Int × Int × Int))) (p1 : Int) (p2 : Int) (p3 : Int) : Option (List (Int × (Int × Int × Int × Int))) := AW (As fRec) (p0, p1, p2, p3, true, true)
noncomputable def AP : Nat → (List (Int × (Int × Int × Int × Int))) → Int → Int → Int → Option (List (Int × (Int × Int × Int × Int)))
  | 0 => fun _ _ _ _ => none
  | n + 1 => Dg (AP n)
noncomputable def C4 (p0 : List (Int × (Int × Int × Int × Int))) (p1 : Int) (p2 : Int) (p3 : Int) : Option (List (Int × (Int × Int × Int × Int))) := GL fun n => AP n p0 p1 p2 p3
theorem Gm (fRec : (List (Int × (Int × Int × Int × Int))) → Int → Int → Int → Option (List (Int × (Int × Int × Int × Int)))) (ih : ∀ (Y : Nat → Prop) (X : List Nat) (w0 : World) (v1 : Value) (p0 : List (Int × (Int × Int × Int × Int))) (p1 : Int) (p2 : Int) (p3 : Int) (r : (List (Int × (Int × Int × Int × Int)))) (H : fRec p0 p1 p2 p3 = some r) (hL : Stw ⟨Y, X, w0⟩ [] [row v1 63 Bg p0] w0), Calls Tryz.prog 73 #[v1, .int .i64 p1, .int .i64 p2, .int .i64 p3, .func (.func 41) #[] #[]] w0 fun e w' => ∃ x : Unit, e = .returned (.tuple #[]) ∧ Stw ⟨Y, X, w0⟩ [] [row v1 63 Bg r] w') (Y : Nat → Prop) (X : List Nat) (w0 : World) (v1 : Value) (p0 : List (Int × (Int × Int × Int × Int))) (p1 : Int) (p2 : Int) (p3 : Int) (r : (List (Int × (Int × Int × Int × Int)))) (H : Dg fRec p0 p1 p2 p3 = some r) (hL : Stw ⟨Y, X, w0⟩ [] [row v1 63 Bg p0] w0) :
    Calls Tryz.prog 73 #[v1, .int .i64 p1, .int .i64 p2, .int .i64 p3, .func (.func 41) #[] #[]] w0 fun e w' => ∃ x : Unit, e = .returned (.tuple #[]) ∧ Stw ⟨Y, X, w0⟩ [] [row v1 63 Bg r] w' := by
 refine enter Tryz.func73 Aa Tryz.ntmps73 Aa fun a F => ?_
 have W := hL
 unfold Dg at H
 refine vc tk 11 F W fun a w F W => ?_
 refine BF H (fun s a w => Fr 148 [] [(0, v1), (1, .int .i64 s.2.1), (2, .int .i64 s.2.2.1), (3, .int .i64 s.2.2.2.1), (4, .func (.func 41) #[] #[]), (10, .bool s.2.2.2.2.1), (11, .bool s.2.2.2.2.2)] a ∧ Stw ⟨Y, X, w0⟩ [] [row v1 63 Bg s.1] w) ⟨F.ra Aa, W⟩ fun s o a w H L1 hR => ?_
 obtain ⟨x1, x2, x3, x4, x5, x6⟩ := s
 obtain ⟨F, W⟩ := hR
 have F : Fr 148 [] [(0, v1), (1, .int .i64 x2), (2, .int .i64 x3), (3, .int .i64 x4), (4, .func (.func 41) #[] #[]), (10, .bool x5), (11, .bool x6)] a := F
 have W : Stw ⟨Y, X, w0⟩ [] [row v1 63 Bg x1] w := W
 rw [As] at H
 refine vc tk 16 F W fun a w F W => ?_
 refine BJ F Aa H (fun F H => ?_) fun F H => ?_
 ·
  refine vc tk 6 F W fun a w F W => ?_
  obtain ⟨x7, h1, H⟩ := Ad H
  refine Bv (Ml := []) (Zl := [row v1 63 Bg x1]) (β := Unit) (rv := fun x => .tuple #[]) (MM := fun x => []) (ZZ := fun x => [row v1 63 Bg x7]) F W YU Aa Aa (fun hL => FF _ _ w (v1) x1 x2 x3 _ h1 hL) fun x a w F W => ?_
  have W : Stw ⟨Y, X, w0⟩ [] [row v1 63 Bg x7] w := W
  refine Cl tk 2 F W fun a w F W => ?_
  refine Ak (Ay (AD (Ay (AD ?_))))
  have H := L1 _ H
  have H := AA H
  subst H
  refine Jq (.inl Aa) F Aa ?_
  exact ⟨(), Aa, W⟩
 refine FL tk 9 F W fun a w F W => ?_
 refine BJ F Aa H (fun F H => ?_) fun F H => ?_
 ·
  refine vc tk 6 F W fun a w F W => ?_
  obtain ⟨x8, h2, H⟩ := Ad H
  refine Bv (Ml := []) (Zl := [row v1 63 Bg x1]) (β := Unit) (rv := fun x => .tuple #[]) (MM := fun x => []) (ZZ := fun x => [row v1 63 Bg x8]) F W YL Aa Aa (fun hL => GB _ _ w (v1) x1 x2 x3 _ h2 hL) fun x a w F W => ?_
  have W : Stw ⟨Y, X, w0⟩ [] [row v1 63 Bg x8] w := W
  refine Cl tk 2 F W fun a w F W => ?_
  refine Ak (Ay (AD (Ay (AD ?_))))
  have H := L1 _ H
  have H := AA H
  subst H
  refine Jq (.inl Aa) F Aa ?_
  exact ⟨(), Aa, W⟩
 refine AX (Ac ?_)
 obtain ⟨o2, G2, K2⟩ := Ad H
 refine Ax (fun a w => ∃ x9 : List (Int × (Int × Int × Int × Int)), ∃ x10 : Int, some ((x9, x10)) = some o2 ∧ Fr 148 [] [(0, v1), (1, .int .i64 x2), (2, .int .i64 x3), (3, .int .i64 x10), (4, .func (.func 41) #[] #[]), (10, .bool x5), (11, .bool x6), (12, .int .i64 (AO (x3 - x2)))] a ∧ Stw ⟨Y, X, w0⟩ [] [row v1 63 Bg x9] w) ?_ ?_
 ·
  have H := G2
  clear G2 K2
  refine vc tk 6 F W fun a w F W => ?_
  refine Cz F Aa H (fun F H => ?_) fun F H => ?_
  ·
   refine vc tk 6 F W fun a w F W => ?_
   obtain ⟨x11, h3, H⟩ := Ad H
   refine Bv (Ml := []) (Zl := [row v1 63 Bg x1]) (β := Unit) (rv := fun x => .tuple #[]) (MM := fun x => []) (ZZ := fun x => [row v1 63 Bg x11]) F W YH Aa Aa (fun hL => FI _ _ w (v1) x1 x2 x3 _ h3 hL) fun x a w F W => ?_
   have W : Stw ⟨Y, X, w0⟩ [] [row v1 63 Bg x11] w := W
   refine Cl tk 7 F W fun a w F W => ?_
   refine Ac ?_
   exact ⟨_, _, H, F.ra Aa, W⟩
  refine AX (Ac ?_)
  exact ⟨_, _, H, F.ra Aa, W⟩
 rintro a w ⟨x9, x10, hj, F, W⟩
 have hj := AA hj
 subst hj
 have H := K2
 clear G2 K2
 refine vc tk 6 F W fun a w F W => ?_
 obtain ⟨x12, h4, H⟩ := Ad H
 refine ls F W Aa (AK (v := Value.tuple #[.int .i64 x12.1, .int .i64 x12.2]) F YA Aa (fun w W => FU any w (v1) x9 x2 x3 _ h4 (Ek (Aj 0 Aa) W))) fun a w F W => ?_
 refine ls F W Aa (An F Aa).q fun a w F W => ?_
 refine ls F W Aa (Dp (v := Value.int .i64 x12.1) F Aa Aa).q fun a w F W => ?_
 refine ls F W Aa (Dp (v := Value.int .i64 x12.2) F Aa Aa).q fun a w F W => ?_
 refine vl tk 3 F W fun a w F W => ?_
 refine Ac ?_
 obtain ⟨o3, G3, K3⟩ := Ad H
 refine Ax (fun a w => ∃ x13 : List (Int × (Int × Int × Int × Int)), ∃ x14 : Int, ∃ x15 : Int, some ((x13, x14, x15)) = some o3 ∧ Fr 148 [] [(0, v1), (1, .int .i64 x2), (2, .int .i64 x3), (3, .int .i64 x10), (4, .func (.func 41) #[] #[]), (10, .bool x5), (11, .bool x6), (12, .int .i64 (AO (x3 - x2))), (13, .int .i64 x14), (14, .int .i64 x15)] a ∧ Stw ⟨Y, X, w0⟩ [] [row v1 63 Bg x13] w) ?_ ?_
 ·
  have H := G3
  clear G3 K3
  refine vc tk 6 F W fun a w F W => ?_
  refine BJ F Aa H (fun F H => ?_) fun F H => ?_
  ·
   refine vc tk 6 F W fun a w F W => ?_
   obtain ⟨x16, h5, H⟩ := Ad H
   refine Bv (Ml := []) (Zl := [row v1 63 Bg x9]) (β := Unit) (rv := fun x => .tuple #[]) (MM := fun x => []) (ZZ := fun x => [row v1 63 Bg x16]) F W YY Aa Aa (fun hL => FM _ _ w (v1) x9 x2 x3 _ h5 hL) fun x a w F W => ?_
   have W : Stw ⟨Y, X, w0⟩ [] [row v1 63 Bg x16] w := W
   refine Cl tk 16 F W fun a w F W => ?_
   refine Ac ?_
   exact ⟨_, _, _, H, F.ra Aa, W⟩
  refine AX (Ac ?_)
  exact ⟨_, _, _, H, F.ra Aa, W⟩
 rintro a w ⟨x13, x14, x15, hj, F, W⟩
 have hj := AA hj
 subst hj
 have H := K3
 clear G3 K3
 obtain ⟨o4, G4, K4, L4⟩ := QS H
 refine Ax (fun a w => ∃ x17 : List (Int × (Int × Int × Int × Int)), some (Sum.inl x17) = some o4 ∧ Fr 148 [] [(0, v1), (1, .int .i64 x2), (2, .int .i64 x3), (3, .int .i64 x10), (4, .func (.func 41) #[] #[]), (10, .bool (x5 && (x6 || true))), (11, .bool (bif x5 then x6 else x6)), (12, .int .i64 (AO (x3 - x2))), (13, .int .i64 x14)] a ∧ Stw ⟨Y, X, w0⟩ [] [row v1 63 Bg x17] w) ?_ ?_
 ·
  have H := G4
  clear G4 K4
  refine Ax (fun a w => Fr 148 [] [(0, v1), (1, .int .i64 x2), (2, .int .i64 x3), (3, .int .i64 x10), (4, .func (.func 41) #[] #[]), (10, .bool (x5 && (x6 || true))), (11, .bool (bif x5 then x6 else x6)), (12, .int .i64 (AO (x3 - x2))), (13, .int .i64 x14), (75, .bool (x5 && (x6 && decide (x15 = 1))))] a ∧ Stw ⟨Y, X, w0⟩ [] [row v1 63 Bg x13] w) ?_ ?_
  ·
   refine vc tk 3 F W fun a w F W => ?_
   rcases Bool.eq_false_or_eq_true x5 with hb0 | hb0
   ·
    rw [hb0] at F
    refine vl tk 3 F W fun a w F W => ?_
    rcases Bool.eq_false_or_eq_true x6 with hb1 | hb1
    ·
     rw [hb1] at F
     refine vl tk 4 F W fun a w F W => ?_
     refine Ac ?_
     exact ⟨F.re ⟨rfl, Aa, Aa, Aa, Aa, (DH (by try rw [hb0]; try rw [hb1]; all_goals simp only [DI])), (DH (by try rw [hb0]; try rw [hb1]; all_goals simp only [DI])), Aa, Aa, (DH (by try rw [hb0]; try rw [hb1]; all_goals simp only [DI])), trivial⟩, W⟩
    rw [hb1] at F
    refine vl tk 4 F W fun a w F W => ?_
    refine Ac ?_
    exact ⟨F.re ⟨rfl, Aa, Aa, Aa, Aa, (DH (by try rw [hb0]; try rw [hb1]; all_goals simp only [DI])), (DH (by try rw [hb0]; try rw [hb1]; all_goals simp only [DI])), Aa, Aa, (DH (by try rw [hb0]; try rw [hb1]; all_goals simp only [DI])), trivial⟩, W⟩
   rw [hb0] at F
   refine vl tk 7 F W fun a w F W => ?_
   refine Ac ?_
   exact ⟨F.re ⟨rfl, Aa, Aa, Aa, Aa, (DH (by try rw [hb0]; all_goals simp only [DI])), (DH (by try rw [hb0]; all_goals simp only [DI])), Aa, Aa, (DH (by try rw [hb0]; all_goals simp only [DI])), trivial⟩, W⟩
  rintro a w ⟨F, W⟩
  refine Cz F Aa H (fun F H => ?_) fun F H => ?_
  ·
   refine vc tk 6 F W fun a w F W => ?_
   obtain ⟨x18, h6, H⟩ := Ad H
   refine Bv (Ml := []) (Zl := [row v1 63 Bg x13]) (β := Unit) (rv := fun x => .bool x18.1) (MM := fun x => []) (ZZ := fun x => [row v1 63 Bg x18.2]) F W YO Aa Aa (fun hL => EF _ _ w (v1) x13 x2 x3 _ h6 hL) fun x a w F W => ?_
   have W : Stw ⟨Y, X, w0⟩ [] [row v1 63 Bg x18.2] w := W
   refine Cl tk 2 F W fun a w F W => ?_
   refine Cz F Aa H (fun F H => ?_) fun F H => ?_
   ·
    refine Ak (Ay (AD (Ay (AD ?_))))
    have H := L4 _ H
    have H := L1 _ H
    have H := AA H
    subst H
    refine Jq (.inl Aa) F Aa ?_
    exact ⟨(), Aa, W⟩
   refine AX (Ac ?_)
   exact ⟨_, H, F.ra Aa, W⟩
  refine AX (Ac ?_)
  exact ⟨_, H, F.ra Aa, W⟩
 rintro a w ⟨x17, hj, F, W⟩
 have H := K4 _ hj
 clear hj G4 K4 L4
 refine FS ?_
 obtain ⟨o5, G5, K5⟩ := Ad H
 refine Ax (fun a w => ∃ x19 : Bool, some (x19) = some o5 ∧ Fr 148 [] [(0, v1), (1, .int .i64 x2), (2, .int .i64 x3), (3, .int .i64 x10), (4, .func (.func 41) #[] #[]), (10, .bool (x5 && (x6 || true))), (11, .bool (bif x5 then x6 else x6)), (12, .int .i64 (AO (x3 - x2))), (13, .int .i64 x14), (97, .bool x19)] a ∧ Stw ⟨Y, X, w0⟩ [] [row v1 63 Bg x17] w) ?_ ?_
 ·
  have H := G5
  clear G5 K5
  refine Cw W MO (by kernel_rfl) ?_
  refine qs F Aa (An F Aa).q fun a F => ?_
  refine qs F Aa (MD F Aa Aa).q fun a F => ?_
  refine qs F Aa (An F Aa).q fun a F => ?_
  rcases Bool.eq_false_or_eq_true (decide (0 < x2)) with hb | hb
  ·
   have H := B8 (CI hb) H
   rw [hb] at F
   clear hb
   iterate 3 refine AL F (Ab F Aa Aa Aa Aa) Aa (Ao Aa) (An F Aa).q fun a F => ?_
   refine AL F (Ab F Aa Aa Aa Aa) Aa (Ao Aa) (HQ F Aa Aa Aa).q fun a F => ?_
   obtain ⟨x20, h7, H⟩ := Ad H
   refine AL F (Ab F Aa Aa Aa Aa) Aa (Ao Aa) (Av (r := Bg) Eg F Aa Aa (Aj 0 Aa) h7).q fun a F => ?_
   refine AL F (Ab F Aa Aa Aa Aa) Aa (Ao Aa) (Al (y := Value.agg #[.int .i64 x20.1, .int .i64 x20.2.1, .int .i64 x20.2.2.1, .int .i64 x20.2.2.2.1, .int .i64 x20.2.2.2.2]) (j := 0) (i := AO (x2 - 1)) F Aa Aa (Aj 0 Aa) h7 Ej.to DP Aa).q fun a F => ?_
   iterate 2 refine AL F (Ab F Aa Aa Aa Aa) Aa (Ao Aa) (An F Aa).q fun a F => ?_
   obtain ⟨x21, h8, H⟩ := Ad H
   refine AL F (Ab F Aa Aa Aa Aa) Aa (Ao Aa) (Av (r := Bg) Eg F Aa Aa (Aj 0 Aa) h8).q fun a F => ?_
   refine AL F (Ab F Aa Aa Aa Aa) Aa (Ao Aa) (Al (y := Value.agg #[.int .i64 x21.1, .int .i64 x21.2.1, .int .i64 x21.2.2.1, .int .i64 x21.2.2.2.1, .int .i64 x21.2.2.2.2]) (j := 0) (i := x14) F Aa Aa (Aj 0 Aa) h8 Ej.to DP Aa).q fun a F => ?_
   obtain ⟨x22, h9, H⟩ := Ad H
   refine AL F (Ab F Aa Aa Aa Aa) Aa (Ao Aa) (Eo (ws := (Ib x20 x21)) (v := Value.int .i64 x22) F RL Aa (fun w W => Cp any w x20 x21 _ h9)) fun a F => ?_
   refine AL F (Ab F Aa Aa Aa Aa) Aa (Ao Aa) (F7 F Aa Aa).q fun a F => ?_
   refine AL F (Ab F Aa Aa Aa Aa) Aa (Ao Aa) (Js F Aa).q fun a F => ?_
   refine qs F Aa (Bq F Aa Aa Aa).q fun a F => ?_
   refine AJ fun w W => ?_
   refine Ac ?_
   exact ⟨_, H, F.ra Aa, W⟩
  have H := B7 (CH hb) H
  rw [hb] at F
  clear hb
  iterate 13 refine Bj F (A7 F Aa Aa Aa Aa Aa) Aa Aa fun a F => ?_
  refine qs F Aa (Br F Aa Aa Aa).q fun a F => ?_
  refine AJ fun w W => ?_
  refine Ac ?_
  exact ⟨_, H, F.ra Aa, W⟩
 rintro a w ⟨x19, hj, F, W⟩
 have hj := AA hj
 subst hj
 have H := K5
 clear G5 K5
 refine Cz F Aa H (fun F H => ?_) fun F H => ?_
 ·
  refine vc tk 7 F W fun a w F W => ?_
  obtain ⟨x23, h10, H⟩ := Ad H
  refine Bv (Ml := []) (Zl := [row v1 63 Bg x17]) (β := Unit) (rv := fun x => .int .i64 x23.1) (MM := fun x => []) (ZZ := fun x => [row v1 63 Bg x23.2]) F W YX Aa Aa (fun hL => FB _ _ w (v1) x17 x2 x3 x14 _ h10 hL) fun x a w F W => ?_
  have W : Stw ⟨Y, X, w0⟩ [] [row v1 63 Bg x23.2] w := W
  refine Cl tk 9 F W fun a w F W => ?_
  refine Bu (BL (Bp (Ac ?_)))
  exact ⟨_, H, F.ra Aa, W⟩
 refine FL tk 9 F W fun a w F W => ?_
 obtain ⟨x24, h11, H⟩ := Ad H
 refine Bv (Ml := []) (Zl := [row v1 63 Bg x17]) (β := Unit) (rv := fun x => .tuple #[.int .i64 x24.1, .bool x24.2.1]) (MM := fun x => []) (ZZ := fun x => [row v1 63 Bg x24.2.2]) F W Xo Aa Aa (fun hL => Gf _ _ w (v1) x17 x2 x3 x14 _ h11 hL) fun x a w F W => ?_
 have W : Stw ⟨Y, X, w0⟩ [] [row v1 63 Bg x24.2.2] w := W
 refine ls F W Aa (An F Aa).q fun a w F W => ?_
 refine ls F W Aa (Dp (v := Value.int .i64 x24.1) F Aa Aa).q fun a w F W => ?_
 refine ls F W Aa (Dp (v := Value.bool x24.2.1) F Aa Aa).q fun a w F W => ?_
 refine Cl tk 25 F W fun a w F W => ?_
 refine ls F W Aa (Ow F Aa Aa (by decide) Aa).q fun a w F W => ?_
 refine Cl tk 10 F W fun a w F W => ?_
 refine BJ F Aa H (fun F H => ?_) fun F H => ?_
 ·
  refine vc tk 15 F W fun a w F W => ?_
  obtain ⟨x25, h12, H⟩ := Ad H
  refine Bv (Ml := []) (Zl := [row v1 63 Bg x24.2.2]) (β := Unit) (rv := fun x => .tuple #[]) (MM := fun x => []) (ZZ := fun x => [row v1 63 Bg x25]) F W Xe Aa Aa (fun hL => ih _ _ w (v1) x24.2.2 x2 x24.1 x10 _ h12 hL) fun x a w F W => ?_
  have W : Stw ⟨Y, X, w0⟩ [] [row v1 63 Bg x25] w := W
  refine Cl tk 7 F W fun a w F W => ?_
  refine AG (Ac ?_)
  exact ⟨_, H, F.ra Aa, W⟩
 refine vc tk 16 F W fun a w F W => ?_
 obtain ⟨x26, h13, H⟩ := Ad H
 refine Bv (Ml := []) (Zl := [row v1 63 Bg x24.2.2]) (β := Unit) (rv := fun x => .tuple #[]) (MM := fun x => []) (ZZ := fun x => [row v1 63 Bg x26]) F W Xe Aa Aa (fun hL => ih _ _ w (v1) x24.2.2 (AO (x24.1 + 1)) x3 x10 _ h13 hL) fun x a w F W => ?_
 have W : Stw ⟨Y, X, w0⟩ [] [row v1 63 Bg x26] w := W
 refine Cl tk 6 F W fun a w F W => ?_
 refine AG (Ac ?_)
 exact ⟨_, H, F.ra Aa, W⟩
theorem GA : ∀ (n : Nat) (Y : Nat → Prop) (X : List Nat) (w0 : World) (v1 : Value) (p0 : List (Int × (Int × Int × Int × Int))) (p1 : Int) (p2 : Int) (p3 : Int) (r : (List (Int × (Int × Int × Int × Int)))) (H : AP n p0 p1 p2 p3 = some r) (hL : Stw ⟨Y, X, w0⟩ [] [row v1 63 Bg p0] w0), Calls Tryz.prog 73 #[v1, .int .i64 p1, .int .i64 p2, .int .i64 p3, .func (.func 41) #[] #[]] w0 fun e w' => ∃ x : Unit, e = .returned (.tuple #[]) ∧ Stw ⟨Y, X, w0⟩ [] [row v1 63 Bg r] w' := by
  intro n
  induction n with
  | zero => intro Y X w0 v1 p0 p1 p2 p3 r H; exact nomatch H
  | succ n ih => intro Y X w0 v1 p0 p1 p2 p3 r H hL; exact Gm (AP n) ih Y X w0 v1 p0 p1 p2 p3 r H hL
theorem GG (Y : Nat → Prop) (X : List Nat) (w0 : World) (v1 : Value) (p0 : List (Int × (Int × Int × Int × Int))) (p1 : Int) (p2 : Int) (p3 : Int) (r : (List (Int × (Int × Int × Int × Int)))) (H : C4 p0 p1 p2 p3 = some r) (hL : Stw ⟨Y, X, w0⟩ [] [row v1 63 Bg p0] w0) :
    Calls Tryz.prog 73 #[v1, .int .i64 p1, .int .i64 p2, .int .i64 p3, .func (.func 41) #[] #[]] w0 fun e w' => ∃ x : Unit, e = .returned (.tuple #[]) ∧ Stw ⟨Y, X, w0⟩ [] [row v1 63 Bg r] w' := by
  obtain ⟨n, H⟩ := CR H
  exact GA n Y X w0 v1 p0 p1 p2 p3 r H hL
noncomputable def Cm (p0 : List (Int × (Int × Int × Int × Int))) : Option (List (Int × (Int × Int × Int × Int))) := (Fq (IntKind.u64.wrap (p0.length : Int))).bind fun x1 => (C4 p0 0 (p0.length : Int) x1).bind fun x2 => some x2
theorem F5 (Y : Nat → Prop) (X : List Nat) (w0 : World) (v1 : Value) (p0 : List (Int × (Int × Int × Int × Int))) (r : (List (Int × (Int × Int × Int × Int)))) (H : Cm p0 = some r) (hL : Stw ⟨Y, X, w0⟩ [] [row v1 63 Bg p0] w0) :
    Calls Tryz.prog 40 #[v1, .func (.func 41) #[] #[]] w0 fun e w' => ∃ x : Unit, e = .returned (.tuple #[]) ∧ Stw ⟨Y, X, w0⟩ [] [row v1 63 Bg r] w' := by
 refine enter Tryz.func40 Aa Tryz.ntmps40 Aa fun a F => ?_
 have W := hL
 unfold Cm at H
 refine vc tk 3 F W fun a w F W => ?_
 refine ls F W Aa (CS (r := Bg) (l := p0) SH Aa F Aa (Aj 0 Aa)).q fun a w F W => ?_
 refine Cl tk 7 F W fun a w F W => ?_
 refine ls F W Aa (Kp Vo S4 F Aa).q fun a w F W => ?_
 obtain ⟨x1, h1, H⟩ := Ad H
 refine ls F W Aa (AK (v := Value.int .i64 x1) F Ya Aa (fun w W => Ju any w (IntKind.u64.wrap (p0.length : Int)) _ h1)) fun a w F W => ?_
 refine ls F W Aa (An F Aa).q fun a w F W => ?_
 obtain ⟨x2, h2, H⟩ := Ad H
 refine Bv (Ml := []) (Zl := [row v1 63 Bg p0]) (β := Unit) (rv := fun x => .tuple #[]) (MM := fun x => []) (ZZ := fun x => [row v1 63 Bg x2]) F W Xe Aa Aa (fun hL => GG _ _ w (v1) p0 0 (p0.length : Int) x1 _ h2 hL) fun x a w F W => ?_
 have W : Stw ⟨Y, X, w0⟩ [] [row v1 63 Bg x2] w := W
 refine Ew ?_
 have H := AA H
 subst H
 refine Jq (.inr Aa) F Aa ?_
 exact ⟨(), Aa, W⟩
end Go.Proofs.YtpckgggmgijiiaaGreatDoor
