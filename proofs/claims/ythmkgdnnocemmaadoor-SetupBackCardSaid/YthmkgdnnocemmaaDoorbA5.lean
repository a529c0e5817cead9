/- The functions of layer 40, Gi. Conditions: none. -/
import Derived.Test.YthmkgdnnocemmaaDoorbA4
namespace Go.Proofs.YthmkgdnnocemmaaDoor
open Go Go.RowKit
set_option linter.unusedVariables false
set_option linter.unusedSimpArgs false
set_option maxRecDepth 20000
theorem QU : Has Tryd.prog 26 := ⟨fun args w => Am Tryd.func26 rfl (by decide) args w⟩
noncomputable def EY (p0 : (Int × (List (Int × Int × Int × Int × Int × Int)) × (List (Int × Int))) × List (List Int) × List Int × Int × Int × Int × Int × Int × Int) (p1 : (Int × (List (Int × Int × Int × Int × Int × Int)) × (List (Int × Int))) × List (List Int) × List Int × Int × Int × Int × Int × Int × Int) : Int → Option (Int ⊕ (Unit ⊕ Bool))
  | x4 => (if x4 < (p0.1.2.1.length : Int) then (ix p0.1.2.1 x4).bind fun x5 => (ix p1.1.2.1 x4).bind fun x6 => (if (!(decide (x5.1 = x6.1 ∧ x5.2.1 = x6.2.1 ∧ x5.2.2.1 = x6.2.2.1 ∧ x5.2.2.2.1 = x6.2.2.2.1 ∧ x5.2.2.2.2.1 = x6.2.2.2.2.1 ∧ x5.2.2.2.2.2 = x6.2.2.2.2.2))) = true then some (.inr (.inr false)) else some (.inl (CD (x4 + 1)))) else some (.inr (.inl ())))
noncomputable def D4 (p0 : (Int × (List (Int × Int × Int × Int × Int × Int)) × (List (Int × Int))) × List (List Int) × List Int × Int × Int × Int × Int × Int × Int) (p1 : (Int × (List (Int × Int × Int × Int × Int × Int)) × (List (Int × Int))) × List (List Int) × List Int × Int × Int × Int × Int × Int × Int) : Int → Option (Int ⊕ (Unit ⊕ Bool))
  | x7 => (if x7 < (p0.1.2.2.length : Int) then (ix p0.1.2.2 x7).bind fun x8 => (ix p1.1.2.2 x7).bind fun x9 => (if (!(decide (x8.1 = x9.1 ∧ x8.2 = x9.2))) = true then some (.inr (.inr false)) else some (.inl (CD (x7 + 1)))) else some (.inr (.inl ())))
noncomputable def D5 (p0 : (Int × (List (Int × Int × Int × Int × Int × Int)) × (List (Int × Int))) × List (List Int) × List Int × Int × Int × Int × Int × Int × Int) (p1 : (Int × (List (Int × Int × Int × Int × Int × Int)) × (List (Int × Int))) × List (List Int) × List Int × Int × Int × Int × Int × Int × Int) : Int → Option (Int ⊕ (Unit ⊕ Bool))
  | x10 => (if x10 < (p0.2.1.length : Int) then (ix p0.2.1 x10).bind fun x11 => (ix p1.2.1 x10).bind fun x12 => (Gy x11 x12).bind fun x13 => (if (!x13) = true then some (.inr (.inr false)) else some (.inl (CD (x10 + 1)))) else some (.inr (.inl ())))
noncomputable def Gr (p0 : (Int × (List (Int × Int × Int × Int × Int × Int)) × (List (Int × Int))) × List (List Int) × List Int × Int × Int × Int × Int × Int × Int) (p1 : (Int × (List (Int × Int × Int × Int × Int × Int)) × (List (Int × Int))) × List (List Int) × List Int × Int × Int × Int × Int × Int × Int) : Option Bool := (if p0.1.1 ≠ p1.1.1 then some true else (if (p0.1.2.1.length : Int) ≠ (p1.1.2.1.length : Int) then some true else (if (p0.1.2.2.length : Int) ≠ (p1.1.2.2.length : Int) then some true else (if (p0.2.1.length : Int) ≠ (p1.2.1.length : Int) then some true else (FT p0.2.2.1 p1.2.2.1).bind fun x2 => (if (!x2) = true then some true else (FT (Dm p0) (Dm p1)).bind fun x3 => some (!x3)))))).bind fun x1 => (if x1 = true then some false else D6 (Bf (EY p0 p1) 0) fun _ => D6 (Bf (D4 p0 p1) 0) fun _ => D6 (Bf (D5 p0 p1) 0) fun _ => some true)
theorem Lg (Y : Nat → Prop) (w0 : World) (v1 : Value) (v2 : Value) (v3 : Value) (v4 : Value) (v5 : Value) (v6 : Value) (v7 : Value) (v8 : Value) (p0 : (Int × (List (Int × Int × Int × Int × Int × Int)) × (List (Int × Int))) × List (List Int) × List Int × Int × Int × Int × Int × Int × Int) (p1 : (Int × (List (Int × Int × Int × Int × Int × Int)) × (List (Int × Int))) × List (List Int) × List Int × Int × Int × Int × Int × Int × Int) (r : Bool) (H : Gr p0 p1 = some r) (h_v1 : Sl w0 (NX []) Bn v1 p0.1.2.1) (h_v2 : Sl w0 (NX []) Br v2 p0.1.2.2) (h_v3 : Sl w0 (NX []) (Rp.slice (Rp.int .u64)) v3 p0.2.1) (h_v4 : Sl w0 (NX []) (Rp.int .i64) v4 p0.2.2.1) (h_v5 : Sl w0 (NX []) Bn v5 p1.1.2.1) (h_v6 : Sl w0 (NX []) Br v6 p1.1.2.2) (h_v7 : Sl w0 (NX []) (Rp.slice (Rp.int .u64)) v7 p1.2.1) (h_v8 : Sl w0 (NX []) (Rp.int .i64) v8 p1.2.2.1) :
    Calls Tryd.prog 10 #[.agg #[.int .i64 p0.1.1, v1, v2, v3, v4, .int .i64 p0.2.2.2.1, .int .i64 p0.2.2.2.2.1, .int .i64 p0.2.2.2.2.2.1, .int .i64 p0.2.2.2.2.2.2.1, .int .i64 p0.2.2.2.2.2.2.2.1, .int .i64 p0.2.2.2.2.2.2.2.2], .agg #[.int .i64 p1.1.1, v5, v6, v7, v8, .int .i64 p1.2.2.2.1, .int .i64 p1.2.2.2.2.1, .int .i64 p1.2.2.2.2.2.1, .int .i64 p1.2.2.2.2.2.2.1, .int .i64 p1.2.2.2.2.2.2.2.1, .int .i64 p1.2.2.2.2.2.2.2.2]] w0 fun e w' => e = .returned (.bool r) ∧ Below w0.heap.size w0 w' := by
 refine enter Tryd.func10 Aa Tryd.ntmps10 Aa fun a F => ?_
 have W := Stw.start Y w0
 obtain ⟨v9, h1, h_v3⟩ := h_v3.ex Eo
 obtain ⟨v10, h2, h_v7⟩ := h_v7.ex Eo
 unfold Gr at H
 refine Ak (Ac ?_)
 refine GU (cs := (B3 p0 v1 v2 v3 v4)) F W Aa Aa Aa fun b1 a w F W => ?_
 refine GU (cs := (B3 p1 v5 v6 v7 v8)) F W Aa Aa Aa fun b2 a w F W => ?_
 refine ls F W Aa (Ag F Aa).q fun a w F W => ?_
 refine Af (Ad (Ak ?_))
 obtain ⟨o1, G1, K1⟩ := An H
 refine AX (fun a w => ∃ x1 : Bool, some (x1) = some o1 ∧ Fr 123 [] [(2, .pointer (some ⟨b1, 0, none⟩)), (3, .pointer (some ⟨b2, 0, none⟩)), (4, .bool false), (61, .bool x1)] a ∧ Stw ⟨Y, [], w0⟩ [(b2, (B3 p1 v5 v6 v7 v8)), (b1, (B3 p0 v1 v2 v3 v4))] [] w) ?_ ?_
 ·
  have H := G1
  clear G1 K1
  refine Nv [(true, 0), (true, 1), (true, 2), (true, 3), (true, 4), (true, 5), (true, 6), (true, 7), (true, 8), (true, 9), (true, 10), (true, 11), (true, 12), (true, 13), (true, 14), (true, 15), (true, 16), (true, 17), (true, 18), (true, 19), (true, 20), (true, 21), (true, 22), (true, 23), (true, 24), (true, 25), (true, 26), (true, 27), (true, 28), (true, 29), (true, 30), (true, 31), (true, 32), (true, 33), (true, 34), (true, 35), (true, 36), (true, 37), (true, 38), (true, 39), (true, 40), (true, 41), (true, 42), (false, 43), (true, 44), (true, 45), (true, 46), (true, 47), (true, 49), (false, 48), (false, 50), (false, 51), (true, 52), (true, 53)] (CN ⟨Y, [], w0⟩ [(some 43, b1, [.int .i64 p0.1.1, v1, v2, v3, v4, .int .i64 p0.2.2.2.1, .int .i64 p0.2.2.2.2.1, .int .i64 p0.2.2.2.2.2.1, .int .i64 p0.2.2.2.2.2.2.1, .int .i64 p0.2.2.2.2.2.2.2.1, .int .i64 p0.2.2.2.2.2.2.2.2]), (some 43, b2, [.int .i64 p1.1.1, v5, v6, v7, v8, .int .i64 p1.2.2.2.1, .int .i64 p1.2.2.2.2.1, .int .i64 p1.2.2.2.2.2.1, .int .i64 p1.2.2.2.2.2.2.1, .int .i64 p1.2.2.2.2.2.2.2.1, .int .i64 p1.2.2.2.2.2.2.2.2])] []) (fun ch a d v w h => by cases d <;> exact h) MO (by kernel_rfl) W (fun w W => ⟨_, _, W, (Aq (fun _ => (.tail _ (.head _))) (Aq (fun _ => (.head _)) AA)), AA⟩) fun w W => ?_
  refine BL (R := []) F Aa Aa (yC fun M Z hN hZ => Ai Bw Aa Aa Aa GE F Aa 0 Aa) Aa Aa fun a F => ?_
  refine BL (R := []) F Aa Aa (yC fun M Z hN hZ => Ai DE Aa Aa Aa T3 F Aa 0 Aa) Aa Aa fun a F => ?_
  refine BL (R := [43, 38, 29, 18, 7, 6]) F Aa Aa (yC fun M Z hN hZ => CY (cs := (B3 p0 v1 v2 v3 v4)) (v := Value.int .i64 p0.1.1) F Aa (hN ((some 43), b1, (B3 p0 v1 v2 v3 v4)) (.head _) Aa) T3 Aa) (by kernel_rfl) Aa fun a F => ?_
  refine BL (R := []) F Aa Aa (yC fun M Z hN hZ => Ai Bw Aa Aa Aa GE F Aa 0 Aa) Aa Aa fun a F => ?_
  refine BL (R := []) F Aa Aa (yC fun M Z hN hZ => Ai DE Aa Aa Aa T3 F Aa 0 Aa) Aa Aa fun a F => ?_
  refine BL (R := [43, 38, 29, 18, 7, 6]) F Aa Aa (yC fun M Z hN hZ => CY (cs := (B3 p1 v5 v6 v7 v8)) (v := Value.int .i64 p1.1.1) F Aa (hN ((some 43), b2, (B3 p1 v5 v6 v7 v8)) (.tail _ (.head _)) Aa) T3 Aa) (by kernel_rfl) Aa fun a F => ?_
  refine BL (R := []) F Aa Aa (yC fun M Z hN hZ => Eg F Aa Aa) Aa Aa fun a F => ?_
  refine BL (R := []) F Aa Aa (yC fun M Z hN hZ => Ae F Aa) Aa Aa fun a F => ?_
  rcases Bool.eq_false_or_eq_true (decide (p0.1.1 ≠ p1.1.1)) with hb | hb
  ·
   have H := AW (BI hb) H
   rw [hb] at F
   clear hb
   iterate 9 refine Cs F Aa (BT F Aa Aa Aa Aa Aa) Aa Aa Aa fun a F => ?_
   refine BL (R := []) F Aa Aa (yC fun M Z hN hZ => As F Aa Aa Aa) Aa Aa fun a F => ?_
   refine BL (R := []) F Aa Aa (yC fun M Z hN hZ => Ae F Aa) Aa Aa fun a F => ?_
   iterate 9 refine Cs F Aa (BT F Aa Aa Aa Aa Aa) Aa Aa Aa fun a F => ?_
   refine BL (R := []) F Aa Aa (yC fun M Z hN hZ => As F Aa Aa Aa) Aa Aa fun a F => ?_
   refine BL (R := []) F Aa Aa (yC fun M Z hN hZ => Ae F Aa) Aa Aa fun a F => ?_
   iterate 7 refine Cs F Aa (BT F Aa Aa Aa Aa Aa) Aa Aa Aa fun a F => ?_
   refine BL (R := []) F Aa Aa (yC fun M Z hN hZ => As F Aa Aa Aa) Aa Aa fun a F => ?_
   refine BL (R := []) F Aa Aa (yC fun M Z hN hZ => Ae F Aa) Aa Aa fun a F => ?_
   iterate 4 refine Cs F Aa (BT F Aa Aa Aa Aa Aa) Aa Aa Aa fun a F => ?_
   refine DR Aa ?_
   refine B8 F Aa Aa Aa Aa Aa Aa Aa fun a F => ?_
   refine BF (N2 := []) (NZ2 := []) (N3 := [(some 43, b1, [.int .i64 p0.1.1, v1, v2, v3, v4, .int .i64 p0.2.2.2.1, .int .i64 p0.2.2.2.2.1, .int .i64 p0.2.2.2.2.2.1, .int .i64 p0.2.2.2.2.2.2.1, .int .i64 p0.2.2.2.2.2.2.2.1, .int .i64 p0.2.2.2.2.2.2.2.2]), (some 43, b2, [.int .i64 p1.1.1, v5, v6, v7, v8, .int .i64 p1.2.2.2.1, .int .i64 p1.2.2.2.2.1, .int .i64 p1.2.2.2.2.2.1, .int .i64 p1.2.2.2.2.2.2.1, .int .i64 p1.2.2.2.2.2.2.2.1, .int .i64 p1.2.2.2.2.2.2.2.2])]) (NZ3 := []) W Aa Aa (Aq (fun h => Au (by kernel_rfl) h) (Aq (fun h => Au (by kernel_rfl) h) AA)) AA ?_
   refine Cs F Aa (BT F Aa Aa Aa Aa Aa) Aa Aa Aa fun a F => ?_
   refine BL (R := []) F Aa Aa (yC fun M Z hN hZ => As F Aa Aa Aa) Aa Aa fun a F => ?_
   refine BL (R := []) F Aa Aa (yC fun M Z hN hZ => Ae F Aa) Aa Aa fun a F => ?_
   iterate 2 refine Cs F Aa (BT F Aa Aa Aa Aa Aa) Aa Aa Aa fun a F => ?_
   refine DR Aa ?_
   refine B8 F Aa Aa Aa Aa Aa Aa Aa fun a F => ?_
   refine BF (N2 := []) (NZ2 := []) (N3 := [(some 43, b1, [.int .i64 p0.1.1, v1, v2, v3, v4, .int .i64 p0.2.2.2.1, .int .i64 p0.2.2.2.2.1, .int .i64 p0.2.2.2.2.2.1, .int .i64 p0.2.2.2.2.2.2.1, .int .i64 p0.2.2.2.2.2.2.2.1, .int .i64 p0.2.2.2.2.2.2.2.2]), (some 43, b2, [.int .i64 p1.1.1, v5, v6, v7, v8, .int .i64 p1.2.2.2.1, .int .i64 p1.2.2.2.2.1, .int .i64 p1.2.2.2.2.2.1, .int .i64 p1.2.2.2.2.2.2.1, .int .i64 p1.2.2.2.2.2.2.2.1, .int .i64 p1.2.2.2.2.2.2.2.2])]) (NZ3 := []) W Aa Aa (Aq (fun h => Au (by kernel_rfl) h) (Aq (fun h => Au (by kernel_rfl) h) AA)) AA ?_
   refine DR Aa ?_
   refine B8 F Aa Aa Aa Aa Aa Aa Aa fun a F => ?_
   refine BF (N2 := []) (NZ2 := []) (N3 := [(some 43, b1, [.int .i64 p0.1.1, v1, v2, v3, v4, .int .i64 p0.2.2.2.1, .int .i64 p0.2.2.2.2.1, .int .i64 p0.2.2.2.2.2.1, .int .i64 p0.2.2.2.2.2.2.1, .int .i64 p0.2.2.2.2.2.2.2.1, .int .i64 p0.2.2.2.2.2.2.2.2]), (some 43, b2, [.int .i64 p1.1.1, v5, v6, v7, v8, .int .i64 p1.2.2.2.1, .int .i64 p1.2.2.2.2.1, .int .i64 p1.2.2.2.2.2.1, .int .i64 p1.2.2.2.2.2.2.1, .int .i64 p1.2.2.2.2.2.2.2.1, .int .i64 p1.2.2.2.2.2.2.2.2])]) (NZ3 := []) W Aa Aa (Aq (fun h => Au (by kernel_rfl) h) (Aq (fun h => Au (by kernel_rfl) h) AA)) AA ?_
   refine DR Aa ?_
   refine B8 F Aa Aa Aa Aa Aa Aa Aa fun a F => ?_
   refine BF (N2 := []) (NZ2 := []) (N3 := [(some 43, b1, [.int .i64 p0.1.1, v1, v2, v3, v4, .int .i64 p0.2.2.2.1, .int .i64 p0.2.2.2.2.1, .int .i64 p0.2.2.2.2.2.1, .int .i64 p0.2.2.2.2.2.2.1, .int .i64 p0.2.2.2.2.2.2.2.1, .int .i64 p0.2.2.2.2.2.2.2.2]), (some 43, b2, [.int .i64 p1.1.1, v5, v6, v7, v8, .int .i64 p1.2.2.2.1, .int .i64 p1.2.2.2.2.1, .int .i64 p1.2.2.2.2.2.1, .int .i64 p1.2.2.2.2.2.2.1, .int .i64 p1.2.2.2.2.2.2.2.1, .int .i64 p1.2.2.2.2.2.2.2.2])]) (NZ3 := []) W Aa Aa (Aq (fun h => Au (by kernel_rfl) h) (Aq (fun h => Au (by kernel_rfl) h) AA)) AA ?_
   refine Cs F Aa (BT F Aa Aa Aa Aa Aa) Aa Aa Aa fun a F => ?_
   refine BL (R := []) F Aa Aa (yC fun M Z hN hZ => As F Aa Aa Aa) Aa Aa fun a F => ?_
   refine Gb (Ad ?_)
   have W := W.frontM (i := 1) Aa Aa
   have W := W.frontM (i := 1) Aa Aa
   exact ⟨_, H, F.re ⟨rfl, Aa, Aa, Aa, trivial⟩, W⟩
  have H := AV (BG hb) H
  rw [hb] at F
  clear hb
  refine DO (R := []) F Aa (Ah F Aa Aa Aa Aa) Aa Aa (yC fun M Z hN hZ => Ai Bw Aa Aa Aa GE F Aa 0 Aa) Aa Aa fun a F => ?_
  refine DO (R := []) F Aa (Ah F Aa Aa Aa Aa) Aa Aa (yC fun M Z hN hZ => Ai DE Aa Aa Aa HV F Aa 1 Aa) Aa Aa fun a F => ?_
  refine DO (R := [43, 38, 29, 18, 17, 16, 11]) F Aa (Ah F Aa Aa Aa Aa) Aa Aa (yC fun M Z hN hZ => CY (cs := (B3 p0 v1 v2 v3 v4)) (v := v1) F Aa (hN ((some 43), b1, (B3 p0 v1 v2 v3 v4)) (.head _) Aa) HV Aa) (by kernel_rfl) Aa fun a F => ?_
  refine DO (R := []) F Aa (Ah F Aa Aa Aa Aa) Aa Aa (yC fun M Z hN hZ => B4 (r := Bn) (l := p0.1.2.1) Jt Aa F Aa (Ao h_v1)) Aa Aa fun a F => ?_
  refine DO (R := []) F Aa (Ah F Aa Aa Aa Aa) Aa Aa (yC fun M Z hN hZ => Ai Bw Aa Aa Aa GE F Aa 0 Aa) Aa Aa fun a F => ?_
  refine DO (R := []) F Aa (Ah F Aa Aa Aa Aa) Aa Aa (yC fun M Z hN hZ => Ai DE Aa Aa Aa HV F Aa 1 Aa) Aa Aa fun a F => ?_
  refine DO (R := [43, 38, 29, 18, 17, 16, 15]) F Aa (Ah F Aa Aa Aa Aa) Aa Aa (yC fun M Z hN hZ => CY (cs := (B3 p1 v5 v6 v7 v8)) (v := v5) F Aa (hN ((some 43), b2, (B3 p1 v5 v6 v7 v8)) (.tail _ (.head _)) Aa) HV Aa) (by kernel_rfl) Aa fun a F => ?_
  refine DO (R := []) F Aa (Ah F Aa Aa Aa Aa) Aa Aa (yC fun M Z hN hZ => B4 (r := Bn) (l := p1.1.2.1) Jt Aa F Aa (Ao h_v5)) Aa Aa fun a F => ?_
  refine DO (R := []) F Aa (Ah F Aa Aa Aa Aa) Aa Aa (yC fun M Z hN hZ => Eg F Aa Aa) Aa Aa fun a F => ?_
  refine BL (R := []) F Aa Aa (yC fun M Z hN hZ => Al F Aa Aa Aa) Aa Aa fun a F => ?_
  refine BL (R := []) F Aa Aa (yC fun M Z hN hZ => Ae F Aa) Aa Aa fun a F => ?_
  rcases Bool.eq_false_or_eq_true (decide ((p0.1.2.1.length : Int) ≠ (p1.1.2.1.length : Int))) with hb | hb
  ·
   have H := AW (BI hb) H
   rw [hb] at F
   clear hb
   iterate 9 refine Cs F Aa (BT F Aa Aa Aa Aa Aa) Aa Aa Aa fun a F => ?_
   refine BL (R := []) F Aa Aa (yC fun M Z hN hZ => As F Aa Aa Aa) Aa Aa fun a F => ?_
   refine BL (R := []) F Aa Aa (yC fun M Z hN hZ => Ae F Aa) Aa Aa fun a F => ?_
   iterate 7 refine Cs F Aa (BT F Aa Aa Aa Aa Aa) Aa Aa Aa fun a F => ?_
   refine BL (R := []) F Aa Aa (yC fun M Z hN hZ => As F Aa Aa Aa) Aa Aa fun a F => ?_
   refine BL (R := []) F Aa Aa (yC fun M Z hN hZ => Ae F Aa) Aa Aa fun a F => ?_
   iterate 4 refine Cs F Aa (BT F Aa Aa Aa Aa Aa) Aa Aa Aa fun a F => ?_
   refine DR Aa ?_
   refine B8 F Aa Aa Aa Aa Aa Aa Aa fun a F => ?_
   refine BF (N2 := []) (NZ2 := []) (N3 := [(some 43, b1, [.int .i64 p0.1.1, v1, v2, v3, v4, .int .i64 p0.2.2.2.1, .int .i64 p0.2.2.2.2.1, .int .i64 p0.2.2.2.2.2.1, .int .i64 p0.2.2.2.2.2.2.1, .int .i64 p0.2.2.2.2.2.2.2.1, .int .i64 p0.2.2.2.2.2.2.2.2]), (some 43, b2, [.int .i64 p1.1.1, v5, v6, v7, v8, .int .i64 p1.2.2.2.1, .int .i64 p1.2.2.2.2.1, .int .i64 p1.2.2.2.2.2.1, .int .i64 p1.2.2.2.2.2.2.1, .int .i64 p1.2.2.2.2.2.2.2.1, .int .i64 p1.2.2.2.2.2.2.2.2])]) (NZ3 := []) W Aa Aa (Aq (fun h => Au (by kernel_rfl) h) (Aq (fun h => Au (by kernel_rfl) h) AA)) AA ?_
   refine Cs F Aa (BT F Aa Aa Aa Aa Aa) Aa Aa Aa fun a F => ?_
   refine BL (R := []) F Aa Aa (yC fun M Z hN hZ => As F Aa Aa Aa) Aa Aa fun a F => ?_
   refine BL (R := []) F Aa Aa (yC fun M Z hN hZ => Ae F Aa) Aa Aa fun a F => ?_
   iterate 2 refine Cs F Aa (BT F Aa Aa Aa Aa Aa) Aa Aa Aa fun a F => ?_
   refine DR Aa ?_
   refine B8 F Aa Aa Aa Aa Aa Aa Aa fun a F => ?_
   refine BF (N2 := []) (NZ2 := []) (N3 := [(some 43, b1, [.int .i64 p0.1.1, v1, v2, v3, v4, .int .i64 p0.2.2.2.1, .int .i64 p0.2.2.2.2.1, .int .i64 p0.2.2.2.2.2.1, .int .i64 p0.2.2.2.2.2.2.1, .int .i64 p0.2.2.2.2.2.2.2.1, .int .i64 p0.2.2.2.2.2.2.2.2]), (some 43, b2, [.int .i64 p1.1.1, v5, v6, v7, v8, .int .i64 p1.2.2.2.1, .int .i64 p1.2.2.2.2.1, .int .i64 p1.2.2.2.2.2.1, .int .i64 p1.2.2.2.2.2.2.1, .int .i64 p1.2.2.2.2.2.2.2.1, .int .i64 p1.2.2.2.2.2.2.2.2])]) (NZ3 := []) W Aa Aa (Aq (fun h => Au (by kernel_rfl) h) (Aq (fun h => Au (by kernel_rfl) h) AA)) AA ?_
   refine DR Aa ?_
   refine B8 F Aa Aa Aa Aa Aa Aa Aa fun a F => ?_
   refine BF (N2 := []) (NZ2 := []) (N3 := [(some 43, b1, [.int .i64 p0.1.1, v1, v2, v3, v4, .int .i64 p0.2.2.2.1, .int .i64 p0.2.2.2.2.1, .int .i64 p0.2.2.2.2.2.1, .int .i64 p0.2.2.2.2.2.2.1, .int .i64 p0.2.2.2.2.2.2.2.1, .int .i64 p0.2.2.2.2.2.2.2.2]), (some 43, b2, [.int .i64 p1.1.1, v5, v6, v7, v8, .int .i64 p1.2.2.2.1, .int .i64 p1.2.2.2.2.1, .int .i64 p1.2.2.2.2.2.1, .int .i64 p1.2.2.2.2.2.2.1, .int .i64 p1.2.2.2.2.2.2.2.1, .int .i64 p1.2.2.2.2.2.2.2.2])]) (NZ3 := []) W Aa Aa (Aq (fun h => Au (by kernel_rfl) h) (Aq (fun h => Au (by kernel_rfl) h) AA)) AA ?_
   refine DR Aa ?_
   refine B8 F Aa Aa Aa Aa Aa Aa Aa fun a F => ?_
   refine BF (N2 := []) (NZ2 := []) (N3 := [(some 43, b1, [.int .i64 p0.1.1, v1, v2, v3, v4, .int .i64 p0.2.2.2.1, .int .i64 p0.2.2.2.2.1, .int .i64 p0.2.2.2.2.2.1, .int .i64 p0.2.2.2.2.2.2.1, .int .i64 p0.2.2.2.2.2.2.2.1, .int .i64 p0.2.2.2.2.2.2.2.2]), (some 43, b2, [.int .i64 p1.1.1, v5, v6, v7, v8, .int .i64 p1.2.2.2.1, .int .i64 p1.2.2.2.2.1, .int .i64 p1.2.2.2.2.2.1, .int .i64 p1.2.2.2.2.2.2.1, .int .i64 p1.2.2.2.2.2.2.2.1, .int .i64 p1.2.2.2.2.2.2.2.2])]) (NZ3 := []) W Aa Aa (Aq (fun h => Au (by kernel_rfl) h) (Aq (fun h => Au (by kernel_rfl) h) AA)) AA ?_
   refine Cs F Aa (BT F Aa Aa Aa Aa Aa) Aa Aa Aa fun a F => ?_
   refine BL (R := []) F Aa Aa (yC fun M Z hN hZ => As F Aa Aa Aa) Aa Aa fun a F => ?_
   refine Gb (Ad ?_)
   have W := W.frontM (i := 1) Aa Aa
   have W := W.frontM (i := 1) Aa Aa
   exact ⟨_, H, F.re ⟨rfl, Aa, Aa, Aa, trivial⟩, W⟩
  have H := AV (BG hb) H
  rw [hb] at F
  clear hb
  refine DO (R := []) F Aa (Ah F Aa Aa Aa Aa) Aa Aa (yC fun M Z hN hZ => Ai Bw Aa Aa Aa GE F Aa 0 Aa) Aa Aa fun a F => ?_
  refine DO (R := []) F Aa (Ah F Aa Aa Aa Aa) Aa Aa (yC fun M Z hN hZ => Ai DE Aa Aa Aa Hu F Aa 2 Aa) Aa Aa fun a F => ?_
  refine DO (R := [43, 38, 29, 28, 27, 22]) F Aa (Ah F Aa Aa Aa Aa) Aa Aa (yC fun M Z hN hZ => CY (cs := (B3 p0 v1 v2 v3 v4)) (v := v2) F Aa (hN ((some 43), b1, (B3 p0 v1 v2 v3 v4)) (.head _) Aa) Hu Aa) (by kernel_rfl) Aa fun a F => ?_
  refine DO (R := []) F Aa (Ah F Aa Aa Aa Aa) Aa Aa (yC fun M Z hN hZ => B4 (r := Br) (l := p0.1.2.2) Jr Aa F Aa (Ao h_v2)) Aa Aa fun a F => ?_
  refine DO (R := []) F Aa (Ah F Aa Aa Aa Aa) Aa Aa (yC fun M Z hN hZ => Ai Bw Aa Aa Aa GE F Aa 0 Aa) Aa Aa fun a F => ?_
  refine DO (R := []) F Aa (Ah F Aa Aa Aa Aa) Aa Aa (yC fun M Z hN hZ => Ai DE Aa Aa Aa Hu F Aa 2 Aa) Aa Aa fun a F => ?_
  refine DO (R := [43, 38, 29, 28, 27, 26]) F Aa (Ah F Aa Aa Aa Aa) Aa Aa (yC fun M Z hN hZ => CY (cs := (B3 p1 v5 v6 v7 v8)) (v := v6) F Aa (hN ((some 43), b2, (B3 p1 v5 v6 v7 v8)) (.tail _ (.head _)) Aa) Hu Aa) (by kernel_rfl) Aa fun a F => ?_
  refine DO (R := []) F Aa (Ah F Aa Aa Aa Aa) Aa Aa (yC fun M Z hN hZ => B4 (r := Br) (l := p1.1.2.2) Jr Aa F Aa (Ao h_v6)) Aa Aa fun a F => ?_
  refine DO (R := []) F Aa (Ah F Aa Aa Aa Aa) Aa Aa (yC fun M Z hN hZ => Eg F Aa Aa) Aa Aa fun a F => ?_
  refine BL (R := []) F Aa Aa (yC fun M Z hN hZ => Al F Aa Aa Aa) Aa Aa fun a F => ?_
  refine BL (R := []) F Aa Aa (yC fun M Z hN hZ => Ae F Aa) Aa Aa fun a F => ?_
  rcases Bool.eq_false_or_eq_true (decide ((p0.1.2.2.length : Int) ≠ (p1.1.2.2.length : Int))) with hb | hb
  ·
   have H := AW (BI hb) H
   rw [hb] at F
   clear hb
   iterate 7 refine Cs F Aa (BT F Aa Aa Aa Aa Aa) Aa Aa Aa fun a F => ?_
   refine BL (R := []) F Aa Aa (yC fun M Z hN hZ => As F Aa Aa Aa) Aa Aa fun a F => ?_
   refine BL (R := []) F Aa Aa (yC fun M Z hN hZ => Ae F Aa) Aa Aa fun a F => ?_
   iterate 4 refine Cs F Aa (BT F Aa Aa Aa Aa Aa) Aa Aa Aa fun a F => ?_
   refine DR Aa ?_
   refine B8 F Aa Aa Aa Aa Aa Aa Aa fun a F => ?_
   refine BF (N2 := []) (NZ2 := []) (N3 := [(some 43, b1, [.int .i64 p0.1.1, v1, v2, v3, v4, .int .i64 p0.2.2.2.1, .int .i64 p0.2.2.2.2.1, .int .i64 p0.2.2.2.2.2.1, .int .i64 p0.2.2.2.2.2.2.1, .int .i64 p0.2.2.2.2.2.2.2.1, .int .i64 p0.2.2.2.2.2.2.2.2]), (some 43, b2, [.int .i64 p1.1.1, v5, v6, v7, v8, .int .i64 p1.2.2.2.1, .int .i64 p1.2.2.2.2.1, .int .i64 p1.2.2.2.2.2.1, .int .i64 p1.2.2.2.2.2.2.1, .int .i64 p1.2.2.2.2.2.2.2.1, .int .i64 p1.2.2.2.2.2.2.2.2])]) (NZ3 := []) W Aa Aa (Aq (fun h => Au (by kernel_rfl) h) (Aq (fun h => Au (by kernel_rfl) h) AA)) AA ?_
   refine Cs F Aa (BT F Aa Aa Aa Aa Aa) Aa Aa Aa fun a F => ?_
   refine BL (R := []) F Aa Aa (yC fun M Z hN hZ => As F Aa Aa Aa) Aa Aa fun a F => ?_
   refine BL (R := []) F Aa Aa (yC fun M Z hN hZ => Ae F Aa) Aa Aa fun a F => ?_
   iterate 2 refine Cs F Aa (BT F Aa Aa Aa Aa Aa) Aa Aa Aa fun a F => ?_
   refine DR Aa ?_
   refine B8 F Aa Aa Aa Aa Aa Aa Aa fun a F => ?_
   refine BF (N2 := []) (NZ2 := []) (N3 := [(some 43, b1, [.int .i64 p0.1.1, v1, v2, v3, v4, .int .i64 p0.2.2.2.1, .int .i64 p0.2.2.2.2.1, .int .i64 p0.2.2.2.2.2.1, .int .i64 p0.2.2.2.2.2.2.1, .int .i64 p0.2.2.2.2.2.2.2.1, .int .i64 p0.2.2.2.2.2.2.2.2]), (some 43, b2, [.int .i64 p1.1.1, v5, v6, v7, v8, .int .i64 p1.2.2.2.1, .int .i64 p1.2.2.2.2.1, .int .i64 p1.2.2.2.2.2.1, .int .i64 p1.2.2.2.2.2.2.1, .int .i64 p1.2.2.2.2.2.2.2.1, .int .i64 p1.2.2.2.2.2.2.2.2])]) (NZ3 := []) W Aa Aa (Aq (fun h => Au (by kernel_rfl) h) (Aq (fun h => Au (by kernel_rfl) h) AA)) AA ?_
   refine DR Aa ?_
   refine B8 F Aa Aa Aa Aa Aa Aa Aa fun a F => ?_
   refine BF (N2 := []) (NZ2 := []) (N3 := [(some 43, b1, [.int .i64 p0.1.1, v1, v2, v3, v4, .int .i64 p0.2.2.2.1, .int .i64 p0.2.2.2.2.1, .int .i64 p0.2.2.2.2.2.1, .int .i64 p0.2.2.2.2.2.2.1, .int .i64 p0.2.2.2.2.2.2.2.1, .int .i64 p0.2.2.2.2.2.2.2.2]), (some 43, b2, [.int .i64 p1.1.1, v5, v6, v7, v8, .int .i64 p1.2.2.2.1, .int .i64 p1.2.2.2.2.1, .int .i64 p1.2.2.2.2.2.1, .int .i64 p1.2.2.2.2.2.2.1, .int .i64 p1.2.2.2.2.2.2.2.1, .int .i64 p1.2.2.2.2.2.2.2.2])]) (NZ3 := []) W Aa Aa (Aq (fun h => Au (by kernel_rfl) h) (Aq (fun h => Au (by kernel_rfl) h) AA)) AA ?_
   refine DR Aa ?_
   refine B8 F Aa Aa Aa Aa Aa Aa Aa fun a F => ?_
   refine BF (N2 := []) (NZ2 := []) (N3 := [(some 43, b1, [.int .i64 p0.1.1, v1, v2, v3, v4, .int .i64 p0.2.2.2.1, .int .i64 p0.2.2.2.2.1, .int .i64 p0.2.2.2.2.2.1, .int .i64 p0.2.2.2.2.2.2.1, .int .i64 p0.2.2.2.2.2.2.2.1, .int .i64 p0.2.2.2.2.2.2.2.2]), (some 43, b2, [.int .i64 p1.1.1, v5, v6, v7, v8, .int .i64 p1.2.2.2.1, .int .i64 p1.2.2.2.2.1, .int .i64 p1.2.2.2.2.2.1, .int .i64 p1.2.2.2.2.2.2.1, .int .i64 p1.2.2.2.2.2.2.2.1, .int .i64 p1.2.2.2.2.2.2.2.2])]) (NZ3 := []) W Aa Aa (Aq (fun h => Au (by kernel_rfl) h) (Aq (fun h => Au (by kernel_rfl) h) AA)) AA ?_
   refine Cs F Aa (BT F Aa Aa Aa Aa Aa) Aa Aa Aa fun a F => ?_
   refine BL (R := []) F Aa Aa (yC fun M Z hN hZ => As F Aa Aa Aa) Aa Aa fun a F => ?_
   refine Gb (Ad ?_)
   have W := W.frontM (i := 1) Aa Aa
   have W := W.frontM (i := 1) Aa Aa
   exact ⟨_, H, F.re ⟨rfl, Aa, Aa, Aa, trivial⟩, W⟩
  have H := AV (BG hb) H
  rw [hb] at F
  clear hb
  refine DO (R := []) F Aa (Ah F Aa Aa Aa Aa) Aa Aa (yC fun M Z hN hZ => Ai Bw Aa Aa Aa HY F Aa 3 Aa) Aa Aa fun a F => ?_
  refine DO (R := [43, 38, 37, 36, 32]) F Aa (Ah F Aa Aa Aa Aa) Aa Aa (yC fun M Z hN hZ => CY (cs := (B3 p0 v1 v2 v3 v4)) (v := v3) F Aa (hN ((some 43), b1, (B3 p0 v1 v2 v3 v4)) (.head _) Aa) HY Aa) (by kernel_rfl) Aa fun a F => ?_
  refine DO (R := []) F Aa (Ah F Aa Aa Aa Aa) Aa Aa (yC fun M Z hN hZ => B4 (r := (Rp.slice (Rp.int .u64))) (l := p0.2.1) Ju Aa F Aa (CO Eo h1 (Ao h_v3))) Aa Aa fun a F => ?_
  refine DO (R := []) F Aa (Ah F Aa Aa Aa Aa) Aa Aa (yC fun M Z hN hZ => Ai Bw Aa Aa Aa HY F Aa 3 Aa) Aa Aa fun a F => ?_
  refine DO (R := [43, 38, 37, 36, 35]) F Aa (Ah F Aa Aa Aa Aa) Aa Aa (yC fun M Z hN hZ => CY (cs := (B3 p1 v5 v6 v7 v8)) (v := v7) F Aa (hN ((some 43), b2, (B3 p1 v5 v6 v7 v8)) (.tail _ (.head _)) Aa) HY Aa) (by kernel_rfl) Aa fun a F => ?_
  refine DO (R := []) F Aa (Ah F Aa Aa Aa Aa) Aa Aa (yC fun M Z hN hZ => B4 (r := (Rp.slice (Rp.int .u64))) (l := p1.2.1) Ju Aa F Aa (CO Eo h2 (Ao h_v7))) Aa Aa fun a F => ?_
  refine DO (R := []) F Aa (Ah F Aa Aa Aa Aa) Aa Aa (yC fun M Z hN hZ => Eg F Aa Aa) Aa Aa fun a F => ?_
  refine BL (R := []) F Aa Aa (yC fun M Z hN hZ => Al F Aa Aa Aa) Aa Aa fun a F => ?_
  refine BL (R := []) F Aa Aa (yC fun M Z hN hZ => Ae F Aa) Aa Aa fun a F => ?_
  rcases Bool.eq_false_or_eq_true (decide ((p0.2.1.length : Int) ≠ (p1.2.1.length : Int))) with hb | hb
  ·
   have H := AW (BI hb) H
   rw [hb] at F
   clear hb
   iterate 4 refine Cs F Aa (BT F Aa Aa Aa Aa Aa) Aa Aa Aa fun a F => ?_
   refine DR Aa ?_
   refine B8 F Aa Aa Aa Aa Aa Aa Aa fun a F => ?_
   refine BF (N2 := []) (NZ2 := []) (N3 := [(some 43, b1, [.int .i64 p0.1.1, v1, v2, v3, v4, .int .i64 p0.2.2.2.1, .int .i64 p0.2.2.2.2.1, .int .i64 p0.2.2.2.2.2.1, .int .i64 p0.2.2.2.2.2.2.1, .int .i64 p0.2.2.2.2.2.2.2.1, .int .i64 p0.2.2.2.2.2.2.2.2]), (some 43, b2, [.int .i64 p1.1.1, v5, v6, v7, v8, .int .i64 p1.2.2.2.1, .int .i64 p1.2.2.2.2.1, .int .i64 p1.2.2.2.2.2.1, .int .i64 p1.2.2.2.2.2.2.1, .int .i64 p1.2.2.2.2.2.2.2.1, .int .i64 p1.2.2.2.2.2.2.2.2])]) (NZ3 := []) W Aa Aa (Aq (fun h => Au (by kernel_rfl) h) (Aq (fun h => Au (by kernel_rfl) h) AA)) AA ?_
   refine Cs F Aa (BT F Aa Aa Aa Aa Aa) Aa Aa Aa fun a F => ?_
   refine BL (R := []) F Aa Aa (yC fun M Z hN hZ => As F Aa Aa Aa) Aa Aa fun a F => ?_
   refine BL (R := []) F Aa Aa (yC fun M Z hN hZ => Ae F Aa) Aa Aa fun a F => ?_
   iterate 2 refine Cs F Aa (BT F Aa Aa Aa Aa Aa) Aa Aa Aa fun a F => ?_
   refine DR Aa ?_
   refine B8 F Aa Aa Aa Aa Aa Aa Aa fun a F => ?_
   refine BF (N2 := []) (NZ2 := []) (N3 := [(some 43, b1, [.int .i64 p0.1.1, v1, v2, v3, v4, .int .i64 p0.2.2.2.1, .int .i64 p0.2.2.2.2.1, .int .i64 p0.2.2.2.2.2.1, .int .i64 p0.2.2.2.2.2.2.1, .int .i64 p0.2.2.2.2.2.2.2.1, .int .i64 p0.2.2.2.2.2.2.2.2]), (some 43, b2, [.int .i64 p1.1.1, v5, v6, v7, v8, .int .i64 p1.2.2.2.1, .int .i64 p1.2.2.2.2.1, .int .i64 p1.2.2.2.2.2.1, .int .i64 p1.2.2.2.2.2.2.1, .int .i64 p1.2.2.2.2.2.2.2.1, .int .i64 p1.2.2.2.2.2.2.2.2])]) (NZ3 := []) W Aa Aa (Aq (fun h => Au (by kernel_rfl) h) (Aq (fun h => Au (by kernel_rfl) h) AA)) AA ?_
   refine DR Aa ?_
   refine B8 F Aa Aa Aa Aa Aa Aa Aa fun a F => ?_
   refine BF (N2 := []) (NZ2 := []) (N3 := [(some 43, b1, [.int .i64 p0.1.1, v1, v2, v3, v4, .int .i64 p0.2.2.2.1, .int .i64 p0.2.2.2.2.1, .int .i64 p0.2.2.2.2.2.1, .int .i64 p0.2.2.2.2.2.2.1, .int .i64 p0.2.2.2.2.2.2.2.1, .int .i64 p0.2.2.2.2.2.2.2.2]), (some 43, b2, [.int .i64 p1.1.1, v5, v6, v7, v8, .int .i64 p1.2.2.2.1, .int .i64 p1.2.2.2.2.1, .int .i64 p1.2.2.2.2.2.1, .int .i64 p1.2.2.2.2.2.2.1, .int .i64 p1.2.2.2.2.2.2.2.1, .int .i64 p1.2.2.2.2.2.2.2.2])]) (NZ3 := []) W Aa Aa (Aq (fun h => Au (by kernel_rfl) h) (Aq (fun h => Au (by kernel_rfl) h) AA)) AA ?_
   refine DR Aa ?_
   refine B8 F Aa Aa Aa Aa Aa Aa Aa fun a F => ?_
   refine BF (N2 := []) (NZ2 := []) (N3 := [(some 43, b1, [.int .i64 p0.1.1, v1, v2, v3, v4, .int .i64 p0.2.2.2.1, .int .i64 p0.2.2.2.2.1, .int .i64 p0.2.2.2.2.2.1, .int .i64 p0.2.2.2.2.2.2.1, .int .i64 p0.2.2.2.2.2.2.2.1, .int .i64 p0.2.2.2.2.2.2.2.2]), (some 43, b2, [.int .i64 p1.1.1, v5, v6, v7, v8, .int .i64 p1.2.2.2.1, .int .i64 p1.2.2.2.2.1, .int .i64 p1.2.2.2.2.2.1, .int .i64 p1.2.2.2.2.2.2.1, .int .i64 p1.2.2.2.2.2.2.2.1, .int .i64 p1.2.2.2.2.2.2.2.2])]) (NZ3 := []) W Aa Aa (Aq (fun h => Au (by kernel_rfl) h) (Aq (fun h => Au (by kernel_rfl) h) AA)) AA ?_
   refine Cs F Aa (BT F Aa Aa Aa Aa Aa) Aa Aa Aa fun a F => ?_
   refine BL (R := []) F Aa Aa (yC fun M Z hN hZ => As F Aa Aa Aa) Aa Aa fun a F => ?_
   refine Gb (Ad ?_)
   have W := W.frontM (i := 1) Aa Aa
   have W := W.frontM (i := 1) Aa Aa
   exact ⟨_, H, F.re ⟨rfl, Aa, Aa, Aa, trivial⟩, W⟩
  have H := AV (BG hb) H
  rw [hb] at F
  clear hb
  refine DO (R := []) F Aa (Ah F Aa Aa Aa Aa) Aa Aa (yC fun M Z hN hZ => Ai Bw Aa Aa Aa KN F Aa 4 Aa) Aa Aa fun a F => ?_
  refine DO (R := [43]) F Aa (Ah F Aa Aa Aa Aa) Aa Aa (yC fun M Z hN hZ => CY (cs := (B3 p0 v1 v2 v3 v4)) (v := v4) F Aa (hN ((some 43), b1, (B3 p0 v1 v2 v3 v4)) (.head _) Aa) KN Aa) (by kernel_rfl) Aa fun a F => ?_
  refine DO (R := []) F Aa (Ah F Aa Aa Aa Aa) Aa Aa (yC fun M Z hN hZ => Ai Bw Aa Aa Aa KN F Aa 4 Aa) Aa Aa fun a F => ?_
  refine DO (R := [43]) F Aa (Ah F Aa Aa Aa Aa) Aa Aa (yC fun M Z hN hZ => CY (cs := (B3 p1 v5 v6 v7 v8)) (v := v8) F Aa (hN ((some 43), b2, (B3 p1 v5 v6 v7 v8)) (.tail _ (.head _)) Aa) KN Aa) (by kernel_rfl) Aa fun a F => ?_
  refine DR Aa ?_
  refine ES (Ah F Aa Aa Aa Aa) ?_
  obtain ⟨x2, h3, H⟩ := An H
  refine ls F W Aa (Bj (v := Value.bool x2) F Qb Aa (fun w W => Iz any w (v4) (v8) p0.2.2.1 p1.2.2.1 _ h3 (((Ao h_v4) : DK _ _ _ _ _ _) w W).nx (((Ao h_v8) : DK _ _ _ _ _ _) w W).nx)) fun a w F W => ?_
  refine BF (N2 := [(some 48, b1, [.int .i64 p0.1.1, v1, v2, v3, v4, .int .i64 p0.2.2.2.1, .int .i64 p0.2.2.2.2.1, .int .i64 p0.2.2.2.2.2.1, .int .i64 p0.2.2.2.2.2.2.1, .int .i64 p0.2.2.2.2.2.2.2.1, .int .i64 p0.2.2.2.2.2.2.2.2]), (some 50, b2, [.int .i64 p1.1.1, v5, v6, v7, v8, .int .i64 p1.2.2.2.1, .int .i64 p1.2.2.2.2.1, .int .i64 p1.2.2.2.2.2.1, .int .i64 p1.2.2.2.2.2.2.1, .int .i64 p1.2.2.2.2.2.2.2.1, .int .i64 p1.2.2.2.2.2.2.2.2])]) (NZ2 := []) (N3 := [(some 43, b1, [.int .i64 p0.1.1, v1, v2, v3, v4, .int .i64 p0.2.2.2.1, .int .i64 p0.2.2.2.2.1, .int .i64 p0.2.2.2.2.2.1, .int .i64 p0.2.2.2.2.2.2.1, .int .i64 p0.2.2.2.2.2.2.2.1, .int .i64 p0.2.2.2.2.2.2.2.2]), (some 43, b2, [.int .i64 p1.1.1, v5, v6, v7, v8, .int .i64 p1.2.2.2.1, .int .i64 p1.2.2.2.2.1, .int .i64 p1.2.2.2.2.2.1, .int .i64 p1.2.2.2.2.2.2.1, .int .i64 p1.2.2.2.2.2.2.2.1, .int .i64 p1.2.2.2.2.2.2.2.2]), (some 48, b1, [.int .i64 p0.1.1, v1, v2, v3, v4, .int .i64 p0.2.2.2.1, .int .i64 p0.2.2.2.2.1, .int .i64 p0.2.2.2.2.2.1, .int .i64 p0.2.2.2.2.2.2.1, .int .i64 p0.2.2.2.2.2.2.2.1, .int .i64 p0.2.2.2.2.2.2.2.2]), (some 50, b2, [.int .i64 p1.1.1, v5, v6, v7, v8, .int .i64 p1.2.2.2.1, .int .i64 p1.2.2.2.2.1, .int .i64 p1.2.2.2.2.2.1, .int .i64 p1.2.2.2.2.2.2.1, .int .i64 p1.2.2.2.2.2.2.2.1, .int .i64 p1.2.2.2.2.2.2.2.2])]) (NZ3 := []) W Aa Aa (Aq (fun h => Au (by kernel_rfl) h) (Aq (fun h => Au (by kernel_rfl) h) (Aq (fun _ => (.tail _ (.head _))) (Aq (fun _ => (.head _)) AA)))) AA ?_
  refine DO (R := []) F Aa (Ah F Aa Aa Aa Aa) Aa Aa (yC fun M Z hN hZ => GS F Aa) Aa Aa fun a F => ?_
  refine BL (R := []) F Aa Aa (yC fun M Z hN hZ => Al F Aa Aa Aa) Aa Aa fun a F => ?_
  refine BL (R := []) F Aa Aa (yC fun M Z hN hZ => Ae F Aa) Aa Aa fun a F => ?_
  rcases Bool.eq_false_or_eq_true (!x2) with hb | hb
  ·
   have H := AW hb H
   rw [hb] at F
   clear hb
   iterate 2 refine Cs F Aa (BT F Aa Aa Aa Aa Aa) Aa Aa Aa fun a F => ?_
   refine DR Aa ?_
   refine B8 F Aa Aa Aa Aa Aa Aa Aa fun a F => ?_
   refine BF (N2 := []) (NZ2 := []) (N3 := [(some 43, b1, [.int .i64 p0.1.1, v1, v2, v3, v4, .int .i64 p0.2.2.2.1, .int .i64 p0.2.2.2.2.1, .int .i64 p0.2.2.2.2.2.1, .int .i64 p0.2.2.2.2.2.2.1, .int .i64 p0.2.2.2.2.2.2.2.1, .int .i64 p0.2.2.2.2.2.2.2.2]), (some 43, b2, [.int .i64 p1.1.1, v5, v6, v7, v8, .int .i64 p1.2.2.2.1, .int .i64 p1.2.2.2.2.1, .int .i64 p1.2.2.2.2.2.1, .int .i64 p1.2.2.2.2.2.2.1, .int .i64 p1.2.2.2.2.2.2.2.1, .int .i64 p1.2.2.2.2.2.2.2.2]), (some 48, b1, [.int .i64 p0.1.1, v1, v2, v3, v4, .int .i64 p0.2.2.2.1, .int .i64 p0.2.2.2.2.1, .int .i64 p0.2.2.2.2.2.1, .int .i64 p0.2.2.2.2.2.2.1, .int .i64 p0.2.2.2.2.2.2.2.1, .int .i64 p0.2.2.2.2.2.2.2.2]), (some 50, b2, [.int .i64 p1.1.1, v5, v6, v7, v8, .int .i64 p1.2.2.2.1, .int .i64 p1.2.2.2.2.1, .int .i64 p1.2.2.2.2.2.1, .int .i64 p1.2.2.2.2.2.2.1, .int .i64 p1.2.2.2.2.2.2.2.1, .int .i64 p1.2.2.2.2.2.2.2.2])]) (NZ3 := []) W Aa Aa (Aq (fun h => Au (by kernel_rfl) h) (Aq (fun h => Au (by kernel_rfl) h) (Aq (fun h => Au (by kernel_rfl) h) (Aq (fun _ => (.head _)) AA)))) AA ?_
   refine DR Aa ?_
   refine B8 F Aa Aa Aa Aa Aa Aa Aa fun a F => ?_
   refine BF (N2 := []) (NZ2 := []) (N3 := [(some 43, b1, [.int .i64 p0.1.1, v1, v2, v3, v4, .int .i64 p0.2.2.2.1, .int .i64 p0.2.2.2.2.1, .int .i64 p0.2.2.2.2.2.1, .int .i64 p0.2.2.2.2.2.2.1, .int .i64 p0.2.2.2.2.2.2.2.1, .int .i64 p0.2.2.2.2.2.2.2.2]), (some 43, b2, [.int .i64 p1.1.1, v5, v6, v7, v8, .int .i64 p1.2.2.2.1, .int .i64 p1.2.2.2.2.1, .int .i64 p1.2.2.2.2.2.1, .int .i64 p1.2.2.2.2.2.2.1, .int .i64 p1.2.2.2.2.2.2.2.1, .int .i64 p1.2.2.2.2.2.2.2.2]), (some 48, b1, [.int .i64 p0.1.1, v1, v2, v3, v4, .int .i64 p0.2.2.2.1, .int .i64 p0.2.2.2.2.1, .int .i64 p0.2.2.2.2.2.1, .int .i64 p0.2.2.2.2.2.2.1, .int .i64 p0.2.2.2.2.2.2.2.1, .int .i64 p0.2.2.2.2.2.2.2.2]), (some 50, b2, [.int .i64 p1.1.1, v5, v6, v7, v8, .int .i64 p1.2.2.2.1, .int .i64 p1.2.2.2.2.1, .int .i64 p1.2.2.2.2.2.1, .int .i64 p1.2.2.2.2.2.2.1, .int .i64 p1.2.2.2.2.2.2.2.1, .int .i64 p1.2.2.2.2.2.2.2.2])]) (NZ3 := []) W Aa Aa (Aq (fun h => Au (by kernel_rfl) h) (Aq (fun h => Au (by kernel_rfl) h) (Aq (fun h => Au (by kernel_rfl) h) (Aq (fun h => Au (by kernel_rfl) h) AA)))) AA ?_
   refine DR Aa ?_
   refine B8 F Aa Aa Aa Aa Aa Aa Aa fun a F => ?_
   refine BF (N2 := []) (NZ2 := []) (N3 := [(some 43, b1, [.int .i64 p0.1.1, v1, v2, v3, v4, .int .i64 p0.2.2.2.1, .int .i64 p0.2.2.2.2.1, .int .i64 p0.2.2.2.2.2.1, .int .i64 p0.2.2.2.2.2.2.1, .int .i64 p0.2.2.2.2.2.2.2.1, .int .i64 p0.2.2.2.2.2.2.2.2]), (some 43, b2, [.int .i64 p1.1.1, v5, v6, v7, v8, .int .i64 p1.2.2.2.1, .int .i64 p1.2.2.2.2.1, .int .i64 p1.2.2.2.2.2.1, .int .i64 p1.2.2.2.2.2.2.1, .int .i64 p1.2.2.2.2.2.2.2.1, .int .i64 p1.2.2.2.2.2.2.2.2]), (some 48, b1, [.int .i64 p0.1.1, v1, v2, v3, v4, .int .i64 p0.2.2.2.1, .int .i64 p0.2.2.2.2.1, .int .i64 p0.2.2.2.2.2.1, .int .i64 p0.2.2.2.2.2.2.1, .int .i64 p0.2.2.2.2.2.2.2.1, .int .i64 p0.2.2.2.2.2.2.2.2]), (some 50, b2, [.int .i64 p1.1.1, v5, v6, v7, v8, .int .i64 p1.2.2.2.1, .int .i64 p1.2.2.2.2.1, .int .i64 p1.2.2.2.2.2.1, .int .i64 p1.2.2.2.2.2.2.1, .int .i64 p1.2.2.2.2.2.2.2.1, .int .i64 p1.2.2.2.2.2.2.2.2])]) (NZ3 := []) W Aa Aa (Aq (fun h => Au (by kernel_rfl) h) (Aq (fun h => Au (by kernel_rfl) h) (Aq (fun h => Au (by kernel_rfl) h) (Aq (fun h => Au (by kernel_rfl) h) AA)))) AA ?_
   refine Cs F Aa (BT F Aa Aa Aa Aa Aa) Aa Aa Aa fun a F => ?_
   refine BL (R := []) F Aa Aa (yC fun M Z hN hZ => As F Aa Aa Aa) Aa Aa fun a F => ?_
   refine Gb (Ad ?_)
   have W := W.frontM (i := 1) Aa Aa
   have W := W.frontM (i := 1) Aa Aa
   exact ⟨_, H, F.re ⟨rfl, Aa, Aa, Aa, trivial⟩, W⟩
  have H := AV (by rw [hb]; decide) H
  rw [hb] at F
  clear hb
  refine DO (R := [48]) F Aa (Ah F Aa Aa Aa Aa) Aa Aa (yC fun M Z hN hZ => CY (cs := (B3 p0 v1 v2 v3 v4)) (v := Value.agg #[.int .i64 p0.1.1, v1, v2, v3, v4, .int .i64 p0.2.2.2.1, .int .i64 p0.2.2.2.2.1, .int .i64 p0.2.2.2.2.2.1, .int .i64 p0.2.2.2.2.2.2.1, .int .i64 p0.2.2.2.2.2.2.2.1, .int .i64 p0.2.2.2.2.2.2.2.2]) F Aa (hN ((some 48), b1, (B3 p0 v1 v2 v3 v4)) (.tail _ (.tail _ (.head _))) Aa) GI Aa) (by kernel_rfl) Aa fun a F => ?_
  refine DO (R := [50]) F Aa (Ah F Aa Aa Aa Aa) Aa Aa (yC fun M Z hN hZ => CY (cs := (B3 p1 v5 v6 v7 v8)) (v := Value.agg #[.int .i64 p1.1.1, v5, v6, v7, v8, .int .i64 p1.2.2.2.1, .int .i64 p1.2.2.2.2.1, .int .i64 p1.2.2.2.2.2.1, .int .i64 p1.2.2.2.2.2.2.1, .int .i64 p1.2.2.2.2.2.2.2.1, .int .i64 p1.2.2.2.2.2.2.2.2]) F Aa (hN ((some 50), b2, (B3 p1 v5 v6 v7 v8)) (.tail _ (.tail _ (.tail _ (.head _)))) Aa) GI Aa) (by kernel_rfl) Aa fun a F => ?_
  refine DR Aa ?_
  refine ES (Ah F Aa Aa Aa Aa) ?_
  refine AO (Ml := []) (Zl := []) (M := [(b2, (B3 p1 v5 v6 v7 v8)), (b1, (B3 p0 v1 v2 v3 v4))]) (Z := []) (β := Value) (rv := fun x => x) (MM := fun x => []) (ZZ := fun x => [row x 3 (Rp.int .i64) (Dm p0)]) F W P8 Aa Aa (fun hL => Jh _ w (v1) (v2) (v3) (v4) p0 _ Aa ((Ao h_v1) w W).nx ((Ao h_v2) w W).nx ((CO Eo h1 (Ao h_v3)) w W).nx ((Ao h_v4) w W).nx) fun x a w F W => ?_
  obtain ⟨v11, rfl⟩ : ∃ y, y = x := ⟨x, rfl⟩
  have W : Stw ⟨Y, [], w0⟩ [(b2, (B3 p1 v5 v6 v7 v8)), (b1, (B3 p0 v1 v2 v3 v4))] [row v11 3 (Rp.int .i64) (Dm p0)] w := W
  refine BF (N2 := []) (NZ2 := []) (N3 := [(some 43, b1, [.int .i64 p0.1.1, v1, v2, v3, v4, .int .i64 p0.2.2.2.1, .int .i64 p0.2.2.2.2.1, .int .i64 p0.2.2.2.2.2.1, .int .i64 p0.2.2.2.2.2.2.1, .int .i64 p0.2.2.2.2.2.2.2.1, .int .i64 p0.2.2.2.2.2.2.2.2]), (some 43, b2, [.int .i64 p1.1.1, v5, v6, v7, v8, .int .i64 p1.2.2.2.1, .int .i64 p1.2.2.2.2.1, .int .i64 p1.2.2.2.2.2.1, .int .i64 p1.2.2.2.2.2.2.1, .int .i64 p1.2.2.2.2.2.2.2.1, .int .i64 p1.2.2.2.2.2.2.2.2]), (some 48, b1, [.int .i64 p0.1.1, v1, v2, v3, v4, .int .i64 p0.2.2.2.1, .int .i64 p0.2.2.2.2.1, .int .i64 p0.2.2.2.2.2.1, .int .i64 p0.2.2.2.2.2.2.1, .int .i64 p0.2.2.2.2.2.2.2.1, .int .i64 p0.2.2.2.2.2.2.2.2]), (some 50, b2, [.int .i64 p1.1.1, v5, v6, v7, v8, .int .i64 p1.2.2.2.1, .int .i64 p1.2.2.2.2.1, .int .i64 p1.2.2.2.2.2.1, .int .i64 p1.2.2.2.2.2.2.1, .int .i64 p1.2.2.2.2.2.2.2.1, .int .i64 p1.2.2.2.2.2.2.2.2])]) (NZ3 := []) W Aa Aa (Aq (fun h => Au (by kernel_rfl) h) (Aq (fun h => Au (by kernel_rfl) h) (Aq (fun h => Au (by kernel_rfl) h) (Aq (fun _ => (.head _)) AA)))) AA ?_
  refine DR Aa ?_
  refine ES (Ah F Aa Aa Aa Aa) ?_
  refine AO (Ml := []) (Zl := []) (M := [(b2, (B3 p1 v5 v6 v7 v8)), (b1, (B3 p0 v1 v2 v3 v4))]) (Z := [row v11 3 (Rp.int .i64) (Dm p0)]) (β := Value) (rv := fun x => x) (MM := fun x => []) (ZZ := fun x => [row x 3 (Rp.int .i64) (Dm p1)]) F W P8 Aa Aa (fun hL => Jh _ w (v5) (v6) (v7) (v8) p1 _ Aa ((Ao h_v5) w W).nx ((Ao h_v6) w W).nx ((CO Eo h2 (Ao h_v7)) w W).nx ((Ao h_v8) w W).nx) fun x a w F W => ?_
  obtain ⟨v12, rfl⟩ : ∃ y, y = x := ⟨x, rfl⟩
  have W : Stw ⟨Y, [], w0⟩ [(b2, (B3 p1 v5 v6 v7 v8)), (b1, (B3 p0 v1 v2 v3 v4))] [row v12 3 (Rp.int .i64) (Dm p1), row v11 3 (Rp.int .i64) (Dm p0)] w := W
  refine BF (N2 := []) (NZ2 := []) (N3 := [(some 43, b1, [.int .i64 p0.1.1, v1, v2, v3, v4, .int .i64 p0.2.2.2.1, .int .i64 p0.2.2.2.2.1, .int .i64 p0.2.2.2.2.2.1, .int .i64 p0.2.2.2.2.2.2.1, .int .i64 p0.2.2.2.2.2.2.2.1, .int .i64 p0.2.2.2.2.2.2.2.2]), (some 43, b2, [.int .i64 p1.1.1, v5, v6, v7, v8, .int .i64 p1.2.2.2.1, .int .i64 p1.2.2.2.2.1, .int .i64 p1.2.2.2.2.2.1, .int .i64 p1.2.2.2.2.2.2.1, .int .i64 p1.2.2.2.2.2.2.2.1, .int .i64 p1.2.2.2.2.2.2.2.2]), (some 48, b1, [.int .i64 p0.1.1, v1, v2, v3, v4, .int .i64 p0.2.2.2.1, .int .i64 p0.2.2.2.2.1, .int .i64 p0.2.2.2.2.2.1, .int .i64 p0.2.2.2.2.2.2.1, .int .i64 p0.2.2.2.2.2.2.2.1, .int .i64 p0.2.2.2.2.2.2.2.2]), (some 50, b2, [.int .i64 p1.1.1, v5, v6, v7, v8, .int .i64 p1.2.2.2.1, .int .i64 p1.2.2.2.2.1, .int .i64 p1.2.2.2.2.2.1, .int .i64 p1.2.2.2.2.2.2.1, .int .i64 p1.2.2.2.2.2.2.2.1, .int .i64 p1.2.2.2.2.2.2.2.2])]) (NZ3 := []) W Aa Aa (Aq (fun h => Au (by kernel_rfl) h) (Aq (fun h => Au (by kernel_rfl) h) (Aq (fun h => Au (by kernel_rfl) h) (Aq (fun h => Au (by kernel_rfl) h) AA)))) AA ?_
  refine DR Aa ?_
  refine ES (Ah F Aa Aa Aa Aa) ?_
  obtain ⟨x3, h4, H⟩ := An H
  refine ls F W Aa (Bj (v := Value.bool x3) F Qb Aa (fun w W => Iz any w (v11) (v12) (Dm p0) (Dm p1) _ h4 (((A3 1 Aa) : DK _ _ _ _ _ _) w W).nx (((A3 0 Aa) : DK _ _ _ _ _ _) w W).nx)) fun a w F W => ?_
  refine BF (N2 := []) (NZ2 := []) (N3 := [(some 43, b1, [.int .i64 p0.1.1, v1, v2, v3, v4, .int .i64 p0.2.2.2.1, .int .i64 p0.2.2.2.2.1, .int .i64 p0.2.2.2.2.2.1, .int .i64 p0.2.2.2.2.2.2.1, .int .i64 p0.2.2.2.2.2.2.2.1, .int .i64 p0.2.2.2.2.2.2.2.2]), (some 43, b2, [.int .i64 p1.1.1, v5, v6, v7, v8, .int .i64 p1.2.2.2.1, .int .i64 p1.2.2.2.2.1, .int .i64 p1.2.2.2.2.2.1, .int .i64 p1.2.2.2.2.2.2.1, .int .i64 p1.2.2.2.2.2.2.2.1, .int .i64 p1.2.2.2.2.2.2.2.2]), (some 48, b1, [.int .i64 p0.1.1, v1, v2, v3, v4, .int .i64 p0.2.2.2.1, .int .i64 p0.2.2.2.2.1, .int .i64 p0.2.2.2.2.2.1, .int .i64 p0.2.2.2.2.2.2.1, .int .i64 p0.2.2.2.2.2.2.2.1, .int .i64 p0.2.2.2.2.2.2.2.2]), (some 50, b2, [.int .i64 p1.1.1, v5, v6, v7, v8, .int .i64 p1.2.2.2.1, .int .i64 p1.2.2.2.2.1, .int .i64 p1.2.2.2.2.2.1, .int .i64 p1.2.2.2.2.2.2.1, .int .i64 p1.2.2.2.2.2.2.2.1, .int .i64 p1.2.2.2.2.2.2.2.2])]) (NZ3 := []) W Aa Aa (Aq (fun h => Au (by kernel_rfl) h) (Aq (fun h => Au (by kernel_rfl) h) (Aq (fun h => Au (by kernel_rfl) h) (Aq (fun h => Au (by kernel_rfl) h) AA)))) AA ?_
  refine DO (R := []) F Aa (Ah F Aa Aa Aa Aa) Aa Aa (yC fun M Z hN hZ => GS F Aa) Aa Aa fun a F => ?_
  refine BL (R := []) F Aa Aa (yC fun M Z hN hZ => Al F Aa Aa Aa) Aa Aa fun a F => ?_
  refine Gb (Ad ?_)
  have W := W.frontM (i := 1) Aa Aa
  have W := W.frontM (i := 1) Aa Aa
  have W := W.sub (M' := [(b2, (B3 p1 v5 v6 v7 v8)), (b1, (B3 p0 v1 v2 v3 v4))]) (Z' := []) (List.Sublist.refl _) (List.nil_sublist _)
  exact ⟨_, H, F.re ⟨rfl, Aa, Aa, Aa, trivial⟩, W⟩
 rintro a w ⟨x1, hj, F, W⟩
 have hj := Ba hj
 subst hj
 have H := K1
 clear G1 K1
 refine AD F Aa (fun hb => ?_) fun hb => ?_
 ·
  have H := AW hb H
  rw [hb] at F
  clear hb
  refine Ak (Ac ?_)
  refine ls F W Aa (Ag F Aa).q fun a w F W => ?_
  refine Af (Ad (AP (Be ?_)))
  have H := Ba H
  subst H
  refine BM (.inl Aa) F W Aa (AG F Aa) ?_
  exact ⟨rfl, W.done⟩
 have H := AV (by rw [hb]; decide) H
 rw [hb] at F
 clear hb
 refine Aw (Ad ?_)
 obtain ⟨o2, G2, K2, L2⟩ := Ib H
 refine AX (fun a w => some (Sum.inl ()) = some o2 ∧ Fr 123 [] [(2, .pointer (some ⟨b1, 0, none⟩)), (3, .pointer (some ⟨b2, 0, none⟩)), (4, .bool false)] a ∧ Stw ⟨Y, [], w0⟩ [(b2, (B3 p1 v5 v6 v7 v8)), (b1, (B3 p0 v1 v2 v3 v4))] [] w) ?_ ?_
 ·
  have H := G2
  clear G2 K2
  refine Ak (Ac ?_)
  refine ls F W Aa (Ag F Aa).q fun a w F W => ?_
  refine Af (Ad (AC ?_))
  have W := W.frontM (i := 1) Aa Aa
  have W := W.frontM (i := 1) Aa Aa
  refine B9 H (fun s a w => Fr 123 [] [(2, .pointer (some ⟨b1, 0, none⟩)), (3, .pointer (some ⟨b2, 0, none⟩)), (4, .bool false), (5, .int .i64 s)] a ∧ Stw ⟨Y, [], w0⟩ [(b2, (B3 p1 v5 v6 v7 v8)), (b1, (B3 p0 v1 v2 v3 v4))] [] w) ⟨F.re ⟨rfl, Aa, Aa, Aa, trivial⟩, W⟩ fun s o a w H L3 hR => ?_
  obtain ⟨x4, rfl⟩ : ∃ x, x = s := ⟨s, rfl⟩
  obtain ⟨F, W⟩ := hR
  have F : Fr 123 [] [(2, .pointer (some ⟨b1, 0, none⟩)), (3, .pointer (some ⟨b2, 0, none⟩)), (4, .bool false), (5, .int .i64 x4)] a := F
  have W : Stw ⟨Y, [], w0⟩ [(b2, (B3 p1 v5 v6 v7 v8)), (b1, (B3 p0 v1 v2 v3 v4))] [] w := W
  rw [EY] at H
  refine Ak (Ak (Ac ?_))
  refine ls F W Aa (Ae F Aa).q fun a w F W => ?_
  refine ls F W Aa (Ai Bw Aa Aa Aa GE F Aa 0 Aa).q fun a w F W => ?_
  refine ls F W Aa (Ai DE Aa Aa Aa HV F Aa 1 Aa).q fun a w F W => ?_
  refine ls F W Aa (Az (v := v1) 1 F Aa Aa HV Aa).q fun a w F W => ?_
  refine ls F W Aa (B4 (r := Bn) (l := p0.1.2.1) Jt Aa F Aa (Ao h_v1)).q fun a w F W => ?_
  refine ls F W Aa (Dk F Aa Aa).q fun a w F W => ?_
  refine Af (Ad ?_)
  refine AD F Aa (fun hb => ?_) fun hb => ?_
  ·
   have H := AW (BI hb) H
   rw [hb] at F
   clear hb
   refine Aw (Ad (Ak (AC (Ak ?_))))
   refine DH W MO (by kernel_rfl) ?_
   refine qs F Aa (Ai Bw Aa Aa Aa GE F Aa 0 Aa).q fun a F => ?_
   refine qs F Aa (Ai DE Aa Aa Aa HV F Aa 1 Aa).q fun a F => ?_
   refine qs F Aa (Az (v := v1) 1 F Aa Aa HV Aa).q fun a F => ?_
   refine qs F Aa (Ae F Aa).q fun a F => ?_
   obtain ⟨x5, h5, H⟩ := An H
   refine qs F Aa (Bz (r := Bn) OC F Aa Aa (Ao h_v1) h5).q fun a F => ?_
   refine qs F Aa (AH (y := Value.agg #[.int .i64 x5.1, .int .i64 x5.2.1, .int .i64 x5.2.2.1, .int .i64 x5.2.2.2.1, .int .i64 x5.2.2.2.2.1, .int .i64 x5.2.2.2.2.2]) (j := 0) (i := x4) F Aa Aa (Ao h_v1) h5 OL.to Og Aa).q fun a F => ?_
   refine qs F Aa (Ai Bw Aa Aa Aa GE F Aa 0 Aa).q fun a F => ?_
   refine qs F Aa (Ai DE Aa Aa Aa HV F Aa 1 Aa).q fun a F => ?_
   refine qs F Aa (Az (v := v5) 0 F Aa Aa HV Aa).q fun a F => ?_
   refine qs F Aa (Ae F Aa).q fun a F => ?_
   obtain ⟨x6, h6, H⟩ := An H
   refine qs F Aa (Bz (r := Bn) OC F Aa Aa (Ao h_v5) h6).q fun a F => ?_
   refine qs F Aa (AH (y := Value.agg #[.int .i64 x6.1, .int .i64 x6.2.1, .int .i64 x6.2.2.1, .int .i64 x6.2.2.2.1, .int .i64 x6.2.2.2.2.1, .int .i64 x6.2.2.2.2.2]) (j := 0) (i := x4) F Aa Aa (Ao h_v5) h6 OL.to Og Aa).q fun a F => ?_
   refine qs F Aa (Lo (t := decide (x5.1 = x6.1 ∧ x5.2.1 = x6.2.1 ∧ x5.2.2.1 = x6.2.2.1 ∧ x5.2.2.2.1 = x6.2.2.2.1 ∧ x5.2.2.2.2.1 = x6.2.2.2.2.1 ∧ x5.2.2.2.2.2 = x6.2.2.2.2.2)) P5 (Qd _ _ _ _ _ _ _ _ _ _ _ _) F Aa Aa).q fun a F => ?_
   refine DI fun w W => ?_
   refine Ad ?_
   refine AD F Aa (fun hb => ?_) fun hb => ?_
   ·
    have H := AW hb H
    rw [hb] at F
    clear hb
    refine Ak (Ac ?_)
    refine ls F W Aa (Ag F Aa).q fun a w F W => ?_
    refine Af (Ad (AP (Bo ?_)))
    iterate 2 refine Be ?_
    refine Bo (Be ?_)
    have H := L3 _ H
    have H := L2 _ H
    have H := Ba H
    subst H
    refine BM (.inl Aa) F W Aa (AG F Aa) ?_
    exact ⟨rfl, W.done⟩
   have H := AV (by rw [hb]; decide) H
   rw [hb] at F
   clear hb
   refine Aw (Bb (Ad (Ac ?_)))
   refine ls F W Aa (Ae F Aa).q fun a w F W => ?_
   refine ls F W Aa (Dj F Aa Aa Aa).q fun a w F W => ?_
   refine ls F W Aa (Ag F Aa).q fun a w F W => ?_
   refine Af (Ad ?_)
   have W := W.frontM (i := 1) Aa Aa
   have W := W.frontM (i := 1) Aa Aa
   exact ⟨_, H, F.re ⟨rfl, Aa, Aa, Aa, trivial⟩, W⟩
  have H := AV (BG hb) H
  rw [hb] at F
  clear hb
  refine BR ?_
  iterate 2 refine Cr ?_
  refine BQ (Ad ?_)
  have W := W.frontM (i := 1) Aa Aa
  have W := W.frontM (i := 1) Aa Aa
  have H := L3 _ H
  exact ⟨H, F.re ⟨rfl, Aa, Aa, trivial⟩, W⟩
 rintro a w ⟨hj, F, W⟩
 have H := K2 _ hj
 clear hj G2 K2 L2
 obtain ⟨o4, G4, K4, L4⟩ := Ib H
 refine AX (fun a w => some (Sum.inl ()) = some o4 ∧ Fr 123 [] [(2, .pointer (some ⟨b1, 0, none⟩)), (3, .pointer (some ⟨b2, 0, none⟩)), (4, .bool false)] a ∧ Stw ⟨Y, [], w0⟩ [(b2, (B3 p1 v5 v6 v7 v8)), (b1, (B3 p0 v1 v2 v3 v4))] [] w) ?_ ?_
 ·
  have H := G4
  clear G4 K4
  refine Ak (Ac ?_)
  refine ls F W Aa (Ag F Aa).q fun a w F W => ?_
  refine Af (Ad (AC ?_))
  have W := W.frontM (i := 1) Aa Aa
  have W := W.frontM (i := 1) Aa Aa
  refine B9 H (fun s a w => Fr 123 [] [(2, .pointer (some ⟨b1, 0, none⟩)), (3, .pointer (some ⟨b2, 0, none⟩)), (4, .bool false), (6, .int .i64 s)] a ∧ Stw ⟨Y, [], w0⟩ [(b2, (B3 p1 v5 v6 v7 v8)), (b1, (B3 p0 v1 v2 v3 v4))] [] w) ⟨F.re ⟨rfl, Aa, Aa, Aa, trivial⟩, W⟩ fun s o a w H L5 hR => ?_
  obtain ⟨x7, rfl⟩ : ∃ x, x = s := ⟨s, rfl⟩
  obtain ⟨F, W⟩ := hR
  have F : Fr 123 [] [(2, .pointer (some ⟨b1, 0, none⟩)), (3, .pointer (some ⟨b2, 0, none⟩)), (4, .bool false), (6, .int .i64 x7)] a := F
  have W : Stw ⟨Y, [], w0⟩ [(b2, (B3 p1 v5 v6 v7 v8)), (b1, (B3 p0 v1 v2 v3 v4))] [] w := W
  rw [D4] at H
  refine Ak (Ak (Ac ?_))
  refine ls F W Aa (Ae F Aa).q fun a w F W => ?_
  refine ls F W Aa (Ai Bw Aa Aa Aa GE F Aa 0 Aa).q fun a w F W => ?_
  refine ls F W Aa (Ai DE Aa Aa Aa Hu F Aa 2 Aa).q fun a w F W => ?_
  refine ls F W Aa (Az (v := v2) 1 F Aa Aa Hu Aa).q fun a w F W => ?_
  refine ls F W Aa (B4 (r := Br) (l := p0.1.2.2) Jr Aa F Aa (Ao h_v2)).q fun a w F W => ?_
  refine ls F W Aa (Dk F Aa Aa).q fun a w F W => ?_
  refine Af (Ad ?_)
  refine AD F Aa (fun hb => ?_) fun hb => ?_
  ·
   have H := AW (BI hb) H
   rw [hb] at F
   clear hb
   refine Aw (Ad (Ak (AC (Ak ?_))))
   refine DH W MO (by kernel_rfl) ?_
   refine qs F Aa (Ai Bw Aa Aa Aa GE F Aa 0 Aa).q fun a F => ?_
   refine qs F Aa (Ai DE Aa Aa Aa Hu F Aa 2 Aa).q fun a F => ?_
   refine qs F Aa (Az (v := v2) 1 F Aa Aa Hu Aa).q fun a F => ?_
   refine qs F Aa (Ae F Aa).q fun a F => ?_
   obtain ⟨x8, h7, H⟩ := An H
   refine qs F Aa (Bz (r := Br) Oa F Aa Aa (Ao h_v2) h7).q fun a F => ?_
   refine qs F Aa (AH (y := Value.agg #[.int .i64 x8.1, .int .i64 x8.2]) (j := 0) (i := x7) F Aa Aa (Ao h_v2) h7 Ow.to O4 Aa).q fun a F => ?_
   refine qs F Aa (Ai Bw Aa Aa Aa GE F Aa 0 Aa).q fun a F => ?_
   refine qs F Aa (Ai DE Aa Aa Aa Hu F Aa 2 Aa).q fun a F => ?_
   refine qs F Aa (Az (v := v6) 0 F Aa Aa Hu Aa).q fun a F => ?_
   refine qs F Aa (Ae F Aa).q fun a F => ?_
   obtain ⟨x9, h8, H⟩ := An H
   refine qs F Aa (Bz (r := Br) Oa F Aa Aa (Ao h_v6) h8).q fun a F => ?_
   refine qs F Aa (AH (y := Value.agg #[.int .i64 x9.1, .int .i64 x9.2]) (j := 0) (i := x7) F Aa Aa (Ao h_v6) h8 Ow.to O4 Aa).q fun a F => ?_
   refine qs F Aa (Lo (t := decide (x8.1 = x9.1 ∧ x8.2 = x9.2)) Qk (Qg _ _ _ _) F Aa Aa).q fun a F => ?_
   refine DI fun w W => ?_
   refine Ad ?_
   refine AD F Aa (fun hb => ?_) fun hb => ?_
   ·
    have H := AW hb H
    rw [hb] at F
    clear hb
    refine Ak (Ac ?_)
    refine ls F W Aa (Ag F Aa).q fun a w F W => ?_
    refine Af (Ad (AP (Bo ?_)))
    iterate 2 refine Be ?_
    refine Bo (Be ?_)
    have H := L5 _ H
    have H := L4 _ H
    have H := Ba H
    subst H
    refine BM (.inl Aa) F W Aa (AG F Aa) ?_
    exact ⟨rfl, W.done⟩
   have H := AV (by rw [hb]; decide) H
   rw [hb] at F
   clear hb
   refine Aw (Bb (Ad (Ac ?_)))
   refine ls F W Aa (Ae F Aa).q fun a w F W => ?_
   refine ls F W Aa (Dj F Aa Aa Aa).q fun a w F W => ?_
   refine ls F W Aa (Ag F Aa).q fun a w F W => ?_
   refine Af (Ad ?_)
   have W := W.frontM (i := 1) Aa Aa
   have W := W.frontM (i := 1) Aa Aa
   exact ⟨_, H, F.re ⟨rfl, Aa, Aa, Aa, trivial⟩, W⟩
  have H := AV (BG hb) H
  rw [hb] at F
  clear hb
  refine BR ?_
  iterate 2 refine Cr ?_
  refine BQ (Ad ?_)
  have W := W.frontM (i := 1) Aa Aa
  have W := W.frontM (i := 1) Aa Aa
  have H := L5 _ H
  exact ⟨H, F.re ⟨rfl, Aa, Aa, trivial⟩, W⟩
 rintro a w ⟨hj, F, W⟩
 have H := K4 _ hj
 clear hj G4 K4 L4
 obtain ⟨o6, G6, K6, L6⟩ := Ib H
 refine AX (fun a w => some (Sum.inl ()) = some o6 ∧ Fr 123 [] [(4, .bool false)] a ∧ Stw ⟨Y, [], w0⟩ [(b2, (B3 p1 v5 v6 v7 v8)), (b1, (B3 p0 v1 v2 v3 v4))] [] w) ?_ ?_
 ·
  have H := G6
  clear G6 K6
  refine Ak (Ac ?_)
  refine ls F W Aa (Ag F Aa).q fun a w F W => ?_
  refine Af (Ad (AC ?_))
  have W := W.frontM (i := 1) Aa Aa
  have W := W.frontM (i := 1) Aa Aa
  refine B9 H (fun s a w => Fr 123 [] [(2, .pointer (some ⟨b1, 0, none⟩)), (3, .pointer (some ⟨b2, 0, none⟩)), (4, .bool false), (7, .int .i64 s)] a ∧ Stw ⟨Y, [], w0⟩ [(b2, (B3 p1 v5 v6 v7 v8)), (b1, (B3 p0 v1 v2 v3 v4))] [] w) ⟨F.re ⟨rfl, Aa, Aa, Aa, trivial⟩, W⟩ fun s o a w H L7 hR => ?_
  obtain ⟨x10, rfl⟩ : ∃ x, x = s := ⟨s, rfl⟩
  obtain ⟨F, W⟩ := hR
  have F : Fr 123 [] [(2, .pointer (some ⟨b1, 0, none⟩)), (3, .pointer (some ⟨b2, 0, none⟩)), (4, .bool false), (7, .int .i64 x10)] a := F
  have W : Stw ⟨Y, [], w0⟩ [(b2, (B3 p1 v5 v6 v7 v8)), (b1, (B3 p0 v1 v2 v3 v4))] [] w := W
  rw [D5] at H
  refine Ak (Ak (Ac ?_))
  refine ls F W Aa (Ae F Aa).q fun a w F W => ?_
  refine ls F W Aa (Ai Bw Aa Aa Aa HY F Aa 3 Aa).q fun a w F W => ?_
  refine ls F W Aa (Az (v := v3) 1 F Aa Aa HY Aa).q fun a w F W => ?_
  refine ls F W Aa (B4 (r := (Rp.slice (Rp.int .u64))) (l := p0.2.1) Ju Aa F Aa (CO Eo h1 (Ao h_v3))).q fun a w F W => ?_
  refine ls F W Aa (Dk F Aa Aa).q fun a w F W => ?_
  refine Af (Ad ?_)
  refine AD F Aa (fun hb => ?_) fun hb => ?_
  ·
   have H := AW (BI hb) H
   rw [hb] at F
   clear hb
   refine Aw (Ad (Ak (AC (Ak ?_))))
   refine DH W MO (by kernel_rfl) ?_
   refine qs F Aa (Ai Bw Aa Aa Aa HY F Aa 3 Aa).q fun a F => ?_
   refine qs F Aa (Az (v := v3) 1 F Aa Aa HY Aa).q fun a F => ?_
   refine qs F Aa (Ae F Aa).q fun a F => ?_
   obtain ⟨x11, h9, H⟩ := An H
   obtain ⟨v13, h10, h11⟩ := JS h1 h9
   have h12 : HJ v13 = [(v13.1)] := congrArg (fun q : List Int => ([(v13.1)] : List Value)) h11
   refine qs F Aa (Bz (r := (Rp.vsl (Rp.int .u64))) Od F Aa Aa (Ao h_v3) h10).q fun a F => ?_
   refine qs F Aa (AH (y := (v13.1)) (j := 0) (i := x10) (enc := HJ) F Aa Aa (Ao h_v3) h10 Mr O7 (by rw [h12]; rfl)).q fun a F => ?_
   refine qs F Aa (Ai Bw Aa Aa Aa HY F Aa 3 Aa).q fun a F => ?_
   refine qs F Aa (Az (v := v7) 0 F Aa Aa HY Aa).q fun a F => ?_
   refine qs F Aa (Ae F Aa).q fun a F => ?_
   obtain ⟨x12, h13, H⟩ := An H
   obtain ⟨v14, h14, h15⟩ := JS h2 h13
   have h16 : HJ v14 = [(v14.1)] := congrArg (fun q : List Int => ([(v14.1)] : List Value)) h15
   refine qs F Aa (Bz (r := (Rp.vsl (Rp.int .u64))) Od F Aa Aa (Ao h_v7) h14).q fun a F => ?_
   refine qs F Aa (AH (y := (v14.1)) (j := 0) (i := x10) (enc := HJ) F Aa Aa (Ao h_v7) h14 Mr O7 (by rw [h16]; rfl)).q fun a F => ?_
   obtain ⟨x13, h17, H⟩ := An H
   refine qs F Aa (Bj (v := Value.bool x13) F QU Aa (fun w W => KP any w ((v13.1)) ((v14.1)) x11 x12 _ h17 (((Gz (Ao h_v3) h10 Hy.here (congrArg (fun q : List Int => q) h11)) : DK _ _ _ _ _ _) w W).nx (((Gz (Ao h_v7) h14 Hy.here (congrArg (fun q : List Int => q) h15)) : DK _ _ _ _ _ _) w W).nx)) fun a F => ?_
   refine qs F Aa (GS F Aa).q fun a F => ?_
   refine DI fun w W => ?_
   refine Ad ?_
   refine AD F Aa (fun hb => ?_) fun hb => ?_
   ·
    have H := AW hb H
    rw [hb] at F
    clear hb
    refine Ak (Ac ?_)
    refine ls F W Aa (Ag F Aa).q fun a w F W => ?_
    refine Af (Ad (AP (Bo ?_)))
    iterate 2 refine Be ?_
    refine Bo (Be ?_)
    have H := L7 _ H
    have H := L6 _ H
    have H := Ba H
    subst H
    refine BM (.inl Aa) F W Aa (AG F Aa) ?_
    exact ⟨rfl, W.done⟩
   have H := AV (by rw [hb]; decide) H
   rw [hb] at F
   clear hb
   refine Aw (Bb (Ad (Ac ?_)))
   refine ls F W Aa (Ae F Aa).q fun a w F W => ?_
   refine ls F W Aa (Dj F Aa Aa Aa).q fun a w F W => ?_
   refine ls F W Aa (Ag F Aa).q fun a w F W => ?_
   refine Af (Ad ?_)
   have W := W.frontM (i := 1) Aa Aa
   have W := W.frontM (i := 1) Aa Aa
   exact ⟨_, H, F.re ⟨rfl, Aa, Aa, Aa, trivial⟩, W⟩
  have H := AV (BG hb) H
  rw [hb] at F
  clear hb
  refine BR ?_
  iterate 2 refine Cr ?_
  refine BQ (Ad ?_)
  have W := W.frontM (i := 1) Aa Aa
  have W := W.frontM (i := 1) Aa Aa
  have H := L7 _ H
  exact ⟨H, F.re ⟨rfl, trivial⟩, W⟩
 rintro a w ⟨hj, F, W⟩
 have H := K6 _ hj
 clear hj G6 K6 L6
 refine Ak (Ac ?_)
 refine ls F W Aa (Ag F Aa).q fun a w F W => ?_
 refine Af (Ad (AP ?_))
 have H := Ba H
 subst H
 refine BM (.inl Aa) F W Aa (AG F Aa) ?_
 exact ⟨rfl, W.done⟩
theorem Qz : Has Tryd.prog 10 := ⟨fun args w => Am Tryd.func10 rfl (by decide) args w⟩
noncomputable def DU (p0 : (Int × (List (Int × Int × Int × Int × Int × Int)) × (List (Int × Int))) × List (List Int) × List Int × Int × Int × Int × Int × Int × Int) (p1 : List UInt8) : Option Bool := ((FR p0).bind fun x2 => (if (!x2) = true then some true else (FX p0).bind fun x3 => (if (!x3) = true then some true else some (decide (100 < (p1.length : Int)))))).bind fun x1 => (if x1 = true then (Es).bind fun x4 => some x4 else (DC p0).bind fun x5 => (Ca x5).bind fun x6 => (DP x5 p1).bind fun x7 => (DP x7 ([10] : List UInt8)).bind fun x8 => (Ca x8).bind fun x9 => (if (x5.length : Int) = 0 then some false else (EC x5 0 (CD ((x5.length : Int) - 1))).bind fun x10 => (Ca x10).bind fun x11 => (if x6.2.2 = 0 then (Gr p0 x6.1).bind fun x13 => (if x13 = true then (if x9.2.2 = 10 then (if x11.2.2 = 10 then (Es).bind fun x14 => some x14 else some false) else some false) else some false) else some false).bind fun x12 => some x12))
theorem Ic (Y : Nat → Prop) (w0 : World) (v1 : Value) (v2 : Value) (v3 : Value) (v4 : Value) (p0 : (Int × (List (Int × Int × Int × Int × Int × Int)) × (List (Int × Int))) × List (List Int) × List Int × Int × Int × Int × Int × Int × Int) (p1 : List UInt8) (r : Bool) (H : DU p0 p1 = some r) (h_v1 : Sl w0 (NX []) Bn v1 p0.1.2.1) (h_v2 : Sl w0 (NX []) Br v2 p0.1.2.2) (h_v3 : Sl w0 (NX []) (Rp.slice (Rp.int .u64)) v3 p0.2.1) (h_v4 : Sl w0 (NX []) (Rp.int .i64) v4 p0.2.2.1) (hG : Gk [] w0) :
    Calls Tryd.prog 3 #[.agg #[.int .i64 p0.1.1, v1, v2, v3, v4, .int .i64 p0.2.2.2.1, .int .i64 p0.2.2.2.2.1, .int .i64 p0.2.2.2.2.2.1, .int .i64 p0.2.2.2.2.2.2.1, .int .i64 p0.2.2.2.2.2.2.2.1, .int .i64 p0.2.2.2.2.2.2.2.2], .string (bs p1)] w0 fun e w' => e = .returned (.bool r) ∧ Below w0.heap.size w0 w' := by
 refine enter Tryd.func3 Aa Tryd.ntmps3 Aa fun a F => ?_
 have W := Stw.start Y w0
 obtain ⟨v5, h1, h_v3⟩ := h_v3.ex Eo
 unfold DU at H
 refine Ak (Ac ?_)
 refine GU (cs := (B3 p0 v1 v2 v3 v4)) F W Aa Aa Aa fun b1 a w F W => ?_
 refine ls F W Aa (Ag F Aa).q fun a w F W => ?_
 refine Af (Ad (Ak ?_))
 obtain ⟨o1, G1, K1⟩ := An H
 refine AX (fun a w => ∃ x1 : Bool, some (x1) = some o1 ∧ Fr 77 [] [(1, .string (bs p1)), (2, .pointer (some ⟨b1, 0, none⟩)), (4, .bool false), (27, .bool x1)] a ∧ Stw ⟨Y, [], w0⟩ (Cp b1 p0 v1 v2 v3 v4) [] w) ?_ ?_
 ·
  have H := G1
  clear G1 K1
  refine Ac ?_
  refine ls F W Aa (Az (v := Value.agg #[.int .i64 p0.1.1, v1, v2, v3, v4, .int .i64 p0.2.2.2.1, .int .i64 p0.2.2.2.2.1, .int .i64 p0.2.2.2.2.2.1, .int .i64 p0.2.2.2.2.2.2.1, .int .i64 p0.2.2.2.2.2.2.2.1, .int .i64 p0.2.2.2.2.2.2.2.2]) 0 F Aa Aa GI Aa).q fun a w F W => ?_
  obtain ⟨x2, h2, H⟩ := An H
  refine ls F W Aa (Bj (v := Value.bool x2) F H5 Aa (fun w W => Ko any w (v1) (v2) (v3) (v4) p0 _ h2 (((Ao h_v1) : DK _ _ _ _ _ _) w W).nx (((Ao h_v2) : DK _ _ _ _ _ _) w W).nx (((CO Eo h1 (Ao h_v3)) : DK _ _ _ _ _ _) w W).nx (((Ao h_v4) : DK _ _ _ _ _ _) w W).nx)) fun a w F W => ?_
  refine ls F W Aa (GS F Aa).q fun a w F W => ?_
  refine ls F W Aa (Ae F Aa).q fun a w F W => ?_
  rcases Bool.eq_false_or_eq_true (!x2) with hb | hb
  ·
   have H := AW hb H
   rw [hb] at F
   clear hb
   iterate 3 refine B8 F Aa Aa Aa Aa Aa Aa Aa fun a F => ?_
   refine ls F W Aa (As F Aa Aa Aa).q fun a w F W => ?_
   refine ls F W Aa (Ae F Aa).q fun a w F W => ?_
   iterate 3 refine B8 F Aa Aa Aa Aa Aa Aa Aa fun a F => ?_
   refine ls F W Aa (As F Aa Aa Aa).q fun a w F W => ?_
   refine Af (Ad ?_)
   exact ⟨_, H, F.re ⟨rfl, Aa, Aa, Aa, trivial⟩, W⟩
  have H := AV (by rw [hb]; decide) H
  rw [hb] at F
  clear hb
  refine AB F W (Ah F Aa Aa Aa Aa) Aa (Ap Aa) (Az (v := Value.agg #[.int .i64 p0.1.1, v1, v2, v3, v4, .int .i64 p0.2.2.2.1, .int .i64 p0.2.2.2.2.1, .int .i64 p0.2.2.2.2.2.1, .int .i64 p0.2.2.2.2.2.2.1, .int .i64 p0.2.2.2.2.2.2.2.1, .int .i64 p0.2.2.2.2.2.2.2.2]) 0 F Aa Aa GI Aa).q fun a w F W => ?_
  refine ES (Ah F Aa Aa Aa Aa) ?_
  obtain ⟨x3, h3, H⟩ := An H
  refine ls F W Aa (Bj (v := Value.bool x3) F H6 Aa (fun w W => Kr any w (v1) (v2) (v3) (v4) p0 _ h3 (((Ao h_v1) : DK _ _ _ _ _ _) w W).nx (((Ao h_v2) : DK _ _ _ _ _ _) w W).nx (((CO Eo h1 (Ao h_v3)) : DK _ _ _ _ _ _) w W).nx ((Ao h_v4) w W))) fun a w F W => ?_
  refine AB F W (Ah F Aa Aa Aa Aa) Aa (Ap Aa) (GS F Aa).q fun a w F W => ?_
  refine ls F W Aa (Al F Aa Aa Aa).q fun a w F W => ?_
  refine ls F W Aa (Ae F Aa).q fun a w F W => ?_
  rcases Bool.eq_false_or_eq_true (!x3) with hb | hb
  ·
   have H := AW hb H
   rw [hb] at F
   clear hb
   iterate 3 refine B8 F Aa Aa Aa Aa Aa Aa Aa fun a F => ?_
   refine ls F W Aa (As F Aa Aa Aa).q fun a w F W => ?_
   refine Af (Ad ?_)
   exact ⟨_, H, F.re ⟨rfl, Aa, Aa, Aa, trivial⟩, W⟩
  have H := AV (by rw [hb]; decide) H
  rw [hb] at F
  clear hb
  refine AB F W (Ah F Aa Aa Aa Aa) Aa (Ap Aa) (Ae F Aa).q fun a w F W => ?_
  refine AB F W (Ah F Aa Aa Aa Aa) Aa (Ap Aa) (FJ (l := p1) F4 Aa F Aa).q fun a w F W => ?_
  refine AB F W (Ah F Aa Aa Aa Aa) Aa (Ap Aa) (JL F Aa Aa).q fun a w F W => ?_
  refine ls F W Aa (Al F Aa Aa Aa).q fun a w F W => ?_
  refine Af (Ad ?_)
  exact ⟨_, H, F.re ⟨rfl, Aa, Aa, Aa, trivial⟩, W⟩
 rintro a w ⟨x1, hj, F, W⟩
 have hj := Ba hj
 subst hj
 have H := K1
 clear G1 K1
 refine AD F Aa (fun hb => ?_) fun hb => ?_
 ·
  have H := AW hb H
  rw [hb] at F
  clear hb
  refine Ak (Ac ?_)
  obtain ⟨x4, h4, H⟩ := An H
  refine ls F W Aa (Bj (v := Value.bool x4) F H7 Aa (fun w W => HP any w _ h4 (hG.go0 W))) fun a w F W => ?_
  refine ls F W Aa (Ag F Aa).q fun a w F W => ?_
  refine Af (Ad (AP (Be ?_)))
  have H := Ba H
  subst H
  refine BM (.inl Aa) F W Aa (AG F Aa) ?_
  exact ⟨rfl, W.done⟩
 have H := AV (by rw [hb]; decide) H
 rw [hb] at F
 clear hb
 refine Aw (Ad (Ak (Ac ?_)))
 refine ls F W Aa (Az (v := Value.agg #[.int .i64 p0.1.1, v1, v2, v3, v4, .int .i64 p0.2.2.2.1, .int .i64 p0.2.2.2.2.1, .int .i64 p0.2.2.2.2.2.1, .int .i64 p0.2.2.2.2.2.2.1, .int .i64 p0.2.2.2.2.2.2.2.1, .int .i64 p0.2.2.2.2.2.2.2.2]) 0 F Aa Aa GI Aa).q fun a w F W => ?_
 obtain ⟨x5, h5, H⟩ := An H
 refine ls F W Aa (Bj (v := Value.string (bs x5)) F H8 Aa (fun w W => Ho any w (v1) (v2) (v3) (v4) p0 _ h5 (((Ao h_v1) : DK _ _ _ _ _ _) w W).nx (((Ao h_v2) : DK _ _ _ _ _ _) w W).nx (((CO Eo h1 (Ao h_v3)) : DK _ _ _ _ _ _) w W).nx (((Ao h_v4) : DK _ _ _ _ _ _) w W).nx (hG.go0 W))) fun a w F W => ?_
 refine ls F W Aa (Ag F Aa).q fun a w F W => ?_
 refine Af (Ad (Ak (Ac ?_)))
 refine ls F W Aa (Ae F Aa).q fun a w F W => ?_
 obtain ⟨x6, h6, H⟩ := An H
 refine AO (Ml := []) (Zl := []) (M := (Cp b1 p0 v1 v2 v3 v4)) (Z := []) (β := Value × Value × Value × Value) (rv := fun x => .tuple #[.agg #[.int .i64 x6.1.1.1, x.1, x.2.1, x.2.2.1, x.2.2.2, .int .i64 x6.1.2.2.2.1, .int .i64 x6.1.2.2.2.2.1, .int .i64 x6.1.2.2.2.2.2.1, .int .i64 x6.1.2.2.2.2.2.2.1, .int .i64 x6.1.2.2.2.2.2.2.2.1, .int .i64 x6.1.2.2.2.2.2.2.2.2], .int .i64 x6.2.1, .int .i64 x6.2.2]) (MM := fun x => []) (ZZ := fun x => [row x.1 41 Bn x6.1.1.2.1, row x.2.1 43 Br x6.1.1.2.2, row x.2.2.1 39 (Rp.slice (Rp.int .u64)) x6.1.2.1, row x.2.2.2 3 (Rp.int .i64) x6.1.2.2.1]) F W H9 Aa Aa (fun hL => EG _ w x5 _ h6 (hG.go0 W)) fun x a w F W => ?_
 obtain ⟨v6, v7, v8, v9⟩ := x
 have W : Stw ⟨Y, [], w0⟩ (Cp b1 p0 v1 v2 v3 v4) [row v6 41 Bn x6.1.1.2.1, row v7 43 Br x6.1.1.2.2, row v8 39 (Rp.slice (Rp.int .u64)) x6.1.2.1, row v9 3 (Rp.int .i64) x6.1.2.2.1] w := W
 refine ls F W Aa (Ae F Aa).q fun a w F W => ?_
 refine ls F W Aa (AU (v := Value.agg #[.int .i64 x6.1.1.1, v6, v7, v8, v9, .int .i64 x6.1.2.2.2.1, .int .i64 x6.1.2.2.2.2.1, .int .i64 x6.1.2.2.2.2.2.1, .int .i64 x6.1.2.2.2.2.2.2.1, .int .i64 x6.1.2.2.2.2.2.2.2.1, .int .i64 x6.1.2.2.2.2.2.2.2.2]) F Aa Aa).q fun a w F W => ?_
 refine ls F W Aa (AU (v := Value.int .i64 x6.2.1) F Aa Aa).q fun a w F W => ?_
 refine ls F W Aa (AU (v := Value.int .i64 x6.2.2) F Aa Aa).q fun a w F W => ?_
 refine DX (cs := (FQ)) F W Aa O5 Aa fun b2 a w F W => ?_
 refine Co (vs := (Ei x6 v6 v7 v8 v9)) (M' := [(b2, (Ei x6 v6 v7 v8 v9)), (b1, (B3 p0 v1 v2 v3 v4))]) 0 F W Aa Aa Aa GI Aa Aa Aa (Av Aa (Av (W.one (k := 0) Aa) (Av (W.one (k := 1) Aa) (Av (W.one (k := 2) Aa) (Av (W.one (k := 3) Aa) (Av Aa (Av Aa (Av Aa (Av Aa (Av Aa (Av Aa GC))))))))))) Aa fun w W => ?_
 iterate 2 refine ls F W Aa (Ag F Aa).q fun a w F W => ?_
 refine Af (Ad (Ak (Ac ?_)))
 iterate 2 refine ls F W Aa (Ae F Aa).q fun a w F W => ?_
 obtain ⟨x7, h7, H⟩ := An H
 refine ls F W Aa (ID (l := x5) (m := p1) F Aa Aa h7).q fun a w F W => ?_
 obtain ⟨x8, h8, H⟩ := An H
 refine ls F W Aa (ID (l := x7) (m := ([10] : List UInt8)) F Aa Aa h8).q fun a w F W => ?_
 obtain ⟨x9, h9, H⟩ := An H
 refine AO (Ml := []) (Zl := []) (M := [(b2, (Ei x6 v6 v7 v8 v9)), (b1, (B3 p0 v1 v2 v3 v4))]) (Z := [row v6 41 Bn x6.1.1.2.1, row v7 43 Br x6.1.1.2.2, row v8 39 (Rp.slice (Rp.int .u64)) x6.1.2.1, row v9 3 (Rp.int .i64) x6.1.2.2.1]) (β := Value × Value × Value × Value) (rv := fun x => .tuple #[.agg #[.int .i64 x9.1.1.1, x.1, x.2.1, x.2.2.1, x.2.2.2, .int .i64 x9.1.2.2.2.1, .int .i64 x9.1.2.2.2.2.1, .int .i64 x9.1.2.2.2.2.2.1, .int .i64 x9.1.2.2.2.2.2.2.1, .int .i64 x9.1.2.2.2.2.2.2.2.1, .int .i64 x9.1.2.2.2.2.2.2.2.2], .int .i64 x9.2.1, .int .i64 x9.2.2]) (MM := fun x => []) (ZZ := fun x => [row x.1 41 Bn x9.1.1.2.1, row x.2.1 43 Br x9.1.1.2.2, row x.2.2.1 39 (Rp.slice (Rp.int .u64)) x9.1.2.1, row x.2.2.2 3 (Rp.int .i64) x9.1.2.2.1]) F W H9 Aa Aa (fun hL => EG _ w x8 _ h9 (hG.go0 W)) fun x a w F W => ?_
 obtain ⟨v10, v11, v12, v13⟩ := x
 have W : Stw ⟨Y, [], w0⟩ [(b2, (Ei x6 v6 v7 v8 v9)), (b1, (B3 p0 v1 v2 v3 v4))] [row v10 41 Bn x9.1.1.2.1, row v11 43 Br x9.1.1.2.2, row v12 39 (Rp.slice (Rp.int .u64)) x9.1.2.1, row v13 3 (Rp.int .i64) x9.1.2.2.1, row v6 41 Bn x6.1.1.2.1, row v7 43 Br x6.1.1.2.2, row v8 39 (Rp.slice (Rp.int .u64)) x6.1.2.1, row v9 3 (Rp.int .i64) x6.1.2.2.1] w := W
 refine ls F W Aa (Ae F Aa).q fun a w F W => ?_
 refine ls F W Aa (AU (v := Value.agg #[.int .i64 x9.1.1.1, v10, v11, v12, v13, .int .i64 x9.1.2.2.2.1, .int .i64 x9.1.2.2.2.2.1, .int .i64 x9.1.2.2.2.2.2.1, .int .i64 x9.1.2.2.2.2.2.2.1, .int .i64 x9.1.2.2.2.2.2.2.2.1, .int .i64 x9.1.2.2.2.2.2.2.2.2]) F Aa Aa).q fun a w F W => ?_
 refine ls F W Aa (AU (v := Value.int .i64 x9.2.1) F Aa Aa).q fun a w F W => ?_
 refine ls F W Aa (AU (v := Value.int .i64 x9.2.2) F Aa Aa).q fun a w F W => ?_
 refine DX (cs := (FQ)) F W Aa O5 Aa fun b3 a w F W => ?_
 refine Co (vs := (Ei x9 v10 v11 v12 v13)) (M' := [(b3, (Ei x9 v10 v11 v12 v13)), (b2, (Ei x6 v6 v7 v8 v9)), (b1, (B3 p0 v1 v2 v3 v4))]) 0 F W Aa Aa Aa GI Aa Aa Aa (Av Aa (Av (W.one (k := 0) Aa) (Av (W.one (k := 1) Aa) (Av (W.one (k := 2) Aa) (Av (W.one (k := 3) Aa) (Av Aa (Av Aa (Av Aa (Av Aa (Av Aa (Av Aa GC))))))))))) Aa fun w W => ?_
 iterate 2 refine ls F W Aa (Ag F Aa).q fun a w F W => ?_
 refine Af (Ad (Ak (Ak (Ac ?_))))
 refine ls F W Aa (Ae F Aa).q fun a w F W => ?_
 refine ls F W Aa (FJ (l := x5) F4 Aa F Aa).q fun a w F W => ?_
 refine ls F W Aa (CM F Aa Aa).q fun a w F W => ?_
 refine Af (Ad ?_)
 refine AD F Aa (fun hb => ?_) fun hb => ?_
 ·
  have H := AW (BI hb) H
  rw [hb] at F
  clear hb
  refine Ak (Ac ?_)
  refine ls F W Aa (Ag F Aa).q fun a w F W => ?_
  refine Af (Ad (AP (Be ?_)))
  have H := Ba H
  subst H
  refine BM (.inl Aa) F W Aa (AG F Aa) ?_
  exact ⟨rfl, W.done⟩
 have H := AV (BG hb) H
 rw [hb] at F
 clear hb
 refine Aw (Ad (Ak (Ac ?_)))
 iterate 2 refine ls F W Aa (Ae F Aa).q fun a w F W => ?_
 refine ls F W Aa (FJ (l := x5) F4 Aa F Aa).q fun a w F W => ?_
 refine ls F W Aa (FW F Aa Aa Aa).q fun a w F W => ?_
 obtain ⟨x10, h10, H⟩ := An H
 refine ls F W Aa (FP (l := x5) F4 F Aa Aa Aa h10).q fun a w F W => ?_
 obtain ⟨x11, h11, H⟩ := An H
 refine AO (Ml := []) (Zl := []) (M := [(b3, (Ei x9 v10 v11 v12 v13)), (b2, (Ei x6 v6 v7 v8 v9)), (b1, (B3 p0 v1 v2 v3 v4))]) (Z := [row v10 41 Bn x9.1.1.2.1, row v11 43 Br x9.1.1.2.2, row v12 39 (Rp.slice (Rp.int .u64)) x9.1.2.1, row v13 3 (Rp.int .i64) x9.1.2.2.1, row v6 41 Bn x6.1.1.2.1, row v7 43 Br x6.1.1.2.2, row v8 39 (Rp.slice (Rp.int .u64)) x6.1.2.1, row v9 3 (Rp.int .i64) x6.1.2.2.1]) (β := Value × Value × Value × Value) (rv := fun x => .tuple #[.agg #[.int .i64 x11.1.1.1, x.1, x.2.1, x.2.2.1, x.2.2.2, .int .i64 x11.1.2.2.2.1, .int .i64 x11.1.2.2.2.2.1, .int .i64 x11.1.2.2.2.2.2.1, .int .i64 x11.1.2.2.2.2.2.2.1, .int .i64 x11.1.2.2.2.2.2.2.2.1, .int .i64 x11.1.2.2.2.2.2.2.2.2], .int .i64 x11.2.1, .int .i64 x11.2.2]) (MM := fun x => []) (ZZ := fun x => [row x.1 41 Bn x11.1.1.2.1, row x.2.1 43 Br x11.1.1.2.2, row x.2.2.1 39 (Rp.slice (Rp.int .u64)) x11.1.2.1, row x.2.2.2 3 (Rp.int .i64) x11.1.2.2.1]) F W H9 Aa Aa (fun hL => EG _ w x10 _ h11 (hG.go0 W)) fun x a w F W => ?_
 obtain ⟨v14, v15, v16, v17⟩ := x
 have W : Stw ⟨Y, [], w0⟩ [(b3, (Ei x9 v10 v11 v12 v13)), (b2, (Ei x6 v6 v7 v8 v9)), (b1, (B3 p0 v1 v2 v3 v4))] [row v14 41 Bn x11.1.1.2.1, row v15 43 Br x11.1.1.2.2, row v16 39 (Rp.slice (Rp.int .u64)) x11.1.2.1, row v17 3 (Rp.int .i64) x11.1.2.2.1, row v10 41 Bn x9.1.1.2.1, row v11 43 Br x9.1.1.2.2, row v12 39 (Rp.slice (Rp.int .u64)) x9.1.2.1, row v13 3 (Rp.int .i64) x9.1.2.2.1, row v6 41 Bn x6.1.1.2.1, row v7 43 Br x6.1.1.2.2, row v8 39 (Rp.slice (Rp.int .u64)) x6.1.2.1, row v9 3 (Rp.int .i64) x6.1.2.2.1] w := W
 refine ls F W Aa (Ae F Aa).q fun a w F W => ?_
 refine ls F W Aa (AU (v := Value.agg #[.int .i64 x11.1.1.1, v14, v15, v16, v17, .int .i64 x11.1.2.2.2.1, .int .i64 x11.1.2.2.2.2.1, .int .i64 x11.1.2.2.2.2.2.1, .int .i64 x11.1.2.2.2.2.2.2.1, .int .i64 x11.1.2.2.2.2.2.2.2.1, .int .i64 x11.1.2.2.2.2.2.2.2.2]) F Aa Aa).q fun a w F W => ?_
 refine ls F W Aa (AU (v := Value.int .i64 x11.2.1) F Aa Aa).q fun a w F W => ?_
 refine ls F W Aa (AU (v := Value.int .i64 x11.2.2) F Aa Aa).q fun a w F W => ?_
 refine DX (cs := (FQ)) F W Aa O5 Aa fun b4 a w F W => ?_
 refine Co (vs := (Ei x11 v14 v15 v16 v17)) (M' := [(b4, (Ei x11 v14 v15 v16 v17)), (b3, (Ei x9 v10 v11 v12 v13)), (b2, (Ei x6 v6 v7 v8 v9)), (b1, (B3 p0 v1 v2 v3 v4))]) 0 F W Aa Aa Aa GI Aa Aa Aa (Av Aa (Av (W.one (k := 0) Aa) (Av (W.one (k := 1) Aa) (Av (W.one (k := 2) Aa) (Av (W.one (k := 3) Aa) (Av Aa (Av Aa (Av Aa (Av Aa (Av Aa (Av Aa GC))))))))))) Aa fun w W => ?_
 iterate 2 refine ls F W Aa (Ag F Aa).q fun a w F W => ?_
 refine Af (Ad ?_)
 obtain ⟨o2, G2, K2⟩ := An H
 refine AX (fun a w => ∃ x12 : Bool, some (x12) = some o2 ∧ Fr 77 [] [(4, .bool x12)] a ∧ Stw ⟨Y, [], w0⟩ [(b4, (Ei x11 v14 v15 v16 v17)), (b3, (Ei x9 v10 v11 v12 v13)), (b2, (Ei x6 v6 v7 v8 v9)), (b1, (B3 p0 v1 v2 v3 v4))] [row v14 41 Bn x11.1.1.2.1, row v15 43 Br x11.1.1.2.2, row v16 39 (Rp.slice (Rp.int .u64)) x11.1.2.1, row v17 3 (Rp.int .i64) x11.1.2.2.1, row v10 41 Bn x9.1.1.2.1, row v11 43 Br x9.1.1.2.2, row v12 39 (Rp.slice (Rp.int .u64)) x9.1.2.1, row v13 3 (Rp.int .i64) x9.1.2.2.1, row v6 41 Bn x6.1.1.2.1, row v7 43 Br x6.1.1.2.2, row v8 39 (Rp.slice (Rp.int .u64)) x6.1.2.1, row v9 3 (Rp.int .i64) x6.1.2.2.1] w) ?_ ?_
 ·
  have H := G2
  clear G2 K2
  refine Ac ?_
  refine ls F W Aa (Ae F Aa).q fun a w F W => ?_
  refine ls F W Aa (CM F Aa Aa).q fun a w F W => ?_
  refine ls F W Aa (Ae F Aa).q fun a w F W => ?_
  rcases Bool.eq_false_or_eq_true (decide (x6.2.2 = 0)) with hb | hb
  ·
   have H := AW (BI hb) H
   rw [hb] at F
   clear hb
   refine AB F W (Ah F Aa Aa Aa Aa) Aa (Ap Aa) (Az (v := Value.agg #[.int .i64 p0.1.1, v1, v2, v3, v4, .int .i64 p0.2.2.2.1, .int .i64 p0.2.2.2.2.1, .int .i64 p0.2.2.2.2.2.1, .int .i64 p0.2.2.2.2.2.2.1, .int .i64 p0.2.2.2.2.2.2.2.1, .int .i64 p0.2.2.2.2.2.2.2.2]) 3 F Aa Aa GI Aa).q fun a w F W => ?_
   refine AB F W (Ah F Aa Aa Aa Aa) Aa (Ap Aa) (Az (v := Value.agg #[.int .i64 x6.1.1.1, v6, v7, v8, v9, .int .i64 x6.1.2.2.2.1, .int .i64 x6.1.2.2.2.2.1, .int .i64 x6.1.2.2.2.2.2.1, .int .i64 x6.1.2.2.2.2.2.2.1, .int .i64 x6.1.2.2.2.2.2.2.2.1, .int .i64 x6.1.2.2.2.2.2.2.2.2]) 2 F Aa Aa GI Aa).q fun a w F W => ?_
   refine ES (Ah F Aa Aa Aa Aa) ?_
   obtain ⟨x13, h12, H⟩ := An H
   refine ls F W Aa (Bj (v := Value.bool x13) F Qz Aa (fun w W => Lg any w (v1) (v2) (v3) (v4) (v6) (v7) (v8) (v9) p0 x6.1 _ h12 (((Ao h_v1) : DK _ _ _ _ _ _) w W).nx (((Ao h_v2) : DK _ _ _ _ _ _) w W).nx (((CO Eo h1 (Ao h_v3)) : DK _ _ _ _ _ _) w W).nx (((Ao h_v4) : DK _ _ _ _ _ _) w W).nx (((A3 8 Aa) : DK _ _ _ _ _ _) w W).nx (((A3 9 Aa) : DK _ _ _ _ _ _) w W).nx (((A3 10 Aa) : DK _ _ _ _ _ _) w W).nx (((A3 11 Aa) : DK _ _ _ _ _ _) w W).nx)) fun a w F W => ?_
   refine ls F W Aa (As F Aa Aa Aa).q fun a w F W => ?_
   refine ls F W Aa (Ae F Aa).q fun a w F W => ?_
   rcases Bool.eq_false_or_eq_true x13 with hb | hb
   ·
    have H := AW hb H
    rw [hb] at F
    clear hb
    refine AB F W (Ah F Aa Aa Aa Aa) Aa (Ap Aa) (Ae F Aa).q fun a w F W => ?_
    refine AB F W (Ah F Aa Aa Aa Aa) Aa (Ap Aa) (CM F Aa Aa).q fun a w F W => ?_
    refine ls F W Aa (As F Aa Aa Aa).q fun a w F W => ?_
    refine ls F W Aa (Ae F Aa).q fun a w F W => ?_
    rcases Bool.eq_false_or_eq_true (decide (x9.2.2 = 10)) with hb | hb
    ·
     have H := AW (BI hb) H
     rw [hb] at F
     clear hb
     refine AB F W (Ah F Aa Aa Aa Aa) Aa (Ap Aa) (Ae F Aa).q fun a w F W => ?_
     refine AB F W (Ah F Aa Aa Aa Aa) Aa (Ap Aa) (CM F Aa Aa).q fun a w F W => ?_
     refine ls F W Aa (As F Aa Aa Aa).q fun a w F W => ?_
     refine ls F W Aa (Ae F Aa).q fun a w F W => ?_
     rcases Bool.eq_false_or_eq_true (decide (x11.2.2 = 10)) with hb | hb
     ·
      have H := AW (BI hb) H
      rw [hb] at F
      clear hb
      refine ES (Ah F Aa Aa Aa Aa) ?_
      obtain ⟨x14, h13, H⟩ := An H
      refine ls F W Aa (Bj (v := Value.bool x14) F H7 Aa (fun w W => HP any w _ h13 (hG.go0 W))) fun a w F W => ?_
      refine ls F W Aa (As F Aa Aa Aa).q fun a w F W => ?_
      refine ls F W Aa (Ag F Aa).q fun a w F W => ?_
      refine Af (Ad ?_)
      have W := W.frontZ (i := 11) Aa Aa
      have W := W.frontZ (i := 11) Aa Aa
      have W := W.frontZ (i := 11) Aa Aa
      have W := W.frontZ (i := 11) Aa Aa
      have W := W.frontZ (i := 11) Aa Aa
      have W := W.frontZ (i := 11) Aa Aa
      have W := W.frontZ (i := 11) Aa Aa
      have W := W.frontZ (i := 11) Aa Aa
      have W := W.frontZ (i := 11) Aa Aa
      have W := W.frontZ (i := 11) Aa Aa
      have W := W.frontZ (i := 11) Aa Aa
      have W := W.frontZ (i := 11) Aa Aa
      have W := W.frontM (i := 3) Aa Aa
      have W := W.frontM (i := 3) Aa Aa
      have W := W.frontM (i := 3) Aa Aa
      have W := W.frontM (i := 3) Aa Aa
      exact ⟨_, H, F.re ⟨rfl, trivial⟩, W⟩
     have H := AV (BG hb) H
     rw [hb] at F
     clear hb
     refine B8 F Aa Aa Aa Aa Aa Aa Aa fun a F => ?_
     refine ls F W Aa (Al F Aa Aa Aa).q fun a w F W => ?_
     refine ls F W Aa (Ag F Aa).q fun a w F W => ?_
     refine Af (Ad ?_)
     have W := W.frontZ (i := 11) Aa Aa
     have W := W.frontZ (i := 11) Aa Aa
     have W := W.frontZ (i := 11) Aa Aa
     have W := W.frontZ (i := 11) Aa Aa
     have W := W.frontZ (i := 11) Aa Aa
     have W := W.frontZ (i := 11) Aa Aa
     have W := W.frontZ (i := 11) Aa Aa
     have W := W.frontZ (i := 11) Aa Aa
     have W := W.frontZ (i := 11) Aa Aa
     have W := W.frontZ (i := 11) Aa Aa
     have W := W.frontZ (i := 11) Aa Aa
     have W := W.frontZ (i := 11) Aa Aa
     have W := W.frontM (i := 3) Aa Aa
     have W := W.frontM (i := 3) Aa Aa
     have W := W.frontM (i := 3) Aa Aa
     have W := W.frontM (i := 3) Aa Aa
     exact ⟨_, H, F.re ⟨rfl, trivial⟩, W⟩
    have H := AV (BG hb) H
    rw [hb] at F
    clear hb
    iterate 2 refine B8 F Aa Aa Aa Aa Aa Aa Aa fun a F => ?_
    refine ls F W Aa (Al F Aa Aa Aa).q fun a w F W => ?_
    refine ls F W Aa (Ae F Aa).q fun a w F W => ?_
    refine B8 F Aa Aa Aa Aa Aa Aa Aa fun a F => ?_
    refine ls F W Aa (Al F Aa Aa Aa).q fun a w F W => ?_
    refine ls F W Aa (Ag F Aa).q fun a w F W => ?_
    refine Af (Ad ?_)
    have W := W.frontZ (i := 11) Aa Aa
    have W := W.frontZ (i := 11) Aa Aa
    have W := W.frontZ (i := 11) Aa Aa
    have W := W.frontZ (i := 11) Aa Aa
    have W := W.frontZ (i := 11) Aa Aa
    have W := W.frontZ (i := 11) Aa Aa
    have W := W.frontZ (i := 11) Aa Aa
    have W := W.frontZ (i := 11) Aa Aa
    have W := W.frontZ (i := 11) Aa Aa
    have W := W.frontZ (i := 11) Aa Aa
    have W := W.frontZ (i := 11) Aa Aa
    have W := W.frontZ (i := 11) Aa Aa
    have W := W.frontM (i := 3) Aa Aa
    have W := W.frontM (i := 3) Aa Aa
    have W := W.frontM (i := 3) Aa Aa
    have W := W.frontM (i := 3) Aa Aa
    exact ⟨_, H, F.re ⟨rfl, trivial⟩, W⟩
   have H := AV (by rw [hb]; decide) H
   rw [hb] at F
   clear hb
   iterate 2 refine B8 F Aa Aa Aa Aa Aa Aa Aa fun a F => ?_
   refine ls F W Aa (Al F Aa Aa Aa).q fun a w F W => ?_
   refine ls F W Aa (Ae F Aa).q fun a w F W => ?_
   iterate 2 refine B8 F Aa Aa Aa Aa Aa Aa Aa fun a F => ?_
   refine ls F W Aa (Al F Aa Aa Aa).q fun a w F W => ?_
   refine ls F W Aa (Ae F Aa).q fun a w F W => ?_
   refine B8 F Aa Aa Aa Aa Aa Aa Aa fun a F => ?_
   refine ls F W Aa (Al F Aa Aa Aa).q fun a w F W => ?_
   refine ls F W Aa (Ag F Aa).q fun a w F W => ?_
   refine Af (Ad ?_)
   have W := W.frontZ (i := 11) Aa Aa
   have W := W.frontZ (i := 11) Aa Aa
   have W := W.frontZ (i := 11) Aa Aa
   have W := W.frontZ (i := 11) Aa Aa
   have W := W.frontZ (i := 11) Aa Aa
   have W := W.frontZ (i := 11) Aa Aa
   have W := W.frontZ (i := 11) Aa Aa
   have W := W.frontZ (i := 11) Aa Aa
   have W := W.frontZ (i := 11) Aa Aa
   have W := W.frontZ (i := 11) Aa Aa
   have W := W.frontZ (i := 11) Aa Aa
   have W := W.frontZ (i := 11) Aa Aa
   have W := W.frontM (i := 3) Aa Aa
   have W := W.frontM (i := 3) Aa Aa
   have W := W.frontM (i := 3) Aa Aa
   have W := W.frontM (i := 3) Aa Aa
   exact ⟨_, H, F.re ⟨rfl, trivial⟩, W⟩
  have H := AV (BG hb) H
  rw [hb] at F
  clear hb
  iterate 3 refine B8 F Aa Aa Aa Aa Aa Aa Aa fun a F => ?_
  refine ls F W Aa (Al F Aa Aa Aa).q fun a w F W => ?_
  refine ls F W Aa (Ae F Aa).q fun a w F W => ?_
  iterate 2 refine B8 F Aa Aa Aa Aa Aa Aa Aa fun a F => ?_
  refine ls F W Aa (Al F Aa Aa Aa).q fun a w F W => ?_
  refine ls F W Aa (Ae F Aa).q fun a w F W => ?_
  iterate 2 refine B8 F Aa Aa Aa Aa Aa Aa Aa fun a F => ?_
  refine ls F W Aa (Al F Aa Aa Aa).q fun a w F W => ?_
  refine ls F W Aa (Ae F Aa).q fun a w F W => ?_
  refine B8 F Aa Aa Aa Aa Aa Aa Aa fun a F => ?_
  refine ls F W Aa (Al F Aa Aa Aa).q fun a w F W => ?_
  refine ls F W Aa (Ag F Aa).q fun a w F W => ?_
  refine Af (Ad ?_)
  have W := W.frontZ (i := 11) Aa Aa
  have W := W.frontZ (i := 11) Aa Aa
  have W := W.frontZ (i := 11) Aa Aa
  have W := W.frontZ (i := 11) Aa Aa
  have W := W.frontZ (i := 11) Aa Aa
  have W := W.frontZ (i := 11) Aa Aa
  have W := W.frontZ (i := 11) Aa Aa
  have W := W.frontZ (i := 11) Aa Aa
  have W := W.frontZ (i := 11) Aa Aa
  have W := W.frontZ (i := 11) Aa Aa
  have W := W.frontZ (i := 11) Aa Aa
  have W := W.frontZ (i := 11) Aa Aa
  have W := W.frontM (i := 3) Aa Aa
  have W := W.frontM (i := 3) Aa Aa
  have W := W.frontM (i := 3) Aa Aa
  have W := W.frontM (i := 3) Aa Aa
  exact ⟨_, H, F.re ⟨rfl, trivial⟩, W⟩
 rintro a w ⟨x12, hj, F, W⟩
 have hj := Ba hj
 subst hj
 have H := K2
 clear G2 K2
 refine AP ?_
 have H := Ba H
 subst H
 refine BM (.inl Aa) F W Aa (AG F Aa) ?_
 exact ⟨rfl, W.done⟩
end Go.Proofs.YthmkgdnnocemmaaDoor
