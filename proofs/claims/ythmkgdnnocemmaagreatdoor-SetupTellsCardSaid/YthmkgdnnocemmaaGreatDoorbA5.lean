/- The functions of layer 40, GQ. Conditions: none. -/
import Derived.Test.YthmkgdnnocemmaaGreatDoorbA4
namespace Go.Proofs.YthmkgdnnocemmaaGreatDoor
open Go Go.RowKit
set_option linter.unusedVariables false
set_option linter.unusedSimpArgs false
set_option maxRecDepth 20000
theorem SF : Has Tryz.prog 30 := ⟨fun args w => Af Tryz.func30 rfl (by decide) args w⟩
noncomputable def Ez (p0 : (Int × (List (Int × Int × Int × Int × Int × Int)) × (List (Int × Int))) × List (List Int) × List Int × Int × Int × Int × Int × Int × Int) : (List UInt8 × Int) → Option ((List UInt8 × Int) ⊕ (List UInt8))
  | (x3, x4) => (if x4 < (p0.1.2.1.length : Int) then (ix p0.1.2.1 x4).bind fun x5 => (DC ([108, 105, 110, 107] : List UInt8) ([x5.1, x5.2.1, x5.2.2.1, x5.2.2.2.1, x5.2.2.2.2.1, x5.2.2.2.2.2] : List Int)).bind fun x6 => (Dg x3 x6).bind fun x7 => some (.inl (x7, BD (x4 + 1))) else some (.inr x3))
noncomputable def Ev (p0 : (Int × (List (Int × Int × Int × Int × Int × Int)) × (List (Int × Int))) × List (List Int) × List Int × Int × Int × Int × Int × Int × Int) : (List UInt8 × Int) → Option ((List UInt8 × Int) ⊕ (List UInt8))
  | (x9, x10) => (if x10 < (p0.1.2.2.length : Int) then (ix p0.1.2.2 x10).bind fun x11 => (ix p0.1.2.2 x10).bind fun x12 => (DC ([104, 111, 115, 116] : List UInt8) ([x11.1, x12.2] : List Int)).bind fun x13 => (Dg x9 x13).bind fun x14 => some (.inl (x14, BD (x10 + 1))) else some (.inr x9))
noncomputable def Fy (p0 : (Int × (List (Int × Int × Int × Int × Int × Int)) × (List (Int × Int))) × List (List Int) × List Int × Int × Int × Int × Int × Int × Int) (x17 : Int) : (List UInt8 × Int) → Option ((List UInt8 × Int) ⊕ (List UInt8))
  | (x21, x22) => (ix p0.2.1 x17).bind fun x23 => (if x22 < (x23.length : Int) then (Dg x21 ([32] : List UInt8)).bind fun x24 => (ix p0.2.1 x17).bind fun x25 => (ix x25 x22).bind fun x26 => (Gw x26).bind fun x27 => (Dg x24 x27).bind fun x28 => some (.inl (x28, BD (x22 + 1))) else some (.inr x21))
noncomputable def ED (p0 : (Int × (List (Int × Int × Int × Int × Int × Int)) × (List (Int × Int))) × List (List Int) × List Int × Int × Int × Int × Int × Int × Int) : (List UInt8 × Int) → Option ((List UInt8 × Int) ⊕ (List UInt8))
  | (x16, x17) => (if x17 < (p0.2.1.length : Int) then ((Dg x16 ([119, 101, 105, 103, 104, 116, 115] : List UInt8)).bind fun x19 => (Av (Fy p0 x17) (x19, 0)).bind fun x20 => (Dg x20 ([10] : List UInt8)).bind fun x29 => some x29).bind fun x18 => some (.inl (x18, BD (x17 + 1))) else some (.inr x16))
noncomputable def EC (p0 : (Int × (List (Int × Int × Int × Int × Int × Int)) × (List (Int × Int))) × List (List Int) × List Int × Int × Int × Int × Int × Int × Int) : (List UInt8 × Int) → Option ((List UInt8 × Int) ⊕ (List UInt8))
  | (x33, x34) => (if x34 < 6 then (ix (Bm p0) x34).bind fun x35 => (GC x34).bind fun x36 => (DC x36 ([x35] : List Int)).bind fun x37 => (Dg x33 x37).bind fun x38 => some (.inl (x38, BD (x34 + 1))) else some (.inr x33))
noncomputable def Hd (p0 : (Int × (List (Int × Int × Int × Int × Int × Int)) × (List (Int × Int))) × List (List Int) × List Int × Int × Int × Int × Int × Int × Int) : Option (List UInt8) := (DC ([115, 119, 105, 116, 99, 104, 101, 115] : List UInt8) ([p0.1.1] : List Int)).bind fun x1 => (Av (Ez p0) (x1, 0)).bind fun x2 => (Av (Ev p0) (x2, 0)).bind fun x8 => (Av (ED p0) (x8, 0)).bind fun x15 => (DC ([115, 116, 97, 114, 116, 115] : List UInt8) p0.2.2.1).bind fun x30 => (Dg x15 x30).bind fun x31 => (Av (EC p0) (x31, 0)).bind fun x32 => some x32
theorem MG (Y : Nat → Prop) (w0 : World) (v1 : Value) (v2 : Value) (v3 : Value) (v4 : Value) (p0 : (Int × (List (Int × Int × Int × Int × Int × Int)) × (List (Int × Int))) × List (List Int) × List Int × Int × Int × Int × Int × Int × Int) (r : List UInt8) (H : Hd p0 = some r) (h_v1 : Sl w0 (NX []) AV v1 p0.1.2.1) (h_v2 : Sl w0 (NX []) A3 v2 p0.1.2.2) (h_v3 : Sl w0 (NX []) (Rp.slice (Rp.int .u64)) v3 p0.2.1) (h_v4 : Sl w0 (NX []) (Rp.int .i64) v4 p0.2.2.1) :
    Calls Tryz.prog 9 #[.agg #[.int .i64 p0.1.1, v1, v2, v3, v4, .int .i64 p0.2.2.2.1, .int .i64 p0.2.2.2.2.1, .int .i64 p0.2.2.2.2.2.1, .int .i64 p0.2.2.2.2.2.2.1, .int .i64 p0.2.2.2.2.2.2.2.1, .int .i64 p0.2.2.2.2.2.2.2.2]] w0 fun e w' => e = .returned (.string (bs r)) ∧ Below w0.heap.size w0 w' := by
 refine enter Tryz.func9 Aa Tryz.ntmps9 Aa fun a F => ?_
 have W := Stw.start Y w0
 obtain ⟨v5, h1, h_v3⟩ := h_v3.ex D4
 unfold Hd at H
 refine vc tk 2 F W fun a w F W => ?_
 refine GU (cs := (BP p0 v1 v2 v3 v4)) F W Aa Aa Aa fun b1 a w F W => ?_
 refine ls F W Aa (Cc (v := Value.string (bs ([] : List UInt8))) F Aa).q fun a w F W => ?_
 refine GO tk 7 [0] F W (ai fun a w F W => ?_)
 refine CY (z := Value.int .i64 0) (cs := [.int .i64 p0.1.1]) (Rp.int .i64) ([p0.1.1] : List Int) F W Aa Fb Z3 Aa Aa Aa Aa Aa Aa (Fl.int.repL _ _ ([p0.1.1] : List Int)) fun v6 a w F W => ?_
 obtain ⟨x1, h2, H⟩ := Ae H
 refine ls F W Aa (AE (v := Value.string (bs x1)) F Rx Aa (fun w W => E8 any w (v6) ([115, 119, 105, 116, 99, 104, 101, 115] : List UInt8) ([p0.1.1] : List Int) _ h2 (((Ap 0 Aa) : CW _ _ _ _ _ _) w W).nx)) fun a w F W => ?_
 refine vl tk 2 F W fun a w F W => ?_
 refine Ac ?_
 obtain ⟨o1, G1, K1⟩ := Ae H
 refine Aw (fun a w => ∃ x2 : List UInt8, some (x2) = some o1 ∧ Fr 127 [] [(1, .pointer (some ⟨b1, 0, none⟩)), (2, .string (bs ([] : List UInt8))), (3, .string (bs x2))] a ∧ Stw ⟨Y, [], w0⟩ (Cd b1 p0 v1 v2 v3 v4) [] w) ?_ ?_
 ·
  have H := G1
  clear G1 K1
  refine vc tk 6 F W fun a w F W => ?_
  have W := W.sub (M' := (Cd b1 p0 v1 v2 v3 v4)) (Z' := []) (List.Sublist.refl _) (List.nil_sublist _)
  refine Bl H (fun s a w => Fr 127 [] [(1, .pointer (some ⟨b1, 0, none⟩)), (2, .string (bs ([] : List UInt8))), (3, .string (bs s.1)), (4, .int .i64 s.2)] a ∧ Stw ⟨Y, [], w0⟩ (Cd b1 p0 v1 v2 v3 v4) [] w) ⟨F.ra Aa, W⟩ fun s o a w H L2 hR => ?_
  obtain ⟨x3, x4⟩ := s
  obtain ⟨F, W⟩ := hR
  have F : Fr 127 [] [(1, .pointer (some ⟨b1, 0, none⟩)), (2, .string (bs ([] : List UInt8))), (3, .string (bs x3)), (4, .int .i64 x4)] a := F
  have W : Stw ⟨Y, [], w0⟩ (Cd b1 p0 v1 v2 v3 v4) [] w := W
  rw [Ez] at H
  refine Ib tk 7 [0] F W (ai fun a w F W => ?_)
  refine ls F W Aa (BN (r := AV) (l := p0.1.2.1) Kh Aa F Aa (Ah h_v1)).q fun a w F W => ?_
  refine vl tk 2 F W fun a w F W => ?_
  refine Ac ?_
  refine Bq F Aa H (fun F H => ?_) fun F H => ?_
  ·
   refine ON tk 10 [0] F W (ai fun a w F W => ?_)
   obtain ⟨x5, h3, H⟩ := Ae H
   refine ls F W Aa (AR (r := AV) PL F Aa Aa (Ah h_v1) h3).q fun a w F W => ?_
   refine ls F W Aa (An (y := Value.agg #[.int .i64 x5.1, .int .i64 x5.2.1, .int .i64 x5.2.2.1, .int .i64 x5.2.2.2.1, .int .i64 x5.2.2.2.2.1, .int .i64 x5.2.2.2.2.2]) (j := 0) (i := x4) F Aa Aa (Ah h_v1) h3 QN.to QA Aa).q fun a w F W => ?_
   refine DI (cs := (R5)) F W Aa So Aa fun b2 a w F W => ?_
   refine Bg (vs := (Qg x5)) (M' := (P6 b2 x5 b1 p0 v1 v2 v3 v4)) 0 F W Aa Aa Aa QA Aa Aa Aa Aa Aa fun w W => ?_
   refine GO tk 16 [0, 0, 0, 0, 0, 0] F W (ai (ai (ai (ai (ai (ai fun a w F W => ?_))))))
   refine CY (z := Value.int .i64 0) (cs := (Qg x5)) (Rp.int .i64) ([x5.1, x5.2.1, x5.2.2.1, x5.2.2.2.1, x5.2.2.2.2.1, x5.2.2.2.2.2] : List Int) F W Aa Fb Z3 Aa Aa Aa Aa Aa Aa (Fl.int.repL _ _ ([x5.1, x5.2.1, x5.2.2.1, x5.2.2.2.1, x5.2.2.2.2.1, x5.2.2.2.2.2] : List Int)) fun v7 a w F W => ?_
   obtain ⟨x6, h4, H⟩ := Ae H
   refine ls F W Aa (AE (v := Value.string (bs x6)) F Rx Aa (fun w W => E8 any w (v7) ([108, 105, 110, 107] : List UInt8) ([x5.1, x5.2.1, x5.2.2.1, x5.2.2.2.1, x5.2.2.2.2.1, x5.2.2.2.2.2] : List Int) _ h4 (((Ap 0 Aa) : CW _ _ _ _ _ _) w W).nx)) fun a w F W => ?_
   obtain ⟨x7, h5, H⟩ := Ae H
   refine ls F W Aa (DB (l := x3) (m := x6) F Aa Aa h5).q fun a w F W => ?_
   refine vl tk 2 F W fun a w F W => ?_
   refine AB ?_
   refine vn tk 5 F W fun a w F W => ?_
   refine Ac ?_
   have W := W.frontM (i := 1) Aa Aa
   have W := W.sub (M' := (Cd b1 p0 v1 v2 v3 v4)) (Z' := []) (List.Sublist.cons_cons _ (List.nil_sublist _)) (List.nil_sublist _)
   exact ⟨_, H, F.ra Aa, W⟩
  refine A1 ?_
  iterate 2 refine BC ?_
  refine Bb (Ac ?_)
  have H := L2 _ H
  exact ⟨_, H, F.ra Aa, W⟩
 rintro a w ⟨x2, hj, F, W⟩
 have hj := AA hj
 subst hj
 have H := K1
 clear G1 K1
 obtain ⟨o3, G3, K3⟩ := Ae H
 refine Aw (fun a w => ∃ x8 : List UInt8, some (x8) = some o3 ∧ Fr 127 [] [(1, .pointer (some ⟨b1, 0, none⟩)), (2, .string (bs ([] : List UInt8))), (3, .string (bs x8))] a ∧ Stw ⟨Y, [], w0⟩ (Cd b1 p0 v1 v2 v3 v4) [] w) ?_ ?_
 ·
  have H := G3
  clear G3 K3
  refine vc tk 6 F W fun a w F W => ?_
  refine Bl H (fun s a w => Fr 127 [] [(1, .pointer (some ⟨b1, 0, none⟩)), (2, .string (bs ([] : List UInt8))), (3, .string (bs s.1)), (6, .int .i64 s.2)] a ∧ Stw ⟨Y, [], w0⟩ (Cd b1 p0 v1 v2 v3 v4) [] w) ⟨F.ra Aa, W⟩ fun s o a w H L4 hR => ?_
  obtain ⟨x9, x10⟩ := s
  obtain ⟨F, W⟩ := hR
  have F : Fr 127 [] [(1, .pointer (some ⟨b1, 0, none⟩)), (2, .string (bs ([] : List UInt8))), (3, .string (bs x9)), (6, .int .i64 x10)] a := F
  have W : Stw ⟨Y, [], w0⟩ (Cd b1 p0 v1 v2 v3 v4) [] w := W
  rw [Ev] at H
  refine Ib tk 7 [0] F W (ai fun a w F W => ?_)
  refine ls F W Aa (BN (r := A3) (l := p0.1.2.2) Kl Aa F Aa (Ah h_v2)).q fun a w F W => ?_
  refine vl tk 2 F W fun a w F W => ?_
  refine Ac ?_
  refine Bq F Aa H (fun F H => ?_) fun F H => ?_
  ·
   refine Ek tk 4 F W fun a w F W => ?_
   refine PQ 15 [0] [1, 2, 3, 4, 5, 6, 7, 8, 9, 10, 11, 12, 13, 14] (fun ch a d v w h => by cases d <;> exact h) W MO (by kernel_rfl) ?_
   refine hm F Aa Aa Aa fun a F => ?_
   refine QZ ?_
   refine hs F Aa Aa Aa (Aj Dj Aa Aa Aa KB F Aa 0 Aa).q fun a F => ?_
   refine hs F Aa Aa Aa (Aj Gn Aa Aa Aa KM F Aa 2 Aa).q fun a F => ?_
   refine hs F Aa Aa Aa (DP (v := v2) 0 F Aa Aa KM Aa).q fun a F => ?_
   refine hs F Aa Aa Aa (Am F Aa).q fun a F => ?_
   obtain ⟨x11, h6, H⟩ := Ae H
   refine hs F Aa Aa Aa (AR (r := A3) O9 F Aa Aa (Ah h_v2) h6).q fun a F => ?_
   refine hs F Aa Aa Aa (Aj P4 Aa Aa Aa T3 F Aa (HJ v2 + (x10).toNat * 2) Aa).q fun a F => ?_
   refine hs F Aa Aa Aa (An (y := Value.int .i64 x11.1) (j := 0) (i := x10) F Aa Aa (Ah h_v2) h6 PU.to T3 Aa).q fun a F => ?_
   refine hs F Aa Aa Aa (Aj Dj Aa Aa Aa KB F Aa 0 Aa).q fun a F => ?_
   refine hs F Aa Aa Aa (Aj Gn Aa Aa Aa KM F Aa 2 Aa).q fun a F => ?_
   refine hs F Aa Aa Aa (DP (v := v2) 0 F Aa Aa KM Aa).q fun a F => ?_
   refine hs F Aa Aa Aa (Am F Aa).q fun a F => ?_
   obtain ⟨x12, h7, H⟩ := Ae H
   refine hs F Aa Aa Aa (AR (r := A3) O9 F Aa Aa (Ah h_v2) h7).q fun a F => ?_
   refine hs F Aa Aa Aa (Aj P4 Aa Aa Aa T3 F Aa (HJ v2 + (x10).toNat * 2 + 1) Aa).q fun a F => ?_
   refine hs F Aa Aa Aa (An (y := Value.int .i64 x12.2) (j := 1) (i := x10) F Aa Aa (Ah h_v2) h7 PU.to T3 Aa).q fun a F => ?_
   refine RW fun w W => ?_
   have W : Stw ⟨Y, [], w0⟩ (Cd b1 p0 v1 v2 v3 v4) [] w := W
   refine CY (z := Value.int .i64 0) (cs := [.int .i64 x11.1, .int .i64 x12.2]) (Rp.int .i64) ([x11.1, x12.2] : List Int) F W Aa Fb Z3 Aa Aa Aa Aa Aa Aa (Fl.int.repL _ _ ([x11.1, x12.2] : List Int)) fun v8 a w F W => ?_
   obtain ⟨x13, h8, H⟩ := Ae H
   refine ls F W Aa (AE (v := Value.string (bs x13)) F Rx Aa (fun w W => E8 any w (v8) ([104, 111, 115, 116] : List UInt8) ([x11.1, x12.2] : List Int) _ h8 (((Ap 0 Aa) : CW _ _ _ _ _ _) w W).nx)) fun a w F W => ?_
   obtain ⟨x14, h9, H⟩ := Ae H
   refine ls F W Aa (DB (l := x9) (m := x13) F Aa Aa h9).q fun a w F W => ?_
   refine vl tk 2 F W fun a w F W => ?_
   refine AB ?_
   refine vn tk 5 F W fun a w F W => ?_
   refine Ac ?_
   have W := W.sub (M' := (Cd b1 p0 v1 v2 v3 v4)) (Z' := []) (List.Sublist.refl _) (List.nil_sublist _)
   exact ⟨_, H, F.ra Aa, W⟩
  refine A1 ?_
  iterate 2 refine BC ?_
  refine Bb (Ac ?_)
  have H := L4 _ H
  exact ⟨_, H, F.ra Aa, W⟩
 rintro a w ⟨x8, hj, F, W⟩
 have hj := AA hj
 subst hj
 have H := K3
 clear G3 K3
 obtain ⟨o5, G5, K5⟩ := Ae H
 refine Aw (fun a w => ∃ x15 : List UInt8, some (x15) = some o5 ∧ Fr 127 [] [(1, .pointer (some ⟨b1, 0, none⟩)), (2, .string (bs ([] : List UInt8))), (3, .string (bs x15))] a ∧ Stw ⟨Y, [], w0⟩ (Cd b1 p0 v1 v2 v3 v4) [] w) ?_ ?_
 ·
  have H := G5
  clear G5 K5
  refine vc tk 6 F W fun a w F W => ?_
  refine Bl H (fun s a w => Fr 127 [] [(1, .pointer (some ⟨b1, 0, none⟩)), (2, .string (bs ([] : List UInt8))), (3, .string (bs s.1)), (7, .int .i64 s.2)] a ∧ Stw ⟨Y, [], w0⟩ (Cd b1 p0 v1 v2 v3 v4) [] w) ⟨F.ra Aa, W⟩ fun s o a w H L6 hR => ?_
  obtain ⟨x16, x17⟩ := s
  obtain ⟨F, W⟩ := hR
  have F : Fr 127 [] [(1, .pointer (some ⟨b1, 0, none⟩)), (2, .string (bs ([] : List UInt8))), (3, .string (bs x16)), (7, .int .i64 x17)] a := F
  have W : Stw ⟨Y, [], w0⟩ (Cd b1 p0 v1 v2 v3 v4) [] w := W
  rw [ED] at H
  refine Ib tk 6 [0] F W (ai fun a w F W => ?_)
  refine ls F W Aa (BN (r := (Rp.slice (Rp.int .u64))) (l := p0.2.1) JB Aa F Aa (B9 D4 h1 (Ah h_v3))).q fun a w F W => ?_
  refine vl tk 2 F W fun a w F W => ?_
  refine Ac ?_
  refine Bq F Aa H (fun F H => ?_) fun F H => ?_
  ·
   refine Bp (Ac ?_)
   obtain ⟨o7, G7, K7⟩ := Ae H
   refine Aw (fun a w => ∃ x18 : List UInt8, some (x18) = some o7 ∧ Fr 127 [] [(1, .pointer (some ⟨b1, 0, none⟩)), (2, .string (bs ([] : List UInt8))), (3, .string (bs x18)), (7, .int .i64 x17)] a ∧ Stw ⟨Y, [], w0⟩ (Cd b1 p0 v1 v2 v3 v4) [] w) ?_ ?_
   ·
    have H := G7
    clear G7 K7
    refine vc tk 4 F W fun a w F W => ?_
    obtain ⟨x19, h10, H⟩ := Ae H
    refine ls F W Aa (DB (l := x16) (m := ([119, 101, 105, 103, 104, 116, 115] : List UInt8)) F Aa Aa h10).q fun a w F W => ?_
    refine vl tk 2 F W fun a w F W => ?_
    refine Ac ?_
    obtain ⟨o8, G8, K8⟩ := Ae H
    refine Aw (fun a w => ∃ x20 : List UInt8, some (x20) = some o8 ∧ Fr 127 [] [(1, .pointer (some ⟨b1, 0, none⟩)), (2, .string (bs ([] : List UInt8))), (3, .string (bs x20)), (7, .int .i64 x17)] a ∧ Stw ⟨Y, [], w0⟩ (Cd b1 p0 v1 v2 v3 v4) [] w) ?_ ?_
    ·
     have H := G8
     clear G8 K8
     refine vc tk 6 F W fun a w F W => ?_
     refine Bl H (fun s a w => Fr 127 [] [(1, .pointer (some ⟨b1, 0, none⟩)), (2, .string (bs ([] : List UInt8))), (3, .string (bs s.1)), (7, .int .i64 x17), (8, .int .i64 s.2)] a ∧ Stw ⟨Y, [], w0⟩ (Cd b1 p0 v1 v2 v3 v4) [] w) ⟨F.ra Aa, W⟩ fun s o a w H L9 hR => ?_
     obtain ⟨x21, x22⟩ := s
     obtain ⟨F, W⟩ := hR
     have F : Fr 127 [] [(1, .pointer (some ⟨b1, 0, none⟩)), (2, .string (bs ([] : List UInt8))), (3, .string (bs x21)), (7, .int .i64 x17), (8, .int .i64 x22)] a := F
     have W : Stw ⟨Y, [], w0⟩ (Cd b1 p0 v1 v2 v3 v4) [] w := W
     rw [Fy] at H
     refine Ib tk 7 [0] F W (ai fun a w F W => ?_)
     obtain ⟨x23, h11, H⟩ := Ae H
     obtain ⟨v9, h12, h13⟩ := I5 h1 h11
     have h14 : Hw v9 = [(v9.1)] := congrArg (fun q : List Int => ([(v9.1)] : List Value)) h13
     refine ls F W Aa (AR (r := (Rp.vsl (Rp.int .u64))) NW F Aa Aa (Ah h_v3) h12).q fun a w F W => ?_
     refine ls F W Aa (An (y := (v9.1)) (j := 0) (i := x17) (enc := Hw) F Aa Aa (Ah h_v3) h12 LS QL (by rw [h14]; rfl)).q fun a w F W => ?_
     refine ls F W Aa (BN (r := (Rp.int .u64)) (l := x23) Kf Aa F Aa (F4 (Ah h_v3) h12 HL.here (congrArg (fun q : List Int => q) h13))).q fun a w F W => ?_
     refine vl tk 2 F W fun a w F W => ?_
     refine Ac ?_
     refine Bq F Aa H (fun F H => ?_) fun F H => ?_
     ·
      refine Ek tk 6 F W fun a w F W => ?_
      obtain ⟨x24, h15, H⟩ := Ae H
      refine ls F W Aa (DB (l := x21) (m := ([32] : List UInt8)) F Aa Aa h15).q fun a w F W => ?_
      refine LA tk 3 [0] F W (ai fun a w F W => ?_)
      obtain ⟨x25, h16, H⟩ := Ae H
      obtain ⟨v10, h17, h18⟩ := I5 h1 h16
      have h19 : Hw v10 = [(v10.1)] := congrArg (fun q : List Int => ([(v10.1)] : List Value)) h18
      refine ls F W Aa (AR (r := (Rp.vsl (Rp.int .u64))) NW F Aa Aa (Ah h_v3) h17).q fun a w F W => ?_
      refine ls F W Aa (An (y := (v10.1)) (j := 0) (i := x17) (enc := Hw) F Aa Aa (Ah h_v3) h17 LS QL (by rw [h19]; rfl)).q fun a w F W => ?_
      refine ls F W Aa (Am F Aa).q fun a w F W => ?_
      obtain ⟨x26, h20, H⟩ := Ae H
      refine ls F W Aa (AR (r := (Rp.int .u64)) Pn F Aa Aa (F4 (Ah h_v3) h17 HL.here (congrArg (fun q : List Int => q) h18)) h20).q fun a w F W => ?_
      refine ls F W Aa (An (y := Value.int .u64 x26) (j := 0) (i := x22) F Aa Aa (F4 (Ah h_v3) h17 HL.here (congrArg (fun q : List Int => q) h18)) h20 Fl.int.to Rw Aa).q fun a w F W => ?_
      obtain ⟨x27, h21, H⟩ := Ae H
      refine ls F W Aa (AE (v := Value.string (bs x27)) F Te Aa (fun w W => JO any w x26 _ h21)) fun a w F W => ?_
      obtain ⟨x28, h22, H⟩ := Ae H
      refine ls F W Aa (DB (l := x24) (m := x27) F Aa Aa h22).q fun a w F W => ?_
      refine vl tk 2 F W fun a w F W => ?_
      refine AB ?_
      refine vn tk 5 F W fun a w F W => ?_
      refine Ac ?_
      exact ⟨_, H, F.ra Aa, W⟩
     refine A1 ?_
     iterate 2 refine BC ?_
     refine Bb (Ac ?_)
     have H := L9 _ H
     exact ⟨_, H, F.ra Aa, W⟩
    rintro a w ⟨x20, hj, F, W⟩
    have hj := AA hj
    subst hj
    have H := K8
    clear G8 K8
    refine vc tk 2 F W fun a w F W => ?_
    obtain ⟨x29, h23, H⟩ := Ae H
    refine ls F W Aa (DB (l := x20) (m := ([10] : List UInt8)) F Aa Aa h23).q fun a w F W => ?_
    refine vl tk 2 F W fun a w F W => ?_
    refine AB (Ac ?_)
    exact ⟨_, H, F.ra Aa, W⟩
   rintro a w ⟨x18, hj, F, W⟩
   have hj := AA hj
   subst hj
   have H := K7
   clear G7 K7
   refine vc tk 5 F W fun a w F W => ?_
   refine Ac ?_
   exact ⟨_, H, F.ra Aa, W⟩
  refine A1 ?_
  iterate 2 refine BC ?_
  refine Bb (Ac ?_)
  have H := L6 _ H
  exact ⟨_, H, F.ra Aa, W⟩
 rintro a w ⟨x15, hj, F, W⟩
 have hj := AA hj
 subst hj
 have H := K5
 clear G5 K5
 refine Ib tk 5 [0] F W (ai fun a w F W => ?_)
 obtain ⟨x30, h24, H⟩ := Ae H
 refine ls F W Aa (AE (v := Value.string (bs x30)) F Rx Aa (fun w W => E8 any w (v4) ([115, 116, 97, 114, 116, 115] : List UInt8) p0.2.2.1 _ h24 (((Ah h_v4) : CW _ _ _ _ _ _) w W).nx)) fun a w F W => ?_
 obtain ⟨x31, h25, H⟩ := Ae H
 refine ls F W Aa (DB (l := x15) (m := x30) F Aa Aa h25).q fun a w F W => ?_
 refine GO tk 6 [0] F W (ai fun a w F W => ?_)
 refine AC (Ml := []) (Zl := []) (M := (Cd b1 p0 v1 v2 v3 v4)) (Z := []) (β := Value) (rv := fun x => x) (MM := fun x => []) (ZZ := fun x => [row x 3 (Rp.int .i64) (Bm p0)]) F W SF Aa Aa (fun hL => Ia _ w (v1) (v2) (v3) (v4) p0 _ Aa ((Ah h_v1) w W).nx ((Ah h_v2) w W).nx ((B9 D4 h1 (Ah h_v3)) w W).nx ((Ah h_v4) w W).nx) fun x a w F W => ?_
 obtain ⟨v11, rfl⟩ : ∃ y, y = x := ⟨x, rfl⟩
 have W : Stw ⟨Y, [], w0⟩ (Cd b1 p0 v1 v2 v3 v4) [row v11 3 (Rp.int .i64) (Bm p0)] w := W
 refine vl tk 2 F W fun a w F W => ?_
 refine Ac ?_
 obtain ⟨o10, G10, K10⟩ := Ae H
 refine Aw (fun a w => ∃ x32 : List UInt8, some (x32) = some o10 ∧ Fr 127 [] [(2, .string (bs ([] : List UInt8))), (3, .string (bs x32))] a ∧ Stw ⟨Y, [], w0⟩ (Cd b1 p0 v1 v2 v3 v4) [] w) ?_ ?_
 ·
  have H := G10
  clear G10 K10
  refine vc tk 6 F W fun a w F W => ?_
  refine Bl H (fun s a w => Fr 127 [] [(2, .string (bs ([] : List UInt8))), (3, .string (bs s.1)), (9, v11), (10, .int .i64 s.2)] a ∧ Stw ⟨Y, [], w0⟩ (Cd b1 p0 v1 v2 v3 v4) [row v11 3 (Rp.int .i64) (Bm p0)] w) ⟨F.ra Aa, W⟩ fun s o a w H L11 hR => ?_
  obtain ⟨x33, x34⟩ := s
  obtain ⟨F, W⟩ := hR
  have F : Fr 127 [] [(2, .string (bs ([] : List UInt8))), (3, .string (bs x33)), (9, v11), (10, .int .i64 x34)] a := F
  have W : Stw ⟨Y, [], w0⟩ (Cd b1 p0 v1 v2 v3 v4) [row v11 3 (Rp.int .i64) (Bm p0)] w := W
  rw [EC] at H
  refine vc tk 7 F W fun a w F W => ?_
  refine Bq F Aa H (fun F H => ?_) fun F H => ?_
  ·
   refine Ek tk 4 F W fun a w F W => ?_
   obtain ⟨x35, h26, H⟩ := Ae H
   obtain ⟨x36, h27, H⟩ := Ae H
   obtain ⟨x37, h28, H⟩ := Ae H
   obtain ⟨x38, h29, H⟩ := Ae H
   refine PZ (fun a w => ∃ v12 : Value, Fr 127 [] [(2, .string (bs ([] : List UInt8))), (3, .string (bs x38)), (9, v11), (10, .int .i64 x34), (112, .int .i64 x34), (113, .bool true), (116, .string (bs x33)), (117, .int .i64 x34), (118, .string (bs x36)), (119, v11), (120, .int .i64 x34), (121, .pointer (some ⟨IJ v11, HJ v11 + (x34).toNat * 1, none⟩)), (122, .int .i64 x35), (123, v12), (124, .string (bs x37)), (125, .string (bs x38))] a ∧ Stw ⟨Y, [], w0⟩ (Cd b1 p0 v1 v2 v3 v4) [row v12 3 (Rp.int .i64) ([x35] : List Int), row v11 3 (Rp.int .i64) (Bm p0)] w) ?_ ?_
   ·
    refine OO (PT.st 0 (PT.st 1 (PT.st 3 (PT.st 4 (PT.st 5 (PT.st 6 (PT.alt 2 (PT.alt 7 (PT.alt 8 (PT.st 9 (PT.alt 10 PT.done PT.stop)) PT.stop) PT.stop) (PT.alt 7 (PT.alt 2 (PT.alt 8 (PT.st 9 (PT.alt 10 PT.done PT.stop)) PT.stop) PT.stop) PT.stop)))))))) (CN ⟨Y, [], w0⟩ [] [(some 7, row v11 3 (Rp.int .i64) (Bm p0))]) (fun ch a d v w h => by cases d <;> exact h) MO (by kernel_rfl) W (fun w W => ⟨_, _, W, Al, (all_cons (fun _ => (.head _)) Al)⟩) fun w W => ?_
    iterate 4 refine O6 (R := []) F Aa Aa (yC fun M Z hN hZ => Am F Aa) Aa Aa fun a F => ?_
    refine O6 (R := []) F Aa Aa (yC fun M Z hN hZ => Ca (r := (Rp.int .i64)) Fb F Aa Aa (D6 W (Ap 0 Aa)) h26) Aa Aa fun a F => ?_
    refine O6 (R := [7]) F Aa Aa (yC fun M Z hN hZ => An (y := Value.int .i64 x35) (j := 0) (i := x34) F Aa Aa (B8 (hZ ((some 7), row v11 3 (Rp.int .i64) (Bm p0)) (.head _) Aa)) h26 Fl.int.to T3 Aa) (by kernel_rfl) Aa fun a F => ?_
    refine QV Aa ?_ ?_
    ·
     refine ls F W Aa (AE (v := Value.string (bs x36)) F ST Aa (fun w W => H1 any w x34 _ h27)) fun a w F W => ?_
     refine Gi (N2 := []) (NZ2 := []) (N3 := []) (NZ3 := [(some 7, row v11 3 (Rp.int .i64) (Bm p0))]) W Aa Aa Al (all_cons (fun _ => (.head _)) Al) ?_
     refine Ks Aa ?_
     refine CY (z := Value.int .i64 0) (cs := [.int .i64 x35]) (Rp.int .i64) ([x35] : List Int) F W Aa Fb Z3 Aa Aa Aa Aa Aa Aa (Fl.int.repL _ _ ([x35] : List Int)) fun v12 a w F W => ?_
     refine Gi (N2 := []) (NZ2 := []) (N3 := []) (NZ3 := [(some 7, row v11 3 (Rp.int .i64) (Bm p0))]) W Aa Aa Al (all_cons (fun h => Ak (by kernel_rfl) h) Al) ?_
     refine Ks Aa ?_
     refine ls F W Aa (AE (v := Value.string (bs x37)) F Rx Aa (fun w W => E8 any w (v12) x36 ([x35] : List Int) _ h28 (((Ap 0 Aa) : CW _ _ _ _ _ _) w W).nx)) fun a w F W => ?_
     refine Gi (N2 := []) (NZ2 := []) (N3 := []) (NZ3 := [(some 7, row v11 3 (Rp.int .i64) (Bm p0))]) W Aa Aa Al (all_cons (fun h => Ak (by kernel_rfl) h) Al) ?_
     refine O6 (R := []) F Aa Aa (yC fun M Z hN hZ => DB (l := x33) (m := x37) F Aa Aa h29) Aa Aa fun a F => ?_
     refine Ks Aa ?_
     refine ls F W Aa (Cc F Aa).q fun a w F W => ?_
     refine Gi (N2 := []) (NZ2 := []) (N3 := []) (NZ3 := [(some 7, row v11 3 (Rp.int .i64) (Bm p0))]) W Aa Aa Al (all_cons (fun h => Ak (by kernel_rfl) h) Al) ?_
     have W := W.frontZ (i := 1) Aa Aa
     have W := W.frontZ (i := 1) Aa Aa
     refine O0 ?_
     exact ⟨v12, F.ra Aa, W⟩
    refine QV Aa ?_ ?_
    ·
     refine CY (z := Value.int .i64 0) (cs := [.int .i64 x35]) (Rp.int .i64) ([x35] : List Int) F W Aa Fb Z3 Aa Aa Aa Aa Aa Aa (Fl.int.repL _ _ ([x35] : List Int)) fun v12 a w F W => ?_
     refine Gi (N2 := []) (NZ2 := []) (N3 := []) (NZ3 := [(some 7, row v11 3 (Rp.int .i64) (Bm p0))]) W Aa Aa Al (all_cons (fun h => Ak (by kernel_rfl) h) Al) ?_
     refine Ks Aa ?_
     refine ls F W Aa (AE (v := Value.string (bs x36)) F ST Aa (fun w W => H1 any w x34 _ h27)) fun a w F W => ?_
     refine Gi (N2 := []) (NZ2 := []) (N3 := []) (NZ3 := [(some 7, row v11 3 (Rp.int .i64) (Bm p0))]) W Aa Aa Al (all_cons (fun h => Ak (by kernel_rfl) h) Al) ?_
     refine Ks Aa ?_
     refine ls F W Aa (AE (v := Value.string (bs x37)) F Rx Aa (fun w W => E8 any w (v12) x36 ([x35] : List Int) _ h28 (((Ap 0 Aa) : CW _ _ _ _ _ _) w W).nx)) fun a w F W => ?_
     refine Gi (N2 := []) (NZ2 := []) (N3 := []) (NZ3 := [(some 7, row v11 3 (Rp.int .i64) (Bm p0))]) W Aa Aa Al (all_cons (fun h => Ak (by kernel_rfl) h) Al) ?_
     refine O6 (R := []) F Aa Aa (yC fun M Z hN hZ => DB (l := x33) (m := x37) F Aa Aa h29) Aa Aa fun a F => ?_
     refine Ks Aa ?_
     refine ls F W Aa (Cc F Aa).q fun a w F W => ?_
     refine Gi (N2 := []) (NZ2 := []) (N3 := []) (NZ3 := [(some 7, row v11 3 (Rp.int .i64) (Bm p0))]) W Aa Aa Al (all_cons (fun h => Ak (by kernel_rfl) h) Al) ?_
     have W := W.frontZ (i := 1) Aa Aa
     have W := W.frontZ (i := 1) Aa Aa
     refine O0 ?_
     exact ⟨v12, F.ra Aa, W⟩
    exact trivial
   rintro a w ⟨v12, F, W⟩
   refine AB ?_
   refine vn tk 5 F W fun a w F W => ?_
   refine Ac ?_
   have W := W.frontZ (i := 1) Aa Aa
   have W := W.sub (M' := (Cd b1 p0 v1 v2 v3 v4)) (Z' := [row v11 3 (Rp.int .i64) (Bm p0)]) (List.Sublist.refl _) (List.Sublist.cons_cons _ (List.nil_sublist _))
   exact ⟨_, H, F.ra Aa, W⟩
  refine A1 ?_
  iterate 2 refine BC ?_
  refine Bb (Ac ?_)
  have W := W.sub (M' := (Cd b1 p0 v1 v2 v3 v4)) (Z' := []) (List.Sublist.refl _) (List.nil_sublist _)
  have H := L11 _ H
  exact ⟨_, H, F.ra Aa, W⟩
 rintro a w ⟨x32, hj, F, W⟩
 have hj := AA hj
 subst hj
 have H := K10
 clear G10 K10
 refine vc tk 6 F W fun a w F W => ?_
 refine Ax ?_
 have H := AA H
 subst H
 refine BB (.inl Aa) F W Aa (Ao F Aa) ?_
 exact ⟨rfl, W.done⟩
theorem H9 : Has Tryz.prog 9 := ⟨fun args w => Af Tryz.func9 rfl (by decide) args w⟩
noncomputable def FC (p0 : List Int) (p1 : List Int) : Int → Option (Int ⊕ (Unit ⊕ Bool))
  | x1 => (if x1 < (p0.length : Int) then (ix p0 x1).bind fun x2 => (ix p1 x1).bind fun x3 => (if x2 ≠ x3 then some (.inr (.inr false)) else some (.inl (BD (x1 + 1)))) else some (.inr (.inl ())))
noncomputable def Hq (p0 : List Int) (p1 : List Int) : Option Bool := (if (p0.length : Int) ≠ (p1.length : Int) then some false else ES (Av (FC p0 p1) 0) fun _ => some true)
theorem Jz (Y : Nat → Prop) (w0 : World) (v1 : Value) (v2 : Value) (p0 : List Int) (p1 : List Int) (r : Bool) (H : Hq p0 p1 = some r) (h_v1 : Sl w0 (NX []) (Rp.int .i64) v1 p0) (h_v2 : Sl w0 (NX []) (Rp.int .i64) v2 p1) :
    Calls Tryz.prog 36 #[v1, v2] w0 fun e w' => e = .returned (.bool r) ∧ Below w0.heap.size w0 w' := by
 refine enter Tryz.func36 Aa Tryz.ntmps36 Aa fun a F => ?_
 have W := Stw.start Y w0
 unfold Hq at H
 refine vc tk 9 F W fun a w F W => ?_
 refine ls F W Aa (BN (r := (Rp.int .i64)) (l := p0) Jg Aa F Aa (Ah h_v1)).q fun a w F W => ?_
 refine ls F W Aa (Am F Aa).q fun a w F W => ?_
 refine ls F W Aa (BN (r := (Rp.int .i64)) (l := p1) Jg Aa F Aa (Ah h_v2)).q fun a w F W => ?_
 refine vl tk 2 F W fun a w F W => ?_
 refine Ac ?_
 refine Bq F Aa H (fun F H => ?_) fun F H => ?_
 ·
  refine vc tk 5 F W fun a w F W => ?_
  refine Ax (Az ?_)
  have H := AA H
  subst H
  refine BB (.inl Aa) F W Aa (Ao F Aa) ?_
  exact ⟨rfl, W.done⟩
 refine Bp (Ac ?_)
 obtain ⟨o1, G1, K1, L1⟩ := HU H
 refine Aw (fun a w => some (Sum.inl ()) = some o1 ∧ Fr 26 [] [(4, .bool false)] a ∧ Stw ⟨Y, [], w0⟩ [] [] w) ?_ ?_
 ·
  have H := G1
  clear G1 K1
  refine vc tk 6 F W fun a w F W => ?_
  refine Bl H (fun s a w => Fr 26 [] [(0, v1), (1, v2), (4, .bool false), (5, .int .i64 s)] a ∧ Stw ⟨Y, [], w0⟩ [] [] w) ⟨F.ra Aa, W⟩ fun s o a w H L2 hR => ?_
  obtain ⟨x1, rfl⟩ : ∃ x, x = s := ⟨s, rfl⟩
  obtain ⟨F, W⟩ := hR
  have F : Fr 26 [] [(0, v1), (1, v2), (4, .bool false), (5, .int .i64 x1)] a := F
  have W : Stw ⟨Y, [], w0⟩ [] [] w := W
  rw [FC] at H
  refine vc tk 5 F W fun a w F W => ?_
  refine ls F W Aa (BN (r := (Rp.int .i64)) (l := p0) Jg Aa F Aa (Ah h_v1)).q fun a w F W => ?_
  refine vl tk 2 F W fun a w F W => ?_
  refine Ac ?_
  refine Bq F Aa H (fun F H => ?_) fun F H => ?_
  ·
   refine Ek tk 5 F W fun a w F W => ?_
   refine DA W MO (by kernel_rfl) ?_
   iterate 2 refine qs F Aa (Am F Aa).q fun a F => ?_
   obtain ⟨x2, h1, H⟩ := Ae H
   refine qs F Aa (AR (r := (Rp.int .i64)) Fb F Aa Aa (Ah h_v1) h1).q fun a F => ?_
   refine qs F Aa (An (y := Value.int .i64 x2) (j := 0) (i := x1) F Aa Aa (Ah h_v1) h1 Fl.int.to T3 Aa).q fun a F => ?_
   iterate 2 refine qs F Aa (Am F Aa).q fun a F => ?_
   obtain ⟨x3, h2, H⟩ := Ae H
   refine qs F Aa (AR (r := (Rp.int .i64)) Fb F Aa Aa (Ah h_v2) h2).q fun a F => ?_
   refine qs F Aa (An (y := Value.int .i64 x3) (j := 0) (i := x1) F Aa Aa (Ah h_v2) h2 Fl.int.to T3 Aa).q fun a F => ?_
   refine qs F Aa (IA F Aa Aa).q fun a F => ?_
   refine CE fun w W => ?_
   refine Ac ?_
   refine Bq F Aa H (fun F H => ?_) fun F H => ?_
   ·
    refine vc tk 5 F W fun a w F W => ?_
    refine Ax (AU ?_)
    iterate 2 refine Az ?_
    refine AU (Az ?_)
    have H := L2 _ H
    have H := L1 _ H
    have H := AA H
    subst H
    refine BB (.inl Aa) F W Aa (Ao F Aa) ?_
    exact ⟨rfl, W.done⟩
   refine Bp (AB ?_)
   refine vn tk 5 F W fun a w F W => ?_
   refine Ac ?_
   exact ⟨_, H, F.ra Aa, W⟩
  refine A1 ?_
  iterate 2 refine BC ?_
  refine Bb (Ac ?_)
  have H := L2 _ H
  exact ⟨H, F.ra Aa, W⟩
 rintro a w ⟨hj, F, W⟩
 have H := K1 _ hj
 clear hj G1 K1 L1
 refine vc tk 5 F W fun a w F W => ?_
 refine Ax ?_
 have H := AA H
 subst H
 refine BB (.inl Aa) F W Aa (Ao F Aa) ?_
 exact ⟨rfl, W.done⟩
theorem S2 : Has Tryz.prog 36 := ⟨fun args w => Af Tryz.func36 rfl (by decide) args w⟩
noncomputable def Fq (p0 : List Int) (p1 : List Int) : Int → Option (Int ⊕ (Unit ⊕ Bool))
  | x1 => (if x1 < (p0.length : Int) then (ix p0 x1).bind fun x2 => (ix p1 x1).bind fun x3 => (if x2 ≠ x3 then some (.inr (.inr false)) else some (.inl (BD (x1 + 1)))) else some (.inr (.inl ())))
noncomputable def Ii (p0 : List Int) (p1 : List Int) : Option Bool := (if (p0.length : Int) ≠ (p1.length : Int) then some false else ES (Av (Fq p0 p1) 0) fun _ => some true)
theorem MR (Y : Nat → Prop) (w0 : World) (v1 : Value) (v2 : Value) (p0 : List Int) (p1 : List Int) (r : Bool) (H : Ii p0 p1 = some r) (h_v1 : Sl w0 (NX []) (Rp.int .u64) v1 p0) (h_v2 : Sl w0 (NX []) (Rp.int .u64) v2 p1) :
    Calls Tryz.prog 37 #[v1, v2] w0 fun e w' => e = .returned (.bool r) ∧ Below w0.heap.size w0 w' := by
 refine enter Tryz.func37 Aa Tryz.ntmps37 Aa fun a F => ?_
 have W := Stw.start Y w0
 unfold Ii at H
 refine vc tk 9 F W fun a w F W => ?_
 refine ls F W Aa (BN (r := (Rp.int .u64)) (l := p0) Kf Aa F Aa (Ah h_v1)).q fun a w F W => ?_
 refine ls F W Aa (Am F Aa).q fun a w F W => ?_
 refine ls F W Aa (BN (r := (Rp.int .u64)) (l := p1) Kf Aa F Aa (Ah h_v2)).q fun a w F W => ?_
 refine vl tk 2 F W fun a w F W => ?_
 refine Ac ?_
 refine Bq F Aa H (fun F H => ?_) fun F H => ?_
 ·
  refine vc tk 5 F W fun a w F W => ?_
  refine Ax (Az ?_)
  have H := AA H
  subst H
  refine BB (.inl Aa) F W Aa (Ao F Aa) ?_
  exact ⟨rfl, W.done⟩
 refine Bp (Ac ?_)
 obtain ⟨o1, G1, K1, L1⟩ := HU H
 refine Aw (fun a w => some (Sum.inl ()) = some o1 ∧ Fr 26 [] [(4, .bool false)] a ∧ Stw ⟨Y, [], w0⟩ [] [] w) ?_ ?_
 ·
  have H := G1
  clear G1 K1
  refine vc tk 6 F W fun a w F W => ?_
  refine Bl H (fun s a w => Fr 26 [] [(0, v1), (1, v2), (4, .bool false), (5, .int .i64 s)] a ∧ Stw ⟨Y, [], w0⟩ [] [] w) ⟨F.ra Aa, W⟩ fun s o a w H L2 hR => ?_
  obtain ⟨x1, rfl⟩ : ∃ x, x = s := ⟨s, rfl⟩
  obtain ⟨F, W⟩ := hR
  have F : Fr 26 [] [(0, v1), (1, v2), (4, .bool false), (5, .int .i64 x1)] a := F
  have W : Stw ⟨Y, [], w0⟩ [] [] w := W
  rw [Fq] at H
  refine vc tk 5 F W fun a w F W => ?_
  refine ls F W Aa (BN (r := (Rp.int .u64)) (l := p0) Kf Aa F Aa (Ah h_v1)).q fun a w F W => ?_
  refine vl tk 2 F W fun a w F W => ?_
  refine Ac ?_
  refine Bq F Aa H (fun F H => ?_) fun F H => ?_
  ·
   refine Ek tk 5 F W fun a w F W => ?_
   refine DA W MO (by kernel_rfl) ?_
   iterate 2 refine qs F Aa (Am F Aa).q fun a F => ?_
   obtain ⟨x2, h1, H⟩ := Ae H
   refine qs F Aa (AR (r := (Rp.int .u64)) Pn F Aa Aa (Ah h_v1) h1).q fun a F => ?_
   refine qs F Aa (An (y := Value.int .u64 x2) (j := 0) (i := x1) F Aa Aa (Ah h_v1) h1 Fl.int.to Rw Aa).q fun a F => ?_
   iterate 2 refine qs F Aa (Am F Aa).q fun a F => ?_
   obtain ⟨x3, h2, H⟩ := Ae H
   refine qs F Aa (AR (r := (Rp.int .u64)) Pn F Aa Aa (Ah h_v2) h2).q fun a F => ?_
   refine qs F Aa (An (y := Value.int .u64 x3) (j := 0) (i := x1) F Aa Aa (Ah h_v2) h2 Fl.int.to Rw Aa).q fun a F => ?_
   refine qs F Aa (IA F Aa Aa).q fun a F => ?_
   refine CE fun w W => ?_
   refine Ac ?_
   refine Bq F Aa H (fun F H => ?_) fun F H => ?_
   ·
    refine vc tk 5 F W fun a w F W => ?_
    refine Ax (AU ?_)
    iterate 2 refine Az ?_
    refine AU (Az ?_)
    have H := L2 _ H
    have H := L1 _ H
    have H := AA H
    subst H
    refine BB (.inl Aa) F W Aa (Ao F Aa) ?_
    exact ⟨rfl, W.done⟩
   refine Bp (AB ?_)
   refine vn tk 5 F W fun a w F W => ?_
   refine Ac ?_
   exact ⟨_, H, F.ra Aa, W⟩
  refine A1 ?_
  iterate 2 refine BC ?_
  refine Bb (Ac ?_)
  have H := L2 _ H
  exact ⟨H, F.ra Aa, W⟩
 rintro a w ⟨hj, F, W⟩
 have H := K1 _ hj
 clear hj G1 K1 L1
 refine vc tk 5 F W fun a w F W => ?_
 refine Ax ?_
 have H := AA H
 subst H
 refine BB (.inl Aa) F W Aa (Ao F Aa) ?_
 exact ⟨rfl, W.done⟩
theorem TN : Has Tryz.prog 37 := ⟨fun args w => Af Tryz.func37 rfl (by decide) args w⟩
noncomputable def Fk (p0 : (Int × (List (Int × Int × Int × Int × Int × Int)) × (List (Int × Int))) × List (List Int) × List Int × Int × Int × Int × Int × Int × Int) (p1 : (Int × (List (Int × Int × Int × Int × Int × Int)) × (List (Int × Int))) × List (List Int) × List Int × Int × Int × Int × Int × Int × Int) : Int → Option (Int ⊕ (Unit ⊕ Bool))
  | x4 => (if x4 < (p0.1.2.1.length : Int) then (ix p0.1.2.1 x4).bind fun x5 => (ix p1.1.2.1 x4).bind fun x6 => (if (!(decide (x5.1 = x6.1 ∧ x5.2.1 = x6.2.1 ∧ x5.2.2.1 = x6.2.2.1 ∧ x5.2.2.2.1 = x6.2.2.2.1 ∧ x5.2.2.2.2.1 = x6.2.2.2.2.1 ∧ x5.2.2.2.2.2 = x6.2.2.2.2.2))) = true then some (.inr (.inr false)) else some (.inl (BD (x4 + 1)))) else some (.inr (.inl ())))
noncomputable def Fv (p0 : (Int × (List (Int × Int × Int × Int × Int × Int)) × (List (Int × Int))) × List (List Int) × List Int × Int × Int × Int × Int × Int × Int) (p1 : (Int × (List (Int × Int × Int × Int × Int × Int)) × (List (Int × Int))) × List (List Int) × List Int × Int × Int × Int × Int × Int × Int) : Int → Option (Int ⊕ (Unit ⊕ Bool))
  | x7 => (if x7 < (p0.1.2.2.length : Int) then (ix p0.1.2.2 x7).bind fun x8 => (ix p1.1.2.2 x7).bind fun x9 => (if (!(decide (x8.1 = x9.1 ∧ x8.2 = x9.2))) = true then some (.inr (.inr false)) else some (.inl (BD (x7 + 1)))) else some (.inr (.inl ())))
noncomputable def FB (p0 : (Int × (List (Int × Int × Int × Int × Int × Int)) × (List (Int × Int))) × List (List Int) × List Int × Int × Int × Int × Int × Int × Int) (p1 : (Int × (List (Int × Int × Int × Int × Int × Int)) × (List (Int × Int))) × List (List Int) × List Int × Int × Int × Int × Int × Int × Int) : Int → Option (Int ⊕ (Unit ⊕ Bool))
  | x10 => (if x10 < (p0.2.1.length : Int) then (ix p0.2.1 x10).bind fun x11 => (ix p1.2.1 x10).bind fun x12 => (Ii x11 x12).bind fun x13 => (if (!x13) = true then some (.inr (.inr false)) else some (.inl (BD (x10 + 1)))) else some (.inr (.inl ())))
noncomputable def GA (p0 : (Int × (List (Int × Int × Int × Int × Int × Int)) × (List (Int × Int))) × List (List Int) × List Int × Int × Int × Int × Int × Int × Int) (p1 : (Int × (List (Int × Int × Int × Int × Int × Int)) × (List (Int × Int))) × List (List Int) × List Int × Int × Int × Int × Int × Int × Int) : Option Bool := (if p0.1.1 ≠ p1.1.1 then some true else (if (p0.1.2.1.length : Int) ≠ (p1.1.2.1.length : Int) then some true else (if (p0.1.2.2.length : Int) ≠ (p1.1.2.2.length : Int) then some true else (if (p0.2.1.length : Int) ≠ (p1.2.1.length : Int) then some true else (Hq p0.2.2.1 p1.2.2.1).bind fun x2 => (if (!x2) = true then some true else (Hq (Bm p0) (Bm p1)).bind fun x3 => some (!x3)))))).bind fun x1 => (if x1 = true then some false else ES (Av (Fk p0 p1) 0) fun _ => ES (Av (Fv p0 p1) 0) fun _ => ES (Av (FB p0 p1) 0) fun _ => some true)
theorem Jv (Y : Nat → Prop) (w0 : World) (v1 : Value) (v2 : Value) (v3 : Value) (v4 : Value) (v5 : Value) (v6 : Value) (v7 : Value) (v8 : Value) (p0 : (Int × (List (Int × Int × Int × Int × Int × Int)) × (List (Int × Int))) × List (List Int) × List Int × Int × Int × Int × Int × Int × Int) (p1 : (Int × (List (Int × Int × Int × Int × Int × Int)) × (List (Int × Int))) × List (List Int) × List Int × Int × Int × Int × Int × Int × Int) (r : Bool) (H : GA p0 p1 = some r) (h_v1 : Sl w0 (NX []) AV v1 p0.1.2.1) (h_v2 : Sl w0 (NX []) A3 v2 p0.1.2.2) (h_v3 : Sl w0 (NX []) (Rp.slice (Rp.int .u64)) v3 p0.2.1) (h_v4 : Sl w0 (NX []) (Rp.int .i64) v4 p0.2.2.1) (h_v5 : Sl w0 (NX []) AV v5 p1.1.2.1) (h_v6 : Sl w0 (NX []) A3 v6 p1.1.2.2) (h_v7 : Sl w0 (NX []) (Rp.slice (Rp.int .u64)) v7 p1.2.1) (h_v8 : Sl w0 (NX []) (Rp.int .i64) v8 p1.2.2.1) :
    Calls Tryz.prog 11 #[.agg #[.int .i64 p0.1.1, v1, v2, v3, v4, .int .i64 p0.2.2.2.1, .int .i64 p0.2.2.2.2.1, .int .i64 p0.2.2.2.2.2.1, .int .i64 p0.2.2.2.2.2.2.1, .int .i64 p0.2.2.2.2.2.2.2.1, .int .i64 p0.2.2.2.2.2.2.2.2], .agg #[.int .i64 p1.1.1, v5, v6, v7, v8, .int .i64 p1.2.2.2.1, .int .i64 p1.2.2.2.2.1, .int .i64 p1.2.2.2.2.2.1, .int .i64 p1.2.2.2.2.2.2.1, .int .i64 p1.2.2.2.2.2.2.2.1, .int .i64 p1.2.2.2.2.2.2.2.2]] w0 fun e w' => e = .returned (.bool r) ∧ Below w0.heap.size w0 w' := by
 refine enter Tryz.func11 Aa Tryz.ntmps11 Aa fun a F => ?_
 have W := Stw.start Y w0
 obtain ⟨v9, h1, h_v3⟩ := h_v3.ex D4
 obtain ⟨v10, h2, h_v7⟩ := h_v7.ex D4
 unfold GA at H
 refine vc tk 2 F W fun a w F W => ?_
 refine GU (cs := (BP p0 v1 v2 v3 v4)) F W Aa Aa Aa fun b1 a w F W => ?_
 refine GU (cs := (BP p1 v5 v6 v7 v8)) F W Aa Aa Aa fun b2 a w F W => ?_
 refine C5 tk 4 F W fun a w F W => ?_
 obtain ⟨o1, G1, K1⟩ := Ae H
 refine Aw (fun a w => ∃ x1 : Bool, some (x1) = some o1 ∧ Fr 123 [] [(2, .pointer (some ⟨b1, 0, none⟩)), (3, .pointer (some ⟨b2, 0, none⟩)), (4, .bool false), (61, .bool x1)] a ∧ Stw ⟨Y, [], w0⟩ [(b2, (BP p1 v5 v6 v7 v8)), (b1, (BP p0 v1 v2 v3 v4))] [] w) ?_ ?_
 ·
  have H := G1
  clear G1 K1
  refine Ih [(true, 0), (true, 1), (true, 2), (true, 3), (true, 4), (true, 5), (true, 6), (true, 7), (true, 8), (true, 9), (true, 10), (true, 11), (true, 12), (true, 13), (true, 14), (true, 15), (true, 16), (true, 17), (true, 18), (true, 19), (true, 20), (true, 21), (true, 22), (true, 23), (true, 24), (true, 25), (true, 26), (true, 27), (true, 28), (true, 29), (true, 30), (true, 31), (true, 32), (true, 33), (true, 34), (true, 35), (true, 36), (true, 37), (true, 38), (true, 39), (true, 40), (true, 41), (true, 42), (false, 43), (true, 44), (true, 45), (true, 46), (true, 47), (true, 49), (false, 48), (false, 50), (false, 51), (true, 52), (true, 53)] (CN ⟨Y, [], w0⟩ [(some 43, b1, [.int .i64 p0.1.1, v1, v2, v3, v4, .int .i64 p0.2.2.2.1, .int .i64 p0.2.2.2.2.1, .int .i64 p0.2.2.2.2.2.1, .int .i64 p0.2.2.2.2.2.2.1, .int .i64 p0.2.2.2.2.2.2.2.1, .int .i64 p0.2.2.2.2.2.2.2.2]), (some 43, b2, [.int .i64 p1.1.1, v5, v6, v7, v8, .int .i64 p1.2.2.2.1, .int .i64 p1.2.2.2.2.1, .int .i64 p1.2.2.2.2.2.1, .int .i64 p1.2.2.2.2.2.2.1, .int .i64 p1.2.2.2.2.2.2.2.1, .int .i64 p1.2.2.2.2.2.2.2.2])] []) (fun ch a d v w h => by cases d <;> exact h) MO (by kernel_rfl) W (fun w W => ⟨_, _, W, (all_cons (fun _ => (.tail _ (.head _))) (all_cons (fun _ => (.head _)) Al)), Al⟩) fun w W => ?_
  refine AL (R := []) F Aa Aa (yC fun M Z hN hZ => Aj Dj Aa Aa Aa KB F Aa 0 Aa) Aa Aa fun a F => ?_
  refine AL (R := []) F Aa Aa (yC fun M Z hN hZ => Aj Gn Aa Aa Aa T3 F Aa 0 Aa) Aa Aa fun a F => ?_
  refine AL (R := [43, 38, 29, 18, 7, 6]) F Aa Aa (yC fun M Z hN hZ => CP (cs := (BP p0 v1 v2 v3 v4)) (v := Value.int .i64 p0.1.1) F Aa (hN ((some 43), b1, (BP p0 v1 v2 v3 v4)) (.head _) Aa) T3 Aa) (by kernel_rfl) Aa fun a F => ?_
  refine AL (R := []) F Aa Aa (yC fun M Z hN hZ => Aj Dj Aa Aa Aa KB F Aa 0 Aa) Aa Aa fun a F => ?_
  refine AL (R := []) F Aa Aa (yC fun M Z hN hZ => Aj Gn Aa Aa Aa T3 F Aa 0 Aa) Aa Aa fun a F => ?_
  refine AL (R := [43, 38, 29, 18, 7, 6]) F Aa Aa (yC fun M Z hN hZ => CP (cs := (BP p1 v5 v6 v7 v8)) (v := Value.int .i64 p1.1.1) F Aa (hN ((some 43), b2, (BP p1 v5 v6 v7 v8)) (.tail _ (.head _)) Aa) T3 Aa) (by kernel_rfl) Aa fun a F => ?_
  refine AL (R := []) F Aa Aa (yC fun M Z hN hZ => IA F Aa Aa) Aa Aa fun a F => ?_
  refine AL (R := []) F Aa Aa (yC fun M Z hN hZ => Am F Aa) Aa Aa fun a F => ?_
  rcases Bool.eq_false_or_eq_true (decide (p0.1.1 ≠ p1.1.1)) with hb | hb
  ·
   have H := Cu (Dc hb) H
   rw [hb] at F
   clear hb
   iterate 9 refine Cv F Aa (AZ F Aa Aa Aa Aa Aa) Aa Aa Aa fun a F => ?_
   refine AL (R := []) F Aa Aa (yC fun M Z hN hZ => Cn F Aa Aa Aa) Aa Aa fun a F => ?_
   refine AL (R := []) F Aa Aa (yC fun M Z hN hZ => Am F Aa) Aa Aa fun a F => ?_
   iterate 9 refine Cv F Aa (AZ F Aa Aa Aa Aa Aa) Aa Aa Aa fun a F => ?_
   refine AL (R := []) F Aa Aa (yC fun M Z hN hZ => Cn F Aa Aa Aa) Aa Aa fun a F => ?_
   refine AL (R := []) F Aa Aa (yC fun M Z hN hZ => Am F Aa) Aa Aa fun a F => ?_
   iterate 7 refine Cv F Aa (AZ F Aa Aa Aa Aa Aa) Aa Aa Aa fun a F => ?_
   refine AL (R := []) F Aa Aa (yC fun M Z hN hZ => Cn F Aa Aa Aa) Aa Aa fun a F => ?_
   refine AL (R := []) F Aa Aa (yC fun M Z hN hZ => Am F Aa) Aa Aa fun a F => ?_
   iterate 4 refine Cv F Aa (AZ F Aa Aa Aa Aa Aa) Aa Aa Aa fun a F => ?_
   refine Df Aa ?_
   refine KZ F Aa Aa Aa Aa Aa Aa Aa fun a F => ?_
   refine Bf (N2 := []) (NZ2 := []) (N3 := [(some 43, b1, [.int .i64 p0.1.1, v1, v2, v3, v4, .int .i64 p0.2.2.2.1, .int .i64 p0.2.2.2.2.1, .int .i64 p0.2.2.2.2.2.1, .int .i64 p0.2.2.2.2.2.2.1, .int .i64 p0.2.2.2.2.2.2.2.1, .int .i64 p0.2.2.2.2.2.2.2.2]), (some 43, b2, [.int .i64 p1.1.1, v5, v6, v7, v8, .int .i64 p1.2.2.2.1, .int .i64 p1.2.2.2.2.1, .int .i64 p1.2.2.2.2.2.1, .int .i64 p1.2.2.2.2.2.2.1, .int .i64 p1.2.2.2.2.2.2.2.1, .int .i64 p1.2.2.2.2.2.2.2.2])]) (NZ3 := []) W Aa Aa (all_cons (fun h => Ak (by kernel_rfl) h) (all_cons (fun h => Ak (by kernel_rfl) h) Al)) Al ?_
   refine Cv F Aa (AZ F Aa Aa Aa Aa Aa) Aa Aa Aa fun a F => ?_
   refine AL (R := []) F Aa Aa (yC fun M Z hN hZ => Cn F Aa Aa Aa) Aa Aa fun a F => ?_
   refine AL (R := []) F Aa Aa (yC fun M Z hN hZ => Am F Aa) Aa Aa fun a F => ?_
   iterate 2 refine Cv F Aa (AZ F Aa Aa Aa Aa Aa) Aa Aa Aa fun a F => ?_
   refine Df Aa ?_
   refine KZ F Aa Aa Aa Aa Aa Aa Aa fun a F => ?_
   refine Bf (N2 := []) (NZ2 := []) (N3 := [(some 43, b1, [.int .i64 p0.1.1, v1, v2, v3, v4, .int .i64 p0.2.2.2.1, .int .i64 p0.2.2.2.2.1, .int .i64 p0.2.2.2.2.2.1, .int .i64 p0.2.2.2.2.2.2.1, .int .i64 p0.2.2.2.2.2.2.2.1, .int .i64 p0.2.2.2.2.2.2.2.2]), (some 43, b2, [.int .i64 p1.1.1, v5, v6, v7, v8, .int .i64 p1.2.2.2.1, .int .i64 p1.2.2.2.2.1, .int .i64 p1.2.2.2.2.2.1, .int .i64 p1.2.2.2.2.2.2.1, .int .i64 p1.2.2.2.2.2.2.2.1, .int .i64 p1.2.2.2.2.2.2.2.2])]) (NZ3 := []) W Aa Aa (all_cons (fun h => Ak (by kernel_rfl) h) (all_cons (fun h => Ak (by kernel_rfl) h) Al)) Al ?_
   refine Df Aa ?_
   refine KZ F Aa Aa Aa Aa Aa Aa Aa fun a F => ?_
   refine Bf (N2 := []) (NZ2 := []) (N3 := [(some 43, b1, [.int .i64 p0.1.1, v1, v2, v3, v4, .int .i64 p0.2.2.2.1, .int .i64 p0.2.2.2.2.1, .int .i64 p0.2.2.2.2.2.1, .int .i64 p0.2.2.2.2.2.2.1, .int .i64 p0.2.2.2.2.2.2.2.1, .int .i64 p0.2.2.2.2.2.2.2.2]), (some 43, b2, [.int .i64 p1.1.1, v5, v6, v7, v8, .int .i64 p1.2.2.2.1, .int .i64 p1.2.2.2.2.1, .int .i64 p1.2.2.2.2.2.1, .int .i64 p1.2.2.2.2.2.2.1, .int .i64 p1.2.2.2.2.2.2.2.1, .int .i64 p1.2.2.2.2.2.2.2.2])]) (NZ3 := []) W Aa Aa (all_cons (fun h => Ak (by kernel_rfl) h) (all_cons (fun h => Ak (by kernel_rfl) h) Al)) Al ?_
   refine Df Aa ?_
   refine KZ F Aa Aa Aa Aa Aa Aa Aa fun a F => ?_
   refine Bf (N2 := []) (NZ2 := []) (N3 := [(some 43, b1, [.int .i64 p0.1.1, v1, v2, v3, v4, .int .i64 p0.2.2.2.1, .int .i64 p0.2.2.2.2.1, .int .i64 p0.2.2.2.2.2.1, .int .i64 p0.2.2.2.2.2.2.1, .int .i64 p0.2.2.2.2.2.2.2.1, .int .i64 p0.2.2.2.2.2.2.2.2]), (some 43, b2, [.int .i64 p1.1.1, v5, v6, v7, v8, .int .i64 p1.2.2.2.1, .int .i64 p1.2.2.2.2.1, .int .i64 p1.2.2.2.2.2.1, .int .i64 p1.2.2.2.2.2.2.1, .int .i64 p1.2.2.2.2.2.2.2.1, .int .i64 p1.2.2.2.2.2.2.2.2])]) (NZ3 := []) W Aa Aa (all_cons (fun h => Ak (by kernel_rfl) h) (all_cons (fun h => Ak (by kernel_rfl) h) Al)) Al ?_
   refine Cv F Aa (AZ F Aa Aa Aa Aa Aa) Aa Aa Aa fun a F => ?_
   refine AL (R := []) F Aa Aa (yC fun M Z hN hZ => Cn F Aa Aa Aa) Aa Aa fun a F => ?_
   refine FH (Ac ?_)
   have W := W.frontM (i := 1) Aa Aa
   have W := W.frontM (i := 1) Aa Aa
   exact ⟨_, H, F.ra Aa, W⟩
  have H := Ct (Db hb) H
  rw [hb] at F
  clear hb
  refine Ei (R := []) F Aa (Ag F Aa Aa Aa Aa) Aa Aa (yC fun M Z hN hZ => Aj Dj Aa Aa Aa KB F Aa 0 Aa) Aa Aa fun a F => ?_
  refine Ei (R := []) F Aa (Ag F Aa Aa Aa Aa) Aa Aa (yC fun M Z hN hZ => Aj Gn Aa Aa Aa MA F Aa 1 Aa) Aa Aa fun a F => ?_
  refine Ei (R := [43, 38, 29, 18, 17, 16, 11]) F Aa (Ag F Aa Aa Aa Aa) Aa Aa (yC fun M Z hN hZ => CP (cs := (BP p0 v1 v2 v3 v4)) (v := v1) F Aa (hN ((some 43), b1, (BP p0 v1 v2 v3 v4)) (.head _) Aa) MA Aa) (by kernel_rfl) Aa fun a F => ?_
  refine Ei (R := []) F Aa (Ag F Aa Aa Aa Aa) Aa Aa (yC fun M Z hN hZ => BN (r := AV) (l := p0.1.2.1) Kh Aa F Aa (Ah h_v1)) Aa Aa fun a F => ?_
  refine Ei (R := []) F Aa (Ag F Aa Aa Aa Aa) Aa Aa (yC fun M Z hN hZ => Aj Dj Aa Aa Aa KB F Aa 0 Aa) Aa Aa fun a F => ?_
  refine Ei (R := []) F Aa (Ag F Aa Aa Aa Aa) Aa Aa (yC fun M Z hN hZ => Aj Gn Aa Aa Aa MA F Aa 1 Aa) Aa Aa fun a F => ?_
  refine Ei (R := [43, 38, 29, 18, 17, 16, 15]) F Aa (Ag F Aa Aa Aa Aa) Aa Aa (yC fun M Z hN hZ => CP (cs := (BP p1 v5 v6 v7 v8)) (v := v5) F Aa (hN ((some 43), b2, (BP p1 v5 v6 v7 v8)) (.tail _ (.head _)) Aa) MA Aa) (by kernel_rfl) Aa fun a F => ?_
  refine Ei (R := []) F Aa (Ag F Aa Aa Aa Aa) Aa Aa (yC fun M Z hN hZ => BN (r := AV) (l := p1.1.2.1) Kh Aa F Aa (Ah h_v5)) Aa Aa fun a F => ?_
  refine Ei (R := []) F Aa (Ag F Aa Aa Aa Aa) Aa Aa (yC fun M Z hN hZ => IA F Aa Aa) Aa Aa fun a F => ?_
  refine AL (R := []) F Aa Aa (yC fun M Z hN hZ => Cm F Aa Aa Aa) Aa Aa fun a F => ?_
  refine AL (R := []) F Aa Aa (yC fun M Z hN hZ => Am F Aa) Aa Aa fun a F => ?_
  rcases Bool.eq_false_or_eq_true (decide ((p0.1.2.1.length : Int) ≠ (p1.1.2.1.length : Int))) with hb | hb
  ·
   have H := Cu (Dc hb) H
   rw [hb] at F
   clear hb
   iterate 9 refine Cv F Aa (AZ F Aa Aa Aa Aa Aa) Aa Aa Aa fun a F => ?_
   refine AL (R := []) F Aa Aa (yC fun M Z hN hZ => Cn F Aa Aa Aa) Aa Aa fun a F => ?_
   refine AL (R := []) F Aa Aa (yC fun M Z hN hZ => Am F Aa) Aa Aa fun a F => ?_
   iterate 7 refine Cv F Aa (AZ F Aa Aa Aa Aa Aa) Aa Aa Aa fun a F => ?_
   refine AL (R := []) F Aa Aa (yC fun M Z hN hZ => Cn F Aa Aa Aa) Aa Aa fun a F => ?_
   refine AL (R := []) F Aa Aa (yC fun M Z hN hZ => Am F Aa) Aa Aa fun a F => ?_
   iterate 4 refine Cv F Aa (AZ F Aa Aa Aa Aa Aa) Aa Aa Aa fun a F => ?_
   refine Df Aa ?_
   refine KZ F Aa Aa Aa Aa Aa Aa Aa fun a F => ?_
   refine Bf (N2 := []) (NZ2 := []) (N3 := [(some 43, b1, [.int .i64 p0.1.1, v1, v2, v3, v4, .int .i64 p0.2.2.2.1, .int .i64 p0.2.2.2.2.1, .int .i64 p0.2.2.2.2.2.1, .int .i64 p0.2.2.2.2.2.2.1, .int .i64 p0.2.2.2.2.2.2.2.1, .int .i64 p0.2.2.2.2.2.2.2.2]), (some 43, b2, [.int .i64 p1.1.1, v5, v6, v7, v8, .int .i64 p1.2.2.2.1, .int .i64 p1.2.2.2.2.1, .int .i64 p1.2.2.2.2.2.1, .int .i64 p1.2.2.2.2.2.2.1, .int .i64 p1.2.2.2.2.2.2.2.1, .int .i64 p1.2.2.2.2.2.2.2.2])]) (NZ3 := []) W Aa Aa (all_cons (fun h => Ak (by kernel_rfl) h) (all_cons (fun h => Ak (by kernel_rfl) h) Al)) Al ?_
   refine Cv F Aa (AZ F Aa Aa Aa Aa Aa) Aa Aa Aa fun a F => ?_
   refine AL (R := []) F Aa Aa (yC fun M Z hN hZ => Cn F Aa Aa Aa) Aa Aa fun a F => ?_
   refine AL (R := []) F Aa Aa (yC fun M Z hN hZ => Am F Aa) Aa Aa fun a F => ?_
   iterate 2 refine Cv F Aa (AZ F Aa Aa Aa Aa Aa) Aa Aa Aa fun a F => ?_
   refine Df Aa ?_
   refine KZ F Aa Aa Aa Aa Aa Aa Aa fun a F => ?_
   refine Bf (N2 := []) (NZ2 := []) (N3 := [(some 43, b1, [.int .i64 p0.1.1, v1, v2, v3, v4, .int .i64 p0.2.2.2.1, .int .i64 p0.2.2.2.2.1, .int .i64 p0.2.2.2.2.2.1, .int .i64 p0.2.2.2.2.2.2.1, .int .i64 p0.2.2.2.2.2.2.2.1, .int .i64 p0.2.2.2.2.2.2.2.2]), (some 43, b2, [.int .i64 p1.1.1, v5, v6, v7, v8, .int .i64 p1.2.2.2.1, .int .i64 p1.2.2.2.2.1, .int .i64 p1.2.2.2.2.2.1, .int .i64 p1.2.2.2.2.2.2.1, .int .i64 p1.2.2.2.2.2.2.2.1, .int .i64 p1.2.2.2.2.2.2.2.2])]) (NZ3 := []) W Aa Aa (all_cons (fun h => Ak (by kernel_rfl) h) (all_cons (fun h => Ak (by kernel_rfl) h) Al)) Al ?_
   refine Df Aa ?_
   refine KZ F Aa Aa Aa Aa Aa Aa Aa fun a F => ?_
   refine Bf (N2 := []) (NZ2 := []) (N3 := [(some 43, b1, [.int .i64 p0.1.1, v1, v2, v3, v4, .int .i64 p0.2.2.2.1, .int .i64 p0.2.2.2.2.1, .int .i64 p0.2.2.2.2.2.1, .int .i64 p0.2.2.2.2.2.2.1, .int .i64 p0.2.2.2.2.2.2.2.1, .int .i64 p0.2.2.2.2.2.2.2.2]), (some 43, b2, [.int .i64 p1.1.1, v5, v6, v7, v8, .int .i64 p1.2.2.2.1, .int .i64 p1.2.2.2.2.1, .int .i64 p1.2.2.2.2.2.1, .int .i64 p1.2.2.2.2.2.2.1, .int .i64 p1.2.2.2.2.2.2.2.1, .int .i64 p1.2.2.2.2.2.2.2.2])]) (NZ3 := []) W Aa Aa (all_cons (fun h => Ak (by kernel_rfl) h) (all_cons (fun h => Ak (by kernel_rfl) h) Al)) Al ?_
   refine Df Aa ?_
   refine KZ F Aa Aa Aa Aa Aa Aa Aa fun a F => ?_
   refine Bf (N2 := []) (NZ2 := []) (N3 := [(some 43, b1, [.int .i64 p0.1.1, v1, v2, v3, v4, .int .i64 p0.2.2.2.1, .int .i64 p0.2.2.2.2.1, .int .i64 p0.2.2.2.2.2.1, .int .i64 p0.2.2.2.2.2.2.1, .int .i64 p0.2.2.2.2.2.2.2.1, .int .i64 p0.2.2.2.2.2.2.2.2]), (some 43, b2, [.int .i64 p1.1.1, v5, v6, v7, v8, .int .i64 p1.2.2.2.1, .int .i64 p1.2.2.2.2.1, .int .i64 p1.2.2.2.2.2.1, .int .i64 p1.2.2.2.2.2.2.1, .int .i64 p1.2.2.2.2.2.2.2.1, .int .i64 p1.2.2.2.2.2.2.2.2])]) (NZ3 := []) W Aa Aa (all_cons (fun h => Ak (by kernel_rfl) h) (all_cons (fun h => Ak (by kernel_rfl) h) Al)) Al ?_
   refine Cv F Aa (AZ F Aa Aa Aa Aa Aa) Aa Aa Aa fun a F => ?_
   refine AL (R := []) F Aa Aa (yC fun M Z hN hZ => Cn F Aa Aa Aa) Aa Aa fun a F => ?_
   refine FH (Ac ?_)
   have W := W.frontM (i := 1) Aa Aa
   have W := W.frontM (i := 1) Aa Aa
   exact ⟨_, H, F.ra Aa, W⟩
  have H := Ct (Db hb) H
  rw [hb] at F
  clear hb
  refine Ei (R := []) F Aa (Ag F Aa Aa Aa Aa) Aa Aa (yC fun M Z hN hZ => Aj Dj Aa Aa Aa KB F Aa 0 Aa) Aa Aa fun a F => ?_
  refine Ei (R := []) F Aa (Ag F Aa Aa Aa Aa) Aa Aa (yC fun M Z hN hZ => Aj Gn Aa Aa Aa KM F Aa 2 Aa) Aa Aa fun a F => ?_
  refine Ei (R := [43, 38, 29, 28, 27, 22]) F Aa (Ag F Aa Aa Aa Aa) Aa Aa (yC fun M Z hN hZ => CP (cs := (BP p0 v1 v2 v3 v4)) (v := v2) F Aa (hN ((some 43), b1, (BP p0 v1 v2 v3 v4)) (.head _) Aa) KM Aa) (by kernel_rfl) Aa fun a F => ?_
  refine Ei (R := []) F Aa (Ag F Aa Aa Aa Aa) Aa Aa (yC fun M Z hN hZ => BN (r := A3) (l := p0.1.2.2) Kl Aa F Aa (Ah h_v2)) Aa Aa fun a F => ?_
  refine Ei (R := []) F Aa (Ag F Aa Aa Aa Aa) Aa Aa (yC fun M Z hN hZ => Aj Dj Aa Aa Aa KB F Aa 0 Aa) Aa Aa fun a F => ?_
  refine Ei (R := []) F Aa (Ag F Aa Aa Aa Aa) Aa Aa (yC fun M Z hN hZ => Aj Gn Aa Aa Aa KM F Aa 2 Aa) Aa Aa fun a F => ?_
  refine Ei (R := [43, 38, 29, 28, 27, 26]) F Aa (Ag F Aa Aa Aa Aa) Aa Aa (yC fun M Z hN hZ => CP (cs := (BP p1 v5 v6 v7 v8)) (v := v6) F Aa (hN ((some 43), b2, (BP p1 v5 v6 v7 v8)) (.tail _ (.head _)) Aa) KM Aa) (by kernel_rfl) Aa fun a F => ?_
  refine Ei (R := []) F Aa (Ag F Aa Aa Aa Aa) Aa Aa (yC fun M Z hN hZ => BN (r := A3) (l := p1.1.2.2) Kl Aa F Aa (Ah h_v6)) Aa Aa fun a F => ?_
  refine Ei (R := []) F Aa (Ag F Aa Aa Aa Aa) Aa Aa (yC fun M Z hN hZ => IA F Aa Aa) Aa Aa fun a F => ?_
  refine AL (R := []) F Aa Aa (yC fun M Z hN hZ => Cm F Aa Aa Aa) Aa Aa fun a F => ?_
  refine AL (R := []) F Aa Aa (yC fun M Z hN hZ => Am F Aa) Aa Aa fun a F => ?_
  rcases Bool.eq_false_or_eq_true (decide ((p0.1.2.2.length : Int) ≠ (p1.1.2.2.length : Int))) with hb | hb
  ·
   have H := Cu (Dc hb) H
   rw [hb] at F
   clear hb
   iterate 7 refine Cv F Aa (AZ F Aa Aa Aa Aa Aa) Aa Aa Aa fun a F => ?_
   refine AL (R := []) F Aa Aa (yC fun M Z hN hZ => Cn F Aa Aa Aa) Aa Aa fun a F => ?_
   refine AL (R := []) F Aa Aa (yC fun M Z hN hZ => Am F Aa) Aa Aa fun a F => ?_
   iterate 4 refine Cv F Aa (AZ F Aa Aa Aa Aa Aa) Aa Aa Aa fun a F => ?_
   refine Df Aa ?_
   refine KZ F Aa Aa Aa Aa Aa Aa Aa fun a F => ?_
   refine Bf (N2 := []) (NZ2 := []) (N3 := [(some 43, b1, [.int .i64 p0.1.1, v1, v2, v3, v4, .int .i64 p0.2.2.2.1, .int .i64 p0.2.2.2.2.1, .int .i64 p0.2.2.2.2.2.1, .int .i64 p0.2.2.2.2.2.2.1, .int .i64 p0.2.2.2.2.2.2.2.1, .int .i64 p0.2.2.2.2.2.2.2.2]), (some 43, b2, [.int .i64 p1.1.1, v5, v6, v7, v8, .int .i64 p1.2.2.2.1, .int .i64 p1.2.2.2.2.1, .int .i64 p1.2.2.2.2.2.1, .int .i64 p1.2.2.2.2.2.2.1, .int .i64 p1.2.2.2.2.2.2.2.1, .int .i64 p1.2.2.2.2.2.2.2.2])]) (NZ3 := []) W Aa Aa (all_cons (fun h => Ak (by kernel_rfl) h) (all_cons (fun h => Ak (by kernel_rfl) h) Al)) Al ?_
   refine Cv F Aa (AZ F Aa Aa Aa Aa Aa) Aa Aa Aa fun a F => ?_
   refine AL (R := []) F Aa Aa (yC fun M Z hN hZ => Cn F Aa Aa Aa) Aa Aa fun a F => ?_
   refine AL (R := []) F Aa Aa (yC fun M Z hN hZ => Am F Aa) Aa Aa fun a F => ?_
   iterate 2 refine Cv F Aa (AZ F Aa Aa Aa Aa Aa) Aa Aa Aa fun a F => ?_
   refine Df Aa ?_
   refine KZ F Aa Aa Aa Aa Aa Aa Aa fun a F => ?_
   refine Bf (N2 := []) (NZ2 := []) (N3 := [(some 43, b1, [.int .i64 p0.1.1, v1, v2, v3, v4, .int .i64 p0.2.2.2.1, .int .i64 p0.2.2.2.2.1, .int .i64 p0.2.2.2.2.2.1, .int .i64 p0.2.2.2.2.2.2.1, .int .i64 p0.2.2.2.2.2.2.2.1, .int .i64 p0.2.2.2.2.2.2.2.2]), (some 43, b2, [.int .i64 p1.1.1, v5, v6, v7, v8, .int .i64 p1.2.2.2.1, .int .i64 p1.2.2.2.2.1, .int .i64 p1.2.2.2.2.2.1, .int .i64 p1.2.2.2.2.2.2.1, .int .i64 p1.2.2.2.2.2.2.2.1, .int .i64 p1.2.2.2.2.2.2.2.2])]) (NZ3 := []) W Aa Aa (all_cons (fun h => Ak (by kernel_rfl) h) (all_cons (fun h => Ak (by kernel_rfl) h) Al)) Al ?_
   refine Df Aa ?_
   refine KZ F Aa Aa Aa Aa Aa Aa Aa fun a F => ?_
   refine Bf (N2 := []) (NZ2 := []) (N3 := [(some 43, b1, [.int .i64 p0.1.1, v1, v2, v3, v4, .int .i64 p0.2.2.2.1, .int .i64 p0.2.2.2.2.1, .int .i64 p0.2.2.2.2.2.1, .int .i64 p0.2.2.2.2.2.2.1, .int .i64 p0.2.2.2.2.2.2.2.1, .int .i64 p0.2.2.2.2.2.2.2.2]), (some 43, b2, [.int .i64 p1.1.1, v5, v6, v7, v8, .int .i64 p1.2.2.2.1, .int .i64 p1.2.2.2.2.1, .int .i64 p1.2.2.2.2.2.1, .int .i64 p1.2.2.2.2.2.2.1, .int .i64 p1.2.2.2.2.2.2.2.1, .int .i64 p1.2.2.2.2.2.2.2.2])]) (NZ3 := []) W Aa Aa (all_cons (fun h => Ak (by kernel_rfl) h) (all_cons (fun h => Ak (by kernel_rfl) h) Al)) Al ?_
   refine Df Aa ?_
   refine KZ F Aa Aa Aa Aa Aa Aa Aa fun a F => ?_
   refine Bf (N2 := []) (NZ2 := []) (N3 := [(some 43, b1, [.int .i64 p0.1.1, v1, v2, v3, v4, .int .i64 p0.2.2.2.1, .int .i64 p0.2.2.2.2.1, .int .i64 p0.2.2.2.2.2.1, .int .i64 p0.2.2.2.2.2.2.1, .int .i64 p0.2.2.2.2.2.2.2.1, .int .i64 p0.2.2.2.2.2.2.2.2]), (some 43, b2, [.int .i64 p1.1.1, v5, v6, v7, v8, .int .i64 p1.2.2.2.1, .int .i64 p1.2.2.2.2.1, .int .i64 p1.2.2.2.2.2.1, .int .i64 p1.2.2.2.2.2.2.1, .int .i64 p1.2.2.2.2.2.2.2.1, .int .i64 p1.2.2.2.2.2.2.2.2])]) (NZ3 := []) W Aa Aa (all_cons (fun h => Ak (by kernel_rfl) h) (all_cons (fun h => Ak (by kernel_rfl) h) Al)) Al ?_
   refine Cv F Aa (AZ F Aa Aa Aa Aa Aa) Aa Aa Aa fun a F => ?_
   refine AL (R := []) F Aa Aa (yC fun M Z hN hZ => Cn F Aa Aa Aa) Aa Aa fun a F => ?_
   refine FH (Ac ?_)
   have W := W.frontM (i := 1) Aa Aa
   have W := W.frontM (i := 1) Aa Aa
   exact ⟨_, H, F.ra Aa, W⟩
  have H := Ct (Db hb) H
  rw [hb] at F
  clear hb
  refine Ei (R := []) F Aa (Ag F Aa Aa Aa Aa) Aa Aa (yC fun M Z hN hZ => Aj Dj Aa Aa Aa NA F Aa 3 Aa) Aa Aa fun a F => ?_
  refine Ei (R := [43, 38, 37, 36, 32]) F Aa (Ag F Aa Aa Aa Aa) Aa Aa (yC fun M Z hN hZ => CP (cs := (BP p0 v1 v2 v3 v4)) (v := v3) F Aa (hN ((some 43), b1, (BP p0 v1 v2 v3 v4)) (.head _) Aa) NA Aa) (by kernel_rfl) Aa fun a F => ?_
  refine Ei (R := []) F Aa (Ag F Aa Aa Aa Aa) Aa Aa (yC fun M Z hN hZ => BN (r := (Rp.slice (Rp.int .u64))) (l := p0.2.1) JB Aa F Aa (B9 D4 h1 (Ah h_v3))) Aa Aa fun a F => ?_
  refine Ei (R := []) F Aa (Ag F Aa Aa Aa Aa) Aa Aa (yC fun M Z hN hZ => Aj Dj Aa Aa Aa NA F Aa 3 Aa) Aa Aa fun a F => ?_
  refine Ei (R := [43, 38, 37, 36, 35]) F Aa (Ag F Aa Aa Aa Aa) Aa Aa (yC fun M Z hN hZ => CP (cs := (BP p1 v5 v6 v7 v8)) (v := v7) F Aa (hN ((some 43), b2, (BP p1 v5 v6 v7 v8)) (.tail _ (.head _)) Aa) NA Aa) (by kernel_rfl) Aa fun a F => ?_
  refine Ei (R := []) F Aa (Ag F Aa Aa Aa Aa) Aa Aa (yC fun M Z hN hZ => BN (r := (Rp.slice (Rp.int .u64))) (l := p1.2.1) JB Aa F Aa (B9 D4 h2 (Ah h_v7))) Aa Aa fun a F => ?_
  refine Ei (R := []) F Aa (Ag F Aa Aa Aa Aa) Aa Aa (yC fun M Z hN hZ => IA F Aa Aa) Aa Aa fun a F => ?_
  refine AL (R := []) F Aa Aa (yC fun M Z hN hZ => Cm F Aa Aa Aa) Aa Aa fun a F => ?_
  refine AL (R := []) F Aa Aa (yC fun M Z hN hZ => Am F Aa) Aa Aa fun a F => ?_
  rcases Bool.eq_false_or_eq_true (decide ((p0.2.1.length : Int) ≠ (p1.2.1.length : Int))) with hb | hb
  ·
   have H := Cu (Dc hb) H
   rw [hb] at F
   clear hb
   iterate 4 refine Cv F Aa (AZ F Aa Aa Aa Aa Aa) Aa Aa Aa fun a F => ?_
   refine Df Aa ?_
   refine KZ F Aa Aa Aa Aa Aa Aa Aa fun a F => ?_
   refine Bf (N2 := []) (NZ2 := []) (N3 := [(some 43, b1, [.int .i64 p0.1.1, v1, v2, v3, v4, .int .i64 p0.2.2.2.1, .int .i64 p0.2.2.2.2.1, .int .i64 p0.2.2.2.2.2.1, .int .i64 p0.2.2.2.2.2.2.1, .int .i64 p0.2.2.2.2.2.2.2.1, .int .i64 p0.2.2.2.2.2.2.2.2]), (some 43, b2, [.int .i64 p1.1.1, v5, v6, v7, v8, .int .i64 p1.2.2.2.1, .int .i64 p1.2.2.2.2.1, .int .i64 p1.2.2.2.2.2.1, .int .i64 p1.2.2.2.2.2.2.1, .int .i64 p1.2.2.2.2.2.2.2.1, .int .i64 p1.2.2.2.2.2.2.2.2])]) (NZ3 := []) W Aa Aa (all_cons (fun h => Ak (by kernel_rfl) h) (all_cons (fun h => Ak (by kernel_rfl) h) Al)) Al ?_
   refine Cv F Aa (AZ F Aa Aa Aa Aa Aa) Aa Aa Aa fun a F => ?_
   refine AL (R := []) F Aa Aa (yC fun M Z hN hZ => Cn F Aa Aa Aa) Aa Aa fun a F => ?_
   refine AL (R := []) F Aa Aa (yC fun M Z hN hZ => Am F Aa) Aa Aa fun a F => ?_
   iterate 2 refine Cv F Aa (AZ F Aa Aa Aa Aa Aa) Aa Aa Aa fun a F => ?_
   refine Df Aa ?_
   refine KZ F Aa Aa Aa Aa Aa Aa Aa fun a F => ?_
   refine Bf (N2 := []) (NZ2 := []) (N3 := [(some 43, b1, [.int .i64 p0.1.1, v1, v2, v3, v4, .int .i64 p0.2.2.2.1, .int .i64 p0.2.2.2.2.1, .int .i64 p0.2.2.2.2.2.1, .int .i64 p0.2.2.2.2.2.2.1, .int .i64 p0.2.2.2.2.2.2.2.1, .int .i64 p0.2.2.2.2.2.2.2.2]), (some 43, b2, [.int .i64 p1.1.1, v5, v6, v7, v8, .int .i64 p1.2.2.2.1, .int .i64 p1.2.2.2.2.1, .int .i64 p1.2.2.2.2.2.1, .int .i64 p1.2.2.2.2.2.2.1, .int .i64 p1.2.2.2.2.2.2.2.1, .int .i64 p1.2.2.2.2.2.2.2.2])]) (NZ3 := []) W Aa Aa (all_cons (fun h => Ak (by kernel_rfl) h) (all_cons (fun h => Ak (by kernel_rfl) h) Al)) Al ?_
   refine Df Aa ?_
   refine KZ F Aa Aa Aa Aa Aa Aa Aa fun a F => ?_
   refine Bf (N2 := []) (NZ2 := []) (N3 := [(some 43, b1, [.int .i64 p0.1.1, v1, v2, v3, v4, .int .i64 p0.2.2.2.1, .int .i64 p0.2.2.2.2.1, .int .i64 p0.2.2.2.2.2.1, .int .i64 p0.2.2.2.2.2.2.1, .int .i64 p0.2.2.2.2.2.2.2.1, .int .i64 p0.2.2.2.2.2.2.2.2]), (some 43, b2, [.int .i64 p1.1.1, v5, v6, v7, v8, .int .i64 p1.2.2.2.1, .int .i64 p1.2.2.2.2.1, .int .i64 p1.2.2.2.2.2.1, .int .i64 p1.2.2.2.2.2.2.1, .int .i64 p1.2.2.2.2.2.2.2.1, .int .i64 p1.2.2.2.2.2.2.2.2])]) (NZ3 := []) W Aa Aa (all_cons (fun h => Ak (by kernel_rfl) h) (all_cons (fun h => Ak (by kernel_rfl) h) Al)) Al ?_
   refine Df Aa ?_
   refine KZ F Aa Aa Aa Aa Aa Aa Aa fun a F => ?_
   refine Bf (N2 := []) (NZ2 := []) (N3 := [(some 43, b1, [.int .i64 p0.1.1, v1, v2, v3, v4, .int .i64 p0.2.2.2.1, .int .i64 p0.2.2.2.2.1, .int .i64 p0.2.2.2.2.2.1, .int .i64 p0.2.2.2.2.2.2.1, .int .i64 p0.2.2.2.2.2.2.2.1, .int .i64 p0.2.2.2.2.2.2.2.2]), (some 43, b2, [.int .i64 p1.1.1, v5, v6, v7, v8, .int .i64 p1.2.2.2.1, .int .i64 p1.2.2.2.2.1, .int .i64 p1.2.2.2.2.2.1, .int .i64 p1.2.2.2.2.2.2.1, .int .i64 p1.2.2.2.2.2.2.2.1, .int .i64 p1.2.2.2.2.2.2.2.2])]) (NZ3 := []) W Aa Aa (all_cons (fun h => Ak (by kernel_rfl) h) (all_cons (fun h => Ak (by kernel_rfl) h) Al)) Al ?_
   refine Cv F Aa (AZ F Aa Aa Aa Aa Aa) Aa Aa Aa fun a F => ?_
   refine AL (R := []) F Aa Aa (yC fun M Z hN hZ => Cn F Aa Aa Aa) Aa Aa fun a F => ?_
   refine FH (Ac ?_)
   have W := W.frontM (i := 1) Aa Aa
   have W := W.frontM (i := 1) Aa Aa
   exact ⟨_, H, F.ra Aa, W⟩
  have H := Ct (Db hb) H
  rw [hb] at F
  clear hb
  refine Ei (R := []) F Aa (Ag F Aa Aa Aa Aa) Aa Aa (yC fun M Z hN hZ => Aj Dj Aa Aa Aa QJ F Aa 4 Aa) Aa Aa fun a F => ?_
  refine Ei (R := [43]) F Aa (Ag F Aa Aa Aa Aa) Aa Aa (yC fun M Z hN hZ => CP (cs := (BP p0 v1 v2 v3 v4)) (v := v4) F Aa (hN ((some 43), b1, (BP p0 v1 v2 v3 v4)) (.head _) Aa) QJ Aa) (by kernel_rfl) Aa fun a F => ?_
  refine Ei (R := []) F Aa (Ag F Aa Aa Aa Aa) Aa Aa (yC fun M Z hN hZ => Aj Dj Aa Aa Aa QJ F Aa 4 Aa) Aa Aa fun a F => ?_
  refine Ei (R := [43]) F Aa (Ag F Aa Aa Aa Aa) Aa Aa (yC fun M Z hN hZ => CP (cs := (BP p1 v5 v6 v7 v8)) (v := v8) F Aa (hN ((some 43), b2, (BP p1 v5 v6 v7 v8)) (.tail _ (.head _)) Aa) QJ Aa) (by kernel_rfl) Aa fun a F => ?_
  refine Df Aa ?_
  refine E5 (Ag F Aa Aa Aa Aa) ?_
  obtain ⟨x2, h3, H⟩ := Ae H
  refine ls F W Aa (AE (v := Value.bool x2) F S2 Aa (fun w W => Jz any w (v4) (v8) p0.2.2.1 p1.2.2.1 _ h3 (((Ah h_v4) : CW _ _ _ _ _ _) w W).nx (((Ah h_v8) : CW _ _ _ _ _ _) w W).nx)) fun a w F W => ?_
  refine Bf (N2 := [(some 48, b1, [.int .i64 p0.1.1, v1, v2, v3, v4, .int .i64 p0.2.2.2.1, .int .i64 p0.2.2.2.2.1, .int .i64 p0.2.2.2.2.2.1, .int .i64 p0.2.2.2.2.2.2.1, .int .i64 p0.2.2.2.2.2.2.2.1, .int .i64 p0.2.2.2.2.2.2.2.2]), (some 50, b2, [.int .i64 p1.1.1, v5, v6, v7, v8, .int .i64 p1.2.2.2.1, .int .i64 p1.2.2.2.2.1, .int .i64 p1.2.2.2.2.2.1, .int .i64 p1.2.2.2.2.2.2.1, .int .i64 p1.2.2.2.2.2.2.2.1, .int .i64 p1.2.2.2.2.2.2.2.2])]) (NZ2 := []) (N3 := [(some 43, b1, [.int .i64 p0.1.1, v1, v2, v3, v4, .int .i64 p0.2.2.2.1, .int .i64 p0.2.2.2.2.1, .int .i64 p0.2.2.2.2.2.1, .int .i64 p0.2.2.2.2.2.2.1, .int .i64 p0.2.2.2.2.2.2.2.1, .int .i64 p0.2.2.2.2.2.2.2.2]), (some 43, b2, [.int .i64 p1.1.1, v5, v6, v7, v8, .int .i64 p1.2.2.2.1, .int .i64 p1.2.2.2.2.1, .int .i64 p1.2.2.2.2.2.1, .int .i64 p1.2.2.2.2.2.2.1, .int .i64 p1.2.2.2.2.2.2.2.1, .int .i64 p1.2.2.2.2.2.2.2.2]), (some 48, b1, [.int .i64 p0.1.1, v1, v2, v3, v4, .int .i64 p0.2.2.2.1, .int .i64 p0.2.2.2.2.1, .int .i64 p0.2.2.2.2.2.1, .int .i64 p0.2.2.2.2.2.2.1, .int .i64 p0.2.2.2.2.2.2.2.1, .int .i64 p0.2.2.2.2.2.2.2.2]), (some 50, b2, [.int .i64 p1.1.1, v5, v6, v7, v8, .int .i64 p1.2.2.2.1, .int .i64 p1.2.2.2.2.1, .int .i64 p1.2.2.2.2.2.1, .int .i64 p1.2.2.2.2.2.2.1, .int .i64 p1.2.2.2.2.2.2.2.1, .int .i64 p1.2.2.2.2.2.2.2.2])]) (NZ3 := []) W Aa Aa (all_cons (fun h => Ak (by kernel_rfl) h) (all_cons (fun h => Ak (by kernel_rfl) h) (all_cons (fun _ => (.tail _ (.head _))) (all_cons (fun _ => (.head _)) Al)))) Al ?_
  refine Ei (R := []) F Aa (Ag F Aa Aa Aa Aa) Aa Aa (yC fun M Z hN hZ => Ny F Aa) Aa Aa fun a F => ?_
  refine AL (R := []) F Aa Aa (yC fun M Z hN hZ => Cm F Aa Aa Aa) Aa Aa fun a F => ?_
  refine AL (R := []) F Aa Aa (yC fun M Z hN hZ => Am F Aa) Aa Aa fun a F => ?_
  rcases Bool.eq_false_or_eq_true (!x2) with hb | hb
  ·
   have H := Cu hb H
   rw [hb] at F
   clear hb
   iterate 2 refine Cv F Aa (AZ F Aa Aa Aa Aa Aa) Aa Aa Aa fun a F => ?_
   refine Df Aa ?_
   refine KZ F Aa Aa Aa Aa Aa Aa Aa fun a F => ?_
   refine Bf (N2 := []) (NZ2 := []) (N3 := [(some 43, b1, [.int .i64 p0.1.1, v1, v2, v3, v4, .int .i64 p0.2.2.2.1, .int .i64 p0.2.2.2.2.1, .int .i64 p0.2.2.2.2.2.1, .int .i64 p0.2.2.2.2.2.2.1, .int .i64 p0.2.2.2.2.2.2.2.1, .int .i64 p0.2.2.2.2.2.2.2.2]), (some 43, b2, [.int .i64 p1.1.1, v5, v6, v7, v8, .int .i64 p1.2.2.2.1, .int .i64 p1.2.2.2.2.1, .int .i64 p1.2.2.2.2.2.1, .int .i64 p1.2.2.2.2.2.2.1, .int .i64 p1.2.2.2.2.2.2.2.1, .int .i64 p1.2.2.2.2.2.2.2.2]), (some 48, b1, [.int .i64 p0.1.1, v1, v2, v3, v4, .int .i64 p0.2.2.2.1, .int .i64 p0.2.2.2.2.1, .int .i64 p0.2.2.2.2.2.1, .int .i64 p0.2.2.2.2.2.2.1, .int .i64 p0.2.2.2.2.2.2.2.1, .int .i64 p0.2.2.2.2.2.2.2.2]), (some 50, b2, [.int .i64 p1.1.1, v5, v6, v7, v8, .int .i64 p1.2.2.2.1, .int .i64 p1.2.2.2.2.1, .int .i64 p1.2.2.2.2.2.1, .int .i64 p1.2.2.2.2.2.2.1, .int .i64 p1.2.2.2.2.2.2.2.1, .int .i64 p1.2.2.2.2.2.2.2.2])]) (NZ3 := []) W Aa Aa (all_cons (fun h => Ak (by kernel_rfl) h) (all_cons (fun h => Ak (by kernel_rfl) h) (all_cons (fun h => Ak (by kernel_rfl) h) (all_cons (fun _ => (.head _)) Al)))) Al ?_
   refine Df Aa ?_
   refine KZ F Aa Aa Aa Aa Aa Aa Aa fun a F => ?_
   refine Bf (N2 := []) (NZ2 := []) (N3 := [(some 43, b1, [.int .i64 p0.1.1, v1, v2, v3, v4, .int .i64 p0.2.2.2.1, .int .i64 p0.2.2.2.2.1, .int .i64 p0.2.2.2.2.2.1, .int .i64 p0.2.2.2.2.2.2.1, .int .i64 p0.2.2.2.2.2.2.2.1, .int .i64 p0.2.2.2.2.2.2.2.2]), (some 43, b2, [.int .i64 p1.1.1, v5, v6, v7, v8, .int .i64 p1.2.2.2.1, .int .i64 p1.2.2.2.2.1, .int .i64 p1.2.2.2.2.2.1, .int .i64 p1.2.2.2.2.2.2.1, .int .i64 p1.2.2.2.2.2.2.2.1, .int .i64 p1.2.2.2.2.2.2.2.2]), (some 48, b1, [.int .i64 p0.1.1, v1, v2, v3, v4, .int .i64 p0.2.2.2.1, .int .i64 p0.2.2.2.2.1, .int .i64 p0.2.2.2.2.2.1, .int .i64 p0.2.2.2.2.2.2.1, .int .i64 p0.2.2.2.2.2.2.2.1, .int .i64 p0.2.2.2.2.2.2.2.2]), (some 50, b2, [.int .i64 p1.1.1, v5, v6, v7, v8, .int .i64 p1.2.2.2.1, .int .i64 p1.2.2.2.2.1, .int .i64 p1.2.2.2.2.2.1, .int .i64 p1.2.2.2.2.2.2.1, .int .i64 p1.2.2.2.2.2.2.2.1, .int .i64 p1.2.2.2.2.2.2.2.2])]) (NZ3 := []) W Aa Aa (all_cons (fun h => Ak (by kernel_rfl) h) (all_cons (fun h => Ak (by kernel_rfl) h) (all_cons (fun h => Ak (by kernel_rfl) h) (all_cons (fun h => Ak (by kernel_rfl) h) Al)))) Al ?_
   refine Df Aa ?_
   refine KZ F Aa Aa Aa Aa Aa Aa Aa fun a F => ?_
   refine Bf (N2 := []) (NZ2 := []) (N3 := [(some 43, b1, [.int .i64 p0.1.1, v1, v2, v3, v4, .int .i64 p0.2.2.2.1, .int .i64 p0.2.2.2.2.1, .int .i64 p0.2.2.2.2.2.1, .int .i64 p0.2.2.2.2.2.2.1, .int .i64 p0.2.2.2.2.2.2.2.1, .int .i64 p0.2.2.2.2.2.2.2.2]), (some 43, b2, [.int .i64 p1.1.1, v5, v6, v7, v8, .int .i64 p1.2.2.2.1, .int .i64 p1.2.2.2.2.1, .int .i64 p1.2.2.2.2.2.1, .int .i64 p1.2.2.2.2.2.2.1, .int .i64 p1.2.2.2.2.2.2.2.1, .int .i64 p1.2.2.2.2.2.2.2.2]), (some 48, b1, [.int .i64 p0.1.1, v1, v2, v3, v4, .int .i64 p0.2.2.2.1, .int .i64 p0.2.2.2.2.1, .int .i64 p0.2.2.2.2.2.1, .int .i64 p0.2.2.2.2.2.2.1, .int .i64 p0.2.2.2.2.2.2.2.1, .int .i64 p0.2.2.2.2.2.2.2.2]), (some 50, b2, [.int .i64 p1.1.1, v5, v6, v7, v8, .int .i64 p1.2.2.2.1, .int .i64 p1.2.2.2.2.1, .int .i64 p1.2.2.2.2.2.1, .int .i64 p1.2.2.2.2.2.2.1, .int .i64 p1.2.2.2.2.2.2.2.1, .int .i64 p1.2.2.2.2.2.2.2.2])]) (NZ3 := []) W Aa Aa (all_cons (fun h => Ak (by kernel_rfl) h) (all_cons (fun h => Ak (by kernel_rfl) h) (all_cons (fun h => Ak (by kernel_rfl) h) (all_cons (fun h => Ak (by kernel_rfl) h) Al)))) Al ?_
   refine Cv F Aa (AZ F Aa Aa Aa Aa Aa) Aa Aa Aa fun a F => ?_
   refine AL (R := []) F Aa Aa (yC fun M Z hN hZ => Cn F Aa Aa Aa) Aa Aa fun a F => ?_
   refine FH (Ac ?_)
   have W := W.frontM (i := 1) Aa Aa
   have W := W.frontM (i := 1) Aa Aa
   exact ⟨_, H, F.ra Aa, W⟩
  have H := Ct (by rw [hb]; decide) H
  rw [hb] at F
  clear hb
  refine Ei (R := [48]) F Aa (Ag F Aa Aa Aa Aa) Aa Aa (yC fun M Z hN hZ => CP (cs := (BP p0 v1 v2 v3 v4)) (v := Value.agg #[.int .i64 p0.1.1, v1, v2, v3, v4, .int .i64 p0.2.2.2.1, .int .i64 p0.2.2.2.2.1, .int .i64 p0.2.2.2.2.2.1, .int .i64 p0.2.2.2.2.2.2.1, .int .i64 p0.2.2.2.2.2.2.2.1, .int .i64 p0.2.2.2.2.2.2.2.2]) F Aa (hN ((some 48), b1, (BP p0 v1 v2 v3 v4)) (.tail _ (.tail _ (.head _))) Aa) ET Aa) (by kernel_rfl) Aa fun a F => ?_
  refine Ei (R := [50]) F Aa (Ag F Aa Aa Aa Aa) Aa Aa (yC fun M Z hN hZ => CP (cs := (BP p1 v5 v6 v7 v8)) (v := Value.agg #[.int .i64 p1.1.1, v5, v6, v7, v8, .int .i64 p1.2.2.2.1, .int .i64 p1.2.2.2.2.1, .int .i64 p1.2.2.2.2.2.1, .int .i64 p1.2.2.2.2.2.2.1, .int .i64 p1.2.2.2.2.2.2.2.1, .int .i64 p1.2.2.2.2.2.2.2.2]) F Aa (hN ((some 50), b2, (BP p1 v5 v6 v7 v8)) (.tail _ (.tail _ (.tail _ (.head _)))) Aa) ET Aa) (by kernel_rfl) Aa fun a F => ?_
  refine Df Aa ?_
  refine E5 (Ag F Aa Aa Aa Aa) ?_
  refine AC (Ml := []) (Zl := []) (M := [(b2, (BP p1 v5 v6 v7 v8)), (b1, (BP p0 v1 v2 v3 v4))]) (Z := []) (β := Value) (rv := fun x => x) (MM := fun x => []) (ZZ := fun x => [row x 3 (Rp.int .i64) (Bm p0)]) F W SF Aa Aa (fun hL => Ia _ w (v1) (v2) (v3) (v4) p0 _ Aa ((Ah h_v1) w W).nx ((Ah h_v2) w W).nx ((B9 D4 h1 (Ah h_v3)) w W).nx ((Ah h_v4) w W).nx) fun x a w F W => ?_
  obtain ⟨v11, rfl⟩ : ∃ y, y = x := ⟨x, rfl⟩
  have W : Stw ⟨Y, [], w0⟩ [(b2, (BP p1 v5 v6 v7 v8)), (b1, (BP p0 v1 v2 v3 v4))] [row v11 3 (Rp.int .i64) (Bm p0)] w := W
  refine Bf (N2 := []) (NZ2 := []) (N3 := [(some 43, b1, [.int .i64 p0.1.1, v1, v2, v3, v4, .int .i64 p0.2.2.2.1, .int .i64 p0.2.2.2.2.1, .int .i64 p0.2.2.2.2.2.1, .int .i64 p0.2.2.2.2.2.2.1, .int .i64 p0.2.2.2.2.2.2.2.1, .int .i64 p0.2.2.2.2.2.2.2.2]), (some 43, b2, [.int .i64 p1.1.1, v5, v6, v7, v8, .int .i64 p1.2.2.2.1, .int .i64 p1.2.2.2.2.1, .int .i64 p1.2.2.2.2.2.1, .int .i64 p1.2.2.2.2.2.2.1, .int .i64 p1.2.2.2.2.2.2.2.1, .int .i64 p1.2.2.2.2.2.2.2.2]), (some 48, b1, [.int .i64 p0.1.1, v1, v2, v3, v4, .int .i64 p0.2.2.2.1, .int .i64 p0.2.2.2.2.1, .int .i64 p0.2.2.2.2.2.1, .int .i64 p0.2.2.2.2.2.2.1, .int .i64 p0.2.2.2.2.2.2.2.1, .int .i64 p0.2.2.2.2.2.2.2.2]), (some 50, b2, [.int .i64 p1.1.1, v5, v6, v7, v8, .int .i64 p1.2.2.2.1, .int .i64 p1.2.2.2.2.1, .int .i64 p1.2.2.2.2.2.1, .int .i64 p1.2.2.2.2.2.2.1, .int .i64 p1.2.2.2.2.2.2.2.1, .int .i64 p1.2.2.2.2.2.2.2.2])]) (NZ3 := []) W Aa Aa (all_cons (fun h => Ak (by kernel_rfl) h) (all_cons (fun h => Ak (by kernel_rfl) h) (all_cons (fun h => Ak (by kernel_rfl) h) (all_cons (fun _ => (.head _)) Al)))) Al ?_
  refine Df Aa ?_
  refine E5 (Ag F Aa Aa Aa Aa) ?_
  refine AC (Ml := []) (Zl := []) (M := [(b2, (BP p1 v5 v6 v7 v8)), (b1, (BP p0 v1 v2 v3 v4))]) (Z := [row v11 3 (Rp.int .i64) (Bm p0)]) (β := Value) (rv := fun x => x) (MM := fun x => []) (ZZ := fun x => [row x 3 (Rp.int .i64) (Bm p1)]) F W SF Aa Aa (fun hL => Ia _ w (v5) (v6) (v7) (v8) p1 _ Aa ((Ah h_v5) w W).nx ((Ah h_v6) w W).nx ((B9 D4 h2 (Ah h_v7)) w W).nx ((Ah h_v8) w W).nx) fun x a w F W => ?_
  obtain ⟨v12, rfl⟩ : ∃ y, y = x := ⟨x, rfl⟩
  have W : Stw ⟨Y, [], w0⟩ [(b2, (BP p1 v5 v6 v7 v8)), (b1, (BP p0 v1 v2 v3 v4))] [row v12 3 (Rp.int .i64) (Bm p1), row v11 3 (Rp.int .i64) (Bm p0)] w := W
  refine Bf (N2 := []) (NZ2 := []) (N3 := [(some 43, b1, [.int .i64 p0.1.1, v1, v2, v3, v4, .int .i64 p0.2.2.2.1, .int .i64 p0.2.2.2.2.1, .int .i64 p0.2.2.2.2.2.1, .int .i64 p0.2.2.2.2.2.2.1, .int .i64 p0.2.2.2.2.2.2.2.1, .int .i64 p0.2.2.2.2.2.2.2.2]), (some 43, b2, [.int .i64 p1.1.1, v5, v6, v7, v8, .int .i64 p1.2.2.2.1, .int .i64 p1.2.2.2.2.1, .int .i64 p1.2.2.2.2.2.1, .int .i64 p1.2.2.2.2.2.2.1, .int .i64 p1.2.2.2.2.2.2.2.1, .int .i64 p1.2.2.2.2.2.2.2.2]), (some 48, b1, [.int .i64 p0.1.1, v1, v2, v3, v4, .int .i64 p0.2.2.2.1, .int .i64 p0.2.2.2.2.1, .int .i64 p0.2.2.2.2.2.1, .int .i64 p0.2.2.2.2.2.2.1, .int .i64 p0.2.2.2.2.2.2.2.1, .int .i64 p0.2.2.2.2.2.2.2.2]), (some 50, b2, [.int .i64 p1.1.1, v5, v6, v7, v8, .int .i64 p1.2.2.2.1, .int .i64 p1.2.2.2.2.1, .int .i64 p1.2.2.2.2.2.1, .int .i64 p1.2.2.2.2.2.2.1, .int .i64 p1.2.2.2.2.2.2.2.1, .int .i64 p1.2.2.2.2.2.2.2.2])]) (NZ3 := []) W Aa Aa (all_cons (fun h => Ak (by kernel_rfl) h) (all_cons (fun h => Ak (by kernel_rfl) h) (all_cons (fun h => Ak (by kernel_rfl) h) (all_cons (fun h => Ak (by kernel_rfl) h) Al)))) Al ?_
  refine Df Aa ?_
  refine E5 (Ag F Aa Aa Aa Aa) ?_
  obtain ⟨x3, h4, H⟩ := Ae H
  refine ls F W Aa (AE (v := Value.bool x3) F S2 Aa (fun w W => Jz any w (v11) (v12) (Bm p0) (Bm p1) _ h4 (((Ap 1 Aa) : CW _ _ _ _ _ _) w W).nx (((Ap 0 Aa) : CW _ _ _ _ _ _) w W).nx)) fun a w F W => ?_
  refine Bf (N2 := []) (NZ2 := []) (N3 := [(some 43, b1, [.int .i64 p0.1.1, v1, v2, v3, v4, .int .i64 p0.2.2.2.1, .int .i64 p0.2.2.2.2.1, .int .i64 p0.2.2.2.2.2.1, .int .i64 p0.2.2.2.2.2.2.1, .int .i64 p0.2.2.2.2.2.2.2.1, .int .i64 p0.2.2.2.2.2.2.2.2]), (some 43, b2, [.int .i64 p1.1.1, v5, v6, v7, v8, .int .i64 p1.2.2.2.1, .int .i64 p1.2.2.2.2.1, .int .i64 p1.2.2.2.2.2.1, .int .i64 p1.2.2.2.2.2.2.1, .int .i64 p1.2.2.2.2.2.2.2.1, .int .i64 p1.2.2.2.2.2.2.2.2]), (some 48, b1, [.int .i64 p0.1.1, v1, v2, v3, v4, .int .i64 p0.2.2.2.1, .int .i64 p0.2.2.2.2.1, .int .i64 p0.2.2.2.2.2.1, .int .i64 p0.2.2.2.2.2.2.1, .int .i64 p0.2.2.2.2.2.2.2.1, .int .i64 p0.2.2.2.2.2.2.2.2]), (some 50, b2, [.int .i64 p1.1.1, v5, v6, v7, v8, .int .i64 p1.2.2.2.1, .int .i64 p1.2.2.2.2.1, .int .i64 p1.2.2.2.2.2.1, .int .i64 p1.2.2.2.2.2.2.1, .int .i64 p1.2.2.2.2.2.2.2.1, .int .i64 p1.2.2.2.2.2.2.2.2])]) (NZ3 := []) W Aa Aa (all_cons (fun h => Ak (by kernel_rfl) h) (all_cons (fun h => Ak (by kernel_rfl) h) (all_cons (fun h => Ak (by kernel_rfl) h) (all_cons (fun h => Ak (by kernel_rfl) h) Al)))) Al ?_
  refine Ei (R := []) F Aa (Ag F Aa Aa Aa Aa) Aa Aa (yC fun M Z hN hZ => Ny F Aa) Aa Aa fun a F => ?_
  refine AL (R := []) F Aa Aa (yC fun M Z hN hZ => Cm F Aa Aa Aa) Aa Aa fun a F => ?_
  refine FH (Ac ?_)
  have W := W.frontM (i := 1) Aa Aa
  have W := W.frontM (i := 1) Aa Aa
  have W := W.sub (M' := [(b2, (BP p1 v5 v6 v7 v8)), (b1, (BP p0 v1 v2 v3 v4))]) (Z' := []) (List.Sublist.refl _) (List.nil_sublist _)
  exact ⟨_, H, F.ra Aa, W⟩
 rintro a w ⟨x1, hj, F, W⟩
 have hj := AA hj
 subst hj
 have H := K1
 clear G1 K1
 refine B2 F Aa H (fun F H => ?_) fun F H => ?_
 ·
  refine vc tk 5 F W fun a w F W => ?_
  refine Ax (Az ?_)
  have H := AA H
  subst H
  refine BB (.inl Aa) F W Aa (Ao F Aa) ?_
  exact ⟨rfl, W.done⟩
 refine Bp (Ac ?_)
 obtain ⟨o2, G2, K2, L2⟩ := HU H
 refine Aw (fun a w => some (Sum.inl ()) = some o2 ∧ Fr 123 [] [(2, .pointer (some ⟨b1, 0, none⟩)), (3, .pointer (some ⟨b2, 0, none⟩)), (4, .bool false)] a ∧ Stw ⟨Y, [], w0⟩ [(b2, (BP p1 v5 v6 v7 v8)), (b1, (BP p0 v1 v2 v3 v4))] [] w) ?_ ?_
 ·
  have H := G2
  clear G2 K2
  refine vc tk 6 F W fun a w F W => ?_
  have W := W.frontM (i := 1) Aa Aa
  have W := W.frontM (i := 1) Aa Aa
  refine Bl H (fun s a w => Fr 123 [] [(2, .pointer (some ⟨b1, 0, none⟩)), (3, .pointer (some ⟨b2, 0, none⟩)), (4, .bool false), (5, .int .i64 s)] a ∧ Stw ⟨Y, [], w0⟩ [(b2, (BP p1 v5 v6 v7 v8)), (b1, (BP p0 v1 v2 v3 v4))] [] w) ⟨F.ra Aa, W⟩ fun s o a w H L3 hR => ?_
  obtain ⟨x4, rfl⟩ : ∃ x, x = s := ⟨s, rfl⟩
  obtain ⟨F, W⟩ := hR
  have F : Fr 123 [] [(2, .pointer (some ⟨b1, 0, none⟩)), (3, .pointer (some ⟨b2, 0, none⟩)), (4, .bool false), (5, .int .i64 x4)] a := F
  have W : Stw ⟨Y, [], w0⟩ [(b2, (BP p1 v5 v6 v7 v8)), (b1, (BP p0 v1 v2 v3 v4))] [] w := W
  rw [Fk] at H
  refine Ib tk 7 [1] F W (ai fun a w F W => ?_)
  refine ls F W Aa (BN (r := AV) (l := p0.1.2.1) Kh Aa F Aa (Ah h_v1)).q fun a w F W => ?_
  refine vl tk 2 F W fun a w F W => ?_
  refine Ac ?_
  refine Bq F Aa H (fun F H => ?_) fun F H => ?_
  ·
   refine Ek tk 5 F W fun a w F W => ?_
   refine DA W MO (by kernel_rfl) ?_
   refine qs F Aa (Aj Dj Aa Aa Aa KB F Aa 0 Aa).q fun a F => ?_
   refine qs F Aa (Aj Gn Aa Aa Aa MA F Aa 1 Aa).q fun a F => ?_
   refine qs F Aa (DP (v := v1) 1 F Aa Aa MA Aa).q fun a F => ?_
   refine qs F Aa (Am F Aa).q fun a F => ?_
   obtain ⟨x5, h5, H⟩ := Ae H
   refine qs F Aa (AR (r := AV) PL F Aa Aa (Ah h_v1) h5).q fun a F => ?_
   refine qs F Aa (An (y := Value.agg #[.int .i64 x5.1, .int .i64 x5.2.1, .int .i64 x5.2.2.1, .int .i64 x5.2.2.2.1, .int .i64 x5.2.2.2.2.1, .int .i64 x5.2.2.2.2.2]) (j := 0) (i := x4) F Aa Aa (Ah h_v1) h5 QN.to QA Aa).q fun a F => ?_
   refine qs F Aa (Aj Dj Aa Aa Aa KB F Aa 0 Aa).q fun a F => ?_
   refine qs F Aa (Aj Gn Aa Aa Aa MA F Aa 1 Aa).q fun a F => ?_
   refine qs F Aa (DP (v := v5) 0 F Aa Aa MA Aa).q fun a F => ?_
   refine qs F Aa (Am F Aa).q fun a F => ?_
   obtain ⟨x6, h6, H⟩ := Ae H
   refine qs F Aa (AR (r := AV) PL F Aa Aa (Ah h_v5) h6).q fun a F => ?_
   refine qs F Aa (An (y := Value.agg #[.int .i64 x6.1, .int .i64 x6.2.1, .int .i64 x6.2.2.1, .int .i64 x6.2.2.2.1, .int .i64 x6.2.2.2.2.1, .int .i64 x6.2.2.2.2.2]) (j := 0) (i := x4) F Aa Aa (Ah h_v5) h6 QN.to QA Aa).q fun a F => ?_
   refine qs F Aa (NB (t := decide (x5.1 = x6.1 ∧ x5.2.1 = x6.2.1 ∧ x5.2.2.1 = x6.2.2.1 ∧ x5.2.2.2.1 = x6.2.2.2.1 ∧ x5.2.2.2.2.1 = x6.2.2.2.2.1 ∧ x5.2.2.2.2.2 = x6.2.2.2.2.2)) S9 (Th _ _ _ _ _ _ _ _ _ _ _ _) F Aa Aa).q fun a F => ?_
   refine CE fun w W => ?_
   refine Ac ?_
   refine B2 F Aa H (fun F H => ?_) fun F H => ?_
   ·
    refine vc tk 5 F W fun a w F W => ?_
    refine Ax (AU ?_)
    iterate 2 refine Az ?_
    refine AU (Az ?_)
    have H := L3 _ H
    have H := L2 _ H
    have H := AA H
    subst H
    refine BB (.inl Aa) F W Aa (Ao F Aa) ?_
    exact ⟨rfl, W.done⟩
   refine Bp (AB ?_)
   refine vn tk 5 F W fun a w F W => ?_
   refine Ac ?_
   have W := W.frontM (i := 1) Aa Aa
   have W := W.frontM (i := 1) Aa Aa
   exact ⟨_, H, F.ra Aa, W⟩
  refine A1 ?_
  iterate 2 refine BC ?_
  refine Bb (Ac ?_)
  have W := W.frontM (i := 1) Aa Aa
  have W := W.frontM (i := 1) Aa Aa
  have H := L3 _ H
  exact ⟨H, F.ra Aa, W⟩
 rintro a w ⟨hj, F, W⟩
 have H := K2 _ hj
 clear hj G2 K2 L2
 obtain ⟨o4, G4, K4, L4⟩ := HU H
 refine Aw (fun a w => some (Sum.inl ()) = some o4 ∧ Fr 123 [] [(2, .pointer (some ⟨b1, 0, none⟩)), (3, .pointer (some ⟨b2, 0, none⟩)), (4, .bool false)] a ∧ Stw ⟨Y, [], w0⟩ [(b2, (BP p1 v5 v6 v7 v8)), (b1, (BP p0 v1 v2 v3 v4))] [] w) ?_ ?_
 ·
  have H := G4
  clear G4 K4
  refine vc tk 6 F W fun a w F W => ?_
  have W := W.frontM (i := 1) Aa Aa
  have W := W.frontM (i := 1) Aa Aa
  refine Bl H (fun s a w => Fr 123 [] [(2, .pointer (some ⟨b1, 0, none⟩)), (3, .pointer (some ⟨b2, 0, none⟩)), (4, .bool false), (6, .int .i64 s)] a ∧ Stw ⟨Y, [], w0⟩ [(b2, (BP p1 v5 v6 v7 v8)), (b1, (BP p0 v1 v2 v3 v4))] [] w) ⟨F.ra Aa, W⟩ fun s o a w H L5 hR => ?_
  obtain ⟨x7, rfl⟩ : ∃ x, x = s := ⟨s, rfl⟩
  obtain ⟨F, W⟩ := hR
  have F : Fr 123 [] [(2, .pointer (some ⟨b1, 0, none⟩)), (3, .pointer (some ⟨b2, 0, none⟩)), (4, .bool false), (6, .int .i64 x7)] a := F
  have W : Stw ⟨Y, [], w0⟩ [(b2, (BP p1 v5 v6 v7 v8)), (b1, (BP p0 v1 v2 v3 v4))] [] w := W
  rw [Fv] at H
  refine Ib tk 7 [1] F W (ai fun a w F W => ?_)
  refine ls F W Aa (BN (r := A3) (l := p0.1.2.2) Kl Aa F Aa (Ah h_v2)).q fun a w F W => ?_
  refine vl tk 2 F W fun a w F W => ?_
  refine Ac ?_
  refine Bq F Aa H (fun F H => ?_) fun F H => ?_
  ·
   refine Ek tk 5 F W fun a w F W => ?_
   refine DA W MO (by kernel_rfl) ?_
   refine qs F Aa (Aj Dj Aa Aa Aa KB F Aa 0 Aa).q fun a F => ?_
   refine qs F Aa (Aj Gn Aa Aa Aa KM F Aa 2 Aa).q fun a F => ?_
   refine qs F Aa (DP (v := v2) 1 F Aa Aa KM Aa).q fun a F => ?_
   refine qs F Aa (Am F Aa).q fun a F => ?_
   obtain ⟨x8, h7, H⟩ := Ae H
   refine qs F Aa (AR (r := A3) O9 F Aa Aa (Ah h_v2) h7).q fun a F => ?_
   refine qs F Aa (An (y := Value.agg #[.int .i64 x8.1, .int .i64 x8.2]) (j := 0) (i := x7) F Aa Aa (Ah h_v2) h7 PU.to Rq Aa).q fun a F => ?_
   refine qs F Aa (Aj Dj Aa Aa Aa KB F Aa 0 Aa).q fun a F => ?_
   refine qs F Aa (Aj Gn Aa Aa Aa KM F Aa 2 Aa).q fun a F => ?_
   refine qs F Aa (DP (v := v6) 0 F Aa Aa KM Aa).q fun a F => ?_
   refine qs F Aa (Am F Aa).q fun a F => ?_
   obtain ⟨x9, h8, H⟩ := Ae H
   refine qs F Aa (AR (r := A3) O9 F Aa Aa (Ah h_v6) h8).q fun a F => ?_
   refine qs F Aa (An (y := Value.agg #[.int .i64 x9.1, .int .i64 x9.2]) (j := 0) (i := x7) F Aa Aa (Ah h_v6) h8 PU.to Rq Aa).q fun a F => ?_
   refine qs F Aa (NB (t := decide (x8.1 = x9.1 ∧ x8.2 = x9.2)) Ta (Tj _ _ _ _) F Aa Aa).q fun a F => ?_
   refine CE fun w W => ?_
   refine Ac ?_
   refine B2 F Aa H (fun F H => ?_) fun F H => ?_
   ·
    refine vc tk 5 F W fun a w F W => ?_
    refine Ax (AU ?_)
    iterate 2 refine Az ?_
    refine AU (Az ?_)
    have H := L5 _ H
    have H := L4 _ H
    have H := AA H
    subst H
    refine BB (.inl Aa) F W Aa (Ao F Aa) ?_
    exact ⟨rfl, W.done⟩
   refine Bp (AB ?_)
   refine vn tk 5 F W fun a w F W => ?_
   refine Ac ?_
   have W := W.frontM (i := 1) Aa Aa
   have W := W.frontM (i := 1) Aa Aa
   exact ⟨_, H, F.ra Aa, W⟩
  refine A1 ?_
  iterate 2 refine BC ?_
  refine Bb (Ac ?_)
  have W := W.frontM (i := 1) Aa Aa
  have W := W.frontM (i := 1) Aa Aa
  have H := L5 _ H
  exact ⟨H, F.ra Aa, W⟩
 rintro a w ⟨hj, F, W⟩
 have H := K4 _ hj
 clear hj G4 K4 L4
 obtain ⟨o6, G6, K6, L6⟩ := HU H
 refine Aw (fun a w => some (Sum.inl ()) = some o6 ∧ Fr 123 [] [(4, .bool false)] a ∧ Stw ⟨Y, [], w0⟩ [(b2, (BP p1 v5 v6 v7 v8)), (b1, (BP p0 v1 v2 v3 v4))] [] w) ?_ ?_
 ·
  have H := G6
  clear G6 K6
  refine vc tk 6 F W fun a w F W => ?_
  have W := W.frontM (i := 1) Aa Aa
  have W := W.frontM (i := 1) Aa Aa
  refine Bl H (fun s a w => Fr 123 [] [(2, .pointer (some ⟨b1, 0, none⟩)), (3, .pointer (some ⟨b2, 0, none⟩)), (4, .bool false), (7, .int .i64 s)] a ∧ Stw ⟨Y, [], w0⟩ [(b2, (BP p1 v5 v6 v7 v8)), (b1, (BP p0 v1 v2 v3 v4))] [] w) ⟨F.ra Aa, W⟩ fun s o a w H L7 hR => ?_
  obtain ⟨x10, rfl⟩ : ∃ x, x = s := ⟨s, rfl⟩
  obtain ⟨F, W⟩ := hR
  have F : Fr 123 [] [(2, .pointer (some ⟨b1, 0, none⟩)), (3, .pointer (some ⟨b2, 0, none⟩)), (4, .bool false), (7, .int .i64 x10)] a := F
  have W : Stw ⟨Y, [], w0⟩ [(b2, (BP p1 v5 v6 v7 v8)), (b1, (BP p0 v1 v2 v3 v4))] [] w := W
  rw [FB] at H
  refine Ib tk 6 [1] F W (ai fun a w F W => ?_)
  refine ls F W Aa (BN (r := (Rp.slice (Rp.int .u64))) (l := p0.2.1) JB Aa F Aa (B9 D4 h1 (Ah h_v3))).q fun a w F W => ?_
  refine vl tk 2 F W fun a w F W => ?_
  refine Ac ?_
  refine Bq F Aa H (fun F H => ?_) fun F H => ?_
  ·
   refine Ek tk 5 F W fun a w F W => ?_
   refine DA W MO (by kernel_rfl) ?_
   refine qs F Aa (Aj Dj Aa Aa Aa NA F Aa 3 Aa).q fun a F => ?_
   refine qs F Aa (DP (v := v3) 1 F Aa Aa NA Aa).q fun a F => ?_
   refine qs F Aa (Am F Aa).q fun a F => ?_
   obtain ⟨x11, h9, H⟩ := Ae H
   obtain ⟨v13, h10, h11⟩ := I5 h1 h9
   have h12 : Hw v13 = [(v13.1)] := congrArg (fun q : List Int => ([(v13.1)] : List Value)) h11
   refine qs F Aa (AR (r := (Rp.vsl (Rp.int .u64))) NW F Aa Aa (Ah h_v3) h10).q fun a F => ?_
   refine qs F Aa (An (y := (v13.1)) (j := 0) (i := x10) (enc := Hw) F Aa Aa (Ah h_v3) h10 LS QL (by rw [h12]; rfl)).q fun a F => ?_
   refine qs F Aa (Aj Dj Aa Aa Aa NA F Aa 3 Aa).q fun a F => ?_
   refine qs F Aa (DP (v := v7) 0 F Aa Aa NA Aa).q fun a F => ?_
   refine qs F Aa (Am F Aa).q fun a F => ?_
   obtain ⟨x12, h13, H⟩ := Ae H
   obtain ⟨v14, h14, h15⟩ := I5 h2 h13
   have h16 : Hw v14 = [(v14.1)] := congrArg (fun q : List Int => ([(v14.1)] : List Value)) h15
   refine qs F Aa (AR (r := (Rp.vsl (Rp.int .u64))) NW F Aa Aa (Ah h_v7) h14).q fun a F => ?_
   refine qs F Aa (An (y := (v14.1)) (j := 0) (i := x10) (enc := Hw) F Aa Aa (Ah h_v7) h14 LS QL (by rw [h16]; rfl)).q fun a F => ?_
   obtain ⟨x13, h17, H⟩ := Ae H
   refine qs F Aa (AE (v := Value.bool x13) F TN Aa (fun w W => MR any w ((v13.1)) ((v14.1)) x11 x12 _ h17 (((F4 (Ah h_v3) h10 HL.here (congrArg (fun q : List Int => q) h11)) : CW _ _ _ _ _ _) w W).nx (((F4 (Ah h_v7) h14 HL.here (congrArg (fun q : List Int => q) h15)) : CW _ _ _ _ _ _) w W).nx)) fun a F => ?_
   refine qs F Aa (Ny F Aa).q fun a F => ?_
   refine CE fun w W => ?_
   refine Ac ?_
   refine B2 F Aa H (fun F H => ?_) fun F H => ?_
   ·
    refine vc tk 5 F W fun a w F W => ?_
    refine Ax (AU ?_)
    iterate 2 refine Az ?_
    refine AU (Az ?_)
    have H := L7 _ H
    have H := L6 _ H
    have H := AA H
    subst H
    refine BB (.inl Aa) F W Aa (Ao F Aa) ?_
    exact ⟨rfl, W.done⟩
   refine Bp (AB ?_)
   refine vn tk 5 F W fun a w F W => ?_
   refine Ac ?_
   have W := W.frontM (i := 1) Aa Aa
   have W := W.frontM (i := 1) Aa Aa
   exact ⟨_, H, F.ra Aa, W⟩
  refine A1 ?_
  iterate 2 refine BC ?_
  refine Bb (Ac ?_)
  have W := W.frontM (i := 1) Aa Aa
  have W := W.frontM (i := 1) Aa Aa
  have H := L7 _ H
  exact ⟨H, F.ra Aa, W⟩
 rintro a w ⟨hj, F, W⟩
 have H := K6 _ hj
 clear hj G6 K6 L6
 refine vc tk 5 F W fun a w F W => ?_
 refine Ax ?_
 have H := AA H
 subst H
 refine BB (.inl Aa) F W Aa (Ao F Aa) ?_
 exact ⟨rfl, W.done⟩
end Go.Proofs.YthmkgdnnocemmaaGreatDoor
