/- The functions of layer 25, HU. Conditions: none. -/
import Derived.Test.YthhoflfhegfmcaabA4
namespace Go.Proofs.Ythhoflfhegfmcaa
open Go Go.RowKit
set_option linter.unusedVariables false
set_option linter.unusedSimpArgs false
set_option maxRecDepth 20000
set_option maxHeartbeats 1600000
theorem YC : Has Try.prog 75 := BS Try.func75
abbrev Qz (a0 : Nat) (a1 : Int × Int × Int × Int) (a2 : Nat) (a3 : Value) (a4 : Value) (a5 : (List (Int × Int × Int × Int)) × (List (Int × Int × List Int)) × Int × Int × Int × Int) : List (Nat × List Value) := [(a0, [.int .i64 a1.1, .int .i64 a1.2.1, .int .i64 a1.2.2.1, .int .i64 a1.2.2.2]), (a2, [a3, a4, .int .i64 a5.2.2.1, .int .i64 a5.2.2.2.1, .int .i64 a5.2.2.2.2.1, .int .i64 a5.2.2.2.2.2])]
noncomputable def FM (p0 : (List (Int × Int × Int × Int)) × (List (Int × Int × List Int)) × Int × Int × Int × Int) (p1 : Int) (p2 : Int × Int × Int × Int) : Option Bool := ((ix p0.2.1 p1).bind fun x2 => (if x2.1 = p2.2.2.2 then (ix p0.2.1 p1).bind fun x3 => (Kz x3.2.2 p2.1).bind fun x4 => some x4 else some false)).bind fun x1 => some x1
theorem J1 (Y : Nat → Prop) (w0 : World) (v1 : Value) (v2 : Value) (p0 : (List (Int × Int × Int × Int)) × (List (Int × Int × List Int)) × Int × Int × Int × Int) (p1 : Int) (p2 : Int × Int × Int × Int) (r : Bool) (H : FM p0 p1 p2 = some r) (h_v1 : Sl w0 (NX []) I6 v1 p0.1) (h_v2 : Sl w0 (NX []) MK v2 p0.2.1) :
    Calls Try.prog 56 #[.agg #[v1, v2, .int .i64 p0.2.2.1, .int .i64 p0.2.2.2.1, .int .i64 p0.2.2.2.2.1, .int .i64 p0.2.2.2.2.2], .int .i64 p1, .agg #[.int .i64 p2.1, .int .i64 p2.2.1, .int .i64 p2.2.2.1, .int .i64 p2.2.2.2]] w0 fun e w' => e = .returned (.bool r) ∧ Below w0.heap.size w0 w' := by
 refine enter Try.func56 Aa Try.ntmps56 Aa fun a F => ?_
 have W := Stw.start Y w0
 obtain ⟨v3, h1, h_v2⟩ := h_v2.ex Fp
 unfold FM at H
 refine vc tk 2 F W fun a w F W => ?_
 refine Bq (cs := [v1, v2, .int .i64 p0.2.2.1, .int .i64 p0.2.2.2.1, .int .i64 p0.2.2.2.2.1, .int .i64 p0.2.2.2.2.2]) F W Aa Aa Aa fun b1 a w F W => ?_
 refine Bq (cs := (CM p2)) F W Aa Aa Aa fun b2 a w F W => ?_
 refine vl tk 2 F W fun a w F W => ?_
 refine Ac ?_
 obtain ⟨o1, G1, K1⟩ := Ae H
 refine Aj (fun a w => ∃ x1 : Bool, some (x1) = some o1 ∧ Fr 27 [] [(6, .bool x1)] a ∧ Stw ⟨Y, [], w0⟩ (Qz b2 p2 b1 v1 v2 p0) [] w) ?_ ?_
 ·
  have H := G1
  clear G1 K1
  refine Bi W MO (by kernel_rfl) ?_
  refine qs F Aa (Af IY Aa Aa Aa Qe F Aa 1 Aa).q fun a F => ?_
  refine qs F Aa (AK (v := v2) 1 F Aa Aa Qe Aa).q fun a F => ?_
  refine qs F Aa (Ak F Aa).q fun a F => ?_
  obtain ⟨x2, h2, H⟩ := Ae H
  obtain ⟨v4, h3, h4⟩ := Co h1 h2
  have h5 : Jr v4 = [.int .i64 x2.1, .int .i64 x2.2.1, (v4.2.2.1)] := congrArg (fun q : Int × Int × List Int => ([.int .i64 q.1, .int .i64 q.2.1, (v4.2.2.1)] : List Value)) h4
  refine qs F Aa (Al (r := M0) T7 F Aa Aa (Ab h_v2) h3).q fun a F => ?_
  refine qs F Aa (Af Pb Aa Aa Aa T3 F Aa (CS v2 + (p1).toNat * 3) Aa).q fun a F => ?_
  refine qs F Aa (Ag (y := Value.int .i64 x2.1) (j := 0) (i := p1) (enc := Jr) F Aa Aa (Ab h_v2) h3 OO T3 (by rw [h5]; rfl)).q fun a F => ?_
  refine qs F Aa (Af HM Aa Aa Aa T3 F Aa 3 Aa).q fun a F => ?_
  refine qs F Aa (AK (v := Value.int .i64 p2.2.2.2) 0 F Aa Aa T3 Aa).q fun a F => ?_
  refine qs F Aa (Iq F Aa Aa).q fun a F => ?_
  refine qs F Aa (Ak F Aa).q fun a F => ?_
  rcases Bool.eq_false_or_eq_true (decide (x2.1 = p2.2.2.2)) with hb | hb
  ·
   have H := B5 (CT hb) H
   rw [hb] at F
   clear hb
   refine AH F (Ad F Aa Aa Aa Aa) Aa (Ah Aa) (Af IY Aa Aa Aa Qe F Aa 1 Aa).q fun a F => ?_
   refine AH F (Ad F Aa Aa Aa Aa) Aa (Ah Aa) (AK (v := v2) 1 F Aa Aa Qe Aa).q fun a F => ?_
   refine AH F (Ad F Aa Aa Aa Aa) Aa (Ah Aa) (Ak F Aa).q fun a F => ?_
   obtain ⟨x3, h6, H⟩ := Ae H
   obtain ⟨v5, h7, h8⟩ := Co h1 h6
   have h9 : Jr v5 = [.int .i64 x3.1, .int .i64 x3.2.1, (v5.2.2.1)] := congrArg (fun q : Int × Int × List Int => ([.int .i64 q.1, .int .i64 q.2.1, (v5.2.2.1)] : List Value)) h8
   refine AH F (Ad F Aa Aa Aa Aa) Aa (Ah Aa) (Al (r := M0) T7 F Aa Aa (Ab h_v2) h7).q fun a F => ?_
   refine AH F (Ad F Aa Aa Aa Aa) Aa (Ah Aa) (Af Pb Aa Aa Aa Jv F Aa (CS v2 + (p1).toNat * 3 + 2) Aa).q fun a F => ?_
   refine AH F (Ad F Aa Aa Aa Aa) Aa (Ah Aa) (Ag (y := (v5.2.2.1)) (j := 2) (i := p1) (enc := Jr) F Aa Aa (Ab h_v2) h7 OO Jv (by rw [h9]; rfl)).q fun a F => ?_
   refine AH F (Ad F Aa Aa Aa Aa) Aa (Ah Aa) (Af HM Aa Aa Aa T3 F Aa 0 Aa).q fun a F => ?_
   refine AH F (Ad F Aa Aa Aa Aa) Aa (Ah Aa) (AK (v := Value.int .i64 p2.1) 0 F Aa Aa T3 Aa).q fun a F => ?_
   obtain ⟨x4, h10, H⟩ := Ae H
   refine AH F (Ad F Aa Aa Aa Aa) Aa (Ah Aa) (AL (v := Value.bool x4) F YC Aa (fun w W => Ra any w ((v5.2.2.1)) x3.2.2 p2.1 _ h10 (Ci (A4 (Ab h_v2) h7 (BL.snd (BL.snd BL.here)) (congrArg (fun q : Int × Int × List Int => q.2.2) h8)) W))) fun a F => ?_
   refine qs F Aa (Be F Aa Aa Aa).q fun a F => ?_
   refine qs F Aa (Bl F Aa).q fun a F => ?_
   refine AB fun w W => ?_
   refine Ac ?_
   have W := W.frontM (i := 1) Aa Aa
   have W := W.frontM (i := 1) Aa Aa
   exact ⟨_, H, F.ra Aa, W⟩
  have H := B6 (CV hb) H
  rw [hb] at F
  clear hb
  iterate 9 refine Bg F (A1 F Aa Aa Aa Aa Aa) Aa Aa fun a F => ?_
  refine qs F Aa (Bk F Aa Aa Aa).q fun a F => ?_
  refine qs F Aa (Bl F Aa).q fun a F => ?_
  refine AB fun w W => ?_
  refine Ac ?_
  have W := W.frontM (i := 1) Aa Aa
  have W := W.frontM (i := 1) Aa Aa
  exact ⟨_, H, F.ra Aa, W⟩
 rintro a w ⟨x1, hj, F, W⟩
 have hj := Av hj
 subst hj
 have H := K1
 clear G1 K1
 refine Ao ?_
 have H := Av H
 subst H
 refine AE (.inl Aa) F W Aa (Ai F Aa) ?_
 exact ⟨rfl, W.done⟩
theorem We : Has Try.prog 56 := BS Try.func56
noncomputable def Ge (p0 : (List (Int × Int × Int × Int)) × (List (Int × Int × List Int)) × Int × Int × Int × Int) (p1 : Int × Int × Int × Int) : Int → Option (Int ⊕ (Unit ⊕ Bool))
  | x1 => (if x1 < (p0.2.1.length : Int) then (FM p0 x1 p1).bind fun x2 => (if x2 = true then some (.inr (.inr true)) else some (.inl (A3 (x1 + 1)))) else some (.inr (.inl ())))
noncomputable def Id (p0 : (List (Int × Int × Int × Int)) × (List (Int × Int × List Int)) × Int × Int × Int × Int) (p1 : Int × Int × Int × Int) : Option Bool := Ep (Au (Ge p0 p1) 0) fun _ => some false
theorem My (Y : Nat → Prop) (w0 : World) (v1 : Value) (v2 : Value) (p0 : (List (Int × Int × Int × Int)) × (List (Int × Int × List Int)) × Int × Int × Int × Int) (p1 : Int × Int × Int × Int) (r : Bool) (H : Id p0 p1 = some r) (h_v1 : Sl w0 (NX []) I6 v1 p0.1) (h_v2 : Sl w0 (NX []) MK v2 p0.2.1) :
    Calls Try.prog 43 #[.agg #[v1, v2, .int .i64 p0.2.2.1, .int .i64 p0.2.2.2.1, .int .i64 p0.2.2.2.2.1, .int .i64 p0.2.2.2.2.2], .agg #[.int .i64 p1.1, .int .i64 p1.2.1, .int .i64 p1.2.2.1, .int .i64 p1.2.2.2]] w0 fun e w' => e = .returned (.bool r) ∧ Below w0.heap.size w0 w' := by
 refine enter Try.func43 Aa Try.ntmps43 Aa fun a F => ?_
 have W := Stw.start Y w0
 obtain ⟨v3, h1, h_v2⟩ := h_v2.ex Fp
 unfold Id at H
 refine vc tk 2 F W fun a w F W => ?_
 refine Bq (cs := [v1, v2, .int .i64 p0.2.2.1, .int .i64 p0.2.2.2.1, .int .i64 p0.2.2.2.2.1, .int .i64 p0.2.2.2.2.2]) F W Aa Aa Aa fun b1 a w F W => ?_
 refine Bq (cs := (CM p1)) F W Aa Aa Aa fun b2 a w F W => ?_
 refine vl tk 2 F W fun a w F W => ?_
 refine Ac ?_
 obtain ⟨o1, G1, K1, L1⟩ := I5 H
 refine Aj (fun a w => some (Sum.inl ()) = some o1 ∧ Fr 17 [] [(4, .bool false)] a ∧ Stw ⟨Y, [], w0⟩ (Qz b2 p1 b1 v1 v2 p0) [] w) ?_ ?_
 ·
  have H := G1
  clear G1 K1
  refine vc tk 6 F W fun a w F W => ?_
  have W := W.frontM (i := 1) Aa Aa
  have W := W.frontM (i := 1) Aa Aa
  refine AA H (fun s a w => Fr 17 [] [(2, .pointer (some ⟨b1, 0, none⟩)), (3, .pointer (some ⟨b2, 0, none⟩)), (4, .bool false), (5, .int .i64 s)] a ∧ Stw ⟨Y, [], w0⟩ (Qz b2 p1 b1 v1 v2 p0) [] w) ⟨F.ra Aa, W⟩ fun s o a w H L2 hR => ?_
  obtain ⟨x1, rfl⟩ : ∃ x, x = s := ⟨s, rfl⟩
  obtain ⟨F, W⟩ := hR
  have F : Fr 17 [] [(2, .pointer (some ⟨b1, 0, none⟩)), (3, .pointer (some ⟨b2, 0, none⟩)), (4, .bool false), (5, .int .i64 x1)] a := F
  have W : Stw ⟨Y, [], w0⟩ (Qz b2 p1 b1 v1 v2 p0) [] w := W
  rw [Ge] at H
  refine D3 tk 6 [1] F W (ai fun a w F W => ?_)
  refine ls F W Aa (AR (r := MK) (l := p0.2.1) PB Aa F Aa (Aq Fp h1 (Ab h_v2))).q fun a w F W => ?_
  refine Bz tk 3 F W fun a w F W => ?_
  refine AN F Aa H (fun F H => ?_) fun F H => ?_
  ·
   refine Jk tk 9 [1, 0] F W (ai (ai fun a w F W => ?_))
   obtain ⟨x2, h2, H⟩ := Ae H
   refine ls F W Aa (AL (v := Value.bool x2) F We Aa (fun w W => J1 any w (v1) (v2) p0 x1 p1 _ h2 (Ci (Ab h_v1) W) (Ci (Aq Fp h1 (Ab h_v2)) W))) fun a w F W => ?_
   refine Bz tk 2 F W fun a w F W => ?_
   refine B0 F Aa H (fun F H => ?_) fun F H => ?_
   ·
    refine vc tk 5 F W fun a w F W => ?_
    refine Ao (Ax ?_)
    iterate 2 refine Aw ?_
    refine Ax (Aw ?_)
    have H := L2 _ H
    have H := L1 _ H
    have H := Av H
    subst H
    refine AE (.inl Aa) F W Aa (Ai F Aa) ?_
    exact ⟨rfl, W.done⟩
   refine As (An ?_)
   refine vn tk 5 F W fun a w F W => ?_
   refine Ac ?_
   have W := W.frontM (i := 1) Aa Aa
   have W := W.frontM (i := 1) Aa Aa
   exact ⟨_, H, F.ra Aa, W⟩
  refine Ay ?_
  iterate 2 refine AO ?_
  refine Az (Ac ?_)
  have W := W.frontM (i := 1) Aa Aa
  have W := W.frontM (i := 1) Aa Aa
  have H := L2 _ H
  exact ⟨H, F.ra Aa, W⟩
 rintro a w ⟨hj, F, W⟩
 have H := K1 _ hj
 clear hj G1 K1 L1
 refine vc tk 5 F W fun a w F W => ?_
 refine Ao ?_
 have H := Av H
 subst H
 refine AE (.inl Aa) F W Aa (Ai F Aa) ?_
 exact ⟨rfl, W.done⟩
theorem WN : Has Try.prog 43 := BS Try.func43
def DM (p0 : Int × (List (Int × Int × Int × Int × Int × Int)) × (List (Int × Int))) (p1 : Int × Int × Int × Int) : Bool := (decide (0 ≤ p1.1) && (decide (p1.1 < p0.1) && (decide (0 ≤ p1.2.1) && decide (p1.2.1 < (p0.2.2.length : Int)))))
theorem RB (Y : Nat → Prop) (w0 : World) (v1 : Value) (v2 : Value) (p0 : Int × (List (Int × Int × Int × Int × Int × Int)) × (List (Int × Int))) (p1 : Int × Int × Int × Int) (r : Bool) (H : DM p0 p1 = r) (h_v1 : Sl w0 (NX []) Er v1 p0.2.1) (h_v2 : Sl w0 (NX []) Ec v2 p0.2.2) :
    Calls Try.prog 44 #[.agg #[.int .i64 p0.1, v1, v2], .agg #[.int .i64 p1.1, .int .i64 p1.2.1, .int .i64 p1.2.2.1, .int .i64 p1.2.2.2]] w0 fun e w' => e = .returned (.bool r) ∧ Below w0.heap.size w0 w' := by
 refine enter Try.func44 Aa Try.ntmps44 Aa fun a F => ?_
 have W := Stw.start Y w0
 unfold DM at H
 refine vc tk 2 F W fun a w F W => ?_
 refine Bq (cs := [.int .i64 p0.1, v1, v2]) F W Aa Aa Aa fun b1 a w F W => ?_
 refine Bq (cs := (CM p1)) F W Aa Aa Aa fun b2 a w F W => ?_
 refine Bz tk 3 F W fun a w F W => ?_
 refine Aj (fun a w => Fr 28 [] [(4, .bool (decide (0 ≤ p1.1) && (decide (p1.1 < p0.1) && (decide (0 ≤ p1.2.1) && decide (p1.2.1 < (p0.2.2.length : Int))))))] a ∧ Stw ⟨Y, [], w0⟩ [(b2, [.int .i64 p1.1, .int .i64 p1.2.1, .int .i64 p1.2.2.1, .int .i64 p1.2.2.2]), (b1, [.int .i64 p0.1, v1, v2])] [] w) ?_ ?_
 ·
  refine D3 tk 5 [0] F W (ai fun a w F W => ?_)
  rcases Bool.eq_false_or_eq_true (decide (0 ≤ p1.1)) with hb0 | hb0
  ·
   rw [hb0] at F
   refine GL tk 7 [0, 1] F W (ai (ai fun a w F W => ?_))
   rcases Bool.eq_false_or_eq_true (decide (p1.1 < p0.1)) with hb1 | hb1
   ·
    rw [hb1] at F
    refine GL tk 5 [0] F W (ai fun a w F W => ?_)
    rcases Bool.eq_false_or_eq_true (decide (0 ≤ p1.2.1)) with hb2 | hb2
    ·
     rw [hb2] at F
     refine GL tk 4 [0, 1] F W (ai (ai fun a w F W => ?_))
     refine CO F W (Ad F Aa Aa Aa Aa) Aa (Ah Aa) (AR (r := Ec) (l := p0.2.2) Jg Aa F Aa (Ab h_v2)).q fun a w F W => ?_
     refine vl tk 4 F W fun a w F W => ?_
     refine Ac ?_
     exact ⟨F.re ⟨(Gw (by try rw [hb1]; try rw [hb2]; try rw [hb0]; all_goals simp only [Gv])), trivial⟩, W⟩
    rw [hb2] at F
    refine vl tk 9 F W fun a w F W => ?_
    refine Ac ?_
    exact ⟨F.re ⟨(Gw (by try rw [hb1]; try rw [hb2]; try rw [hb0]; all_goals simp only [Gv])), trivial⟩, W⟩
   rw [hb1] at F
   refine vl tk 14 F W fun a w F W => ?_
   refine Ac ?_
   exact ⟨F.re ⟨(Gw (by try rw [hb1]; try rw [hb0]; all_goals simp only [Gv])), trivial⟩, W⟩
  rw [hb0] at F
  refine vl tk 21 F W fun a w F W => ?_
  refine Ac ?_
  exact ⟨F.re ⟨(Gw (by try rw [hb0]; all_goals simp only [Gv])), trivial⟩, W⟩
 rintro a w ⟨F, W⟩
 refine Ao ?_
 subst H
 refine AE (.inl Aa) F W Aa (Ai F Aa) ?_
 exact ⟨rfl, W.done⟩
theorem Yw : Has Try.prog 44 := BS Try.func44
noncomputable def EU (p2 : List (List Int)) (p3 : (List (Int × Int × Int × Int)) × (List (Int × Int × List Int)) × Int × Int × Int × Int) (x3 : Int) (x6 : Int) : (Int × Int) → Option ((Int × Int) ⊕ Int)
  | (x9, x10) => (if x10 < (p3.1.length : Int) then ((ix p3.1 x10).bind fun x12 => (if x12.1 = x3 then (if x12.2.1 = x6 then (ix p2 x3).bind fun x14 => (ix x14 x6).bind fun x15 => (if x12.2.2.1 = x15 then (Id p3 x12).bind fun x16 => some x16 else some false) else some false) else some false).bind fun x13 => (if x13 = true then some (A3 (x9 + 1)) else some x9)).bind fun x11 => some (.inl (x11, A3 (x10 + 1))) else some (.inr x9))
noncomputable def FO (p0 : Int × (List (Int × Int × Int × Int × Int × Int)) × (List (Int × Int))) (p1 : List (List Int)) (p2 : List (List Int)) (p3 : (List (Int × Int × Int × Int)) × (List (Int × Int × List Int)) × Int × Int × Int × Int) (x3 : Int) : ((List (Int × Int × Int)) × Int) → Option (((List (Int × Int × Int)) × Int) ⊕ (List (Int × Int × Int)))
  | (x5, x6) => (if x6 < (p0.2.2.length : Int) then ((Au (EU p2 p3 x3 x6) (0, 0)).bind fun x8 => ((ix p1 x3).bind fun x18 => (ix x18 x6).bind fun x19 => (ix p2 x3).bind fun x20 => (ix x20 x6).bind fun x21 => (if x19 ≠ x21 then some (decide (x8 ≠ 1)) else some false)).bind fun x17 => (if x17 = true then (Fo x5 ([(2, x3, x6)] : List (Int × Int × Int))).bind fun x22 => some x22 else some x5)).bind fun x7 => some (.inl (x7, A3 (x6 + 1))) else some (.inr x5))
noncomputable def EN (p0 : Int × (List (Int × Int × Int × Int × Int × Int)) × (List (Int × Int))) (p1 : List (List Int)) (p2 : List (List Int)) (p3 : (List (Int × Int × Int × Int)) × (List (Int × Int × List Int)) × Int × Int × Int × Int) : ((List (Int × Int × Int)) × Int) → Option (((List (Int × Int × Int)) × Int) ⊕ (List (Int × Int × Int)))
  | (x2, x3) => (if x3 < p0.1 then (Au (FO p0 p1 p2 p3 x3) (x2, 0)).bind fun x4 => some (.inl (x4, A3 (x3 + 1))) else some (.inr x2))
noncomputable def ET (p0 : Int × (List (Int × Int × Int × Int × Int × Int)) × (List (Int × Int))) (p1 : List (List Int)) (p2 : List (List Int)) (p3 : (List (Int × Int × Int × Int)) × (List (Int × Int × List Int)) × Int × Int × Int × Int) : ((List (Int × Int × Int)) × Int) → Option (((List (Int × Int × Int)) × Int) ⊕ (List (Int × Int × Int)))
  | (x24, x25) => (if x25 < (p3.1.length : Int) then ((ix p3.1 x25).bind fun x27 => (if (!(DM p0 x27)) = true then some true else (ix p2 x27.1).bind fun x29 => (ix x29 x27.2.1).bind fun x30 => (if x30 ≠ x27.2.2.1 then some true else (ix p1 x27.1).bind fun x31 => (ix x31 x27.2.1).bind fun x32 => (if x32 = x27.2.2.1 then some true else (Id p3 x27).bind fun x33 => some (!x33)))).bind fun x28 => (if x28 = true then (Fo x24 ([(3, x25, x27.2.1)] : List (Int × Int × Int))).bind fun x34 => some x34 else some x24)).bind fun x26 => some (.inl (x26, A3 (x25 + 1))) else some (.inr x24))
noncomputable def JE (p0 : Int × (List (Int × Int × Int × Int × Int × Int)) × (List (Int × Int))) (p1 : List (List Int)) (p2 : List (List Int)) (p3 : (List (Int × Int × Int × Int)) × (List (Int × Int × List Int)) × Int × Int × Int × Int) : Option (List (Int × Int × Int)) := (Au (EN p0 p1 p2 p3) ([], 0)).bind fun x1 => (Au (ET p0 p1 p2 p3) (x1, 0)).bind fun x23 => some x23
theorem OV (Y : Nat → Prop) (w0 : World) (v1 : Value) (v2 : Value) (v3 : Value) (v4 : Value) (v5 : Value) (v6 : Value) (p0 : Int × (List (Int × Int × Int × Int × Int × Int)) × (List (Int × Int))) (p1 : List (List Int)) (p2 : List (List Int)) (p3 : (List (Int × Int × Int × Int)) × (List (Int × Int × List Int)) × Int × Int × Int × Int) (r : (List (Int × Int × Int))) (H : JE p0 p1 p2 p3 = some r) (h_v1 : Sl w0 (NX []) Er v1 p0.2.1) (h_v2 : Sl w0 (NX []) Ec v2 p0.2.2) (h_v3 : Sl w0 (NX []) (Rp.slice (Rp.int .i64)) v3 p1) (h_v4 : Sl w0 (NX []) (Rp.slice (Rp.int .i64)) v4 p2) (h_v5 : Sl w0 (NX []) I6 v5 p3.1) (h_v6 : Sl w0 (NX []) MK v6 p3.2.1) :
    Calls Try.prog 24 #[.agg #[.int .i64 p0.1, v1, v2], v3, v4, .agg #[v5, v6, .int .i64 p3.2.2.1, .int .i64 p3.2.2.2.1, .int .i64 p3.2.2.2.2.1, .int .i64 p3.2.2.2.2.2]] w0 fun e w' => ∃ x : Value, e = .returned (x) ∧ Stw ⟨Y, [], w0⟩ [] [row (x) 59 Dk r] w' := by
 refine enter Try.func24 Aa Try.ntmps24 Aa fun a F => ?_
 have W := Stw.start Y w0
 obtain ⟨v7, h1, h_v3⟩ := h_v3.ex Bh
 obtain ⟨v8, h2, h_v4⟩ := h_v4.ex Bh
 obtain ⟨v9, h3, h_v6⟩ := h_v6.ex Fp
 unfold JE at H
 refine vc tk 2 F W fun a w F W => ?_
 refine Bq (cs := [.int .i64 p0.1, v1, v2]) F W Aa Aa Aa fun b1 a w F W => ?_
 refine Bq (cs := [v5, v6, .int .i64 p3.2.2.1, .int .i64 p3.2.2.2.1, .int .i64 p3.2.2.2.2.1, .int .i64 p3.2.2.2.2.2]) F W Aa Aa Aa fun b2 a w F W => ?_
 refine Bz tk 8 F W fun a w F W => ?_
 obtain ⟨o1, G1, K1⟩ := Ae H
 refine Aj (fun a w => ∃ x1 : List (Int × Int × Int), ∃ v10 : Value, some (x1) = some o1 ∧ Fr 154 [] [(1, v3), (2, v4), (4, .pointer (some ⟨b1, 0, none⟩)), (7, .pointer (some ⟨b2, 0, none⟩)), (8, .slice none 0 0), (9, v10)] a ∧ Stw ⟨Y, [], w0⟩ (Cf b2 v5 v6 p3 b1 p0 v1 v2) [row v10 59 Dk x1] w) ?_ ?_
 ·
  have H := G1
  clear G1 K1
  refine vc tk 6 F W fun a w F W => ?_
  have W := W.nilRow 59 Dk
  have W := W.frontM (i := 1) Aa Aa
  have W := W.frontM (i := 1) Aa Aa
  refine AA H (fun s a w => ∃ v11 : Value, Fr 154 [] [(1, v3), (2, v4), (4, .pointer (some ⟨b1, 0, none⟩)), (7, .pointer (some ⟨b2, 0, none⟩)), (8, .slice none 0 0), (9, v11), (10, .int .i64 s.2)] a ∧ Stw ⟨Y, [], w0⟩ (Cf b2 v5 v6 p3 b1 p0 v1 v2) [row v11 59 Dk s.1] w) ⟨(Value.slice none 0 0), F.ra Aa, W⟩ fun s o a w H L2 hR => ?_
  obtain ⟨x2, x3⟩ := s
  obtain ⟨v11, F, W⟩ := hR
  have F : Fr 154 [] [(1, v3), (2, v4), (4, .pointer (some ⟨b1, 0, none⟩)), (7, .pointer (some ⟨b2, 0, none⟩)), (8, .slice none 0 0), (9, v11), (10, .int .i64 x3)] a := F
  have W : Stw ⟨Y, [], w0⟩ (Cf b2 v5 v6 p3 b1 p0 v1 v2) [row v11 59 Dk x2] w := W
  rw [EN] at H
  refine D3 tk 9 [1] F W (ai fun a w F W => ?_)
  refine AN F Aa H (fun F H => ?_) fun F H => ?_
  ·
   refine As (Ac ?_)
   obtain ⟨o3, G3, K3⟩ := Ae H
   refine Aj (fun a w => ∃ x4 : List (Int × Int × Int), ∃ v12 : Value, some (x4) = some o3 ∧ Fr 154 [] [(1, v3), (2, v4), (4, .pointer (some ⟨b1, 0, none⟩)), (7, .pointer (some ⟨b2, 0, none⟩)), (8, .slice none 0 0), (9, v12), (10, .int .i64 x3)] a ∧ Stw ⟨Y, [], w0⟩ (Cf b2 v5 v6 p3 b1 p0 v1 v2) [row v12 59 Dk x4] w) ?_ ?_
   ·
    have H := G3
    clear G3 K3
    refine vc tk 7 F W fun a w F W => ?_
    have W := W.frontM (i := 1) Aa Aa
    have W := W.frontM (i := 1) Aa Aa
    refine AA H (fun s a w => ∃ v13 : Value, Fr 154 [] [(1, v3), (2, v4), (4, .pointer (some ⟨b1, 0, none⟩)), (7, .pointer (some ⟨b2, 0, none⟩)), (8, .slice none 0 0), (9, v13), (10, .int .i64 x3), (11, .int .i64 s.2)] a ∧ Stw ⟨Y, [], w0⟩ (Cf b2 v5 v6 p3 b1 p0 v1 v2) [row v13 59 Dk s.1] w) ⟨(v11), F.ra Aa, W⟩ fun s o a w H L4 hR => ?_
    obtain ⟨x5, x6⟩ := s
    obtain ⟨v13, F, W⟩ := hR
    have F : Fr 154 [] [(1, v3), (2, v4), (4, .pointer (some ⟨b1, 0, none⟩)), (7, .pointer (some ⟨b2, 0, none⟩)), (8, .slice none 0 0), (9, v13), (10, .int .i64 x3), (11, .int .i64 x6)] a := F
    have W : Stw ⟨Y, [], w0⟩ (Cf b2 v5 v6 p3 b1 p0 v1 v2) [row v13 59 Dk x5] w := W
    rw [FO] at H
    refine D3 tk 6 [1] F W (ai fun a w F W => ?_)
    refine ls F W Aa (AR (r := Ec) (l := p0.2.2) Jg Aa F Aa (Ab h_v2)).q fun a w F W => ?_
    refine Bz tk 3 F W fun a w F W => ?_
    refine AN F Aa H (fun F H => ?_) fun F H => ?_
    ·
     refine As (Ac ?_)
     obtain ⟨o5, G5, K5⟩ := Ae H
     refine Aj (fun a w => ∃ x7 : List (Int × Int × Int), ∃ v14 : Value, some (x7) = some o5 ∧ Fr 154 [] [(1, v3), (2, v4), (4, .pointer (some ⟨b1, 0, none⟩)), (7, .pointer (some ⟨b2, 0, none⟩)), (8, .slice none 0 0), (9, v14), (10, .int .i64 x3), (11, .int .i64 x6)] a ∧ Stw ⟨Y, [], w0⟩ (Cf b2 v5 v6 p3 b1 p0 v1 v2) [row v14 59 Dk x7] w) ?_ ?_
     ·
      have H := G5
      clear G5 K5
      refine vc tk 6 F W fun a w F W => ?_
      obtain ⟨o6, G6, K6⟩ := Ae H
      refine Aj (fun a w => ∃ x8 : Int, some (x8) = some o6 ∧ Fr 154 [] [(1, v3), (2, v4), (4, .pointer (some ⟨b1, 0, none⟩)), (7, .pointer (some ⟨b2, 0, none⟩)), (8, .slice none 0 0), (9, v13), (10, .int .i64 x3), (11, .int .i64 x6), (12, .int .i64 x8)] a ∧ Stw ⟨Y, [], w0⟩ (Cf b2 v5 v6 p3 b1 p0 v1 v2) [row v13 59 Dk x5] w) ?_ ?_
      ·
       have H := G6
       clear G6 K6
       refine vc tk 6 F W fun a w F W => ?_
       have W := W.frontM (i := 1) Aa Aa
       have W := W.frontM (i := 1) Aa Aa
       refine AA H (fun s a w => Fr 154 [] [(1, v3), (2, v4), (4, .pointer (some ⟨b1, 0, none⟩)), (7, .pointer (some ⟨b2, 0, none⟩)), (8, .slice none 0 0), (9, v13), (10, .int .i64 x3), (11, .int .i64 x6), (12, .int .i64 s.1), (13, .int .i64 s.2)] a ∧ Stw ⟨Y, [], w0⟩ (Cf b2 v5 v6 p3 b1 p0 v1 v2) [row v13 59 Dk x5] w) ⟨F.ra Aa, W⟩ fun s o a w H L7 hR => ?_
       obtain ⟨x9, x10⟩ := s
       obtain ⟨F, W⟩ := hR
       have F : Fr 154 [] [(1, v3), (2, v4), (4, .pointer (some ⟨b1, 0, none⟩)), (7, .pointer (some ⟨b2, 0, none⟩)), (8, .slice none 0 0), (9, v13), (10, .int .i64 x3), (11, .int .i64 x6), (12, .int .i64 x9), (13, .int .i64 x10)] a := F
       have W : Stw ⟨Y, [], w0⟩ (Cf b2 v5 v6 p3 b1 p0 v1 v2) [row v13 59 Dk x5] w := W
       rw [EU] at H
       refine D3 tk 6 [0] F W (ai fun a w F W => ?_)
       refine ls F W Aa (AR (r := I6) (l := p3.1) PD Aa F Aa (Ab h_v5)).q fun a w F W => ?_
       refine Bz tk 3 F W fun a w F W => ?_
       refine AN F Aa H (fun F H => ?_) fun F H => ?_
       ·
        refine As (Ac ?_)
        obtain ⟨o8, G8, K8⟩ := Ae H
        refine Aj (fun a w => ∃ x11 : Int, some (x11) = some o8 ∧ Fr 154 [] [(1, v3), (2, v4), (4, .pointer (some ⟨b1, 0, none⟩)), (7, .pointer (some ⟨b2, 0, none⟩)), (8, .slice none 0 0), (9, v13), (10, .int .i64 x3), (11, .int .i64 x6), (12, .int .i64 x11), (13, .int .i64 x10)] a ∧ Stw ⟨Y, [], w0⟩ (Cf b2 v5 v6 p3 b1 p0 v1 v2) [row v13 59 Dk x5] w) ?_ ?_
        ·
         have H := G8
         clear G8 K8
         refine D3 tk 6 [0] F W (ai fun a w F W => ?_)
         obtain ⟨x12, h4, H⟩ := Ae H
         refine ls F W Aa (Al (r := I6) P7 F Aa Aa (Ab h_v5) h4).q fun a w F W => ?_
         refine ls F W Aa (Ag (y := Value.agg #[.int .i64 x12.1, .int .i64 x12.2.1, .int .i64 x12.2.2.1, .int .i64 x12.2.2.2]) (j := 0) (i := x10) F Aa Aa (Ab h_v5) h4 P2.to TD Aa).q fun a w F W => ?_
         refine BU (cs := (Oy)) F W Aa W8 Aa fun b3 a w F W => ?_
         refine Fv 0 F W Aa Aa Aa TD Aa Aa Aa fun w W => ?_
         refine DP (Ac ?_)
         obtain ⟨o9, G9, K9⟩ := Ae H
         refine Aj (fun a w => ∃ x13 : Bool, some (x13) = some o9 ∧ Fr 154 [] [(1, v3), (2, v4), (4, .pointer (some ⟨b1, 0, none⟩)), (7, .pointer (some ⟨b2, 0, none⟩)), (8, .slice none 0 0), (9, v13), (10, .int .i64 x3), (11, .int .i64 x6), (12, .int .i64 x9), (13, .int .i64 x10), (68, .bool x13)] a ∧ Stw ⟨Y, [], w0⟩ [(b3, (CM x12)), (b2, [v5, v6, .int .i64 p3.2.2.1, .int .i64 p3.2.2.2.1, .int .i64 p3.2.2.2.2.1, .int .i64 p3.2.2.2.2.2]), (b1, [.int .i64 p0.1, v1, v2])] [row v13 59 Dk x5] w) ?_ ?_
         ·
          have H := G9
          clear G9 K9
          refine Bi W MO (by kernel_rfl) ?_
          refine qs F Aa (Af HM Aa Aa Aa T3 F Aa 0 Aa).q fun a F => ?_
          refine qs F Aa (AK (v := Value.int .i64 x12.1) 0 F Aa Aa T3 Aa).q fun a F => ?_
          refine qs F Aa (Ak F Aa).q fun a F => ?_
          refine qs F Aa (Iq F Aa Aa).q fun a F => ?_
          refine qs F Aa (Ak F Aa).q fun a F => ?_
          rcases Bool.eq_false_or_eq_true (decide (x12.1 = x3)) with hb | hb
          ·
           have H := B5 (CT hb) H
           rw [hb] at F
           clear hb
           refine AH F (Ad F Aa Aa Aa Aa) Aa (Ah Aa) (Af HM Aa Aa Aa T3 F Aa 1 Aa).q fun a F => ?_
           refine AH F (Ad F Aa Aa Aa Aa) Aa (Ah Aa) (AK (v := Value.int .i64 x12.2.1) 0 F Aa Aa T3 Aa).q fun a F => ?_
           refine AH F (Ad F Aa Aa Aa Aa) Aa (Ah Aa) (Ak F Aa).q fun a F => ?_
           refine AH F (Ad F Aa Aa Aa Aa) Aa (Ah Aa) (Iq F Aa Aa).q fun a F => ?_
           refine qs F Aa (Be F Aa Aa Aa).q fun a F => ?_
           refine qs F Aa (Ak F Aa).q fun a F => ?_
           rcases Bool.eq_false_or_eq_true (decide (x12.2.1 = x6)) with hb | hb
           ·
            have H := B5 (CT hb) H
            rw [hb] at F
            clear hb
            refine AH F (Ad F Aa Aa Aa Aa) Aa (Ah Aa) (Af HM Aa Aa Aa T3 F Aa 2 Aa).q fun a F => ?_
            refine AH F (Ad F Aa Aa Aa Aa) Aa (Ah Aa) (AK (v := Value.int .i64 x12.2.2.1) 0 F Aa Aa T3 Aa).q fun a F => ?_
            iterate 2 refine AH F (Ad F Aa Aa Aa Aa) Aa (Ah Aa) (Ak F Aa).q fun a F => ?_
            obtain ⟨x14, h5, H⟩ := Ae H
            obtain ⟨v15, h6, h7⟩ := Co h2 h5
            have h8 : C2 v15 = [(v15.1)] := congrArg (fun q : List Int => ([(v15.1)] : List Value)) h7
            refine AH F (Ad F Aa Aa Aa Aa) Aa (Ah Aa) (Al (r := (Rp.vsl (Rp.int .i64))) Ke F Aa Aa (Ab h_v4) h6).q fun a F => ?_
            refine AH F (Ad F Aa Aa Aa Aa) Aa (Ah Aa) (Ag (y := (v15.1)) (j := 0) (i := x3) (enc := C2) F Aa Aa (Ab h_v4) h6 Gd Jv (by rw [h8]; rfl)).q fun a F => ?_
            refine AH F (Ad F Aa Aa Aa Aa) Aa (Ah Aa) (Ak F Aa).q fun a F => ?_
            obtain ⟨x15, h9, H⟩ := Ae H
            refine AH F (Ad F Aa Aa Aa Aa) Aa (Ah Aa) (Al (r := (Rp.int .i64)) FS F Aa Aa (A4 (Ab h_v4) h6 BL.here (congrArg (fun q : List Int => q) h7)) h9).q fun a F => ?_
            refine AH F (Ad F Aa Aa Aa Aa) Aa (Ah Aa) (Ag (y := Value.int .i64 x15) (j := 0) (i := x6) F Aa Aa (A4 (Ab h_v4) h6 BL.here (congrArg (fun q : List Int => q) h7)) h9 Fl.int.to T3 Aa).q fun a F => ?_
            refine AH F (Ad F Aa Aa Aa Aa) Aa (Ah Aa) (Iq F Aa Aa).q fun a F => ?_
            refine qs F Aa (Be F Aa Aa Aa).q fun a F => ?_
            refine qs F Aa (Ak F Aa).q fun a F => ?_
            rcases Bool.eq_false_or_eq_true (decide (x12.2.2.1 = x15)) with hb | hb
            ·
             have H := B5 (CT hb) H
             rw [hb] at F
             clear hb
             refine AH F (Ad F Aa Aa Aa Aa) Aa (Ah Aa) (AK (v := Value.agg #[v5, v6, .int .i64 p3.2.2.1, .int .i64 p3.2.2.2.1, .int .i64 p3.2.2.2.2.1, .int .i64 p3.2.2.2.2.2]) 1 F Aa Aa UY Aa).q fun a F => ?_
             refine AH F (Ad F Aa Aa Aa Aa) Aa (Ah Aa) (AK (v := Value.agg #[.int .i64 x12.1, .int .i64 x12.2.1, .int .i64 x12.2.2.1, .int .i64 x12.2.2.2]) 0 F Aa Aa TD Aa).q fun a F => ?_
             obtain ⟨x16, h10, H⟩ := Ae H
             refine AH F (Ad F Aa Aa Aa Aa) Aa (Ah Aa) (AL (v := Value.bool x16) F WN Aa (fun w W => My any w (v5) (v6) p3 x12 _ h10 (Ci (Ab h_v5) W) (Ci (Aq Fp h3 (Ab h_v6)) W))) fun a F => ?_
             refine qs F Aa (Be F Aa Aa Aa).q fun a F => ?_
             refine AB fun w W => ?_
             refine Ac ?_
             have W := W.frontM (i := 2) Aa Aa
             have W := W.frontM (i := 2) Aa Aa
             have W := W.frontM (i := 2) Aa Aa
             exact ⟨_, H, F.ra Aa, W⟩
            have H := B6 (CV hb) H
            rw [hb] at F
            clear hb
            iterate 3 refine Bg F (A1 F Aa Aa Aa Aa Aa) Aa Aa fun a F => ?_
            refine qs F Aa (Bk F Aa Aa Aa).q fun a F => ?_
            refine AB fun w W => ?_
            refine Ac ?_
            have W := W.frontM (i := 2) Aa Aa
            have W := W.frontM (i := 2) Aa Aa
            have W := W.frontM (i := 2) Aa Aa
            exact ⟨_, H, F.ra Aa, W⟩
           have H := B6 (CV hb) H
           rw [hb] at F
           clear hb
           iterate 10 refine Bg F (A1 F Aa Aa Aa Aa Aa) Aa Aa fun a F => ?_
           refine qs F Aa (Bk F Aa Aa Aa).q fun a F => ?_
           refine qs F Aa (Ak F Aa).q fun a F => ?_
           iterate 3 refine Bg F (A1 F Aa Aa Aa Aa Aa) Aa Aa fun a F => ?_
           refine qs F Aa (Bk F Aa Aa Aa).q fun a F => ?_
           refine AB fun w W => ?_
           refine Ac ?_
           have W := W.frontM (i := 2) Aa Aa
           have W := W.frontM (i := 2) Aa Aa
           have W := W.frontM (i := 2) Aa Aa
           exact ⟨_, H, F.ra Aa, W⟩
          have H := B6 (CV hb) H
          rw [hb] at F
          clear hb
          iterate 4 refine Bg F (A1 F Aa Aa Aa Aa Aa) Aa Aa fun a F => ?_
          refine qs F Aa (Bk F Aa Aa Aa).q fun a F => ?_
          refine qs F Aa (Ak F Aa).q fun a F => ?_
          iterate 10 refine Bg F (A1 F Aa Aa Aa Aa Aa) Aa Aa fun a F => ?_
          refine qs F Aa (Bk F Aa Aa Aa).q fun a F => ?_
          refine qs F Aa (Ak F Aa).q fun a F => ?_
          iterate 3 refine Bg F (A1 F Aa Aa Aa Aa Aa) Aa Aa fun a F => ?_
          refine qs F Aa (Bk F Aa Aa Aa).q fun a F => ?_
          refine AB fun w W => ?_
          refine Ac ?_
          have W := W.frontM (i := 2) Aa Aa
          have W := W.frontM (i := 2) Aa Aa
          have W := W.frontM (i := 2) Aa Aa
          exact ⟨_, H, F.ra Aa, W⟩
         rintro a w ⟨x13, hj, F, W⟩
         have hj := Av hj
         subst hj
         have H := K9
         clear G9 K9
         refine B0 F Aa H (fun F H => ?_) fun F H => ?_
         ·
          refine vc tk 5 F W fun a w F W => ?_
          refine An (Ac ?_)
          have W := W.frontM (i := 2) Aa Aa
          have W := W.frontM (i := 2) Aa Aa
          have W := W.sub (M' := (Cf b2 v5 v6 p3 b1 p0 v1 v2)) (Z' := [row v13 59 Dk x5]) (List.Sublist.cons_cons _ (List.Sublist.cons_cons _ (List.nil_sublist _))) (List.Sublist.refl _)
          exact ⟨_, H, F.ra Aa, W⟩
         refine As (An (Ac ?_))
         have W := W.frontM (i := 2) Aa Aa
         have W := W.frontM (i := 2) Aa Aa
         have W := W.sub (M' := (Cf b2 v5 v6 p3 b1 p0 v1 v2)) (Z' := [row v13 59 Dk x5]) (List.Sublist.cons_cons _ (List.Sublist.cons_cons _ (List.nil_sublist _))) (List.Sublist.refl _)
         exact ⟨_, H, F.ra Aa, W⟩
        rintro a w ⟨x11, hj, F, W⟩
        have hj := Av hj
        subst hj
        have H := K8
        clear G8 K8
        refine vc tk 5 F W fun a w F W => ?_
        refine Ac ?_
        have W := W.frontM (i := 1) Aa Aa
        have W := W.frontM (i := 1) Aa Aa
        exact ⟨_, H, F.ra Aa, W⟩
       refine Ay ?_
       iterate 2 refine AO ?_
       refine Az (Ac ?_)
       have W := W.frontM (i := 1) Aa Aa
       have W := W.frontM (i := 1) Aa Aa
       have H := L7 _ H
       exact ⟨_, H, F.ra Aa, W⟩
      rintro a w ⟨x8, hj, F, W⟩
      have hj := Av hj
      subst hj
      have H := K6
      clear G6 K6
      obtain ⟨o10, G10, K10⟩ := Ae H
      refine Aj (fun a w => ∃ x17 : Bool, some (x17) = some o10 ∧ Fr 154 [] [(1, v3), (2, v4), (4, .pointer (some ⟨b1, 0, none⟩)), (7, .pointer (some ⟨b2, 0, none⟩)), (8, .slice none 0 0), (9, v13), (10, .int .i64 x3), (11, .int .i64 x6), (89, .bool x17)] a ∧ Stw ⟨Y, [], w0⟩ (Cf b2 v5 v6 p3 b1 p0 v1 v2) [row v13 59 Dk x5] w) ?_ ?_
      ·
       have H := G10
       clear G10 K10
       refine Bi W MO (by kernel_rfl) ?_
       iterate 2 refine qs F Aa (Ak F Aa).q fun a F => ?_
       obtain ⟨x18, h11, H⟩ := Ae H
       obtain ⟨v16, h12, h13⟩ := Co h1 h11
       have h14 : C2 v16 = [(v16.1)] := congrArg (fun q : List Int => ([(v16.1)] : List Value)) h13
       refine qs F Aa (Al (r := (Rp.vsl (Rp.int .i64))) Ke F Aa Aa (Ab h_v3) h12).q fun a F => ?_
       refine qs F Aa (Ag (y := (v16.1)) (j := 0) (i := x3) (enc := C2) F Aa Aa (Ab h_v3) h12 Gd Jv (by rw [h14]; rfl)).q fun a F => ?_
       refine qs F Aa (Ak F Aa).q fun a F => ?_
       obtain ⟨x19, h15, H⟩ := Ae H
       refine qs F Aa (Al (r := (Rp.int .i64)) FS F Aa Aa (A4 (Ab h_v3) h12 BL.here (congrArg (fun q : List Int => q) h13)) h15).q fun a F => ?_
       refine qs F Aa (Ag (y := Value.int .i64 x19) (j := 0) (i := x6) F Aa Aa (A4 (Ab h_v3) h12 BL.here (congrArg (fun q : List Int => q) h13)) h15 Fl.int.to T3 Aa).q fun a F => ?_
       iterate 2 refine qs F Aa (Ak F Aa).q fun a F => ?_
       obtain ⟨x20, h16, H⟩ := Ae H
       obtain ⟨v17, h17, h18⟩ := Co h2 h16
       have h19 : C2 v17 = [(v17.1)] := congrArg (fun q : List Int => ([(v17.1)] : List Value)) h18
       refine qs F Aa (Al (r := (Rp.vsl (Rp.int .i64))) Ke F Aa Aa (Ab h_v4) h17).q fun a F => ?_
       refine qs F Aa (Ag (y := (v17.1)) (j := 0) (i := x3) (enc := C2) F Aa Aa (Ab h_v4) h17 Gd Jv (by rw [h19]; rfl)).q fun a F => ?_
       refine qs F Aa (Ak F Aa).q fun a F => ?_
       obtain ⟨x21, h20, H⟩ := Ae H
       refine qs F Aa (Al (r := (Rp.int .i64)) FS F Aa Aa (A4 (Ab h_v4) h17 BL.here (congrArg (fun q : List Int => q) h18)) h20).q fun a F => ?_
       refine qs F Aa (Ag (y := Value.int .i64 x21) (j := 0) (i := x6) F Aa Aa (A4 (Ab h_v4) h17 BL.here (congrArg (fun q : List Int => q) h18)) h20 Fl.int.to T3 Aa).q fun a F => ?_
       refine qs F Aa (IU F Aa Aa).q fun a F => ?_
       refine qs F Aa (Ak F Aa).q fun a F => ?_
       rcases Bool.eq_false_or_eq_true (decide (x19 ≠ x21)) with hb | hb
       ·
        have H := B5 (CT hb) H
        rw [hb] at F
        clear hb
        refine AH F (Ad F Aa Aa Aa Aa) Aa (Ah Aa) (Ak F Aa).q fun a F => ?_
        refine AH F (Ad F Aa Aa Aa Aa) Aa (Ah Aa) (IU F Aa Aa).q fun a F => ?_
        refine qs F Aa (Be F Aa Aa Aa).q fun a F => ?_
        refine AB fun w W => ?_
        refine Ac ?_
        have W := W.frontM (i := 1) Aa Aa
        have W := W.frontM (i := 1) Aa Aa
        exact ⟨_, H, F.ra Aa, W⟩
       have H := B6 (CV hb) H
       rw [hb] at F
       clear hb
       iterate 2 refine Bg F (A1 F Aa Aa Aa Aa Aa) Aa Aa fun a F => ?_
       refine qs F Aa (Bk F Aa Aa Aa).q fun a F => ?_
       refine AB fun w W => ?_
       refine Ac ?_
       have W := W.frontM (i := 1) Aa Aa
       have W := W.frontM (i := 1) Aa Aa
       exact ⟨_, H, F.ra Aa, W⟩
      rintro a w ⟨x17, hj, F, W⟩
      have hj := Av hj
      subst hj
      have H := K10
      clear G10 K10
      refine B0 F Aa H (fun F H => ?_) fun F H => ?_
      ·
       refine vc tk 4 F W fun a w F W => ?_
       refine ls F W Aa (Bx (v := Value.agg #[.int .i64 2, .int .i64 x3, .int .i64 x6]) UW F Aa Aa Aa).q fun a w F W => ?_
       refine Cp (z := Value.agg #[.int .i64 0, .int .i64 0, .int .i64 0]) (cs := [.int .i64 2, .int .i64 x3, .int .i64 x6]) Dk ([(2, x3, x6)] : List (Int × Int × Int)) F W Aa Pl UZ Aa Aa Aa Aa Aa Aa (Te.repL _ _ ([(2, x3, x6)] : List (Int × Int × Int))) fun v18 a w F W => ?_
       obtain ⟨x22, h21, H⟩ := Ae H
       refine BF (r := Dk) (i := 1) F W Aa Pl Aa Aa Aa Aa (Cr W 0 Aa) h21 Aa fun v19 a w F W => ?_
       have W : Stw ⟨Y, [], w0⟩ (Cf b2 v5 v6 p3 b1 p0 v1 v2) [row v19 59 Dk x22, row v18 59 Dk ([(2, x3, x6)] : List (Int × Int × Int))] w := W
       refine vl tk 2 F W fun a w F W => ?_
       refine An (Ac ?_)
       have W := W.frontM (i := 1) Aa Aa
       have W := W.frontM (i := 1) Aa Aa
       have W := W.sub (M' := (Cf b2 v5 v6 p3 b1 p0 v1 v2)) (Z' := [row v19 59 Dk x22]) (List.Sublist.refl _) (List.Sublist.cons_cons _ (List.nil_sublist _))
       exact ⟨_, (v19), H, F.ra Aa, W⟩
      refine As (An (Ac ?_))
      have W := W.frontM (i := 1) Aa Aa
      have W := W.frontM (i := 1) Aa Aa
      exact ⟨_, (v13), H, F.ra Aa, W⟩
     rintro a w ⟨x7, v14, hj, F, W⟩
     have hj := Av hj
     subst hj
     have H := K5
     clear G5 K5
     refine vc tk 5 F W fun a w F W => ?_
     refine Ac ?_
     have W := W.frontM (i := 1) Aa Aa
     have W := W.frontM (i := 1) Aa Aa
     exact ⟨_, H, (v14), F.ra Aa, W⟩
    refine Ay ?_
    iterate 2 refine AO ?_
    refine Az (An (Ac ?_))
    have W := W.frontM (i := 1) Aa Aa
    have W := W.frontM (i := 1) Aa Aa
    have H := L4 _ H
    exact ⟨_, (v13), H, F.ra Aa, W⟩
   rintro a w ⟨x4, v12, hj, F, W⟩
   have hj := Av hj
   subst hj
   have H := K3
   clear G3 K3
   refine vc tk 5 F W fun a w F W => ?_
   refine Ac ?_
   have W := W.frontM (i := 1) Aa Aa
   have W := W.frontM (i := 1) Aa Aa
   exact ⟨_, H, (v12), F.ra Aa, W⟩
  refine Ay ?_
  iterate 2 refine AO ?_
  refine Az (Ac ?_)
  have W := W.frontM (i := 1) Aa Aa
  have W := W.frontM (i := 1) Aa Aa
  have H := L2 _ H
  exact ⟨_, (v11), H, F.ra Aa, W⟩
 rintro a w ⟨x1, v10, hj, F, W⟩
 have hj := Av hj
 subst hj
 have H := K1
 clear G1 K1
 obtain ⟨o11, G11, K11⟩ := Ae H
 refine Aj (fun a w => ∃ x23 : List (Int × Int × Int), ∃ v20 : Value, some (x23) = some o11 ∧ Fr 154 [] [(8, .slice none 0 0), (9, v20)] a ∧ Stw ⟨Y, [], w0⟩ (Cf b2 v5 v6 p3 b1 p0 v1 v2) [row v20 59 Dk x23] w) ?_ ?_
 ·
  have H := G11
  clear G11 K11
  refine vc tk 6 F W fun a w F W => ?_
  have W := W.frontM (i := 1) Aa Aa
  have W := W.frontM (i := 1) Aa Aa
  refine AA H (fun s a w => ∃ v21 : Value, Fr 154 [] [(1, v3), (2, v4), (4, .pointer (some ⟨b1, 0, none⟩)), (7, .pointer (some ⟨b2, 0, none⟩)), (8, .slice none 0 0), (9, v21), (15, .int .i64 s.2)] a ∧ Stw ⟨Y, [], w0⟩ (Cf b2 v5 v6 p3 b1 p0 v1 v2) [row v21 59 Dk s.1] w) ⟨(v10), F.ra Aa, W⟩ fun s o a w H L12 hR => ?_
  obtain ⟨x24, x25⟩ := s
  obtain ⟨v21, F, W⟩ := hR
  have F : Fr 154 [] [(1, v3), (2, v4), (4, .pointer (some ⟨b1, 0, none⟩)), (7, .pointer (some ⟨b2, 0, none⟩)), (8, .slice none 0 0), (9, v21), (15, .int .i64 x25)] a := F
  have W : Stw ⟨Y, [], w0⟩ (Cf b2 v5 v6 p3 b1 p0 v1 v2) [row v21 59 Dk x24] w := W
  rw [ET] at H
  refine D3 tk 6 [0] F W (ai fun a w F W => ?_)
  refine ls F W Aa (AR (r := I6) (l := p3.1) PD Aa F Aa (Ab h_v5)).q fun a w F W => ?_
  refine Bz tk 3 F W fun a w F W => ?_
  refine AN F Aa H (fun F H => ?_) fun F H => ?_
  ·
   refine As (Ac ?_)
   obtain ⟨o13, G13, K13⟩ := Ae H
   refine Aj (fun a w => ∃ x26 : List (Int × Int × Int), ∃ v22 : Value, some (x26) = some o13 ∧ Fr 154 [] [(1, v3), (2, v4), (4, .pointer (some ⟨b1, 0, none⟩)), (7, .pointer (some ⟨b2, 0, none⟩)), (8, .slice none 0 0), (9, v22), (15, .int .i64 x25)] a ∧ Stw ⟨Y, [], w0⟩ (Cf b2 v5 v6 p3 b1 p0 v1 v2) [row v22 59 Dk x26] w) ?_ ?_
   ·
    have H := G13
    clear G13 K13
    refine D3 tk 6 [0] F W (ai fun a w F W => ?_)
    obtain ⟨x27, h22, H⟩ := Ae H
    refine ls F W Aa (Al (r := I6) P7 F Aa Aa (Ab h_v5) h22).q fun a w F W => ?_
    refine ls F W Aa (Ag (y := Value.agg #[.int .i64 x27.1, .int .i64 x27.2.1, .int .i64 x27.2.2.1, .int .i64 x27.2.2.2]) (j := 0) (i := x25) F Aa Aa (Ab h_v5) h22 P2.to TD Aa).q fun a w F W => ?_
    refine BU (cs := (Oy)) F W Aa W8 Aa fun b4 a w F W => ?_
    refine Fv 0 F W Aa Aa Aa TD Aa Aa Aa fun w W => ?_
    refine DP (Ac ?_)
    obtain ⟨o14, G14, K14⟩ := Ae H
    refine Aj (fun a w => ∃ x28 : Bool, some (x28) = some o14 ∧ Fr 154 [] [(1, v3), (2, v4), (4, .pointer (some ⟨b1, 0, none⟩)), (7, .pointer (some ⟨b2, 0, none⟩)), (8, .slice none 0 0), (9, v21), (15, .int .i64 x25), (16, .pointer (some ⟨b4, 0, none⟩)), (145, .bool x28)] a ∧ Stw ⟨Y, [], w0⟩ [(b4, (CM x27)), (b2, [v5, v6, .int .i64 p3.2.2.1, .int .i64 p3.2.2.2.1, .int .i64 p3.2.2.2.2.1, .int .i64 p3.2.2.2.2.2]), (b1, [.int .i64 p0.1, v1, v2])] [row v21 59 Dk x24] w) ?_ ?_
    ·
     have H := G14
     clear G14 K14
     refine Bi W MO (by kernel_rfl) ?_
     refine qs F Aa (AK (v := Value.agg #[.int .i64 p0.1, v1, v2]) 2 F Aa Aa R8 Aa).q fun a F => ?_
     refine qs F Aa (AK (v := Value.agg #[.int .i64 x27.1, .int .i64 x27.2.1, .int .i64 x27.2.2.1, .int .i64 x27.2.2.2]) 0 F Aa Aa TD Aa).q fun a F => ?_
     refine qs F Aa (AL (v := Value.bool (DM p0 x27)) F Yw Aa (fun w W => RB any w (v1) (v2) p0 x27 _ Aa (Ci (Ab h_v1) W) (Ci (Ab h_v2) W))) fun a F => ?_
     refine qs F Aa (MF F Aa).q fun a F => ?_
     refine qs F Aa (Ak F Aa).q fun a F => ?_
     rcases Bool.eq_false_or_eq_true (!(DM p0 x27)) with hb | hb
     ·
      have H := B5 hb H
      rw [hb] at F
      clear hb
      iterate 12 refine Bg F (A1 F Aa Aa Aa Aa Aa) Aa Aa fun a F => ?_
      refine qs F Aa (Be F Aa Aa Aa).q fun a F => ?_
      refine qs F Aa (Ak F Aa).q fun a F => ?_
      iterate 12 refine Bg F (A1 F Aa Aa Aa Aa Aa) Aa Aa fun a F => ?_
      refine qs F Aa (Be F Aa Aa Aa).q fun a F => ?_
      refine qs F Aa (Ak F Aa).q fun a F => ?_
      iterate 4 refine Bg F (A1 F Aa Aa Aa Aa Aa) Aa Aa fun a F => ?_
      refine qs F Aa (Be F Aa Aa Aa).q fun a F => ?_
      refine AB fun w W => ?_
      refine Ac ?_
      have W := W.frontM (i := 2) Aa Aa
      have W := W.frontM (i := 2) Aa Aa
      have W := W.frontM (i := 2) Aa Aa
      exact ⟨_, H, F.ra Aa, W⟩
     have H := B6 (by rw [hb]; decide) H
     rw [hb] at F
     clear hb
     refine AH F (Ad F Aa Aa Aa Aa) Aa (Ah Aa) (Ak F Aa).q fun a F => ?_
     refine AH F (Ad F Aa Aa Aa Aa) Aa (Ah Aa) (Af HM Aa Aa Aa T3 F Aa 0 Aa).q fun a F => ?_
     refine AH F (Ad F Aa Aa Aa Aa) Aa (Ah Aa) (AK (v := Value.int .i64 x27.1) 0 F Aa Aa T3 Aa).q fun a F => ?_
     obtain ⟨x29, h23, H⟩ := Ae H
     obtain ⟨v23, h24, h25⟩ := Co h2 h23
     have h26 : C2 v23 = [(v23.1)] := congrArg (fun q : List Int => ([(v23.1)] : List Value)) h25
     refine AH F (Ad F Aa Aa Aa Aa) Aa (Ah Aa) (Al (r := (Rp.vsl (Rp.int .i64))) Ke F Aa Aa (Ab h_v4) h24).q fun a F => ?_
     refine AH F (Ad F Aa Aa Aa Aa) Aa (Ah Aa) (Ag (y := (v23.1)) (j := 0) (i := x27.1) (enc := C2) F Aa Aa (Ab h_v4) h24 Gd Jv (by rw [h26]; rfl)).q fun a F => ?_
     refine AH F (Ad F Aa Aa Aa Aa) Aa (Ah Aa) (Af HM Aa Aa Aa T3 F Aa 1 Aa).q fun a F => ?_
     refine AH F (Ad F Aa Aa Aa Aa) Aa (Ah Aa) (AK (v := Value.int .i64 x27.2.1) 0 F Aa Aa T3 Aa).q fun a F => ?_
     obtain ⟨x30, h27, H⟩ := Ae H
     refine AH F (Ad F Aa Aa Aa Aa) Aa (Ah Aa) (Al (r := (Rp.int .i64)) FS F Aa Aa (A4 (Ab h_v4) h24 BL.here (congrArg (fun q : List Int => q) h25)) h27).q fun a F => ?_
     refine AH F (Ad F Aa Aa Aa Aa) Aa (Ah Aa) (Ag (y := Value.int .i64 x30) (j := 0) (i := x27.2.1) F Aa Aa (A4 (Ab h_v4) h24 BL.here (congrArg (fun q : List Int => q) h25)) h27 Fl.int.to T3 Aa).q fun a F => ?_
     refine AH F (Ad F Aa Aa Aa Aa) Aa (Ah Aa) (Af HM Aa Aa Aa T3 F Aa 2 Aa).q fun a F => ?_
     refine AH F (Ad F Aa Aa Aa Aa) Aa (Ah Aa) (AK (v := Value.int .i64 x27.2.2.1) 0 F Aa Aa T3 Aa).q fun a F => ?_
     refine AH F (Ad F Aa Aa Aa Aa) Aa (Ah Aa) (IU F Aa Aa).q fun a F => ?_
     refine qs F Aa (Bk F Aa Aa Aa).q fun a F => ?_
     refine qs F Aa (Ak F Aa).q fun a F => ?_
     rcases Bool.eq_false_or_eq_true (decide (x30 ≠ x27.2.2.1)) with hb | hb
     ·
      have H := B5 (CT hb) H
      rw [hb] at F
      clear hb
      iterate 12 refine Bg F (A1 F Aa Aa Aa Aa Aa) Aa Aa fun a F => ?_
      refine qs F Aa (Be F Aa Aa Aa).q fun a F => ?_
      refine qs F Aa (Ak F Aa).q fun a F => ?_
      iterate 4 refine Bg F (A1 F Aa Aa Aa Aa Aa) Aa Aa fun a F => ?_
      refine qs F Aa (Be F Aa Aa Aa).q fun a F => ?_
      refine AB fun w W => ?_
      refine Ac ?_
      have W := W.frontM (i := 2) Aa Aa
      have W := W.frontM (i := 2) Aa Aa
      have W := W.frontM (i := 2) Aa Aa
      exact ⟨_, H, F.ra Aa, W⟩
     have H := B6 (CV hb) H
     rw [hb] at F
     clear hb
     refine AH F (Ad F Aa Aa Aa Aa) Aa (Ah Aa) (Ak F Aa).q fun a F => ?_
     refine AH F (Ad F Aa Aa Aa Aa) Aa (Ah Aa) (Af HM Aa Aa Aa T3 F Aa 0 Aa).q fun a F => ?_
     refine AH F (Ad F Aa Aa Aa Aa) Aa (Ah Aa) (AK (v := Value.int .i64 x27.1) 0 F Aa Aa T3 Aa).q fun a F => ?_
     obtain ⟨x31, h28, H⟩ := Ae H
     obtain ⟨v24, h29, h30⟩ := Co h1 h28
     have h31 : C2 v24 = [(v24.1)] := congrArg (fun q : List Int => ([(v24.1)] : List Value)) h30
     refine AH F (Ad F Aa Aa Aa Aa) Aa (Ah Aa) (Al (r := (Rp.vsl (Rp.int .i64))) Ke F Aa Aa (Ab h_v3) h29).q fun a F => ?_
     refine AH F (Ad F Aa Aa Aa Aa) Aa (Ah Aa) (Ag (y := (v24.1)) (j := 0) (i := x27.1) (enc := C2) F Aa Aa (Ab h_v3) h29 Gd Jv (by rw [h31]; rfl)).q fun a F => ?_
     refine AH F (Ad F Aa Aa Aa Aa) Aa (Ah Aa) (Af HM Aa Aa Aa T3 F Aa 1 Aa).q fun a F => ?_
     refine AH F (Ad F Aa Aa Aa Aa) Aa (Ah Aa) (AK (v := Value.int .i64 x27.2.1) 0 F Aa Aa T3 Aa).q fun a F => ?_
     obtain ⟨x32, h32, H⟩ := Ae H
     refine AH F (Ad F Aa Aa Aa Aa) Aa (Ah Aa) (Al (r := (Rp.int .i64)) FS F Aa Aa (A4 (Ab h_v3) h29 BL.here (congrArg (fun q : List Int => q) h30)) h32).q fun a F => ?_
     refine AH F (Ad F Aa Aa Aa Aa) Aa (Ah Aa) (Ag (y := Value.int .i64 x32) (j := 0) (i := x27.2.1) F Aa Aa (A4 (Ab h_v3) h29 BL.here (congrArg (fun q : List Int => q) h30)) h32 Fl.int.to T3 Aa).q fun a F => ?_
     refine AH F (Ad F Aa Aa Aa Aa) Aa (Ah Aa) (Af HM Aa Aa Aa T3 F Aa 2 Aa).q fun a F => ?_
     refine AH F (Ad F Aa Aa Aa Aa) Aa (Ah Aa) (AK (v := Value.int .i64 x27.2.2.1) 0 F Aa Aa T3 Aa).q fun a F => ?_
     refine AH F (Ad F Aa Aa Aa Aa) Aa (Ah Aa) (Iq F Aa Aa).q fun a F => ?_
     refine qs F Aa (Bk F Aa Aa Aa).q fun a F => ?_
     refine qs F Aa (Ak F Aa).q fun a F => ?_
     rcases Bool.eq_false_or_eq_true (decide (x32 = x27.2.2.1)) with hb | hb
     ·
      have H := B5 (CT hb) H
      rw [hb] at F
      clear hb
      iterate 4 refine Bg F (A1 F Aa Aa Aa Aa Aa) Aa Aa fun a F => ?_
      refine qs F Aa (Be F Aa Aa Aa).q fun a F => ?_
      refine AB fun w W => ?_
      refine Ac ?_
      have W := W.frontM (i := 2) Aa Aa
      have W := W.frontM (i := 2) Aa Aa
      have W := W.frontM (i := 2) Aa Aa
      exact ⟨_, H, F.ra Aa, W⟩
     have H := B6 (CV hb) H
     rw [hb] at F
     clear hb
     refine AH F (Ad F Aa Aa Aa Aa) Aa (Ah Aa) (AK (v := Value.agg #[v5, v6, .int .i64 p3.2.2.1, .int .i64 p3.2.2.2.1, .int .i64 p3.2.2.2.2.1, .int .i64 p3.2.2.2.2.2]) 1 F Aa Aa UY Aa).q fun a F => ?_
     refine AH F (Ad F Aa Aa Aa Aa) Aa (Ah Aa) (AK (v := Value.agg #[.int .i64 x27.1, .int .i64 x27.2.1, .int .i64 x27.2.2.1, .int .i64 x27.2.2.2]) 0 F Aa Aa TD Aa).q fun a F => ?_
     obtain ⟨x33, h33, H⟩ := Ae H
     refine AH F (Ad F Aa Aa Aa Aa) Aa (Ah Aa) (AL (v := Value.bool x33) F WN Aa (fun w W => My any w (v5) (v6) p3 x27 _ h33 (Ci (Ab h_v5) W) (Ci (Aq Fp h3 (Ab h_v6)) W))) fun a F => ?_
     refine AH F (Ad F Aa Aa Aa Aa) Aa (Ah Aa) (MF F Aa).q fun a F => ?_
     refine qs F Aa (Bk F Aa Aa Aa).q fun a F => ?_
     refine AB fun w W => ?_
     refine Ac ?_
     have W := W.frontM (i := 2) Aa Aa
     have W := W.frontM (i := 2) Aa Aa
     have W := W.frontM (i := 2) Aa Aa
     exact ⟨_, H, F.ra Aa, W⟩
    rintro a w ⟨x28, hj, F, W⟩
    have hj := Av hj
    subst hj
    have H := K14
    clear G14 K14
    refine B0 F Aa H (fun F H => ?_) fun F H => ?_
    ·
     refine D3 tk 5 [0] F W (ai fun a w F W => ?_)
     refine ls F W Aa (Bx (v := Value.agg #[.int .i64 3, .int .i64 x25, .int .i64 x27.2.1]) UW F Aa Aa Aa).q fun a w F W => ?_
     refine Cp (z := Value.agg #[.int .i64 0, .int .i64 0, .int .i64 0]) (cs := [.int .i64 3, .int .i64 x25, .int .i64 x27.2.1]) Dk ([(3, x25, x27.2.1)] : List (Int × Int × Int)) F W Aa Pl UZ Aa Aa Aa Aa Aa Aa (Te.repL _ _ ([(3, x25, x27.2.1)] : List (Int × Int × Int))) fun v25 a w F W => ?_
     obtain ⟨x34, h34, H⟩ := Ae H
     refine BF (r := Dk) (i := 1) F W Aa Pl Aa Aa Aa Aa (Cr W 0 Aa) h34 Aa fun v26 a w F W => ?_
     have W : Stw ⟨Y, [], w0⟩ [(b4, (CM x27)), (b2, [v5, v6, .int .i64 p3.2.2.1, .int .i64 p3.2.2.2.1, .int .i64 p3.2.2.2.2.1, .int .i64 p3.2.2.2.2.2]), (b1, [.int .i64 p0.1, v1, v2])] [row v26 59 Dk x34, row v25 59 Dk ([(3, x25, x27.2.1)] : List (Int × Int × Int))] w := W
     refine vl tk 2 F W fun a w F W => ?_
     refine An (Ac ?_)
     have W := W.frontM (i := 2) Aa Aa
     have W := W.frontM (i := 2) Aa Aa
     have W := W.sub (M' := (Cf b2 v5 v6 p3 b1 p0 v1 v2)) (Z' := [row v26 59 Dk x34]) (List.Sublist.cons_cons _ (List.Sublist.cons_cons _ (List.nil_sublist _))) (List.Sublist.cons_cons _ (List.nil_sublist _))
     exact ⟨_, (v26), H, F.ra Aa, W⟩
    refine As (An (Ac ?_))
    have W := W.frontM (i := 2) Aa Aa
    have W := W.frontM (i := 2) Aa Aa
    have W := W.sub (M' := (Cf b2 v5 v6 p3 b1 p0 v1 v2)) (Z' := [row v21 59 Dk x24]) (List.Sublist.cons_cons _ (List.Sublist.cons_cons _ (List.nil_sublist _))) (List.Sublist.refl _)
    exact ⟨_, (v21), H, F.ra Aa, W⟩
   rintro a w ⟨x26, v22, hj, F, W⟩
   have hj := Av hj
   subst hj
   have H := K13
   clear G13 K13
   refine vc tk 5 F W fun a w F W => ?_
   refine Ac ?_
   have W := W.frontM (i := 1) Aa Aa
   have W := W.frontM (i := 1) Aa Aa
   exact ⟨_, H, (v22), F.ra Aa, W⟩
  refine Ay ?_
  iterate 2 refine AO ?_
  refine Az (Ac ?_)
  have W := W.frontM (i := 1) Aa Aa
  have W := W.frontM (i := 1) Aa Aa
  have H := L12 _ H
  exact ⟨_, (v21), H, F.ra Aa, W⟩
 rintro a w ⟨x23, v20, hj, F, W⟩
 have hj := Av hj
 subst hj
 have H := K11
 clear G11 K11
 refine vc tk 6 F W fun a w F W => ?_
 refine Ao ?_
 have H := Av H
 subst H
 refine AE (.inl Aa) F W Aa (Ai F Aa) ?_
 have W := W.sub (M' := []) (Z' := [row v20 59 Dk x23]) (List.nil_sublist _) (List.Sublist.refl _)
 exact ⟨(v20), Aa, W⟩
theorem X1 : Has Try.prog 24 := BS Try.func24
def Dd (p0 : Int) (p1 : Int) (p2 : Int) : Int := (if p0 < p1 then p1 else (if p2 < p0 then p2 else p0))
theorem Kb (Y : Nat → Prop) (w0 : World)  (p0 : Int) (p1 : Int) (p2 : Int) (r : Int) (H : Dd p0 p1 p2 = r)  :
    Calls Try.prog 45 #[.int .i64 p0, .int .i64 p1, .int .i64 p2] w0 fun e w' => e = .returned (.int .i64 r) ∧ Below w0.heap.size w0 w' := by
 refine enter Try.func45 Aa Try.ntmps45 Aa fun a F => ?_
 have W := Stw.start Y w0
 unfold Dd at H
 refine vc tk 13 F W fun a w F W => ?_
 refine AN F Aa H (fun F H => ?_) fun F H => ?_
 ·
  refine vc tk 6 F W fun a w F W => ?_
  refine Ao (Aw ?_)
  subst H
  refine AE (.inl Aa) F W Aa (Ai F Aa) ?_
  exact ⟨rfl, W.done⟩
 refine Gm tk 10 F W fun a w F W => ?_
 refine AN F Aa H (fun F H => ?_) fun F H => ?_
 ·
  refine vc tk 6 F W fun a w F W => ?_
  refine Ao (Aw ?_)
  subst H
  refine AE (.inl Aa) F W Aa (Ai F Aa) ?_
  exact ⟨rfl, W.done⟩
 refine Gm tk 8 F W fun a w F W => ?_
 refine Ao ?_
 subst H
 refine AE (.inl Aa) F W Aa (Ai F Aa) ?_
 exact ⟨rfl, W.done⟩
theorem WA : Has Try.prog 45 := BS Try.func45
noncomputable def Ds (p0 : Int × (List (Int × Int × Int × Int × Int × Int)) × (List (Int × Int))) : (Int × Int) → Option ((Int × Int) ⊕ Int)
  | (x2, x3) => (if x3 < (p0.2.1.length : Int) then ((ix p0.2.1 x3).bind fun x5 => (if x2 < x5.2.2.2.2.2 then (ix p0.2.1 x3).bind fun x6 => some x6.2.2.2.2.2 else some x2)).bind fun x4 => some (.inl (x4, A3 (x3 + 1))) else some (.inr x2))
noncomputable def Gf (p0 : Int × (List (Int × Int × Int × Int × Int × Int)) × (List (Int × Int))) : Option Int := (Au (Ds p0) (0, 0)).bind fun x1 => some x1
theorem MV (Y : Nat → Prop) (w0 : World) (v1 : Value) (v2 : Value) (p0 : Int × (List (Int × Int × Int × Int × Int × Int)) × (List (Int × Int))) (r : Int) (H : Gf p0 = some r) (h_v1 : Sl w0 (NX []) Er v1 p0.2.1) (h_v2 : Sl w0 (NX []) Ec v2 p0.2.2) :
    Calls Try.prog 66 #[.agg #[.int .i64 p0.1, v1, v2]] w0 fun e w' => e = .returned (.int .i64 r) ∧ Below w0.heap.size w0 w' := by
 refine enter Try.func66 Aa Try.ntmps66 Aa fun a F => ?_
 have W := Stw.start Y w0
 unfold Gf at H
 refine vc tk 2 F W fun a w F W => ?_
 refine Bq (cs := [.int .i64 p0.1, v1, v2]) F W Aa Aa Aa fun b1 a w F W => ?_
 refine Bz tk 8 F W fun a w F W => ?_
 obtain ⟨o1, G1, K1⟩ := Ae H
 refine Aj (fun a w => ∃ x1 : Int, some (x1) = some o1 ∧ Fr 27 [] [(2, .int .i64 0), (3, .int .i64 x1)] a ∧ Stw ⟨Y, [], w0⟩ [(b1, [.int .i64 p0.1, v1, v2])] [] w) ?_ ?_
 ·
  have H := G1
  clear G1 K1
  refine vc tk 6 F W fun a w F W => ?_
  refine AA H (fun s a w => Fr 27 [] [(1, .pointer (some ⟨b1, 0, none⟩)), (2, .int .i64 0), (3, .int .i64 s.1), (4, .int .i64 s.2)] a ∧ Stw ⟨Y, [], w0⟩ [(b1, [.int .i64 p0.1, v1, v2])] [] w) ⟨F.ra Aa, W⟩ fun s o a w H L2 hR => ?_
  obtain ⟨x2, x3⟩ := s
  obtain ⟨F, W⟩ := hR
  have F : Fr 27 [] [(1, .pointer (some ⟨b1, 0, none⟩)), (2, .int .i64 0), (3, .int .i64 x2), (4, .int .i64 x3)] a := F
  have W : Stw ⟨Y, [], w0⟩ [(b1, [.int .i64 p0.1, v1, v2])] [] w := W
  rw [Ds] at H
  refine D3 tk 6 [0] F W (ai fun a w F W => ?_)
  refine ls F W Aa (AR (r := Er) (l := p0.2.1) LE Aa F Aa (Ab h_v1)).q fun a w F W => ?_
  refine Bz tk 3 F W fun a w F W => ?_
  refine AN F Aa H (fun F H => ?_) fun F H => ?_
  ·
   refine As (Ac ?_)
   obtain ⟨o3, G3, K3⟩ := Ae H
   refine Aj (fun a w => ∃ x4 : Int, some (x4) = some o3 ∧ Fr 27 [] [(1, .pointer (some ⟨b1, 0, none⟩)), (2, .int .i64 0), (3, .int .i64 x4), (4, .int .i64 x3)] a ∧ Stw ⟨Y, [], w0⟩ [(b1, [.int .i64 p0.1, v1, v2])] [] w) ?_ ?_
   ·
    have H := G3
    clear G3 K3
    refine D3 tk 6 [0] F W (ai fun a w F W => ?_)
    obtain ⟨x5, h1, H⟩ := Ae H
    refine ls F W Aa (Al (r := Er) SQ F Aa Aa (Ab h_v1) h1).q fun a w F W => ?_
    refine ls F W Aa (Af MG Aa Aa Aa T3 F Aa (CS v1 + (x3).toNat * 6 + 5) Aa).q fun a w F W => ?_
    refine ls F W Aa (Ag (y := Value.int .i64 x5.2.2.2.2.2) (j := 5) (i := x3) F Aa Aa (Ab h_v1) h1 SO.to T3 Aa).q fun a w F W => ?_
    refine Bz tk 4 F W fun a w F W => ?_
    refine AN F Aa H (fun F H => ?_) fun F H => ?_
    ·
     refine D3 tk 4 [0] F W (ai fun a w F W => ?_)
     obtain ⟨x6, h2, H⟩ := Ae H
     refine ls F W Aa (Al (r := Er) SQ F Aa Aa (Ab h_v1) h2).q fun a w F W => ?_
     refine ls F W Aa (Af MG Aa Aa Aa T3 F Aa (CS v1 + (x3).toNat * 6 + 5) Aa).q fun a w F W => ?_
     refine ls F W Aa (Ag (y := Value.int .i64 x6.2.2.2.2.2) (j := 5) (i := x3) F Aa Aa (Ab h_v1) h2 SO.to T3 Aa).q fun a w F W => ?_
     refine vl tk 2 F W fun a w F W => ?_
     refine An (Ac ?_)
     exact ⟨_, H, F.ra Aa, W⟩
    refine As (An (Ac ?_))
    exact ⟨_, H, F.ra Aa, W⟩
   rintro a w ⟨x4, hj, F, W⟩
   have hj := Av hj
   subst hj
   have H := K3
   clear G3 K3
   refine vc tk 5 F W fun a w F W => ?_
   refine Ac ?_
   exact ⟨_, H, F.ra Aa, W⟩
  refine Ay ?_
  iterate 2 refine AO ?_
  refine Az (Ac ?_)
  have H := L2 _ H
  exact ⟨_, H, F.ra Aa, W⟩
 rintro a w ⟨x1, hj, F, W⟩
 have hj := Av hj
 subst hj
 have H := K1
 clear G1 K1
 refine vc tk 6 F W fun a w F W => ?_
 refine Ao ?_
 have H := Av H
 subst H
 refine AE (.inl Aa) F W Aa (Ai F Aa) ?_
 exact ⟨rfl, W.done⟩
theorem Yb : Has Try.prog 66 := BS Try.func66
noncomputable def Js (p0 : Int × (List (Int × Int × Int × Int × Int × Int)) × (List (Int × Int))) : Option Int := (Gf p0).bind fun x1 => some (A3 (p0.1 * x1))
theorem Pv (Y : Nat → Prop) (w0 : World) (v1 : Value) (v2 : Value) (p0 : Int × (List (Int × Int × Int × Int × Int × Int)) × (List (Int × Int))) (r : Int) (H : Js p0 = some r) (h_v1 : Sl w0 (NX []) Er v1 p0.2.1) (h_v2 : Sl w0 (NX []) Ec v2 p0.2.2) :
    Calls Try.prog 46 #[.agg #[.int .i64 p0.1, v1, v2]] w0 fun e w' => e = .returned (.int .i64 r) ∧ Below w0.heap.size w0 w' := by
 refine enter Try.func46 Aa Try.ntmps46 Aa fun a F => ?_
 have W := Stw.start Y w0
 unfold Js at H
 refine vc tk 2 F W fun a w F W => ?_
 refine Bq (cs := [.int .i64 p0.1, v1, v2]) F W Aa Aa Aa fun b1 a w F W => ?_
 refine Bz tk 4 F W fun a w F W => ?_
 refine Bi W MO (by kernel_rfl) ?_
 refine qs F Aa (Af MR Aa Aa Aa T3 F Aa 0 Aa).q fun a F => ?_
 refine qs F Aa (AK (v := Value.int .i64 p0.1) 0 F Aa Aa T3 Aa).q fun a F => ?_
 refine qs F Aa (AK (v := Value.agg #[.int .i64 p0.1, v1, v2]) 0 F Aa Aa R8 Aa).q fun a F => ?_
 obtain ⟨x1, h1, H⟩ := Ae H
 refine qs F Aa (AL (v := Value.int .i64 x1) F Yb Aa (fun w W => MV any w (v1) (v2) p0 _ h1 (Ci (Ab h_v1) W) (Ci (Ab h_v2) W))) fun a F => ?_
 refine qs F Aa (SL F Aa Aa Aa).q fun a F => ?_
 refine qs F Aa (Bl F Aa).q fun a F => ?_
 refine AB fun w W => ?_
 refine Ac (Ao ?_)
 have H := Av H
 subst H
 refine AE (.inl Aa) F W Aa (Ai F Aa) ?_
 exact ⟨rfl, W.done⟩
theorem XQ : Has Try.prog 46 := BS Try.func46
noncomputable def Fu (p0 : Int × (List (Int × Int × Int × Int × Int × Int)) × (List (Int × Int))) (p1 : (List (Int × Int × Int × Int)) × (List (Int × Int × List Int)) × Int × Int × Int × Int) : ((List (Int × Int × Int)) × Int) → Option (((List (Int × Int × Int)) × Int) ⊕ (List (Int × Int × Int)))
  | (x2, x3) => (if x3 < (p1.2.1.length : Int) then ((ix p1.2.1 (A3 (x3 - 1))).bind fun x5 => (ix p1.2.1 x3).bind fun x6 => (Js p0).bind fun x7 => (if (Dd x6.2.1 (-1125899906842624) 1125899906842624) ≤ (A3 ((A3 ((A3 ((Dd x5.2.1 (-1125899906842624) 1125899906842624) + (Dd p1.2.2.1 0 1048576))) + (Dd p1.2.2.1 0 1048576))) + x7)) then (Fo x2 ([(4, x3, 0)] : List (Int × Int × Int))).bind fun x8 => some x8 else some x2)).bind fun x4 => some (.inl (x4, A3 (x3 + 1))) else some (.inr x2))
noncomputable def H1 (p0 : Int × (List (Int × Int × Int × Int × Int × Int)) × (List (Int × Int))) (p1 : (List (Int × Int × Int × Int)) × (List (Int × Int × List Int)) × Int × Int × Int × Int) : Option (List (Int × Int × Int)) := (Au (Fu p0 p1) ([], 1)).bind fun x1 => some x1
theorem OA (Y : Nat → Prop) (w0 : World) (v1 : Value) (v2 : Value) (v3 : Value) (v4 : Value) (p0 : Int × (List (Int × Int × Int × Int × Int × Int)) × (List (Int × Int))) (p1 : (List (Int × Int × Int × Int)) × (List (Int × Int × List Int)) × Int × Int × Int × Int) (r : (List (Int × Int × Int))) (H : H1 p0 p1 = some r) (h_v1 : Sl w0 (NX []) Er v1 p0.2.1) (h_v2 : Sl w0 (NX []) Ec v2 p0.2.2) (h_v3 : Sl w0 (NX []) I6 v3 p1.1) (h_v4 : Sl w0 (NX []) MK v4 p1.2.1) :
    Calls Try.prog 25 #[.agg #[.int .i64 p0.1, v1, v2], .agg #[v3, v4, .int .i64 p1.2.2.1, .int .i64 p1.2.2.2.1, .int .i64 p1.2.2.2.2.1, .int .i64 p1.2.2.2.2.2]] w0 fun e w' => ∃ x : Value, e = .returned (x) ∧ Stw ⟨Y, [], w0⟩ [] [row (x) 59 Dk r] w' := by
 refine enter Try.func25 Aa Try.ntmps25 Aa fun a F => ?_
 have W := Stw.start Y w0
 obtain ⟨v5, h1, h_v4⟩ := h_v4.ex Fp
 unfold H1 at H
 refine vc tk 2 F W fun a w F W => ?_
 refine Bq (cs := [.int .i64 p0.1, v1, v2]) F W Aa Aa Aa fun b1 a w F W => ?_
 refine Bq (cs := [v3, v4, .int .i64 p1.2.2.1, .int .i64 p1.2.2.2.1, .int .i64 p1.2.2.2.2.1, .int .i64 p1.2.2.2.2.2]) F W Aa Aa Aa fun b2 a w F W => ?_
 refine IG tk 12 [0] F W (ai fun a w F W => ?_)
 refine ls F W Aa (AL (v := Value.int .i64 (Dd p1.2.2.1 0 1048576)) F WA Aa (fun w W => Kb any w p1.2.2.1 0 1048576 _ Aa)) fun a w F W => ?_
 refine vl tk 2 F W fun a w F W => ?_
 refine Ac ?_
 obtain ⟨o1, G1, K1⟩ := Ae H
 refine Aj (fun a w => ∃ x1 : List (Int × Int × Int), ∃ v6 : Value, some (x1) = some o1 ∧ Fr 51 [] [(4, .slice none 0 0), (5, v6)] a ∧ Stw ⟨Y, [], w0⟩ (Cf b2 v3 v4 p1 b1 p0 v1 v2) [row v6 59 Dk x1] w) ?_ ?_
 ·
  have H := G1
  clear G1 K1
  refine vc tk 6 F W fun a w F W => ?_
  have W := W.nilRow 59 Dk
  have W := W.frontM (i := 1) Aa Aa
  have W := W.frontM (i := 1) Aa Aa
  refine AA H (fun s a w => ∃ v7 : Value, Fr 51 [] [(2, .pointer (some ⟨b1, 0, none⟩)), (3, .pointer (some ⟨b2, 0, none⟩)), (4, .slice none 0 0), (5, v7), (6, .int .i64 (Dd p1.2.2.1 0 1048576)), (7, .int .i64 s.2)] a ∧ Stw ⟨Y, [], w0⟩ (Cf b2 v3 v4 p1 b1 p0 v1 v2) [row v7 59 Dk s.1] w) ⟨(Value.slice none 0 0), F.ra Aa, W⟩ fun s o a w H L2 hR => ?_
  obtain ⟨x2, x3⟩ := s
  obtain ⟨v7, F, W⟩ := hR
  have F : Fr 51 [] [(2, .pointer (some ⟨b1, 0, none⟩)), (3, .pointer (some ⟨b2, 0, none⟩)), (4, .slice none 0 0), (5, v7), (6, .int .i64 (Dd p1.2.2.1 0 1048576)), (7, .int .i64 x3)] a := F
  have W : Stw ⟨Y, [], w0⟩ (Cf b2 v3 v4 p1 b1 p0 v1 v2) [row v7 59 Dk x2] w := W
  rw [Fu] at H
  refine D3 tk 6 [0] F W (ai fun a w F W => ?_)
  refine ls F W Aa (AR (r := MK) (l := p1.2.1) PB Aa F Aa (Aq Fp h1 (Ab h_v4))).q fun a w F W => ?_
  refine Bz tk 3 F W fun a w F W => ?_
  refine AN F Aa H (fun F H => ?_) fun F H => ?_
  ·
   refine As (Ac ?_)
   obtain ⟨o3, G3, K3⟩ := Ae H
   refine Aj (fun a w => ∃ x4 : List (Int × Int × Int), ∃ v8 : Value, some (x4) = some o3 ∧ Fr 51 [] [(2, .pointer (some ⟨b1, 0, none⟩)), (3, .pointer (some ⟨b2, 0, none⟩)), (4, .slice none 0 0), (5, v8), (6, .int .i64 (Dd p1.2.2.1 0 1048576)), (7, .int .i64 x3)] a ∧ Stw ⟨Y, [], w0⟩ (Cf b2 v3 v4 p1 b1 p0 v1 v2) [row v8 59 Dk x4] w) ?_ ?_
   ·
    have H := G3
    clear G3 K3
    refine vc tk 2 F W fun a w F W => ?_
    refine Bi W MO (by kernel_rfl) ?_
    refine qs F Aa (Af IY Aa Aa Aa Qe F Aa 1 Aa).q fun a F => ?_
    refine qs F Aa (AK (v := v4) 0 F Aa Aa Qe Aa).q fun a F => ?_
    refine qs F Aa (Ak F Aa).q fun a F => ?_
    refine qs F Aa (OT F Aa Aa Aa).q fun a F => ?_
    obtain ⟨x5, h2, H⟩ := Ae H
    obtain ⟨v9, h3, h4⟩ := Co h1 h2
    have h5 : Jr v9 = [.int .i64 x5.1, .int .i64 x5.2.1, (v9.2.2.1)] := congrArg (fun q : Int × Int × List Int => ([.int .i64 q.1, .int .i64 q.2.1, (v9.2.2.1)] : List Value)) h4
    refine qs F Aa (Al (r := M0) T7 F Aa Aa (Ab h_v4) h3).q fun a F => ?_
    refine qs F Aa (Af Pb Aa Aa Aa T3 F Aa (CS v4 + (A3 (x3 - 1)).toNat * 3 + 1) Aa).q fun a F => ?_
    refine qs F Aa (Ag (y := Value.int .i64 x5.2.1) (j := 1) (i := A3 (x3 - 1)) (enc := Jr) F Aa Aa (Ab h_v4) h3 OO T3 (by rw [h5]; rfl)).q fun a F => ?_
    refine qs F Aa (AL (v := Value.int .i64 (Dd x5.2.1 (-1125899906842624) 1125899906842624)) F WA Aa (fun w W => Kb any w x5.2.1 (-1125899906842624) 1125899906842624 _ Aa)) fun a F => ?_
    refine qs F Aa (Af IY Aa Aa Aa Qe F Aa 1 Aa).q fun a F => ?_
    refine qs F Aa (AK (v := v4) 0 F Aa Aa Qe Aa).q fun a F => ?_
    refine qs F Aa (Ak F Aa).q fun a F => ?_
    obtain ⟨x6, h6, H⟩ := Ae H
    obtain ⟨v10, h7, h8⟩ := Co h1 h6
    have h9 : Jr v10 = [.int .i64 x6.1, .int .i64 x6.2.1, (v10.2.2.1)] := congrArg (fun q : Int × Int × List Int => ([.int .i64 q.1, .int .i64 q.2.1, (v10.2.2.1)] : List Value)) h8
    refine qs F Aa (Al (r := M0) T7 F Aa Aa (Ab h_v4) h7).q fun a F => ?_
    refine qs F Aa (Af Pb Aa Aa Aa T3 F Aa (CS v4 + (x3).toNat * 3 + 1) Aa).q fun a F => ?_
    refine qs F Aa (Ag (y := Value.int .i64 x6.2.1) (j := 1) (i := x3) (enc := Jr) F Aa Aa (Ab h_v4) h7 OO T3 (by rw [h9]; rfl)).q fun a F => ?_
    refine qs F Aa (AL (v := Value.int .i64 (Dd x6.2.1 (-1125899906842624) 1125899906842624)) F WA Aa (fun w W => Kb any w x6.2.1 (-1125899906842624) 1125899906842624 _ Aa)) fun a F => ?_
    iterate 2 refine qs F Aa (Bl F Aa).q fun a F => ?_
    refine AB fun w W => ?_
    refine WP tk 9 [1] F W (ai fun a w F W => ?_)
    obtain ⟨x7, h10, H⟩ := Ae H
    refine ls F W Aa (AL (v := Value.int .i64 x7) F XQ Aa (fun w W => Pv any w (v1) (v2) p0 _ h10 (Ci (Ab h_v1) W) (Ci (Ab h_v2) W))) fun a w F W => ?_
    refine Bz tk 4 F W fun a w F W => ?_
    refine AN F Aa H (fun F H => ?_) fun F H => ?_
    ·
     refine vc tk 3 F W fun a w F W => ?_
     refine ls F W Aa (Bx (v := Value.agg #[.int .i64 4, .int .i64 x3, .int .i64 0]) UW F Aa Aa Aa).q fun a w F W => ?_
     refine Cp (z := Value.agg #[.int .i64 0, .int .i64 0, .int .i64 0]) (cs := [.int .i64 4, .int .i64 x3, .int .i64 0]) Dk ([(4, x3, 0)] : List (Int × Int × Int)) F W Aa Pl UZ Aa Aa Aa Aa Aa Aa (Te.repL _ _ ([(4, x3, 0)] : List (Int × Int × Int))) fun v11 a w F W => ?_
     obtain ⟨x8, h11, H⟩ := Ae H
     refine BF (r := Dk) (i := 1) F W Aa Pl Aa Aa Aa Aa (Cr W 0 Aa) h11 Aa fun v12 a w F W => ?_
     have W : Stw ⟨Y, [], w0⟩ (Cf b2 v3 v4 p1 b1 p0 v1 v2) [row v12 59 Dk x8, row v11 59 Dk ([(4, x3, 0)] : List (Int × Int × Int))] w := W
     refine vl tk 2 F W fun a w F W => ?_
     refine An (Ac ?_)
     have W := W.frontM (i := 1) Aa Aa
     have W := W.frontM (i := 1) Aa Aa
     have W := W.sub (M' := (Cf b2 v3 v4 p1 b1 p0 v1 v2)) (Z' := [row v12 59 Dk x8]) (List.Sublist.refl _) (List.Sublist.cons_cons _ (List.nil_sublist _))
     exact ⟨_, (v12), H, F.ra Aa, W⟩
    refine As (An (Ac ?_))
    have W := W.frontM (i := 1) Aa Aa
    have W := W.frontM (i := 1) Aa Aa
    exact ⟨_, (v7), H, F.ra Aa, W⟩
   rintro a w ⟨x4, v8, hj, F, W⟩
   have hj := Av hj
   subst hj
   have H := K3
   clear G3 K3
   refine vc tk 5 F W fun a w F W => ?_
   refine Ac ?_
   have W := W.frontM (i := 1) Aa Aa
   have W := W.frontM (i := 1) Aa Aa
   exact ⟨_, H, (v8), F.ra Aa, W⟩
  refine Ay ?_
  iterate 2 refine AO ?_
  refine Az (Ac ?_)
  have W := W.frontM (i := 1) Aa Aa
  have W := W.frontM (i := 1) Aa Aa
  have H := L2 _ H
  exact ⟨_, (v7), H, F.ra Aa, W⟩
 rintro a w ⟨x1, v6, hj, F, W⟩
 have hj := Av hj
 subst hj
 have H := K1
 clear G1 K1
 refine vc tk 6 F W fun a w F W => ?_
 refine Ao ?_
 have H := Av H
 subst H
 refine AE (.inl Aa) F W Aa (Ai F Aa) ?_
 have W := W.sub (M' := []) (Z' := [row v6 59 Dk x1]) (List.nil_sublist _) (List.Sublist.refl _)
 exact ⟨(v6), Aa, W⟩
theorem Yf : Has Try.prog 25 := BS Try.func25
abbrev Hp (a0 : Nat) (a1 : Value) (a2 : Value) (a3 : (List (Int × Int × Int × Int)) × (List (Int × Int × List Int)) × Int × Int × Int × Int) : List (Nat × List Value) := [(a0, [a1, a2, .int .i64 a3.2.2.1, .int .i64 a3.2.2.2.1, .int .i64 a3.2.2.2.2.1, .int .i64 a3.2.2.2.2.2])]
noncomputable def GX (p1 : (List (Int × Int × Int × Int)) × (List (Int × Int × List Int)) × Int × Int × Int × Int) (p3 : Int) (p4 : Int) (x5 : Int) : (Int × Int) → Option ((Int × Int) ⊕ Int)
  | (x7, x8) => (if x8 < (p1.1.length : Int) then (((ix p1.1 x8).bind fun x11 => (if x11.1 = p3 then (ix p1.1 x8).bind fun x12 => (if x12.2.1 = p4 then (ix p1.1 x8).bind fun x13 => (FM p1 x5 x13).bind fun x14 => some x14 else some false) else some false)).bind fun x10 => (if x10 = true then (ix p1.1 x8).bind fun x15 => some x15.2.2.1 else some x7)).bind fun x9 => some (.inl (x9, A3 (x8 + 1))) else some (.inr x7))
noncomputable def Im (p1 : (List (Int × Int × Int × Int)) × (List (Int × Int × List Int)) × Int × Int × Int × Int) (p2 : Int) (p3 : Int) (p4 : Int) : (Int × Int) → Option ((Int × Int) ⊕ Int)
  | (x4, x5) => (if x5 < p2 then (Au (GX p1 p3 p4 x5) (x4, 0)).bind fun x6 => some (.inl (x6, A3 (x5 + 1))) else some (.inr x4))
noncomputable def MI (p0 : List (List Int)) (p1 : (List (Int × Int × Int × Int)) × (List (Int × Int × List Int)) × Int × Int × Int × Int) (p2 : Int) (p3 : Int) (p4 : Int) : Option Int := (ix p0 p3).bind fun x1 => (ix x1 p4).bind fun x2 => (Au (Im p1 p2 p3 p4) (x2, 0)).bind fun x3 => some x3
theorem Ro (Y : Nat → Prop) (w0 : World) (v1 : Value) (v2 : Value) (v3 : Value) (p0 : List (List Int)) (p1 : (List (Int × Int × Int × Int)) × (List (Int × Int × List Int)) × Int × Int × Int × Int) (p2 : Int) (p3 : Int) (p4 : Int) (r : Int) (H : MI p0 p1 p2 p3 p4 = some r) (h_v1 : Sl w0 (NX []) (Rp.slice (Rp.int .i64)) v1 p0) (h_v2 : Sl w0 (NX []) I6 v2 p1.1) (h_v3 : Sl w0 (NX []) MK v3 p1.2.1) :
    Calls Try.prog 29 #[v1, .agg #[v2, v3, .int .i64 p1.2.2.1, .int .i64 p1.2.2.2.1, .int .i64 p1.2.2.2.2.1, .int .i64 p1.2.2.2.2.2], .int .i64 p2, .int .i64 p3, .int .i64 p4] w0 fun e w' => e = .returned (.int .i64 r) ∧ Below w0.heap.size w0 w' := by
 refine enter Try.func29 Aa Try.ntmps29 Aa fun a F => ?_
 have W := Stw.start Y w0
 obtain ⟨v4, h1, h_v1⟩ := h_v1.ex Bh
 obtain ⟨v5, h2, h_v3⟩ := h_v3.ex Fp
 unfold MI at H
 refine vc tk 2 F W fun a w F W => ?_
 refine Bq (cs := [v2, v3, .int .i64 p1.2.2.1, .int .i64 p1.2.2.2.1, .int .i64 p1.2.2.2.2.1, .int .i64 p1.2.2.2.2.2]) F W Aa Aa Aa fun b1 a w F W => ?_
 refine Bz tk 7 F W fun a w F W => ?_
 obtain ⟨x1, h3, H⟩ := Ae H
 obtain ⟨v6, h4, h5⟩ := Co h1 h3
 have h6 : C2 v6 = [(v6.1)] := congrArg (fun q : List Int => ([(v6.1)] : List Value)) h5
 refine ls F W Aa (Al (r := (Rp.vsl (Rp.int .i64))) Ke F Aa Aa (Ab h_v1) h4).q fun a w F W => ?_
 refine ls F W Aa (Ag (y := (v6.1)) (j := 0) (i := p3) (enc := C2) F Aa Aa (Ab h_v1) h4 Gd Jv (by rw [h6]; rfl)).q fun a w F W => ?_
 refine ls F W Aa (Ak F Aa).q fun a w F W => ?_
 obtain ⟨x2, h7, H⟩ := Ae H
 refine ls F W Aa (Al (r := (Rp.int .i64)) FS F Aa Aa (A4 (Ab h_v1) h4 BL.here (congrArg (fun q : List Int => q) h5)) h7).q fun a w F W => ?_
 refine ls F W Aa (Ag (y := Value.int .i64 x2) (j := 0) (i := p4) F Aa Aa (A4 (Ab h_v1) h4 BL.here (congrArg (fun q : List Int => q) h5)) h7 Fl.int.to T3 Aa).q fun a w F W => ?_
 refine vl tk 2 F W fun a w F W => ?_
 refine Ac ?_
 obtain ⟨o1, G1, K1⟩ := Ae H
 refine Aj (fun a w => ∃ x3 : Int, some (x3) = some o1 ∧ Fr 68 [] [(10, .int .i64 0), (11, .int .i64 x3)] a ∧ Stw ⟨Y, [], w0⟩ (Hp b1 v2 v3 p1) [] w) ?_ ?_
 ·
  have H := G1
  clear G1 K1
  refine vc tk 6 F W fun a w F W => ?_
  refine AA H (fun s a w => Fr 68 [] [(2, .int .i64 p2), (3, .int .i64 p3), (4, .int .i64 p4), (6, .pointer (some ⟨b1, 0, none⟩)), (10, .int .i64 0), (11, .int .i64 s.1), (12, .int .i64 s.2)] a ∧ Stw ⟨Y, [], w0⟩ (Hp b1 v2 v3 p1) [] w) ⟨F.ra Aa, W⟩ fun s o a w H L2 hR => ?_
  obtain ⟨x4, x5⟩ := s
  obtain ⟨F, W⟩ := hR
  have F : Fr 68 [] [(2, .int .i64 p2), (3, .int .i64 p3), (4, .int .i64 p4), (6, .pointer (some ⟨b1, 0, none⟩)), (10, .int .i64 0), (11, .int .i64 x4), (12, .int .i64 x5)] a := F
  have W : Stw ⟨Y, [], w0⟩ (Hp b1 v2 v3 p1) [] w := W
  rw [Im] at H
  refine vc tk 8 F W fun a w F W => ?_
  refine AN F Aa H (fun F H => ?_) fun F H => ?_
  ·
   refine As (Ac ?_)
   obtain ⟨o3, G3, K3⟩ := Ae H
   refine Aj (fun a w => ∃ x6 : Int, some (x6) = some o3 ∧ Fr 68 [] [(2, .int .i64 p2), (3, .int .i64 p3), (4, .int .i64 p4), (6, .pointer (some ⟨b1, 0, none⟩)), (10, .int .i64 0), (11, .int .i64 x6), (12, .int .i64 x5)] a ∧ Stw ⟨Y, [], w0⟩ (Hp b1 v2 v3 p1) [] w) ?_ ?_
   ·
    have H := G3
    clear G3 K3
    refine vc tk 7 F W fun a w F W => ?_
    refine AA H (fun s a w => Fr 68 [] [(2, .int .i64 p2), (3, .int .i64 p3), (4, .int .i64 p4), (6, .pointer (some ⟨b1, 0, none⟩)), (10, .int .i64 0), (11, .int .i64 s.1), (12, .int .i64 x5), (13, .int .i64 s.2)] a ∧ Stw ⟨Y, [], w0⟩ (Hp b1 v2 v3 p1) [] w) ⟨F.ra Aa, W⟩ fun s o a w H L4 hR => ?_
    obtain ⟨x7, x8⟩ := s
    obtain ⟨F, W⟩ := hR
    have F : Fr 68 [] [(2, .int .i64 p2), (3, .int .i64 p3), (4, .int .i64 p4), (6, .pointer (some ⟨b1, 0, none⟩)), (10, .int .i64 0), (11, .int .i64 x7), (12, .int .i64 x5), (13, .int .i64 x8)] a := F
    have W : Stw ⟨Y, [], w0⟩ (Hp b1 v2 v3 p1) [] w := W
    rw [GX] at H
    refine D3 tk 6 [0] F W (ai fun a w F W => ?_)
    refine ls F W Aa (AR (r := I6) (l := p1.1) PD Aa F Aa (Ab h_v2)).q fun a w F W => ?_
    refine Bz tk 3 F W fun a w F W => ?_
    refine AN F Aa H (fun F H => ?_) fun F H => ?_
    ·
     refine As (Ac ?_)
     obtain ⟨o5, G5, K5⟩ := Ae H
     refine Aj (fun a w => ∃ x9 : Int, some (x9) = some o5 ∧ Fr 68 [] [(2, .int .i64 p2), (3, .int .i64 p3), (4, .int .i64 p4), (6, .pointer (some ⟨b1, 0, none⟩)), (10, .int .i64 0), (11, .int .i64 x9), (12, .int .i64 x5), (13, .int .i64 x8)] a ∧ Stw ⟨Y, [], w0⟩ (Hp b1 v2 v3 p1) [] w) ?_ ?_
     ·
      have H := G5
      clear G5 K5
      refine Gr ?_
      obtain ⟨o6, G6, K6⟩ := Ae H
      refine Aj (fun a w => ∃ x10 : Bool, some (x10) = some o6 ∧ Fr 68 [] [(2, .int .i64 p2), (3, .int .i64 p3), (4, .int .i64 p4), (6, .pointer (some ⟨b1, 0, none⟩)), (10, .int .i64 0), (11, .int .i64 x7), (12, .int .i64 x5), (13, .int .i64 x8), (60, .bool x10)] a ∧ Stw ⟨Y, [], w0⟩ (Hp b1 v2 v3 p1) [] w) ?_ ?_
      ·
       have H := G6
       clear G6 K6
       refine Bi W MO (by kernel_rfl) ?_
       refine qs F Aa (Af IY Aa Aa Aa Qa F Aa 0 Aa).q fun a F => ?_
       refine qs F Aa (AK (v := v2) 0 F Aa Aa Qa Aa).q fun a F => ?_
       refine qs F Aa (Ak F Aa).q fun a F => ?_
       obtain ⟨x11, h8, H⟩ := Ae H
       refine qs F Aa (Al (r := I6) P7 F Aa Aa (Ab h_v2) h8).q fun a F => ?_
       refine qs F Aa (Af HM Aa Aa Aa T3 F Aa (CS v2 + (x8).toNat * 4) Aa).q fun a F => ?_
       refine qs F Aa (Ag (y := Value.int .i64 x11.1) (j := 0) (i := x8) F Aa Aa (Ab h_v2) h8 P2.to T3 Aa).q fun a F => ?_
       refine qs F Aa (Ak F Aa).q fun a F => ?_
       refine qs F Aa (Iq F Aa Aa).q fun a F => ?_
       refine qs F Aa (Ak F Aa).q fun a F => ?_
       rcases Bool.eq_false_or_eq_true (decide (x11.1 = p3)) with hb | hb
       ·
        have H := B5 (CT hb) H
        rw [hb] at F
        clear hb
        refine AH F (Ad F Aa Aa Aa Aa) Aa (Ah Aa) (Af IY Aa Aa Aa Qa F Aa 0 Aa).q fun a F => ?_
        refine AH F (Ad F Aa Aa Aa Aa) Aa (Ah Aa) (AK (v := v2) 0 F Aa Aa Qa Aa).q fun a F => ?_
        refine AH F (Ad F Aa Aa Aa Aa) Aa (Ah Aa) (Ak F Aa).q fun a F => ?_
        obtain ⟨x12, h9, H⟩ := Ae H
        refine AH F (Ad F Aa Aa Aa Aa) Aa (Ah Aa) (Al (r := I6) P7 F Aa Aa (Ab h_v2) h9).q fun a F => ?_
        refine AH F (Ad F Aa Aa Aa Aa) Aa (Ah Aa) (Af HM Aa Aa Aa T3 F Aa (CS v2 + (x8).toNat * 4 + 1) Aa).q fun a F => ?_
        refine AH F (Ad F Aa Aa Aa Aa) Aa (Ah Aa) (Ag (y := Value.int .i64 x12.2.1) (j := 1) (i := x8) F Aa Aa (Ab h_v2) h9 P2.to T3 Aa).q fun a F => ?_
        refine AH F (Ad F Aa Aa Aa Aa) Aa (Ah Aa) (Ak F Aa).q fun a F => ?_
        refine AH F (Ad F Aa Aa Aa Aa) Aa (Ah Aa) (Iq F Aa Aa).q fun a F => ?_
        refine qs F Aa (Be F Aa Aa Aa).q fun a F => ?_
        refine qs F Aa (Ak F Aa).q fun a F => ?_
        rcases Bool.eq_false_or_eq_true (decide (x12.2.1 = p4)) with hb | hb
        ·
         have H := B5 (CT hb) H
         rw [hb] at F
         clear hb
         refine AH F (Ad F Aa Aa Aa Aa) Aa (Ah Aa) (AK (v := Value.agg #[v2, v3, .int .i64 p1.2.2.1, .int .i64 p1.2.2.2.1, .int .i64 p1.2.2.2.2.1, .int .i64 p1.2.2.2.2.2]) 0 F Aa Aa UY Aa).q fun a F => ?_
         refine AH F (Ad F Aa Aa Aa Aa) Aa (Ah Aa) (Ak F Aa).q fun a F => ?_
         refine AH F (Ad F Aa Aa Aa Aa) Aa (Ah Aa) (Af IY Aa Aa Aa Qa F Aa 0 Aa).q fun a F => ?_
         refine AH F (Ad F Aa Aa Aa Aa) Aa (Ah Aa) (AK (v := v2) 0 F Aa Aa Qa Aa).q fun a F => ?_
         refine AH F (Ad F Aa Aa Aa Aa) Aa (Ah Aa) (Ak F Aa).q fun a F => ?_
         obtain ⟨x13, h10, H⟩ := Ae H
         refine AH F (Ad F Aa Aa Aa Aa) Aa (Ah Aa) (Al (r := I6) P7 F Aa Aa (Ab h_v2) h10).q fun a F => ?_
         refine AH F (Ad F Aa Aa Aa Aa) Aa (Ah Aa) (Ag (y := Value.agg #[.int .i64 x13.1, .int .i64 x13.2.1, .int .i64 x13.2.2.1, .int .i64 x13.2.2.2]) (j := 0) (i := x8) F Aa Aa (Ab h_v2) h10 P2.to TD Aa).q fun a F => ?_
         obtain ⟨x14, h11, H⟩ := Ae H
         refine AH F (Ad F Aa Aa Aa Aa) Aa (Ah Aa) (AL (v := Value.bool x14) F We Aa (fun w W => J1 any w (v2) (v3) p1 x5 x13 _ h11 (Ci (Ab h_v2) W) (Ci (Aq Fp h2 (Ab h_v3)) W))) fun a F => ?_
         refine qs F Aa (Be F Aa Aa Aa).q fun a F => ?_
         refine AB fun w W => ?_
         refine Ac ?_
         exact ⟨_, H, F.ra Aa, W⟩
        have H := B6 (CV hb) H
        rw [hb] at F
        clear hb
        iterate 8 refine Bg F (A1 F Aa Aa Aa Aa Aa) Aa Aa fun a F => ?_
        refine qs F Aa (Bk F Aa Aa Aa).q fun a F => ?_
        refine AB fun w W => ?_
        refine Ac ?_
        exact ⟨_, H, F.ra Aa, W⟩
       have H := B6 (CV hb) H
       rw [hb] at F
       clear hb
       iterate 8 refine Bg F (A1 F Aa Aa Aa Aa Aa) Aa Aa fun a F => ?_
       refine qs F Aa (Bk F Aa Aa Aa).q fun a F => ?_
       refine qs F Aa (Ak F Aa).q fun a F => ?_
       iterate 8 refine Bg F (A1 F Aa Aa Aa Aa Aa) Aa Aa fun a F => ?_
       refine qs F Aa (Bk F Aa Aa Aa).q fun a F => ?_
       refine AB fun w W => ?_
       refine Ac ?_
       exact ⟨_, H, F.ra Aa, W⟩
      rintro a w ⟨x10, hj, F, W⟩
      have hj := Av hj
      subst hj
      have H := K6
      clear G6 K6
      refine B0 F Aa H (fun F H => ?_) fun F H => ?_
      ·
       refine D3 tk 4 [0] F W (ai fun a w F W => ?_)
       obtain ⟨x15, h12, H⟩ := Ae H
       refine ls F W Aa (Al (r := I6) P7 F Aa Aa (Ab h_v2) h12).q fun a w F W => ?_
       refine ls F W Aa (Af HM Aa Aa Aa T3 F Aa (CS v2 + (x8).toNat * 4 + 2) Aa).q fun a w F W => ?_
       refine ls F W Aa (Ag (y := Value.int .i64 x15.2.2.1) (j := 2) (i := x8) F Aa Aa (Ab h_v2) h12 P2.to T3 Aa).q fun a w F W => ?_
       refine vl tk 2 F W fun a w F W => ?_
       refine An (Ac ?_)
       exact ⟨_, H, F.ra Aa, W⟩
      refine As (An (Ac ?_))
      exact ⟨_, H, F.ra Aa, W⟩
     rintro a w ⟨x9, hj, F, W⟩
     have hj := Av hj
     subst hj
     have H := K5
     clear G5 K5
     refine vc tk 5 F W fun a w F W => ?_
     refine Ac ?_
     exact ⟨_, H, F.ra Aa, W⟩
    refine Ay ?_
    iterate 2 refine AO ?_
    refine Az (An (Ac ?_))
    have H := L4 _ H
    exact ⟨_, H, F.ra Aa, W⟩
   rintro a w ⟨x6, hj, F, W⟩
   have hj := Av hj
   subst hj
   have H := K3
   clear G3 K3
   refine vc tk 5 F W fun a w F W => ?_
   refine Ac ?_
   exact ⟨_, H, F.ra Aa, W⟩
  refine Ay ?_
  iterate 2 refine AO ?_
  refine Az (Ac ?_)
  have H := L2 _ H
  exact ⟨_, H, F.ra Aa, W⟩
 rintro a w ⟨x3, hj, F, W⟩
 have hj := Av hj
 subst hj
 have H := K1
 clear G1 K1
 refine vc tk 6 F W fun a w F W => ?_
 refine Ao ?_
 have H := Av H
 subst H
 refine AE (.inl Aa) F W Aa (Ai F Aa) ?_
 exact ⟨rfl, W.done⟩
theorem Yj : Has Try.prog 29 := BS Try.func29
noncomputable def FD (p1 : (List (Int × Int × Int × Int)) × (List (Int × Int × List Int)) × Int × Int × Int × Int) (p2 : Int) (p3 : Int) (p4 : Int) : (List Int × Int) → Option ((List Int × Int) ⊕ (List Int))
  | (x3, x4) => (if x4 < (p1.1.length : Int) then (((ix p1.1 x4).bind fun x7 => (if x7.1 = p3 then (ix p1.1 x4).bind fun x8 => (if x8.2.1 = p4 then (ix p1.1 x4).bind fun x9 => (FM p1 p2 x9).bind fun x10 => some x10 else some false) else some false)).bind fun x6 => (if x6 = true then (ix p1.1 x4).bind fun x11 => (Fo x3 ([x11.2.2.1] : List Int)).bind fun x12 => some x12 else some x3)).bind fun x5 => some (.inl (x5, A3 (x4 + 1))) else some (.inr x3))
noncomputable def GZ (p0 : List (List Int)) (p1 : (List (Int × Int × Int × Int)) × (List (Int × Int × List Int)) × Int × Int × Int × Int) (p2 : Int) (p3 : Int) (p4 : Int) : Option (List Int) := (MI p0 p1 p2 p3 p4).bind fun x1 => (Au (FD p1 p2 p3 p4) (([x1] : List Int), 0)).bind fun x2 => some x2
theorem O5 (Y : Nat → Prop) (w0 : World) (v1 : Value) (v2 : Value) (v3 : Value) (p0 : List (List Int)) (p1 : (List (Int × Int × Int × Int)) × (List (Int × Int × List Int)) × Int × Int × Int × Int) (p2 : Int) (p3 : Int) (p4 : Int) (r : List Int) (H : GZ p0 p1 p2 p3 p4 = some r) (h_v1 : Sl w0 (NX []) (Rp.slice (Rp.int .i64)) v1 p0) (h_v2 : Sl w0 (NX []) I6 v2 p1.1) (h_v3 : Sl w0 (NX []) MK v3 p1.2.1) :
    Calls Try.prog 47 #[v1, .agg #[v2, v3, .int .i64 p1.2.2.1, .int .i64 p1.2.2.2.1, .int .i64 p1.2.2.2.2.1, .int .i64 p1.2.2.2.2.2], .int .i64 p2, .int .i64 p3, .int .i64 p4] w0 fun e w' => ∃ x : Value, e = .returned (x) ∧ Stw ⟨Y, [], w0⟩ [] [row (x) 3 (Rp.int .i64) r] w' := by
 refine enter Try.func47 Aa Try.ntmps47 Aa fun a F => ?_
 have W := Stw.start Y w0
 obtain ⟨v4, h1, h_v1⟩ := h_v1.ex Bh
 obtain ⟨v5, h2, h_v3⟩ := h_v3.ex Fp
 unfold GZ at H
 refine vc tk 2 F W fun a w F W => ?_
 refine Bq (cs := [v2, v3, .int .i64 p1.2.2.1, .int .i64 p1.2.2.2.1, .int .i64 p1.2.2.2.2.1, .int .i64 p1.2.2.2.2.2]) F W Aa Aa Aa fun b1 a w F W => ?_
 refine IG tk 10 [0] F W (ai fun a w F W => ?_)
 obtain ⟨x1, h3, H⟩ := Ae H
 refine ls F W Aa (AL (v := Value.int .i64 x1) F Yj Aa (fun w W => Ro any w (v1) (v2) (v3) p0 p1 p2 p3 p4 _ h3 (Ci (Aq Bh h1 (Ab h_v1)) W) (Ci (Ab h_v2) W) (Ci (Aq Fp h2 (Ab h_v3)) W))) fun a w F W => ?_
 refine Cp (z := Value.int .i64 0) (cs := [.int .i64 x1]) (Rp.int .i64) ([x1] : List Int) F W Aa FS Z3 Aa Aa Aa Aa Aa Aa (Fl.int.repL _ _ ([x1] : List Int)) fun v6 a w F W => ?_
 refine vl tk 2 F W fun a w F W => ?_
 refine Ac ?_
 obtain ⟨o1, G1, K1⟩ := Ae H
 refine Aj (fun a w => ∃ x2 : List Int, ∃ v7 : Value, some (x2) = some o1 ∧ Fr 65 [] [(10, .slice none 0 0), (11, v7)] a ∧ Stw ⟨Y, [], w0⟩ (Hp b1 v2 v3 p1) [row v7 3 (Rp.int .i64) x2] w) ?_ ?_
 ·
  have H := G1
  clear G1 K1
  refine vc tk 6 F W fun a w F W => ?_
  refine AA H (fun s a w => ∃ v8 : Value, Fr 65 [] [(2, .int .i64 p2), (3, .int .i64 p3), (4, .int .i64 p4), (6, .pointer (some ⟨b1, 0, none⟩)), (10, .slice none 0 0), (11, v8), (12, .int .i64 s.2)] a ∧ Stw ⟨Y, [], w0⟩ (Hp b1 v2 v3 p1) [row v8 3 (Rp.int .i64) s.1] w) ⟨(v6), F.ra Aa, W⟩ fun s o a w H L2 hR => ?_
  obtain ⟨x3, x4⟩ := s
  obtain ⟨v8, F, W⟩ := hR
  have F : Fr 65 [] [(2, .int .i64 p2), (3, .int .i64 p3), (4, .int .i64 p4), (6, .pointer (some ⟨b1, 0, none⟩)), (10, .slice none 0 0), (11, v8), (12, .int .i64 x4)] a := F
  have W : Stw ⟨Y, [], w0⟩ (Hp b1 v2 v3 p1) [row v8 3 (Rp.int .i64) x3] w := W
  rw [FD] at H
  refine D3 tk 6 [0] F W (ai fun a w F W => ?_)
  refine ls F W Aa (AR (r := I6) (l := p1.1) PD Aa F Aa (Ab h_v2)).q fun a w F W => ?_
  refine Bz tk 3 F W fun a w F W => ?_
  refine AN F Aa H (fun F H => ?_) fun F H => ?_
  ·
   refine As (Ac ?_)
   obtain ⟨o3, G3, K3⟩ := Ae H
   refine Aj (fun a w => ∃ x5 : List Int, ∃ v9 : Value, some (x5) = some o3 ∧ Fr 65 [] [(2, .int .i64 p2), (3, .int .i64 p3), (4, .int .i64 p4), (6, .pointer (some ⟨b1, 0, none⟩)), (10, .slice none 0 0), (11, v9), (12, .int .i64 x4)] a ∧ Stw ⟨Y, [], w0⟩ (Hp b1 v2 v3 p1) [row v9 3 (Rp.int .i64) x5] w) ?_ ?_
   ·
    have H := G3
    clear G3 K3
    refine Gr ?_
    obtain ⟨o4, G4, K4⟩ := Ae H
    refine Aj (fun a w => ∃ x6 : Bool, some (x6) = some o4 ∧ Fr 65 [] [(2, .int .i64 p2), (3, .int .i64 p3), (4, .int .i64 p4), (6, .pointer (some ⟨b1, 0, none⟩)), (10, .slice none 0 0), (11, v8), (12, .int .i64 x4), (54, .bool x6)] a ∧ Stw ⟨Y, [], w0⟩ (Hp b1 v2 v3 p1) [row v8 3 (Rp.int .i64) x3] w) ?_ ?_
    ·
     have H := G4
     clear G4 K4
     refine Bi W MO (by kernel_rfl) ?_
     refine qs F Aa (Af IY Aa Aa Aa Qa F Aa 0 Aa).q fun a F => ?_
     refine qs F Aa (AK (v := v2) 0 F Aa Aa Qa Aa).q fun a F => ?_
     refine qs F Aa (Ak F Aa).q fun a F => ?_
     obtain ⟨x7, h4, H⟩ := Ae H
     refine qs F Aa (Al (r := I6) P7 F Aa Aa (Ab h_v2) h4).q fun a F => ?_
     refine qs F Aa (Af HM Aa Aa Aa T3 F Aa (CS v2 + (x4).toNat * 4) Aa).q fun a F => ?_
     refine qs F Aa (Ag (y := Value.int .i64 x7.1) (j := 0) (i := x4) F Aa Aa (Ab h_v2) h4 P2.to T3 Aa).q fun a F => ?_
     refine qs F Aa (Ak F Aa).q fun a F => ?_
     refine qs F Aa (Iq F Aa Aa).q fun a F => ?_
     refine qs F Aa (Ak F Aa).q fun a F => ?_
     rcases Bool.eq_false_or_eq_true (decide (x7.1 = p3)) with hb | hb
     ·
      have H := B5 (CT hb) H
      rw [hb] at F
      clear hb
      refine AH F (Ad F Aa Aa Aa Aa) Aa (Ah Aa) (Af IY Aa Aa Aa Qa F Aa 0 Aa).q fun a F => ?_
      refine AH F (Ad F Aa Aa Aa Aa) Aa (Ah Aa) (AK (v := v2) 0 F Aa Aa Qa Aa).q fun a F => ?_
      refine AH F (Ad F Aa Aa Aa Aa) Aa (Ah Aa) (Ak F Aa).q fun a F => ?_
      obtain ⟨x8, h5, H⟩ := Ae H
      refine AH F (Ad F Aa Aa Aa Aa) Aa (Ah Aa) (Al (r := I6) P7 F Aa Aa (Ab h_v2) h5).q fun a F => ?_
      refine AH F (Ad F Aa Aa Aa Aa) Aa (Ah Aa) (Af HM Aa Aa Aa T3 F Aa (CS v2 + (x4).toNat * 4 + 1) Aa).q fun a F => ?_
      refine AH F (Ad F Aa Aa Aa Aa) Aa (Ah Aa) (Ag (y := Value.int .i64 x8.2.1) (j := 1) (i := x4) F Aa Aa (Ab h_v2) h5 P2.to T3 Aa).q fun a F => ?_
      refine AH F (Ad F Aa Aa Aa Aa) Aa (Ah Aa) (Ak F Aa).q fun a F => ?_
      refine AH F (Ad F Aa Aa Aa Aa) Aa (Ah Aa) (Iq F Aa Aa).q fun a F => ?_
      refine qs F Aa (Be F Aa Aa Aa).q fun a F => ?_
      refine qs F Aa (Ak F Aa).q fun a F => ?_
      rcases Bool.eq_false_or_eq_true (decide (x8.2.1 = p4)) with hb | hb
      ·
       have H := B5 (CT hb) H
       rw [hb] at F
       clear hb
       refine AH F (Ad F Aa Aa Aa Aa) Aa (Ah Aa) (AK (v := Value.agg #[v2, v3, .int .i64 p1.2.2.1, .int .i64 p1.2.2.2.1, .int .i64 p1.2.2.2.2.1, .int .i64 p1.2.2.2.2.2]) 0 F Aa Aa UY Aa).q fun a F => ?_
       refine AH F (Ad F Aa Aa Aa Aa) Aa (Ah Aa) (Ak F Aa).q fun a F => ?_
       refine AH F (Ad F Aa Aa Aa Aa) Aa (Ah Aa) (Af IY Aa Aa Aa Qa F Aa 0 Aa).q fun a F => ?_
       refine AH F (Ad F Aa Aa Aa Aa) Aa (Ah Aa) (AK (v := v2) 0 F Aa Aa Qa Aa).q fun a F => ?_
       refine AH F (Ad F Aa Aa Aa Aa) Aa (Ah Aa) (Ak F Aa).q fun a F => ?_
       obtain ⟨x9, h6, H⟩ := Ae H
       refine AH F (Ad F Aa Aa Aa Aa) Aa (Ah Aa) (Al (r := I6) P7 F Aa Aa (Ab h_v2) h6).q fun a F => ?_
       refine AH F (Ad F Aa Aa Aa Aa) Aa (Ah Aa) (Ag (y := Value.agg #[.int .i64 x9.1, .int .i64 x9.2.1, .int .i64 x9.2.2.1, .int .i64 x9.2.2.2]) (j := 0) (i := x4) F Aa Aa (Ab h_v2) h6 P2.to TD Aa).q fun a F => ?_
       obtain ⟨x10, h7, H⟩ := Ae H
       refine AH F (Ad F Aa Aa Aa Aa) Aa (Ah Aa) (AL (v := Value.bool x10) F We Aa (fun w W => J1 any w (v2) (v3) p1 p2 x9 _ h7 (Ci (Ab h_v2) W) (Ci (Aq Fp h2 (Ab h_v3)) W))) fun a F => ?_
       refine qs F Aa (Be F Aa Aa Aa).q fun a F => ?_
       refine AB fun w W => ?_
       refine Ac ?_
       exact ⟨_, H, F.ra Aa, W⟩
      have H := B6 (CV hb) H
      rw [hb] at F
      clear hb
      iterate 8 refine Bg F (A1 F Aa Aa Aa Aa Aa) Aa Aa fun a F => ?_
      refine qs F Aa (Bk F Aa Aa Aa).q fun a F => ?_
      refine AB fun w W => ?_
      refine Ac ?_
      exact ⟨_, H, F.ra Aa, W⟩
     have H := B6 (CV hb) H
     rw [hb] at F
     clear hb
     iterate 8 refine Bg F (A1 F Aa Aa Aa Aa Aa) Aa Aa fun a F => ?_
     refine qs F Aa (Bk F Aa Aa Aa).q fun a F => ?_
     refine qs F Aa (Ak F Aa).q fun a F => ?_
     iterate 8 refine Bg F (A1 F Aa Aa Aa Aa Aa) Aa Aa fun a F => ?_
     refine qs F Aa (Bk F Aa Aa Aa).q fun a F => ?_
     refine AB fun w W => ?_
     refine Ac ?_
     exact ⟨_, H, F.ra Aa, W⟩
    rintro a w ⟨x6, hj, F, W⟩
    have hj := Av hj
    subst hj
    have H := K4
    clear G4 K4
    refine B0 F Aa H (fun F H => ?_) fun F H => ?_
    ·
     refine D3 tk 5 [0] F W (ai fun a w F W => ?_)
     obtain ⟨x11, h8, H⟩ := Ae H
     refine ls F W Aa (Al (r := I6) P7 F Aa Aa (Ab h_v2) h8).q fun a w F W => ?_
     refine ls F W Aa (Af HM Aa Aa Aa T3 F Aa (CS v2 + (x4).toNat * 4 + 2) Aa).q fun a w F W => ?_
     refine ls F W Aa (Ag (y := Value.int .i64 x11.2.2.1) (j := 2) (i := x4) F Aa Aa (Ab h_v2) h8 P2.to T3 Aa).q fun a w F W => ?_
     refine Cp (z := Value.int .i64 0) (cs := [.int .i64 x11.2.2.1]) (Rp.int .i64) ([x11.2.2.1] : List Int) F W Aa FS Z3 Aa Aa Aa Aa Aa Aa (Fl.int.repL _ _ ([x11.2.2.1] : List Int)) fun v10 a w F W => ?_
     obtain ⟨x12, h9, H⟩ := Ae H
     refine BF (r := (Rp.int .i64)) (i := 1) F W Aa FS Aa Aa Aa Aa (Cr W 0 Aa) h9 Aa fun v11 a w F W => ?_
     have W : Stw ⟨Y, [], w0⟩ (Hp b1 v2 v3 p1) [row v11 3 (Rp.int .i64) x12, row v10 3 (Rp.int .i64) ([x11.2.2.1] : List Int)] w := W
     refine vl tk 2 F W fun a w F W => ?_
     refine An (Ac ?_)
     have W := W.sub (M' := (Hp b1 v2 v3 p1)) (Z' := [row v11 3 (Rp.int .i64) x12]) (List.Sublist.refl _) (List.Sublist.cons_cons _ (List.nil_sublist _))
     exact ⟨_, (v11), H, F.ra Aa, W⟩
    refine As (An (Ac ?_))
    exact ⟨_, (v8), H, F.ra Aa, W⟩
   rintro a w ⟨x5, v9, hj, F, W⟩
   have hj := Av hj
   subst hj
   have H := K3
   clear G3 K3
   refine vc tk 5 F W fun a w F W => ?_
   refine Ac ?_
   exact ⟨_, H, (v9), F.ra Aa, W⟩
  refine Ay ?_
  iterate 2 refine AO ?_
  refine Az (Ac ?_)
  have H := L2 _ H
  exact ⟨_, (v8), H, F.ra Aa, W⟩
 rintro a w ⟨x2, v7, hj, F, W⟩
 have hj := Av hj
 subst hj
 have H := K1
 clear G1 K1
 refine vc tk 6 F W fun a w F W => ?_
 refine Ao ?_
 have H := Av H
 subst H
 refine AE (.inl Aa) F W Aa (Ai F Aa) ?_
 have W := W.sub (M' := []) (Z' := [row v7 3 (Rp.int .i64) x2]) (List.nil_sublist _) (List.Sublist.refl _)
 exact ⟨(v7), Aa, W⟩
theorem UB : type_of% Try.underlying93 := Try.underlying93
theorem PX : type_of% Try.underlying98 := Try.underlying98
theorem Yr : Has Try.prog 47 := BS Try.func47
theorem X5 : Bt Try.prog 98 [.int .i64 0, .int .i64 0] [(0, 1), (1, 1)] := ⟨⟨.agg #[.int .i64 0, .int .i64 0], by kernel_rfl, rfl⟩, ⟨_, PX, fun w => by kernel_rfl⟩⟩
theorem XX : (Try.prog.info? 98).bind (·.zero) = some (.agg #[.int .i64 0, .int .i64 0]) := by kernel_rfl
abbrev Jz : Rp (Int × Int) := (Rp.pair (Rp.int .i64) (Rp.int .i64))
def XR (a : Int × Int) : List Value := [.int .i64 a.1, .int .i64 a.2]
theorem Ul : Fl Jz XR := (Fl.pair Fl.int Fl.int)
theorem T6 : Et Try.prog 93 98 2 16 := Et.of UB (by kernel_rfl) (by kernel_rfl) (by kernel_rfl) (by decide)
noncomputable def GW (p0 : Int) (p1 : List (Int × Int)) : Int → Option (Int ⊕ (Unit ⊕ Bool))
  | x1 => (if x1 < (p1.length : Int) then ((ix p1 x1).bind fun x3 => (if x3.1 < 0 then some true else (ix p1 x1).bind fun x4 => (if p0 ≤ x4.1 then some true else (ix p1 x1).bind fun x5 => (if x5.2 < 0 then some true else (ix p1 x1).bind fun x6 => some (decide (p0 ≤ x6.2)))))).bind fun x2 => (if x2 = true then some (.inr (.inr false)) else some (.inl (A3 (x1 + 1)))) else some (.inr (.inl ())))
noncomputable def H0 (p0 : Int) (p1 : List (Int × Int)) : Option Bool := Ep (Au (GW p0 p1) 0) fun _ => some (decide (0 ≤ p0) && decide (p0 ≤ 16))
theorem Ou (Y : Nat → Prop) (w0 : World) (v1 : Value) (p0 : Int) (p1 : List (Int × Int)) (r : Bool) (H : H0 p0 p1 = some r) (h_v1 : Sl w0 (NX []) Jz v1 p1) :
    Calls Try.prog 67 #[.int .i64 p0, v1] w0 fun e w' => e = .returned (.bool r) ∧ Below w0.heap.size w0 w' := by
 refine enter Try.func67 Aa Try.ntmps67 Aa fun a F => ?_
 have W := Stw.start Y w0
 unfold H0 at H
 refine vc tk 5 F W fun a w F W => ?_
 obtain ⟨o1, G1, K1, L1⟩ := I5 H
 refine Aj (fun a w => some (Sum.inl ()) = some o1 ∧ Fr 50 [] [(0, .int .i64 p0), (4, .bool false)] a ∧ Stw ⟨Y, [], w0⟩ [] [] w) ?_ ?_
 ·
  have H := G1
  clear G1 K1
  refine vc tk 6 F W fun a w F W => ?_
  refine AA H (fun s a w => Fr 50 [] [(0, .int .i64 p0), (1, v1), (4, .bool false), (5, .int .i64 s)] a ∧ Stw ⟨Y, [], w0⟩ [] [] w) ⟨F.ra Aa, W⟩ fun s o a w H L2 hR => ?_
  obtain ⟨x1, rfl⟩ : ∃ x, x = s := ⟨s, rfl⟩
  obtain ⟨F, W⟩ := hR
  have F : Fr 50 [] [(0, .int .i64 p0), (1, v1), (4, .bool false), (5, .int .i64 x1)] a := F
  have W : Stw ⟨Y, [], w0⟩ [] [] w := W
  rw [GW] at H
  refine vc tk 5 F W fun a w F W => ?_
  refine ls F W Aa (AR (r := Jz) (l := p1) UB Aa F Aa (Ab h_v1)).q fun a w F W => ?_
  refine Bz tk 3 F W fun a w F W => ?_
  refine AN F Aa H (fun F H => ?_) fun F H => ?_
  ·
   refine Gm tk 4 F W fun a w F W => ?_
   obtain ⟨o3, G3, K3⟩ := Ae H
   refine Aj (fun a w => ∃ x2 : Bool, some (x2) = some o3 ∧ Fr 50 [] [(0, .int .i64 p0), (1, v1), (4, .bool false), (5, .int .i64 x1), (43, .bool x2)] a ∧ Stw ⟨Y, [], w0⟩ [] [] w) ?_ ?_
   ·
    have H := G3
    clear G3 K3
    refine vc tk 3 F W fun a w F W => ?_
    obtain ⟨x3, h1, H⟩ := Ae H
    refine ls F W Aa (Al (r := Jz) T6 F Aa Aa (Ab h_v1) h1).q fun a w F W => ?_
    refine ls F W Aa (Af PX Aa Aa Aa T3 F Aa (CS v1 + (x1).toNat * 2) Aa).q fun a w F W => ?_
    refine ls F W Aa (Ag (y := Value.int .i64 x3.1) (j := 0) (i := x1) F Aa Aa (Ab h_v1) h1 Ul.to T3 Aa).q fun a w F W => ?_
    refine vl tk 2 F W fun a w F W => ?_
    rcases Bool.eq_false_or_eq_true (decide (x3.1 < 0)) with hb | hb
    ·
     have H := B5 (CT hb) H
     rw [hb] at F
     clear hb
     refine vl tk 26 F W fun a w F W => ?_
     refine Ac ?_
     exact ⟨_, H, F.ra Aa, W⟩
    have H := B6 (CV hb) H
    rw [hb] at F
    clear hb
    refine vl tk 2 F W fun a w F W => ?_
    obtain ⟨x4, h2, H⟩ := Ae H
    refine CO F W (Ad F Aa Aa Aa Aa) Aa (Ah Aa) (Al (r := Jz) T6 F Aa Aa (Ab h_v1) h2).q fun a w F W => ?_
    refine CO F W (Ad F Aa Aa Aa Aa) Aa (Ah Aa) (Af PX Aa Aa Aa T3 F Aa (CS v1 + (x1).toNat * 2) Aa).q fun a w F W => ?_
    refine CO F W (Ad F Aa Aa Aa Aa) Aa (Ah Aa) (Ag (y := Value.int .i64 x4.1) (j := 0) (i := x1) F Aa Aa (Ab h_v1) h2 Ul.to T3 Aa).q fun a w F W => ?_
    refine vl tk 4 F W fun a w F W => ?_
    rcases Bool.eq_false_or_eq_true (decide (p0 ≤ x4.1)) with hb | hb
    ·
     have H := B5 (CT hb) H
     rw [hb] at F
     clear hb
     refine vl tk 17 F W fun a w F W => ?_
     refine Ac ?_
     exact ⟨_, H, F.ra Aa, W⟩
    have H := B6 (CV hb) H
    rw [hb] at F
    clear hb
    refine vl tk 2 F W fun a w F W => ?_
    obtain ⟨x5, h3, H⟩ := Ae H
    refine CO F W (Ad F Aa Aa Aa Aa) Aa (Ah Aa) (Al (r := Jz) T6 F Aa Aa (Ab h_v1) h3).q fun a w F W => ?_
    refine CO F W (Ad F Aa Aa Aa Aa) Aa (Ah Aa) (Af PX Aa Aa Aa T3 F Aa (CS v1 + (x1).toNat * 2 + 1) Aa).q fun a w F W => ?_
    refine CO F W (Ad F Aa Aa Aa Aa) Aa (Ah Aa) (Ag (y := Value.int .i64 x5.2) (j := 1) (i := x1) F Aa Aa (Ab h_v1) h3 Ul.to T3 Aa).q fun a w F W => ?_
    refine vl tk 3 F W fun a w F W => ?_
    rcases Bool.eq_false_or_eq_true (decide (x5.2 < 0)) with hb | hb
    ·
     have H := B5 (CT hb) H
     rw [hb] at F
     clear hb
     refine vl tk 9 F W fun a w F W => ?_
     refine Ac ?_
     exact ⟨_, H, F.ra Aa, W⟩
    have H := B6 (CV hb) H
    rw [hb] at F
    clear hb
    refine vl tk 2 F W fun a w F W => ?_
    obtain ⟨x6, h4, H⟩ := Ae H
    refine CO F W (Ad F Aa Aa Aa Aa) Aa (Ah Aa) (Al (r := Jz) T6 F Aa Aa (Ab h_v1) h4).q fun a w F W => ?_
    refine CO F W (Ad F Aa Aa Aa Aa) Aa (Ah Aa) (Af PX Aa Aa Aa T3 F Aa (CS v1 + (x1).toNat * 2 + 1) Aa).q fun a w F W => ?_
    refine CO F W (Ad F Aa Aa Aa Aa) Aa (Ah Aa) (Ag (y := Value.int .i64 x6.2) (j := 1) (i := x1) F Aa Aa (Ab h_v1) h4 Ul.to T3 Aa).q fun a w F W => ?_
    refine vl tk 4 F W fun a w F W => ?_
    refine Ac ?_
    exact ⟨_, H, F.ra Aa, W⟩
   rintro a w ⟨x2, hj, F, W⟩
   have hj := Av hj
   subst hj
   have H := K3
   clear G3 K3
   refine B0 F Aa H (fun F H => ?_) fun F H => ?_
   ·
    refine vc tk 5 F W fun a w F W => ?_
    refine Ao (Ax ?_)
    iterate 2 refine Aw ?_
    refine Ax (Aw ?_)
    have H := L2 _ H
    have H := L1 _ H
    have H := Av H
    subst H
    refine AE (.inl Aa) F W Aa (Ai F Aa) ?_
    exact ⟨rfl, W.done⟩
   refine As (An ?_)
   refine vn tk 5 F W fun a w F W => ?_
   refine Ac ?_
   exact ⟨_, H, F.ra Aa, W⟩
  refine Ay ?_
  iterate 2 refine AO ?_
  refine Az (Ac ?_)
  have H := L2 _ H
  exact ⟨H, F.ra Aa, W⟩
 rintro a w ⟨hj, F, W⟩
 have H := K1 _ hj
 clear hj G1 K1 L1
 refine Aj (fun a w => Fr 50 [] [(4, .bool (decide (0 ≤ p0) && decide (p0 ≤ 16)))] a ∧ Stw ⟨Y, [], w0⟩ [] [] w) ?_ ?_
 ·
  refine vc tk 4 F W fun a w F W => ?_
  rcases Bool.eq_false_or_eq_true (decide (0 ≤ p0)) with hb0 | hb0
  ·
   rw [hb0] at F
   refine vl tk 5 F W fun a w F W => ?_
   refine Ac ?_
   exact ⟨F.re ⟨(Gw (by try rw [hb0]; all_goals simp only [Gv])), trivial⟩, W⟩
  rw [hb0] at F
  refine vl tk 5 F W fun a w F W => ?_
  refine Ac ?_
  exact ⟨F.re ⟨(Gw (by try rw [hb0]; all_goals simp only [Gv])), trivial⟩, W⟩
 rintro a w ⟨F, W⟩
 refine Ao ?_
 have H := Av H
 subst H
 refine AE (.inl Aa) F W Aa (Ai F Aa) ?_
 exact ⟨rfl, W.done⟩
theorem XK : Has Try.prog 67 := BS Try.func67
noncomputable def Hz (p0 : List (Int × Int)) (p1 : Int) (p2 : Int) : Int → Option (Int ⊕ (Unit ⊕ Bool))
  | x1 => (if x1 < (p0.length : Int) then ((ix p0 x1).bind fun x3 => (if x3.1 = p1 then (ix p0 x1).bind fun x4 => some (decide (x4.2 = p2)) else some false)).bind fun x2 => (if x2 = true then some (.inr (.inr true)) else some (.inl (A3 (x1 + 1)))) else some (.inr (.inl ())))
noncomputable def Ig (p0 : List (Int × Int)) (p1 : Int) (p2 : Int) : Option Bool := Ep (Au (Hz p0 p1 p2) 0) fun _ => some false
theorem MJ (Y : Nat → Prop) (w0 : World) (v1 : Value) (p0 : List (Int × Int)) (p1 : Int) (p2 : Int) (r : Bool) (H : Ig p0 p1 p2 = some r) (h_v1 : Sl w0 (NX []) Jz v1 p0) :
    Calls Try.prog 69 #[v1, .int .i64 p1, .int .i64 p2] w0 fun e w' => e = .returned (.bool r) ∧ Below w0.heap.size w0 w' := by
 refine enter Try.func69 Aa Try.ntmps69 Aa fun a F => ?_
 have W := Stw.start Y w0
 unfold Ig at H
 refine vc tk 5 F W fun a w F W => ?_
 obtain ⟨o1, G1, K1, L1⟩ := I5 H
 refine Aj (fun a w => some (Sum.inl ()) = some o1 ∧ Fr 30 [] [(6, .bool false)] a ∧ Stw ⟨Y, [], w0⟩ [] [] w) ?_ ?_
 ·
  have H := G1
  clear G1 K1
  refine vc tk 6 F W fun a w F W => ?_
  refine AA H (fun s a w => Fr 30 [] [(0, v1), (1, .int .i64 p1), (2, .int .i64 p2), (6, .bool false), (7, .int .i64 s)] a ∧ Stw ⟨Y, [], w0⟩ [] [] w) ⟨F.ra Aa, W⟩ fun s o a w H L2 hR => ?_
  obtain ⟨x1, rfl⟩ : ∃ x, x = s := ⟨s, rfl⟩
  obtain ⟨F, W⟩ := hR
  have F : Fr 30 [] [(0, v1), (1, .int .i64 p1), (2, .int .i64 p2), (6, .bool false), (7, .int .i64 x1)] a := F
  have W : Stw ⟨Y, [], w0⟩ [] [] w := W
  rw [Hz] at H
  refine vc tk 5 F W fun a w F W => ?_
  refine ls F W Aa (AR (r := Jz) (l := p0) UB Aa F Aa (Ab h_v1)).q fun a w F W => ?_
  refine Bz tk 3 F W fun a w F W => ?_
  refine AN F Aa H (fun F H => ?_) fun F H => ?_
  ·
   refine Gm tk 4 F W fun a w F W => ?_
   obtain ⟨o3, G3, K3⟩ := Ae H
   refine Aj (fun a w => ∃ x2 : Bool, some (x2) = some o3 ∧ Fr 30 [] [(0, v1), (1, .int .i64 p1), (2, .int .i64 p2), (6, .bool false), (7, .int .i64 x1), (29, .bool x2)] a ∧ Stw ⟨Y, [], w0⟩ [] [] w) ?_ ?_
   ·
    have H := G3
    clear G3 K3
    refine vc tk 3 F W fun a w F W => ?_
    obtain ⟨x3, h1, H⟩ := Ae H
    refine ls F W Aa (Al (r := Jz) T6 F Aa Aa (Ab h_v1) h1).q fun a w F W => ?_
    refine ls F W Aa (Af PX Aa Aa Aa T3 F Aa (CS v1 + (x1).toNat * 2) Aa).q fun a w F W => ?_
    refine ls F W Aa (Ag (y := Value.int .i64 x3.1) (j := 0) (i := x1) F Aa Aa (Ab h_v1) h1 Ul.to T3 Aa).q fun a w F W => ?_
    refine vl tk 3 F W fun a w F W => ?_
    rcases Bool.eq_false_or_eq_true (decide (x3.1 = p1)) with hb | hb
    ·
     have H := B5 (CT hb) H
     rw [hb] at F
     clear hb
     refine vl tk 2 F W fun a w F W => ?_
     obtain ⟨x4, h2, H⟩ := Ae H
     refine CO F W (Ad F Aa Aa Aa Aa) Aa (Ah Aa) (Al (r := Jz) T6 F Aa Aa (Ab h_v1) h2).q fun a w F W => ?_
     refine CO F W (Ad F Aa Aa Aa Aa) Aa (Ah Aa) (Af PX Aa Aa Aa T3 F Aa (CS v1 + (x1).toNat * 2 + 1) Aa).q fun a w F W => ?_
     refine CO F W (Ad F Aa Aa Aa Aa) Aa (Ah Aa) (Ag (y := Value.int .i64 x4.2) (j := 1) (i := x1) F Aa Aa (Ab h_v1) h2 Ul.to T3 Aa).q fun a w F W => ?_
     refine vl tk 4 F W fun a w F W => ?_
     refine Ac ?_
     exact ⟨_, H, F.ra Aa, W⟩
    have H := B6 (CV hb) H
    rw [hb] at F
    clear hb
    refine vl tk 9 F W fun a w F W => ?_
    refine Ac ?_
    exact ⟨_, H, F.ra Aa, W⟩
   rintro a w ⟨x2, hj, F, W⟩
   have hj := Av hj
   subst hj
   have H := K3
   clear G3 K3
   refine B0 F Aa H (fun F H => ?_) fun F H => ?_
   ·
    refine vc tk 5 F W fun a w F W => ?_
    refine Ao (Ax ?_)
    iterate 2 refine Aw ?_
    refine Ax (Aw ?_)
    have H := L2 _ H
    have H := L1 _ H
    have H := Av H
    subst H
    refine AE (.inl Aa) F W Aa (Ai F Aa) ?_
    exact ⟨rfl, W.done⟩
   refine As (An ?_)
   refine vn tk 5 F W fun a w F W => ?_
   refine Ac ?_
   exact ⟨_, H, F.ra Aa, W⟩
  refine Ay ?_
  iterate 2 refine AO ?_
  refine Az (Ac ?_)
  have H := L2 _ H
  exact ⟨H, F.ra Aa, W⟩
 rintro a w ⟨hj, F, W⟩
 have H := K1 _ hj
 clear hj G1 K1 L1
 refine vc tk 5 F W fun a w F W => ?_
 refine Ao ?_
 have H := Av H
 subst H
 refine AE (.inl Aa) F W Aa (Ai F Aa) ?_
 exact ⟨rfl, W.done⟩
theorem W4 : Has Try.prog 69 := BS Try.func69
noncomputable def IE (p0 : List Int) (p1 : Int) : Int → Option (Int ⊕ (Unit ⊕ Bool))
  | x1 => (if x1 < (p0.length : Int) then (ix p0 x1).bind fun x2 => (if x2 = p1 then some (.inr (.inr true)) else some (.inl (A3 (x1 + 1)))) else some (.inr (.inl ())))
noncomputable def JF (p0 : List Int) (p1 : Int) : Option Bool := Ep (Au (IE p0 p1) 0) fun _ => some false
theorem Nh (Y : Nat → Prop) (w0 : World) (v1 : Value) (p0 : List Int) (p1 : Int) (r : Bool) (H : JF p0 p1 = some r) (h_v1 : Sl w0 (NX []) (Rp.int .i64) v1 p0) :
    Calls Try.prog 86 #[v1, .int .i64 p1] w0 fun e w' => e = .returned (.bool r) ∧ Below w0.heap.size w0 w' := by
 refine enter Try.func86 Aa Try.ntmps86 Aa fun a F => ?_
 have W := Stw.start Y w0
 unfold JF at H
 refine vc tk 5 F W fun a w F W => ?_
 obtain ⟨o1, G1, K1, L1⟩ := I5 H
 refine Aj (fun a w => some (Sum.inl ()) = some o1 ∧ Fr 18 [] [(4, .bool false)] a ∧ Stw ⟨Y, [], w0⟩ [] [] w) ?_ ?_
 ·
  have H := G1
  clear G1 K1
  refine vc tk 6 F W fun a w F W => ?_
  refine AA H (fun s a w => Fr 18 [] [(0, v1), (1, .int .i64 p1), (4, .bool false), (5, .int .i64 s)] a ∧ Stw ⟨Y, [], w0⟩ [] [] w) ⟨F.ra Aa, W⟩ fun s o a w H L2 hR => ?_
  obtain ⟨x1, rfl⟩ : ∃ x, x = s := ⟨s, rfl⟩
  obtain ⟨F, W⟩ := hR
  have F : Fr 18 [] [(0, v1), (1, .int .i64 p1), (4, .bool false), (5, .int .i64 x1)] a := F
  have W : Stw ⟨Y, [], w0⟩ [] [] w := W
  rw [IE] at H
  refine vc tk 5 F W fun a w F W => ?_
  refine ls F W Aa (AR (r := (Rp.int .i64)) (l := p0) Hl Aa F Aa (Ab h_v1)).q fun a w F W => ?_
  refine Bz tk 3 F W fun a w F W => ?_
  refine AN F Aa H (fun F H => ?_) fun F H => ?_
  ·
   refine Gm tk 8 F W fun a w F W => ?_
   obtain ⟨x2, h1, H⟩ := Ae H
   refine ls F W Aa (Al (r := (Rp.int .i64)) FS F Aa Aa (Ab h_v1) h1).q fun a w F W => ?_
   refine ls F W Aa (Ag (y := Value.int .i64 x2) (j := 0) (i := x1) F Aa Aa (Ab h_v1) h1 Fl.int.to T3 Aa).q fun a w F W => ?_
   refine Bz tk 4 F W fun a w F W => ?_
   refine AN F Aa H (fun F H => ?_) fun F H => ?_
   ·
    refine vc tk 5 F W fun a w F W => ?_
    refine Ao (Ax ?_)
    iterate 2 refine Aw ?_
    refine Ax (Aw ?_)
    have H := L2 _ H
    have H := L1 _ H
    have H := Av H
    subst H
    refine AE (.inl Aa) F W Aa (Ai F Aa) ?_
    exact ⟨rfl, W.done⟩
   refine As (An ?_)
   refine vn tk 5 F W fun a w F W => ?_
   refine Ac ?_
   exact ⟨_, H, F.ra Aa, W⟩
  refine Ay ?_
  iterate 2 refine AO ?_
  refine Az (Ac ?_)
  have H := L2 _ H
  exact ⟨H, F.ra Aa, W⟩
 rintro a w ⟨hj, F, W⟩
 have H := K1 _ hj
 clear hj G1 K1 L1
 refine vc tk 5 F W fun a w F W => ?_
 refine Ao ?_
 have H := Av H
 subst H
 refine AE (.inl Aa) F W Aa (Ai F Aa) ?_
 exact ⟨rfl, W.done⟩
end Go.Proofs.Ythhoflfhegfmcaa
