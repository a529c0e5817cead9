/- The functions of layer 25, HU. Conditions: none. -/
import Derived.Test.YthhoflfhegfmcaabA0
namespace Go.Proofs.Ythhoflfhegfmcaa
open Go Go.RowKit
set_option linter.unusedVariables false
set_option linter.unusedSimpArgs false
set_option maxRecDepth 20000
set_option maxHeartbeats 1600000
theorem Uo : type_of% Try.underlying65 := Try.underlying65
theorem J8 : type_of% Try.underlying78 := Try.underlying78
theorem YD : Has Try.prog 61 := BS Try.func61
abbrev CM (a0 : Int × Int × Int × Int) : List Value := [.int .i64 a0.1, .int .i64 a0.2.1, .int .i64 a0.2.2.1, .int .i64 a0.2.2.2]
noncomputable def CK (p0 : Int × Int × List Int) (p1 : Int × Int × Int × Int) : Option Bool := (if p1.2.2.2 = p0.1 then (BN p0.2.2 p1.1).bind fun x2 => some x2 else some false).bind fun x1 => some x1
theorem Ir (Y : Nat → Prop) (w0 : World) (v1 : Value) (p0 : Int × Int × List Int) (p1 : Int × Int × Int × Int) (r : Bool) (H : CK p0 p1 = some r) (h_v1 : Sl w0 (NX []) (Rp.int .i64) v1 p0.2.2) :
    Calls Try.prog 39 #[.agg #[.int .i64 p0.1, .int .i64 p0.2.1, v1], .agg #[.int .i64 p1.1, .int .i64 p1.2.1, .int .i64 p1.2.2.1, .int .i64 p1.2.2.2]] w0 fun e w' => e = .returned (.bool r) ∧ Below w0.heap.size w0 w' := by
 refine enter Try.func39 Aa Try.ntmps39 Aa fun a F => ?_
 have W := Stw.start Y w0
 unfold CK at H
 refine vc tk 2 F W fun a w F W => ?_
 refine Bq (cs := [.int .i64 p0.1, .int .i64 p0.2.1, v1]) F W Aa Aa Aa fun b1 a w F W => ?_
 refine Bq (cs := (CM p1)) F W Aa Aa Aa fun b2 a w F W => ?_
 refine vl tk 2 F W fun a w F W => ?_
 refine Ac ?_
 obtain ⟨o1, G1, K1⟩ := Ae H
 refine Aj (fun a w => ∃ x1 : Bool, some (x1) = some o1 ∧ Fr 17 [] [(4, .bool x1)] a ∧ Stw ⟨Y, [], w0⟩ [(b2, [.int .i64 p1.1, .int .i64 p1.2.1, .int .i64 p1.2.2.1, .int .i64 p1.2.2.2]), (b1, [.int .i64 p0.1, .int .i64 p0.2.1, v1])] [] w) ?_ ?_
 ·
  have H := G1
  clear G1 K1
  refine D3 tk 7 [0, 1] F W (ai (ai fun a w F W => ?_))
  rcases Bool.eq_false_or_eq_true (decide (p1.2.2.2 = p0.1)) with hb | hb
  ·
   have H := B5 (CT hb) H
   rw [hb] at F
   clear hb
   refine GL tk 4 [1, 0] F W (ai (ai fun a w F W => ?_))
   refine I3 (Ad F Aa Aa Aa Aa) ?_
   obtain ⟨x2, h1, H⟩ := Ae H
   refine ls F W Aa (AL (v := Value.bool x2) F YD Aa (fun w W => Hy any w (v1) p0.2.2 p1.1 _ h1 (Ci (Ab h_v1) W))) fun a w F W => ?_
   refine vl tk 3 F W fun a w F W => ?_
   refine Ac ?_
   have W := W.frontM (i := 1) Aa Aa
   have W := W.frontM (i := 1) Aa Aa
   exact ⟨_, H, F.ra Aa, W⟩
  have H := B6 (CV hb) H
  rw [hb] at F
  clear hb
  refine vl tk 8 F W fun a w F W => ?_
  refine Ac ?_
  have W := W.frontM (i := 1) Aa Aa
  have W := W.frontM (i := 1) Aa Aa
  exact ⟨_, H, F.ra Aa, W⟩
 rintro a w ⟨x1, hj, F, W⟩
 have hj := Av hj
 subst hj
 have H := K1
 clear G1 K1
 refine Ao ?_
 have H := Av H
 subst H
 refine AE (.inl Aa) F W Aa (Ai F Aa) ?_
 exact ⟨rfl, W.done⟩
theorem WV : Has Try.prog 39 := BS Try.func39
noncomputable def B2 (p0 : Int × Int × List Int) (p1 : Int × Int × Int × Int) : Option Bool := (CK p0 p1).bind fun x1 => some x1
theorem GS (Y : Nat → Prop) (w0 : World) (v1 : Value) (q_p1 : Nat) (p0 : Int × Int × List Int) (p1 : Int × Int × Int × Int) (r : Bool) (H : B2 p0 p1 = some r) (h_v1 : Sl w0 (NX []) (Rp.int .i64) v1 p0.2.2) (a_q_p1 : At ⟨Y, [], w0⟩ q_p1 0 [.int .i64 p1.1, .int .i64 p1.2.1, .int .i64 p1.2.2.1, .int .i64 p1.2.2.2]) :
    Calls Try.prog 58 #[.agg #[.int .i64 p0.1, .int .i64 p0.2.1, v1], .pointer (some ⟨q_p1, 0, none⟩)] w0 fun e w' => e = .returned (.bool r) ∧ Below w0.heap.size w0 w' := by
 refine enter Try.func58 Aa Try.ntmps58 Aa fun a F => ?_
 have W := Stw.start Y w0
 unfold B2 at H
 refine vc tk 2 F W fun a w F W => ?_
 refine Bq (cs := [.int .i64 p0.1, .int .i64 p0.2.1, v1]) F W Aa Aa Aa fun b1 a w F W => ?_
 refine IG tk 6 [0] F W (ai fun a w F W => ?_)
 refine ls F W Aa (QR (y := Value.agg #[.int .i64 p1.1, .int .i64 p1.2.1, .int .i64 p1.2.2.1, .int .i64 p1.2.2.2]) (j := 0) F Aa (Nat.zero_add _).symm a_q_p1 To Aa).q fun a w F W => ?_
 obtain ⟨x1, h1, H⟩ := Ae H
 refine ls F W Aa (AL (v := Value.bool x1) F WV Aa (fun w W => Ir any w (v1) p0 p1 _ h1 (Ci (Ab h_v1) W))) fun a w F W => ?_
 refine Bz tk 3 F W fun a w F W => ?_
 refine Ao ?_
 have H := Av H
 subst H
 refine AE (.inl Aa) F W Aa (Ai F Aa) ?_
 exact ⟨rfl, W.done⟩
theorem X2 : Has Try.prog 58 := BS Try.func58
noncomputable def AQ (p0 : List (Int × Int × List Int)) (p1c0 : Int × Int × Int × Int) : Int → Option (Int ⊕ (Unit ⊕ Int))
  | x1 => (if x1 < (p0.length : Int) then (ix p0 x1).bind fun x2 => (B2 x2 p1c0).bind fun x3 => (if x3 = true then some (.inr (.inr x1)) else some (.inl (A3 (x1 + 1)))) else some (.inr (.inl ())))
noncomputable def A2 (p0 : List (Int × Int × List Int)) (p1c0 : Int × Int × Int × Int) : Option Int := Ep (Au (AQ p0 p1c0) 0) fun _ => some (-1)
theorem En (Y : Nat → Prop) (w0 : World) (v1 : Value) (q_p1c0 : Nat) (p0 : List (Int × Int × List Int)) (p1c0 : Int × Int × Int × Int) (r : Int) (H : A2 p0 p1c0 = some r) (h_v1 : Sl w0 (NX []) Kf v1 p0) (a_q_p1c0 : At ⟨Y, [], w0⟩ q_p1c0 0 [.int .i64 p1c0.1, .int .i64 p1c0.2.1, .int .i64 p1c0.2.2.1, .int .i64 p1c0.2.2.2]) :
    Calls Try.prog 76 #[v1, .func (.func 58) #[] #[.pointer (some ⟨q_p1c0, 0, none⟩)]] w0 fun e w' => e = .returned (.int .i64 r) ∧ Below w0.heap.size w0 w' := by
 refine enter Try.func76 Aa Try.ntmps76 Aa fun a F => ?_
 have W := Stw.start Y w0
 obtain ⟨v2, h1, h_v1⟩ := h_v1.ex FR
 unfold A2 at H
 refine vc tk 5 F W fun a w F W => ?_
 obtain ⟨o1, G1, K1, L1⟩ := I5 H
 refine Aj (fun a w => some (Sum.inl ()) = some o1 ∧ Fr 19 [] [(4, .int .i64 0)] a ∧ Stw ⟨Y, [], w0⟩ [] [] w) ?_ ?_
 ·
  have H := G1
  clear G1 K1
  refine vc tk 3 F W fun a w F W => ?_
  refine ls F W Aa (AR (r := Kf) (l := p0) Tg Aa F Aa (Aq FR h1 (Ab h_v1))).q fun a w F W => ?_
  refine Bz tk 4 F W fun a w F W => ?_
  refine AA H (fun s a w => Fr 19 [] [(0, v1), (1, .func (.func 58) #[] #[.pointer (some ⟨q_p1c0, 0, none⟩)]), (4, .int .i64 0), (7, .int .i64 (p0.length : Int)), (8, .int .i64 s)] a ∧ Stw ⟨Y, [], w0⟩ [] [] w) ⟨F.ra Aa, W⟩ fun s o a w H L2 hR => ?_
  obtain ⟨x1, rfl⟩ : ∃ x, x = s := ⟨s, rfl⟩
  obtain ⟨F, W⟩ := hR
  have F : Fr 19 [] [(0, v1), (1, .func (.func 58) #[] #[.pointer (some ⟨q_p1c0, 0, none⟩)]), (4, .int .i64 0), (7, .int .i64 (p0.length : Int)), (8, .int .i64 x1)] a := F
  have W : Stw ⟨Y, [], w0⟩ [] [] w := W
  rw [AQ] at H
  refine vc tk 6 F W fun a w F W => ?_
  refine AN F Aa H (fun F H => ?_) fun F H => ?_
  ·
   refine Gm tk 15 F W fun a w F W => ?_
   obtain ⟨x2, h2, H⟩ := Ae H
   obtain ⟨v3, h3, h4⟩ := Co h1 h2
   have h5 : NJ v3 = [.int .i64 x2.1, .int .i64 x2.2.1, (v3.2.2.1)] := congrArg (fun q : Int × Int × List Int => ([.int .i64 q.1, .int .i64 q.2.1, (v3.2.2.1)] : List Value)) h4
   refine ls F W Aa (Al (r := Q8) U0 F Aa Aa (Ab h_v1) h3).q fun a w F W => ?_
   refine ls F W Aa (Ag (y := Value.agg #[.int .i64 x2.1, .int .i64 x2.2.1, (v3.2.2.1)]) (j := 0) (i := x1) (enc := NJ) F Aa Aa (Ab h_v1) h3 Tc Wc (by rw [h5]; rfl)).q fun a w F W => ?_
   obtain ⟨x3, h6, H⟩ := Ae H
   refine ls F W Aa (Oh (ws := [.agg #[.int .i64 x2.1, .int .i64 x2.2.1, (v3.2.2.1)], .pointer (some ⟨q_p1c0, 0, none⟩)]) (v := Value.bool x3) F X2 Aa (fun w W => GS any w ((v3.2.2.1)) q_p1c0 x2 p1c0 _ h6 (Ci (A4 (Ab h_v1) h3 (BL.snd (BL.snd BL.here)) (congrArg (fun q : Int × Int × List Int => q.2.2) h4)) W) (At.re a_q_p1c0 W))) fun a w F W => ?_
   refine Bz tk 2 F W fun a w F W => ?_
   refine B0 F Aa H (fun F H => ?_) fun F H => ?_
   ·
    refine vc tk 6 F W fun a w F W => ?_
    refine Ao (Ax ?_)
    iterate 2 refine Aw ?_
    refine Ax (Aw ?_)
    have H := L2 _ H
    have H := L1 _ H
    have H := Av H
    subst H
    refine AE (.inl Aa) F W Aa (Ai F Aa) ?_
    exact ⟨rfl, W.done⟩
   refine As (An ?_)
   refine vn tk 4 F W fun a w F W => ?_
   refine Ac ?_
   exact ⟨_, H, F.ra Aa, W⟩
  refine Ay ?_
  iterate 2 refine AO ?_
  refine Az (Ac ?_)
  have H := L2 _ H
  exact ⟨H, F.ra Aa, W⟩
 rintro a w ⟨hj, F, W⟩
 have H := K1 _ hj
 clear hj G1 K1 L1
 refine vc tk 5 F W fun a w F W => ?_
 refine Ao ?_
 have H := Av H
 subst H
 refine AE (.inl Aa) F W Aa (Ai F Aa) ?_
 exact ⟨rfl, W.done⟩
theorem XT : Has Try.prog 76 := BS Try.func76
noncomputable def AZ (p0 : List (Int × Int × List Int)) (p1c0 : Int × Int × Int × Int) : Option Bool := (A2 p0 p1c0).bind fun x1 => some (decide (0 ≤ x1))
theorem D0 (Y : Nat → Prop) (w0 : World) (v1 : Value) (q_p1c0 : Nat) (p0 : List (Int × Int × List Int)) (p1c0 : Int × Int × Int × Int) (r : Bool) (H : AZ p0 p1c0 = some r) (h_v1 : Sl w0 (NX []) Kf v1 p0) (a_q_p1c0 : At ⟨Y, [], w0⟩ q_p1c0 0 [.int .i64 p1c0.1, .int .i64 p1c0.2.1, .int .i64 p1c0.2.2.1, .int .i64 p1c0.2.2.2]) :
    Calls Try.prog 57 #[v1, .func (.func 58) #[] #[.pointer (some ⟨q_p1c0, 0, none⟩)]] w0 fun e w' => e = .returned (.bool r) ∧ Below w0.heap.size w0 w' := by
 refine enter Try.func57 Aa Try.ntmps57 Aa fun a F => ?_
 have W := Stw.start Y w0
 obtain ⟨v2, h1, h_v1⟩ := h_v1.ex FR
 unfold AZ at H
 refine vc tk 9 F W fun a w F W => ?_
 obtain ⟨x1, h2, H⟩ := Ae H
 refine ls F W Aa (AL (v := Value.int .i64 x1) F XT Aa (fun w W => En any w (v1) q_p1c0 p0 p1c0 _ h2 (Ci (Aq FR h1 (Ab h_v1)) W) (At.re a_q_p1c0 W))) fun a w F W => ?_
 refine Bz tk 4 F W fun a w F W => ?_
 refine Ao ?_
 have H := Av H
 subst H
 refine AE (.inl Aa) F W Aa (Ai F Aa) ?_
 exact ⟨rfl, W.done⟩
theorem Xw : Has Try.prog 57 := BS Try.func57
abbrev CH (a0 : (Int × (List (Int × Int × Int × Int × Int × Int)) × (List (Int × Int))) × List (List Int) × List (List Int) × ((List (Int × Int × Int × Int)) × (List (Int × Int × List Int)) × Int × Int × Int × Int)) (a1 : Value) (a2 : Value) (a3 : Value) (a4 : Value) (a5 : Value) (a6 : Value) : List Value := [.int .i64 a0.1.1, a1, a2, a3, a4, a5, a6, .int .i64 a0.2.2.2.2.2.1, .int .i64 a0.2.2.2.2.2.2.1, .int .i64 a0.2.2.2.2.2.2.2.1, .int .i64 a0.2.2.2.2.2.2.2.2]
noncomputable def Bv (p0 : (Int × (List (Int × Int × Int × Int × Int × Int)) × (List (Int × Int))) × List (List Int) × List (List Int) × ((List (Int × Int × Int × Int)) × (List (Int × Int × List Int)) × Int × Int × Int × Int)) (p1 : Int × Int × Int × Int) : Option Bool := (AZ p0.2.2.2.2.1 p1).bind fun x1 => some x1
theorem EW (Y : Nat → Prop) (w0 : World) (v1 : Value) (v2 : Value) (v3 : Value) (v4 : Value) (v5 : Value) (v6 : Value) (p0 : (Int × (List (Int × Int × Int × Int × Int × Int)) × (List (Int × Int))) × List (List Int) × List (List Int) × ((List (Int × Int × Int × Int)) × (List (Int × Int × List Int)) × Int × Int × Int × Int)) (p1 : Int × Int × Int × Int) (r : Bool) (H : Bv p0 p1 = some r) (h_v1 : Sl w0 (NX []) Er v1 p0.1.2.1) (h_v2 : Sl w0 (NX []) Ec v2 p0.1.2.2) (h_v3 : Sl w0 (NX []) (Rp.slice (Rp.int .i64)) v3 p0.2.1) (h_v4 : Sl w0 (NX []) (Rp.slice (Rp.int .i64)) v4 p0.2.2.1) (h_v5 : Sl w0 (NX []) HV v5 p0.2.2.2.1) (h_v6 : Sl w0 (NX []) Kf v6 p0.2.2.2.2.1) :
    Calls Try.prog 34 #[.agg #[.int .i64 p0.1.1, v1, v2, v3, v4, v5, v6, .int .i64 p0.2.2.2.2.2.1, .int .i64 p0.2.2.2.2.2.2.1, .int .i64 p0.2.2.2.2.2.2.2.1, .int .i64 p0.2.2.2.2.2.2.2.2], .agg #[.int .i64 p1.1, .int .i64 p1.2.1, .int .i64 p1.2.2.1, .int .i64 p1.2.2.2]] w0 fun e w' => e = .returned (.bool r) ∧ Below w0.heap.size w0 w' := by
 refine enter Try.func34 Aa Try.ntmps34 Aa fun a F => ?_
 have W := Stw.start Y w0
 obtain ⟨v7, h1, h_v3⟩ := h_v3.ex Bh
 obtain ⟨v8, h2, h_v4⟩ := h_v4.ex Bh
 obtain ⟨v9, h3, h_v6⟩ := h_v6.ex FR
 unfold Bv at H
 refine vc tk 2 F W fun a w F W => ?_
 refine Bq (cs := (CH p0 v1 v2 v3 v4 v5 v6)) F W Aa Aa Aa fun b1 a w F W => ?_
 refine Bq (cs := (CM p1)) F W Aa Aa Aa fun b2 a w F W => ?_
 refine IG tk 8 [1] F W (ai fun a w F W => ?_)
 refine ls F W Aa (Py (us := []) (vs := [.pointer (some ⟨b2, 0, none⟩)]) F Aa Aa).q fun a w F W => ?_
 obtain ⟨x1, h4, H⟩ := Ae H
 refine ls F W Aa (AL (v := Value.bool x1) F Xw Aa (fun w W => D0 any w (v6) b2 p0.2.2.2.2.1 p1 _ h4 (Ci (Aq FR h3 (Ab h_v6)) W) (Wr W 0 Aa))) fun a w F W => ?_
 refine Bz tk 3 F W fun a w F W => ?_
 refine Ao ?_
 have H := Av H
 subst H
 refine AE (.inl Aa) F W Aa (Ai F Aa) ?_
 exact ⟨rfl, W.done⟩
theorem Xb : Has Try.prog 34 := BS Try.func34
abbrev B4 (a0 : Nat) (a1 : (Int × (List (Int × Int × Int × Int × Int × Int)) × (List (Int × Int))) × List (List Int) × List (List Int) × ((List (Int × Int × Int × Int)) × (List (Int × Int × List Int)) × Int × Int × Int × Int)) (a2 : Value) (a3 : Value) (a4 : Value) (a5 : Value) (a6 : Value) (a7 : Value) : List (Nat × List Value) := [(a0, [.int .i64 a1.1.1, a2, a3, a4, a5, a6, a7, .int .i64 a1.2.2.2.2.2.1, .int .i64 a1.2.2.2.2.2.2.1, .int .i64 a1.2.2.2.2.2.2.2.1, .int .i64 a1.2.2.2.2.2.2.2.2])]
abbrev Oy  : List Value := [.int .i64 0, .int .i64 0, .int .i64 0, .int .i64 0]
noncomputable def BP (p0 : (Int × (List (Int × Int × Int × Int × Int × Int)) × (List (Int × Int))) × List (List Int) × List (List Int) × ((List (Int × Int × Int × Int)) × (List (Int × Int × List Int)) × Int × Int × Int × Int)) (p1 : Int) (p2 : Int) (p3 : Int) : (Int × Int) → Option ((Int × Int) ⊕ Int)
  | (x2, x3) => (if x3 < (p0.2.2.2.1.length : Int) then ((ix p0.2.2.2.1 x3).bind fun x5 => (if x5.1 = p1 then (if x5.2.1 = p2 then (if x5.2.2.1 = p3 then (Bv p0 x5).bind fun x7 => some x7 else some false) else some false) else some false).bind fun x6 => (if x6 = true then some (A3 (x2 + 1)) else some x2)).bind fun x4 => some (.inl (x4, A3 (x3 + 1))) else some (.inr x2))
noncomputable def Bf (p0 : (Int × (List (Int × Int × Int × Int × Int × Int)) × (List (Int × Int))) × List (List Int) × List (List Int) × ((List (Int × Int × Int × Int)) × (List (Int × Int × List Int)) × Int × Int × Int × Int)) (p1 : Int) (p2 : Int) (p3 : Int) : Option Int := (Au (BP p0 p1 p2 p3) (0, 0)).bind fun x1 => some x1
theorem IJ (Y : Nat → Prop) (w0 : World) (v1 : Value) (v2 : Value) (v3 : Value) (v4 : Value) (v5 : Value) (v6 : Value) (p0 : (Int × (List (Int × Int × Int × Int × Int × Int)) × (List (Int × Int))) × List (List Int) × List (List Int) × ((List (Int × Int × Int × Int)) × (List (Int × Int × List Int)) × Int × Int × Int × Int)) (p1 : Int) (p2 : Int) (p3 : Int) (r : Int) (H : Bf p0 p1 p2 p3 = some r) (h_v1 : Sl w0 (NX []) Er v1 p0.1.2.1) (h_v2 : Sl w0 (NX []) Ec v2 p0.1.2.2) (h_v3 : Sl w0 (NX []) (Rp.slice (Rp.int .i64)) v3 p0.2.1) (h_v4 : Sl w0 (NX []) (Rp.slice (Rp.int .i64)) v4 p0.2.2.1) (h_v5 : Sl w0 (NX []) HV v5 p0.2.2.2.1) (h_v6 : Sl w0 (NX []) Kf v6 p0.2.2.2.2.1) :
    Calls Try.prog 32 #[.agg #[.int .i64 p0.1.1, v1, v2, v3, v4, v5, v6, .int .i64 p0.2.2.2.2.2.1, .int .i64 p0.2.2.2.2.2.2.1, .int .i64 p0.2.2.2.2.2.2.2.1, .int .i64 p0.2.2.2.2.2.2.2.2], .int .i64 p1, .int .i64 p2, .int .i64 p3] w0 fun e w' => e = .returned (.int .i64 r) ∧ Below w0.heap.size w0 w' := by
 refine enter Try.func32 Aa Try.ntmps32 Aa fun a F => ?_
 have W := Stw.start Y w0
 obtain ⟨v7, h1, h_v3⟩ := h_v3.ex Bh
 obtain ⟨v8, h2, h_v4⟩ := h_v4.ex Bh
 obtain ⟨v9, h3, h_v6⟩ := h_v6.ex FR
 unfold Bf at H
 refine vc tk 2 F W fun a w F W => ?_
 refine Bq (cs := (CH p0 v1 v2 v3 v4 v5 v6)) F W Aa Aa Aa fun b1 a w F W => ?_
 refine Bz tk 8 F W fun a w F W => ?_
 obtain ⟨o1, G1, K1⟩ := Ae H
 refine Aj (fun a w => ∃ x1 : Int, some (x1) = some o1 ∧ Fr 45 [] [(8, .int .i64 0), (9, .int .i64 x1)] a ∧ Stw ⟨Y, [], w0⟩ (B4 b1 p0 v1 v2 v3 v4 v5 v6) [] w) ?_ ?_
 ·
  have H := G1
  clear G1 K1
  refine D3 tk 5 [0] F W (ai fun a w F W => ?_)
  refine ls F W Aa (AR (r := HV) (l := p0.2.2.2.1) SW Aa F Aa (Ab h_v5)).q fun a w F W => ?_
  refine Bz tk 4 F W fun a w F W => ?_
  refine AA H (fun s a w => Fr 45 [] [(1, .int .i64 p1), (2, .int .i64 p2), (3, .int .i64 p3), (4, .pointer (some ⟨b1, 0, none⟩)), (8, .int .i64 0), (9, .int .i64 s.1), (14, v5), (15, .int .i64 (p0.2.2.2.1.length : Int)), (16, .int .i64 s.2)] a ∧ Stw ⟨Y, [], w0⟩ (B4 b1 p0 v1 v2 v3 v4 v5 v6) [] w) ⟨F.ra Aa, W⟩ fun s o a w H L2 hR => ?_
  obtain ⟨x2, x3⟩ := s
  obtain ⟨F, W⟩ := hR
  have F : Fr 45 [] [(1, .int .i64 p1), (2, .int .i64 p2), (3, .int .i64 p3), (4, .pointer (some ⟨b1, 0, none⟩)), (8, .int .i64 0), (9, .int .i64 x2), (14, v5), (15, .int .i64 (p0.2.2.2.1.length : Int)), (16, .int .i64 x3)] a := F
  have W : Stw ⟨Y, [], w0⟩ (B4 b1 p0 v1 v2 v3 v4 v5 v6) [] w := W
  rw [BP] at H
  refine vc tk 6 F W fun a w F W => ?_
  refine AN F Aa H (fun F H => ?_) fun F H => ?_
  ·
   refine As (Ac ?_)
   obtain ⟨o3, G3, K3⟩ := Ae H
   refine Aj (fun a w => ∃ x4 : Int, some (x4) = some o3 ∧ Fr 45 [] [(1, .int .i64 p1), (2, .int .i64 p2), (3, .int .i64 p3), (4, .pointer (some ⟨b1, 0, none⟩)), (8, .int .i64 0), (9, .int .i64 x4), (14, v5), (15, .int .i64 (p0.2.2.2.1.length : Int)), (16, .int .i64 x3)] a ∧ Stw ⟨Y, [], w0⟩ (B4 b1 p0 v1 v2 v3 v4 v5 v6) [] w) ?_ ?_
   ·
    have H := G3
    clear G3 K3
    refine vc tk 3 F W fun a w F W => ?_
    obtain ⟨x5, h4, H⟩ := Ae H
    refine ls F W Aa (Al (r := HV) Vr F Aa Aa (Ab h_v5) h4).q fun a w F W => ?_
    refine ls F W Aa (Ag (y := Value.agg #[.int .i64 x5.1, .int .i64 x5.2.1, .int .i64 x5.2.2.1, .int .i64 x5.2.2.2]) (j := 0) (i := x3) F Aa Aa (Ab h_v5) h4 V2.to To Aa).q fun a w F W => ?_
    refine BU (cs := (Oy)) F W Aa VX Aa fun b2 a w F W => ?_
    refine Fv 0 F W Aa Aa Aa To Aa Aa Aa fun w W => ?_
    refine DP (Ac ?_)
    obtain ⟨o4, G4, K4⟩ := Ae H
    refine Aj (fun a w => ∃ x6 : Bool, some (x6) = some o4 ∧ Fr 45 [] [(1, .int .i64 p1), (2, .int .i64 p2), (3, .int .i64 p3), (4, .pointer (some ⟨b1, 0, none⟩)), (8, .int .i64 0), (9, .int .i64 x2), (14, v5), (15, .int .i64 (p0.2.2.2.1.length : Int)), (16, .int .i64 x3), (40, .bool x6)] a ∧ Stw ⟨Y, [], w0⟩ [(b2, (CM x5)), (b1, (CH p0 v1 v2 v3 v4 v5 v6))] [] w) ?_ ?_
    ·
     have H := G4
     clear G4 K4
     refine D3 tk 6 [0] F W (ai fun a w F W => ?_)
     rcases Bool.eq_false_or_eq_true (decide (x5.1 = p1)) with hb | hb
     ·
      have H := B5 (CT hb) H
      rw [hb] at F
      clear hb
      refine GL tk 6 [0] F W (ai fun a w F W => ?_)
      rcases Bool.eq_false_or_eq_true (decide (x5.2.1 = p2)) with hb | hb
      ·
       have H := B5 (CT hb) H
       rw [hb] at F
       clear hb
       refine GL tk 6 [0] F W (ai fun a w F W => ?_)
       rcases Bool.eq_false_or_eq_true (decide (x5.2.2.1 = p3)) with hb | hb
       ·
        have H := B5 (CT hb) H
        rw [hb] at F
        clear hb
        refine GL tk 2 [1, 0] F W (ai (ai fun a w F W => ?_))
        refine I3 (Ad F Aa Aa Aa Aa) ?_
        obtain ⟨x7, h5, H⟩ := Ae H
        refine ls F W Aa (AL (v := Value.bool x7) F Xb Aa (fun w W => EW any w (v1) (v2) (v3) (v4) (v5) (v6) p0 x5 _ h5 (Ci (Ab h_v1) W) (Ci (Ab h_v2) W) (Ci (Aq Bh h1 (Ab h_v3)) W) (Ci (Aq Bh h2 (Ab h_v4)) W) (Ci (Ab h_v5) W) (Ci (Aq FR h3 (Ab h_v6)) W))) fun a w F W => ?_
        refine vl tk 2 F W fun a w F W => ?_
        refine Ac ?_
        have W := W.frontM (i := 1) Aa Aa
        have W := W.frontM (i := 1) Aa Aa
        exact ⟨_, H, F.ra Aa, W⟩
       have H := B6 (CV hb) H
       rw [hb] at F
       clear hb
       refine vl tk 5 F W fun a w F W => ?_
       refine Ac ?_
       have W := W.frontM (i := 1) Aa Aa
       have W := W.frontM (i := 1) Aa Aa
       exact ⟨_, H, F.ra Aa, W⟩
      have H := B6 (CV hb) H
      rw [hb] at F
      clear hb
      refine vl tk 11 F W fun a w F W => ?_
      refine Ac ?_
      have W := W.frontM (i := 1) Aa Aa
      have W := W.frontM (i := 1) Aa Aa
      exact ⟨_, H, F.ra Aa, W⟩
     have H := B6 (CV hb) H
     rw [hb] at F
     clear hb
     refine vl tk 17 F W fun a w F W => ?_
     refine Ac ?_
     have W := W.frontM (i := 1) Aa Aa
     have W := W.frontM (i := 1) Aa Aa
     exact ⟨_, H, F.ra Aa, W⟩
    rintro a w ⟨x6, hj, F, W⟩
    have hj := Av hj
    subst hj
    have H := K4
    clear G4 K4
    refine B0 F Aa H (fun F H => ?_) fun F H => ?_
    ·
     refine vc tk 5 F W fun a w F W => ?_
     refine An (Ac ?_)
     have W := W.frontM (i := 1) Aa Aa
     have W := W.sub (M' := (B4 b1 p0 v1 v2 v3 v4 v5 v6)) (Z' := []) (List.Sublist.cons_cons _ (List.nil_sublist _)) (List.Sublist.refl _)
     exact ⟨_, H, F.ra Aa, W⟩
    refine As (An (Ac ?_))
    have W := W.frontM (i := 1) Aa Aa
    have W := W.sub (M' := (B4 b1 p0 v1 v2 v3 v4 v5 v6)) (Z' := []) (List.Sublist.cons_cons _ (List.nil_sublist _)) (List.Sublist.refl _)
    exact ⟨_, H, F.ra Aa, W⟩
   rintro a w ⟨x4, hj, F, W⟩
   have hj := Av hj
   subst hj
   have H := K3
   clear G3 K3
   refine vc tk 4 F W fun a w F W => ?_
   refine Ac ?_
   exact ⟨_, H, F.ra Aa, W⟩
  refine Ay ?_
  iterate 2 refine AO ?_
  refine Az (Ac ?_)
  have H := L2 _ H
  exact ⟨_, H, F.ra Aa, W⟩
 rintro a w ⟨x1, hj, F, W⟩
 have hj := Av hj
 subst hj
 have H := K1
 clear G1 K1
 refine vc tk 6 F W fun a w F W => ?_
 refine Ao ?_
 have H := Av H
 subst H
 refine AE (.inl Aa) F W Aa (Ai F Aa) ?_
 exact ⟨rfl, W.done⟩
theorem XV : Has Try.prog 32 := BS Try.func32
noncomputable def Bu (p0 : (Int × (List (Int × Int × Int × Int × Int × Int)) × (List (Int × Int))) × List (List Int) × List (List Int) × ((List (Int × Int × Int × Int)) × (List (Int × Int × List Int)) × Int × Int × Int × Int)) (x3 : Int) (x5 : List Int) : ((List (Int × Int × Int)) × Int) → Option (((List (Int × Int × Int)) × Int) ⊕ (List (Int × Int × Int)))
  | (x6, x7) => (if x7 < (x5.length : Int) then ((ix x5 x7).bind fun x9 => ((ix p0.2.1 x3).bind fun x11 => (ix x11 x7).bind fun x12 => (if x9 ≠ x12 then (Bf p0 x3 x7 x9).bind fun x13 => some (decide (x13 ≠ 1)) else some false)).bind fun x10 => (if x10 = true then (Fo x6 ([(2, x3, x7)] : List (Int × Int × Int))).bind fun x14 => some x14 else some x6)).bind fun x8 => some (.inl (x8, A3 (x7 + 1))) else some (.inr x6))
noncomputable def BQ (p0 : (Int × (List (Int × Int × Int × Int × Int × Int)) × (List (Int × Int))) × List (List Int) × List (List Int) × ((List (Int × Int × Int × Int)) × (List (Int × Int × List Int)) × Int × Int × Int × Int)) : ((List (Int × Int × Int)) × Int) → Option (((List (Int × Int × Int)) × Int) ⊕ (List (Int × Int × Int)))
  | (x2, x3) => (if x3 < (p0.2.2.1.length : Int) then ((ix p0.2.2.1 x3).bind fun x5 => Au (Bu p0 x3 x5) (x2, 0)).bind fun x4 => some (.inl (x4, A3 (x3 + 1))) else some (.inr x2))
noncomputable def Cm (p0 : (Int × (List (Int × Int × Int × Int × Int × Int)) × (List (Int × Int))) × List (List Int) × List (List Int) × ((List (Int × Int × Int × Int)) × (List (Int × Int × List Int)) × Int × Int × Int × Int)) : Option (List (Int × Int × Int)) := (Au (BQ p0) ([], 0)).bind fun x1 => some x1
theorem IA (Y : Nat → Prop) (w0 : World) (v1 : Value) (v2 : Value) (v3 : Value) (v4 : Value) (v5 : Value) (v6 : Value) (p0 : (Int × (List (Int × Int × Int × Int × Int × Int)) × (List (Int × Int))) × List (List Int) × List (List Int) × ((List (Int × Int × Int × Int)) × (List (Int × Int × List Int)) × Int × Int × Int × Int)) (r : (List (Int × Int × Int))) (H : Cm p0 = some r) (h_v1 : Sl w0 (NX []) Er v1 p0.1.2.1) (h_v2 : Sl w0 (NX []) Ec v2 p0.1.2.2) (h_v3 : Sl w0 (NX []) (Rp.slice (Rp.int .i64)) v3 p0.2.1) (h_v4 : Sl w0 (NX []) (Rp.slice (Rp.int .i64)) v4 p0.2.2.1) (h_v5 : Sl w0 (NX []) HV v5 p0.2.2.2.1) (h_v6 : Sl w0 (NX []) Kf v6 p0.2.2.2.2.1) :
    Calls Try.prog 18 #[.agg #[.int .i64 p0.1.1, v1, v2, v3, v4, v5, v6, .int .i64 p0.2.2.2.2.2.1, .int .i64 p0.2.2.2.2.2.2.1, .int .i64 p0.2.2.2.2.2.2.2.1, .int .i64 p0.2.2.2.2.2.2.2.2]] w0 fun e w' => ∃ x : Value, e = .returned (x) ∧ Stw ⟨Y, [], w0⟩ [] [row (x) 58 BK r] w' := by
 refine enter Try.func18 Aa Try.ntmps18 Aa fun a F => ?_
 have W := Stw.start Y w0
 obtain ⟨v7, h1, h_v3⟩ := h_v3.ex Bh
 obtain ⟨v8, h2, h_v4⟩ := h_v4.ex Bh
 obtain ⟨v9, h3, h_v6⟩ := h_v6.ex FR
 unfold Cm at H
 refine vc tk 2 F W fun a w F W => ?_
 refine Bq (cs := (CH p0 v1 v2 v3 v4 v5 v6)) F W Aa Aa Aa fun b1 a w F W => ?_
 refine Bz tk 8 F W fun a w F W => ?_
 obtain ⟨o1, G1, K1⟩ := Ae H
 refine Aj (fun a w => ∃ x1 : List (Int × Int × Int), ∃ v10 : Value, some (x1) = some o1 ∧ Fr 50 [] [(2, .slice none 0 0), (3, v10)] a ∧ Stw ⟨Y, [], w0⟩ (B4 b1 p0 v1 v2 v3 v4 v5 v6) [row v10 58 BK x1] w) ?_ ?_
 ·
  have H := G1
  clear G1 K1
  refine D3 tk 4 [0] F W (ai fun a w F W => ?_)
  refine ls F W Aa (AR (r := (Rp.slice (Rp.int .i64))) (l := p0.2.2.1) JP Aa F Aa (Aq Bh h2 (Ab h_v4))).q fun a w F W => ?_
  refine Bz tk 4 F W fun a w F W => ?_
  have W := W.nilRow 58 BK
  refine AA H (fun s a w => ∃ v11 : Value, Fr 50 [] [(1, .pointer (some ⟨b1, 0, none⟩)), (2, .slice none 0 0), (3, v11), (9, v4), (10, .int .i64 (p0.2.2.1.length : Int)), (11, .int .i64 s.2)] a ∧ Stw ⟨Y, [], w0⟩ (B4 b1 p0 v1 v2 v3 v4 v5 v6) [row v11 58 BK s.1] w) ⟨(Value.slice none 0 0), F.ra Aa, W⟩ fun s o a w H L2 hR => ?_
  obtain ⟨x2, x3⟩ := s
  obtain ⟨v11, F, W⟩ := hR
  have F : Fr 50 [] [(1, .pointer (some ⟨b1, 0, none⟩)), (2, .slice none 0 0), (3, v11), (9, v4), (10, .int .i64 (p0.2.2.1.length : Int)), (11, .int .i64 x3)] a := F
  have W : Stw ⟨Y, [], w0⟩ (B4 b1 p0 v1 v2 v3 v4 v5 v6) [row v11 58 BK x2] w := W
  rw [BQ] at H
  refine vc tk 6 F W fun a w F W => ?_
  refine AN F Aa H (fun F H => ?_) fun F H => ?_
  ·
   refine As (Ac ?_)
   obtain ⟨o3, G3, K3⟩ := Ae H
   refine Aj (fun a w => ∃ x4 : List (Int × Int × Int), ∃ v12 : Value, some (x4) = some o3 ∧ Fr 50 [] [(1, .pointer (some ⟨b1, 0, none⟩)), (2, .slice none 0 0), (3, v12), (9, v4), (10, .int .i64 (p0.2.2.1.length : Int)), (11, .int .i64 x3)] a ∧ Stw ⟨Y, [], w0⟩ (B4 b1 p0 v1 v2 v3 v4 v5 v6) [row v12 58 BK x4] w) ?_ ?_
   ·
    have H := G3
    clear G3 K3
    refine vc tk 4 F W fun a w F W => ?_
    obtain ⟨x5, h4, H⟩ := Ae H
    obtain ⟨v13, h5, h6⟩ := Co h2 h4
    have h7 : C2 v13 = [(v13.1)] := congrArg (fun q : List Int => ([(v13.1)] : List Value)) h6
    refine ls F W Aa (Al (r := (Rp.vsl (Rp.int .i64))) Ke F Aa Aa (Ab h_v4) h5).q fun a w F W => ?_
    refine ls F W Aa (Ag (y := (v13.1)) (j := 0) (i := x3) (enc := C2) F Aa Aa (Ab h_v4) h5 Gd Jv (by rw [h7]; rfl)).q fun a w F W => ?_
    refine Bz tk 7 F W fun a w F W => ?_
    refine ls F W Aa (AR (r := (Rp.int .i64)) (l := x5) Hl Aa F Aa (A4 (Ab h_v4) h5 BL.here (congrArg (fun q : List Int => q) h6))).q fun a w F W => ?_
    refine Bz tk 4 F W fun a w F W => ?_
    refine AA H (fun s a w => ∃ v14 : Value, Fr 50 [] [(1, .pointer (some ⟨b1, 0, none⟩)), (2, .slice none 0 0), (3, v14), (4, .int .i64 x3), (9, v4), (10, .int .i64 (p0.2.2.1.length : Int)), (11, .int .i64 x3), (16, (v13.1)), (17, .int .i64 (x5.length : Int)), (18, .int .i64 s.2)] a ∧ Stw ⟨Y, [], w0⟩ (B4 b1 p0 v1 v2 v3 v4 v5 v6) [row v14 58 BK s.1] w) ⟨(v11), F.ra Aa, W⟩ fun s o a w H L4 hR => ?_
    obtain ⟨x6, x7⟩ := s
    obtain ⟨v14, F, W⟩ := hR
    have F : Fr 50 [] [(1, .pointer (some ⟨b1, 0, none⟩)), (2, .slice none 0 0), (3, v14), (4, .int .i64 x3), (9, v4), (10, .int .i64 (p0.2.2.1.length : Int)), (11, .int .i64 x3), (16, (v13.1)), (17, .int .i64 (x5.length : Int)), (18, .int .i64 x7)] a := F
    have W : Stw ⟨Y, [], w0⟩ (B4 b1 p0 v1 v2 v3 v4 v5 v6) [row v14 58 BK x6] w := W
    rw [Bu] at H
    refine vc tk 6 F W fun a w F W => ?_
    refine AN F Aa H (fun F H => ?_) fun F H => ?_
    ·
     refine As (Ac ?_)
     obtain ⟨o5, G5, K5⟩ := Ae H
     refine Aj (fun a w => ∃ x8 : List (Int × Int × Int), ∃ v15 : Value, some (x8) = some o5 ∧ Fr 50 [] [(1, .pointer (some ⟨b1, 0, none⟩)), (2, .slice none 0 0), (3, v15), (4, .int .i64 x3), (9, v4), (10, .int .i64 (p0.2.2.1.length : Int)), (11, .int .i64 x3), (16, (v13.1)), (17, .int .i64 (x5.length : Int)), (18, .int .i64 x7)] a ∧ Stw ⟨Y, [], w0⟩ (B4 b1 p0 v1 v2 v3 v4 v5 v6) [row v15 58 BK x8] w) ?_ ?_
     ·
      have H := G5
      clear G5 K5
      refine vc tk 4 F W fun a w F W => ?_
      obtain ⟨x9, h8, H⟩ := Ae H
      refine ls F W Aa (Al (r := (Rp.int .i64)) FS F Aa Aa (A4 (Ab h_v4) h5 BL.here (congrArg (fun q : List Int => q) h6)) h8).q fun a w F W => ?_
      refine ls F W Aa (Ag (y := Value.int .i64 x9) (j := 0) (i := x7) F Aa Aa (A4 (Ab h_v4) h5 BL.here (congrArg (fun q : List Int => q) h6)) h8 Fl.int.to T3 Aa).q fun a w F W => ?_
      refine vl tk 3 F W fun a w F W => ?_
      refine Ac ?_
      obtain ⟨o6, G6, K6⟩ := Ae H
      refine Aj (fun a w => ∃ x10 : Bool, some (x10) = some o6 ∧ Fr 50 [] [(1, .pointer (some ⟨b1, 0, none⟩)), (2, .slice none 0 0), (3, v14), (4, .int .i64 x3), (6, .int .i64 x7), (9, v4), (10, .int .i64 (p0.2.2.1.length : Int)), (11, .int .i64 x3), (16, (v13.1)), (17, .int .i64 (x5.length : Int)), (18, .int .i64 x7), (40, .bool x10)] a ∧ Stw ⟨Y, [], w0⟩ (B4 b1 p0 v1 v2 v3 v4 v5 v6) [row v14 58 BK x6] w) ?_ ?_
      ·
       have H := G6
       clear G6 K6
       refine D3 tk 5 [0] F W (ai fun a w F W => ?_)
       obtain ⟨x11, h9, H⟩ := Ae H
       obtain ⟨v16, h10, h11⟩ := Co h1 h9
       have h12 : C2 v16 = [(v16.1)] := congrArg (fun q : List Int => ([(v16.1)] : List Value)) h11
       refine ls F W Aa (Al (r := (Rp.vsl (Rp.int .i64))) Ke F Aa Aa (Ab h_v3) h10).q fun a w F W => ?_
       refine ls F W Aa (Ag (y := (v16.1)) (j := 0) (i := x3) (enc := C2) F Aa Aa (Ab h_v3) h10 Gd Jv (by rw [h12]; rfl)).q fun a w F W => ?_
       refine ls F W Aa (Ak F Aa).q fun a w F W => ?_
       obtain ⟨x12, h13, H⟩ := Ae H
       refine ls F W Aa (Al (r := (Rp.int .i64)) FS F Aa Aa (A4 (Ab h_v3) h10 BL.here (congrArg (fun q : List Int => q) h11)) h13).q fun a w F W => ?_
       refine ls F W Aa (Ag (y := Value.int .i64 x12) (j := 0) (i := x7) F Aa Aa (A4 (Ab h_v3) h10 BL.here (congrArg (fun q : List Int => q) h11)) h13 Fl.int.to T3 Aa).q fun a w F W => ?_
       refine vl tk 2 F W fun a w F W => ?_
       rcases Bool.eq_false_or_eq_true (decide (x9 ≠ x12)) with hb | hb
       ·
        have H := B5 (CT hb) H
        rw [hb] at F
        clear hb
        refine GL tk 4 [0] F W (ai fun a w F W => ?_)
        refine I3 (Ad F Aa Aa Aa Aa) ?_
        obtain ⟨x13, h14, H⟩ := Ae H
        refine ls F W Aa (AL (v := Value.int .i64 x13) F XV Aa (fun w W => IJ any w (v1) (v2) (v3) (v4) (v5) (v6) p0 x3 x7 x9 _ h14 (Ci (Ab h_v1) W) (Ci (Ab h_v2) W) (Ci (Aq Bh h1 (Ab h_v3)) W) (Ci (Aq Bh h2 (Ab h_v4)) W) (Ci (Ab h_v5) W) (Ci (Aq FR h3 (Ab h_v6)) W))) fun a w F W => ?_
        refine vl tk 3 F W fun a w F W => ?_
        refine Ac ?_
        exact ⟨_, H, F.ra Aa, W⟩
       have H := B6 (CV hb) H
       rw [hb] at F
       clear hb
       refine vl tk 8 F W fun a w F W => ?_
       refine Ac ?_
       exact ⟨_, H, F.ra Aa, W⟩
      rintro a w ⟨x10, hj, F, W⟩
      have hj := Av hj
      subst hj
      have H := K6
      clear G6 K6
      refine B0 F Aa H (fun F H => ?_) fun F H => ?_
      ·
       refine vc tk 4 F W fun a w F W => ?_
       refine ls F W Aa (Bx (v := Value.agg #[.int .i64 2, .int .i64 x3, .int .i64 x7]) Ui F Aa Aa Aa).q fun a w F W => ?_
       refine Cp (z := Value.agg #[.int .i64 0, .int .i64 0, .int .i64 0]) (cs := [.int .i64 2, .int .i64 x3, .int .i64 x7]) BK ([(2, x3, x7)] : List (Int × Int × Int)) F W Aa Nj UO Aa Aa Aa Aa Aa Aa (SC.repL _ _ ([(2, x3, x7)] : List (Int × Int × Int))) fun v17 a w F W => ?_
       obtain ⟨x14, h15, H⟩ := Ae H
       refine BF (r := BK) (i := 1) F W Aa Nj Aa Aa Aa Aa (Cr W 0 Aa) h15 Aa fun v18 a w F W => ?_
       have W : Stw ⟨Y, [], w0⟩ (B4 b1 p0 v1 v2 v3 v4 v5 v6) [row v18 58 BK x14, row v17 58 BK ([(2, x3, x7)] : List (Int × Int × Int))] w := W
       refine vl tk 2 F W fun a w F W => ?_
       refine An (Ac ?_)
       have W := W.sub (M' := (B4 b1 p0 v1 v2 v3 v4 v5 v6)) (Z' := [row v18 58 BK x14]) (List.Sublist.refl _) (List.Sublist.cons_cons _ (List.nil_sublist _))
       exact ⟨_, (v18), H, F.ra Aa, W⟩
      refine As (An (Ac ?_))
      exact ⟨_, (v14), H, F.ra Aa, W⟩
     rintro a w ⟨x8, v15, hj, F, W⟩
     have hj := Av hj
     subst hj
     have H := K5
     clear G5 K5
     refine vc tk 4 F W fun a w F W => ?_
     refine Ac ?_
     exact ⟨_, H, (v15), F.ra Aa, W⟩
    refine Ay ?_
    iterate 2 refine AO ?_
    refine Az (An (Ac ?_))
    have H := L4 _ H
    exact ⟨_, (v14), H, F.ra Aa, W⟩
   rintro a w ⟨x4, v12, hj, F, W⟩
   have hj := Av hj
   subst hj
   have H := K3
   clear G3 K3
   refine vc tk 4 F W fun a w F W => ?_
   refine Ac ?_
   exact ⟨_, H, (v12), F.ra Aa, W⟩
  refine Ay ?_
  iterate 2 refine AO ?_
  refine Az (Ac ?_)
  have H := L2 _ H
  exact ⟨_, (v11), H, F.ra Aa, W⟩
 rintro a w ⟨x1, v10, hj, F, W⟩
 have hj := Av hj
 subst hj
 have H := K1
 clear G1 K1
 refine vc tk 6 F W fun a w F W => ?_
 refine Ao ?_
 have H := Av H
 subst H
 refine AE (.inl Aa) F W Aa (Ai F Aa) ?_
 have W := W.sub (M' := []) (Z' := [row v10 58 BK x1]) (List.nil_sublist _) (List.Sublist.refl _)
 exact ⟨(v10), Aa, W⟩
theorem XN : Has Try.prog 18 := BS Try.func18
def A6 (p0 : (Int × (List (Int × Int × Int × Int × Int × Int)) × (List (Int × Int))) × List (List Int) × List (List Int) × ((List (Int × Int × Int × Int)) × (List (Int × Int × List Int)) × Int × Int × Int × Int)) (p1 : Int × Int × Int × Int) : Bool := (decide (0 ≤ p1.1) && (decide (p1.1 < p0.1.1) && (decide (0 ≤ p1.2.1) && decide (p1.2.1 < (p0.1.2.2.length : Int)))))
theorem FT (Y : Nat → Prop) (w0 : World) (v1 : Value) (v2 : Value) (v3 : Value) (v4 : Value) (v5 : Value) (v6 : Value) (p0 : (Int × (List (Int × Int × Int × Int × Int × Int)) × (List (Int × Int))) × List (List Int) × List (List Int) × ((List (Int × Int × Int × Int)) × (List (Int × Int × List Int)) × Int × Int × Int × Int)) (p1 : Int × Int × Int × Int) (r : Bool) (H : A6 p0 p1 = r) (h_v1 : Sl w0 (NX []) Er v1 p0.1.2.1) (h_v2 : Sl w0 (NX []) Ec v2 p0.1.2.2) (h_v3 : Sl w0 (NX []) (Rp.slice (Rp.int .i64)) v3 p0.2.1) (h_v4 : Sl w0 (NX []) (Rp.slice (Rp.int .i64)) v4 p0.2.2.1) (h_v5 : Sl w0 (NX []) HV v5 p0.2.2.2.1) (h_v6 : Sl w0 (NX []) Kf v6 p0.2.2.2.2.1) :
    Calls Try.prog 33 #[.agg #[.int .i64 p0.1.1, v1, v2, v3, v4, v5, v6, .int .i64 p0.2.2.2.2.2.1, .int .i64 p0.2.2.2.2.2.2.1, .int .i64 p0.2.2.2.2.2.2.2.1, .int .i64 p0.2.2.2.2.2.2.2.2], .agg #[.int .i64 p1.1, .int .i64 p1.2.1, .int .i64 p1.2.2.1, .int .i64 p1.2.2.2]] w0 fun e w' => e = .returned (.bool r) ∧ Below w0.heap.size w0 w' := by
 refine enter Try.func33 Aa Try.ntmps33 Aa fun a F => ?_
 have W := Stw.start Y w0
 obtain ⟨v7, h1, h_v3⟩ := h_v3.ex Bh
 obtain ⟨v8, h2, h_v4⟩ := h_v4.ex Bh
 obtain ⟨v9, h3, h_v6⟩ := h_v6.ex FR
 unfold A6 at H
 refine vc tk 2 F W fun a w F W => ?_
 refine Bq (cs := (CH p0 v1 v2 v3 v4 v5 v6)) F W Aa Aa Aa fun b1 a w F W => ?_
 refine Bq (cs := (CM p1)) F W Aa Aa Aa fun b2 a w F W => ?_
 refine Bz tk 3 F W fun a w F W => ?_
 refine Aj (fun a w => Fr 30 [] [(4, .bool (decide (0 ≤ p1.1) && (decide (p1.1 < p0.1.1) && (decide (0 ≤ p1.2.1) && decide (p1.2.1 < (p0.1.2.2.length : Int))))))] a ∧ Stw ⟨Y, [], w0⟩ [(b2, (CM p1)), (b1, (CH p0 v1 v2 v3 v4 v5 v6))] [] w) ?_ ?_
 ·
  refine D3 tk 5 [0] F W (ai fun a w F W => ?_)
  rcases Bool.eq_false_or_eq_true (decide (0 ≤ p1.1)) with hb0 | hb0
  ·
   rw [hb0] at F
   refine GL tk 8 [0, 1] F W (ai (ai fun a w F W => ?_))
   rcases Bool.eq_false_or_eq_true (decide (p1.1 < p0.1.1)) with hb1 | hb1
   ·
    rw [hb1] at F
    refine GL tk 5 [0] F W (ai fun a w F W => ?_)
    rcases Bool.eq_false_or_eq_true (decide (0 ≤ p1.2.1)) with hb2 | hb2
    ·
     rw [hb2] at F
     refine GL tk 5 [0, 1] F W (ai (ai fun a w F W => ?_))
     refine CO F W (Ad F Aa Aa Aa Aa) Aa (Ah Aa) (AR (r := Ec) (l := p0.1.2.2) Jg Aa F Aa (Ab h_v2)).q fun a w F W => ?_
     refine vl tk 4 F W fun a w F W => ?_
     refine Ac ?_
     exact ⟨F.re ⟨(Gw (by try rw [hb1]; try rw [hb2]; try rw [hb0]; all_goals simp only [Gv])), trivial⟩, W⟩
    rw [hb2] at F
    refine vl tk 10 F W fun a w F W => ?_
    refine Ac ?_
    exact ⟨F.re ⟨(Gw (by try rw [hb1]; try rw [hb2]; try rw [hb0]; all_goals simp only [Gv])), trivial⟩, W⟩
   rw [hb1] at F
   refine vl tk 15 F W fun a w F W => ?_
   refine Ac ?_
   exact ⟨F.re ⟨(Gw (by try rw [hb1]; try rw [hb0]; all_goals simp only [Gv])), trivial⟩, W⟩
  rw [hb0] at F
  refine vl tk 23 F W fun a w F W => ?_
  refine Ac ?_
  exact ⟨F.re ⟨(Gw (by try rw [hb0]; all_goals simp only [Gv])), trivial⟩, W⟩
 rintro a w ⟨F, W⟩
 refine Ao ?_
 subst H
 refine AE (.inl Aa) F W Aa (Ai F Aa) ?_
 exact ⟨rfl, W.done⟩
theorem W2 : Has Try.prog 33 := BS Try.func33
noncomputable def Ce (p0 : (Int × (List (Int × Int × Int × Int × Int × Int)) × (List (Int × Int))) × List (List Int) × List (List Int) × ((List (Int × Int × Int × Int)) × (List (Int × Int × List Int)) × Int × Int × Int × Int)) : ((List (Int × Int × Int)) × Int) → Option (((List (Int × Int × Int)) × Int) ⊕ (List (Int × Int × Int)))
  | (x2, x3) => (if x3 < (p0.2.2.2.1.length : Int) then ((ix p0.2.2.2.1 x3).bind fun x5 => (if (!(A6 p0 x5)) = true then some true else (ix p0.2.2.1 x5.1).bind fun x7 => (ix x7 x5.2.1).bind fun x8 => (if x5.2.2.1 ≠ x8 then some true else (ix p0.2.1 x5.1).bind fun x9 => (ix x9 x5.2.1).bind fun x10 => (if x5.2.2.1 = x10 then some true else (Bv p0 x5).bind fun x11 => some (!x11)))).bind fun x6 => (if x6 = true then (Fo x2 ([(3, x3, x5.2.1)] : List (Int × Int × Int))).bind fun x12 => some x12 else some x2)).bind fun x4 => some (.inl (x4, A3 (x3 + 1))) else some (.inr x2))
noncomputable def Cz (p0 : (Int × (List (Int × Int × Int × Int × Int × Int)) × (List (Int × Int))) × List (List Int) × List (List Int) × ((List (Int × Int × Int × Int)) × (List (Int × Int × List Int)) × Int × Int × Int × Int)) : Option (List (Int × Int × Int)) := (Au (Ce p0) ([], 0)).bind fun x1 => some x1
theorem Jt (Y : Nat → Prop) (w0 : World) (v1 : Value) (v2 : Value) (v3 : Value) (v4 : Value) (v5 : Value) (v6 : Value) (p0 : (Int × (List (Int × Int × Int × Int × Int × Int)) × (List (Int × Int))) × List (List Int) × List (List Int) × ((List (Int × Int × Int × Int)) × (List (Int × Int × List Int)) × Int × Int × Int × Int)) (r : (List (Int × Int × Int))) (H : Cz p0 = some r) (h_v1 : Sl w0 (NX []) Er v1 p0.1.2.1) (h_v2 : Sl w0 (NX []) Ec v2 p0.1.2.2) (h_v3 : Sl w0 (NX []) (Rp.slice (Rp.int .i64)) v3 p0.2.1) (h_v4 : Sl w0 (NX []) (Rp.slice (Rp.int .i64)) v4 p0.2.2.1) (h_v5 : Sl w0 (NX []) HV v5 p0.2.2.2.1) (h_v6 : Sl w0 (NX []) Kf v6 p0.2.2.2.2.1) :
    Calls Try.prog 19 #[.agg #[.int .i64 p0.1.1, v1, v2, v3, v4, v5, v6, .int .i64 p0.2.2.2.2.2.1, .int .i64 p0.2.2.2.2.2.2.1, .int .i64 p0.2.2.2.2.2.2.2.1, .int .i64 p0.2.2.2.2.2.2.2.2]] w0 fun e w' => ∃ x : Value, e = .returned (x) ∧ Stw ⟨Y, [], w0⟩ [] [row (x) 58 BK r] w' := by
 refine enter Try.func19 Aa Try.ntmps19 Aa fun a F => ?_
 have W := Stw.start Y w0
 obtain ⟨v7, h1, h_v3⟩ := h_v3.ex Bh
 obtain ⟨v8, h2, h_v4⟩ := h_v4.ex Bh
 obtain ⟨v9, h3, h_v6⟩ := h_v6.ex FR
 unfold Cz at H
 refine vc tk 2 F W fun a w F W => ?_
 refine Bq (cs := (CH p0 v1 v2 v3 v4 v5 v6)) F W Aa Aa Aa fun b1 a w F W => ?_
 refine Bz tk 8 F W fun a w F W => ?_
 obtain ⟨o1, G1, K1⟩ := Ae H
 refine Aj (fun a w => ∃ x1 : List (Int × Int × Int), ∃ v10 : Value, some (x1) = some o1 ∧ Fr 64 [] [(2, .slice none 0 0), (3, v10)] a ∧ Stw ⟨Y, [], w0⟩ (B4 b1 p0 v1 v2 v3 v4 v5 v6) [row v10 58 BK x1] w) ?_ ?_
 ·
  have H := G1
  clear G1 K1
  refine D3 tk 5 [0] F W (ai fun a w F W => ?_)
  refine ls F W Aa (AR (r := HV) (l := p0.2.2.2.1) SW Aa F Aa (Ab h_v5)).q fun a w F W => ?_
  refine Bz tk 4 F W fun a w F W => ?_
  have W := W.nilRow 58 BK
  refine AA H (fun s a w => ∃ v11 : Value, Fr 64 [] [(1, .pointer (some ⟨b1, 0, none⟩)), (2, .slice none 0 0), (3, v11), (8, v5), (9, .int .i64 (p0.2.2.2.1.length : Int)), (10, .int .i64 s.2)] a ∧ Stw ⟨Y, [], w0⟩ (B4 b1 p0 v1 v2 v3 v4 v5 v6) [row v11 58 BK s.1] w) ⟨(Value.slice none 0 0), F.ra Aa, W⟩ fun s o a w H L2 hR => ?_
  obtain ⟨x2, x3⟩ := s
  obtain ⟨v11, F, W⟩ := hR
  have F : Fr 64 [] [(1, .pointer (some ⟨b1, 0, none⟩)), (2, .slice none 0 0), (3, v11), (8, v5), (9, .int .i64 (p0.2.2.2.1.length : Int)), (10, .int .i64 x3)] a := F
  have W : Stw ⟨Y, [], w0⟩ (B4 b1 p0 v1 v2 v3 v4 v5 v6) [row v11 58 BK x2] w := W
  rw [Ce] at H
  refine vc tk 6 F W fun a w F W => ?_
  refine AN F Aa H (fun F H => ?_) fun F H => ?_
  ·
   refine As (Ac ?_)
   obtain ⟨o3, G3, K3⟩ := Ae H
   refine Aj (fun a w => ∃ x4 : List (Int × Int × Int), ∃ v12 : Value, some (x4) = some o3 ∧ Fr 64 [] [(1, .pointer (some ⟨b1, 0, none⟩)), (2, .slice none 0 0), (3, v12), (8, v5), (9, .int .i64 (p0.2.2.2.1.length : Int)), (10, .int .i64 x3)] a ∧ Stw ⟨Y, [], w0⟩ (B4 b1 p0 v1 v2 v3 v4 v5 v6) [row v12 58 BK x4] w) ?_ ?_
   ·
    have H := G3
    clear G3 K3
    refine vc tk 4 F W fun a w F W => ?_
    obtain ⟨x5, h4, H⟩ := Ae H
    refine ls F W Aa (Al (r := HV) Vr F Aa Aa (Ab h_v5) h4).q fun a w F W => ?_
    refine ls F W Aa (Ag (y := Value.agg #[.int .i64 x5.1, .int .i64 x5.2.1, .int .i64 x5.2.2.1, .int .i64 x5.2.2.2]) (j := 0) (i := x3) F Aa Aa (Ab h_v5) h4 V2.to To Aa).q fun a w F W => ?_
    refine BU (cs := (Oy)) F W Aa VX Aa fun b2 a w F W => ?_
    refine ls F W Aa (Bl F Aa).q fun a w F W => ?_
    refine Fv 0 F W Aa Aa Aa To Aa Aa Aa fun w W => ?_
    refine DP (Ac ?_)
    obtain ⟨o4, G4, K4⟩ := Ae H
    refine Aj (fun a w => ∃ x6 : Bool, some (x6) = some o4 ∧ Fr 64 [] [(1, .pointer (some ⟨b1, 0, none⟩)), (2, .slice none 0 0), (3, v11), (4, .int .i64 x3), (5, .pointer (some ⟨b2, 0, none⟩)), (8, v5), (9, .int .i64 (p0.2.2.2.1.length : Int)), (10, .int .i64 x3), (54, .bool x6)] a ∧ Stw ⟨Y, [], w0⟩ [(b2, (CM x5)), (b1, (CH p0 v1 v2 v3 v4 v5 v6))] [row v11 58 BK x2] w) ?_ ?_
    ·
     have H := G4
     clear G4 K4
     refine Bi W MO (by kernel_rfl) ?_
     refine qs F Aa (AK (v := Value.agg #[.int .i64 p0.1.1, v1, v2, v3, v4, v5, v6, .int .i64 p0.2.2.2.2.2.1, .int .i64 p0.2.2.2.2.2.2.1, .int .i64 p0.2.2.2.2.2.2.2.1, .int .i64 p0.2.2.2.2.2.2.2.2]) 1 F Aa Aa Uj Aa).q fun a F => ?_
     refine qs F Aa (AK (v := Value.agg #[.int .i64 x5.1, .int .i64 x5.2.1, .int .i64 x5.2.2.1, .int .i64 x5.2.2.2]) 0 F Aa Aa To Aa).q fun a F => ?_
     refine qs F Aa (AL (v := Value.bool (A6 p0 x5)) F W2 Aa (fun w W => FT any w (v1) (v2) (v3) (v4) (v5) (v6) p0 x5 _ Aa (Ci (Ab h_v1) W) (Ci (Ab h_v2) W) (Ci (Aq Bh h1 (Ab h_v3)) W) (Ci (Aq Bh h2 (Ab h_v4)) W) (Ci (Ab h_v5) W) (Ci (Aq FR h3 (Ab h_v6)) W))) fun a F => ?_
     refine qs F Aa (MF F Aa).q fun a F => ?_
     refine qs F Aa (Ak F Aa).q fun a F => ?_
     rcases Bool.eq_false_or_eq_true (!(A6 p0 x5)) with hb | hb
     ·
      have H := B5 hb H
      rw [hb] at F
      clear hb
      iterate 13 refine Bg F (A1 F Aa Aa Aa Aa Aa) Aa Aa fun a F => ?_
      refine qs F Aa (Be F Aa Aa Aa).q fun a F => ?_
      refine qs F Aa (Ak F Aa).q fun a F => ?_
      iterate 13 refine Bg F (A1 F Aa Aa Aa Aa Aa) Aa Aa fun a F => ?_
      refine qs F Aa (Be F Aa Aa Aa).q fun a F => ?_
      refine qs F Aa (Ak F Aa).q fun a F => ?_
      iterate 4 refine Bg F (A1 F Aa Aa Aa Aa Aa) Aa Aa fun a F => ?_
      refine qs F Aa (Be F Aa Aa Aa).q fun a F => ?_
      refine AB fun w W => ?_
      refine Ac ?_
      have W := W.frontM (i := 1) Aa Aa
      have W := W.frontM (i := 1) Aa Aa
      exact ⟨_, H, F.ra Aa, W⟩
     have H := B6 (by rw [hb]; decide) H
     rw [hb] at F
     clear hb
     refine AH F (Ad F Aa Aa Aa Aa) Aa (Ah Aa) (Af J8 Aa Aa Aa T3 F Aa 2 Aa).q fun a F => ?_
     refine AH F (Ad F Aa Aa Aa Aa) Aa (Ah Aa) (AK (v := Value.int .i64 x5.2.2.1) 0 F Aa Aa T3 Aa).q fun a F => ?_
     refine AH F (Ad F Aa Aa Aa Aa) Aa (Ah Aa) (Af RG Aa Aa Aa VV F Aa 4 Aa).q fun a F => ?_
     refine AH F (Ad F Aa Aa Aa Aa) Aa (Ah Aa) (AK (v := v4) 1 F Aa Aa VV Aa).q fun a F => ?_
     refine AH F (Ad F Aa Aa Aa Aa) Aa (Ah Aa) (Af J8 Aa Aa Aa T3 F Aa 0 Aa).q fun a F => ?_
     refine AH F (Ad F Aa Aa Aa Aa) Aa (Ah Aa) (AK (v := Value.int .i64 x5.1) 0 F Aa Aa T3 Aa).q fun a F => ?_
     obtain ⟨x7, h5, H⟩ := Ae H
     obtain ⟨v13, h6, h7⟩ := Co h2 h5
     have h8 : C2 v13 = [(v13.1)] := congrArg (fun q : List Int => ([(v13.1)] : List Value)) h7
     refine AH F (Ad F Aa Aa Aa Aa) Aa (Ah Aa) (Al (r := (Rp.vsl (Rp.int .i64))) Ke F Aa Aa (Ab h_v4) h6).q fun a F => ?_
     refine AH F (Ad F Aa Aa Aa Aa) Aa (Ah Aa) (Ag (y := (v13.1)) (j := 0) (i := x5.1) (enc := C2) F Aa Aa (Ab h_v4) h6 Gd Jv (by rw [h8]; rfl)).q fun a F => ?_
     refine AH F (Ad F Aa Aa Aa Aa) Aa (Ah Aa) (Af J8 Aa Aa Aa T3 F Aa 1 Aa).q fun a F => ?_
     refine AH F (Ad F Aa Aa Aa Aa) Aa (Ah Aa) (AK (v := Value.int .i64 x5.2.1) 0 F Aa Aa T3 Aa).q fun a F => ?_
     obtain ⟨x8, h9, H⟩ := Ae H
     refine AH F (Ad F Aa Aa Aa Aa) Aa (Ah Aa) (Al (r := (Rp.int .i64)) FS F Aa Aa (A4 (Ab h_v4) h6 BL.here (congrArg (fun q : List Int => q) h7)) h9).q fun a F => ?_
     refine AH F (Ad F Aa Aa Aa Aa) Aa (Ah Aa) (Ag (y := Value.int .i64 x8) (j := 0) (i := x5.2.1) F Aa Aa (A4 (Ab h_v4) h6 BL.here (congrArg (fun q : List Int => q) h7)) h9 Fl.int.to T3 Aa).q fun a F => ?_
     refine AH F (Ad F Aa Aa Aa Aa) Aa (Ah Aa) (IU F Aa Aa).q fun a F => ?_
     refine qs F Aa (Bk F Aa Aa Aa).q fun a F => ?_
     refine qs F Aa (Ak F Aa).q fun a F => ?_
     rcases Bool.eq_false_or_eq_true (decide (x5.2.2.1 ≠ x8)) with hb | hb
     ·
      have H := B5 (CT hb) H
      rw [hb] at F
      clear hb
      iterate 13 refine Bg F (A1 F Aa Aa Aa Aa Aa) Aa Aa fun a F => ?_
      refine qs F Aa (Be F Aa Aa Aa).q fun a F => ?_
      refine qs F Aa (Ak F Aa).q fun a F => ?_
      iterate 4 refine Bg F (A1 F Aa Aa Aa Aa Aa) Aa Aa fun a F => ?_
      refine qs F Aa (Be F Aa Aa Aa).q fun a F => ?_
      refine AB fun w W => ?_
      refine Ac ?_
      have W := W.frontM (i := 1) Aa Aa
      have W := W.frontM (i := 1) Aa Aa
      exact ⟨_, H, F.ra Aa, W⟩
     have H := B6 (CV hb) H
     rw [hb] at F
     clear hb
     refine AH F (Ad F Aa Aa Aa Aa) Aa (Ah Aa) (Af J8 Aa Aa Aa T3 F Aa 2 Aa).q fun a F => ?_
     refine AH F (Ad F Aa Aa Aa Aa) Aa (Ah Aa) (AK (v := Value.int .i64 x5.2.2.1) 0 F Aa Aa T3 Aa).q fun a F => ?_
     refine AH F (Ad F Aa Aa Aa Aa) Aa (Ah Aa) (Af RG Aa Aa Aa VV F Aa 3 Aa).q fun a F => ?_
     refine AH F (Ad F Aa Aa Aa Aa) Aa (Ah Aa) (AK (v := v3) 1 F Aa Aa VV Aa).q fun a F => ?_
     refine AH F (Ad F Aa Aa Aa Aa) Aa (Ah Aa) (Af J8 Aa Aa Aa T3 F Aa 0 Aa).q fun a F => ?_
     refine AH F (Ad F Aa Aa Aa Aa) Aa (Ah Aa) (AK (v := Value.int .i64 x5.1) 0 F Aa Aa T3 Aa).q fun a F => ?_
     obtain ⟨x9, h10, H⟩ := Ae H
     obtain ⟨v14, h11, h12⟩ := Co h1 h10
     have h13 : C2 v14 = [(v14.1)] := congrArg (fun q : List Int => ([(v14.1)] : List Value)) h12
     refine AH F (Ad F Aa Aa Aa Aa) Aa (Ah Aa) (Al (r := (Rp.vsl (Rp.int .i64))) Ke F Aa Aa (Ab h_v3) h11).q fun a F => ?_
     refine AH F (Ad F Aa Aa Aa Aa) Aa (Ah Aa) (Ag (y := (v14.1)) (j := 0) (i := x5.1) (enc := C2) F Aa Aa (Ab h_v3) h11 Gd Jv (by rw [h13]; rfl)).q fun a F => ?_
     refine AH F (Ad F Aa Aa Aa Aa) Aa (Ah Aa) (Af J8 Aa Aa Aa T3 F Aa 1 Aa).q fun a F => ?_
     refine AH F (Ad F Aa Aa Aa Aa) Aa (Ah Aa) (AK (v := Value.int .i64 x5.2.1) 0 F Aa Aa T3 Aa).q fun a F => ?_
     obtain ⟨x10, h14, H⟩ := Ae H
     refine AH F (Ad F Aa Aa Aa Aa) Aa (Ah Aa) (Al (r := (Rp.int .i64)) FS F Aa Aa (A4 (Ab h_v3) h11 BL.here (congrArg (fun q : List Int => q) h12)) h14).q fun a F => ?_
     refine AH F (Ad F Aa Aa Aa Aa) Aa (Ah Aa) (Ag (y := Value.int .i64 x10) (j := 0) (i := x5.2.1) F Aa Aa (A4 (Ab h_v3) h11 BL.here (congrArg (fun q : List Int => q) h12)) h14 Fl.int.to T3 Aa).q fun a F => ?_
     refine AH F (Ad F Aa Aa Aa Aa) Aa (Ah Aa) (Iq F Aa Aa).q fun a F => ?_
     refine qs F Aa (Bk F Aa Aa Aa).q fun a F => ?_
     refine qs F Aa (Ak F Aa).q fun a F => ?_
     rcases Bool.eq_false_or_eq_true (decide (x5.2.2.1 = x10)) with hb | hb
     ·
      have H := B5 (CT hb) H
      rw [hb] at F
      clear hb
      iterate 4 refine Bg F (A1 F Aa Aa Aa Aa Aa) Aa Aa fun a F => ?_
      refine qs F Aa (Be F Aa Aa Aa).q fun a F => ?_
      refine AB fun w W => ?_
      refine Ac ?_
      have W := W.frontM (i := 1) Aa Aa
      have W := W.frontM (i := 1) Aa Aa
      exact ⟨_, H, F.ra Aa, W⟩
     have H := B6 (CV hb) H
     rw [hb] at F
     clear hb
     refine AH F (Ad F Aa Aa Aa Aa) Aa (Ah Aa) (AK (v := Value.agg #[.int .i64 p0.1.1, v1, v2, v3, v4, v5, v6, .int .i64 p0.2.2.2.2.2.1, .int .i64 p0.2.2.2.2.2.2.1, .int .i64 p0.2.2.2.2.2.2.2.1, .int .i64 p0.2.2.2.2.2.2.2.2]) 1 F Aa Aa Uj Aa).q fun a F => ?_
     refine AH F (Ad F Aa Aa Aa Aa) Aa (Ah Aa) (AK (v := Value.agg #[.int .i64 x5.1, .int .i64 x5.2.1, .int .i64 x5.2.2.1, .int .i64 x5.2.2.2]) 0 F Aa Aa To Aa).q fun a F => ?_
     obtain ⟨x11, h15, H⟩ := Ae H
     refine AH F (Ad F Aa Aa Aa Aa) Aa (Ah Aa) (AL (v := Value.bool x11) F Xb Aa (fun w W => EW any w (v1) (v2) (v3) (v4) (v5) (v6) p0 x5 _ h15 (Ci (Ab h_v1) W) (Ci (Ab h_v2) W) (Ci (Aq Bh h1 (Ab h_v3)) W) (Ci (Aq Bh h2 (Ab h_v4)) W) (Ci (Ab h_v5) W) (Ci (Aq FR h3 (Ab h_v6)) W))) fun a F => ?_
     refine AH F (Ad F Aa Aa Aa Aa) Aa (Ah Aa) (MF F Aa).q fun a F => ?_
     refine qs F Aa (Bk F Aa Aa Aa).q fun a F => ?_
     refine AB fun w W => ?_
     refine Ac ?_
     have W := W.frontM (i := 1) Aa Aa
     have W := W.frontM (i := 1) Aa Aa
     exact ⟨_, H, F.ra Aa, W⟩
    rintro a w ⟨x6, hj, F, W⟩
    have hj := Av hj
    subst hj
    have H := K4
    clear G4 K4
    refine B0 F Aa H (fun F H => ?_) fun F H => ?_
    ·
     refine D3 tk 5 [0] F W (ai fun a w F W => ?_)
     refine ls F W Aa (Bx (v := Value.agg #[.int .i64 3, .int .i64 x3, .int .i64 x5.2.1]) Ui F Aa Aa Aa).q fun a w F W => ?_
     refine Cp (z := Value.agg #[.int .i64 0, .int .i64 0, .int .i64 0]) (cs := [.int .i64 3, .int .i64 x3, .int .i64 x5.2.1]) BK ([(3, x3, x5.2.1)] : List (Int × Int × Int)) F W Aa Nj UO Aa Aa Aa Aa Aa Aa (SC.repL _ _ ([(3, x3, x5.2.1)] : List (Int × Int × Int))) fun v15 a w F W => ?_
     obtain ⟨x12, h16, H⟩ := Ae H
     refine BF (r := BK) (i := 1) F W Aa Nj Aa Aa Aa Aa (Cr W 0 Aa) h16 Aa fun v16 a w F W => ?_
     have W : Stw ⟨Y, [], w0⟩ [(b2, (CM x5)), (b1, (CH p0 v1 v2 v3 v4 v5 v6))] [row v16 58 BK x12, row v15 58 BK ([(3, x3, x5.2.1)] : List (Int × Int × Int))] w := W
     refine vl tk 2 F W fun a w F W => ?_
     refine An (Ac ?_)
     have W := W.frontM (i := 1) Aa Aa
     have W := W.sub (M' := (B4 b1 p0 v1 v2 v3 v4 v5 v6)) (Z' := [row v16 58 BK x12]) (List.Sublist.cons_cons _ (List.nil_sublist _)) (List.Sublist.cons_cons _ (List.nil_sublist _))
     exact ⟨_, (v16), H, F.ra Aa, W⟩
    refine As (An (Ac ?_))
    have W := W.frontM (i := 1) Aa Aa
    have W := W.sub (M' := (B4 b1 p0 v1 v2 v3 v4 v5 v6)) (Z' := [row v11 58 BK x2]) (List.Sublist.cons_cons _ (List.nil_sublist _)) (List.Sublist.refl _)
    exact ⟨_, (v11), H, F.ra Aa, W⟩
   rintro a w ⟨x4, v12, hj, F, W⟩
   have hj := Av hj
   subst hj
   have H := K3
   clear G3 K3
   refine vc tk 4 F W fun a w F W => ?_
   refine Ac ?_
   exact ⟨_, H, (v12), F.ra Aa, W⟩
  refine Ay ?_
  iterate 2 refine AO ?_
  refine Az (Ac ?_)
  have H := L2 _ H
  exact ⟨_, (v11), H, F.ra Aa, W⟩
 rintro a w ⟨x1, v10, hj, F, W⟩
 have hj := Av hj
 subst hj
 have H := K1
 clear G1 K1
 refine vc tk 6 F W fun a w F W => ?_
 refine Ao ?_
 have H := Av H
 subst H
 refine AE (.inl Aa) F W Aa (Ai F Aa) ?_
 have W := W.sub (M' := []) (Z' := [row v10 58 BK x1]) (List.nil_sublist _) (List.Sublist.refl _)
 exact ⟨(v10), Aa, W⟩
theorem Yg : Has Try.prog 19 := BS Try.func19
noncomputable def BA (p0 : Int × (List (Int × Int × Int × Int × Int × Int)) × (List (Int × Int))) : (Int × Int) → Option ((Int × Int) ⊕ Int)
  | (x2, x3) => (if x3 < (p0.2.1.length : Int) then (ix p0.2.1 x3).bind fun x4 => some (.inl (max x2 x4.2.2.2.2.2, A3 (x3 + 1))) else some (.inr x2))
noncomputable def CX (p0 : Int × (List (Int × Int × Int × Int × Int × Int)) × (List (Int × Int))) : Option Int := (Au (BA p0) (0, 0)).bind fun x1 => some x1
theorem LT (Y : Nat → Prop) (w0 : World) (v1 : Value) (v2 : Value) (p0 : Int × (List (Int × Int × Int × Int × Int × Int)) × (List (Int × Int))) (r : Int) (H : CX p0 = some r) (h_v1 : Sl w0 (NX []) Er v1 p0.2.1) (h_v2 : Sl w0 (NX []) Ec v2 p0.2.2) :
    Calls Try.prog 77 #[.agg #[.int .i64 p0.1, v1, v2]] w0 fun e w' => e = .returned (.int .i64 r) ∧ Below w0.heap.size w0 w' := by
 refine enter Try.func77 Aa Try.ntmps77 Aa fun a F => ?_
 have W := Stw.start Y w0
 unfold CX at H
 refine vc tk 2 F W fun a w F W => ?_
 refine Bq (cs := [.int .i64 p0.1, v1, v2]) F W Aa Aa Aa fun b1 a w F W => ?_
 refine Bz tk 8 F W fun a w F W => ?_
 obtain ⟨o1, G1, K1⟩ := Ae H
 refine Aj (fun a w => ∃ x1 : Int, some (x1) = some o1 ∧ Fr 19 [] [(2, .int .i64 0), (3, .int .i64 x1)] a ∧ Stw ⟨Y, [], w0⟩ [(b1, [.int .i64 p0.1, v1, v2])] [] w) ?_ ?_
 ·
  have H := G1
  clear G1 K1
  refine D3 tk 4 [0] F W (ai fun a w F W => ?_)
  refine ls F W Aa (AR (r := Er) (l := p0.2.1) LE Aa F Aa (Ab h_v1)).q fun a w F W => ?_
  refine Bz tk 4 F W fun a w F W => ?_
  refine AA H (fun s a w => Fr 19 [] [(2, .int .i64 0), (3, .int .i64 s.1), (7, v1), (8, .int .i64 (p0.2.1.length : Int)), (9, .int .i64 s.2)] a ∧ Stw ⟨Y, [], w0⟩ [(b1, [.int .i64 p0.1, v1, v2])] [] w) ⟨F.ra Aa, W⟩ fun s o a w H L2 hR => ?_
  obtain ⟨x2, x3⟩ := s
  obtain ⟨F, W⟩ := hR
  have F : Fr 19 [] [(2, .int .i64 0), (3, .int .i64 x2), (7, v1), (8, .int .i64 (p0.2.1.length : Int)), (9, .int .i64 x3)] a := F
  have W : Stw ⟨Y, [], w0⟩ [(b1, [.int .i64 p0.1, v1, v2])] [] w := W
  rw [BA] at H
  refine vc tk 6 F W fun a w F W => ?_
  refine AN F Aa H (fun F H => ?_) fun F H => ?_
  ·
   refine Gm tk 6 F W fun a w F W => ?_
   obtain ⟨x4, h1, H⟩ := Ae H
   refine ls F W Aa (Al (r := Er) SQ F Aa Aa (Ab h_v1) h1).q fun a w F W => ?_
   refine ls F W Aa (Ag (y := Value.agg #[.int .i64 x4.1, .int .i64 x4.2.1, .int .i64 x4.2.2.1, .int .i64 x4.2.2.2.1, .int .i64 x4.2.2.2.2.1, .int .i64 x4.2.2.2.2.2]) (j := 0) (i := x3) F Aa Aa (Ab h_v1) h1 SO.to QS Aa).q fun a w F W => ?_
   refine BU (cs := (QU)) F W Aa UI Aa fun b2 a w F W => ?_
   refine Fv 0 F W Aa Aa Aa QS Aa Aa Aa fun w W => ?_
   refine IG tk 6 [0] F W (ai fun a w F W => ?_)
   refine ls F W Aa (Sf F Aa Aa).q fun a w F W => ?_
   refine vl tk 2 F W fun a w F W => ?_
   refine An ?_
   refine vn tk 4 F W fun a w F W => ?_
   refine Ac ?_
   have W := W.frontM (i := 1) Aa Aa
   have W := W.sub (M' := [(b1, [.int .i64 p0.1, v1, v2])]) (Z' := []) (List.Sublist.cons_cons _ (List.nil_sublist _)) (List.Sublist.refl _)
   exact ⟨_, H, F.ra Aa, W⟩
  refine Ay ?_
  iterate 2 refine AO ?_
  refine Az (Ac ?_)
  have H := L2 _ H
  exact ⟨_, H, F.ra Aa, W⟩
 rintro a w ⟨x1, hj, F, W⟩
 have hj := Av hj
 subst hj
 have H := K1
 clear G1 K1
 refine vc tk 6 F W fun a w F W => ?_
 refine Ao ?_
 have H := Av H
 subst H
 refine AE (.inl Aa) F W Aa (Ai F Aa) ?_
 exact ⟨rfl, W.done⟩
theorem Yd : Has Try.prog 77 := BS Try.func77
noncomputable def Fj (p0 : Int × (List (Int × Int × Int × Int × Int × Int)) × (List (Int × Int))) : Option Int := (CX p0).bind fun x1 => some (A3 (p0.1 * x1))
theorem OB (Y : Nat → Prop) (w0 : World) (v1 : Value) (v2 : Value) (p0 : Int × (List (Int × Int × Int × Int × Int × Int)) × (List (Int × Int))) (r : Int) (H : Fj p0 = some r) (h_v1 : Sl w0 (NX []) Er v1 p0.2.1) (h_v2 : Sl w0 (NX []) Ec v2 p0.2.2) :
    Calls Try.prog 59 #[.agg #[.int .i64 p0.1, v1, v2]] w0 fun e w' => e = .returned (.int .i64 r) ∧ Below w0.heap.size w0 w' := by
 refine enter Try.func59 Aa Try.ntmps59 Aa fun a F => ?_
 have W := Stw.start Y w0
 unfold Fj at H
 refine vc tk 2 F W fun a w F W => ?_
 refine Bq (cs := [.int .i64 p0.1, v1, v2]) F W Aa Aa Aa fun b1 a w F W => ?_
 refine Bz tk 4 F W fun a w F W => ?_
 refine Bi W MO (by kernel_rfl) ?_
 refine qs F Aa (Af MR Aa Aa Aa T3 F Aa 0 Aa).q fun a F => ?_
 refine qs F Aa (AK (v := Value.int .i64 p0.1) 0 F Aa Aa T3 Aa).q fun a F => ?_
 refine qs F Aa (AK (v := Value.agg #[.int .i64 p0.1, v1, v2]) 0 F Aa Aa R8 Aa).q fun a F => ?_
 obtain ⟨x1, h1, H⟩ := Ae H
 refine qs F Aa (AL (v := Value.int .i64 x1) F Yd Aa (fun w W => LT any w (v1) (v2) p0 _ h1 (Ci (Ab h_v1) W) (Ci (Ab h_v2) W))) fun a F => ?_
 refine qs F Aa (SL F Aa Aa Aa).q fun a F => ?_
 refine qs F Aa (Bl F Aa).q fun a F => ?_
 refine AB fun w W => ?_
 refine Ac (Ao ?_)
 have H := Av H
 subst H
 refine AE (.inl Aa) F W Aa (Ai F Aa) ?_
 exact ⟨rfl, W.done⟩
theorem YA : Has Try.prog 59 := BS Try.func59
noncomputable def Gi (p0 : Int × (List (Int × Int × Int × Int × Int × Int)) × (List (Int × Int))) (p1 : Int) : Option Int := (Fj p0).bind fun x1 => some (A3 ((A3 ((A3 (2 * p1)) + x1)) + 1))
theorem Pp (Y : Nat → Prop) (w0 : World) (v1 : Value) (v2 : Value) (p0 : Int × (List (Int × Int × Int × Int × Int × Int)) × (List (Int × Int))) (p1 : Int) (r : Int) (H : Gi p0 p1 = some r) (h_v1 : Sl w0 (NX []) Er v1 p0.2.1) (h_v2 : Sl w0 (NX []) Ec v2 p0.2.2) :
    Calls Try.prog 35 #[.agg #[.int .i64 p0.1, v1, v2], .int .i64 p1] w0 fun e w' => e = .returned (.int .i64 r) ∧ Below w0.heap.size w0 w' := by
 refine enter Try.func35 Aa Try.ntmps35 Aa fun a F => ?_
 have W := Stw.start Y w0
 unfold Gi at H
 refine vc tk 2 F W fun a w F W => ?_
 refine Bq (cs := [.int .i64 p0.1, v1, v2]) F W Aa Aa Aa fun b1 a w F W => ?_
 refine IG tk 8 [0] F W (ai fun a w F W => ?_)
 obtain ⟨x1, h1, H⟩ := Ae H
 refine ls F W Aa (AL (v := Value.int .i64 x1) F YA Aa (fun w W => OB any w (v1) (v2) p0 _ h1 (Ci (Ab h_v1) W) (Ci (Ab h_v2) W))) fun a w F W => ?_
 refine Bz tk 5 F W fun a w F W => ?_
 refine Ao ?_
 have H := Av H
 subst H
 refine AE (.inl Aa) F W Aa (Ai F Aa) ?_
 exact ⟨rfl, W.done⟩
theorem X9 : Has Try.prog 35 := BS Try.func35
def AS (p0 : Int) : Int := min (max p0 (-1125899906842624)) 1125899906842624
theorem IR (Y : Nat → Prop) (w0 : World)  (p0 : Int) (r : Int) (H : AS p0 = r)  :
    Calls Try.prog 36 #[.int .i64 p0] w0 fun e w' => e = .returned (.int .i64 r) ∧ Below w0.heap.size w0 w' := by
 refine enter Try.func36 Aa Try.ntmps36 Aa fun a F => ?_
 have W := Stw.start Y w0
 unfold AS at H
 refine vc tk 8 F W fun a w F W => ?_
 refine ls F W Aa (Sf F Aa Aa).q fun a w F W => ?_
 refine ls F W Aa (TY F Aa Aa).q fun a w F W => ?_
 refine Bz tk 3 F W fun a w F W => ?_
 refine Ao ?_
 subst H
 refine AE (.inl Aa) F W Aa (Ai F Aa) ?_
 exact ⟨rfl, W.done⟩
theorem WS : Has Try.prog 36 := BS Try.func36
noncomputable def Cd (p0 : (Int × (List (Int × Int × Int × Int × Int × Int)) × (List (Int × Int))) × List (List Int) × List (List Int) × ((List (Int × Int × Int × Int)) × (List (Int × Int × List Int)) × Int × Int × Int × Int)) (x1 : Int) : ((List (Int × Int × Int)) × Int) → Option (((List (Int × Int × Int)) × Int) ⊕ (List (Int × Int × Int)))
  | (x3, x4) => (if x4 < (p0.2.2.2.2.1.length : Int) then ((ix p0.2.2.2.2.1 x4).bind fun x6 => (ix p0.2.2.2.2.1 (A3 (x4 - 1))).bind fun x7 => (if (A3 ((AS x6.2.1) - (AS x7.2.1))) < x1 then (Fo x3 ([(4, x4, 0)] : List (Int × Int × Int))).bind fun x8 => some x8 else some x3)).bind fun x5 => some (.inl (x5, A3 (x4 + 1))) else some (.inr x3))
noncomputable def CC (p0 : (Int × (List (Int × Int × Int × Int × Int × Int)) × (List (Int × Int))) × List (List Int) × List (List Int) × ((List (Int × Int × Int × Int)) × (List (Int × Int × List Int)) × Int × Int × Int × Int)) : Option (List (Int × Int × Int)) := (Gi p0.1 (min (max p0.2.2.2.2.2.1 0) 1048576)).bind fun x1 => (Au (Cd p0 x1) ([], 1)).bind fun x2 => some x2
theorem Jn (Y : Nat → Prop) (w0 : World) (v1 : Value) (v2 : Value) (v3 : Value) (v4 : Value) (v5 : Value) (v6 : Value) (p0 : (Int × (List (Int × Int × Int × Int × Int × Int)) × (List (Int × Int))) × List (List Int) × List (List Int) × ((List (Int × Int × Int × Int)) × (List (Int × Int × List Int)) × Int × Int × Int × Int)) (r : (List (Int × Int × Int))) (H : CC p0 = some r) (h_v1 : Sl w0 (NX []) Er v1 p0.1.2.1) (h_v2 : Sl w0 (NX []) Ec v2 p0.1.2.2) (h_v3 : Sl w0 (NX []) (Rp.slice (Rp.int .i64)) v3 p0.2.1) (h_v4 : Sl w0 (NX []) (Rp.slice (Rp.int .i64)) v4 p0.2.2.1) (h_v5 : Sl w0 (NX []) HV v5 p0.2.2.2.1) (h_v6 : Sl w0 (NX []) Kf v6 p0.2.2.2.2.1) :
    Calls Try.prog 20 #[.agg #[.int .i64 p0.1.1, v1, v2, v3, v4, v5, v6, .int .i64 p0.2.2.2.2.2.1, .int .i64 p0.2.2.2.2.2.2.1, .int .i64 p0.2.2.2.2.2.2.2.1, .int .i64 p0.2.2.2.2.2.2.2.2]] w0 fun e w' => ∃ x : Value, e = .returned (x) ∧ Stw ⟨Y, [], w0⟩ [] [row (x) 58 BK r] w' := by
 refine enter Try.func20 Aa Try.ntmps20 Aa fun a F => ?_
 have W := Stw.start Y w0
 obtain ⟨v7, h1, h_v3⟩ := h_v3.ex Bh
 obtain ⟨v8, h2, h_v4⟩ := h_v4.ex Bh
 obtain ⟨v9, h3, h_v6⟩ := h_v6.ex FR
 unfold CC at H
 refine vc tk 2 F W fun a w F W => ?_
 refine Bq (cs := (CH p0 v1 v2 v3 v4 v5 v6)) F W Aa Aa Aa fun b1 a w F W => ?_
 refine IG tk 15 [0, 0] F W (ai (ai fun a w F W => ?_))
 refine ls F W Aa (Sf F Aa Aa).q fun a w F W => ?_
 refine ls F W Aa (TY F Aa Aa).q fun a w F W => ?_
 obtain ⟨x1, h4, H⟩ := Ae H
 refine ls F W Aa (AL (v := Value.int .i64 x1) F X9 Aa (fun w W => Pp any w (v1) (v2) p0.1 (min (max p0.2.2.2.2.2.1 0) 1048576) _ h4 (Ci (Ab h_v1) W) (Ci (Ab h_v2) W))) fun a w F W => ?_
 refine vl tk 2 F W fun a w F W => ?_
 refine Ac ?_
 obtain ⟨o1, G1, K1⟩ := Ae H
 refine Aj (fun a w => ∃ x2 : List (Int × Int × Int), ∃ v10 : Value, some (x2) = some o1 ∧ Fr 48 [] [(2, .slice none 0 0), (3, v10)] a ∧ Stw ⟨Y, [], w0⟩ (B4 b1 p0 v1 v2 v3 v4 v5 v6) [row v10 58 BK x2] w) ?_ ?_
 ·
  have H := G1
  clear G1 K1
  refine vc tk 6 F W fun a w F W => ?_
  have W := W.nilRow 58 BK
  refine AA H (fun s a w => ∃ v11 : Value, Fr 48 [] [(1, .pointer (some ⟨b1, 0, none⟩)), (2, .slice none 0 0), (3, v11), (4, .int .i64 x1), (5, .int .i64 s.2)] a ∧ Stw ⟨Y, [], w0⟩ (B4 b1 p0 v1 v2 v3 v4 v5 v6) [row v11 58 BK s.1] w) ⟨(Value.slice none 0 0), F.ra Aa, W⟩ fun s o a w H L2 hR => ?_
  obtain ⟨x3, x4⟩ := s
  obtain ⟨v11, F, W⟩ := hR
  have F : Fr 48 [] [(1, .pointer (some ⟨b1, 0, none⟩)), (2, .slice none 0 0), (3, v11), (4, .int .i64 x1), (5, .int .i64 x4)] a := F
  have W : Stw ⟨Y, [], w0⟩ (B4 b1 p0 v1 v2 v3 v4 v5 v6) [row v11 58 BK x3] w := W
  rw [Cd] at H
  refine D3 tk 7 [0] F W (ai fun a w F W => ?_)
  refine ls F W Aa (AR (r := Kf) (l := p0.2.2.2.2.1) Tg Aa F Aa (Aq FR h3 (Ab h_v6))).q fun a w F W => ?_
  refine Bz tk 3 F W fun a w F W => ?_
  refine AN F Aa H (fun F H => ?_) fun F H => ?_
  ·
   refine As (Ac ?_)
   obtain ⟨o3, G3, K3⟩ := Ae H
   refine Aj (fun a w => ∃ x5 : List (Int × Int × Int), ∃ v12 : Value, some (x5) = some o3 ∧ Fr 48 [] [(1, .pointer (some ⟨b1, 0, none⟩)), (2, .slice none 0 0), (3, v12), (4, .int .i64 x1), (5, .int .i64 x4)] a ∧ Stw ⟨Y, [], w0⟩ (B4 b1 p0 v1 v2 v3 v4 v5 v6) [row v12 58 BK x5] w) ?_ ?_
   ·
    have H := G3
    clear G3 K3
    refine vc tk 2 F W fun a w F W => ?_
    refine Bi W MO (by kernel_rfl) ?_
    refine qs F Aa (Af RG Aa Aa Aa UV F Aa 5 Aa).q fun a F => ?_
    refine qs F Aa (Af RO Aa Aa Aa T4 F Aa 6 Aa).q fun a F => ?_
    refine qs F Aa (AK (v := v6) 0 F Aa Aa T4 Aa).q fun a F => ?_
    refine qs F Aa (Ak F Aa).q fun a F => ?_
    obtain ⟨x6, h5, H⟩ := Ae H
    obtain ⟨v13, h6, h7⟩ := Co h3 h5
    have h8 : NJ v13 = [.int .i64 x6.1, .int .i64 x6.2.1, (v13.2.2.1)] := congrArg (fun q : Int × Int × List Int => ([.int .i64 q.1, .int .i64 q.2.1, (v13.2.2.1)] : List Value)) h7
    refine qs F Aa (Al (r := Q8) U0 F Aa Aa (Ab h_v6) h6).q fun a F => ?_
    refine qs F Aa (Af Uo Aa Aa Aa T3 F Aa (CS v6 + (x4).toNat * 3 + 1) Aa).q fun a F => ?_
    refine qs F Aa (Ag (y := Value.int .i64 x6.2.1) (j := 1) (i := x4) (enc := NJ) F Aa Aa (Ab h_v6) h6 Tc T3 (by rw [h8]; rfl)).q fun a F => ?_
    refine qs F Aa (AL (v := Value.int .i64 (AS x6.2.1)) F WS Aa (fun w W => IR any w x6.2.1 _ Aa)) fun a F => ?_
    refine qs F Aa (Af RG Aa Aa Aa UV F Aa 5 Aa).q fun a F => ?_
    refine qs F Aa (Af RO Aa Aa Aa T4 F Aa 6 Aa).q fun a F => ?_
    refine qs F Aa (AK (v := v6) 0 F Aa Aa T4 Aa).q fun a F => ?_
    refine qs F Aa (Ak F Aa).q fun a F => ?_
    refine qs F Aa (OT F Aa Aa Aa).q fun a F => ?_
    obtain ⟨x7, h9, H⟩ := Ae H
    obtain ⟨v14, h10, h11⟩ := Co h3 h9
    have h12 : NJ v14 = [.int .i64 x7.1, .int .i64 x7.2.1, (v14.2.2.1)] := congrArg (fun q : Int × Int × List Int => ([.int .i64 q.1, .int .i64 q.2.1, (v14.2.2.1)] : List Value)) h11
    refine qs F Aa (Al (r := Q8) U0 F Aa Aa (Ab h_v6) h10).q fun a F => ?_
    refine qs F Aa (Af Uo Aa Aa Aa T3 F Aa (CS v6 + (A3 (x4 - 1)).toNat * 3 + 1) Aa).q fun a F => ?_
    refine qs F Aa (Ag (y := Value.int .i64 x7.2.1) (j := 1) (i := A3 (x4 - 1)) (enc := NJ) F Aa Aa (Ab h_v6) h10 Tc T3 (by rw [h12]; rfl)).q fun a F => ?_
    refine qs F Aa (AL (v := Value.int .i64 (AS x7.2.1)) F WS Aa (fun w W => IR any w x7.2.1 _ Aa)) fun a F => ?_
    refine qs F Aa (OT F Aa Aa Aa).q fun a F => ?_
    refine qs F Aa (Ak F Aa).q fun a F => ?_
    refine qs F Aa (Qr F Aa Aa).q fun a F => ?_
    refine AB fun w W => ?_
    refine Ac ?_
    refine AN F Aa H (fun F H => ?_) fun F H => ?_
    ·
     refine vc tk 3 F W fun a w F W => ?_
     refine ls F W Aa (Bx (v := Value.agg #[.int .i64 4, .int .i64 x4, .int .i64 0]) Ui F Aa Aa Aa).q fun a w F W => ?_
     refine Cp (z := Value.agg #[.int .i64 0, .int .i64 0, .int .i64 0]) (cs := [.int .i64 4, .int .i64 x4, .int .i64 0]) BK ([(4, x4, 0)] : List (Int × Int × Int)) F W Aa Nj UO Aa Aa Aa Aa Aa Aa (SC.repL _ _ ([(4, x4, 0)] : List (Int × Int × Int))) fun v15 a w F W => ?_
     obtain ⟨x8, h13, H⟩ := Ae H
     refine BF (r := BK) (i := 1) F W Aa Nj Aa Aa Aa Aa (Cr W 0 Aa) h13 Aa fun v16 a w F W => ?_
     have W : Stw ⟨Y, [], w0⟩ (B4 b1 p0 v1 v2 v3 v4 v5 v6) [row v16 58 BK x8, row v15 58 BK ([(4, x4, 0)] : List (Int × Int × Int))] w := W
     refine vl tk 2 F W fun a w F W => ?_
     refine An (Ac ?_)
     have W := W.sub (M' := (B4 b1 p0 v1 v2 v3 v4 v5 v6)) (Z' := [row v16 58 BK x8]) (List.Sublist.refl _) (List.Sublist.cons_cons _ (List.nil_sublist _))
     exact ⟨_, (v16), H, F.ra Aa, W⟩
    refine As (An (Ac ?_))
    exact ⟨_, (v11), H, F.ra Aa, W⟩
   rintro a w ⟨x5, v12, hj, F, W⟩
   have hj := Av hj
   subst hj
   have H := K3
   clear G3 K3
   refine vc tk 5 F W fun a w F W => ?_
   refine Ac ?_
   exact ⟨_, H, (v12), F.ra Aa, W⟩
  refine Ay ?_
  iterate 2 refine AO ?_
  refine Az (Ac ?_)
  have H := L2 _ H
  exact ⟨_, (v11), H, F.ra Aa, W⟩
 rintro a w ⟨x2, v10, hj, F, W⟩
 have hj := Av hj
 subst hj
 have H := K1
 clear G1 K1
 refine vc tk 6 F W fun a w F W => ?_
 refine Ao ?_
 have H := Av H
 subst H
 refine AE (.inl Aa) F W Aa (Ai F Aa) ?_
 have W := W.sub (M' := []) (Z' := [row v10 58 BK x2]) (List.nil_sublist _) (List.Sublist.refl _)
 exact ⟨(v10), Aa, W⟩
theorem X7 : Has Try.prog 20 := BS Try.func20
noncomputable def Cn (p0 : List Int) : Option (List Int) := (Fo ([] : List Int) p0).bind fun x1 => some x1
theorem IH (Y : Nat → Prop) (w0 : World) (v1 : Value) (p0 : List Int) (r : List Int) (H : Cn p0 = some r) (s_v1 : Sl w0 Y (Rp.int .i64) v1 p0) :
    Calls Try.prog 60 #[v1] w0 fun e w' => ∃ x : Value, e = .returned (x) ∧ Stw ⟨Y, [], w0⟩ [] [row (x) 3 (Rp.int .i64) r] w' := by
 refine enter Try.func60 Aa Try.ntmps60 Aa fun a F => ?_
 have W := Stw.start Y w0
 have h_v1 := W.nx s_v1
 unfold Cn at H
 refine vc tk 9 F W fun a w F W => ?_
 refine ls F W Aa (SI (r := (Rp.int .i64)) Hl F Aa (Ab h_v1)).q fun a w F W => ?_
 refine DP (Ac ?_)
 rcases QV (Ab h_v1) W with ⟨hb, hl⟩ | hb
 ·
  rw [hl] at H
  change some ([] : List Int) = _ at H
  rw [hb] at F
  refine vc tk 6 F W fun a w F W => ?_
  refine Ao (Aw ?_)
  have H := Av H
  subst H
  refine AE (.inl Aa) F W Aa (Ai F Aa) ?_
  have W := W.nilRow 3 (Rp.int .i64)
  exact ⟨(Value.slice none 0 0), Aa, W⟩
 rw [hb] at F
 refine Gm tk 5 F W fun a w F W => ?_
 refine Cp (z := Value.int .i64 0) (cs := []) (Rp.int .i64) ([] : List Int) F W Aa FS Z3 Aa Aa Aa Aa Aa Aa (Fl.int.repL _ _ ([] : List Int)) fun v2 a w F W => ?_
 refine ls F W Aa (Ak F Aa).q fun a w F W => ?_
 obtain ⟨x1, h1, H⟩ := Ae H
 refine BF (r := (Rp.int .i64)) (i := 0) F W Aa FS Aa Aa Aa Aa (Tl W s_v1) h1 Aa fun v3 a w F W => ?_
 have W : Stw ⟨Y, [], w0⟩ [] [row v3 3 (Rp.int .i64) x1] w := W
 refine Bz tk 3 F W fun a w F W => ?_
 refine Ao ?_
 have H := Av H
 subst H
 refine AE (.inl Aa) F W Aa (Ai F Aa) ?_
 exact ⟨(v3), Aa, W⟩
theorem Yk : Has Try.prog 60 := BS Try.func60
abbrev Ck : Dp (Value × Nat × List Int) := (Dp.sl 3 (Rp.int .i64))
abbrev DN (p : Value × Nat × List Int) : Nat × List Int := p.2
abbrev Rj : (Nat × List Int) → Option (List Int) := Uq
theorem VM : Rst Ck (Rp.slice (Rp.int .i64)) DN Rj := Rst.sl
noncomputable def Db (p0 : List (List Int)) : ((List (Nat × List Int)) × Int) → Option (((List (Nat × List Int)) × Int) ⊕ (List (Nat × List Int)))
  | (x2, x3) => (if x3 < (p0.length : Int) then (ix p0 x3).bind fun x4 => (Cn x4).bind fun x5 => (Fo x2 ([(2, x5)] : List (Nat × List Int))).bind fun x6 => some (.inl (x6, A3 (x3 + 1))) else some (.inr x2))
noncomputable def Dg (p0 : List (List Int)) : Option (List (Nat × List Int)) := (Au (Db p0) ([], 0)).bind fun x1 => some x1
theorem LX (Y : Nat → Prop) (w0 : World) (v1 : Value) (p0 : List (List Int)) (r : (List (Nat × List Int))) (H : Dg p0 = some r) (s_v1 : Sl w0 Y (Rp.slice (Rp.int .i64)) v1 p0) :
    Calls Try.prog 37 #[v1] w0 fun e w' => ∃ x : Value × ({x : List (Value × Nat × List Int) // x.map DN = r}), e = .returned (x.1) ∧ Stw ⟨Y, [], w0⟩ [] [AX (x.1) 46 Ck (x.2.1)] w' := by
 refine enter Try.func37 Aa Try.ntmps37 Aa fun a F => ?_
 have W := Stw.start Y w0
 obtain ⟨v2, h1, s_v1⟩ := s_v1.ex Bh
 have h_v1 := W.nx s_v1
 unfold Dg at H
 refine vc tk 10 F W fun a w F W => ?_
 obtain ⟨o1, G1, K1⟩ := Ae H
 refine Aj (fun a w => ∃ x1 : List (Nat × List Int), ∃ v3 : Value, ∃ g_x1 : {x : List (Value × Nat × List Int) // x.map DN = x1}, some (x1) = some o1 ∧ Fr 19 [] [(2, .slice none 0 0), (3, v3)] a ∧ Stw ⟨Y, [], w0⟩ [] [AX v3 46 Ck g_x1.1] w) ?_ ?_
 ·
  have H := G1
  clear G1 K1
  refine vc tk 3 F W fun a w F W => ?_
  refine ls F W Aa (AR (r := (Rp.slice (Rp.int .i64))) (l := p0) JP Aa F Aa (Aq Bh h1 (Ab h_v1))).q fun a w F W => ?_
  refine Bz tk 4 F W fun a w F W => ?_
  have W := W.dNil 46 Ck
  have h2 : List.map DN ([] : List (Value × Nat × List Int)) = ([] : List (Nat × List Int)) := Aa
  refine AA H (fun s a w => ∃ v4 : Value, ∃ g_x2 : {x : List (Value × Nat × List Int) // x.map DN = s.1}, Fr 19 [] [(2, .slice none 0 0), (3, v4), (6, v1), (7, .int .i64 (p0.length : Int)), (8, .int .i64 s.2)] a ∧ Stw ⟨Y, [], w0⟩ [] [AX v4 46 Ck g_x2.1] w) ⟨(Value.slice none 0 0), ⟨([] : List (Value × Nat × List Int)), h2⟩, F.ra Aa, W⟩ fun s o a w H L2 hR => ?_
  obtain ⟨x2, x3⟩ := s
  obtain ⟨v4, g_x2, F, W⟩ := hR
  have F : Fr 19 [] [(2, .slice none 0 0), (3, v4), (6, v1), (7, .int .i64 (p0.length : Int)), (8, .int .i64 x3)] a := F
  have W : Stw ⟨Y, [], w0⟩ [] [AX v4 46 Ck g_x2.1] w := W
  rw [Db] at H
  refine vc tk 6 F W fun a w F W => ?_
  refine AN F Aa H (fun F H => ?_) fun F H => ?_
  ·
   refine Gm tk 6 F W fun a w F W => ?_
   obtain ⟨x4, h3, H⟩ := Ae H
   obtain ⟨v5, h4, h5⟩ := Co h1 h3
   have h6 : C2 v5 = [(v5.1)] := congrArg (fun q : List Int => ([(v5.1)] : List Value)) h5
   refine ls F W Aa (Al (r := (Rp.vsl (Rp.int .i64))) Ke F Aa Aa (Ab h_v1) h4).q fun a w F W => ?_
   refine ls F W Aa (Ag (y := (v5.1)) (j := 0) (i := x3) (enc := C2) F Aa Aa (Ab h_v1) h4 Gd Jv (by rw [h6]; rfl)).q fun a w F W => ?_
   refine Bz tk 6 F W fun a w F W => ?_
   obtain ⟨x5, h7, H⟩ := Ae H
   refine Cv (Ml := []) (Zl := []) (β := Value) (rv := fun x => x) (MM := fun x => []) (ZZ := fun x => [row x 3 (Rp.int .i64) x5]) F W Yk Aa Aa (fun hL => IH _ w ((v5.1)) x4 _ h7 (Sl.at_ (W.old s_v1) h4 BL.here (congrArg (fun q : List Int => q) h5))) fun x a w F W => ?_
   obtain ⟨v6, rfl⟩ : ∃ y, y = x := ⟨x, rfl⟩
   have W : Stw ⟨Y, [], w0⟩ [] [row v6 3 (Rp.int .i64) x5, AX v4 46 Ck g_x2.1] w := W
   have h8 : Value.oneCell' v6 = true := (W.one (k := 0) Aa)
   have W := W.toR
   refine Cp (z := Value.slice none 0 0) (cs := [v6]) Ck.hr ([(v6, 2, x5)] : List (Value × Nat × List Int)) F W Aa Ke VW Aa Aa Aa (A5 Aa (B1 h8) Aa Ez) Aa Aa ⟨[v6], _, Aa, ⟨rfl, (A8 h8 HC)⟩, Aa⟩ fun v7 a w F W => ?_
   have W := Stw.dShutL (D := Ck) (lx := ([(v6, 2, x5)] : List (Value × Nat × List Int))) W
   have h9 : List.map DN ([(v6, 2, x5)] : List (Value × Nat × List Int)) = ([(2, x5)] : List (Nat × List Int)) := Aa
   have W : Stw ⟨Y, [], w0⟩ [] [AX v7 46 Ck ([(v6, 2, x5)] : List (Value × Nat × List Int)), AX v4 46 Ck g_x2.1] w := W
   have W := W.frontZ (i := 1) Aa Aa
   obtain ⟨x6, h10, H⟩ := Ae H
   refine Mi (D := Ck) F W Aa Ke Aa Aa (NT (er := DN) g_x2.2 h9 h10).1 Aa fun v8 a w F W => ?_
   have h11 : List.map DN (g_x2.1 ++ ([(v6, 2, x5)] : List (Value × Nat × List Int))) = x6 := (NT (er := DN) g_x2.2 h9 h10).2
   have W : Stw ⟨Y, [], w0⟩ [] [AX v8 46 Ck (g_x2.1 ++ ([(v6, 2, x5)] : List (Value × Nat × List Int)))] w := W
   refine vl tk 2 F W fun a w F W => ?_
   refine An ?_
   refine vn tk 4 F W fun a w F W => ?_
   refine Ac ?_
   exact ⟨_, H, (v8), ⟨(g_x2.1 ++ ([(v6, 2, x5)] : List (Value × Nat × List Int))), h11⟩, F.ra Aa, W⟩
  refine Ay ?_
  iterate 2 refine AO ?_
  refine Az (Ac ?_)
  have H := L2 _ H
  exact ⟨_, (v4), ⟨g_x2.1, g_x2.2⟩, H, F.ra Aa, W⟩
 rintro a w ⟨x1, v3, g_x1, hj, F, W⟩
 have hj := Av hj
 subst hj
 have H := K1
 clear G1 K1
 refine vc tk 6 F W fun a w F W => ?_
 refine Ao ?_
 have H := Av H
 subst H
 refine AE (.inl Aa) F W Aa (Ai F Aa) ?_
 exact ⟨((v3), ⟨g_x1.1, g_x1.2⟩), Aa, W⟩
theorem Wd : type_of% Try.underlying26 := Try.underlying26
theorem VO : type_of% Try.underlying83 := Try.underlying83
theorem X4 : Has Try.prog 37 := BS Try.func37
theorem WK : (Try.prog.info? 65).bind (·.zero) = some (.agg #[.int .i64 0, .int .i64 0, .slice none 0 0]) := by kernel_rfl
abbrev BZ : Dp (Value × Nat × List (Value × Nat × List Int)) := (Dp.dl 46 Ck)
abbrev DO (p : Value × Nat × List (Value × Nat × List Int)) : Nat × List (Nat × List Int) := (p.2.1, p.2.2.map DN)
abbrev Tn : (Nat × List (Nat × List Int)) → Option (List (List Int)) := (Vc Rj)
theorem Wo : Rst BZ (Rp.slice (Rp.slice (Rp.int .i64))) DO Tn := (Rst.dl VM)
theorem U6 : Et Try.prog 83 26 1 24 := Et.of VO (by kernel_rfl) (by kernel_rfl) (by kernel_rfl) (by decide)
theorem Xy : (Try.prog.info? 26).bind (·.zero) = some (.slice none 0 0) := by kernel_rfl
theorem Vv : Ty Try.prog 26 false 1 := ⟨by kernel_rfl, by kernel_rfl⟩
theorem Vw : Et Try.prog 26 46 1 24 := Et.of Wd (by kernel_rfl) (by kernel_rfl) (by kernel_rfl) (by decide)
noncomputable def CQ (x4 : Int) (x6 : List Int) : ((List (Nat × List (Nat × List Int))) × Int) → Option (((List (Nat × List (Nat × List Int))) × Int) ⊕ (List (Nat × List (Nat × List Int))))
  | (x7, x8) => (if x8 < (x6.length : Int) then (ix x6 x8).bind fun x9 => (ix x7 x4).bind fun x10 => (JB x10.1).bind fun x11 => (Fo x10.2 ([(2, ([x9] : List Int))] : List (Nat × List Int))).bind fun x12 => (ix (Am x7 x4 (0, [])) x4).bind fun x13 => some (.inl ((Am (Am x7 x4 (0, [])) x4 (2, x12)), A3 (x8 + 1))) else some (.inr x7))
noncomputable def Da (p0 : List (List Int)) : ((List (Nat × List (Nat × List Int))) × Int) → Option (((List (Nat × List (Nat × List Int))) × Int) ⊕ (List (Nat × List (Nat × List Int))))
  | (x3, x4) => (if x4 < (p0.length : Int) then ((ix p0 x4).bind fun x6 => Au (CQ x4 x6) (x3, 0)).bind fun x5 => some (.inl (x5, A3 (x4 + 1))) else some (.inr x3))
noncomputable def D7 (p0 : List (List Int)) : Option (List (Nat × List (Nat × List Int))) := (mk (p0.length : Int) ((2, []) : Nat × List (Nat × List Int))).bind fun x1 => (Au (Da p0) (x1, 0)).bind fun x2 => some x2
theorem Mp (Y : Nat → Prop) (w0 : World) (v1 : Value) (p0 : List (List Int)) (r : (List (Nat × List (Nat × List Int)))) (H : D7 p0 = some r) (h_v1 : Sl w0 (NX []) (Rp.slice (Rp.int .i64)) v1 p0) :
    Calls Try.prog 38 #[v1] w0 fun e w' => ∃ x : Value × ({x : List (Value × Nat × List (Value × Nat × List Int)) // x.map DO = r}), e = .returned (x.1) ∧ Stw ⟨Y, [], w0⟩ [] [AX (x.1) 26 BZ (x.2.1)] w' := by
 refine enter Try.func38 Aa Try.ntmps38 Aa fun a F => ?_
 have W := Stw.start Y w0
 obtain ⟨v2, h1, h_v1⟩ := h_v1.ex Bh
 unfold D7 at H
 refine vc tk 8 F W fun a w F W => ?_
 refine ls F W Aa (AR (r := (Rp.slice (Rp.int .i64))) (l := p0) JP Aa F Aa (Aq Bh h1 (Ab h_v1))).q fun a w F W => ?_
 obtain ⟨x1, h2, H⟩ := Ae H
 have h3 := VG (er := DO) (z := (Value.slice none 0 0, 2, [])) h2
 refine Uh (r := BZ.hr) (Value.slice none 0 0, 2, []) F W Aa U6 Xy Aa Aa (fun w A => ⟨rfl, Aa⟩) h3.1 Aa fun v3 a w F W => ?_
 have W := Stw.dNew (D := BZ) Nl.dl W
 have h4 : List.map DO (List.replicate ((p0.length : Int)).toNat ((Value.slice none 0 0, 2, []) : Value × Nat × List (Value × Nat × List Int))) = x1 := h3.2
 have W : Stw ⟨Y, [], w0⟩ [] [AX v3 26 BZ (List.replicate ((p0.length : Int)).toNat ((Value.slice none 0 0, 2, []) : Value × Nat × List (Value × Nat × List Int)))] w := W
 refine vl tk 2 F W fun a w F W => ?_
 refine Ac ?_
 obtain ⟨o1, G1, K1⟩ := Ae H
 refine Aj (fun a w => ∃ x2 : List (Nat × List (Nat × List Int)), ∃ g_x2 : {x : List (Value × Nat × List (Value × Nat × List Int)) // x.map DO = x2}, some (x2) = some o1 ∧ Fr 38 [] [(2, .slice none 0 0), (3, v3)] a ∧ Stw ⟨Y, [], w0⟩ [] [AX v3 26 BZ g_x2.1] w) ?_ ?_
 ·
  have H := G1
  clear G1 K1
  refine vc tk 3 F W fun a w F W => ?_
  refine ls F W Aa (AR (r := (Rp.slice (Rp.int .i64))) (l := p0) JP Aa F Aa (Aq Bh h1 (Ab h_v1))).q fun a w F W => ?_
  refine Bz tk 4 F W fun a w F W => ?_
  refine AA H (fun s a w => ∃ g_x3 : {x : List (Value × Nat × List (Value × Nat × List Int)) // x.map DO = s.1}, Fr 38 [] [(2, .slice none 0 0), (3, v3), (11, v1), (12, .int .i64 (p0.length : Int)), (13, .int .i64 s.2)] a ∧ Stw ⟨Y, [], w0⟩ [] [AX v3 26 BZ g_x3.1] w) ⟨⟨(List.replicate ((p0.length : Int)).toNat ((Value.slice none 0 0, 2, []) : Value × Nat × List (Value × Nat × List Int))), h4⟩, F.ra Aa, W⟩ fun s o a w H L2 hR => ?_
  obtain ⟨x3, x4⟩ := s
  obtain ⟨g_x3, F, W⟩ := hR
  have F : Fr 38 [] [(2, .slice none 0 0), (3, v3), (11, v1), (12, .int .i64 (p0.length : Int)), (13, .int .i64 x4)] a := F
  have W : Stw ⟨Y, [], w0⟩ [] [AX v3 26 BZ g_x3.1] w := W
  rw [Da] at H
  refine vc tk 6 F W fun a w F W => ?_
  refine AN F Aa H (fun F H => ?_) fun F H => ?_
  ·
   refine As (Ac ?_)
   obtain ⟨o3, G3, K3⟩ := Ae H
   refine Aj (fun a w => ∃ x5 : List (Nat × List (Nat × List Int)), ∃ g_x5 : {x : List (Value × Nat × List (Value × Nat × List Int)) // x.map DO = x5}, some (x5) = some o3 ∧ Fr 38 [] [(2, .slice none 0 0), (3, v3), (11, v1), (12, .int .i64 (p0.length : Int)), (13, .int .i64 x4)] a ∧ Stw ⟨Y, [], w0⟩ [] [AX v3 26 BZ g_x5.1] w) ?_ ?_
   ·
    have H := G3
    clear G3 K3
    refine vc tk 4 F W fun a w F W => ?_
    obtain ⟨x6, h5, H⟩ := Ae H
    obtain ⟨v4, h6, h7⟩ := Co h1 h5
    have h8 : C2 v4 = [(v4.1)] := congrArg (fun q : List Int => ([(v4.1)] : List Value)) h7
    refine ls F W Aa (Al (r := (Rp.vsl (Rp.int .i64))) Ke F Aa Aa (Ab h_v1) h6).q fun a w F W => ?_
    refine ls F W Aa (Ag (y := (v4.1)) (j := 0) (i := x4) (enc := C2) F Aa Aa (Ab h_v1) h6 Gd Jv (by rw [h8]; rfl)).q fun a w F W => ?_
    refine Bz tk 7 F W fun a w F W => ?_
    refine ls F W Aa (AR (r := (Rp.int .i64)) (l := x6) Hl Aa F Aa (A4 (Ab h_v1) h6 BL.here (congrArg (fun q : List Int => q) h7))).q fun a w F W => ?_
    refine Bz tk 4 F W fun a w F W => ?_
    refine AA H (fun s a w => ∃ g_x7 : {x : List (Value × Nat × List (Value × Nat × List Int)) // x.map DO = s.1}, Fr 38 [] [(2, .slice none 0 0), (3, v3), (4, .int .i64 x4), (11, v1), (12, .int .i64 (p0.length : Int)), (13, .int .i64 x4), (18, (v4.1)), (19, .int .i64 (x6.length : Int)), (20, .int .i64 s.2)] a ∧ Stw ⟨Y, [], w0⟩ [] [AX v3 26 BZ g_x7.1] w) ⟨⟨g_x3.1, g_x3.2⟩, F.ra Aa, W⟩ fun s o a w H L4 hR => ?_
    obtain ⟨x7, x8⟩ := s
    obtain ⟨g_x7, F, W⟩ := hR
    have F : Fr 38 [] [(2, .slice none 0 0), (3, v3), (4, .int .i64 x4), (11, v1), (12, .int .i64 (p0.length : Int)), (13, .int .i64 x4), (18, (v4.1)), (19, .int .i64 (x6.length : Int)), (20, .int .i64 x8)] a := F
    have W : Stw ⟨Y, [], w0⟩ [] [AX v3 26 BZ g_x7.1] w := W
    rw [CQ] at H
    refine vc tk 6 F W fun a w F W => ?_
    refine AN F Aa H (fun F H => ?_) fun F H => ?_
    ·
     refine Gm tk 6 F W fun a w F W => ?_
     obtain ⟨x9, h9, H⟩ := Ae H
     refine ls F W Aa (Al (r := (Rp.int .i64)) FS F Aa Aa (A4 (Ab h_v1) h6 BL.here (congrArg (fun q : List Int => q) h7)) h9).q fun a w F W => ?_
     refine ls F W Aa (Ag (y := Value.int .i64 x9) (j := 0) (i := x8) F Aa Aa (A4 (Ab h_v1) h6 BL.here (congrArg (fun q : List Int => q) h7)) h9 Fl.int.to T3 Aa).q fun a w F W => ?_
     refine Bz tk 8 F W fun a w F W => ?_
     obtain ⟨x10, h10, H⟩ := Ae H
     obtain ⟨v5, h11, h12⟩ := Co (er := DO) g_x7.2 h10
     refine ls F W Aa (Al (r := BZ.hr) U6 F Aa Aa (LJ.hd (HA 0 Aa)) h11).q fun a w F W => ?_
     have h13 : BZ.cells v5 = [(v5.1)] := congrArg (fun q : Nat × List (Nat × List Int) => ([(v5.1)] : List Value)) h12
     refine ls F W Aa (Ag (y := (v5.1)) (j := 0) (i := x4) (enc := BZ.cells) F Aa Aa (LJ.hd (HA 0 Aa)) h11 BZ.flat Vv (by rw [h13]; rfl)).q fun a w F W => ?_
     refine ls F W Aa (Ak F Aa).q fun a w F W => ?_
     refine Cp (z := Value.int .i64 0) (cs := [.int .i64 x9]) (Rp.int .i64) ([x9] : List Int) F W Aa FS Z3 Aa Aa Aa Aa Aa Aa (Fl.int.repL _ _ ([x9] : List Int)) fun v6 a w F W => ?_
     have h14 : Value.oneCell' v6 = true := (W.one (k := 0) Aa)
     have W := W.toR
     refine Cp (z := Value.slice none 0 0) (cs := [v6]) Ck.hr ([(v6, 2, ([x9] : List Int))] : List (Value × Nat × List Int)) F W Aa Vw VW Aa Aa Aa (A5 Aa (B1 h14) Aa Ez) Aa Aa ⟨[v6], _, Aa, ⟨rfl, (A8 h14 HC)⟩, Aa⟩ fun v7 a w F W => ?_
     have W := Stw.dShutL (D := Ck) (lx := ([(v6, 2, ([x9] : List Int))] : List (Value × Nat × List Int))) W
     have h15 : List.map DN ([(v6, 2, ([x9] : List Int))] : List (Value × Nat × List Int)) = ([(2, ([x9] : List Int))] : List (Nat × List Int)) := Aa
     have W : Stw ⟨Y, [], w0⟩ [] [AX v7 46 Ck ([(v6, 2, ([x9] : List Int))] : List (Value × Nat × List Int)), AX v3 26 BZ g_x7.1] w := W
     obtain ⟨x11, h16, H⟩ := Ae H
     have W := W.frontZ (i := 1) Aa Aa
     have W := W.dTakeD h11 Foc.here ((congrArg (fun q : Nat × List (Nat × List Int) => q.1) h12).trans (JI h16))
     have h17 : List.map DO (Am g_x7.1 x4 ((v5.1), 0, [])) = (Am x7 x4 (0, [])) := (HP g_x7.2 (congrArg (fun q : Nat × List (Nat × List Int) => (0, [])) h12))
     have W : Stw ⟨Y, [], w0⟩ [] [AX (v5.1) 46 Ck (v5.2.2), AX v3 26 BZ (Am g_x7.1 x4 ((v5.1), 0, [])), AX v7 46 Ck ([(v6, 2, ([x9] : List Int))] : List (Value × Nat × List Int))] w := W
     have W := W.frontZ (i := 2) Aa Aa
     have W := W.frontZ (i := 1) Aa Aa
     obtain ⟨x12, h18, H⟩ := Ae H
     refine Mi (D := Ck) F W Aa Vw Aa Aa (NT (er := DN) (congrArg (fun q : Nat × List (Nat × List Int) => q.2) h12) h15 h18).1 Aa fun v8 a w F W => ?_
     have h19 : List.map DN ((v5.2.2) ++ ([(v6, 2, ([x9] : List Int))] : List (Value × Nat × List Int))) = x12 := (NT (er := DN) (congrArg (fun q : Nat × List (Nat × List Int) => q.2) h12) h15 h18).2
     have W : Stw ⟨Y, [], w0⟩ [] [AX v8 46 Ck ((v5.2.2) ++ ([(v6, 2, ([x9] : List Int))] : List (Value × Nat × List Int))), AX v3 26 BZ (Am g_x7.1 x4 ((v5.1), 0, []))] w := W
     obtain ⟨x13, h20, H⟩ := Ae H
     obtain ⟨v9, h21, h22⟩ := Co (er := DO) h17 h20
     refine ls F W Aa (Al (r := BZ.hr) U6 F Aa Aa (LJ.hd (HA 1 Aa)) h21).q fun a w F W => ?_
     have h23 : Value.oneCell' v8 = true := (W.oneD 0 Aa)
     have W := W.frontZ (i := 1) Aa Aa
     have W := W.frontZ (i := 1) Aa Aa
     have W := W.toD
     refine Mu (D := BZ) (S := (Dp.dl 46 Ck)) (b := (v8, 2, ((v5.2.2) ++ ([(v6, 2, ([x9] : List Int))] : List (Value × Nat × List Int))))) (i := x4) (j := 0) Foc.here F W Aa Aa Aa h21 Vv (B1 h23) Aa h23 Aa fun w W => ?_
     have h24 : DO (v8, 2, ((v5.2.2) ++ ([(v6, 2, ([x9] : List Int))] : List (Value × Nat × List Int)))) = (2, x12) := by simp only [DO, h19]
     have h25 : List.map DO (Am (Am g_x7.1 x4 ((v5.1), 0, [])) x4 (v8, 2, ((v5.2.2) ++ ([(v6, 2, ([x9] : List Int))] : List (Value × Nat × List Int))))) = (Am (Am x7 x4 (0, [])) x4 (2, x12)) := (HP h17 h24)
     have W : Stw ⟨Y, [], w0⟩ [] [AX v3 26 BZ (Am (Am g_x7.1 x4 ((v5.1), 0, [])) x4 (v8, 2, ((v5.2.2) ++ ([(v6, 2, ([x9] : List Int))] : List (Value × Nat × List Int)))))] w := W
     refine DP (An ?_)
     refine vn tk 4 F W fun a w F W => ?_
     refine Ac ?_
     exact ⟨_, H, ⟨(Am (Am g_x7.1 x4 ((v5.1), 0, [])) x4 (v8, 2, ((v5.2.2) ++ ([(v6, 2, ([x9] : List Int))] : List (Value × Nat × List Int))))), h25⟩, F.ra Aa, W⟩
    refine Ay ?_
    iterate 2 refine AO ?_
    refine Az (An (Ac ?_))
    have H := L4 _ H
    exact ⟨_, ⟨g_x7.1, g_x7.2⟩, H, F.ra Aa, W⟩
   rintro a w ⟨x5, g_x5, hj, F, W⟩
   have hj := Av hj
   subst hj
   have H := K3
   clear G3 K3
   refine vc tk 4 F W fun a w F W => ?_
   refine Ac ?_
   exact ⟨_, H, ⟨g_x5.1, g_x5.2⟩, F.ra Aa, W⟩
  refine Ay ?_
  iterate 2 refine AO ?_
  refine Az (Ac ?_)
  have H := L2 _ H
  exact ⟨_, ⟨g_x3.1, g_x3.2⟩, H, F.ra Aa, W⟩
 rintro a w ⟨x2, g_x2, hj, F, W⟩
 have hj := Av hj
 subst hj
 have H := K1
 clear G1 K1
 refine vc tk 6 F W fun a w F W => ?_
 refine Ao ?_
 have H := Av H
 subst H
 refine AE (.inl Aa) F W Aa (Ai F Aa) ?_
 exact ⟨((v3), ⟨g_x2.1, g_x2.2⟩), Aa, W⟩
theorem P3 : type_of% Try.underlying111 := Try.underlying111
theorem Ms : type_of% Try.underlying112 := Try.underlying112
theorem Xj : Has Try.prog 38 := BS Try.func38
abbrev Wz (p : Value × List (Value × List Int)) : List (List Int) := (p.2.map VE)
theorem Vo : Ex (Rp.slice (Rp.slice (Rp.int .i64))) (Rp.vsl (Rp.vsl (Rp.int .i64))) Wz := (Ex.slice Bh)
abbrev UL (a : Value × List (Value × List Int)) : List Value := [a.1]
theorem Wf : Hf (Rp.vsl (Rp.vsl (Rp.int .i64))) UL := Hf.vsl
theorem V7 : Bt Try.prog 112 [.int .i64 0, .int .i64 0] [(0, 1), (1, 1)] := ⟨⟨.agg #[.int .i64 0, .int .i64 0], by kernel_rfl, rfl⟩, ⟨_, Ms, fun w => by kernel_rfl⟩⟩
theorem SZ : (Try.prog.info? 112).bind (·.zero) = some (.agg #[.int .i64 0, .int .i64 0]) := by kernel_rfl
abbrev FA : Rp (Int × Int) := (Rp.pair (Rp.int .i64) (Rp.int .i64))
def Wb (a : Int × Int) : List Value := [.int .i64 a.1, .int .i64 a.2]
theorem Td : Fl FA Wb := (Fl.pair Fl.int Fl.int)
theorem Sg : Et Try.prog 111 112 2 16 := Et.of P3 (by kernel_rfl) (by kernel_rfl) (by kernel_rfl) (by decide)
theorem Q1 : Ty Try.prog 112 true 2 := ⟨by kernel_rfl, by kernel_rfl⟩
noncomputable def DU (p0 : Int) (p1 : List (Int × Int)) : Int → Option (Int ⊕ (Unit ⊕ Bool))
  | x1 => (if x1 < (p1.length : Int) then (ix p1 x1).bind fun x2 => (if (decide (x2.1 < 0) || (decide (p0 ≤ x2.1) || (decide (x2.2 < 0) || decide (p0 ≤ x2.2)))) = true then some (.inr (.inr false)) else some (.inl (A3 (x1 + 1)))) else some (.inr (.inl ())))
noncomputable def EB (p0 : Int) (p1 : List (Int × Int)) : Option Bool := (if (decide (p0 < 0) || decide (16 < p0)) = true then some false else Ep (Au (DU p0 p1) 0) fun _ => some true)
theorem MU (Y : Nat → Prop) (w0 : World) (v1 : Value) (p0 : Int) (p1 : List (Int × Int)) (r : Bool) (H : EB p0 p1 = some r) (h_v1 : Sl w0 (NX []) FA v1 p1) :
    Calls Try.prog 79 #[.int .i64 p0, v1] w0 fun e w' => e = .returned (.bool r) ∧ Below w0.heap.size w0 w' := by
 refine enter Try.func79 Aa Try.ntmps79 Aa fun a F => ?_
 have W := Stw.start Y w0
 unfold EB at H
 refine vc tk 6 F W fun a w F W => ?_
 refine Aj (fun a w => Fr 40 [] [(0, .int .i64 p0), (1, v1), (4, .bool false), (12, .bool (decide (p0 < 0) || decide (16 < p0)))] a ∧ Stw ⟨Y, [], w0⟩ [] [] w) ?_ ?_
 ·
  refine vc tk 4 F W fun a w F W => ?_
  rcases Bool.eq_false_or_eq_true (decide (p0 < 0)) with hb0 | hb0
  ·
   rw [hb0] at F
   refine vl tk 4 F W fun a w F W => ?_
   refine Ac ?_
   exact ⟨F.re ⟨rfl, Aa, Aa, (Gw (by try rw [hb0]; all_goals simp only [Gv])), trivial⟩, W⟩
  rw [hb0] at F
  refine vl tk 4 F W fun a w F W => ?_
  refine Ac ?_
  exact ⟨F.re ⟨rfl, Aa, Aa, (Gw (by try rw [hb0]; all_goals simp only [Gv])), trivial⟩, W⟩
 rintro a w ⟨F, W⟩
 refine B0 F Aa H (fun F H => ?_) fun F H => ?_
 ·
  refine vc tk 5 F W fun a w F W => ?_
  refine Ao (Aw ?_)
  have H := Av H
  subst H
  refine AE (.inl Aa) F W Aa (Ai F Aa) ?_
  exact ⟨rfl, W.done⟩
 refine As (Ac ?_)
 obtain ⟨o1, G1, K1, L1⟩ := I5 H
 refine Aj (fun a w => some (Sum.inl ()) = some o1 ∧ Fr 40 [] [(4, .bool false)] a ∧ Stw ⟨Y, [], w0⟩ [] [] w) ?_ ?_
 ·
  have H := G1
  clear G1 K1
  refine vc tk 3 F W fun a w F W => ?_
  refine ls F W Aa (AR (r := FA) (l := p1) P3 Aa F Aa (Ab h_v1)).q fun a w F W => ?_
  refine Bz tk 4 F W fun a w F W => ?_
  refine AA H (fun s a w => Fr 40 [] [(0, .int .i64 p0), (4, .bool false), (13, v1), (14, .int .i64 (p1.length : Int)), (15, .int .i64 s)] a ∧ Stw ⟨Y, [], w0⟩ [] [] w) ⟨F.ra Aa, W⟩ fun s o a w H L2 hR => ?_
  obtain ⟨x1, rfl⟩ : ∃ x, x = s := ⟨s, rfl⟩
  obtain ⟨F, W⟩ := hR
  have F : Fr 40 [] [(0, .int .i64 p0), (4, .bool false), (13, v1), (14, .int .i64 (p1.length : Int)), (15, .int .i64 x1)] a := F
  have W : Stw ⟨Y, [], w0⟩ [] [] w := W
  rw [DU] at H
  refine vc tk 6 F W fun a w F W => ?_
  refine AN F Aa H (fun F H => ?_) fun F H => ?_
  ·
   refine Gm tk 6 F W fun a w F W => ?_
   obtain ⟨x2, h1, H⟩ := Ae H
   refine ls F W Aa (Al (r := FA) Sg F Aa Aa (Ab h_v1) h1).q fun a w F W => ?_
   refine ls F W Aa (Ag (y := Value.agg #[.int .i64 x2.1, .int .i64 x2.2]) (j := 0) (i := x1) F Aa Aa (Ab h_v1) h1 Td.to Q1 Aa).q fun a w F W => ?_
   refine BU (cs := [.int .i64 0, .int .i64 0]) F W Aa SZ Aa fun b1 a w F W => ?_
   refine Fv 0 F W Aa Aa Aa Q1 Aa Aa Aa fun w W => ?_
   refine Bz tk 2 F W fun a w F W => ?_
   refine Aj (fun a w => Fr 40 [] [(0, .int .i64 p0), (4, .bool false), (13, v1), (14, .int .i64 (p1.length : Int)), (15, .int .i64 x1), (38, .bool (decide (x2.1 < 0) || (decide (p0 ≤ x2.1) || (decide (x2.2 < 0) || decide (p0 ≤ x2.2)))))] a ∧ Stw ⟨Y, [], w0⟩ (P9 b1 x2) [] w) ?_ ?_
   ·
    refine D3 tk 5 [0] F W (ai fun a w F W => ?_)
    rcases Bool.eq_false_or_eq_true (decide (x2.1 < 0)) with hb0 | hb0
    ·
     rw [hb0] at F
     refine vl tk 17 F W fun a w F W => ?_
     refine Ac ?_
     exact ⟨F.re ⟨rfl, Aa, Aa, Aa, Aa, (Gw (by try rw [hb0]; all_goals simp only [Gv])), trivial⟩, W⟩
    rw [hb0] at F
    refine GL tk 6 [0] F W (ai fun a w F W => ?_)
    rcases Bool.eq_false_or_eq_true (decide (p0 ≤ x2.1)) with hb1 | hb1
    ·
     rw [hb1] at F
     refine vl tk 11 F W fun a w F W => ?_
     refine Ac ?_
     exact ⟨F.re ⟨rfl, Aa, Aa, Aa, Aa, (Gw (by try rw [hb1]; try rw [hb0]; all_goals simp only [Gv])), trivial⟩, W⟩
    rw [hb1] at F
    refine GL tk 5 [0] F W (ai fun a w F W => ?_)
    rcases Bool.eq_false_or_eq_true (decide (x2.2 < 0)) with hb2 | hb2
    ·
     rw [hb2] at F
     refine vl tk 6 F W fun a w F W => ?_
     refine Ac ?_
     exact ⟨F.re ⟨rfl, Aa, Aa, Aa, Aa, (Gw (by try rw [hb1]; try rw [hb0]; try rw [hb2]; all_goals simp only [Gv])), trivial⟩, W⟩
    rw [hb2] at F
    refine GL tk 6 [0] F W (ai fun a w F W => ?_)
    refine Ac ?_
    exact ⟨F.re ⟨rfl, Aa, Aa, Aa, Aa, (Gw (by try rw [hb1]; try rw [hb0]; try rw [hb2]; all_goals simp only [Gv])), trivial⟩, W⟩
   rintro a w ⟨F, W⟩
   refine B0 F Aa H (fun F H => ?_) fun F H => ?_
   ·
    refine vc tk 5 F W fun a w F W => ?_
    refine Ao (Ax ?_)
    iterate 2 refine Aw ?_
    refine Ax (Aw ?_)
    have H := L2 _ H
    have H := L1 _ H
    have H := Av H
    subst H
    refine AE (.inl Aa) F W Aa (Ai F Aa) ?_
    exact ⟨rfl, W.done⟩
   refine As (An ?_)
   refine vn tk 4 F W fun a w F W => ?_
   refine Ac ?_
   have W := W.sub (M' := []) (Z' := []) (List.nil_sublist _) (List.Sublist.refl _)
   exact ⟨_, H, F.ra Aa, W⟩
  refine Ay ?_
  iterate 2 refine AO ?_
  refine Az (Ac ?_)
  have H := L2 _ H
  exact ⟨H, F.ra Aa, W⟩
 rintro a w ⟨hj, F, W⟩
 have H := K1 _ hj
 clear hj G1 K1 L1
 refine vc tk 5 F W fun a w F W => ?_
 refine Ao ?_
 have H := Av H
 subst H
 refine AE (.inl Aa) F W Aa (Ai F Aa) ?_
 exact ⟨rfl, W.done⟩
theorem Vs : type_of% Try.underlying134 := Try.underlying134
theorem Yu : Has Try.prog 79 := BS Try.func79
theorem RN : (Try.prog.info? 134).bind (·.zero) = some (.agg #[.int .u32 0, .int .u32 0, .int .u32 0, .int .u32 0, .int .u32 0, .int .u32 0, .int .u32 0, .int .u32 0, .int .u32 0, .int .u32 0, .int .u32 0, .int .u32 0, .int .u32 0, .int .u32 0, .int .u32 0, .int .u32 0]) := by kernel_rfl
theorem Lo : Ar Try.prog 134 16 133 1 := ⟨Vs, by kernel_rfl⟩
theorem O8 : Ty Try.prog 133 false 1 := ⟨by kernel_rfl, by kernel_rfl⟩
noncomputable def B8 (p0 : Int) (p1 : Int) : Option Int := (Ub (Re .u32 1 p1) p1).bind fun x1 => some (Rl .u32 p0 x1)
theorem F2 (Y : Nat → Prop) (w0 : World)  (p0 : Int) (p1 : Int) (r : Int) (H : B8 p0 p1 = some r)  :
    Calls Try.prog 88 #[.int .u32 p0, .int .i64 p1] w0 fun e w' => e = .returned (.int .u32 r) ∧ Below w0.heap.size w0 w' := by
 refine enter Try.func88 Aa Try.ntmps88 Aa fun a F => ?_
 have W := Stw.start Y w0
 unfold B8 at H
 refine vc tk 9 F W fun a w F W => ?_
 obtain ⟨x1, h1, H⟩ := Ae H
 refine ls F W Aa (T0 (Ky h1).2 (VF F Aa Aa (Ky h1).1)).q fun a w F W => ?_
 refine Bz tk 4 F W fun a w F W => ?_
 refine Ao ?_
 have H := Av H
 subst H
 refine AE (.inl Aa) F W Aa (Ai F Aa) ?_
 exact ⟨rfl, W.done⟩
theorem WC : Has Try.prog 88 := BS Try.func88
theorem RP : Ty Try.prog 134 true 16 := ⟨by kernel_rfl, by kernel_rfl⟩
abbrev Hu  : List Value := [.int .u32 0, .int .u32 0, .int .u32 0, .int .u32 0, .int .u32 0, .int .u32 0, .int .u32 0, .int .u32 0, .int .u32 0, .int .u32 0, .int .u32 0, .int .u32 0, .int .u32 0, .int .u32 0, .int .u32 0, .int .u32 0]
abbrev T8 (a0 : Int × Int) : List Value := [.int .i64 a0.1, .int .i64 a0.2]
noncomputable def BM (p0 : List (Int × Int)) : (Int × Int × Int × Int × Int × Int × Int × Int × Int × Int × Int × Int × Int × Int × Int × Int × Int) → Option ((Int × Int × Int × Int × Int × Int × Int × Int × Int × Int × Int × Int × Int × Int × Int × Int × Int) ⊕ (Int × Int × Int × Int × Int × Int × Int × Int × Int × Int × Int × Int × Int × Int × Int × Int))
  | (x17, x18, x19, x20, x21, x22, x23, x24, x25, x26, x27, x28, x29, x30, x31, x32, x33) => (if x17 < (p0.length : Int) then (ix p0 x17).bind fun x34 => (ix ([x18, x19, x20, x21, x22, x23, x24, x25, x26, x27, x28, x29, x30, x31, x32, x33] : List Int) x34.1).bind fun x35 => (B8 x35 x34.2).bind fun x36 => (ix ([x18, x19, x20, x21, x22, x23, x24, x25, x26, x27, x28, x29, x30, x31, x32, x33] : List Int) x34.1).bind fun x37 => some (.inl (A3 (x17 + 1), (if x34.1 = 0 then x36 else x18), (if x34.1 = 1 then x36 else x19), (if x34.1 = 2 then x36 else x20), (if x34.1 = 3 then x36 else x21), (if x34.1 = 4 then x36 else x22), (if x34.1 = 5 then x36 else x23), (if x34.1 = 6 then x36 else x24), (if x34.1 = 7 then x36 else x25), (if x34.1 = 8 then x36 else x26), (if x34.1 = 9 then x36 else x27), (if x34.1 = 10 then x36 else x28), (if x34.1 = 11 then x36 else x29), (if x34.1 = 12 then x36 else x30), (if x34.1 = 13 then x36 else x31), (if x34.1 = 14 then x36 else x32), (if x34.1 = 15 then x36 else x33))) else some (.inr (x18, x19, x20, x21, x22, x23, x24, x25, x26, x27, x28, x29, x30, x31, x32, x33)))
noncomputable def CU (p0 : List (Int × Int)) : Option (Int × Int × Int × Int × Int × Int × Int × Int × Int × Int × Int × Int × Int × Int × Int × Int) := (Au (BM p0) (0, 0, 0, 0, 0, 0, 0, 0, 0, 0, 0, 0, 0, 0, 0, 0, 0)).bind fun (x1, x2, x3, x4, x5, x6, x7, x8, x9, x10, x11, x12, x13, x14, x15, x16) => some (x1, x2, x3, x4, x5, x6, x7, x8, x9, x10, x11, x12, x13, x14, x15, x16)
theorem JV (Y : Nat → Prop) (w0 : World) (v1 : Value) (p0 : List (Int × Int)) (r : (Int × Int × Int × Int × Int × Int × Int × Int × Int × Int × Int × Int × Int × Int × Int × Int)) (H : CU p0 = some r) (h_v1 : Sl w0 (NX []) FA v1 p0) :
    Calls Try.prog 80 #[v1] w0 fun e w' => e = .returned (.agg #[.int .u32 r.1, .int .u32 r.2.1, .int .u32 r.2.2.1, .int .u32 r.2.2.2.1, .int .u32 r.2.2.2.2.1, .int .u32 r.2.2.2.2.2.1, .int .u32 r.2.2.2.2.2.2.1, .int .u32 r.2.2.2.2.2.2.2.1, .int .u32 r.2.2.2.2.2.2.2.2.1, .int .u32 r.2.2.2.2.2.2.2.2.2.1, .int .u32 r.2.2.2.2.2.2.2.2.2.2.1, .int .u32 r.2.2.2.2.2.2.2.2.2.2.2.1, .int .u32 r.2.2.2.2.2.2.2.2.2.2.2.2.1, .int .u32 r.2.2.2.2.2.2.2.2.2.2.2.2.2.1, .int .u32 r.2.2.2.2.2.2.2.2.2.2.2.2.2.2.1, .int .u32 r.2.2.2.2.2.2.2.2.2.2.2.2.2.2.2]) ∧ Below w0.heap.size w0 w' := by
 refine enter Try.func80 Aa Try.ntmps80 Aa fun a F => ?_
 have W := Stw.start Y w0
 unfold CU at H
 refine vc tk 2 F W fun a w F W => ?_
 refine BU (cs := (Hu)) F W Aa RN Aa fun b1 a w F W => ?_
 refine Bz tk 4 F W fun a w F W => ?_
 refine BU (cs := (Hu)) F W Aa RN Aa fun b2 a w F W => ?_
 refine DP (Ac ?_)
 obtain ⟨o1, G1, K1⟩ := Ae H
 refine Aj (fun a w => ∃ x1 : Int, ∃ x2 : Int, ∃ x3 : Int, ∃ x4 : Int, ∃ x5 : Int, ∃ x6 : Int, ∃ x7 : Int, ∃ x8 : Int, ∃ x9 : Int, ∃ x10 : Int, ∃ x11 : Int, ∃ x12 : Int, ∃ x13 : Int, ∃ x14 : Int, ∃ x15 : Int, ∃ x16 : Int, some ((x1, x2, x3, x4, x5, x6, x7, x8, x9, x10, x11, x12, x13, x14, x15, x16)) = some o1 ∧ Fr 24 [] [(2, .pointer (some ⟨b1, 0, none⟩)), (3, .pointer (some ⟨b2, 0, none⟩))] a ∧ Stw ⟨Y, [], w0⟩ [(b2, [.int .u32 x1, .int .u32 x2, .int .u32 x3, .int .u32 x4, .int .u32 x5, .int .u32 x6, .int .u32 x7, .int .u32 x8, .int .u32 x9, .int .u32 x10, .int .u32 x11, .int .u32 x12, .int .u32 x13, .int .u32 x14, .int .u32 x15, .int .u32 x16]), (b1, (Hu))] [] w) ?_ ?_
 ·
  have H := G1
  clear G1 K1
  refine vc tk 3 F W fun a w F W => ?_
  refine ls F W Aa (AR (r := FA) (l := p0) P3 Aa F Aa (Ab h_v1)).q fun a w F W => ?_
  refine Bz tk 4 F W fun a w F W => ?_
  have W := W.frontM (i := 1) Aa Aa
  have W := W.frontM (i := 1) Aa Aa
  refine AA H (fun s a w => Fr 24 [] [(2, .pointer (some ⟨b1, 0, none⟩)), (3, .pointer (some ⟨b2, 0, none⟩)), (6, v1), (7, .int .i64 (p0.length : Int)), (8, .int .i64 s.1)] a ∧ Stw ⟨Y, [], w0⟩ [(b2, [.int .u32 s.2.1, .int .u32 s.2.2.1, .int .u32 s.2.2.2.1, .int .u32 s.2.2.2.2.1, .int .u32 s.2.2.2.2.2.1, .int .u32 s.2.2.2.2.2.2.1, .int .u32 s.2.2.2.2.2.2.2.1, .int .u32 s.2.2.2.2.2.2.2.2.1, .int .u32 s.2.2.2.2.2.2.2.2.2.1, .int .u32 s.2.2.2.2.2.2.2.2.2.2.1, .int .u32 s.2.2.2.2.2.2.2.2.2.2.2.1, .int .u32 s.2.2.2.2.2.2.2.2.2.2.2.2.1, .int .u32 s.2.2.2.2.2.2.2.2.2.2.2.2.2.1, .int .u32 s.2.2.2.2.2.2.2.2.2.2.2.2.2.2.1, .int .u32 s.2.2.2.2.2.2.2.2.2.2.2.2.2.2.2.1, .int .u32 s.2.2.2.2.2.2.2.2.2.2.2.2.2.2.2.2]), (b1, (Hu))] [] w) ⟨F.ra Aa, W⟩ fun s o a w H L2 hR => ?_
  obtain ⟨x17, x18, x19, x20, x21, x22, x23, x24, x25, x26, x27, x28, x29, x30, x31, x32, x33⟩ := s
  obtain ⟨F, W⟩ := hR
  have F : Fr 24 [] [(2, .pointer (some ⟨b1, 0, none⟩)), (3, .pointer (some ⟨b2, 0, none⟩)), (6, v1), (7, .int .i64 (p0.length : Int)), (8, .int .i64 x17)] a := F
  have W : Stw ⟨Y, [], w0⟩ [(b2, [.int .u32 x18, .int .u32 x19, .int .u32 x20, .int .u32 x21, .int .u32 x22, .int .u32 x23, .int .u32 x24, .int .u32 x25, .int .u32 x26, .int .u32 x27, .int .u32 x28, .int .u32 x29, .int .u32 x30, .int .u32 x31, .int .u32 x32, .int .u32 x33]), (b1, (Hu))] [] w := W
  rw [BM] at H
  refine vc tk 6 F W fun a w F W => ?_
  refine AN F Aa H (fun F H => ?_) fun F H => ?_
  ·
   refine Gm tk 6 F W fun a w F W => ?_
   obtain ⟨x34, h1, H⟩ := Ae H
   refine ls F W Aa (Al (r := FA) Sg F Aa Aa (Ab h_v1) h1).q fun a w F W => ?_
   refine ls F W Aa (Ag (y := Value.agg #[.int .i64 x34.1, .int .i64 x34.2]) (j := 0) (i := x17) F Aa Aa (Ab h_v1) h1 Td.to Q1 Aa).q fun a w F W => ?_
   refine BU (cs := [.int .i64 0, .int .i64 0]) F W Aa SZ Aa fun b3 a w F W => ?_
   refine Fv 0 F W Aa Aa Aa Q1 Aa Aa Aa fun w W => ?_
   refine Bz tk 2 F W fun a w F W => ?_
   refine LV 10 W MO (by kernel_rfl) ?_
   refine qs F Aa (Af Ms Aa Aa Aa T3 F Aa 0 Aa).q fun a F => ?_
   refine qs F Aa (AK (v := Value.int .i64 x34.1) 0 F Aa Aa T3 Aa).q fun a F => ?_
   refine qs F Aa (Af Ms Aa Aa Aa T3 F Aa 0 Aa).q fun a F => ?_
   refine qs F Aa (AK (v := Value.int .i64 x34.1) 0 F Aa Aa T3 Aa).q fun a F => ?_
   obtain ⟨x35, h2, H⟩ := Ae H
   refine qs F Aa (DF (0 + (x34.1).toNat * 1) Lo F Aa Aa Aa h2 Aa).q fun a F => ?_
   refine qs F Aa (AK (v := Value.int .u32 x35) 1 F Aa Aa O8 (GO (base := 0) (m := 16) (l := [x18, x19, x20, x21, x22, x23, x24, x25, x26, x27, x28, x29, x30, x31, x32, x33]) (enc := Value.int .u32) Aa h2)).q fun a F => ?_
   refine qs F Aa (Af Ms Aa Aa Aa T3 F Aa 1 Aa).q fun a F => ?_
   refine qs F Aa (AK (v := Value.int .i64 x34.2) 0 F Aa Aa T3 Aa).q fun a F => ?_
   obtain ⟨x36, h3, H⟩ := Ae H
   refine qs F Aa (AL (v := Value.int .u32 x36) F WC Aa (fun w W => F2 any w x35 x34.2 _ h3)) fun a F => ?_
   obtain ⟨x37, h4, H⟩ := Ae H
   refine qs F Aa (DF (0 + (x34.1).toNat * 1) Lo F Aa Aa Aa h4 Aa).q fun a F => ?_
   refine AB fun w W => ?_
   refine Gu (o := 0) (m := 16) (i := x34.1) (l := ([x18, x19, x20, x21, x22, x23, x24, x25, x26, x27, x28, x29, x30, x31, x32, x33] : List Int)) (x := x37) (cs := [.int .u32 x18, .int .u32 x19, .int .u32 x20, .int .u32 x21, .int .u32 x22, .int .u32 x23, .int .u32 x24, .int .u32 x25, .int .u32 x26, .int .u32 x27, .int .u32 x28, .int .u32 x29, .int .u32 x30, .int .u32 x31, .int .u32 x32, .int .u32 x33]) (cs' := [.int .u32 (if x34.1 = 0 then x36 else x18), .int .u32 (if x34.1 = 1 then x36 else x19), .int .u32 (if x34.1 = 2 then x36 else x20), .int .u32 (if x34.1 = 3 then x36 else x21), .int .u32 (if x34.1 = 4 then x36 else x22), .int .u32 (if x34.1 = 5 then x36 else x23), .int .u32 (if x34.1 = 6 then x36 else x24), .int .u32 (if x34.1 = 7 then x36 else x25), .int .u32 (if x34.1 = 8 then x36 else x26), .int .u32 (if x34.1 = 9 then x36 else x27), .int .u32 (if x34.1 = 10 then x36 else x28), .int .u32 (if x34.1 = 11 then x36 else x29), .int .u32 (if x34.1 = 12 then x36 else x30), .int .u32 (if x34.1 = 13 then x36 else x31), .int .u32 (if x34.1 = 14 then x36 else x32), .int .u32 (if x34.1 = 15 then x36 else x33)]) 1 F W Aa Aa Aa O8 Aa Aa Aa Aa h4 (by intro k hk hn; rw [hk]; match k, hn with | 0, _ => rfl | 1, _ => rfl | 2, _ => rfl | 3, _ => rfl | 4, _ => rfl | 5, _ => rfl | 6, _ => rfl | 7, _ => rfl | 8, _ => rfl | 9, _ => rfl | 10, _ => rfl | 11, _ => rfl | 12, _ => rfl | 13, _ => rfl | 14, _ => rfl | 15, _ => rfl | (z + 16), h => exact absurd h (by omega)) fun w W => ?_
   have W : Stw ⟨Y, [], w0⟩ [(b3, (T8 x34)), (b2, [.int .u32 (if x34.1 = 0 then x36 else x18), .int .u32 (if x34.1 = 1 then x36 else x19), .int .u32 (if x34.1 = 2 then x36 else x20), .int .u32 (if x34.1 = 3 then x36 else x21), .int .u32 (if x34.1 = 4 then x36 else x22), .int .u32 (if x34.1 = 5 then x36 else x23), .int .u32 (if x34.1 = 6 then x36 else x24), .int .u32 (if x34.1 = 7 then x36 else x25), .int .u32 (if x34.1 = 8 then x36 else x26), .int .u32 (if x34.1 = 9 then x36 else x27), .int .u32 (if x34.1 = 10 then x36 else x28), .int .u32 (if x34.1 = 11 then x36 else x29), .int .u32 (if x34.1 = 12 then x36 else x30), .int .u32 (if x34.1 = 13 then x36 else x31), .int .u32 (if x34.1 = 14 then x36 else x32), .int .u32 (if x34.1 = 15 then x36 else x33)]), (b1, (Hu))] [] w := W
   refine DP (An ?_)
   refine vn tk 4 F W fun a w F W => ?_
   refine Ac ?_
   have W := W.frontM (i := 2) Aa Aa
   have W := W.frontM (i := 2) Aa Aa
   have W := W.sub (M' := [(b2, [.int .u32 (if x34.1 = 0 then x36 else x18), .int .u32 (if x34.1 = 1 then x36 else x19), .int .u32 (if x34.1 = 2 then x36 else x20), .int .u32 (if x34.1 = 3 then x36 else x21), .int .u32 (if x34.1 = 4 then x36 else x22), .int .u32 (if x34.1 = 5 then x36 else x23), .int .u32 (if x34.1 = 6 then x36 else x24), .int .u32 (if x34.1 = 7 then x36 else x25), .int .u32 (if x34.1 = 8 then x36 else x26), .int .u32 (if x34.1 = 9 then x36 else x27), .int .u32 (if x34.1 = 10 then x36 else x28), .int .u32 (if x34.1 = 11 then x36 else x29), .int .u32 (if x34.1 = 12 then x36 else x30), .int .u32 (if x34.1 = 13 then x36 else x31), .int .u32 (if x34.1 = 14 then x36 else x32), .int .u32 (if x34.1 = 15 then x36 else x33)]), (b1, (Hu))]) (Z' := []) (List.Sublist.cons_cons _ (List.Sublist.cons_cons _ (List.nil_sublist _))) (List.Sublist.refl _)
   exact ⟨_, H, F.ra Aa, W⟩
  refine Ay ?_
  iterate 2 refine AO ?_
  refine Az (Ac ?_)
  have W := W.frontM (i := 1) Aa Aa
  have W := W.frontM (i := 1) Aa Aa
  have H := L2 _ H
  exact ⟨_, _, _, _, _, _, _, _, _, _, _, _, _, _, _, _, H, F.ra Aa, W⟩
 rintro a w ⟨x1, x2, x3, x4, x5, x6, x7, x8, x9, x10, x11, x12, x13, x14, x15, x16, hj, F, W⟩
 have hj := Av hj
 subst hj
 have H := K1
 clear G1 K1
 refine D3 tk 3 [0] F W (ai fun a w F W => ?_)
 refine Fv 1 F W Aa Aa Aa RP Aa Aa Aa fun w W => ?_
 refine Bz tk 2 F W fun a w F W => ?_
 refine Ao ?_
 have H := Av H
 subst H
 refine AE (.inl Aa) F W Aa (LP 1 F Aa Aa RP Aa) ?_
 exact ⟨rfl, W.done⟩
end Go.Proofs.Ythhoflfhegfmcaa
