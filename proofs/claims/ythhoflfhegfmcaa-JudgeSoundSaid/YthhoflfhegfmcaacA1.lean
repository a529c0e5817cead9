/- The functions of layer 25, GX. Conditions: none. -/
import Derived.Test.YthhoflfhegfmcaacA0
namespace Go.Proofs.Ythhoflfhegfmcaa
open Go Go.RowKit
set_option linter.unusedVariables false
set_option linter.unusedSimpArgs false
set_option maxRecDepth 20000
set_option maxHeartbeats 1600000
theorem SP : type_of% Try.underlying65 := Try.underlying65
theorem IY : type_of% Try.underlying78 := Try.underlying78
theorem V1 : Has Try.prog 61 := Ct Try.func61
abbrev CR (a0 : Int × Int × Int × Int) : List Value := [.int .i64 a0.1, .int .i64 a0.2.1, .int .i64 a0.2.2.1, .int .i64 a0.2.2.2]
noncomputable def Cu (p0 : Int × Int × List Int) (p1 : Int × Int × Int × Int) : Option Bool := (if p1.2.2.2 = p0.1 then (BB p0.2.2 p1.1).bind fun x2 => some x2 else some false).bind fun x1 => some x1
theorem HA (Y : Nat → Prop) (w0 : World) (v1 : Value) (p0 : Int × Int × List Int) (p1 : Int × Int × Int × Int) (r : Bool) (H : Cu p0 p1 = some r) (h_v1 : Sl w0 (NX []) (Rp.int .i64) v1 p0.2.2) :
    Calls Try.prog 39 #[.agg #[.int .i64 p0.1, .int .i64 p0.2.1, v1], .agg #[.int .i64 p1.1, .int .i64 p1.2.1, .int .i64 p1.2.2.1, .int .i64 p1.2.2.2]] w0 fun e w' => e = .returned (.bool r) ∧ Below w0.heap.size w0 w' := by
 refine enter Try.func39 Aa Try.ntmps39 Aa fun a F => ?_
 have W := Stw.start Y w0
 unfold Cu at H
 refine vc tk 2 F W fun a w F W => ?_
 refine Cq (cs := [.int .i64 p0.1, .int .i64 p0.2.1, v1]) F W Aa Aa Aa fun b1 a w F W => ?_
 refine Cq (cs := (CR p1)) F W Aa Aa Aa fun b2 a w F W => ?_
 refine vl tk 2 F W fun a w F W => ?_
 refine Ac ?_
 obtain ⟨o1, G1, K1⟩ := Ad H
 refine Av (fun a w => ∃ x1 : Bool, some (x1) = some o1 ∧ Fr 17 [] [(4, .bool x1)] a ∧ Stw ⟨Y, [], w0⟩ [(b2, [.int .i64 p1.1, .int .i64 p1.2.1, .int .i64 p1.2.2.1, .int .i64 p1.2.2.2]), (b1, [.int .i64 p0.1, .int .i64 p0.2.1, v1])] [] w) ?_ ?_
 ·
  have H := G1
  clear G1 K1
  refine Ha tk 7 [0, 1] F W (ai (ai fun a w F W => ?_))
  rcases Bool.eq_false_or_eq_true (decide (p1.2.2.2 = p0.1)) with hb | hb
  ·
   have H := Di (E6 hb) H
   rw [hb] at F
   clear hb
   refine Jl tk 4 [1, 0] F W (ai (ai fun a w F W => ?_))
   refine Jg (Ae F Aa Aa Aa Aa) ?_
   obtain ⟨x2, h1, H⟩ := Ad H
   refine ls F W Aa (AW (v := Value.bool x2) F V1 Aa (fun w W => GF any w (v1) p0.2.2 p1.1 _ h1 (CW (Ab h_v1) W))) fun a w F W => ?_
   refine vl tk 3 F W fun a w F W => ?_
   refine Ac ?_
   have W := W.frontM (i := 1) Aa Aa
   have W := W.frontM (i := 1) Aa Aa
   exact ⟨_, H, F.ra Aa, W⟩
  have H := Dg (Fh hb) H
  rw [hb] at F
  clear hb
  refine vl tk 8 F W fun a w F W => ?_
  refine Ac ?_
  have W := W.frontM (i := 1) Aa Aa
  have W := W.frontM (i := 1) Aa Aa
  exact ⟨_, H, F.ra Aa, W⟩
 rintro a w ⟨x1, hj, F, W⟩
 have hj := AA hj
 subst hj
 have H := K1
 clear G1 K1
 refine Ao ?_
 have H := AA H
 subst H
 refine AG (.inl Aa) F W Aa (Al F Aa) ?_
 exact ⟨rfl, W.done⟩
theorem Vz : Has Try.prog 39 := Ct Try.func39
noncomputable def BN (p0 : Int × Int × List Int) (p1 : Int × Int × Int × Int) : Option Bool := (Cu p0 p1).bind fun x1 => some x1
theorem F7 (Y : Nat → Prop) (w0 : World) (v1 : Value) (q_p1 : Nat) (p0 : Int × Int × List Int) (p1 : Int × Int × Int × Int) (r : Bool) (H : BN p0 p1 = some r) (h_v1 : Sl w0 (NX []) (Rp.int .i64) v1 p0.2.2) (a_q_p1 : At ⟨Y, [], w0⟩ q_p1 0 [.int .i64 p1.1, .int .i64 p1.2.1, .int .i64 p1.2.2.1, .int .i64 p1.2.2.2]) :
    Calls Try.prog 58 #[.agg #[.int .i64 p0.1, .int .i64 p0.2.1, v1], .pointer (some ⟨q_p1, 0, none⟩)] w0 fun e w' => e = .returned (.bool r) ∧ Below w0.heap.size w0 w' := by
 refine enter Try.func58 Aa Try.ntmps58 Aa fun a F => ?_
 have W := Stw.start Y w0
 unfold BN at H
 refine vc tk 2 F W fun a w F W => ?_
 refine Cq (cs := [.int .i64 p0.1, .int .i64 p0.2.1, v1]) F W Aa Aa Aa fun b1 a w F W => ?_
 refine JK tk 6 [0] F W (ai fun a w F W => ?_)
 refine ls F W Aa (Pw (y := Value.agg #[.int .i64 p1.1, .int .i64 p1.2.1, .int .i64 p1.2.2.1, .int .i64 p1.2.2.2]) (j := 0) F Aa (Nat.zero_add _).symm a_q_p1 Sc Aa).q fun a w F W => ?_
 obtain ⟨x1, h1, H⟩ := Ad H
 refine ls F W Aa (AW (v := Value.bool x1) F Vz Aa (fun w W => HA any w (v1) p0 p1 _ h1 (CW (Ab h_v1) W))) fun a w F W => ?_
 refine Cc tk 3 F W fun a w F W => ?_
 refine Ao ?_
 have H := AA H
 subst H
 refine AG (.inl Aa) F W Aa (Al F Aa) ?_
 exact ⟨rfl, W.done⟩
theorem VI : Has Try.prog 58 := Ct Try.func58
noncomputable def Az (p0 : List (Int × Int × List Int)) (p1c0 : Int × Int × Int × Int) : Int → Option (Int ⊕ (Unit ⊕ Int))
  | x1 => (if x1 < (p0.length : Int) then (ix p0 x1).bind fun x2 => (BN x2 p1c0).bind fun x3 => (if x3 = true then some (.inr (.inr x1)) else some (.inl (A7 (x1 + 1)))) else some (.inr (.inl ())))
noncomputable def AQ (p0 : List (Int × Int × List Int)) (p1c0 : Int × Int × Int × Int) : Option Int := EZ (An (Az p0 p1c0) 0) fun _ => some (-1)
theorem D4 (Y : Nat → Prop) (w0 : World) (v1 : Value) (q_p1c0 : Nat) (p0 : List (Int × Int × List Int)) (p1c0 : Int × Int × Int × Int) (r : Int) (H : AQ p0 p1c0 = some r) (h_v1 : Sl w0 (NX []) Jw v1 p0) (a_q_p1c0 : At ⟨Y, [], w0⟩ q_p1c0 0 [.int .i64 p1c0.1, .int .i64 p1c0.2.1, .int .i64 p1c0.2.2.1, .int .i64 p1c0.2.2.2]) :
    Calls Try.prog 76 #[v1, .func (.func 58) #[] #[.pointer (some ⟨q_p1c0, 0, none⟩)]] w0 fun e w' => e = .returned (.int .i64 r) ∧ Below w0.heap.size w0 w' := by
 refine enter Try.func76 Aa Try.ntmps76 Aa fun a F => ?_
 have W := Stw.start Y w0
 obtain ⟨v2, h1, h_v1⟩ := h_v1.ex Fj
 unfold AQ at H
 refine vc tk 5 F W fun a w F W => ?_
 obtain ⟨o1, G1, K1, L1⟩ := L9 H
 refine Av (fun a w => some (Sum.inl ()) = some o1 ∧ Fr 19 [] [(4, .int .i64 0)] a ∧ Stw ⟨Y, [], w0⟩ [] [] w) ?_ ?_
 ·
  have H := G1
  clear G1 K1
  refine vc tk 3 F W fun a w F W => ?_
  refine ls F W Aa (A0 (r := Jw) (l := p0) RG Aa F Aa (Ak Fj h1 (Ab h_v1))).q fun a w F W => ?_
  refine Cc tk 4 F W fun a w F W => ?_
  refine AP H (fun s a w => Fr 19 [] [(0, v1), (1, .func (.func 58) #[] #[.pointer (some ⟨q_p1c0, 0, none⟩)]), (4, .int .i64 0), (7, .int .i64 (p0.length : Int)), (8, .int .i64 s)] a ∧ Stw ⟨Y, [], w0⟩ [] [] w) ⟨F.ra Aa, W⟩ fun s o a w H L2 hR => ?_
  obtain ⟨x1, rfl⟩ : ∃ x, x = s := ⟨s, rfl⟩
  obtain ⟨F, W⟩ := hR
  have F : Fr 19 [] [(0, v1), (1, .func (.func 58) #[] #[.pointer (some ⟨q_p1c0, 0, none⟩)]), (4, .int .i64 0), (7, .int .i64 (p0.length : Int)), (8, .int .i64 x1)] a := F
  have W : Stw ⟨Y, [], w0⟩ [] [] w := W
  rw [Az] at H
  refine vc tk 6 F W fun a w F W => ?_
  refine A3 F Aa H (fun F H => ?_) fun F H => ?_
  ·
   refine Ie tk 15 F W fun a w F W => ?_
   obtain ⟨x2, h2, H⟩ := Ad H
   obtain ⟨v3, h3, h4⟩ := CE h1 h2
   have h5 : MF v3 = [.int .i64 x2.1, .int .i64 x2.2.1, (v3.2.2.1)] := congrArg (fun q : Int × Int × List Int => ([.int .i64 q.1, .int .i64 q.2.1, (v3.2.2.1)] : List Value)) h4
   refine ls F W Aa (Aw (r := PN) TE F Aa Aa (Ab h_v1) h3).q fun a w F W => ?_
   refine ls F W Aa (Ai (y := Value.agg #[.int .i64 x2.1, .int .i64 x2.2.1, (v3.2.2.1)]) (j := 0) (i := x1) (enc := MF) F Aa Aa (Ab h_v1) h3 R3 UN (by rw [h5]; rfl)).q fun a w F W => ?_
   obtain ⟨x3, h6, H⟩ := Ad H
   refine ls F W Aa (MI (ws := [.agg #[.int .i64 x2.1, .int .i64 x2.2.1, (v3.2.2.1)], .pointer (some ⟨q_p1c0, 0, none⟩)]) (v := Value.bool x3) F VI Aa (fun w W => F7 any w ((v3.2.2.1)) q_p1c0 x2 p1c0 _ h6 (CW (BE (Ab h_v1) h3 (Cd.snd (Cd.snd Cd.here)) (congrArg (fun q : Int × Int × List Int => q.2.2) h4)) W) (At.re a_q_p1c0 W))) fun a w F W => ?_
   refine Cc tk 2 F W fun a w F W => ?_
   refine D8 F Aa H (fun F H => ?_) fun F H => ?_
   ·
    refine vc tk 6 F W fun a w F W => ?_
    refine Ao (AR ?_)
    iterate 2 refine AN ?_
    refine AR (AN ?_)
    have H := L2 _ H
    have H := L1 _ H
    have H := AA H
    subst H
    refine AG (.inl Aa) F W Aa (Al F Aa) ?_
    exact ⟨rfl, W.done⟩
   refine AD (Aq ?_)
   refine vn tk 4 F W fun a w F W => ?_
   refine Ac ?_
   exact ⟨_, H, F.ra Aa, W⟩
  refine AJ ?_
  iterate 2 refine A6 ?_
  refine AM (Ac ?_)
  have H := L2 _ H
  exact ⟨H, F.ra Aa, W⟩
 rintro a w ⟨hj, F, W⟩
 have H := K1 _ hj
 clear hj G1 K1 L1
 refine vc tk 5 F W fun a w F W => ?_
 refine Ao ?_
 have H := AA H
 subst H
 refine AG (.inl Aa) F W Aa (Al F Aa) ?_
 exact ⟨rfl, W.done⟩
theorem Wg : Has Try.prog 76 := Ct Try.func76
noncomputable def AK (p0 : List (Int × Int × List Int)) (p1c0 : Int × Int × Int × Int) : Option Bool := (AQ p0 p1c0).bind fun x1 => some (decide (0 ≤ x1))
theorem DL (Y : Nat → Prop) (w0 : World) (v1 : Value) (q_p1c0 : Nat) (p0 : List (Int × Int × List Int)) (p1c0 : Int × Int × Int × Int) (r : Bool) (H : AK p0 p1c0 = some r) (h_v1 : Sl w0 (NX []) Jw v1 p0) (a_q_p1c0 : At ⟨Y, [], w0⟩ q_p1c0 0 [.int .i64 p1c0.1, .int .i64 p1c0.2.1, .int .i64 p1c0.2.2.1, .int .i64 p1c0.2.2.2]) :
    Calls Try.prog 57 #[v1, .func (.func 58) #[] #[.pointer (some ⟨q_p1c0, 0, none⟩)]] w0 fun e w' => e = .returned (.bool r) ∧ Below w0.heap.size w0 w' := by
 refine enter Try.func57 Aa Try.ntmps57 Aa fun a F => ?_
 have W := Stw.start Y w0
 obtain ⟨v2, h1, h_v1⟩ := h_v1.ex Fj
 unfold AK at H
 refine vc tk 9 F W fun a w F W => ?_
 obtain ⟨x1, h2, H⟩ := Ad H
 refine ls F W Aa (AW (v := Value.int .i64 x1) F Wg Aa (fun w W => D4 any w (v1) q_p1c0 p0 p1c0 _ h2 (CW (Ak Fj h1 (Ab h_v1)) W) (At.re a_q_p1c0 W))) fun a w F W => ?_
 refine Cc tk 4 F W fun a w F W => ?_
 refine Ao ?_
 have H := AA H
 subst H
 refine AG (.inl Aa) F W Aa (Al F Aa) ?_
 exact ⟨rfl, W.done⟩
theorem WS : Has Try.prog 57 := Ct Try.func57
abbrev Cs (a0 : (Int × (List (Int × Int × Int × Int × Int × Int)) × (List (Int × Int))) × List (List Int) × List (List Int) × ((List (Int × Int × Int × Int)) × (List (Int × Int × List Int)) × Int × Int × Int × Int)) (a1 : Value) (a2 : Value) (a3 : Value) (a4 : Value) (a5 : Value) (a6 : Value) : List Value := [.int .i64 a0.1.1, a1, a2, a3, a4, a5, a6, .int .i64 a0.2.2.2.2.2.1, .int .i64 a0.2.2.2.2.2.2.1, .int .i64 a0.2.2.2.2.2.2.2.1, .int .i64 a0.2.2.2.2.2.2.2.2]
noncomputable def Bg (p0 : (Int × (List (Int × Int × Int × Int × Int × Int)) × (List (Int × Int))) × List (List Int) × List (List Int) × ((List (Int × Int × Int × Int)) × (List (Int × Int × List Int)) × Int × Int × Int × Int)) (p1 : Int × Int × Int × Int) : Option Bool := (AK p0.2.2.2.2.1 p1).bind fun x1 => some x1
theorem EB (Y : Nat → Prop) (w0 : World) (v1 : Value) (v2 : Value) (v3 : Value) (v4 : Value) (v5 : Value) (v6 : Value) (p0 : (Int × (List (Int × Int × Int × Int × Int × Int)) × (List (Int × Int))) × List (List Int) × List (List Int) × ((List (Int × Int × Int × Int)) × (List (Int × Int × List Int)) × Int × Int × Int × Int)) (p1 : Int × Int × Int × Int) (r : Bool) (H : Bg p0 p1 = some r) (h_v1 : Sl w0 (NX []) Gn v1 p0.1.2.1) (h_v2 : Sl w0 (NX []) GE v2 p0.1.2.2) (h_v3 : Sl w0 (NX []) (Rp.slice (Rp.int .i64)) v3 p0.2.1) (h_v4 : Sl w0 (NX []) (Rp.slice (Rp.int .i64)) v4 p0.2.2.1) (h_v5 : Sl w0 (NX []) Hg v5 p0.2.2.2.1) (h_v6 : Sl w0 (NX []) Jw v6 p0.2.2.2.2.1) :
    Calls Try.prog 34 #[.agg #[.int .i64 p0.1.1, v1, v2, v3, v4, v5, v6, .int .i64 p0.2.2.2.2.2.1, .int .i64 p0.2.2.2.2.2.2.1, .int .i64 p0.2.2.2.2.2.2.2.1, .int .i64 p0.2.2.2.2.2.2.2.2], .agg #[.int .i64 p1.1, .int .i64 p1.2.1, .int .i64 p1.2.2.1, .int .i64 p1.2.2.2]] w0 fun e w' => e = .returned (.bool r) ∧ Below w0.heap.size w0 w' := by
 refine enter Try.func34 Aa Try.ntmps34 Aa fun a F => ?_
 have W := Stw.start Y w0
 obtain ⟨v7, h1, h_v3⟩ := h_v3.ex Bn
 obtain ⟨v8, h2, h_v4⟩ := h_v4.ex Bn
 obtain ⟨v9, h3, h_v6⟩ := h_v6.ex Fj
 unfold Bg at H
 refine vc tk 2 F W fun a w F W => ?_
 refine Cq (cs := (Cs p0 v1 v2 v3 v4 v5 v6)) F W Aa Aa Aa fun b1 a w F W => ?_
 refine Cq (cs := (CR p1)) F W Aa Aa Aa fun b2 a w F W => ?_
 refine JK tk 8 [1] F W (ai fun a w F W => ?_)
 refine ls F W Aa (Oc (us := []) (vs := [.pointer (some ⟨b2, 0, none⟩)]) F Aa Aa).q fun a w F W => ?_
 obtain ⟨x1, h4, H⟩ := Ad H
 refine ls F W Aa (AW (v := Value.bool x1) F WS Aa (fun w W => DL any w (v6) b2 p0.2.2.2.2.1 p1 _ h4 (CW (Ak Fj h3 (Ab h_v6)) W) (Vg W 0 Aa))) fun a w F W => ?_
 refine Cc tk 3 F W fun a w F W => ?_
 refine Ao ?_
 have H := AA H
 subst H
 refine AG (.inl Aa) F W Aa (Al F Aa) ?_
 exact ⟨rfl, W.done⟩
theorem Vy : Has Try.prog 34 := Ct Try.func34
abbrev BP (a0 : Nat) (a1 : (Int × (List (Int × Int × Int × Int × Int × Int)) × (List (Int × Int))) × List (List Int) × List (List Int) × ((List (Int × Int × Int × Int)) × (List (Int × Int × List Int)) × Int × Int × Int × Int)) (a2 : Value) (a3 : Value) (a4 : Value) (a5 : Value) (a6 : Value) (a7 : Value) : List (Nat × List Value) := [(a0, [.int .i64 a1.1.1, a2, a3, a4, a5, a6, a7, .int .i64 a1.2.2.2.2.2.1, .int .i64 a1.2.2.2.2.2.2.1, .int .i64 a1.2.2.2.2.2.2.2.1, .int .i64 a1.2.2.2.2.2.2.2.2])]
abbrev P5  : List Value := [.int .i64 0, .int .i64 0, .int .i64 0, .int .i64 0]
noncomputable def BG (p0 : (Int × (List (Int × Int × Int × Int × Int × Int)) × (List (Int × Int))) × List (List Int) × List (List Int) × ((List (Int × Int × Int × Int)) × (List (Int × Int × List Int)) × Int × Int × Int × Int)) (p1 : Int) (p2 : Int) (p3 : Int) : (Int × Int) → Option ((Int × Int) ⊕ Int)
  | (x2, x3) => (if x3 < (p0.2.2.2.1.length : Int) then ((ix p0.2.2.2.1 x3).bind fun x5 => (if x5.1 = p1 then (if x5.2.1 = p2 then (if x5.2.2.1 = p3 then (Bg p0 x5).bind fun x7 => some x7 else some false) else some false) else some false).bind fun x6 => (if x6 = true then some (A7 (x2 + 1)) else some x2)).bind fun x4 => some (.inl (x4, A7 (x3 + 1))) else some (.inr x2))
noncomputable def A5 (p0 : (Int × (List (Int × Int × Int × Int × Int × Int)) × (List (Int × Int))) × List (List Int) × List (List Int) × ((List (Int × Int × Int × Int)) × (List (Int × Int × List Int)) × Int × Int × Int × Int)) (p1 : Int) (p2 : Int) (p3 : Int) : Option Int := (An (BG p0 p1 p2 p3) (0, 0)).bind fun x1 => some x1
theorem HO (Y : Nat → Prop) (w0 : World) (v1 : Value) (v2 : Value) (v3 : Value) (v4 : Value) (v5 : Value) (v6 : Value) (p0 : (Int × (List (Int × Int × Int × Int × Int × Int)) × (List (Int × Int))) × List (List Int) × List (List Int) × ((List (Int × Int × Int × Int)) × (List (Int × Int × List Int)) × Int × Int × Int × Int)) (p1 : Int) (p2 : Int) (p3 : Int) (r : Int) (H : A5 p0 p1 p2 p3 = some r) (h_v1 : Sl w0 (NX []) Gn v1 p0.1.2.1) (h_v2 : Sl w0 (NX []) GE v2 p0.1.2.2) (h_v3 : Sl w0 (NX []) (Rp.slice (Rp.int .i64)) v3 p0.2.1) (h_v4 : Sl w0 (NX []) (Rp.slice (Rp.int .i64)) v4 p0.2.2.1) (h_v5 : Sl w0 (NX []) Hg v5 p0.2.2.2.1) (h_v6 : Sl w0 (NX []) Jw v6 p0.2.2.2.2.1) :
    Calls Try.prog 32 #[.agg #[.int .i64 p0.1.1, v1, v2, v3, v4, v5, v6, .int .i64 p0.2.2.2.2.2.1, .int .i64 p0.2.2.2.2.2.2.1, .int .i64 p0.2.2.2.2.2.2.2.1, .int .i64 p0.2.2.2.2.2.2.2.2], .int .i64 p1, .int .i64 p2, .int .i64 p3] w0 fun e w' => e = .returned (.int .i64 r) ∧ Below w0.heap.size w0 w' := by
 refine enter Try.func32 Aa Try.ntmps32 Aa fun a F => ?_
 have W := Stw.start Y w0
 obtain ⟨v7, h1, h_v3⟩ := h_v3.ex Bn
 obtain ⟨v8, h2, h_v4⟩ := h_v4.ex Bn
 obtain ⟨v9, h3, h_v6⟩ := h_v6.ex Fj
 unfold A5 at H
 refine vc tk 2 F W fun a w F W => ?_
 refine Cq (cs := (Cs p0 v1 v2 v3 v4 v5 v6)) F W Aa Aa Aa fun b1 a w F W => ?_
 refine Cc tk 8 F W fun a w F W => ?_
 obtain ⟨o1, G1, K1⟩ := Ad H
 refine Av (fun a w => ∃ x1 : Int, some (x1) = some o1 ∧ Fr 45 [] [(8, .int .i64 0), (9, .int .i64 x1)] a ∧ Stw ⟨Y, [], w0⟩ (BP b1 p0 v1 v2 v3 v4 v5 v6) [] w) ?_ ?_
 ·
  have H := G1
  clear G1 K1
  refine Ha tk 5 [0] F W (ai fun a w F W => ?_)
  refine ls F W Aa (A0 (r := Hg) (l := p0.2.2.2.1) Sj Aa F Aa (Ab h_v5)).q fun a w F W => ?_
  refine Cc tk 4 F W fun a w F W => ?_
  refine AP H (fun s a w => Fr 45 [] [(1, .int .i64 p1), (2, .int .i64 p2), (3, .int .i64 p3), (4, .pointer (some ⟨b1, 0, none⟩)), (8, .int .i64 0), (9, .int .i64 s.1), (14, v5), (15, .int .i64 (p0.2.2.2.1.length : Int)), (16, .int .i64 s.2)] a ∧ Stw ⟨Y, [], w0⟩ (BP b1 p0 v1 v2 v3 v4 v5 v6) [] w) ⟨F.ra Aa, W⟩ fun s o a w H L2 hR => ?_
  obtain ⟨x2, x3⟩ := s
  obtain ⟨F, W⟩ := hR
  have F : Fr 45 [] [(1, .int .i64 p1), (2, .int .i64 p2), (3, .int .i64 p3), (4, .pointer (some ⟨b1, 0, none⟩)), (8, .int .i64 0), (9, .int .i64 x2), (14, v5), (15, .int .i64 (p0.2.2.2.1.length : Int)), (16, .int .i64 x3)] a := F
  have W : Stw ⟨Y, [], w0⟩ (BP b1 p0 v1 v2 v3 v4 v5 v6) [] w := W
  rw [BG] at H
  refine vc tk 6 F W fun a w F W => ?_
  refine A3 F Aa H (fun F H => ?_) fun F H => ?_
  ·
   refine AD (Ac ?_)
   obtain ⟨o3, G3, K3⟩ := Ad H
   refine Av (fun a w => ∃ x4 : Int, some (x4) = some o3 ∧ Fr 45 [] [(1, .int .i64 p1), (2, .int .i64 p2), (3, .int .i64 p3), (4, .pointer (some ⟨b1, 0, none⟩)), (8, .int .i64 0), (9, .int .i64 x4), (14, v5), (15, .int .i64 (p0.2.2.2.1.length : Int)), (16, .int .i64 x3)] a ∧ Stw ⟨Y, [], w0⟩ (BP b1 p0 v1 v2 v3 v4 v5 v6) [] w) ?_ ?_
   ·
    have H := G3
    clear G3 K3
    refine vc tk 3 F W fun a w F W => ?_
    obtain ⟨x5, h4, H⟩ := Ad H
    refine ls F W Aa (Aw (r := Hg) TR F Aa Aa (Ab h_v5) h4).q fun a w F W => ?_
    refine ls F W Aa (Ai (y := Value.agg #[.int .i64 x5.1, .int .i64 x5.2.1, .int .i64 x5.2.2.1, .int .i64 x5.2.2.2]) (j := 0) (i := x3) F Aa Aa (Ab h_v5) h4 UE.to Sc Aa).q fun a w F W => ?_
    refine B9 (cs := (P5)) F W Aa UL Aa fun b2 a w F W => ?_
    refine F6 0 F W Aa Aa Aa Sc Aa Aa Aa fun w W => ?_
    refine EF (Ac ?_)
    obtain ⟨o4, G4, K4⟩ := Ad H
    refine Av (fun a w => ∃ x6 : Bool, some (x6) = some o4 ∧ Fr 45 [] [(1, .int .i64 p1), (2, .int .i64 p2), (3, .int .i64 p3), (4, .pointer (some ⟨b1, 0, none⟩)), (8, .int .i64 0), (9, .int .i64 x2), (14, v5), (15, .int .i64 (p0.2.2.2.1.length : Int)), (16, .int .i64 x3), (40, .bool x6)] a ∧ Stw ⟨Y, [], w0⟩ [(b2, (CR x5)), (b1, (Cs p0 v1 v2 v3 v4 v5 v6))] [] w) ?_ ?_
    ·
     have H := G4
     clear G4 K4
     refine Ha tk 6 [0] F W (ai fun a w F W => ?_)
     rcases Bool.eq_false_or_eq_true (decide (x5.1 = p1)) with hb | hb
     ·
      have H := Di (E6 hb) H
      rw [hb] at F
      clear hb
      refine Jl tk 6 [0] F W (ai fun a w F W => ?_)
      rcases Bool.eq_false_or_eq_true (decide (x5.2.1 = p2)) with hb | hb
      ·
       have H := Di (E6 hb) H
       rw [hb] at F
       clear hb
       refine Jl tk 6 [0] F W (ai fun a w F W => ?_)
       rcases Bool.eq_false_or_eq_true (decide (x5.2.2.1 = p3)) with hb | hb
       ·
        have H := Di (E6 hb) H
        rw [hb] at F
        clear hb
        refine Jl tk 2 [1, 0] F W (ai (ai fun a w F W => ?_))
        refine Jg (Ae F Aa Aa Aa Aa) ?_
        obtain ⟨x7, h5, H⟩ := Ad H
        refine ls F W Aa (AW (v := Value.bool x7) F Vy Aa (fun w W => EB any w (v1) (v2) (v3) (v4) (v5) (v6) p0 x5 _ h5 (CW (Ab h_v1) W) (CW (Ab h_v2) W) (CW (Ak Bn h1 (Ab h_v3)) W) (CW (Ak Bn h2 (Ab h_v4)) W) (CW (Ab h_v5) W) (CW (Ak Fj h3 (Ab h_v6)) W))) fun a w F W => ?_
        refine vl tk 2 F W fun a w F W => ?_
        refine Ac ?_
        have W := W.frontM (i := 1) Aa Aa
        have W := W.frontM (i := 1) Aa Aa
        exact ⟨_, H, F.ra Aa, W⟩
       have H := Dg (Fh hb) H
       rw [hb] at F
       clear hb
       refine vl tk 5 F W fun a w F W => ?_
       refine Ac ?_
       have W := W.frontM (i := 1) Aa Aa
       have W := W.frontM (i := 1) Aa Aa
       exact ⟨_, H, F.ra Aa, W⟩
      have H := Dg (Fh hb) H
      rw [hb] at F
      clear hb
      refine vl tk 11 F W fun a w F W => ?_
      refine Ac ?_
      have W := W.frontM (i := 1) Aa Aa
      have W := W.frontM (i := 1) Aa Aa
      exact ⟨_, H, F.ra Aa, W⟩
     have H := Dg (Fh hb) H
     rw [hb] at F
     clear hb
     refine vl tk 17 F W fun a w F W => ?_
     refine Ac ?_
     have W := W.frontM (i := 1) Aa Aa
     have W := W.frontM (i := 1) Aa Aa
     exact ⟨_, H, F.ra Aa, W⟩
    rintro a w ⟨x6, hj, F, W⟩
    have hj := AA hj
    subst hj
    have H := K4
    clear G4 K4
    refine D8 F Aa H (fun F H => ?_) fun F H => ?_
    ·
     refine vc tk 5 F W fun a w F W => ?_
     refine Aq (Ac ?_)
     have W := W.frontM (i := 1) Aa Aa
     have W := W.sub (M' := (BP b1 p0 v1 v2 v3 v4 v5 v6)) (Z' := []) (List.Sublist.cons_cons _ (List.nil_sublist _)) (List.Sublist.refl _)
     exact ⟨_, H, F.ra Aa, W⟩
    refine AD (Aq (Ac ?_))
    have W := W.frontM (i := 1) Aa Aa
    have W := W.sub (M' := (BP b1 p0 v1 v2 v3 v4 v5 v6)) (Z' := []) (List.Sublist.cons_cons _ (List.nil_sublist _)) (List.Sublist.refl _)
    exact ⟨_, H, F.ra Aa, W⟩
   rintro a w ⟨x4, hj, F, W⟩
   have hj := AA hj
   subst hj
   have H := K3
   clear G3 K3
   refine vc tk 4 F W fun a w F W => ?_
   refine Ac ?_
   exact ⟨_, H, F.ra Aa, W⟩
  refine AJ ?_
  iterate 2 refine A6 ?_
  refine AM (Ac ?_)
  have H := L2 _ H
  exact ⟨_, H, F.ra Aa, W⟩
 rintro a w ⟨x1, hj, F, W⟩
 have hj := AA hj
 subst hj
 have H := K1
 clear G1 K1
 refine vc tk 6 F W fun a w F W => ?_
 refine Ao ?_
 have H := AA H
 subst H
 refine AG (.inl Aa) F W Aa (Al F Aa) ?_
 exact ⟨rfl, W.done⟩
theorem V0 : Has Try.prog 32 := Ct Try.func32
noncomputable def Bh (p0 : (Int × (List (Int × Int × Int × Int × Int × Int)) × (List (Int × Int))) × List (List Int) × List (List Int) × ((List (Int × Int × Int × Int)) × (List (Int × Int × List Int)) × Int × Int × Int × Int)) (x3 : Int) (x5 : List Int) : ((List (Int × Int × Int)) × Int) → Option (((List (Int × Int × Int)) × Int) ⊕ (List (Int × Int × Int)))
  | (x6, x7) => (if x7 < (x5.length : Int) then ((ix x5 x7).bind fun x9 => ((ix p0.2.1 x3).bind fun x11 => (ix x11 x7).bind fun x12 => (if x9 ≠ x12 then (A5 p0 x3 x7 x9).bind fun x13 => some (decide (x13 ≠ 1)) else some false)).bind fun x10 => (if x10 = true then (FD x6 ([(2, x3, x7)] : List (Int × Int × Int))).bind fun x14 => some x14 else some x6)).bind fun x8 => some (.inl (x8, A7 (x7 + 1))) else some (.inr x6))
noncomputable def BA (p0 : (Int × (List (Int × Int × Int × Int × Int × Int)) × (List (Int × Int))) × List (List Int) × List (List Int) × ((List (Int × Int × Int × Int)) × (List (Int × Int × List Int)) × Int × Int × Int × Int)) : ((List (Int × Int × Int)) × Int) → Option (((List (Int × Int × Int)) × Int) ⊕ (List (Int × Int × Int)))
  | (x2, x3) => (if x3 < (p0.2.2.1.length : Int) then ((ix p0.2.2.1 x3).bind fun x5 => An (Bh p0 x3 x5) (x2, 0)).bind fun x4 => some (.inl (x4, A7 (x3 + 1))) else some (.inr x2))
noncomputable def B7 (p0 : (Int × (List (Int × Int × Int × Int × Int × Int)) × (List (Int × Int))) × List (List Int) × List (List Int) × ((List (Int × Int × Int × Int)) × (List (Int × Int × List Int)) × Int × Int × Int × Int)) : Option (List (Int × Int × Int)) := (An (BA p0) ([], 0)).bind fun x1 => some x1
theorem HG (Y : Nat → Prop) (w0 : World) (v1 : Value) (v2 : Value) (v3 : Value) (v4 : Value) (v5 : Value) (v6 : Value) (p0 : (Int × (List (Int × Int × Int × Int × Int × Int)) × (List (Int × Int))) × List (List Int) × List (List Int) × ((List (Int × Int × Int × Int)) × (List (Int × Int × List Int)) × Int × Int × Int × Int)) (r : (List (Int × Int × Int))) (H : B7 p0 = some r) (h_v1 : Sl w0 (NX []) Gn v1 p0.1.2.1) (h_v2 : Sl w0 (NX []) GE v2 p0.1.2.2) (h_v3 : Sl w0 (NX []) (Rp.slice (Rp.int .i64)) v3 p0.2.1) (h_v4 : Sl w0 (NX []) (Rp.slice (Rp.int .i64)) v4 p0.2.2.1) (h_v5 : Sl w0 (NX []) Hg v5 p0.2.2.2.1) (h_v6 : Sl w0 (NX []) Jw v6 p0.2.2.2.2.1) :
    Calls Try.prog 18 #[.agg #[.int .i64 p0.1.1, v1, v2, v3, v4, v5, v6, .int .i64 p0.2.2.2.2.2.1, .int .i64 p0.2.2.2.2.2.2.1, .int .i64 p0.2.2.2.2.2.2.2.1, .int .i64 p0.2.2.2.2.2.2.2.2]] w0 fun e w' => ∃ x : Value, e = .returned (x) ∧ Stw ⟨Y, [], w0⟩ [] [row (x) 58 Bw r] w' := by
 refine enter Try.func18 Aa Try.ntmps18 Aa fun a F => ?_
 have W := Stw.start Y w0
 obtain ⟨v7, h1, h_v3⟩ := h_v3.ex Bn
 obtain ⟨v8, h2, h_v4⟩ := h_v4.ex Bn
 obtain ⟨v9, h3, h_v6⟩ := h_v6.ex Fj
 unfold B7 at H
 refine vc tk 2 F W fun a w F W => ?_
 refine Cq (cs := (Cs p0 v1 v2 v3 v4 v5 v6)) F W Aa Aa Aa fun b1 a w F W => ?_
 refine Cc tk 8 F W fun a w F W => ?_
 obtain ⟨o1, G1, K1⟩ := Ad H
 refine Av (fun a w => ∃ x1 : List (Int × Int × Int), ∃ v10 : Value, some (x1) = some o1 ∧ Fr 50 [] [(2, .slice none 0 0), (3, v10)] a ∧ Stw ⟨Y, [], w0⟩ (BP b1 p0 v1 v2 v3 v4 v5 v6) [row v10 58 Bw x1] w) ?_ ?_
 ·
  have H := G1
  clear G1 K1
  refine Ha tk 4 [0] F W (ai fun a w F W => ?_)
  refine ls F W Aa (A0 (r := (Rp.slice (Rp.int .i64))) (l := p0.2.2.1) I7 Aa F Aa (Ak Bn h2 (Ab h_v4))).q fun a w F W => ?_
  refine Cc tk 4 F W fun a w F W => ?_
  have W := W.nilRow 58 Bw
  refine AP H (fun s a w => ∃ v11 : Value, Fr 50 [] [(1, .pointer (some ⟨b1, 0, none⟩)), (2, .slice none 0 0), (3, v11), (9, v4), (10, .int .i64 (p0.2.2.1.length : Int)), (11, .int .i64 s.2)] a ∧ Stw ⟨Y, [], w0⟩ (BP b1 p0 v1 v2 v3 v4 v5 v6) [row v11 58 Bw s.1] w) ⟨(Value.slice none 0 0), F.ra Aa, W⟩ fun s o a w H L2 hR => ?_
  obtain ⟨x2, x3⟩ := s
  obtain ⟨v11, F, W⟩ := hR
  have F : Fr 50 [] [(1, .pointer (some ⟨b1, 0, none⟩)), (2, .slice none 0 0), (3, v11), (9, v4), (10, .int .i64 (p0.2.2.1.length : Int)), (11, .int .i64 x3)] a := F
  have W : Stw ⟨Y, [], w0⟩ (BP b1 p0 v1 v2 v3 v4 v5 v6) [row v11 58 Bw x2] w := W
  rw [BA] at H
  refine vc tk 6 F W fun a w F W => ?_
  refine A3 F Aa H (fun F H => ?_) fun F H => ?_
  ·
   refine AD (Ac ?_)
   obtain ⟨o3, G3, K3⟩ := Ad H
   refine Av (fun a w => ∃ x4 : List (Int × Int × Int), ∃ v12 : Value, some (x4) = some o3 ∧ Fr 50 [] [(1, .pointer (some ⟨b1, 0, none⟩)), (2, .slice none 0 0), (3, v12), (9, v4), (10, .int .i64 (p0.2.2.1.length : Int)), (11, .int .i64 x3)] a ∧ Stw ⟨Y, [], w0⟩ (BP b1 p0 v1 v2 v3 v4 v5 v6) [row v12 58 Bw x4] w) ?_ ?_
   ·
    have H := G3
    clear G3 K3
    refine vc tk 4 F W fun a w F W => ?_
    obtain ⟨x5, h4, H⟩ := Ad H
    obtain ⟨v13, h5, h6⟩ := CE h2 h4
    have h7 : Em v13 = [(v13.1)] := congrArg (fun q : List Int => ([(v13.1)] : List Value)) h6
    refine ls F W Aa (Aw (r := (Rp.vsl (Rp.int .i64))) LF F Aa Aa (Ab h_v4) h5).q fun a w F W => ?_
    refine ls F W Aa (Ai (y := (v13.1)) (j := 0) (i := x3) (enc := Em) F Aa Aa (Ab h_v4) h5 Ik Kj (by rw [h7]; rfl)).q fun a w F W => ?_
    refine Cc tk 7 F W fun a w F W => ?_
    refine ls F W Aa (A0 (r := (Rp.int .i64)) (l := x5) GS Aa F Aa (BE (Ab h_v4) h5 Cd.here (congrArg (fun q : List Int => q) h6))).q fun a w F W => ?_
    refine Cc tk 4 F W fun a w F W => ?_
    refine AP H (fun s a w => ∃ v14 : Value, Fr 50 [] [(1, .pointer (some ⟨b1, 0, none⟩)), (2, .slice none 0 0), (3, v14), (4, .int .i64 x3), (9, v4), (10, .int .i64 (p0.2.2.1.length : Int)), (11, .int .i64 x3), (16, (v13.1)), (17, .int .i64 (x5.length : Int)), (18, .int .i64 s.2)] a ∧ Stw ⟨Y, [], w0⟩ (BP b1 p0 v1 v2 v3 v4 v5 v6) [row v14 58 Bw s.1] w) ⟨(v11), F.ra Aa, W⟩ fun s o a w H L4 hR => ?_
    obtain ⟨x6, x7⟩ := s
    obtain ⟨v14, F, W⟩ := hR
    have F : Fr 50 [] [(1, .pointer (some ⟨b1, 0, none⟩)), (2, .slice none 0 0), (3, v14), (4, .int .i64 x3), (9, v4), (10, .int .i64 (p0.2.2.1.length : Int)), (11, .int .i64 x3), (16, (v13.1)), (17, .int .i64 (x5.length : Int)), (18, .int .i64 x7)] a := F
    have W : Stw ⟨Y, [], w0⟩ (BP b1 p0 v1 v2 v3 v4 v5 v6) [row v14 58 Bw x6] w := W
    rw [Bh] at H
    refine vc tk 6 F W fun a w F W => ?_
    refine A3 F Aa H (fun F H => ?_) fun F H => ?_
    ·
     refine AD (Ac ?_)
     obtain ⟨o5, G5, K5⟩ := Ad H
     refine Av (fun a w => ∃ x8 : List (Int × Int × Int), ∃ v15 : Value, some (x8) = some o5 ∧ Fr 50 [] [(1, .pointer (some ⟨b1, 0, none⟩)), (2, .slice none 0 0), (3, v15), (4, .int .i64 x3), (9, v4), (10, .int .i64 (p0.2.2.1.length : Int)), (11, .int .i64 x3), (16, (v13.1)), (17, .int .i64 (x5.length : Int)), (18, .int .i64 x7)] a ∧ Stw ⟨Y, [], w0⟩ (BP b1 p0 v1 v2 v3 v4 v5 v6) [row v15 58 Bw x8] w) ?_ ?_
     ·
      have H := G5
      clear G5 K5
      refine vc tk 4 F W fun a w F W => ?_
      obtain ⟨x9, h8, H⟩ := Ad H
      refine ls F W Aa (Aw (r := (Rp.int .i64)) HT F Aa Aa (BE (Ab h_v4) h5 Cd.here (congrArg (fun q : List Int => q) h6)) h8).q fun a w F W => ?_
      refine ls F W Aa (Ai (y := Value.int .i64 x9) (j := 0) (i := x7) F Aa Aa (BE (Ab h_v4) h5 Cd.here (congrArg (fun q : List Int => q) h6)) h8 Fl.int.to T3 Aa).q fun a w F W => ?_
      refine vl tk 3 F W fun a w F W => ?_
      refine Ac ?_
      obtain ⟨o6, G6, K6⟩ := Ad H
      refine Av (fun a w => ∃ x10 : Bool, some (x10) = some o6 ∧ Fr 50 [] [(1, .pointer (some ⟨b1, 0, none⟩)), (2, .slice none 0 0), (3, v14), (4, .int .i64 x3), (6, .int .i64 x7), (9, v4), (10, .int .i64 (p0.2.2.1.length : Int)), (11, .int .i64 x3), (16, (v13.1)), (17, .int .i64 (x5.length : Int)), (18, .int .i64 x7), (40, .bool x10)] a ∧ Stw ⟨Y, [], w0⟩ (BP b1 p0 v1 v2 v3 v4 v5 v6) [row v14 58 Bw x6] w) ?_ ?_
      ·
       have H := G6
       clear G6 K6
       refine Ha tk 5 [0] F W (ai fun a w F W => ?_)
       obtain ⟨x11, h9, H⟩ := Ad H
       obtain ⟨v16, h10, h11⟩ := CE h1 h9
       have h12 : Em v16 = [(v16.1)] := congrArg (fun q : List Int => ([(v16.1)] : List Value)) h11
       refine ls F W Aa (Aw (r := (Rp.vsl (Rp.int .i64))) LF F Aa Aa (Ab h_v3) h10).q fun a w F W => ?_
       refine ls F W Aa (Ai (y := (v16.1)) (j := 0) (i := x3) (enc := Em) F Aa Aa (Ab h_v3) h10 Ik Kj (by rw [h12]; rfl)).q fun a w F W => ?_
       refine ls F W Aa (Am F Aa).q fun a w F W => ?_
       obtain ⟨x12, h13, H⟩ := Ad H
       refine ls F W Aa (Aw (r := (Rp.int .i64)) HT F Aa Aa (BE (Ab h_v3) h10 Cd.here (congrArg (fun q : List Int => q) h11)) h13).q fun a w F W => ?_
       refine ls F W Aa (Ai (y := Value.int .i64 x12) (j := 0) (i := x7) F Aa Aa (BE (Ab h_v3) h10 Cd.here (congrArg (fun q : List Int => q) h11)) h13 Fl.int.to T3 Aa).q fun a w F W => ?_
       refine vl tk 2 F W fun a w F W => ?_
       rcases Bool.eq_false_or_eq_true (decide (x9 ≠ x12)) with hb | hb
       ·
        have H := Di (E6 hb) H
        rw [hb] at F
        clear hb
        refine Jl tk 4 [0] F W (ai fun a w F W => ?_)
        refine Jg (Ae F Aa Aa Aa Aa) ?_
        obtain ⟨x13, h14, H⟩ := Ad H
        refine ls F W Aa (AW (v := Value.int .i64 x13) F V0 Aa (fun w W => HO any w (v1) (v2) (v3) (v4) (v5) (v6) p0 x3 x7 x9 _ h14 (CW (Ab h_v1) W) (CW (Ab h_v2) W) (CW (Ak Bn h1 (Ab h_v3)) W) (CW (Ak Bn h2 (Ab h_v4)) W) (CW (Ab h_v5) W) (CW (Ak Fj h3 (Ab h_v6)) W))) fun a w F W => ?_
        refine vl tk 3 F W fun a w F W => ?_
        refine Ac ?_
        exact ⟨_, H, F.ra Aa, W⟩
       have H := Dg (Fh hb) H
       rw [hb] at F
       clear hb
       refine vl tk 8 F W fun a w F W => ?_
       refine Ac ?_
       exact ⟨_, H, F.ra Aa, W⟩
      rintro a w ⟨x10, hj, F, W⟩
      have hj := AA hj
      subst hj
      have H := K6
      clear G6 K6
      refine D8 F Aa H (fun F H => ?_) fun F H => ?_
      ·
       refine vc tk 4 F W fun a w F W => ?_
       refine ls F W Aa (B1 (v := Value.agg #[.int .i64 2, .int .i64 x3, .int .i64 x7]) Ts F Aa Aa Aa).q fun a w F W => ?_
       refine CQ (z := Value.agg #[.int .i64 0, .int .i64 0, .int .i64 0]) (cs := [.int .i64 2, .int .i64 x3, .int .i64 x7]) Bw ([(2, x3, x7)] : List (Int × Int × Int)) F W Aa Nm Tb Aa Aa Aa Aa Aa Aa (SA.repL _ _ ([(2, x3, x7)] : List (Int × Int × Int))) fun v17 a w F W => ?_
       obtain ⟨x14, h15, H⟩ := Ad H
       refine Cp (r := Bw) (i := 1) F W Aa Nm Aa Aa Aa Aa (Db W 0 Aa) h15 Aa fun v18 a w F W => ?_
       have W : Stw ⟨Y, [], w0⟩ (BP b1 p0 v1 v2 v3 v4 v5 v6) [row v18 58 Bw x14, row v17 58 Bw ([(2, x3, x7)] : List (Int × Int × Int))] w := W
       refine vl tk 2 F W fun a w F W => ?_
       refine Aq (Ac ?_)
       have W := W.sub (M' := (BP b1 p0 v1 v2 v3 v4 v5 v6)) (Z' := [row v18 58 Bw x14]) (List.Sublist.refl _) (List.Sublist.cons_cons _ (List.nil_sublist _))
       exact ⟨_, (v18), H, F.ra Aa, W⟩
      refine AD (Aq (Ac ?_))
      exact ⟨_, (v14), H, F.ra Aa, W⟩
     rintro a w ⟨x8, v15, hj, F, W⟩
     have hj := AA hj
     subst hj
     have H := K5
     clear G5 K5
     refine vc tk 4 F W fun a w F W => ?_
     refine Ac ?_
     exact ⟨_, H, (v15), F.ra Aa, W⟩
    refine AJ ?_
    iterate 2 refine A6 ?_
    refine AM (Aq (Ac ?_))
    have H := L4 _ H
    exact ⟨_, (v14), H, F.ra Aa, W⟩
   rintro a w ⟨x4, v12, hj, F, W⟩
   have hj := AA hj
   subst hj
   have H := K3
   clear G3 K3
   refine vc tk 4 F W fun a w F W => ?_
   refine Ac ?_
   exact ⟨_, H, (v12), F.ra Aa, W⟩
  refine AJ ?_
  iterate 2 refine A6 ?_
  refine AM (Ac ?_)
  have H := L2 _ H
  exact ⟨_, (v11), H, F.ra Aa, W⟩
 rintro a w ⟨x1, v10, hj, F, W⟩
 have hj := AA hj
 subst hj
 have H := K1
 clear G1 K1
 refine vc tk 6 F W fun a w F W => ?_
 refine Ao ?_
 have H := AA H
 subst H
 refine AG (.inl Aa) F W Aa (Al F Aa) ?_
 have W := W.sub (M' := []) (Z' := [row v10 58 Bw x1]) (List.nil_sublist _) (List.Sublist.refl _)
 exact ⟨(v10), Aa, W⟩
theorem V6 : Has Try.prog 18 := Ct Try.func18
def AU (p0 : (Int × (List (Int × Int × Int × Int × Int × Int)) × (List (Int × Int))) × List (List Int) × List (List Int) × ((List (Int × Int × Int × Int)) × (List (Int × Int × List Int)) × Int × Int × Int × Int)) (p1 : Int × Int × Int × Int) : Bool := (decide (0 ≤ p1.1) && (decide (p1.1 < p0.1.1) && (decide (0 ≤ p1.2.1) && decide (p1.2.1 < (p0.1.2.2.length : Int)))))
theorem Fo (Y : Nat → Prop) (w0 : World) (v1 : Value) (v2 : Value) (v3 : Value) (v4 : Value) (v5 : Value) (v6 : Value) (p0 : (Int × (List (Int × Int × Int × Int × Int × Int)) × (List (Int × Int))) × List (List Int) × List (List Int) × ((List (Int × Int × Int × Int)) × (List (Int × Int × List Int)) × Int × Int × Int × Int)) (p1 : Int × Int × Int × Int) (r : Bool) (H : AU p0 p1 = r) (h_v1 : Sl w0 (NX []) Gn v1 p0.1.2.1) (h_v2 : Sl w0 (NX []) GE v2 p0.1.2.2) (h_v3 : Sl w0 (NX []) (Rp.slice (Rp.int .i64)) v3 p0.2.1) (h_v4 : Sl w0 (NX []) (Rp.slice (Rp.int .i64)) v4 p0.2.2.1) (h_v5 : Sl w0 (NX []) Hg v5 p0.2.2.2.1) (h_v6 : Sl w0 (NX []) Jw v6 p0.2.2.2.2.1) :
    Calls Try.prog 33 #[.agg #[.int .i64 p0.1.1, v1, v2, v3, v4, v5, v6, .int .i64 p0.2.2.2.2.2.1, .int .i64 p0.2.2.2.2.2.2.1, .int .i64 p0.2.2.2.2.2.2.2.1, .int .i64 p0.2.2.2.2.2.2.2.2], .agg #[.int .i64 p1.1, .int .i64 p1.2.1, .int .i64 p1.2.2.1, .int .i64 p1.2.2.2]] w0 fun e w' => e = .returned (.bool r) ∧ Below w0.heap.size w0 w' := by
 refine enter Try.func33 Aa Try.ntmps33 Aa fun a F => ?_
 have W := Stw.start Y w0
 obtain ⟨v7, h1, h_v3⟩ := h_v3.ex Bn
 obtain ⟨v8, h2, h_v4⟩ := h_v4.ex Bn
 obtain ⟨v9, h3, h_v6⟩ := h_v6.ex Fj
 unfold AU at H
 refine vc tk 2 F W fun a w F W => ?_
 refine Cq (cs := (Cs p0 v1 v2 v3 v4 v5 v6)) F W Aa Aa Aa fun b1 a w F W => ?_
 refine Cq (cs := (CR p1)) F W Aa Aa Aa fun b2 a w F W => ?_
 refine Cc tk 3 F W fun a w F W => ?_
 refine Av (fun a w => Fr 30 [] [(4, .bool (decide (0 ≤ p1.1) && (decide (p1.1 < p0.1.1) && (decide (0 ≤ p1.2.1) && decide (p1.2.1 < (p0.1.2.2.length : Int))))))] a ∧ Stw ⟨Y, [], w0⟩ [(b2, (CR p1)), (b1, (Cs p0 v1 v2 v3 v4 v5 v6))] [] w) ?_ ?_
 ·
  refine Ha tk 5 [0] F W (ai fun a w F W => ?_)
  rcases Bool.eq_false_or_eq_true (decide (0 ≤ p1.1)) with hb0 | hb0
  ·
   rw [hb0] at F
   refine Jl tk 8 [0, 1] F W (ai (ai fun a w F W => ?_))
   rcases Bool.eq_false_or_eq_true (decide (p1.1 < p0.1.1)) with hb1 | hb1
   ·
    rw [hb1] at F
    refine Jl tk 5 [0] F W (ai fun a w F W => ?_)
    rcases Bool.eq_false_or_eq_true (decide (0 ≤ p1.2.1)) with hb2 | hb2
    ·
     rw [hb2] at F
     refine Jl tk 5 [0, 1] F W (ai (ai fun a w F W => ?_))
     refine E2 F W (Ae F Aa Aa Aa Aa) Aa (AC Aa) (A0 (r := GE) (l := p0.1.2.2) Ni Aa F Aa (Ab h_v2)).q fun a w F W => ?_
     refine vl tk 4 F W fun a w F W => ?_
     refine Ac ?_
     exact ⟨F.re ⟨(JW (by try rw [hb1]; try rw [hb2]; try rw [hb0]; all_goals simp only [Ka])), trivial⟩, W⟩
    rw [hb2] at F
    refine vl tk 10 F W fun a w F W => ?_
    refine Ac ?_
    exact ⟨F.re ⟨(JW (by try rw [hb1]; try rw [hb2]; try rw [hb0]; all_goals simp only [Ka])), trivial⟩, W⟩
   rw [hb1] at F
   refine vl tk 15 F W fun a w F W => ?_
   refine Ac ?_
   exact ⟨F.re ⟨(JW (by try rw [hb1]; try rw [hb0]; all_goals simp only [Ka])), trivial⟩, W⟩
  rw [hb0] at F
  refine vl tk 23 F W fun a w F W => ?_
  refine Ac ?_
  exact ⟨F.re ⟨(JW (by try rw [hb0]; all_goals simp only [Ka])), trivial⟩, W⟩
 rintro a w ⟨F, W⟩
 refine Ao ?_
 subst H
 refine AG (.inl Aa) F W Aa (Al F Aa) ?_
 exact ⟨rfl, W.done⟩
theorem Vo : Has Try.prog 33 := Ct Try.func33
noncomputable def BU (p0 : (Int × (List (Int × Int × Int × Int × Int × Int)) × (List (Int × Int))) × List (List Int) × List (List Int) × ((List (Int × Int × Int × Int)) × (List (Int × Int × List Int)) × Int × Int × Int × Int)) : ((List (Int × Int × Int)) × Int) → Option (((List (Int × Int × Int)) × Int) ⊕ (List (Int × Int × Int)))
  | (x2, x3) => (if x3 < (p0.2.2.2.1.length : Int) then ((ix p0.2.2.2.1 x3).bind fun x5 => (if (!(AU p0 x5)) = true then some true else (ix p0.2.2.1 x5.1).bind fun x7 => (ix x7 x5.2.1).bind fun x8 => (if x5.2.2.1 ≠ x8 then some true else (ix p0.2.1 x5.1).bind fun x9 => (ix x9 x5.2.1).bind fun x10 => (if x5.2.2.1 = x10 then some true else (Bg p0 x5).bind fun x11 => some (!x11)))).bind fun x6 => (if x6 = true then (FD x2 ([(3, x3, x5.2.1)] : List (Int × Int × Int))).bind fun x12 => some x12 else some x2)).bind fun x4 => some (.inl (x4, A7 (x3 + 1))) else some (.inr x2))
noncomputable def Cg (p0 : (Int × (List (Int × Int × Int × Int × Int × Int)) × (List (Int × Int))) × List (List Int) × List (List Int) × ((List (Int × Int × Int × Int)) × (List (Int × Int × List Int)) × Int × Int × Int × Int)) : Option (List (Int × Int × Int)) := (An (BU p0) ([], 0)).bind fun x1 => some x1
theorem Iq (Y : Nat → Prop) (w0 : World) (v1 : Value) (v2 : Value) (v3 : Value) (v4 : Value) (v5 : Value) (v6 : Value) (p0 : (Int × (List (Int × Int × Int × Int × Int × Int)) × (List (Int × Int))) × List (List Int) × List (List Int) × ((List (Int × Int × Int × Int)) × (List (Int × Int × List Int)) × Int × Int × Int × Int)) (r : (List (Int × Int × Int))) (H : Cg p0 = some r) (h_v1 : Sl w0 (NX []) Gn v1 p0.1.2.1) (h_v2 : Sl w0 (NX []) GE v2 p0.1.2.2) (h_v3 : Sl w0 (NX []) (Rp.slice (Rp.int .i64)) v3 p0.2.1) (h_v4 : Sl w0 (NX []) (Rp.slice (Rp.int .i64)) v4 p0.2.2.1) (h_v5 : Sl w0 (NX []) Hg v5 p0.2.2.2.1) (h_v6 : Sl w0 (NX []) Jw v6 p0.2.2.2.2.1) :
    Calls Try.prog 19 #[.agg #[.int .i64 p0.1.1, v1, v2, v3, v4, v5, v6, .int .i64 p0.2.2.2.2.2.1, .int .i64 p0.2.2.2.2.2.2.1, .int .i64 p0.2.2.2.2.2.2.2.1, .int .i64 p0.2.2.2.2.2.2.2.2]] w0 fun e w' => ∃ x : Value, e = .returned (x) ∧ Stw ⟨Y, [], w0⟩ [] [row (x) 58 Bw r] w' := by
 refine enter Try.func19 Aa Try.ntmps19 Aa fun a F => ?_
 have W := Stw.start Y w0
 obtain ⟨v7, h1, h_v3⟩ := h_v3.ex Bn
 obtain ⟨v8, h2, h_v4⟩ := h_v4.ex Bn
 obtain ⟨v9, h3, h_v6⟩ := h_v6.ex Fj
 unfold Cg at H
 refine vc tk 2 F W fun a w F W => ?_
 refine Cq (cs := (Cs p0 v1 v2 v3 v4 v5 v6)) F W Aa Aa Aa fun b1 a w F W => ?_
 refine Cc tk 8 F W fun a w F W => ?_
 obtain ⟨o1, G1, K1⟩ := Ad H
 refine Av (fun a w => ∃ x1 : List (Int × Int × Int), ∃ v10 : Value, some (x1) = some o1 ∧ Fr 64 [] [(2, .slice none 0 0), (3, v10)] a ∧ Stw ⟨Y, [], w0⟩ (BP b1 p0 v1 v2 v3 v4 v5 v6) [row v10 58 Bw x1] w) ?_ ?_
 ·
  have H := G1
  clear G1 K1
  refine Ha tk 5 [0] F W (ai fun a w F W => ?_)
  refine ls F W Aa (A0 (r := Hg) (l := p0.2.2.2.1) Sj Aa F Aa (Ab h_v5)).q fun a w F W => ?_
  refine Cc tk 4 F W fun a w F W => ?_
  have W := W.nilRow 58 Bw
  refine AP H (fun s a w => ∃ v11 : Value, Fr 64 [] [(1, .pointer (some ⟨b1, 0, none⟩)), (2, .slice none 0 0), (3, v11), (8, v5), (9, .int .i64 (p0.2.2.2.1.length : Int)), (10, .int .i64 s.2)] a ∧ Stw ⟨Y, [], w0⟩ (BP b1 p0 v1 v2 v3 v4 v5 v6) [row v11 58 Bw s.1] w) ⟨(Value.slice none 0 0), F.ra Aa, W⟩ fun s o a w H L2 hR => ?_
  obtain ⟨x2, x3⟩ := s
  obtain ⟨v11, F, W⟩ := hR
  have F : Fr 64 [] [(1, .pointer (some ⟨b1, 0, none⟩)), (2, .slice none 0 0), (3, v11), (8, v5), (9, .int .i64 (p0.2.2.2.1.length : Int)), (10, .int .i64 x3)] a := F
  have W : Stw ⟨Y, [], w0⟩ (BP b1 p0 v1 v2 v3 v4 v5 v6) [row v11 58 Bw x2] w := W
  rw [BU] at H
  refine vc tk 6 F W fun a w F W => ?_
  refine A3 F Aa H (fun F H => ?_) fun F H => ?_
  ·
   refine AD (Ac ?_)
   obtain ⟨o3, G3, K3⟩ := Ad H
   refine Av (fun a w => ∃ x4 : List (Int × Int × Int), ∃ v12 : Value, some (x4) = some o3 ∧ Fr 64 [] [(1, .pointer (some ⟨b1, 0, none⟩)), (2, .slice none 0 0), (3, v12), (8, v5), (9, .int .i64 (p0.2.2.2.1.length : Int)), (10, .int .i64 x3)] a ∧ Stw ⟨Y, [], w0⟩ (BP b1 p0 v1 v2 v3 v4 v5 v6) [row v12 58 Bw x4] w) ?_ ?_
   ·
    have H := G3
    clear G3 K3
    refine vc tk 4 F W fun a w F W => ?_
    obtain ⟨x5, h4, H⟩ := Ad H
    refine ls F W Aa (Aw (r := Hg) TR F Aa Aa (Ab h_v5) h4).q fun a w F W => ?_
    refine ls F W Aa (Ai (y := Value.agg #[.int .i64 x5.1, .int .i64 x5.2.1, .int .i64 x5.2.2.1, .int .i64 x5.2.2.2]) (j := 0) (i := x3) F Aa Aa (Ab h_v5) h4 UE.to Sc Aa).q fun a w F W => ?_
    refine B9 (cs := (P5)) F W Aa UL Aa fun b2 a w F W => ?_
    refine ls F W Aa (BR F Aa).q fun a w F W => ?_
    refine F6 0 F W Aa Aa Aa Sc Aa Aa Aa fun w W => ?_
    refine EF (Ac ?_)
    obtain ⟨o4, G4, K4⟩ := Ad H
    refine Av (fun a w => ∃ x6 : Bool, some (x6) = some o4 ∧ Fr 64 [] [(1, .pointer (some ⟨b1, 0, none⟩)), (2, .slice none 0 0), (3, v11), (4, .int .i64 x3), (5, .pointer (some ⟨b2, 0, none⟩)), (8, v5), (9, .int .i64 (p0.2.2.2.1.length : Int)), (10, .int .i64 x3), (54, .bool x6)] a ∧ Stw ⟨Y, [], w0⟩ [(b2, (CR x5)), (b1, (Cs p0 v1 v2 v3 v4 v5 v6))] [row v11 58 Bw x2] w) ?_ ?_
    ·
     have H := G4
     clear G4 K4
     refine Cx W MO (by kernel_rfl) ?_
     refine qs F Aa (A4 (v := Value.agg #[.int .i64 p0.1.1, v1, v2, v3, v4, v5, v6, .int .i64 p0.2.2.2.2.2.1, .int .i64 p0.2.2.2.2.2.2.1, .int .i64 p0.2.2.2.2.2.2.2.1, .int .i64 p0.2.2.2.2.2.2.2.2]) 1 F Aa Aa SN Aa).q fun a F => ?_
     refine qs F Aa (A4 (v := Value.agg #[.int .i64 x5.1, .int .i64 x5.2.1, .int .i64 x5.2.2.1, .int .i64 x5.2.2.2]) 0 F Aa Aa Sc Aa).q fun a F => ?_
     refine qs F Aa (AW (v := Value.bool (AU p0 x5)) F Vo Aa (fun w W => Fo any w (v1) (v2) (v3) (v4) (v5) (v6) p0 x5 _ Aa (CW (Ab h_v1) W) (CW (Ab h_v2) W) (CW (Ak Bn h1 (Ab h_v3)) W) (CW (Ak Bn h2 (Ab h_v4)) W) (CW (Ab h_v5) W) (CW (Ak Fj h3 (Ab h_v6)) W))) fun a F => ?_
     refine qs F Aa (Ns F Aa).q fun a F => ?_
     refine qs F Aa (Am F Aa).q fun a F => ?_
     rcases Bool.eq_false_or_eq_true (!(AU p0 x5)) with hb | hb
     ·
      have H := Di hb H
      rw [hb] at F
      clear hb
      iterate 13 refine Dc F (Bb F Aa Aa Aa Aa Aa) Aa Aa fun a F => ?_
      refine qs F Aa (BM F Aa Aa Aa).q fun a F => ?_
      refine qs F Aa (Am F Aa).q fun a F => ?_
      iterate 13 refine Dc F (Bb F Aa Aa Aa Aa Aa) Aa Aa fun a F => ?_
      refine qs F Aa (BM F Aa Aa Aa).q fun a F => ?_
      refine qs F Aa (Am F Aa).q fun a F => ?_
      iterate 4 refine Dc F (Bb F Aa Aa Aa Aa Aa) Aa Aa fun a F => ?_
      refine qs F Aa (BM F Aa Aa Aa).q fun a F => ?_
      refine A9 fun w W => ?_
      refine Ac ?_
      have W := W.frontM (i := 1) Aa Aa
      have W := W.frontM (i := 1) Aa Aa
      exact ⟨_, H, F.ra Aa, W⟩
     have H := Dg (by rw [hb]; decide) H
     rw [hb] at F
     clear hb
     refine B5 F (Ae F Aa Aa Aa Aa) Aa (AC Aa) (Ah IY Aa Aa Aa T3 F Aa 2 Aa).q fun a F => ?_
     refine B5 F (Ae F Aa Aa Aa Aa) Aa (AC Aa) (A4 (v := Value.int .i64 x5.2.2.1) 0 F Aa Aa T3 Aa).q fun a F => ?_
     refine B5 F (Ae F Aa Aa Aa Aa) Aa (AC Aa) (Ah Q7 Aa Aa Aa UI F Aa 4 Aa).q fun a F => ?_
     refine B5 F (Ae F Aa Aa Aa Aa) Aa (AC Aa) (A4 (v := v4) 1 F Aa Aa UI Aa).q fun a F => ?_
     refine B5 F (Ae F Aa Aa Aa Aa) Aa (AC Aa) (Ah IY Aa Aa Aa T3 F Aa 0 Aa).q fun a F => ?_
     refine B5 F (Ae F Aa Aa Aa Aa) Aa (AC Aa) (A4 (v := Value.int .i64 x5.1) 0 F Aa Aa T3 Aa).q fun a F => ?_
     obtain ⟨x7, h5, H⟩ := Ad H
     obtain ⟨v13, h6, h7⟩ := CE h2 h5
     have h8 : Em v13 = [(v13.1)] := congrArg (fun q : List Int => ([(v13.1)] : List Value)) h7
     refine B5 F (Ae F Aa Aa Aa Aa) Aa (AC Aa) (Aw (r := (Rp.vsl (Rp.int .i64))) LF F Aa Aa (Ab h_v4) h6).q fun a F => ?_
     refine B5 F (Ae F Aa Aa Aa Aa) Aa (AC Aa) (Ai (y := (v13.1)) (j := 0) (i := x5.1) (enc := Em) F Aa Aa (Ab h_v4) h6 Ik Kj (by rw [h8]; rfl)).q fun a F => ?_
     refine B5 F (Ae F Aa Aa Aa Aa) Aa (AC Aa) (Ah IY Aa Aa Aa T3 F Aa 1 Aa).q fun a F => ?_
     refine B5 F (Ae F Aa Aa Aa Aa) Aa (AC Aa) (A4 (v := Value.int .i64 x5.2.1) 0 F Aa Aa T3 Aa).q fun a F => ?_
     obtain ⟨x8, h9, H⟩ := Ad H
     refine B5 F (Ae F Aa Aa Aa Aa) Aa (AC Aa) (Aw (r := (Rp.int .i64)) HT F Aa Aa (BE (Ab h_v4) h6 Cd.here (congrArg (fun q : List Int => q) h7)) h9).q fun a F => ?_
     refine B5 F (Ae F Aa Aa Aa Aa) Aa (AC Aa) (Ai (y := Value.int .i64 x8) (j := 0) (i := x5.2.1) F Aa Aa (BE (Ab h_v4) h6 Cd.here (congrArg (fun q : List Int => q) h7)) h9 Fl.int.to T3 Aa).q fun a F => ?_
     refine B5 F (Ae F Aa Aa Aa Aa) Aa (AC Aa) (O4 F Aa Aa).q fun a F => ?_
     refine qs F Aa (Cv F Aa Aa Aa).q fun a F => ?_
     refine qs F Aa (Am F Aa).q fun a F => ?_
     rcases Bool.eq_false_or_eq_true (decide (x5.2.2.1 ≠ x8)) with hb | hb
     ·
      have H := Di (E6 hb) H
      rw [hb] at F
      clear hb
      iterate 13 refine Dc F (Bb F Aa Aa Aa Aa Aa) Aa Aa fun a F => ?_
      refine qs F Aa (BM F Aa Aa Aa).q fun a F => ?_
      refine qs F Aa (Am F Aa).q fun a F => ?_
      iterate 4 refine Dc F (Bb F Aa Aa Aa Aa Aa) Aa Aa fun a F => ?_
      refine qs F Aa (BM F Aa Aa Aa).q fun a F => ?_
      refine A9 fun w W => ?_
      refine Ac ?_
      have W := W.frontM (i := 1) Aa Aa
      have W := W.frontM (i := 1) Aa Aa
      exact ⟨_, H, F.ra Aa, W⟩
     have H := Dg (Fh hb) H
     rw [hb] at F
     clear hb
     refine B5 F (Ae F Aa Aa Aa Aa) Aa (AC Aa) (Ah IY Aa Aa Aa T3 F Aa 2 Aa).q fun a F => ?_
     refine B5 F (Ae F Aa Aa Aa Aa) Aa (AC Aa) (A4 (v := Value.int .i64 x5.2.2.1) 0 F Aa Aa T3 Aa).q fun a F => ?_
     refine B5 F (Ae F Aa Aa Aa Aa) Aa (AC Aa) (Ah Q7 Aa Aa Aa UI F Aa 3 Aa).q fun a F => ?_
     refine B5 F (Ae F Aa Aa Aa Aa) Aa (AC Aa) (A4 (v := v3) 1 F Aa Aa UI Aa).q fun a F => ?_
     refine B5 F (Ae F Aa Aa Aa Aa) Aa (AC Aa) (Ah IY Aa Aa Aa T3 F Aa 0 Aa).q fun a F => ?_
     refine B5 F (Ae F Aa Aa Aa Aa) Aa (AC Aa) (A4 (v := Value.int .i64 x5.1) 0 F Aa Aa T3 Aa).q fun a F => ?_
     obtain ⟨x9, h10, H⟩ := Ad H
     obtain ⟨v14, h11, h12⟩ := CE h1 h10
     have h13 : Em v14 = [(v14.1)] := congrArg (fun q : List Int => ([(v14.1)] : List Value)) h12
     refine B5 F (Ae F Aa Aa Aa Aa) Aa (AC Aa) (Aw (r := (Rp.vsl (Rp.int .i64))) LF F Aa Aa (Ab h_v3) h11).q fun a F => ?_
     refine B5 F (Ae F Aa Aa Aa Aa) Aa (AC Aa) (Ai (y := (v14.1)) (j := 0) (i := x5.1) (enc := Em) F Aa Aa (Ab h_v3) h11 Ik Kj (by rw [h13]; rfl)).q fun a F => ?_
     refine B5 F (Ae F Aa Aa Aa Aa) Aa (AC Aa) (Ah IY Aa Aa Aa T3 F Aa 1 Aa).q fun a F => ?_
     refine B5 F (Ae F Aa Aa Aa Aa) Aa (AC Aa) (A4 (v := Value.int .i64 x5.2.1) 0 F Aa Aa T3 Aa).q fun a F => ?_
     obtain ⟨x10, h14, H⟩ := Ad H
     refine B5 F (Ae F Aa Aa Aa Aa) Aa (AC Aa) (Aw (r := (Rp.int .i64)) HT F Aa Aa (BE (Ab h_v3) h11 Cd.here (congrArg (fun q : List Int => q) h12)) h14).q fun a F => ?_
     refine B5 F (Ae F Aa Aa Aa Aa) Aa (AC Aa) (Ai (y := Value.int .i64 x10) (j := 0) (i := x5.2.1) F Aa Aa (BE (Ab h_v3) h11 Cd.here (congrArg (fun q : List Int => q) h12)) h14 Fl.int.to T3 Aa).q fun a F => ?_
     refine B5 F (Ae F Aa Aa Aa Aa) Aa (AC Aa) (Nj F Aa Aa).q fun a F => ?_
     refine qs F Aa (Cv F Aa Aa Aa).q fun a F => ?_
     refine qs F Aa (Am F Aa).q fun a F => ?_
     rcases Bool.eq_false_or_eq_true (decide (x5.2.2.1 = x10)) with hb | hb
     ·
      have H := Di (E6 hb) H
      rw [hb] at F
      clear hb
      iterate 4 refine Dc F (Bb F Aa Aa Aa Aa Aa) Aa Aa fun a F => ?_
      refine qs F Aa (BM F Aa Aa Aa).q fun a F => ?_
      refine A9 fun w W => ?_
      refine Ac ?_
      have W := W.frontM (i := 1) Aa Aa
      have W := W.frontM (i := 1) Aa Aa
      exact ⟨_, H, F.ra Aa, W⟩
     have H := Dg (Fh hb) H
     rw [hb] at F
     clear hb
     refine B5 F (Ae F Aa Aa Aa Aa) Aa (AC Aa) (A4 (v := Value.agg #[.int .i64 p0.1.1, v1, v2, v3, v4, v5, v6, .int .i64 p0.2.2.2.2.2.1, .int .i64 p0.2.2.2.2.2.2.1, .int .i64 p0.2.2.2.2.2.2.2.1, .int .i64 p0.2.2.2.2.2.2.2.2]) 1 F Aa Aa SN Aa).q fun a F => ?_
     refine B5 F (Ae F Aa Aa Aa Aa) Aa (AC Aa) (A4 (v := Value.agg #[.int .i64 x5.1, .int .i64 x5.2.1, .int .i64 x5.2.2.1, .int .i64 x5.2.2.2]) 0 F Aa Aa Sc Aa).q fun a F => ?_
     obtain ⟨x11, h15, H⟩ := Ad H
     refine B5 F (Ae F Aa Aa Aa Aa) Aa (AC Aa) (AW (v := Value.bool x11) F Vy Aa (fun w W => EB any w (v1) (v2) (v3) (v4) (v5) (v6) p0 x5 _ h15 (CW (Ab h_v1) W) (CW (Ab h_v2) W) (CW (Ak Bn h1 (Ab h_v3)) W) (CW (Ak Bn h2 (Ab h_v4)) W) (CW (Ab h_v5) W) (CW (Ak Fj h3 (Ab h_v6)) W))) fun a F => ?_
     refine B5 F (Ae F Aa Aa Aa Aa) Aa (AC Aa) (Ns F Aa).q fun a F => ?_
     refine qs F Aa (Cv F Aa Aa Aa).q fun a F => ?_
     refine A9 fun w W => ?_
     refine Ac ?_
     have W := W.frontM (i := 1) Aa Aa
     have W := W.frontM (i := 1) Aa Aa
     exact ⟨_, H, F.ra Aa, W⟩
    rintro a w ⟨x6, hj, F, W⟩
    have hj := AA hj
    subst hj
    have H := K4
    clear G4 K4
    refine D8 F Aa H (fun F H => ?_) fun F H => ?_
    ·
     refine Ha tk 5 [0] F W (ai fun a w F W => ?_)
     refine ls F W Aa (B1 (v := Value.agg #[.int .i64 3, .int .i64 x3, .int .i64 x5.2.1]) Ts F Aa Aa Aa).q fun a w F W => ?_
     refine CQ (z := Value.agg #[.int .i64 0, .int .i64 0, .int .i64 0]) (cs := [.int .i64 3, .int .i64 x3, .int .i64 x5.2.1]) Bw ([(3, x3, x5.2.1)] : List (Int × Int × Int)) F W Aa Nm Tb Aa Aa Aa Aa Aa Aa (SA.repL _ _ ([(3, x3, x5.2.1)] : List (Int × Int × Int))) fun v15 a w F W => ?_
     obtain ⟨x12, h16, H⟩ := Ad H
     refine Cp (r := Bw) (i := 1) F W Aa Nm Aa Aa Aa Aa (Db W 0 Aa) h16 Aa fun v16 a w F W => ?_
     have W : Stw ⟨Y, [], w0⟩ [(b2, (CR x5)), (b1, (Cs p0 v1 v2 v3 v4 v5 v6))] [row v16 58 Bw x12, row v15 58 Bw ([(3, x3, x5.2.1)] : List (Int × Int × Int))] w := W
     refine vl tk 2 F W fun a w F W => ?_
     refine Aq (Ac ?_)
     have W := W.frontM (i := 1) Aa Aa
     have W := W.sub (M' := (BP b1 p0 v1 v2 v3 v4 v5 v6)) (Z' := [row v16 58 Bw x12]) (List.Sublist.cons_cons _ (List.nil_sublist _)) (List.Sublist.cons_cons _ (List.nil_sublist _))
     exact ⟨_, (v16), H, F.ra Aa, W⟩
    refine AD (Aq (Ac ?_))
    have W := W.frontM (i := 1) Aa Aa
    have W := W.sub (M' := (BP b1 p0 v1 v2 v3 v4 v5 v6)) (Z' := [row v11 58 Bw x2]) (List.Sublist.cons_cons _ (List.nil_sublist _)) (List.Sublist.refl _)
    exact ⟨_, (v11), H, F.ra Aa, W⟩
   rintro a w ⟨x4, v12, hj, F, W⟩
   have hj := AA hj
   subst hj
   have H := K3
   clear G3 K3
   refine vc tk 4 F W fun a w F W => ?_
   refine Ac ?_
   exact ⟨_, H, (v12), F.ra Aa, W⟩
  refine AJ ?_
  iterate 2 refine A6 ?_
  refine AM (Ac ?_)
  have H := L2 _ H
  exact ⟨_, (v11), H, F.ra Aa, W⟩
 rintro a w ⟨x1, v10, hj, F, W⟩
 have hj := AA hj
 subst hj
 have H := K1
 clear G1 K1
 refine vc tk 6 F W fun a w F W => ?_
 refine Ao ?_
 have H := AA H
 subst H
 refine AG (.inl Aa) F W Aa (Al F Aa) ?_
 have W := W.sub (M' := []) (Z' := [row v10 58 Bw x1]) (List.nil_sublist _) (List.Sublist.refl _)
 exact ⟨(v10), Aa, W⟩
theorem WQ : Has Try.prog 19 := Ct Try.func19
noncomputable def Cy (p0 : Int × (List (Int × Int × Int × Int × Int × Int)) × (List (Int × Int))) : (Int × Int) → Option ((Int × Int) ⊕ Int)
  | (x2, x3) => (if x3 < (p0.2.1.length : Int) then (ix p0.2.1 x3).bind fun x4 => some (.inl (max x2 x4.2.2.2.2.2, A7 (x3 + 1))) else some (.inr x2))
noncomputable def Dl (p0 : Int × (List (Int × Int × Int × Int × Int × Int)) × (List (Int × Int))) : Option Int := (An (Cy p0) (0, 0)).bind fun x1 => some x1
theorem Lb (Y : Nat → Prop) (w0 : World) (v1 : Value) (v2 : Value) (p0 : Int × (List (Int × Int × Int × Int × Int × Int)) × (List (Int × Int))) (r : Int) (H : Dl p0 = some r) (h_v1 : Sl w0 (NX []) Gn v1 p0.2.1) (h_v2 : Sl w0 (NX []) GE v2 p0.2.2) :
    Calls Try.prog 77 #[.agg #[.int .i64 p0.1, v1, v2]] w0 fun e w' => e = .returned (.int .i64 r) ∧ Below w0.heap.size w0 w' := by
 refine enter Try.func77 Aa Try.ntmps77 Aa fun a F => ?_
 have W := Stw.start Y w0
 unfold Dl at H
 refine vc tk 2 F W fun a w F W => ?_
 refine Cq (cs := [.int .i64 p0.1, v1, v2]) F W Aa Aa Aa fun b1 a w F W => ?_
 refine Cc tk 8 F W fun a w F W => ?_
 obtain ⟨o1, G1, K1⟩ := Ad H
 refine Av (fun a w => ∃ x1 : Int, some (x1) = some o1 ∧ Fr 19 [] [(2, .int .i64 0), (3, .int .i64 x1)] a ∧ Stw ⟨Y, [], w0⟩ [(b1, [.int .i64 p0.1, v1, v2])] [] w) ?_ ?_
 ·
  have H := G1
  clear G1 K1
  refine Ha tk 4 [0] F W (ai fun a w F W => ?_)
  refine ls F W Aa (A0 (r := Gn) (l := p0.2.1) N9 Aa F Aa (Ab h_v1)).q fun a w F W => ?_
  refine Cc tk 4 F W fun a w F W => ?_
  refine AP H (fun s a w => Fr 19 [] [(2, .int .i64 0), (3, .int .i64 s.1), (7, v1), (8, .int .i64 (p0.2.1.length : Int)), (9, .int .i64 s.2)] a ∧ Stw ⟨Y, [], w0⟩ [(b1, [.int .i64 p0.1, v1, v2])] [] w) ⟨F.ra Aa, W⟩ fun s o a w H L2 hR => ?_
  obtain ⟨x2, x3⟩ := s
  obtain ⟨F, W⟩ := hR
  have F : Fr 19 [] [(2, .int .i64 0), (3, .int .i64 x2), (7, v1), (8, .int .i64 (p0.2.1.length : Int)), (9, .int .i64 x3)] a := F
  have W : Stw ⟨Y, [], w0⟩ [(b1, [.int .i64 p0.1, v1, v2])] [] w := W
  rw [Cy] at H
  refine vc tk 6 F W fun a w F W => ?_
  refine A3 F Aa H (fun F H => ?_) fun F H => ?_
  ·
   refine Ie tk 6 F W fun a w F W => ?_
   obtain ⟨x4, h1, H⟩ := Ad H
   refine ls F W Aa (Aw (r := Gn) Uk F Aa Aa (Ab h_v1) h1).q fun a w F W => ?_
   refine ls F W Aa (Ai (y := Value.agg #[.int .i64 x4.1, .int .i64 x4.2.1, .int .i64 x4.2.2.1, .int .i64 x4.2.2.2.1, .int .i64 x4.2.2.2.2.1, .int .i64 x4.2.2.2.2.2]) (j := 0) (i := x3) F Aa Aa (Ab h_v1) h1 T7.to SH Aa).q fun a w F W => ?_
   refine B9 (cs := (SJ)) F W Aa UM Aa fun b2 a w F W => ?_
   refine F6 0 F W Aa Aa Aa SH Aa Aa Aa fun w W => ?_
   refine JK tk 6 [0] F W (ai fun a w F W => ?_)
   refine ls F W Aa (P4 F Aa Aa).q fun a w F W => ?_
   refine vl tk 2 F W fun a w F W => ?_
   refine Aq ?_
   refine vn tk 4 F W fun a w F W => ?_
   refine Ac ?_
   have W := W.frontM (i := 1) Aa Aa
   have W := W.sub (M' := [(b1, [.int .i64 p0.1, v1, v2])]) (Z' := []) (List.Sublist.cons_cons _ (List.nil_sublist _)) (List.Sublist.refl _)
   exact ⟨_, H, F.ra Aa, W⟩
  refine AJ ?_
  iterate 2 refine A6 ?_
  refine AM (Ac ?_)
  have H := L2 _ H
  exact ⟨_, H, F.ra Aa, W⟩
 rintro a w ⟨x1, hj, F, W⟩
 have hj := AA hj
 subst hj
 have H := K1
 clear G1 K1
 refine vc tk 6 F W fun a w F W => ?_
 refine Ao ?_
 have H := AA H
 subst H
 refine AG (.inl Aa) F W Aa (Al F Aa) ?_
 exact ⟨rfl, W.done⟩
theorem VW : Has Try.prog 77 := Ct Try.func77
noncomputable def FB (p0 : Int × (List (Int × Int × Int × Int × Int × Int)) × (List (Int × Int))) : Option Int := (Dl p0).bind fun x1 => some (A7 (p0.1 * x1))
theorem NP (Y : Nat → Prop) (w0 : World) (v1 : Value) (v2 : Value) (p0 : Int × (List (Int × Int × Int × Int × Int × Int)) × (List (Int × Int))) (r : Int) (H : FB p0 = some r) (h_v1 : Sl w0 (NX []) Gn v1 p0.2.1) (h_v2 : Sl w0 (NX []) GE v2 p0.2.2) :
    Calls Try.prog 59 #[.agg #[.int .i64 p0.1, v1, v2]] w0 fun e w' => e = .returned (.int .i64 r) ∧ Below w0.heap.size w0 w' := by
 refine enter Try.func59 Aa Try.ntmps59 Aa fun a F => ?_
 have W := Stw.start Y w0
 unfold FB at H
 refine vc tk 2 F W fun a w F W => ?_
 refine Cq (cs := [.int .i64 p0.1, v1, v2]) F W Aa Aa Aa fun b1 a w F W => ?_
 refine Cc tk 4 F W fun a w F W => ?_
 refine Cx W MO (by kernel_rfl) ?_
 refine qs F Aa (Ah Ut Aa Aa Aa T3 F Aa 0 Aa).q fun a F => ?_
 refine qs F Aa (A4 (v := Value.int .i64 p0.1) 0 F Aa Aa T3 Aa).q fun a F => ?_
 refine qs F Aa (A4 (v := Value.agg #[.int .i64 p0.1, v1, v2]) 0 F Aa Aa Th Aa).q fun a F => ?_
 obtain ⟨x1, h1, H⟩ := Ad H
 refine qs F Aa (AW (v := Value.int .i64 x1) F VW Aa (fun w W => Lb any w (v1) (v2) p0 _ h1 (CW (Ab h_v1) W) (CW (Ab h_v2) W))) fun a F => ?_
 refine qs F Aa (SB F Aa Aa Aa).q fun a F => ?_
 refine qs F Aa (BR F Aa).q fun a F => ?_
 refine A9 fun w W => ?_
 refine Ac (Ao ?_)
 have H := AA H
 subst H
 refine AG (.inl Aa) F W Aa (Al F Aa) ?_
 exact ⟨rfl, W.done⟩
theorem Wo : Has Try.prog 59 := Ct Try.func59
noncomputable def FL (p0 : Int × (List (Int × Int × Int × Int × Int × Int)) × (List (Int × Int))) (p1 : Int) : Option Int := (FB p0).bind fun x1 => some (A7 ((A7 ((A7 (2 * p1)) + x1)) + 1))
theorem Oe (Y : Nat → Prop) (w0 : World) (v1 : Value) (v2 : Value) (p0 : Int × (List (Int × Int × Int × Int × Int × Int)) × (List (Int × Int))) (p1 : Int) (r : Int) (H : FL p0 p1 = some r) (h_v1 : Sl w0 (NX []) Gn v1 p0.2.1) (h_v2 : Sl w0 (NX []) GE v2 p0.2.2) :
    Calls Try.prog 35 #[.agg #[.int .i64 p0.1, v1, v2], .int .i64 p1] w0 fun e w' => e = .returned (.int .i64 r) ∧ Below w0.heap.size w0 w' := by
 refine enter Try.func35 Aa Try.ntmps35 Aa fun a F => ?_
 have W := Stw.start Y w0
 unfold FL at H
 refine vc tk 2 F W fun a w F W => ?_
 refine Cq (cs := [.int .i64 p0.1, v1, v2]) F W Aa Aa Aa fun b1 a w F W => ?_
 refine JK tk 8 [0] F W (ai fun a w F W => ?_)
 obtain ⟨x1, h1, H⟩ := Ad H
 refine ls F W Aa (AW (v := Value.int .i64 x1) F Wo Aa (fun w W => NP any w (v1) (v2) p0 _ h1 (CW (Ab h_v1) W) (CW (Ab h_v2) W))) fun a w F W => ?_
 refine Cc tk 5 F W fun a w F W => ?_
 refine Ao ?_
 have H := AA H
 subst H
 refine AG (.inl Aa) F W Aa (Al F Aa) ?_
 exact ⟨rfl, W.done⟩
theorem Wq : Has Try.prog 35 := Ct Try.func35
def Bc (p0 : Int) : Int := min (max p0 (-1125899906842624)) 1125899906842624
theorem HU (Y : Nat → Prop) (w0 : World)  (p0 : Int) (r : Int) (H : Bc p0 = r)  :
    Calls Try.prog 36 #[.int .i64 p0] w0 fun e w' => e = .returned (.int .i64 r) ∧ Below w0.heap.size w0 w' := by
 refine enter Try.func36 Aa Try.ntmps36 Aa fun a F => ?_
 have W := Stw.start Y w0
 unfold Bc at H
 refine vc tk 8 F W fun a w F W => ?_
 refine ls F W Aa (P4 F Aa Aa).q fun a w F W => ?_
 refine ls F W Aa (Sr F Aa Aa).q fun a w F W => ?_
 refine Cc tk 3 F W fun a w F W => ?_
 refine Ao ?_
 subst H
 refine AG (.inl Aa) F W Aa (Al F Aa) ?_
 exact ⟨rfl, W.done⟩
theorem VA : Has Try.prog 36 := Ct Try.func36
noncomputable def BX (p0 : (Int × (List (Int × Int × Int × Int × Int × Int)) × (List (Int × Int))) × List (List Int) × List (List Int) × ((List (Int × Int × Int × Int)) × (List (Int × Int × List Int)) × Int × Int × Int × Int)) (x1 : Int) : ((List (Int × Int × Int)) × Int) → Option (((List (Int × Int × Int)) × Int) ⊕ (List (Int × Int × Int)))
  | (x3, x4) => (if x4 < (p0.2.2.2.2.1.length : Int) then ((ix p0.2.2.2.2.1 x4).bind fun x6 => (ix p0.2.2.2.2.1 (A7 (x4 - 1))).bind fun x7 => (if (A7 ((Bc x6.2.1) - (Bc x7.2.1))) < x1 then (FD x3 ([(4, x4, 0)] : List (Int × Int × Int))).bind fun x8 => some x8 else some x3)).bind fun x5 => some (.inl (x5, A7 (x4 + 1))) else some (.inr x3))
noncomputable def Ck (p0 : (Int × (List (Int × Int × Int × Int × Int × Int)) × (List (Int × Int))) × List (List Int) × List (List Int) × ((List (Int × Int × Int × Int)) × (List (Int × Int × List Int)) × Int × Int × Int × Int)) : Option (List (Int × Int × Int)) := (FL p0.1 (min (max p0.2.2.2.2.2.1 0) 1048576)).bind fun x1 => (An (BX p0 x1) ([], 1)).bind fun x2 => some x2
theorem Io (Y : Nat → Prop) (w0 : World) (v1 : Value) (v2 : Value) (v3 : Value) (v4 : Value) (v5 : Value) (v6 : Value) (p0 : (Int × (List (Int × Int × Int × Int × Int × Int)) × (List (Int × Int))) × List (List Int) × List (List Int) × ((List (Int × Int × Int × Int)) × (List (Int × Int × List Int)) × Int × Int × Int × Int)) (r : (List (Int × Int × Int))) (H : Ck p0 = some r) (h_v1 : Sl w0 (NX []) Gn v1 p0.1.2.1) (h_v2 : Sl w0 (NX []) GE v2 p0.1.2.2) (h_v3 : Sl w0 (NX []) (Rp.slice (Rp.int .i64)) v3 p0.2.1) (h_v4 : Sl w0 (NX []) (Rp.slice (Rp.int .i64)) v4 p0.2.2.1) (h_v5 : Sl w0 (NX []) Hg v5 p0.2.2.2.1) (h_v6 : Sl w0 (NX []) Jw v6 p0.2.2.2.2.1) :
    Calls Try.prog 20 #[.agg #[.int .i64 p0.1.1, v1, v2, v3, v4, v5, v6, .int .i64 p0.2.2.2.2.2.1, .int .i64 p0.2.2.2.2.2.2.1, .int .i64 p0.2.2.2.2.2.2.2.1, .int .i64 p0.2.2.2.2.2.2.2.2]] w0 fun e w' => ∃ x : Value, e = .returned (x) ∧ Stw ⟨Y, [], w0⟩ [] [row (x) 58 Bw r] w' := by
 refine enter Try.func20 Aa Try.ntmps20 Aa fun a F => ?_
 have W := Stw.start Y w0
 obtain ⟨v7, h1, h_v3⟩ := h_v3.ex Bn
 obtain ⟨v8, h2, h_v4⟩ := h_v4.ex Bn
 obtain ⟨v9, h3, h_v6⟩ := h_v6.ex Fj
 unfold Ck at H
 refine vc tk 2 F W fun a w F W => ?_
 refine Cq (cs := (Cs p0 v1 v2 v3 v4 v5 v6)) F W Aa Aa Aa fun b1 a w F W => ?_
 refine JK tk 15 [0, 0] F W (ai (ai fun a w F W => ?_))
 refine ls F W Aa (P4 F Aa Aa).q fun a w F W => ?_
 refine ls F W Aa (Sr F Aa Aa).q fun a w F W => ?_
 obtain ⟨x1, h4, H⟩ := Ad H
 refine ls F W Aa (AW (v := Value.int .i64 x1) F Wq Aa (fun w W => Oe any w (v1) (v2) p0.1 (min (max p0.2.2.2.2.2.1 0) 1048576) _ h4 (CW (Ab h_v1) W) (CW (Ab h_v2) W))) fun a w F W => ?_
 refine vl tk 2 F W fun a w F W => ?_
 refine Ac ?_
 obtain ⟨o1, G1, K1⟩ := Ad H
 refine Av (fun a w => ∃ x2 : List (Int × Int × Int), ∃ v10 : Value, some (x2) = some o1 ∧ Fr 48 [] [(2, .slice none 0 0), (3, v10)] a ∧ Stw ⟨Y, [], w0⟩ (BP b1 p0 v1 v2 v3 v4 v5 v6) [row v10 58 Bw x2] w) ?_ ?_
 ·
  have H := G1
  clear G1 K1
  refine vc tk 6 F W fun a w F W => ?_
  have W := W.nilRow 58 Bw
  refine AP H (fun s a w => ∃ v11 : Value, Fr 48 [] [(1, .pointer (some ⟨b1, 0, none⟩)), (2, .slice none 0 0), (3, v11), (4, .int .i64 x1), (5, .int .i64 s.2)] a ∧ Stw ⟨Y, [], w0⟩ (BP b1 p0 v1 v2 v3 v4 v5 v6) [row v11 58 Bw s.1] w) ⟨(Value.slice none 0 0), F.ra Aa, W⟩ fun s o a w H L2 hR => ?_
  obtain ⟨x3, x4⟩ := s
  obtain ⟨v11, F, W⟩ := hR
  have F : Fr 48 [] [(1, .pointer (some ⟨b1, 0, none⟩)), (2, .slice none 0 0), (3, v11), (4, .int .i64 x1), (5, .int .i64 x4)] a := F
  have W : Stw ⟨Y, [], w0⟩ (BP b1 p0 v1 v2 v3 v4 v5 v6) [row v11 58 Bw x3] w := W
  rw [BX] at H
  refine Ha tk 7 [0] F W (ai fun a w F W => ?_)
  refine ls F W Aa (A0 (r := Jw) (l := p0.2.2.2.2.1) RG Aa F Aa (Ak Fj h3 (Ab h_v6))).q fun a w F W => ?_
  refine Cc tk 3 F W fun a w F W => ?_
  refine A3 F Aa H (fun F H => ?_) fun F H => ?_
  ·
   refine AD (Ac ?_)
   obtain ⟨o3, G3, K3⟩ := Ad H
   refine Av (fun a w => ∃ x5 : List (Int × Int × Int), ∃ v12 : Value, some (x5) = some o3 ∧ Fr 48 [] [(1, .pointer (some ⟨b1, 0, none⟩)), (2, .slice none 0 0), (3, v12), (4, .int .i64 x1), (5, .int .i64 x4)] a ∧ Stw ⟨Y, [], w0⟩ (BP b1 p0 v1 v2 v3 v4 v5 v6) [row v12 58 Bw x5] w) ?_ ?_
   ·
    have H := G3
    clear G3 K3
    refine vc tk 2 F W fun a w F W => ?_
    refine Cx W MO (by kernel_rfl) ?_
    refine qs F Aa (Ah Q7 Aa Aa Aa TF F Aa 5 Aa).q fun a F => ?_
    refine qs F Aa (Ah Qn Aa Aa Aa Sp F Aa 6 Aa).q fun a F => ?_
    refine qs F Aa (A4 (v := v6) 0 F Aa Aa Sp Aa).q fun a F => ?_
    refine qs F Aa (Am F Aa).q fun a F => ?_
    obtain ⟨x6, h5, H⟩ := Ad H
    obtain ⟨v13, h6, h7⟩ := CE h3 h5
    have h8 : MF v13 = [.int .i64 x6.1, .int .i64 x6.2.1, (v13.2.2.1)] := congrArg (fun q : Int × Int × List Int => ([.int .i64 q.1, .int .i64 q.2.1, (v13.2.2.1)] : List Value)) h7
    refine qs F Aa (Aw (r := PN) TE F Aa Aa (Ab h_v6) h6).q fun a F => ?_
    refine qs F Aa (Ah SP Aa Aa Aa T3 F Aa (Fi v6 + (x4).toNat * 3 + 1) Aa).q fun a F => ?_
    refine qs F Aa (Ai (y := Value.int .i64 x6.2.1) (j := 1) (i := x4) (enc := MF) F Aa Aa (Ab h_v6) h6 R3 T3 (by rw [h8]; rfl)).q fun a F => ?_
    refine qs F Aa (AW (v := Value.int .i64 (Bc x6.2.1)) F VA Aa (fun w W => HU any w x6.2.1 _ Aa)) fun a F => ?_
    refine qs F Aa (Ah Q7 Aa Aa Aa TF F Aa 5 Aa).q fun a F => ?_
    refine qs F Aa (Ah Qn Aa Aa Aa Sp F Aa 6 Aa).q fun a F => ?_
    refine qs F Aa (A4 (v := v6) 0 F Aa Aa Sp Aa).q fun a F => ?_
    refine qs F Aa (Am F Aa).q fun a F => ?_
    refine qs F Aa (QV F Aa Aa Aa).q fun a F => ?_
    obtain ⟨x7, h9, H⟩ := Ad H
    obtain ⟨v14, h10, h11⟩ := CE h3 h9
    have h12 : MF v14 = [.int .i64 x7.1, .int .i64 x7.2.1, (v14.2.2.1)] := congrArg (fun q : Int × Int × List Int => ([.int .i64 q.1, .int .i64 q.2.1, (v14.2.2.1)] : List Value)) h11
    refine qs F Aa (Aw (r := PN) TE F Aa Aa (Ab h_v6) h10).q fun a F => ?_
    refine qs F Aa (Ah SP Aa Aa Aa T3 F Aa (Fi v6 + (A7 (x4 - 1)).toNat * 3 + 1) Aa).q fun a F => ?_
    refine qs F Aa (Ai (y := Value.int .i64 x7.2.1) (j := 1) (i := A7 (x4 - 1)) (enc := MF) F Aa Aa (Ab h_v6) h10 R3 T3 (by rw [h12]; rfl)).q fun a F => ?_
    refine qs F Aa (AW (v := Value.int .i64 (Bc x7.2.1)) F VA Aa (fun w W => HU any w x7.2.1 _ Aa)) fun a F => ?_
    refine qs F Aa (QV F Aa Aa Aa).q fun a F => ?_
    refine qs F Aa (Am F Aa).q fun a F => ?_
    refine qs F Aa (Nz F Aa Aa).q fun a F => ?_
    refine A9 fun w W => ?_
    refine Ac ?_
    refine A3 F Aa H (fun F H => ?_) fun F H => ?_
    ·
     refine vc tk 3 F W fun a w F W => ?_
     refine ls F W Aa (B1 (v := Value.agg #[.int .i64 4, .int .i64 x4, .int .i64 0]) Ts F Aa Aa Aa).q fun a w F W => ?_
     refine CQ (z := Value.agg #[.int .i64 0, .int .i64 0, .int .i64 0]) (cs := [.int .i64 4, .int .i64 x4, .int .i64 0]) Bw ([(4, x4, 0)] : List (Int × Int × Int)) F W Aa Nm Tb Aa Aa Aa Aa Aa Aa (SA.repL _ _ ([(4, x4, 0)] : List (Int × Int × Int))) fun v15 a w F W => ?_
     obtain ⟨x8, h13, H⟩ := Ad H
     refine Cp (r := Bw) (i := 1) F W Aa Nm Aa Aa Aa Aa (Db W 0 Aa) h13 Aa fun v16 a w F W => ?_
     have W : Stw ⟨Y, [], w0⟩ (BP b1 p0 v1 v2 v3 v4 v5 v6) [row v16 58 Bw x8, row v15 58 Bw ([(4, x4, 0)] : List (Int × Int × Int))] w := W
     refine vl tk 2 F W fun a w F W => ?_
     refine Aq (Ac ?_)
     have W := W.sub (M' := (BP b1 p0 v1 v2 v3 v4 v5 v6)) (Z' := [row v16 58 Bw x8]) (List.Sublist.refl _) (List.Sublist.cons_cons _ (List.nil_sublist _))
     exact ⟨_, (v16), H, F.ra Aa, W⟩
    refine AD (Aq (Ac ?_))
    exact ⟨_, (v11), H, F.ra Aa, W⟩
   rintro a w ⟨x5, v12, hj, F, W⟩
   have hj := AA hj
   subst hj
   have H := K3
   clear G3 K3
   refine vc tk 5 F W fun a w F W => ?_
   refine Ac ?_
   exact ⟨_, H, (v12), F.ra Aa, W⟩
  refine AJ ?_
  iterate 2 refine A6 ?_
  refine AM (Ac ?_)
  have H := L2 _ H
  exact ⟨_, (v11), H, F.ra Aa, W⟩
 rintro a w ⟨x2, v10, hj, F, W⟩
 have hj := AA hj
 subst hj
 have H := K1
 clear G1 K1
 refine vc tk 6 F W fun a w F W => ?_
 refine Ao ?_
 have H := AA H
 subst H
 refine AG (.inl Aa) F W Aa (Al F Aa) ?_
 have W := W.sub (M' := []) (Z' := [row v10 58 Bw x2]) (List.nil_sublist _) (List.Sublist.refl _)
 exact ⟨(v10), Aa, W⟩
theorem Wk : Has Try.prog 20 := Ct Try.func20
noncomputable def B8 (p0 : List Int) : Option (List Int) := (FD ([] : List Int) p0).bind fun x1 => some x1
theorem HH (Y : Nat → Prop) (w0 : World) (v1 : Value) (p0 : List Int) (r : List Int) (H : B8 p0 = some r) (s_v1 : Sl w0 Y (Rp.int .i64) v1 p0) :
    Calls Try.prog 60 #[v1] w0 fun e w' => ∃ x : Value, e = .returned (x) ∧ Stw ⟨Y, [], w0⟩ [] [row (x) 3 (Rp.int .i64) r] w' := by
 refine enter Try.func60 Aa Try.ntmps60 Aa fun a F => ?_
 have W := Stw.start Y w0
 have h_v1 := W.nx s_v1
 unfold B8 at H
 refine vc tk 9 F W fun a w F W => ?_
 refine ls F W Aa (QL (r := (Rp.int .i64)) GS F Aa (Ab h_v1)).q fun a w F W => ?_
 refine EF (Ac ?_)
 rcases Po (Ab h_v1) W with ⟨hb, hl⟩ | hb
 ·
  rw [hl] at H
  change some ([] : List Int) = _ at H
  rw [hb] at F
  refine vc tk 6 F W fun a w F W => ?_
  refine Ao (AN ?_)
  have H := AA H
  subst H
  refine AG (.inl Aa) F W Aa (Al F Aa) ?_
  have W := W.nilRow 3 (Rp.int .i64)
  exact ⟨(Value.slice none 0 0), Aa, W⟩
 rw [hb] at F
 refine Ie tk 5 F W fun a w F W => ?_
 refine CQ (z := Value.int .i64 0) (cs := []) (Rp.int .i64) ([] : List Int) F W Aa HT Z3 Aa Aa Aa Aa Aa Aa (Fl.int.repL _ _ ([] : List Int)) fun v2 a w F W => ?_
 refine ls F W Aa (Am F Aa).q fun a w F W => ?_
 obtain ⟨x1, h1, H⟩ := Ad H
 refine Cp (r := (Rp.int .i64)) (i := 0) F W Aa HT Aa Aa Aa Aa (Rr W s_v1) h1 Aa fun v3 a w F W => ?_
 have W : Stw ⟨Y, [], w0⟩ [] [row v3 3 (Rp.int .i64) x1] w := W
 refine Cc tk 3 F W fun a w F W => ?_
 refine Ao ?_
 have H := AA H
 subst H
 refine AG (.inl Aa) F W Aa (Al F Aa) ?_
 exact ⟨(v3), Aa, W⟩
theorem Wz : Has Try.prog 60 := Ct Try.func60
abbrev B2 : Dp (Value × Nat × List Int) := (Dp.sl 3 (Rp.int .i64))
abbrev Dz (p : Value × Nat × List Int) : Nat × List Int := p.2
abbrev PO : (Nat × List Int) → Option (List Int) := S9
theorem Us : Rst B2 (Rp.slice (Rp.int .i64)) Dz PO := Rst.sl
noncomputable def CT (p0 : List (List Int)) : ((List (Nat × List Int)) × Int) → Option (((List (Nat × List Int)) × Int) ⊕ (List (Nat × List Int)))
  | (x2, x3) => (if x3 < (p0.length : Int) then (ix p0 x3).bind fun x4 => (B8 x4).bind fun x5 => (FD x2 ([(2, x5)] : List (Nat × List Int))).bind fun x6 => some (.inl (x6, A7 (x3 + 1))) else some (.inr x2))
noncomputable def CZ (p0 : List (List Int)) : Option (List (Nat × List Int)) := (An (CT p0) ([], 0)).bind fun x1 => some x1
theorem KY (Y : Nat → Prop) (w0 : World) (v1 : Value) (p0 : List (List Int)) (r : (List (Nat × List Int))) (H : CZ p0 = some r) (s_v1 : Sl w0 Y (Rp.slice (Rp.int .i64)) v1 p0) :
    Calls Try.prog 37 #[v1] w0 fun e w' => ∃ x : Value × ({x : List (Value × Nat × List Int) // x.map Dz = r}), e = .returned (x.1) ∧ Stw ⟨Y, [], w0⟩ [] [AF (x.1) 46 B2 (x.2.1)] w' := by
 refine enter Try.func37 Aa Try.ntmps37 Aa fun a F => ?_
 have W := Stw.start Y w0
 obtain ⟨v2, h1, s_v1⟩ := s_v1.ex Bn
 have h_v1 := W.nx s_v1
 unfold CZ at H
 refine vc tk 10 F W fun a w F W => ?_
 obtain ⟨o1, G1, K1⟩ := Ad H
 refine Av (fun a w => ∃ x1 : List (Nat × List Int), ∃ v3 : Value, ∃ g_x1 : {x : List (Value × Nat × List Int) // x.map Dz = x1}, some (x1) = some o1 ∧ Fr 19 [] [(2, .slice none 0 0), (3, v3)] a ∧ Stw ⟨Y, [], w0⟩ [] [AF v3 46 B2 g_x1.1] w) ?_ ?_
 ·
  have H := G1
  clear G1 K1
  refine vc tk 3 F W fun a w F W => ?_
  refine ls F W Aa (A0 (r := (Rp.slice (Rp.int .i64))) (l := p0) I7 Aa F Aa (Ak Bn h1 (Ab h_v1))).q fun a w F W => ?_
  refine Cc tk 4 F W fun a w F W => ?_
  have W := W.dNil 46 B2
  have h2 : List.map Dz ([] : List (Value × Nat × List Int)) = ([] : List (Nat × List Int)) := Aa
  refine AP H (fun s a w => ∃ v4 : Value, ∃ g_x2 : {x : List (Value × Nat × List Int) // x.map Dz = s.1}, Fr 19 [] [(2, .slice none 0 0), (3, v4), (6, v1), (7, .int .i64 (p0.length : Int)), (8, .int .i64 s.2)] a ∧ Stw ⟨Y, [], w0⟩ [] [AF v4 46 B2 g_x2.1] w) ⟨(Value.slice none 0 0), ⟨([] : List (Value × Nat × List Int)), h2⟩, F.ra Aa, W⟩ fun s o a w H L2 hR => ?_
  obtain ⟨x2, x3⟩ := s
  obtain ⟨v4, g_x2, F, W⟩ := hR
  have F : Fr 19 [] [(2, .slice none 0 0), (3, v4), (6, v1), (7, .int .i64 (p0.length : Int)), (8, .int .i64 x3)] a := F
  have W : Stw ⟨Y, [], w0⟩ [] [AF v4 46 B2 g_x2.1] w := W
  rw [CT] at H
  refine vc tk 6 F W fun a w F W => ?_
  refine A3 F Aa H (fun F H => ?_) fun F H => ?_
  ·
   refine Ie tk 6 F W fun a w F W => ?_
   obtain ⟨x4, h3, H⟩ := Ad H
   obtain ⟨v5, h4, h5⟩ := CE h1 h3
   have h6 : Em v5 = [(v5.1)] := congrArg (fun q : List Int => ([(v5.1)] : List Value)) h5
   refine ls F W Aa (Aw (r := (Rp.vsl (Rp.int .i64))) LF F Aa Aa (Ab h_v1) h4).q fun a w F W => ?_
   refine ls F W Aa (Ai (y := (v5.1)) (j := 0) (i := x3) (enc := Em) F Aa Aa (Ab h_v1) h4 Ik Kj (by rw [h6]; rfl)).q fun a w F W => ?_
   refine Cc tk 6 F W fun a w F W => ?_
   obtain ⟨x5, h7, H⟩ := Ad H
   refine CJ (Ml := []) (Zl := []) (β := Value) (rv := fun x => x) (MM := fun x => []) (ZZ := fun x => [row x 3 (Rp.int .i64) x5]) F W Wz Aa Aa (fun hL => HH _ w ((v5.1)) x4 _ h7 (Sl.at_ (W.old s_v1) h4 Cd.here (congrArg (fun q : List Int => q) h5))) fun x a w F W => ?_
   obtain ⟨v6, rfl⟩ : ∃ y, y = x := ⟨x, rfl⟩
   have W : Stw ⟨Y, [], w0⟩ [] [row v6 3 (Rp.int .i64) x5, AF v4 46 B2 g_x2.1] w := W
   have h8 : Value.oneCell' v6 = true := (W.one (k := 0) Aa)
   have W := W.toR
   refine CQ (z := Value.slice none 0 0) (cs := [v6]) B2.hr ([(v6, 2, x5)] : List (Value × Nat × List Int)) F W Aa LF Uz Aa Aa Aa (AS Aa (BD h8) Aa DW) Aa Aa ⟨[v6], _, Aa, ⟨rfl, (AX h8 GO)⟩, Aa⟩ fun v7 a w F W => ?_
   have W := Stw.dShutL (D := B2) (lx := ([(v6, 2, x5)] : List (Value × Nat × List Int))) W
   have h9 : List.map Dz ([(v6, 2, x5)] : List (Value × Nat × List Int)) = ([(2, x5)] : List (Nat × List Int)) := Aa
   have W : Stw ⟨Y, [], w0⟩ [] [AF v7 46 B2 ([(v6, 2, x5)] : List (Value × Nat × List Int)), AF v4 46 B2 g_x2.1] w := W
   have W := W.frontZ (i := 1) Aa Aa
   obtain ⟨x6, h10, H⟩ := Ad H
   refine KW (D := B2) F W Aa LF Aa Aa (MJ (er := Dz) g_x2.2 h9 h10).1 Aa fun v8 a w F W => ?_
   have h11 : List.map Dz (g_x2.1 ++ ([(v6, 2, x5)] : List (Value × Nat × List Int))) = x6 := (MJ (er := Dz) g_x2.2 h9 h10).2
   have W : Stw ⟨Y, [], w0⟩ [] [AF v8 46 B2 (g_x2.1 ++ ([(v6, 2, x5)] : List (Value × Nat × List Int)))] w := W
   refine vl tk 2 F W fun a w F W => ?_
   refine Aq ?_
   refine vn tk 4 F W fun a w F W => ?_
   refine Ac ?_
   exact ⟨_, H, (v8), ⟨(g_x2.1 ++ ([(v6, 2, x5)] : List (Value × Nat × List Int))), h11⟩, F.ra Aa, W⟩
  refine AJ ?_
  iterate 2 refine A6 ?_
  refine AM (Ac ?_)
  have H := L2 _ H
  exact ⟨_, (v4), ⟨g_x2.1, g_x2.2⟩, H, F.ra Aa, W⟩
 rintro a w ⟨x1, v3, g_x1, hj, F, W⟩
 have hj := AA hj
 subst hj
 have H := K1
 clear G1 K1
 refine vc tk 6 F W fun a w F W => ?_
 refine Ao ?_
 have H := AA H
 subst H
 refine AG (.inl Aa) F W Aa (Al F Aa) ?_
 exact ⟨((v3), ⟨g_x1.1, g_x1.2⟩), Aa, W⟩
theorem UT : type_of% Try.underlying26 := Try.underlying26
theorem T8 : type_of% Try.underlying83 := Try.underlying83
theorem Wr : Has Try.prog 37 := Ct Try.func37
theorem Vu : (Try.prog.info? 65).bind (·.zero) = some (.agg #[.int .i64 0, .int .i64 0, .slice none 0 0]) := by kernel_rfl
abbrev BL : Dp (Value × Nat × List (Value × Nat × List Int)) := (Dp.dl 46 B2)
abbrev Dy (p : Value × Nat × List (Value × Nat × List Int)) : Nat × List (Nat × List Int) := (p.2.1, p.2.2.map Dz)
abbrev RP : (Nat × List (Nat × List Int)) → Option (List (List Int)) := (Ux PO)
theorem U9 : Rst BL (Rp.slice (Rp.slice (Rp.int .i64))) Dy RP := (Rst.dl Us)
theorem TH : Et Try.prog 83 26 1 24 := Et.of T8 (by kernel_rfl) (by kernel_rfl) (by kernel_rfl) (by decide)
theorem VP : (Try.prog.info? 26).bind (·.zero) = some (.slice none 0 0) := by kernel_rfl
theorem Uj : Ty Try.prog 26 false 1 := ⟨by kernel_rfl, by kernel_rfl⟩
theorem T0 : Et Try.prog 26 46 1 24 := Et.of UT (by kernel_rfl) (by kernel_rfl) (by kernel_rfl) (by decide)
noncomputable def Cz (x4 : Int) (x6 : List Int) : ((List (Nat × List (Nat × List Int))) × Int) → Option (((List (Nat × List (Nat × List Int))) × Int) ⊕ (List (Nat × List (Nat × List Int))))
  | (x7, x8) => (if x8 < (x6.length : Int) then (ix x6 x8).bind fun x9 => (ix x7 x4).bind fun x10 => (Il x10.1).bind fun x11 => (FD x10.2 ([(2, ([x9] : List Int))] : List (Nat × List Int))).bind fun x12 => (ix (Ag x7 x4 (0, [])) x4).bind fun x13 => some (.inl ((Ag (Ag x7 x4 (0, [])) x4 (2, x12)), A7 (x8 + 1))) else some (.inr x7))
noncomputable def CS (p0 : List (List Int)) : ((List (Nat × List (Nat × List Int))) × Int) → Option (((List (Nat × List (Nat × List Int))) × Int) ⊕ (List (Nat × List (Nat × List Int))))
  | (x3, x4) => (if x4 < (p0.length : Int) then ((ix p0 x4).bind fun x6 => An (Cz x4 x6) (x3, 0)).bind fun x5 => some (.inl (x5, A7 (x4 + 1))) else some (.inr x3))
noncomputable def DO (p0 : List (List Int)) : Option (List (Nat × List (Nat × List Int))) := (mk (p0.length : Int) ((2, []) : Nat × List (Nat × List Int))).bind fun x1 => (An (CS p0) (x1, 0)).bind fun x2 => some x2
theorem Lz (Y : Nat → Prop) (w0 : World) (v1 : Value) (p0 : List (List Int)) (r : (List (Nat × List (Nat × List Int)))) (H : DO p0 = some r) (h_v1 : Sl w0 (NX []) (Rp.slice (Rp.int .i64)) v1 p0) :
    Calls Try.prog 38 #[v1] w0 fun e w' => ∃ x : Value × ({x : List (Value × Nat × List (Value × Nat × List Int)) // x.map Dy = r}), e = .returned (x.1) ∧ Stw ⟨Y, [], w0⟩ [] [AF (x.1) 26 BL (x.2.1)] w' := by
 refine enter Try.func38 Aa Try.ntmps38 Aa fun a F => ?_
 have W := Stw.start Y w0
 obtain ⟨v2, h1, h_v1⟩ := h_v1.ex Bn
 unfold DO at H
 refine vc tk 8 F W fun a w F W => ?_
 refine ls F W Aa (A0 (r := (Rp.slice (Rp.int .i64))) (l := p0) I7 Aa F Aa (Ak Bn h1 (Ab h_v1))).q fun a w F W => ?_
 obtain ⟨x1, h2, H⟩ := Ad H
 have h3 := Uw (er := Dy) (z := (Value.slice none 0 0, 2, [])) h2
 refine Te (r := BL.hr) (Value.slice none 0 0, 2, []) F W Aa TH VP Aa Aa (fun w A => ⟨rfl, Aa⟩) h3.1 Aa fun v3 a w F W => ?_
 have W := Stw.dNew (D := BL) Nl.dl W
 have h4 : List.map Dy (List.replicate ((p0.length : Int)).toNat ((Value.slice none 0 0, 2, []) : Value × Nat × List (Value × Nat × List Int))) = x1 := h3.2
 have W : Stw ⟨Y, [], w0⟩ [] [AF v3 26 BL (List.replicate ((p0.length : Int)).toNat ((Value.slice none 0 0, 2, []) : Value × Nat × List (Value × Nat × List Int)))] w := W
 refine vl tk 2 F W fun a w F W => ?_
 refine Ac ?_
 obtain ⟨o1, G1, K1⟩ := Ad H
 refine Av (fun a w => ∃ x2 : List (Nat × List (Nat × List Int)), ∃ g_x2 : {x : List (Value × Nat × List (Value × Nat × List Int)) // x.map Dy = x2}, some (x2) = some o1 ∧ Fr 38 [] [(2, .slice none 0 0), (3, v3)] a ∧ Stw ⟨Y, [], w0⟩ [] [AF v3 26 BL g_x2.1] w) ?_ ?_
 ·
  have H := G1
  clear G1 K1
  refine vc tk 3 F W fun a w F W => ?_
  refine ls F W Aa (A0 (r := (Rp.slice (Rp.int .i64))) (l := p0) I7 Aa F Aa (Ak Bn h1 (Ab h_v1))).q fun a w F W => ?_
  refine Cc tk 4 F W fun a w F W => ?_
  refine AP H (fun s a w => ∃ g_x3 : {x : List (Value × Nat × List (Value × Nat × List Int)) // x.map Dy = s.1}, Fr 38 [] [(2, .slice none 0 0), (3, v3), (11, v1), (12, .int .i64 (p0.length : Int)), (13, .int .i64 s.2)] a ∧ Stw ⟨Y, [], w0⟩ [] [AF v3 26 BL g_x3.1] w) ⟨⟨(List.replicate ((p0.length : Int)).toNat ((Value.slice none 0 0, 2, []) : Value × Nat × List (Value × Nat × List Int))), h4⟩, F.ra Aa, W⟩ fun s o a w H L2 hR => ?_
  obtain ⟨x3, x4⟩ := s
  obtain ⟨g_x3, F, W⟩ := hR
  have F : Fr 38 [] [(2, .slice none 0 0), (3, v3), (11, v1), (12, .int .i64 (p0.length : Int)), (13, .int .i64 x4)] a := F
  have W : Stw ⟨Y, [], w0⟩ [] [AF v3 26 BL g_x3.1] w := W
  rw [CS] at H
  refine vc tk 6 F W fun a w F W => ?_
  refine A3 F Aa H (fun F H => ?_) fun F H => ?_
  ·
   refine AD (Ac ?_)
   obtain ⟨o3, G3, K3⟩ := Ad H
   refine Av (fun a w => ∃ x5 : List (Nat × List (Nat × List Int)), ∃ g_x5 : {x : List (Value × Nat × List (Value × Nat × List Int)) // x.map Dy = x5}, some (x5) = some o3 ∧ Fr 38 [] [(2, .slice none 0 0), (3, v3), (11, v1), (12, .int .i64 (p0.length : Int)), (13, .int .i64 x4)] a ∧ Stw ⟨Y, [], w0⟩ [] [AF v3 26 BL g_x5.1] w) ?_ ?_
   ·
    have H := G3
    clear G3 K3
    refine vc tk 4 F W fun a w F W => ?_
    obtain ⟨x6, h5, H⟩ := Ad H
    obtain ⟨v4, h6, h7⟩ := CE h1 h5
    have h8 : Em v4 = [(v4.1)] := congrArg (fun q : List Int => ([(v4.1)] : List Value)) h7
    refine ls F W Aa (Aw (r := (Rp.vsl (Rp.int .i64))) LF F Aa Aa (Ab h_v1) h6).q fun a w F W => ?_
    refine ls F W Aa (Ai (y := (v4.1)) (j := 0) (i := x4) (enc := Em) F Aa Aa (Ab h_v1) h6 Ik Kj (by rw [h8]; rfl)).q fun a w F W => ?_
    refine Cc tk 7 F W fun a w F W => ?_
    refine ls F W Aa (A0 (r := (Rp.int .i64)) (l := x6) GS Aa F Aa (BE (Ab h_v1) h6 Cd.here (congrArg (fun q : List Int => q) h7))).q fun a w F W => ?_
    refine Cc tk 4 F W fun a w F W => ?_
    refine AP H (fun s a w => ∃ g_x7 : {x : List (Value × Nat × List (Value × Nat × List Int)) // x.map Dy = s.1}, Fr 38 [] [(2, .slice none 0 0), (3, v3), (4, .int .i64 x4), (11, v1), (12, .int .i64 (p0.length : Int)), (13, .int .i64 x4), (18, (v4.1)), (19, .int .i64 (x6.length : Int)), (20, .int .i64 s.2)] a ∧ Stw ⟨Y, [], w0⟩ [] [AF v3 26 BL g_x7.1] w) ⟨⟨g_x3.1, g_x3.2⟩, F.ra Aa, W⟩ fun s o a w H L4 hR => ?_
    obtain ⟨x7, x8⟩ := s
    obtain ⟨g_x7, F, W⟩ := hR
    have F : Fr 38 [] [(2, .slice none 0 0), (3, v3), (4, .int .i64 x4), (11, v1), (12, .int .i64 (p0.length : Int)), (13, .int .i64 x4), (18, (v4.1)), (19, .int .i64 (x6.length : Int)), (20, .int .i64 x8)] a := F
    have W : Stw ⟨Y, [], w0⟩ [] [AF v3 26 BL g_x7.1] w := W
    rw [Cz] at H
    refine vc tk 6 F W fun a w F W => ?_
    refine A3 F Aa H (fun F H => ?_) fun F H => ?_
    ·
     refine Ie tk 6 F W fun a w F W => ?_
     obtain ⟨x9, h9, H⟩ := Ad H
     refine ls F W Aa (Aw (r := (Rp.int .i64)) HT F Aa Aa (BE (Ab h_v1) h6 Cd.here (congrArg (fun q : List Int => q) h7)) h9).q fun a w F W => ?_
     refine ls F W Aa (Ai (y := Value.int .i64 x9) (j := 0) (i := x8) F Aa Aa (BE (Ab h_v1) h6 Cd.here (congrArg (fun q : List Int => q) h7)) h9 Fl.int.to T3 Aa).q fun a w F W => ?_
     refine Cc tk 8 F W fun a w F W => ?_
     obtain ⟨x10, h10, H⟩ := Ad H
     obtain ⟨v5, h11, h12⟩ := CE (er := Dy) g_x7.2 h10
     refine ls F W Aa (Aw (r := BL.hr) TH F Aa Aa (KN.hd (GK 0 Aa)) h11).q fun a w F W => ?_
     have h13 : BL.cells v5 = [(v5.1)] := congrArg (fun q : Nat × List (Nat × List Int) => ([(v5.1)] : List Value)) h12
     refine ls F W Aa (Ai (y := (v5.1)) (j := 0) (i := x4) (enc := BL.cells) F Aa Aa (KN.hd (GK 0 Aa)) h11 BL.flat Uj (by rw [h13]; rfl)).q fun a w F W => ?_
     refine ls F W Aa (Am F Aa).q fun a w F W => ?_
     refine CQ (z := Value.int .i64 0) (cs := [.int .i64 x9]) (Rp.int .i64) ([x9] : List Int) F W Aa HT Z3 Aa Aa Aa Aa Aa Aa (Fl.int.repL _ _ ([x9] : List Int)) fun v6 a w F W => ?_
     have h14 : Value.oneCell' v6 = true := (W.one (k := 0) Aa)
     have W := W.toR
     refine CQ (z := Value.slice none 0 0) (cs := [v6]) B2.hr ([(v6, 2, ([x9] : List Int))] : List (Value × Nat × List Int)) F W Aa T0 Uz Aa Aa Aa (AS Aa (BD h14) Aa DW) Aa Aa ⟨[v6], _, Aa, ⟨rfl, (AX h14 GO)⟩, Aa⟩ fun v7 a w F W => ?_
     have W := Stw.dShutL (D := B2) (lx := ([(v6, 2, ([x9] : List Int))] : List (Value × Nat × List Int))) W
     have h15 : List.map Dz ([(v6, 2, ([x9] : List Int))] : List (Value × Nat × List Int)) = ([(2, ([x9] : List Int))] : List (Nat × List Int)) := Aa
     have W : Stw ⟨Y, [], w0⟩ [] [AF v7 46 B2 ([(v6, 2, ([x9] : List Int))] : List (Value × Nat × List Int)), AF v3 26 BL g_x7.1] w := W
     obtain ⟨x11, h16, H⟩ := Ad H
     have W := W.frontZ (i := 1) Aa Aa
     have W := W.dTakeD h11 Foc.here ((congrArg (fun q : Nat × List (Nat × List Int) => q.1) h12).trans (IG h16))
     have h17 : List.map Dy (Ag g_x7.1 x4 ((v5.1), 0, [])) = (Ag x7 x4 (0, [])) := (Hb g_x7.2 (congrArg (fun q : Nat × List (Nat × List Int) => (0, [])) h12))
     have W : Stw ⟨Y, [], w0⟩ [] [AF (v5.1) 46 B2 (v5.2.2), AF v3 26 BL (Ag g_x7.1 x4 ((v5.1), 0, [])), AF v7 46 B2 ([(v6, 2, ([x9] : List Int))] : List (Value × Nat × List Int))] w := W
     have W := W.frontZ (i := 2) Aa Aa
     have W := W.frontZ (i := 1) Aa Aa
     obtain ⟨x12, h18, H⟩ := Ad H
     refine KW (D := B2) F W Aa T0 Aa Aa (MJ (er := Dz) (congrArg (fun q : Nat × List (Nat × List Int) => q.2) h12) h15 h18).1 Aa fun v8 a w F W => ?_
     have h19 : List.map Dz ((v5.2.2) ++ ([(v6, 2, ([x9] : List Int))] : List (Value × Nat × List Int))) = x12 := (MJ (er := Dz) (congrArg (fun q : Nat × List (Nat × List Int) => q.2) h12) h15 h18).2
     have W : Stw ⟨Y, [], w0⟩ [] [AF v8 46 B2 ((v5.2.2) ++ ([(v6, 2, ([x9] : List Int))] : List (Value × Nat × List Int))), AF v3 26 BL (Ag g_x7.1 x4 ((v5.1), 0, []))] w := W
     obtain ⟨x13, h20, H⟩ := Ad H
     obtain ⟨v9, h21, h22⟩ := CE (er := Dy) h17 h20
     refine ls F W Aa (Aw (r := BL.hr) TH F Aa Aa (KN.hd (GK 1 Aa)) h21).q fun a w F W => ?_
     have h23 : Value.oneCell' v8 = true := (W.oneD 0 Aa)
     have W := W.frontZ (i := 1) Aa Aa
     have W := W.frontZ (i := 1) Aa Aa
     have W := W.toD
     refine Lg (D := BL) (S := (Dp.dl 46 B2)) (b := (v8, 2, ((v5.2.2) ++ ([(v6, 2, ([x9] : List Int))] : List (Value × Nat × List Int))))) (i := x4) (j := 0) Foc.here F W Aa Aa Aa h21 Uj (BD h23) Aa h23 Aa fun w W => ?_
     have h24 : Dy (v8, 2, ((v5.2.2) ++ ([(v6, 2, ([x9] : List Int))] : List (Value × Nat × List Int)))) = (2, x12) := by simp only [Dy, h19]
     have h25 : List.map Dy (Ag (Ag g_x7.1 x4 ((v5.1), 0, [])) x4 (v8, 2, ((v5.2.2) ++ ([(v6, 2, ([x9] : List Int))] : List (Value × Nat × List Int))))) = (Ag (Ag x7 x4 (0, [])) x4 (2, x12)) := (Hb h17 h24)
     have W : Stw ⟨Y, [], w0⟩ [] [AF v3 26 BL (Ag (Ag g_x7.1 x4 ((v5.1), 0, [])) x4 (v8, 2, ((v5.2.2) ++ ([(v6, 2, ([x9] : List Int))] : List (Value × Nat × List Int)))))] w := W
     refine EF (Aq ?_)
     refine vn tk 4 F W fun a w F W => ?_
     refine Ac ?_
     exact ⟨_, H, ⟨(Ag (Ag g_x7.1 x4 ((v5.1), 0, [])) x4 (v8, 2, ((v5.2.2) ++ ([(v6, 2, ([x9] : List Int))] : List (Value × Nat × List Int))))), h25⟩, F.ra Aa, W⟩
    refine AJ ?_
    iterate 2 refine A6 ?_
    refine AM (Aq (Ac ?_))
    have H := L4 _ H
    exact ⟨_, ⟨g_x7.1, g_x7.2⟩, H, F.ra Aa, W⟩
   rintro a w ⟨x5, g_x5, hj, F, W⟩
   have hj := AA hj
   subst hj
   have H := K3
   clear G3 K3
   refine vc tk 4 F W fun a w F W => ?_
   refine Ac ?_
   exact ⟨_, H, ⟨g_x5.1, g_x5.2⟩, F.ra Aa, W⟩
  refine AJ ?_
  iterate 2 refine A6 ?_
  refine AM (Ac ?_)
  have H := L2 _ H
  exact ⟨_, ⟨g_x3.1, g_x3.2⟩, H, F.ra Aa, W⟩
 rintro a w ⟨x2, g_x2, hj, F, W⟩
 have hj := AA hj
 subst hj
 have H := K1
 clear G1 K1
 refine vc tk 6 F W fun a w F W => ?_
 refine Ao ?_
 have H := AA H
 subst H
 refine AG (.inl Aa) F W Aa (Al F Aa) ?_
 exact ⟨((v3), ⟨g_x2.1, g_x2.2⟩), Aa, W⟩
theorem OI : type_of% Try.underlying111 := Try.underlying111
theorem Lf : type_of% Try.underlying112 := Try.underlying112
theorem WH : Has Try.prog 38 := Ct Try.func38
abbrev U3 (p : Value × List (Value × List Int)) : List (List Int) := (p.2.map Uy)
theorem T1 : Ex (Rp.slice (Rp.slice (Rp.int .i64))) (Rp.vsl (Rp.vsl (Rp.int .i64))) U3 := (Ex.slice Bn)
abbrev SO (a : Value × List (Value × List Int)) : List Value := [a.1]
theorem U0 : GB (Rp.vsl (Rp.vsl (Rp.int .i64))) SO := GB.vsl
theorem US : Bt Try.prog 112 [.int .i64 0, .int .i64 0] [(0, 1), (1, 1)] := ⟨⟨.agg #[.int .i64 0, .int .i64 0], by kernel_rfl, rfl⟩, ⟨_, Lf, fun w => by kernel_rfl⟩⟩
theorem Rn : (Try.prog.info? 112).bind (·.zero) = some (.agg #[.int .i64 0, .int .i64 0]) := by kernel_rfl
abbrev Fa : Rp (Int × Int) := (Rp.pair (Rp.int .i64) (Rp.int .i64))
def U4 (a : Int × Int) : List Value := [.int .i64 a.1, .int .i64 a.2]
theorem RK : Fl Fa U4 := (Fl.pair Fl.int Fl.int)
theorem Q9 : Et Try.prog 111 112 2 16 := Et.of OI (by kernel_rfl) (by kernel_rfl) (by kernel_rfl) (by decide)
theorem PJ : Ty Try.prog 112 true 2 := ⟨by kernel_rfl, by kernel_rfl⟩
noncomputable def DD (p0 : Int) (p1 : List (Int × Int)) : Int → Option (Int ⊕ (Unit ⊕ Bool))
  | x1 => (if x1 < (p1.length : Int) then (ix p1 x1).bind fun x2 => (if (decide (x2.1 < 0) || (decide (p0 ≤ x2.1) || (decide (x2.2 < 0) || decide (p0 ≤ x2.2)))) = true then some (.inr (.inr false)) else some (.inl (A7 (x1 + 1)))) else some (.inr (.inl ())))
noncomputable def En (p0 : Int) (p1 : List (Int × Int)) : Option Bool := (if (decide (p0 < 0) || decide (16 < p0)) = true then some false else EZ (An (DD p0 p1) 0) fun _ => some true)
theorem LL (Y : Nat → Prop) (w0 : World) (v1 : Value) (p0 : Int) (p1 : List (Int × Int)) (r : Bool) (H : En p0 p1 = some r) (h_v1 : Sl w0 (NX []) Fa v1 p1) :
    Calls Try.prog 79 #[.int .i64 p0, v1] w0 fun e w' => e = .returned (.bool r) ∧ Below w0.heap.size w0 w' := by
 refine enter Try.func79 Aa Try.ntmps79 Aa fun a F => ?_
 have W := Stw.start Y w0
 unfold En at H
 refine vc tk 6 F W fun a w F W => ?_
 refine Av (fun a w => Fr 40 [] [(0, .int .i64 p0), (1, v1), (4, .bool false), (12, .bool (decide (p0 < 0) || decide (16 < p0)))] a ∧ Stw ⟨Y, [], w0⟩ [] [] w) ?_ ?_
 ·
  refine vc tk 4 F W fun a w F W => ?_
  rcases Bool.eq_false_or_eq_true (decide (p0 < 0)) with hb0 | hb0
  ·
   rw [hb0] at F
   refine vl tk 4 F W fun a w F W => ?_
   refine Ac ?_
   exact ⟨F.re ⟨rfl, Aa, Aa, (JW (by try rw [hb0]; all_goals simp only [Ka])), trivial⟩, W⟩
  rw [hb0] at F
  refine vl tk 4 F W fun a w F W => ?_
  refine Ac ?_
  exact ⟨F.re ⟨rfl, Aa, Aa, (JW (by try rw [hb0]; all_goals simp only [Ka])), trivial⟩, W⟩
 rintro a w ⟨F, W⟩
 refine D8 F Aa H (fun F H => ?_) fun F H => ?_
 ·
  refine vc tk 5 F W fun a w F W => ?_
  refine Ao (AN ?_)
  have H := AA H
  subst H
  refine AG (.inl Aa) F W Aa (Al F Aa) ?_
  exact ⟨rfl, W.done⟩
 refine AD (Ac ?_)
 obtain ⟨o1, G1, K1, L1⟩ := L9 H
 refine Av (fun a w => some (Sum.inl ()) = some o1 ∧ Fr 40 [] [(4, .bool false)] a ∧ Stw ⟨Y, [], w0⟩ [] [] w) ?_ ?_
 ·
  have H := G1
  clear G1 K1
  refine vc tk 3 F W fun a w F W => ?_
  refine ls F W Aa (A0 (r := Fa) (l := p1) OI Aa F Aa (Ab h_v1)).q fun a w F W => ?_
  refine Cc tk 4 F W fun a w F W => ?_
  refine AP H (fun s a w => Fr 40 [] [(0, .int .i64 p0), (4, .bool false), (13, v1), (14, .int .i64 (p1.length : Int)), (15, .int .i64 s)] a ∧ Stw ⟨Y, [], w0⟩ [] [] w) ⟨F.ra Aa, W⟩ fun s o a w H L2 hR => ?_
  obtain ⟨x1, rfl⟩ : ∃ x, x = s := ⟨s, rfl⟩
  obtain ⟨F, W⟩ := hR
  have F : Fr 40 [] [(0, .int .i64 p0), (4, .bool false), (13, v1), (14, .int .i64 (p1.length : Int)), (15, .int .i64 x1)] a := F
  have W : Stw ⟨Y, [], w0⟩ [] [] w := W
  rw [DD] at H
  refine vc tk 6 F W fun a w F W => ?_
  refine A3 F Aa H (fun F H => ?_) fun F H => ?_
  ·
   refine Ie tk 6 F W fun a w F W => ?_
   obtain ⟨x2, h1, H⟩ := Ad H
   refine ls F W Aa (Aw (r := Fa) Q9 F Aa Aa (Ab h_v1) h1).q fun a w F W => ?_
   refine ls F W Aa (Ai (y := Value.agg #[.int .i64 x2.1, .int .i64 x2.2]) (j := 0) (i := x1) F Aa Aa (Ab h_v1) h1 RK.to PJ Aa).q fun a w F W => ?_
   refine B9 (cs := [.int .i64 0, .int .i64 0]) F W Aa Rn Aa fun b1 a w F W => ?_
   refine F6 0 F W Aa Aa Aa PJ Aa Aa Aa fun w W => ?_
   refine Cc tk 2 F W fun a w F W => ?_
   refine Av (fun a w => Fr 40 [] [(0, .int .i64 p0), (4, .bool false), (13, v1), (14, .int .i64 (p1.length : Int)), (15, .int .i64 x1), (38, .bool (decide (x2.1 < 0) || (decide (p0 ≤ x2.1) || (decide (x2.2 < 0) || decide (p0 ≤ x2.2)))))] a ∧ Stw ⟨Y, [], w0⟩ (OK b1 x2) [] w) ?_ ?_
   ·
    refine Ha tk 5 [0] F W (ai fun a w F W => ?_)
    rcases Bool.eq_false_or_eq_true (decide (x2.1 < 0)) with hb0 | hb0
    ·
     rw [hb0] at F
     refine vl tk 17 F W fun a w F W => ?_
     refine Ac ?_
     exact ⟨F.re ⟨rfl, Aa, Aa, Aa, Aa, (JW (by try rw [hb0]; all_goals simp only [Ka])), trivial⟩, W⟩
    rw [hb0] at F
    refine Jl tk 6 [0] F W (ai fun a w F W => ?_)
    rcases Bool.eq_false_or_eq_true (decide (p0 ≤ x2.1)) with hb1 | hb1
    ·
     rw [hb1] at F
     refine vl tk 11 F W fun a w F W => ?_
     refine Ac ?_
     exact ⟨F.re ⟨rfl, Aa, Aa, Aa, Aa, (JW (by try rw [hb1]; try rw [hb0]; all_goals simp only [Ka])), trivial⟩, W⟩
    rw [hb1] at F
    refine Jl tk 5 [0] F W (ai fun a w F W => ?_)
    rcases Bool.eq_false_or_eq_true (decide (x2.2 < 0)) with hb2 | hb2
    ·
     rw [hb2] at F
     refine vl tk 6 F W fun a w F W => ?_
     refine Ac ?_
     exact ⟨F.re ⟨rfl, Aa, Aa, Aa, Aa, (JW (by try rw [hb1]; try rw [hb0]; try rw [hb2]; all_goals simp only [Ka])), trivial⟩, W⟩
    rw [hb2] at F
    refine Jl tk 6 [0] F W (ai fun a w F W => ?_)
    refine Ac ?_
    exact ⟨F.re ⟨rfl, Aa, Aa, Aa, Aa, (JW (by try rw [hb1]; try rw [hb0]; try rw [hb2]; all_goals simp only [Ka])), trivial⟩, W⟩
   rintro a w ⟨F, W⟩
   refine D8 F Aa H (fun F H => ?_) fun F H => ?_
   ·
    refine vc tk 5 F W fun a w F W => ?_
    refine Ao (AR ?_)
    iterate 2 refine AN ?_
    refine AR (AN ?_)
    have H := L2 _ H
    have H := L1 _ H
    have H := AA H
    subst H
    refine AG (.inl Aa) F W Aa (Al F Aa) ?_
    exact ⟨rfl, W.done⟩
   refine AD (Aq ?_)
   refine vn tk 4 F W fun a w F W => ?_
   refine Ac ?_
   have W := W.sub (M' := []) (Z' := []) (List.nil_sublist _) (List.Sublist.refl _)
   exact ⟨_, H, F.ra Aa, W⟩
  refine AJ ?_
  iterate 2 refine A6 ?_
  refine AM (Ac ?_)
  have H := L2 _ H
  exact ⟨H, F.ra Aa, W⟩
 rintro a w ⟨hj, F, W⟩
 have H := K1 _ hj
 clear hj G1 K1 L1
 refine vc tk 5 F W fun a w F W => ?_
 refine Ao ?_
 have H := AA H
 subst H
 refine AG (.inl Aa) F W Aa (Al F Aa) ?_
 exact ⟨rfl, W.done⟩
theorem TN : type_of% Try.underlying134 := Try.underlying134
theorem VQ : Has Try.prog 79 := Ct Try.func79
theorem QY : (Try.prog.info? 134).bind (·.zero) = some (.agg #[.int .u32 0, .int .u32 0, .int .u32 0, .int .u32 0, .int .u32 0, .int .u32 0, .int .u32 0, .int .u32 0, .int .u32 0, .int .u32 0, .int .u32 0, .int .u32 0, .int .u32 0, .int .u32 0, .int .u32 0, .int .u32 0]) := by kernel_rfl
theorem Kn : Ar Try.prog 134 16 133 1 := ⟨TN, by kernel_rfl⟩
theorem NC : Ty Try.prog 133 false 1 := ⟨by kernel_rfl, by kernel_rfl⟩
noncomputable def BQ (p0 : Int) (p1 : Int) : Option Int := (SD (PB .u32 1 p1) p1).bind fun x1 => some (PV .u32 p0 x1)
theorem Fy (Y : Nat → Prop) (w0 : World)  (p0 : Int) (p1 : Int) (r : Int) (H : BQ p0 p1 = some r)  :
    Calls Try.prog 88 #[.int .u32 p0, .int .i64 p1] w0 fun e w' => e = .returned (.int .u32 r) ∧ Below w0.heap.size w0 w' := by
 refine enter Try.func88 Aa Try.ntmps88 Aa fun a F => ?_
 have W := Stw.start Y w0
 unfold BQ at H
 refine vc tk 9 F W fun a w F W => ?_
 obtain ⟨x1, h1, H⟩ := Ad H
 refine ls F W Aa (Sn (JE h1).2 (Ul F Aa Aa (JE h1).1)).q fun a w F W => ?_
 refine Cc tk 4 F W fun a w F W => ?_
 refine Ao ?_
 have H := AA H
 subst H
 refine AG (.inl Aa) F W Aa (Al F Aa) ?_
 exact ⟨rfl, W.done⟩
theorem UQ : Has Try.prog 88 := Ct Try.func88
theorem Re : Ty Try.prog 134 true 16 := ⟨by kernel_rfl, by kernel_rfl⟩
abbrev Gu  : List Value := [.int .u32 0, .int .u32 0, .int .u32 0, .int .u32 0, .int .u32 0, .int .u32 0, .int .u32 0, .int .u32 0, .int .u32 0, .int .u32 0, .int .u32 0, .int .u32 0, .int .u32 0, .int .u32 0, .int .u32 0, .int .u32 0]
abbrev Ss (a0 : Int × Int) : List Value := [.int .i64 a0.1, .int .i64 a0.2]
noncomputable def Bz (p0 : List (Int × Int)) : (Int × Int × Int × Int × Int × Int × Int × Int × Int × Int × Int × Int × Int × Int × Int × Int × Int) → Option ((Int × Int × Int × Int × Int × Int × Int × Int × Int × Int × Int × Int × Int × Int × Int × Int × Int) ⊕ (Int × Int × Int × Int × Int × Int × Int × Int × Int × Int × Int × Int × Int × Int × Int × Int))
  | (x17, x18, x19, x20, x21, x22, x23, x24, x25, x26, x27, x28, x29, x30, x31, x32, x33) => (if x17 < (p0.length : Int) then (ix p0 x17).bind fun x34 => (ix ([x18, x19, x20, x21, x22, x23, x24, x25, x26, x27, x28, x29, x30, x31, x32, x33] : List Int) x34.1).bind fun x35 => (BQ x35 x34.2).bind fun x36 => (ix ([x18, x19, x20, x21, x22, x23, x24, x25, x26, x27, x28, x29, x30, x31, x32, x33] : List Int) x34.1).bind fun x37 => some (.inl (A7 (x17 + 1), (if x34.1 = 0 then x36 else x18), (if x34.1 = 1 then x36 else x19), (if x34.1 = 2 then x36 else x20), (if x34.1 = 3 then x36 else x21), (if x34.1 = 4 then x36 else x22), (if x34.1 = 5 then x36 else x23), (if x34.1 = 6 then x36 else x24), (if x34.1 = 7 then x36 else x25), (if x34.1 = 8 then x36 else x26), (if x34.1 = 9 then x36 else x27), (if x34.1 = 10 then x36 else x28), (if x34.1 = 11 then x36 else x29), (if x34.1 = 12 then x36 else x30), (if x34.1 = 13 then x36 else x31), (if x34.1 = 14 then x36 else x32), (if x34.1 = 15 then x36 else x33))) else some (.inr (x18, x19, x20, x21, x22, x23, x24, x25, x26, x27, x28, x29, x30, x31, x32, x33)))
noncomputable def CD (p0 : List (Int × Int)) : Option (Int × Int × Int × Int × Int × Int × Int × Int × Int × Int × Int × Int × Int × Int × Int × Int) := (An (Bz p0) (0, 0, 0, 0, 0, 0, 0, 0, 0, 0, 0, 0, 0, 0, 0, 0, 0)).bind fun (x1, x2, x3, x4, x5, x6, x7, x8, x9, x10, x11, x12, x13, x14, x15, x16) => some (x1, x2, x3, x4, x5, x6, x7, x8, x9, x10, x11, x12, x13, x14, x15, x16)
theorem I2 (Y : Nat → Prop) (w0 : World) (v1 : Value) (p0 : List (Int × Int)) (r : (Int × Int × Int × Int × Int × Int × Int × Int × Int × Int × Int × Int × Int × Int × Int × Int)) (H : CD p0 = some r) (h_v1 : Sl w0 (NX []) Fa v1 p0) :
    Calls Try.prog 80 #[v1] w0 fun e w' => e = .returned (.agg #[.int .u32 r.1, .int .u32 r.2.1, .int .u32 r.2.2.1, .int .u32 r.2.2.2.1, .int .u32 r.2.2.2.2.1, .int .u32 r.2.2.2.2.2.1, .int .u32 r.2.2.2.2.2.2.1, .int .u32 r.2.2.2.2.2.2.2.1, .int .u32 r.2.2.2.2.2.2.2.2.1, .int .u32 r.2.2.2.2.2.2.2.2.2.1, .int .u32 r.2.2.2.2.2.2.2.2.2.2.1, .int .u32 r.2.2.2.2.2.2.2.2.2.2.2.1, .int .u32 r.2.2.2.2.2.2.2.2.2.2.2.2.1, .int .u32 r.2.2.2.2.2.2.2.2.2.2.2.2.2.1, .int .u32 r.2.2.2.2.2.2.2.2.2.2.2.2.2.2.1, .int .u32 r.2.2.2.2.2.2.2.2.2.2.2.2.2.2.2]) ∧ Below w0.heap.size w0 w' := by
 refine enter Try.func80 Aa Try.ntmps80 Aa fun a F => ?_
 have W := Stw.start Y w0
 unfold CD at H
 refine vc tk 2 F W fun a w F W => ?_
 refine B9 (cs := (Gu)) F W Aa QY Aa fun b1 a w F W => ?_
 refine Cc tk 4 F W fun a w F W => ?_
 refine B9 (cs := (Gu)) F W Aa QY Aa fun b2 a w F W => ?_
 refine EF (Ac ?_)
 obtain ⟨o1, G1, K1⟩ := Ad H
 refine Av (fun a w => ∃ x1 : Int, ∃ x2 : Int, ∃ x3 : Int, ∃ x4 : Int, ∃ x5 : Int, ∃ x6 : Int, ∃ x7 : Int, ∃ x8 : Int, ∃ x9 : Int, ∃ x10 : Int, ∃ x11 : Int, ∃ x12 : Int, ∃ x13 : Int, ∃ x14 : Int, ∃ x15 : Int, ∃ x16 : Int, some ((x1, x2, x3, x4, x5, x6, x7, x8, x9, x10, x11, x12, x13, x14, x15, x16)) = some o1 ∧ Fr 24 [] [(2, .pointer (some ⟨b1, 0, none⟩)), (3, .pointer (some ⟨b2, 0, none⟩))] a ∧ Stw ⟨Y, [], w0⟩ [(b2, [.int .u32 x1, .int .u32 x2, .int .u32 x3, .int .u32 x4, .int .u32 x5, .int .u32 x6, .int .u32 x7, .int .u32 x8, .int .u32 x9, .int .u32 x10, .int .u32 x11, .int .u32 x12, .int .u32 x13, .int .u32 x14, .int .u32 x15, .int .u32 x16]), (b1, (Gu))] [] w) ?_ ?_
 ·
  have H := G1
  clear G1 K1
  refine vc tk 3 F W fun a w F W => ?_
  refine ls F W Aa (A0 (r := Fa) (l := p0) OI Aa F Aa (Ab h_v1)).q fun a w F W => ?_
  refine Cc tk 4 F W fun a w F W => ?_
  have W := W.frontM (i := 1) Aa Aa
  have W := W.frontM (i := 1) Aa Aa
  refine AP H (fun s a w => Fr 24 [] [(2, .pointer (some ⟨b1, 0, none⟩)), (3, .pointer (some ⟨b2, 0, none⟩)), (6, v1), (7, .int .i64 (p0.length : Int)), (8, .int .i64 s.1)] a ∧ Stw ⟨Y, [], w0⟩ [(b2, [.int .u32 s.2.1, .int .u32 s.2.2.1, .int .u32 s.2.2.2.1, .int .u32 s.2.2.2.2.1, .int .u32 s.2.2.2.2.2.1, .int .u32 s.2.2.2.2.2.2.1, .int .u32 s.2.2.2.2.2.2.2.1, .int .u32 s.2.2.2.2.2.2.2.2.1, .int .u32 s.2.2.2.2.2.2.2.2.2.1, .int .u32 s.2.2.2.2.2.2.2.2.2.2.1, .int .u32 s.2.2.2.2.2.2.2.2.2.2.2.1, .int .u32 s.2.2.2.2.2.2.2.2.2.2.2.2.1, .int .u32 s.2.2.2.2.2.2.2.2.2.2.2.2.2.1, .int .u32 s.2.2.2.2.2.2.2.2.2.2.2.2.2.2.1, .int .u32 s.2.2.2.2.2.2.2.2.2.2.2.2.2.2.2.1, .int .u32 s.2.2.2.2.2.2.2.2.2.2.2.2.2.2.2.2]), (b1, (Gu))] [] w) ⟨F.ra Aa, W⟩ fun s o a w H L2 hR => ?_
  obtain ⟨x17, x18, x19, x20, x21, x22, x23, x24, x25, x26, x27, x28, x29, x30, x31, x32, x33⟩ := s
  obtain ⟨F, W⟩ := hR
  have F : Fr 24 [] [(2, .pointer (some ⟨b1, 0, none⟩)), (3, .pointer (some ⟨b2, 0, none⟩)), (6, v1), (7, .int .i64 (p0.length : Int)), (8, .int .i64 x17)] a := F
  have W : Stw ⟨Y, [], w0⟩ [(b2, [.int .u32 x18, .int .u32 x19, .int .u32 x20, .int .u32 x21, .int .u32 x22, .int .u32 x23, .int .u32 x24, .int .u32 x25, .int .u32 x26, .int .u32 x27, .int .u32 x28, .int .u32 x29, .int .u32 x30, .int .u32 x31, .int .u32 x32, .int .u32 x33]), (b1, (Gu))] [] w := W
  rw [Bz] at H
  refine vc tk 6 F W fun a w F W => ?_
  refine A3 F Aa H (fun F H => ?_) fun F H => ?_
  ·
   refine Ie tk 6 F W fun a w F W => ?_
   obtain ⟨x34, h1, H⟩ := Ad H
   refine ls F W Aa (Aw (r := Fa) Q9 F Aa Aa (Ab h_v1) h1).q fun a w F W => ?_
   refine ls F W Aa (Ai (y := Value.agg #[.int .i64 x34.1, .int .i64 x34.2]) (j := 0) (i := x17) F Aa Aa (Ab h_v1) h1 RK.to PJ Aa).q fun a w F W => ?_
   refine B9 (cs := [.int .i64 0, .int .i64 0]) F W Aa Rn Aa fun b3 a w F W => ?_
   refine F6 0 F W Aa Aa Aa PJ Aa Aa Aa fun w W => ?_
   refine Cc tk 2 F W fun a w F W => ?_
   refine LB 10 W MO (by kernel_rfl) ?_
   refine qs F Aa (Ah Lf Aa Aa Aa T3 F Aa 0 Aa).q fun a F => ?_
   refine qs F Aa (A4 (v := Value.int .i64 x34.1) 0 F Aa Aa T3 Aa).q fun a F => ?_
   refine qs F Aa (Ah Lf Aa Aa Aa T3 F Aa 0 Aa).q fun a F => ?_
   refine qs F Aa (A4 (v := Value.int .i64 x34.1) 0 F Aa Aa T3 Aa).q fun a F => ?_
   obtain ⟨x35, h2, H⟩ := Ad H
   refine qs F Aa (Dr (0 + (x34.1).toNat * 1) Kn F Aa Aa Aa h2 Aa).q fun a F => ?_
   refine qs F Aa (A4 (v := Value.int .u32 x35) 1 F Aa Aa NC (F9 (base := 0) (m := 16) (l := [x18, x19, x20, x21, x22, x23, x24, x25, x26, x27, x28, x29, x30, x31, x32, x33]) (enc := Value.int .u32) Aa h2)).q fun a F => ?_
   refine qs F Aa (Ah Lf Aa Aa Aa T3 F Aa 1 Aa).q fun a F => ?_
   refine qs F Aa (A4 (v := Value.int .i64 x34.2) 0 F Aa Aa T3 Aa).q fun a F => ?_
   obtain ⟨x36, h3, H⟩ := Ad H
   refine qs F Aa (AW (v := Value.int .u32 x36) F UQ Aa (fun w W => Fy any w x35 x34.2 _ h3)) fun a F => ?_
   obtain ⟨x37, h4, H⟩ := Ad H
   refine qs F Aa (Dr (0 + (x34.1).toNat * 1) Kn F Aa Aa Aa h4 Aa).q fun a F => ?_
   refine A9 fun w W => ?_
   refine FO (o := 0) (m := 16) (i := x34.1) (l := ([x18, x19, x20, x21, x22, x23, x24, x25, x26, x27, x28, x29, x30, x31, x32, x33] : List Int)) (x := x37) (cs := [.int .u32 x18, .int .u32 x19, .int .u32 x20, .int .u32 x21, .int .u32 x22, .int .u32 x23, .int .u32 x24, .int .u32 x25, .int .u32 x26, .int .u32 x27, .int .u32 x28, .int .u32 x29, .int .u32 x30, .int .u32 x31, .int .u32 x32, .int .u32 x33]) (cs' := [.int .u32 (if x34.1 = 0 then x36 else x18), .int .u32 (if x34.1 = 1 then x36 else x19), .int .u32 (if x34.1 = 2 then x36 else x20), .int .u32 (if x34.1 = 3 then x36 else x21), .int .u32 (if x34.1 = 4 then x36 else x22), .int .u32 (if x34.1 = 5 then x36 else x23), .int .u32 (if x34.1 = 6 then x36 else x24), .int .u32 (if x34.1 = 7 then x36 else x25), .int .u32 (if x34.1 = 8 then x36 else x26), .int .u32 (if x34.1 = 9 then x36 else x27), .int .u32 (if x34.1 = 10 then x36 else x28), .int .u32 (if x34.1 = 11 then x36 else x29), .int .u32 (if x34.1 = 12 then x36 else x30), .int .u32 (if x34.1 = 13 then x36 else x31), .int .u32 (if x34.1 = 14 then x36 else x32), .int .u32 (if x34.1 = 15 then x36 else x33)]) 1 F W Aa Aa Aa NC Aa Aa Aa Aa h4 (by intro k hk hn; rw [hk]; match k, hn with | 0, _ => rfl | 1, _ => rfl | 2, _ => rfl | 3, _ => rfl | 4, _ => rfl | 5, _ => rfl | 6, _ => rfl | 7, _ => rfl | 8, _ => rfl | 9, _ => rfl | 10, _ => rfl | 11, _ => rfl | 12, _ => rfl | 13, _ => rfl | 14, _ => rfl | 15, _ => rfl | (z + 16), h => exact absurd h (by omega)) fun w W => ?_
   have W : Stw ⟨Y, [], w0⟩ [(b3, (Ss x34)), (b2, [.int .u32 (if x34.1 = 0 then x36 else x18), .int .u32 (if x34.1 = 1 then x36 else x19), .int .u32 (if x34.1 = 2 then x36 else x20), .int .u32 (if x34.1 = 3 then x36 else x21), .int .u32 (if x34.1 = 4 then x36 else x22), .int .u32 (if x34.1 = 5 then x36 else x23), .int .u32 (if x34.1 = 6 then x36 else x24), .int .u32 (if x34.1 = 7 then x36 else x25), .int .u32 (if x34.1 = 8 then x36 else x26), .int .u32 (if x34.1 = 9 then x36 else x27), .int .u32 (if x34.1 = 10 then x36 else x28), .int .u32 (if x34.1 = 11 then x36 else x29), .int .u32 (if x34.1 = 12 then x36 else x30), .int .u32 (if x34.1 = 13 then x36 else x31), .int .u32 (if x34.1 = 14 then x36 else x32), .int .u32 (if x34.1 = 15 then x36 else x33)]), (b1, (Gu))] [] w := W
   refine EF (Aq ?_)
   refine vn tk 4 F W fun a w F W => ?_
   refine Ac ?_
   have W := W.frontM (i := 2) Aa Aa
   have W := W.frontM (i := 2) Aa Aa
   have W := W.sub (M' := [(b2, [.int .u32 (if x34.1 = 0 then x36 else x18), .int .u32 (if x34.1 = 1 then x36 else x19), .int .u32 (if x34.1 = 2 then x36 else x20), .int .u32 (if x34.1 = 3 then x36 else x21), .int .u32 (if x34.1 = 4 then x36 else x22), .int .u32 (if x34.1 = 5 then x36 else x23), .int .u32 (if x34.1 = 6 then x36 else x24), .int .u32 (if x34.1 = 7 then x36 else x25), .int .u32 (if x34.1 = 8 then x36 else x26), .int .u32 (if x34.1 = 9 then x36 else x27), .int .u32 (if x34.1 = 10 then x36 else x28), .int .u32 (if x34.1 = 11 then x36 else x29), .int .u32 (if x34.1 = 12 then x36 else x30), .int .u32 (if x34.1 = 13 then x36 else x31), .int .u32 (if x34.1 = 14 then x36 else x32), .int .u32 (if x34.1 = 15 then x36 else x33)]), (b1, (Gu))]) (Z' := []) (List.Sublist.cons_cons _ (List.Sublist.cons_cons _ (List.nil_sublist _))) (List.Sublist.refl _)
   exact ⟨_, H, F.ra Aa, W⟩
  refine AJ ?_
  iterate 2 refine A6 ?_
  refine AM (Ac ?_)
  have W := W.frontM (i := 1) Aa Aa
  have W := W.frontM (i := 1) Aa Aa
  have H := L2 _ H
  exact ⟨_, _, _, _, _, _, _, _, _, _, _, _, _, _, _, _, H, F.ra Aa, W⟩
 rintro a w ⟨x1, x2, x3, x4, x5, x6, x7, x8, x9, x10, x11, x12, x13, x14, x15, x16, hj, F, W⟩
 have hj := AA hj
 subst hj
 have H := K1
 clear G1 K1
 refine Ha tk 3 [0] F W (ai fun a w F W => ?_)
 refine F6 1 F W Aa Aa Aa Re Aa Aa Aa fun w W => ?_
 refine Cc tk 2 F W fun a w F W => ?_
 refine Ao ?_
 have H := AA H
 subst H
 refine AG (.inl Aa) F W Aa (KR 1 F Aa Aa Re Aa) ?_
 exact ⟨rfl, W.done⟩
end Go.Proofs.Ythhoflfhegfmcaa
