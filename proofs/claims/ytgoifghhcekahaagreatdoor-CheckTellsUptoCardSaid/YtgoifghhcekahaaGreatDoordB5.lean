/- The functions of layer 30, HQ. Conditions: none. -/
import Derived.Test.YtgoifghhcekahaaGreatDoordB4
namespace Go.Proofs.YtgoifghhcekahaaGreatDoor
noncomputable section
open Go Go.RowKit
set_option linter.unusedVariables false
set_option linter.unusedSimpArgs false
set_option maxRecDepth 20000
abbrev pz31 (p : Tr31) (v u : Value) : List Value := [Jint p.un.1, Jint p.un.2.1.un.1, Jint p.un.2.1.un.2.1, Jint p.un.2.1.un.2.2.1, v, Jint p.un.2.2.1, Jint p.un.2.2.2.1, u]
theorem H9 : Has Tryz.prog 9 := BM Tryz.func9
abbrev MP (a0 : Nat) (a1 : Value) (a2 : Nat) (a3 : Nat) : List (Nat × List Value) := [(a0, [Jint 1, Jint 5, Jint 0, Jint 0, a1, Jint 0, Jint 0, .slice none 0 0]), (a2, [Jint 3, Jint 1, Jint 1, .slice none 0 0]), (a3, [Jint 3, Jint 5, Jint 2, .slice none 0 0])]
def Hf  : Option Bool := ((Ga (Tr39.of (1, Tr36.of (5, 0, 0, ([Tr36.of (3, 5, 2, ([] : List Tr36)), Tr36.of (3, 1, 1, ([] : List Tr36))] : List Tr36)), 0, 0, ([] : List Tr39))) 2).bind fun x2 => (E9 (Tr39.of (x2.un.1, Tr36.of (x2.un.2.1.un.1, x2.un.2.1.un.2.1, x2.un.2.1.un.2.2.1, x2.un.2.1.un.2.2.2), x2.un.2.2.1, x2.un.2.2.2.1, x2.un.2.2.2.2))).bind fun x3 => (if x3 = ([119, 104, 101, 110, 32, 100, 115, 116, 32, 61, 32, 49] : lb_) then (Ga (Tr39.of (1, Tr36.of (5, 0, 0, ([Tr36.of (3, 5, 2, ([] : List Tr36)), Tr36.of (3, 1, 1, ([] : List Tr36))] : List Tr36)), 0, 0, ([] : List Tr39))) 1).bind fun x4 => (E9 (Tr39.of (x4.un.1, Tr36.of (x4.un.2.1.un.1, x4.un.2.1.un.2.1, x4.un.2.1.un.2.2.1, x4.un.2.1.un.2.2.2), x4.un.2.2.1, x4.un.2.2.2.1, x4.un.2.2.2.2))).bind fun x5 => (if x5 = ([100, 114, 111, 112] : lb_) then (Ev (Tr39.of (1, Tr36.of (5, 0, 0, ([Tr36.of (3, 5, 2, ([] : List Tr36)), Tr36.of (3, 1, 1, ([] : List Tr36))] : List Tr36)), 0, 0, ([] : List Tr39)))).bind fun x6 => (if x6 = 2 then (DS (3, ([] : List (Int × Int × Int × Int × Int × Int)), ([] : List (Int × Int))) (Tr39.of (1, Tr36.of (5, 0, 0, ([Tr36.of (3, 5, 2, ([] : List Tr36)), Tr36.of (3, 1, 1, ([] : List Tr36))] : List Tr36)), 0, 0, ([] : List Tr39)))).bind fun x7 => (if x7 = 0 then (DS (2, ([] : List (Int × Int × Int × Int × Int × Int)), ([] : List (Int × Int))) (Tr39.of (1, Tr36.of (5, 0, 0, ([Tr36.of (3, 5, 2, ([] : List Tr36)), Tr36.of (3, 1, 1, ([] : List Tr36))] : List Tr36)), 0, 0, ([] : List Tr39)))).bind fun x8 => some (decide (x8 = 13)) else some false) else some false) else some false) else some false)).bind fun x1 => some x1
theorem J2 (Y : Nat → Prop) (w0 : World)   (r : Bool) (H : Hf  = some r) (hG : Gk [] w0) :
    ca_ 7 #[] w0 fun e w' => e = .returned (.bool r) ∧ Below w0.heap.size w0 w' := by
 refine enter Tryz.func7 Aa Tryz.ntmps7 Aa fun a F => ?_
 have W := Stw.start Y w0
 unfold Hf at H
 refine vc tk 7 F W fun a w F W => ?_
 refine ls F W Aa (Cf (v := Value.agg #[Jint 3, Jint 5, Jint 2, .slice none 0 0]) Us F Aa Aa Aa).q fun a w F W => ?_
 refine ls F W Aa (Cf (v := Value.agg #[Jint 3, Jint 1, Jint 1, .slice none 0 0]) Us F Aa Aa Aa).q fun a w F W => ?_
 refine Bw (cs := (Is)) F W Aa Q0 Aa fun b1 a w F W => ?_
 refine Bw (cs := (Is)) F W Aa Q0 Aa fun b2 a w F W => ?_
 refine CE 1 F W Aa Aa Aa GN Aa Aa Aa fun w W => ?_
 refine CE 0 F W Aa Aa Aa GN Aa Aa Aa fun w W => ?_
 refine Es tk 6 [1, 0] F W (ai (ai fun a w F W => ?_))
 refine GT (z := Value.agg #[Jint 0, Jint 0, Jint 0, .slice none 0 0]) (cs := [Jint 3, Jint 5, Jint 2, .slice none 0 0, Jint 3, Jint 1, Jint 1, .slice none 0 0]) Bm ([Tr36.of (3, 5, 2, ([] : List Tr36)), Tr36.of (3, 1, 1, ([] : List Tr36))] : List Tr36) F W Aa PI Q0 Aa Aa Aa (AY Aa Aa Aa (AY Aa Aa Aa CQ)) Aa Aa ⟨[Jint 3, Jint 5, Jint 2, Value.slice none 0 0], _, Aa, (SI.2 ⟨[Jint 3], [Jint 5, Jint 2, Value.slice none 0 0], Aa, Aa, ⟨[Jint 5], [Jint 2, Value.slice none 0 0], Aa, Aa, ⟨[Jint 2], [Value.slice none 0 0], Aa, Aa, ⟨_, Aa, (Sl.nil (r := Bm))⟩⟩⟩⟩), ⟨[Jint 3, Jint 1, Jint 1, Value.slice none 0 0], _, Aa, (SI.2 ⟨[Jint 3], [Jint 1, Jint 1, Value.slice none 0 0], Aa, Aa, ⟨[Jint 1], [Jint 1, Value.slice none 0 0], Aa, Aa, ⟨[Jint 1], [Value.slice none 0 0], Aa, Aa, ⟨_, Aa, (Sl.nil (r := Bm))⟩⟩⟩⟩), Aa⟩⟩ fun v1 a w F W => ?_
 refine ls F W Aa (Cf (v := Value.agg #[Jint 5, Jint 0, Jint 0, v1]) Us F Aa (AY Aa Aa Aa (AY Aa (GW (W.one (k := 0) Aa)) Aa CQ)) Aa).q fun a w F W => ?_
 refine ls F W Aa (Cf (v := Value.agg #[Jint 1, Jint 5, Jint 0, Jint 0, v1, Jint 0, Jint 0, .slice none 0 0]) Zq F Aa (AY Aa Aa Aa (AY Aa Aa Aa CQ)) Aa).q fun a w F W => ?_
 refine Bw (cs := (Gt)) F W Aa Sv Aa fun b3 a w F W => ?_
 refine CE 0 F W Aa Aa Aa I7 Aa Aa (Ac Aa (Ac Aa (Ac Aa (Ac Aa (Ac (W.one (k := 0) Aa) (Ac Aa (Ac Aa (Ac Aa Bn)))))))) fun w W => ?_
 refine F6 (Ab ?_)
 obtain ⟨o1, G1, K1⟩ := Af H
 refine Ap (fun a w => ∃ x1 : Bool, some (x1) = some o1 ∧ Fr 38 [] [(0, .bool x1)] a ∧ sy Y w0 (MP b3 v1 b2 b1) [Ch v1 Bm ([Tr36.of (3, 5, 2, ([] : List Tr36)), Tr36.of (3, 1, 1, ([] : List Tr36))] : List Tr36)] w) ?_ ?_
 ·
  have H := G1
  refine CT tk 2 [0] F W (ai fun a w F W => ?_)
  obtain ⟨x2, h1, H⟩ := Af H
  have W := W.freeze
  refine AO (Ml := []) (Zl := []) (β := Value × Value) (rv := fun x => .agg #[Jint x2.un.1, Jint x2.un.2.1.un.1, Jint x2.un.2.1.un.2.1, Jint x2.un.2.1.un.2.2.1, x.1, Jint x2.un.2.2.1, Jint x2.un.2.2.2.1, x.2]) (MM := fun x => []) (ZZ := fun x => [Ch x.1 Bm x2.un.2.1.un.2.2.2, row x.2 39 DF x2.un.2.2.2.2]) F W XD Aa Aa (fun hL => KR _ w (v1) (Value.slice none 0 0) (Tr39.of (1, Tr36.of (5, 0, 0, ([Tr36.of (3, 5, 2, ([] : List Tr36)), Tr36.of (3, 1, 1, ([] : List Tr36))] : List Tr36)), 0, 0, ([] : List Tr39))) 2 _ h1 (W.item (i := 0) Aa) Sl.nil) fun x a w F W => ?_
  obtain ⟨v2, v3⟩ := x
  have W : sy Y w0 (MP b3 v1 b2 b1) [Ch v2 Bm x2.un.2.1.un.2.2.2, row v3 39 DF x2.un.2.2.2.2, Ch v1 Bm ([Tr36.of (3, 5, 2, ([] : List Tr36)), Tr36.of (3, 1, 1, ([] : List Tr36))] : List Tr36)] w := W
  obtain ⟨x3, h2, H⟩ := Af H
  refine ls F W Aa (AA (v := Value.string (bs x3)) F Zw Aa (fun w W => KF any w (v2) (v3) (Tr39.of (x2.un.1, Tr36.of (x2.un.2.1.un.1, x2.un.2.1.un.2.1, x2.un.2.1.un.2.2.1, x2.un.2.1.un.2.2.2), x2.un.2.2.1, x2.un.2.2.2.1, x2.un.2.2.2.2)) _ h2 (Cl (Ic 0 Aa) W) (Cl (Ai 1 Aa) W) (hG.go0 W))) fun a w F W => ?_
  refine ls F W Aa (WO (l := x3) (m := ([119, 104, 101, 110, 32, 100, 115, 116, 32, 61, 32, 49] : lb_)) F Aa Aa).q fun a w F W => ?_
  refine ls F W Aa (Ao F Aa).q fun a w F W => ?_
  rcases bxq (decide (x3 = ([119, 104, 101, 110, 32, 100, 115, 116, 32, 61, 32, 49] : lb_))) with hb | hb
  ·
   have H := BB (B4 hb) H
   rw [hb] at F
   refine Dy F W (Ad F Aa Aa Aa Aa) Aa (As Aa) (Bk (v := Value.agg #[Jint 1, Jint 5, Jint 0, Jint 0, v1, Jint 0, Jint 0, .slice none 0 0]) 0 F Aa Aa I7 Aa).q fun a w F W => ?_
   refine FU (Ad F Aa Aa Aa Aa) ?_
   obtain ⟨x4, h3, H⟩ := Af H
   refine AO (Ml := []) (Zl := []) (β := Value × Value) (rv := fun x => .agg #[Jint x4.un.1, Jint x4.un.2.1.un.1, Jint x4.un.2.1.un.2.1, Jint x4.un.2.1.un.2.2.1, x.1, Jint x4.un.2.2.1, Jint x4.un.2.2.2.1, x.2]) (MM := fun x => []) (ZZ := fun x => [Ch x.1 Bm x4.un.2.1.un.2.2.2, row x.2 39 DF x4.un.2.2.2.2]) F W XD Aa Aa (fun hL => KR _ w (v1) (Value.slice none 0 0) (Tr39.of (1, Tr36.of (5, 0, 0, ([Tr36.of (3, 5, 2, ([] : List Tr36)), Tr36.of (3, 1, 1, ([] : List Tr36))] : List Tr36)), 0, 0, ([] : List Tr39))) 1 _ h3 (W.item (i := 2) Aa) Sl.nil) fun x a w F W => ?_
   obtain ⟨v4, v5⟩ := x
   have W : sy Y w0 (MP b3 v1 b2 b1) [Ch v4 Bm x4.un.2.1.un.2.2.2, row v5 39 DF x4.un.2.2.2.2, Ch v2 Bm x2.un.2.1.un.2.2.2, row v3 39 DF x2.un.2.2.2.2, Ch v1 Bm ([Tr36.of (3, 5, 2, ([] : List Tr36)), Tr36.of (3, 1, 1, ([] : List Tr36))] : List Tr36)] w := W
   refine FU (Ad F Aa Aa Aa Aa) ?_
   obtain ⟨x5, h4, H⟩ := Af H
   refine ls F W Aa (AA (v := Value.string (bs x5)) F Zw Aa (fun w W => KF any w (v4) (v5) (Tr39.of (x4.un.1, Tr36.of (x4.un.2.1.un.1, x4.un.2.1.un.2.1, x4.un.2.1.un.2.2.1, x4.un.2.1.un.2.2.2), x4.un.2.2.1, x4.un.2.2.2.1, x4.un.2.2.2.2)) _ h4 (Cl (Ic 0 Aa) W) (Cl (Ai 1 Aa) W) (hG.go0 W))) fun a w F W => ?_
   refine Dy F W (Ad F Aa Aa Aa Aa) Aa (As Aa) (WO (l := x5) (m := ([100, 114, 111, 112] : lb_)) F Aa Aa).q fun a w F W => ?_
   refine vl tk 2 F W fun a w F W => ?_
   rcases bxq (decide (x5 = ([100, 114, 111, 112] : lb_))) with hb | hb
   ·
    have H := BB (B4 hb) H
    rw [hb] at F
    refine Dy F W (Ad F Aa Aa Aa Aa) Aa (As Aa) (Bk (v := Value.agg #[Jint 1, Jint 5, Jint 0, Jint 0, v1, Jint 0, Jint 0, .slice none 0 0]) 0 F Aa Aa I7 Aa).q fun a w F W => ?_
    refine FU (Ad F Aa Aa Aa Aa) ?_
    obtain ⟨x6, h5, H⟩ := Af H
    refine ls F W Aa (AA (v := Jint x6) F ZU Aa (fun w W => Iz any w (v1) (Value.slice none 0 0) (Tr39.of (1, Tr36.of (5, 0, 0, ([Tr36.of (3, 5, 2, ([] : List Tr36)), Tr36.of (3, 1, 1, ([] : List Tr36))] : List Tr36)), 0, 0, ([] : List Tr39))) _ h5 (Cl (Ic 4 Aa) W) Sl.nil)) fun a w F W => ?_
    refine vl tk 3 F W fun a w F W => ?_
    rcases bxq (decide (x6 = 2)) with hb | hb
    ·
     have H := BB (B4 hb) H
     rw [hb] at F
     refine Dy F W (Ad F Aa Aa Aa Aa) Aa (As Aa) (Cf (v := Value.agg #[Jint 3, .slice none 0 0, .slice none 0 0]) aD F Aa Aa Aa).q fun a w F W => ?_
     refine Dy F W (Ad F Aa Aa Aa Aa) Aa (As Aa) (Bk (v := Value.agg #[Jint 1, Jint 5, Jint 0, Jint 0, v1, Jint 0, Jint 0, .slice none 0 0]) 0 F Aa Aa I7 Aa).q fun a w F W => ?_
     refine FU (Ad F Aa Aa Aa Aa) ?_
     obtain ⟨x7, h6, H⟩ := Af H
     refine ls F W Aa (AA (v := Jint x7) F H9 Aa (fun w W => Iq any w (Value.slice none 0 0) (Value.slice none 0 0) (v1) (Value.slice none 0 0) (3, ([] : List (Int × Int × Int × Int × Int × Int)), ([] : List (Int × Int))) (Tr39.of (1, Tr36.of (5, 0, 0, ([Tr36.of (3, 5, 2, ([] : List Tr36)), Tr36.of (3, 1, 1, ([] : List Tr36))] : List Tr36)), 0, 0, ([] : List Tr39))) _ h6 Sl.nil Sl.nil (Cl (Ic 4 Aa) W) Sl.nil)) fun a w F W => ?_
     refine vl tk 3 F W fun a w F W => ?_
     rcases bxq (decide (x7 = 0)) with hb | hb
     ·
      have H := BB (B4 hb) H
      rw [hb] at F
      refine Dy F W (Ad F Aa Aa Aa Aa) Aa (As Aa) (Cf (v := Value.agg #[Jint 2, .slice none 0 0, .slice none 0 0]) aD F Aa Aa Aa).q fun a w F W => ?_
      refine Dy F W (Ad F Aa Aa Aa Aa) Aa (As Aa) (Bk (v := Value.agg #[Jint 1, Jint 5, Jint 0, Jint 0, v1, Jint 0, Jint 0, .slice none 0 0]) 0 F Aa Aa I7 Aa).q fun a w F W => ?_
      refine FU (Ad F Aa Aa Aa Aa) ?_
      obtain ⟨x8, h7, H⟩ := Af H
      refine ls F W Aa (AA (v := Jint x8) F H9 Aa (fun w W => Iq any w (Value.slice none 0 0) (Value.slice none 0 0) (v1) (Value.slice none 0 0) (2, ([] : List (Int × Int × Int × Int × Int × Int)), ([] : List (Int × Int))) (Tr39.of (1, Tr36.of (5, 0, 0, ([Tr36.of (3, 5, 2, ([] : List Tr36)), Tr36.of (3, 1, 1, ([] : List Tr36))] : List Tr36)), 0, 0, ([] : List Tr39))) _ h7 Sl.nil Sl.nil (Cl (Ic 4 Aa) W) Sl.nil)) fun a w F W => ?_
      refine vl tk 4 F W fun a w F W => ?_
      refine Ab ?_
      have W := W.frontZ (i := 4) Aa Aa
      have W := W.frontM (i := 2) Aa Aa
      have W := W.frontM (i := 2) Aa Aa
      have W := W.frontM (i := 2) Aa Aa
      have W := W.sub (M' := (MP b3 v1 b2 b1)) (Z' := [Ch v1 Bm ([Tr36.of (3, 5, 2, ([] : List Tr36)), Tr36.of (3, 1, 1, ([] : List Tr36))] : List Tr36)]) sr (sc nl)
      exact ⟨_, H, F.ra Aa, W⟩
     have H := BC (B1 hb) H
     rw [hb] at F
     refine vl tk 7 F W fun a w F W => ?_
     refine Ab ?_
     have W := W.frontZ (i := 4) Aa Aa
     have W := W.frontM (i := 2) Aa Aa
     have W := W.frontM (i := 2) Aa Aa
     have W := W.frontM (i := 2) Aa Aa
     have W := W.sub (M' := (MP b3 v1 b2 b1)) (Z' := [Ch v1 Bm ([Tr36.of (3, 5, 2, ([] : List Tr36)), Tr36.of (3, 1, 1, ([] : List Tr36))] : List Tr36)]) sr (sc nl)
     exact ⟨_, H, F.ra Aa, W⟩
    have H := BC (B1 hb) H
    rw [hb] at F
    refine vl tk 13 F W fun a w F W => ?_
    refine Ab ?_
    have W := W.frontZ (i := 4) Aa Aa
    have W := W.frontM (i := 2) Aa Aa
    have W := W.frontM (i := 2) Aa Aa
    have W := W.frontM (i := 2) Aa Aa
    have W := W.sub (M' := (MP b3 v1 b2 b1)) (Z' := [Ch v1 Bm ([Tr36.of (3, 5, 2, ([] : List Tr36)), Tr36.of (3, 1, 1, ([] : List Tr36))] : List Tr36)]) sr (sc nl)
    exact ⟨_, H, F.ra Aa, W⟩
   have H := BC (B1 hb) H
   rw [hb] at F
   refine vl tk 18 F W fun a w F W => ?_
   refine Ab ?_
   have W := W.frontZ (i := 4) Aa Aa
   have W := W.frontM (i := 2) Aa Aa
   have W := W.frontM (i := 2) Aa Aa
   have W := W.frontM (i := 2) Aa Aa
   have W := W.sub (M' := (MP b3 v1 b2 b1)) (Z' := [Ch v1 Bm ([Tr36.of (3, 5, 2, ([] : List Tr36)), Tr36.of (3, 1, 1, ([] : List Tr36))] : List Tr36)]) sr (sc nl)
   exact ⟨_, H, F.ra Aa, W⟩
  have H := BC (B1 hb) H
  rw [hb] at F
  refine vl tk 24 F W fun a w F W => ?_
  refine Ab ?_
  have W := W.frontZ (i := 2) Aa Aa
  have W := W.frontM (i := 2) Aa Aa
  have W := W.frontM (i := 2) Aa Aa
  have W := W.frontM (i := 2) Aa Aa
  have W := W.sub (M' := (MP b3 v1 b2 b1)) (Z' := [Ch v1 Bm ([Tr36.of (3, 5, 2, ([] : List Tr36)), Tr36.of (3, 1, 1, ([] : List Tr36))] : List Tr36)]) sr (sc nl)
  exact ⟨_, H, F.ra Aa, W⟩
 rintro a w ⟨x1, hj, F, W⟩
 have hj := Ay hj
 subst hj
 have H := K1
 refine Ah ?_
 have H := Ay H
 subst H
 refine Av (.inl Aa) F W Aa (Am F Aa) ?_
 exact ⟨rfl, W.done⟩
theorem H7 : Has Tryz.prog 7 := BM Tryz.func7
theorem ZL : Has Tryz.prog 21 := BM Tryz.func21
abbrev O4 (a0 : Nat) (a1 : Tr28) (a2 : Value) (a3 : Nat) (a4 : Nat) (a5 : Value) : List (Nat × List Value) := [(a0, [Jint a1.un.1, Jint a1.un.2.1, Jint a1.un.2.2.1, a2]), (a3, [Jint 0, Jint 0, Jint 0, .slice none 0 0]), (a4, [Jint a1.un.1, Jint a1.un.2.1, Jint a1.un.2.2.1, a5])]
def DH (fRec : Tr28 → Option Tr36) (p0 : Tr28) : (Int × List Tr36) → Option ((Int × List Tr36) ⊕ (List Tr36))
  | (x2, x3) => (if x2 < (p0.un.2.2.2.length : Int) then (ix p0.un.2.2.2 x2).bind fun x4 => (fRec x4).bind fun x5 => (GP x3 ([x5] : List Tr36)).bind fun x6 => some (.inl (AJ (x2 + 1), x6)) else some (.inr x3))
def E0 (fRec : Tr28 → Option Tr36) (p0 : Tr28) : Option Tr36 := (AB (DH fRec p0) (0, [])).bind fun x1 => some (Tr36.of (p0.un.1, p0.un.2.1, p0.un.2.2.1, x1))
def En : Nat → Tr28 → Option Tr36
  | 0 => fun _ => none
  | n + 1 => E0 (En n)
def Ox (p0 : Tr28) : Option Tr36 := FT fun n => En n p0
theorem Qr (fRec : Tr28 → Option Tr36) (ih : ∀ (Y : Nat → Prop) (w0 : World) (v1 : Value) (p0 : Tr28) (r : Tr36) (H : fRec p0 = some r) (h_v1 : Sl w0 (NX []) B0 v1 p0.un.2.2.2), ca_ 21 #[.agg #[Jint p0.un.1, Jint p0.un.2.1, Jint p0.un.2.2.1, v1]] w0 fun e w' => ∃ x : Value, e = .returned (.agg #[Jint r.un.1, Jint r.un.2.1, Jint r.un.2.2.1, x]) ∧ sy Y w0 [] [row (x) 36 Bm r.un.2.2.2] w') (Y : Nat → Prop) (w0 : World) (v1 : Value) (p0 : Tr28) (r : Tr36) (H : E0 fRec p0 = some r) (h_v1 : Sl w0 (NX []) B0 v1 p0.un.2.2.2) :
    ca_ 21 #[.agg #[Jint p0.un.1, Jint p0.un.2.1, Jint p0.un.2.2.1, v1]] w0 fun e w' => ∃ x : Value, e = .returned (.agg #[Jint r.un.1, Jint r.un.2.1, Jint r.un.2.2.1, x]) ∧ sy Y w0 [] [row (x) 36 Bm r.un.2.2.2] w' := by
 refine enter Tryz.func21 Aa Tryz.ntmps21 Aa fun a F => ?_
 have W := Stw.start Y w0
 obtain ⟨v2, h1, h_v1⟩ := h_v1.ex CA
 unfold E0 at H
 refine vc tk 2 F W fun a w F W => ?_
 refine BQ (cs := (Jp p0 v1)) F W Aa Aa Aa fun b1 a w F W => ?_
 refine Bw (cs := (Is)) F W Aa Q0 Aa fun b2 a w F W => ?_
 refine Es tk 10 [1, 1, 1] F W (ai (ai (ai fun a w F W => ?_)))
 refine ls F W Aa (Cf (v := Value.agg #[Jint p0.un.1, Jint p0.un.2.1, Jint p0.un.2.2.1, .slice none 0 0]) Us F Aa Aa Aa).q fun a w F W => ?_
 refine Bw (cs := (Is)) F W Aa Q0 Aa fun b3 a w F W => ?_
 refine CE 0 F W Aa Aa Aa GN Aa Aa Aa fun w W => ?_
 refine F6 (Ab ?_)
 obtain ⟨o1, G1, K1⟩ := Af H
 refine Ap (fun a w => ∃ x1 : List Tr36, ∃ v3 : Value, some (x1) = some o1 ∧ Fr 31 [] [(2, pp b2), (3, pp b3)] a ∧ sy Y w0 (O4 b3 p0 v3 b2 b1 v1) [row v3 36 Bm x1] w) ?_ ?_
 ·
  have H := G1
  refine vc tk 6 F W fun a w F W => ?_
  have W := W.nilRow 36 Bm
  have W := W.frontM (i := 2) Aa Aa
  have W := W.frontM (i := 2) Aa Aa
  have W := W.frontM (i := 2) Aa Aa
  refine AQ H (fun s a w => ∃ v4 : Value, Fr 31 [] [(1, pp b1), (2, pp b2), (3, pp b3), (4, Jint s.1)] a ∧ sy Y w0 (O4 b3 p0 v4 b2 b1 v1) [row v4 36 Bm s.2] w) ⟨(Value.slice none 0 0), F.ra Aa, W⟩ fun s o a w H L2 hR => ?_
  obtain ⟨x2, x3⟩ := s
  obtain ⟨v4, F, W⟩ := hR
  have F : Fr 31 [] [(1, pp b1), (2, pp b2), (3, pp b3), (4, Jint x2)] a := F
  have W : sy Y w0 (O4 b3 p0 v4 b2 b1 v1) [row v4 36 Bm x3] w := W
  rw [DH] at H
  refine CT tk 6 [2] F W (ai fun a w F W => ?_)
  refine ls F W Aa (Bz (r := B0) (l := p0.un.2.2.2) Nk Aa F Aa (Al CA h1 (Ae h_v1))).q fun a w F W => ?_
  refine Bo tk 3 F W fun a w F W => ?_
  refine A1 F Aa H (fun F H => ?_) fun F H => ?_
  ·
   refine EX tk 4 F W fun a w F W => ?_
   obtain ⟨v5, h2, W⟩ := W.exR BK
   refine Ef [(true, 0), (true, 1), (true, 2), (true, 3), (true, 4), (true, 5), (true, 6), (false, 7), (false, 8), (false, 9), (true, 10), (false, 11)] (CN ⟨Y, [], w0⟩ [(some 9, b3, [Jint p0.un.1, Jint p0.un.2.1, Jint p0.un.2.2.1, v4]), (some 7, b1, [Jint p0.un.1, Jint p0.un.2.1, Jint p0.un.2.2.1, v1])] []) (fun ch a d v w h => by cases d <;> exact h) MO (by kernel_rfl) W (fun w W => ⟨_, _, W, (all_cons (fun _ => (.head _)) (all_cons (fun _ => (.tail _ (.tail _ (.head _)))) Ak)), Ak⟩) fun w W => ?_
   refine A9 (R := []) F Aa Aa (yC fun M Z hN hZ => Aq Mi Aa Aa Aa WH F Aa 3 Aa) Aa Aa fun a F => ?_
   refine A9 (R := [9]) F Aa Aa (yC fun M Z hN hZ => Cx (cs := (Jp p0 v4)) (v := v4) F Aa (hN ((some 9), b3, (Jp p0 v4)) (.head _) Aa) WH Aa) (by kernel_rfl) Aa fun a F => ?_
   refine A9 (R := []) F Aa Aa (yC fun M Z hN hZ => Aq Nc Aa Aa Aa VO F Aa 3 Aa) Aa Aa fun a F => ?_
   refine A9 (R := [7, 6, 5]) F Aa Aa (yC fun M Z hN hZ => Cx (cs := (Jp p0 v1)) (v := v1) F Aa (hN ((some 7), b1, (Jp p0 v1)) (.tail _ (.head _)) Aa) VO Aa) (by kernel_rfl) Aa fun a F => ?_
   refine A9 (R := []) F Aa Aa (yC fun M Z hN hZ => Ao F Aa) Aa Aa fun a F => ?_
   obtain ⟨x4, h3, H⟩ := Af H
   obtain ⟨v6, h4, h5⟩ := CS h1 h3
   have h6 : HZ v6 = [Jint x4.un.1, Jint x4.un.2.1, Jint x4.un.2.2.1, (v6.2.2.2.1)] := congrArg (fun q : Tr28 => ([Jint q.un.1, Jint q.un.2.1, Jint q.un.2.2.1, (v6.2.2.2.1)] : List Value)) h5
   refine A9 (R := []) F Aa Aa (yC fun M Z hN hZ => Au (r := Ia) Se F Aa Aa (Ae h_v1) h4) Aa Aa fun a F => ?_
   refine A9 (R := []) F Aa Aa (yC fun M Z hN hZ => Aj (y := Value.agg #[Jint x4.un.1, Jint x4.un.2.1, Jint x4.un.2.2.1, (v6.2.2.2.1)]) (j := 0) (i := x2) (enc := HZ) F Aa Aa (Ae h_v1) h4 Oi I2 (by rw [h6]; rfl)) Aa Aa fun a F => ?_
   refine Dt Aa ?_
   obtain ⟨x5, h7, H⟩ := Af H
   refine AO (Ml := []) (Zl := []) (β := Value) (rv := fun x => .agg #[Jint x5.un.1, Jint x5.un.2.1, Jint x5.un.2.2.1, x]) (MM := fun x => []) (ZZ := fun x => [row x 36 Bm x5.un.2.2.2]) F W ZL Aa Aa (fun hL => ih _ w ((v6.2.2.2.1)) x4 _ h7 ((Bf (Ae h_v1) h4 (Ag.snd (Ag.snd (Ag.snd Ag.here))) (congrArg (fun q : Tr28 => q.un.2.2.2) h5)) w W).nx) fun x a w F W => ?_
   obtain ⟨v7, rfl⟩ : ∃ y, y = x := ⟨x, rfl⟩
   have W : sy Y w0 (O4 b3 p0 v4 b2 b1 v1) [row v7 36 Bm x5.un.2.2.2, row v4 36 HE v5] w := W
   refine Bc (N2 := []) (NZ2 := []) (N3 := [(some 9, b3, [Jint p0.un.1, Jint p0.un.2.1, Jint p0.un.2.2.1, v4]), (some 7, b1, [Jint p0.un.1, Jint p0.un.2.1, Jint p0.un.2.2.1, v1])]) (NZ3 := []) W Aa Aa (all_cons (fun _ => (.head _)) (all_cons (fun h => An (by kernel_rfl) h) Ak)) Ak ?_
   refine Dt Aa ?_
   have W := W.freeze
   refine GT (z := Value.agg #[Jint 0, Jint 0, Jint 0, .slice none 0 0]) (cs := (Hl x5 v7)) Bm ([x5] : List Tr36) F W Aa PI Q0 Aa Aa Aa (AY Aa Aa Aa CQ) Aa Aa ⟨[Jint x5.un.1, Jint x5.un.2.1, Jint x5.un.2.2.1, v7], _, Aa, (SI.2 ⟨[Jint x5.un.1], [Jint x5.un.2.1, Jint x5.un.2.2.1, v7], Aa, Aa, ⟨[Jint x5.un.2.1], [Jint x5.un.2.2.1, v7], Aa, Aa, ⟨[Jint x5.un.2.2.1], [v7], Aa, Aa, ⟨_, Aa, (W.item (i := 0) Aa)⟩⟩⟩⟩), Aa⟩ fun v8 a w F W => ?_
   refine Bc (N2 := []) (NZ2 := []) (N3 := [(some 9, b3, [Jint p0.un.1, Jint p0.un.2.1, Jint p0.un.2.2.1, v4]), (some 7, b1, [Jint p0.un.1, Jint p0.un.2.1, Jint p0.un.2.2.1, v1])]) (NZ3 := []) W Aa Aa (all_cons (fun _ => (.head _)) (all_cons (fun h => An (by kernel_rfl) h) Ak)) Ak ?_
   refine Dt Aa ?_
   have W := W.frontZ (i := 2) Aa Aa
   have W := W.hideR BK h2
   obtain ⟨x6, h8, H⟩ := Af H
   refine DL (r := Bm) (i := 0) F W Aa PI Aa Aa Aa Aa (EB W 1 Aa) h8 Aa fun v9 a w F W => ?_
   have W : sy Y w0 (O4 b3 p0 v4 b2 b1 v1) [row v9 36 Bm x6, row v8 36 Bm ([x5] : List Tr36), Ch v7 Bm x5.un.2.2.2] w := W
   refine Bc (N2 := []) (NZ2 := []) (N3 := [(some 9, b3, [Jint p0.un.1, Jint p0.un.2.1, Jint p0.un.2.2.1, v4]), (some 7, b1, [Jint p0.un.1, Jint p0.un.2.1, Jint p0.un.2.2.1, v1])]) (NZ3 := []) W Aa Aa (all_cons (fun h => An (by kernel_rfl) h) (all_cons (fun h => An (by kernel_rfl) h) Ak)) Ak ?_
   refine A9 (R := []) F Aa Aa (yC fun M Z hN hZ => Aq Mi Aa Aa Aa WH F Aa 3 Aa) Aa Aa fun a F => ?_
   refine Dt Aa ?_
   refine IV (M' := (O4 b3 p0 v9 b2 b1 v1)) 0 F W Aa Aa Aa WH (W.one (k := 0) Aa) Aa Aa fun w W => ?_
   refine Bc (N2 := []) (NZ2 := []) (N3 := [(some 9, b3, [Jint p0.un.1, Jint p0.un.2.1, Jint p0.un.2.2.1, v4]), (some 7, b1, [Jint p0.un.1, Jint p0.un.2.1, Jint p0.un.2.2.1, v1])]) (NZ3 := []) W Aa Aa (all_cons (fun h => An (by kernel_rfl) h) (all_cons (fun h => An (by kernel_rfl) h) Ak)) Ak ?_
   refine FL (Az ?_)
   refine vn tk 5 F W fun a w F W => ?_
   refine Ab ?_
   have W := W.frontM (i := 2) Aa Aa
   have W := W.frontM (i := 2) Aa Aa
   have W := W.frontM (i := 2) Aa Aa
   have W := W.sub (M' := (O4 b3 p0 v9 b2 b1 v1)) (Z' := [row v9 36 Bm x6]) sr (sc nl)
   exact ⟨_, H, (v9), F.ra Aa, W⟩
  refine AN ?_
  iterate 2 refine A6 ?_
  refine AP (Ab ?_)
  have W := W.frontM (i := 2) Aa Aa
  have W := W.frontM (i := 2) Aa Aa
  have W := W.frontM (i := 2) Aa Aa
  have H := L2 _ H
  exact ⟨_, (v4), H, F.ra Aa, W⟩
 rintro a w ⟨x1, v3, hj, F, W⟩
 have hj := Ay hj
 subst hj
 have H := K1
 refine CT tk 3 [0] F W (ai fun a w F W => ?_)
 refine CE 1 F W Aa Aa Aa GN Aa Aa (Ac Aa (Ac Aa (Ac Aa (Ac (W.one (k := 0) Aa) Bn)))) fun w W => ?_
 refine Bo tk 2 F W fun a w F W => ?_
 refine Ah ?_
 have H := Ay H
 subst H
 refine Av (.inl Aa) F W Aa (Cm 1 F Aa Aa GN Aa) ?_
 have W := W.sub (M' := []) (Z' := [row v3 36 Bm x1]) nl sr
 exact ⟨(v3), Aa, W⟩
theorem Sc : ∀ (n : Nat) (Y : Nat → Prop) (w0 : World) (v1 : Value) (p0 : Tr28) (r : Tr36) (H : En n p0 = some r) (h_v1 : Sl w0 (NX []) B0 v1 p0.un.2.2.2), ca_ 21 #[.agg #[Jint p0.un.1, Jint p0.un.2.1, Jint p0.un.2.2.1, v1]] w0 fun e w' => ∃ x : Value, e = .returned (.agg #[Jint r.un.1, Jint r.un.2.1, Jint r.un.2.2.1, x]) ∧ sy Y w0 [] [row (x) 36 Bm r.un.2.2.2] w' := by
  intro n
  induction n with
  | zero => intro Y w0 v1 p0 r H; exact nomatch H
  | succ n ih => intro Y w0 v1 p0 r H h_v1; exact Qr (En n) ih Y w0 v1 p0 r H h_v1
theorem OX (Y : Nat → Prop) (w0 : World) (v1 : Value) (p0 : Tr28) (r : Tr36) (H : Ox p0 = some r) (h_v1 : Sl w0 (NX []) B0 v1 p0.un.2.2.2) :
    ca_ 21 #[.agg #[Jint p0.un.1, Jint p0.un.2.1, Jint p0.un.2.2.1, v1]] w0 fun e w' => ∃ x : Value, e = .returned (.agg #[Jint r.un.1, Jint r.un.2.1, Jint r.un.2.2.1, x]) ∧ sy Y w0 [] [row (x) 36 Bm r.un.2.2.2] w' := by
  obtain ⟨n, H⟩ := BP H
  exact Sc n Y w0 v1 p0 r H h_v1
theorem H8 : Has Tryz.prog 8 := BM Tryz.func8
abbrev X3 (a0 : Nat) (a1 : Tr31) (a2 : Tr36) (a3 : Value) (a4 : Nat) (a5 : Nat) (a6 : Value) (a7 : Value) : List (Nat × List Value) := [(a0, [Jint a1.un.1, Jint a2.un.1, Jint a2.un.2.1, Jint a2.un.2.2.1, a3, Jint a1.un.2.2.1, Jint a1.un.2.2.2.1, .slice none 0 0]), (a4, [Jint 0, Jint 0, Jint 0, Jint 0, .slice none 0 0, Jint 0, Jint 0, .slice none 0 0]), (a5, [Jint a1.un.1, Jint a1.un.2.1.un.1, Jint a1.un.2.1.un.2.1, Jint a1.un.2.1.un.2.2.1, a6, Jint a1.un.2.2.1, Jint a1.un.2.2.2.1, a7])]
abbrev VA (a0 : Nat) (a1 : Nat) (a2 : Tr31) (a3 : Value) (a4 : Value) : List (Nat × List Value) := [(a0, [Jint 0, Jint 0, Jint 0, Jint 0, .slice none 0 0, Jint 0, Jint 0, .slice none 0 0]), (a1, [Jint a2.un.1, Jint a2.un.2.1.un.1, Jint a2.un.2.1.un.2.1, Jint a2.un.2.1.un.2.2.1, a3, Jint a2.un.2.2.1, Jint a2.un.2.2.2.1, a4])]
abbrev Yh (a0 : Nat) (a1 : Nat) (a2 : Nat) (a3 : Tr31) (a4 : Value) (a5 : Value) : List (Nat × List Value) := [(a0, [Jint 0, Jint 0, Jint 0, Jint 0, .slice none 0 0, Jint 0, Jint 0, .slice none 0 0]), (a1, [Jint 0, Jint 0, Jint 0, Jint 0, .slice none 0 0, Jint 0, Jint 0, .slice none 0 0]), (a2, [Jint a3.un.1, Jint a3.un.2.1.un.1, Jint a3.un.2.1.un.2.1, Jint a3.un.2.1.un.2.2.1, a4, Jint a3.un.2.2.1, Jint a3.un.2.2.2.1, a5])]
abbrev NP (a0 : Nat) (a1 : Tr31) (a2 : Tr36) (a3 : Value) (a4 : Value) (a5 : Nat) (a6 : Nat) (a7 : Value) (a8 : Value) : List (Nat × List Value) := [(a0, [Jint a1.un.1, Jint a2.un.1, Jint a2.un.2.1, Jint a2.un.2.2.1, a3, Jint a1.un.2.2.1, Jint a1.un.2.2.2.1, a4]), (a5, [Jint 0, Jint 0, Jint 0, Jint 0, .slice none 0 0, Jint 0, Jint 0, .slice none 0 0]), (a6, [Jint a1.un.1, Jint a1.un.2.1.un.1, Jint a1.un.2.1.un.2.1, Jint a1.un.2.1.un.2.2.1, a7, Jint a1.un.2.2.1, Jint a1.un.2.2.2.1, a8])]
abbrev WK (a0 : Tr31) (a1 : Tr36) (a2 : Value) (a3 : Value) : List Value := [Jint a0.un.1, Jint a1.un.1, Jint a1.un.2.1, Jint a1.un.2.2.1, a2, Jint a0.un.2.2.1, Jint a0.un.2.2.2.1, a3]
def D7 (fRec : Tr31 → Option Tr39) (p0 : Tr31) : (Int × List Tr39) → Option ((Int × List Tr39) ⊕ (List Tr39))
  | (x3, x4) => (if x3 < (p0.un.2.2.2.2.length : Int) then (ix p0.un.2.2.2.2 x3).bind fun x5 => (fRec (Tr31.of (x5.un.1, Tr28.of (x5.un.2.1.un.1, x5.un.2.1.un.2.1, x5.un.2.1.un.2.2.1, x5.un.2.1.un.2.2.2), x5.un.2.2.1, x5.un.2.2.2.1, x5.un.2.2.2.2))).bind fun x6 => (GP x4 ([Tr39.of (x6.un.1, Tr36.of (x6.un.2.1.un.1, x6.un.2.1.un.2.1, x6.un.2.1.un.2.2.1, x6.un.2.1.un.2.2.2), x6.un.2.2.1, x6.un.2.2.2.1, x6.un.2.2.2.2)] : List Tr39)).bind fun x7 => some (.inl (AJ (x3 + 1), x7)) else some (.inr x4))
def Fg (fRec : Tr31 → Option Tr39) (p0 : Tr31) : Option Tr39 := (Ox (Tr28.of (p0.un.2.1.un.1, p0.un.2.1.un.2.1, p0.un.2.1.un.2.2.1, p0.un.2.1.un.2.2.2))).bind fun x1 => (AB (D7 fRec p0) (0, [])).bind fun x2 => some (Tr39.of (p0.un.1, x1, p0.un.2.2.1, p0.un.2.2.2.1, x2))
def EI : Nat → Tr31 → Option Tr39
  | 0 => fun _ => none
  | n + 1 => Fg (EI n)
def N5 (p0 : Tr31) : Option Tr39 := FT fun n => EI n p0
theorem QD (fRec : Tr31 → Option Tr39) (ih : ∀ (Y : Nat → Prop) (w0 : World) (v1 : Value) (v2 : Value) (p0 : Tr31) (r : Tr39) (H : fRec p0 = some r) (h_v1 : Sl w0 (NX []) B0 v1 p0.un.2.1.un.2.2.2) (h_v2 : Sl w0 (NX []) Dw v2 p0.un.2.2.2.2), ca_ 8 #[.agg #[Jint p0.un.1, Jint p0.un.2.1.un.1, Jint p0.un.2.1.un.2.1, Jint p0.un.2.1.un.2.2.1, v1, Jint p0.un.2.2.1, Jint p0.un.2.2.2.1, v2]] w0 fun e w' => ∃ x : Value × Value, e = .returned (.agg #[Jint r.un.1, Jint r.un.2.1.un.1, Jint r.un.2.1.un.2.1, Jint r.un.2.1.un.2.2.1, x.1, Jint r.un.2.2.1, Jint r.un.2.2.2.1, x.2]) ∧ sy Y w0 [] [row (x.1) 36 Bm r.un.2.1.un.2.2.2, row (x.2) 39 DF r.un.2.2.2.2] w') (Y : Nat → Prop) (w0 : World) (v1 : Value) (v2 : Value) (p0 : Tr31) (r : Tr39) (H : Fg fRec p0 = some r) (h_v1 : Sl w0 (NX []) B0 v1 p0.un.2.1.un.2.2.2) (h_v2 : Sl w0 (NX []) Dw v2 p0.un.2.2.2.2) :
    ca_ 8 #[.agg #[Jint p0.un.1, Jint p0.un.2.1.un.1, Jint p0.un.2.1.un.2.1, Jint p0.un.2.1.un.2.2.1, v1, Jint p0.un.2.2.1, Jint p0.un.2.2.2.1, v2]] w0 fun e w' => ∃ x : Value × Value, e = .returned (.agg #[Jint r.un.1, Jint r.un.2.1.un.1, Jint r.un.2.1.un.2.1, Jint r.un.2.1.un.2.2.1, x.1, Jint r.un.2.2.1, Jint r.un.2.2.2.1, x.2]) ∧ sy Y w0 [] [row (x.1) 36 Bm r.un.2.1.un.2.2.2, row (x.2) 39 DF r.un.2.2.2.2] w' := by
 refine enter Tryz.func8 Aa Tryz.ntmps8 Aa fun a F => ?_
 have W := Stw.start Y w0
 obtain ⟨v3, h1, h_v1⟩ := h_v1.ex CA
 obtain ⟨v4, h2, h_v2⟩ := h_v2.ex D3
 unfold Fg at H
 refine vc tk 2 F W fun a w F W => ?_
 refine BQ (cs := (EA p0 v1 v2)) F W Aa Aa Aa fun b1 a w F W => ?_
 refine Bw (cs := (Gt)) F W Aa Sv Aa fun b2 a w F W => ?_
 refine Bo tk 3 F W fun a w F W => ?_
 obtain ⟨x1, h3, H⟩ := Af H
 refine SZ (fun a w => ∃ b3 : Nat, ∃ v5 : Value, Fr 34 [] [(0, .agg #[Jint p0.un.1, Jint p0.un.2.1.un.1, Jint p0.un.2.1.un.2.1, Jint p0.un.2.1.un.2.2.1, v1, Jint p0.un.2.2.1, Jint p0.un.2.2.2.1, v2]), (1, pp b1), (2, pp b2), (3, pp b3), (5, pp b1), (6, Jint p0.un.1), (7, .pointer (some ⟨b1, 1, none⟩)), (8, .agg #[Jint p0.un.2.1.un.1, Jint p0.un.2.1.un.2.1, Jint p0.un.2.1.un.2.2.1, v1]), (9, .agg #[Jint x1.un.1, Jint x1.un.2.1, Jint x1.un.2.2.1, v5]), (10, .pointer (some ⟨b1, 5, none⟩)), (11, Jint p0.un.2.2.1), (12, .pointer (some ⟨b1, 6, none⟩)), (13, Jint p0.un.2.2.2.1), (14, .agg #[Jint p0.un.1, Jint x1.un.1, Jint x1.un.2.1, Jint x1.un.2.2.1, v5, Jint p0.un.2.2.1, Jint p0.un.2.2.2.1, .slice none 0 0])] a ∧ sy Y w0 (X3 b3 p0 x1 v5 b2 b1 v1 v2) [row v5 36 Bm x1.un.2.2.2] w) ?_ ?_
 ·
  refine Rx (PT.st 0 (PT.st 1 (PT.st 2 (PT.st 3 (PT.st 5 (PT.st 6 (PT.st 7 (PT.st 8 (PT.alt 4 (PT.st 9 (PT.alt 10 (PT.alt 11 PT.done PT.stop) PT.stop)) (PT.alt 10 (PT.alt 4 (PT.st 9 (PT.alt 11 PT.done PT.stop)) PT.stop) PT.stop)))))))))) (CN ⟨Y, [], w0⟩ [(some 11, b1, pz31 p0 v1 v2), (some 4, b1, pz31 p0 v1 v2)] []) (fun ch a d v w h => by cases d <;> exact h) MO (by kernel_rfl) W (fun w W => ⟨_, _, W, (all_cons (fun _ => (.tail _ (.head _))) (all_cons (fun _ => (.tail _ (.head _))) Ak)), Ak⟩) fun w W => ?_
  refine IC (R := []) F Aa Aa (yC fun M Z hN hZ => Aq Ii Aa Aa Aa T3 F Aa 0 Aa) Aa Aa fun a F => ?_
  refine IC (R := [11]) F Aa Aa (yC fun M Z hN hZ => Cx (cs := (EA p0 v1 v2)) (v := Jint p0.un.1) F Aa (hN ((some 11), b1, (EA p0 v1 v2)) (.head _) Aa) T3 Aa) (by kernel_rfl) Aa fun a F => ?_
  refine IC (R := []) F Aa Aa (yC fun M Z hN hZ => Aq Ii Aa Aa Aa I2 F Aa 1 Aa) Aa Aa fun a F => ?_
  refine IC (R := [4]) F Aa Aa (yC fun M Z hN hZ => Cx (cs := (EA p0 v1 v2)) (v := Value.agg #[Jint p0.un.2.1.un.1, Jint p0.un.2.1.un.2.1, Jint p0.un.2.1.un.2.2.1, v1]) F Aa (hN ((some 4), b1, (EA p0 v1 v2)) (.tail _ (.head _)) Aa) I2 Aa) (by kernel_rfl) Aa fun a F => ?_
  refine IC (R := []) F Aa Aa (yC fun M Z hN hZ => Aq Ii Aa Aa Aa T3 F Aa 5 Aa) Aa Aa fun a F => ?_
  refine IC (R := [11]) F Aa Aa (yC fun M Z hN hZ => Cx (cs := (EA p0 v1 v2)) (v := Jint p0.un.2.2.1) F Aa (hN ((some 11), b1, (EA p0 v1 v2)) (.head _) Aa) T3 Aa) (by kernel_rfl) Aa fun a F => ?_
  refine IC (R := []) F Aa Aa (yC fun M Z hN hZ => Aq Ii Aa Aa Aa T3 F Aa 6 Aa) Aa Aa fun a F => ?_
  refine IC (R := [11]) F Aa Aa (yC fun M Z hN hZ => Cx (cs := (EA p0 v1 v2)) (v := Jint p0.un.2.2.2.1) F Aa (hN ((some 11), b1, (EA p0 v1 v2)) (.head _) Aa) T3 Aa) (by kernel_rfl) Aa fun a F => ?_
  refine UL Aa ?_ ?_
  ·
   refine AO (Ml := []) (Zl := []) (β := Value) (rv := fun x => .agg #[Jint x1.un.1, Jint x1.un.2.1, Jint x1.un.2.2.1, x]) (MM := fun x => []) (ZZ := fun x => [row x 36 Bm x1.un.2.2.2]) F W ZL Aa Aa (fun hL => OX _ w (v1) (Tr28.of (p0.un.2.1.un.1, p0.un.2.1.un.2.1, p0.un.2.1.un.2.2.1, p0.un.2.1.un.2.2.2)) _ h3 ((Al CA h1 (Ae h_v1)) w W).nx) fun x a w F W => ?_
   obtain ⟨v5, rfl⟩ : ∃ y, y = x := ⟨x, rfl⟩
   have W : sy Y w0 (VA b2 b1 p0 v1 v2) [row v5 36 Bm x1.un.2.2.2] w := W
   refine Gb (N2 := []) (NZ2 := []) (N3 := [(some 11, b1, pz31 p0 v1 v2), (some 4, b1, pz31 p0 v1 v2)]) (NZ3 := []) W Aa Aa (all_cons (fun _ => (.tail _ (.head _))) (all_cons (fun h => An (by kernel_rfl) h) Ak)) Ak ?_
   refine IC (R := []) F Aa Aa (yC fun M Z hN hZ => Cf (v := Value.agg #[Jint p0.un.1, Jint x1.un.1, Jint x1.un.2.1, Jint x1.un.2.2.1, v5, Jint p0.un.2.2.1, Jint p0.un.2.2.2.1, .slice none 0 0]) Zq F Aa (AY Aa Aa Aa (AY Aa Aa Aa (AY Aa Aa Aa (AY Aa Aa Aa CQ)))) Aa) Aa Aa fun a F => ?_
   refine MD Aa ?_
   refine Bw (cs := (Gt)) F W Aa Sv Aa fun b3 a w F W => ?_
   refine Gb (N2 := []) (NZ2 := []) (N3 := [(some 11, b1, pz31 p0 v1 v2), (some 4, b1, pz31 p0 v1 v2)]) (NZ3 := []) W Aa Aa (all_cons (fun _ => (.tail _ (.tail _ (.head _)))) (all_cons (fun h => An (by kernel_rfl) h) Ak)) Ak ?_
   refine MD Aa ?_
   refine CE 0 F W Aa Aa Aa I7 Aa Aa (Ac Aa (Ac Aa (Ac Aa (Ac Aa (Ac (W.one (k := 0) Aa) (Ac Aa (Ac Aa (Ac Aa Bn)))))))) fun w W => ?_
   refine Gb (N2 := []) (NZ2 := []) (N3 := [(some 11, b1, pz31 p0 v1 v2), (some 4, b1, pz31 p0 v1 v2)]) (NZ3 := []) W Aa Aa (all_cons (fun h => An (by kernel_rfl) h) (all_cons (fun h => An (by kernel_rfl) h) Ak)) Ak ?_
   have W := W.frontM (i := 2) Aa Aa
   have W := W.frontM (i := 2) Aa Aa
   have W := W.frontM (i := 2) Aa Aa
   refine Qb ?_
   exact ⟨b3, v5, F.ra Aa, W⟩
  refine UL Aa ?_ ?_
  ·
   refine Bw (cs := (Gt)) F W Aa Sv Aa fun b3 a w F W => ?_
   refine Gb (N2 := []) (NZ2 := []) (N3 := [(some 11, b1, pz31 p0 v1 v2), (some 4, b1, pz31 p0 v1 v2)]) (NZ3 := []) W Aa Aa (all_cons (fun _ => (.tail _ (.tail _ (.head _)))) (all_cons (fun _ => (.tail _ (.tail _ (.head _)))) Ak)) Ak ?_
   refine MD Aa ?_
   refine AO (Ml := []) (Zl := []) (β := Value) (rv := fun x => .agg #[Jint x1.un.1, Jint x1.un.2.1, Jint x1.un.2.2.1, x]) (MM := fun x => []) (ZZ := fun x => [row x 36 Bm x1.un.2.2.2]) F W ZL Aa Aa (fun hL => OX _ w (v1) (Tr28.of (p0.un.2.1.un.1, p0.un.2.1.un.2.1, p0.un.2.1.un.2.2.1, p0.un.2.1.un.2.2.2)) _ h3 ((Al CA h1 (Ae h_v1)) w W).nx) fun x a w F W => ?_
   obtain ⟨v5, rfl⟩ : ∃ y, y = x := ⟨x, rfl⟩
   have W : sy Y w0 (Yh b3 b2 b1 p0 v1 v2) [row v5 36 Bm x1.un.2.2.2] w := W
   refine Gb (N2 := []) (NZ2 := []) (N3 := [(some 11, b1, pz31 p0 v1 v2), (some 4, b1, pz31 p0 v1 v2)]) (NZ3 := []) W Aa Aa (all_cons (fun _ => (.tail _ (.tail _ (.head _)))) (all_cons (fun h => An (by kernel_rfl) h) Ak)) Ak ?_
   refine IC (R := []) F Aa Aa (yC fun M Z hN hZ => Cf (v := Value.agg #[Jint p0.un.1, Jint x1.un.1, Jint x1.un.2.1, Jint x1.un.2.2.1, v5, Jint p0.un.2.2.1, Jint p0.un.2.2.2.1, .slice none 0 0]) Zq F Aa (AY Aa Aa Aa (AY Aa Aa Aa (AY Aa Aa Aa (AY Aa Aa Aa CQ)))) Aa) Aa Aa fun a F => ?_
   refine MD Aa ?_
   refine CE 0 F W Aa Aa Aa I7 Aa Aa (Ac Aa (Ac Aa (Ac Aa (Ac Aa (Ac (W.one (k := 0) Aa) (Ac Aa (Ac Aa (Ac Aa Bn)))))))) fun w W => ?_
   refine Gb (N2 := []) (NZ2 := []) (N3 := [(some 11, b1, pz31 p0 v1 v2), (some 4, b1, pz31 p0 v1 v2)]) (NZ3 := []) W Aa Aa (all_cons (fun h => An (by kernel_rfl) h) (all_cons (fun h => An (by kernel_rfl) h) Ak)) Ak ?_
   have W := W.frontM (i := 2) Aa Aa
   have W := W.frontM (i := 2) Aa Aa
   have W := W.frontM (i := 2) Aa Aa
   refine Qb ?_
   exact ⟨b3, v5, F.ra Aa, W⟩
  exact trivial
 rintro a w ⟨b3, v5, F, W⟩
 refine Ab ?_
 obtain ⟨o1, G1, K1⟩ := Af H
 refine Ap (fun a w => ∃ x2 : List Tr39, ∃ v6 : Value, some (x2) = some o1 ∧ Fr 34 [] [(2, pp b2), (3, pp b3)] a ∧ sy Y w0 (NP b3 p0 x1 v5 v6 b2 b1 v1 v2) [row v5 36 Bm x1.un.2.2.2, row v6 39 DF x2] w) ?_ ?_
 ·
  have H := G1
  refine vc tk 6 F W fun a w F W => ?_
  have W := W.nilRow 39 DF
  have W := W.frontZ (i := 1) Aa Aa
  have W := W.frontM (i := 2) Aa Aa
  have W := W.frontM (i := 2) Aa Aa
  have W := W.frontM (i := 2) Aa Aa
  refine AQ H (fun s a w => ∃ v7 : Value, Fr 34 [] [(1, pp b1), (2, pp b2), (3, pp b3), (4, Jint s.1)] a ∧ sy Y w0 (NP b3 p0 x1 v5 v7 b2 b1 v1 v2) [row v5 36 Bm x1.un.2.2.2, row v7 39 DF s.2] w) ⟨(Value.slice none 0 0), F.ra Aa, W⟩ fun s o a w H L2 hR => ?_
  obtain ⟨x3, x4⟩ := s
  obtain ⟨v7, F, W⟩ := hR
  have F : Fr 34 [] [(1, pp b1), (2, pp b2), (3, pp b3), (4, Jint x3)] a := F
  have W : sy Y w0 (NP b3 p0 x1 v5 v7 b2 b1 v1 v2) [row v5 36 Bm x1.un.2.2.2, row v7 39 DF x4] w := W
  rw [D7] at H
  refine CT tk 6 [2] F W (ai fun a w F W => ?_)
  refine ls F W Aa (Bz (r := Dw) (l := p0.un.2.2.2.2) NS Aa F Aa (Al D3 h2 (Ae h_v2))).q fun a w F W => ?_
  refine Bo tk 3 F W fun a w F W => ?_
  refine A1 F Aa H (fun F H => ?_) fun F H => ?_
  ·
   refine EX tk 4 F W fun a w F W => ?_
   obtain ⟨v8, h4, W⟩ := W.exR BK
   have W := W.frontZ (i := 1) Aa Aa
   obtain ⟨v9, h5, W⟩ := W.exR Er
   refine Ef [(true, 0), (true, 1), (true, 2), (true, 3), (true, 4), (true, 5), (true, 6), (false, 7), (false, 8), (false, 9), (true, 10), (false, 11)] (CN ⟨Y, [], w0⟩ [(some 9, b3, [Jint p0.un.1, Jint x1.un.1, Jint x1.un.2.1, Jint x1.un.2.2.1, v5, Jint p0.un.2.2.1, Jint p0.un.2.2.2.1, v7]), (some 7, b1, pz31 p0 v1 v2)] []) (fun ch a d v w h => by cases d <;> exact h) MO (by kernel_rfl) W (fun w W => ⟨_, _, W, (all_cons (fun _ => (.head _)) (all_cons (fun _ => (.tail _ (.tail _ (.head _)))) Ak)), Ak⟩) fun w W => ?_
   refine A9 (R := []) F Aa Aa (yC fun M Z hN hZ => Aq Ih Aa Aa Aa UB F Aa 7 Aa) Aa Aa fun a F => ?_
   refine A9 (R := [9]) F Aa Aa (yC fun M Z hN hZ => Cx (cs := (WK p0 x1 v5 v7)) (v := v7) F Aa (hN ((some 9), b3, (WK p0 x1 v5 v7)) (.head _) Aa) UB Aa) (by kernel_rfl) Aa fun a F => ?_
   refine A9 (R := []) F Aa Aa (yC fun M Z hN hZ => Aq Ii Aa Aa Aa PE F Aa 7 Aa) Aa Aa fun a F => ?_
   refine A9 (R := [7, 6, 5]) F Aa Aa (yC fun M Z hN hZ => Cx (cs := (EA p0 v1 v2)) (v := v2) F Aa (hN ((some 7), b1, (EA p0 v1 v2)) (.tail _ (.head _)) Aa) PE Aa) (by kernel_rfl) Aa fun a F => ?_
   refine A9 (R := []) F Aa Aa (yC fun M Z hN hZ => Ao F Aa) Aa Aa fun a F => ?_
   obtain ⟨x5, h6, H⟩ := Af H
   obtain ⟨v10, h7, h8⟩ := CS h2 h6
   have h9 : GH v10 = [Jint x5.un.1, Jint x5.un.2.1.un.1, Jint x5.un.2.1.un.2.1, Jint x5.un.2.1.un.2.2.1, (v10.2.1.2.2.2.1), Jint x5.un.2.2.1, Jint x5.un.2.2.2.1, (v10.2.2.2.2.1)] := congrArg (fun q : Tr31 => ([Jint q.un.1, Jint q.un.2.1.un.1, Jint q.un.2.1.un.2.1, Jint q.un.2.1.un.2.2.1, (v10.2.1.2.2.2.1), Jint q.un.2.2.1, Jint q.un.2.2.2.1, (v10.2.2.2.2.1)] : List Value)) h8
   refine A9 (R := []) F Aa Aa (yC fun M Z hN hZ => Au (r := Jq) Qx F Aa Aa (Ae h_v2) h7) Aa Aa fun a F => ?_
   refine A9 (R := []) F Aa Aa (yC fun M Z hN hZ => Aj (y := Value.agg #[Jint x5.un.1, Jint x5.un.2.1.un.1, Jint x5.un.2.1.un.2.1, Jint x5.un.2.1.un.2.2.1, (v10.2.1.2.2.2.1), Jint x5.un.2.2.1, Jint x5.un.2.2.2.1, (v10.2.2.2.2.1)]) (j := 0) (i := x3) (enc := GH) F Aa Aa (Ae h_v2) h7 LH Ji (by rw [h9]; rfl)) Aa Aa fun a F => ?_
   refine Dt Aa ?_
   obtain ⟨x6, h10, H⟩ := Af H
   refine AO (Ml := []) (Zl := []) (β := Value × Value) (rv := fun x => .agg #[Jint x6.un.1, Jint x6.un.2.1.un.1, Jint x6.un.2.1.un.2.1, Jint x6.un.2.1.un.2.2.1, x.1, Jint x6.un.2.2.1, Jint x6.un.2.2.2.1, x.2]) (MM := fun x => []) (ZZ := fun x => [row x.1 36 Bm x6.un.2.1.un.2.2.2, row x.2 39 DF x6.un.2.2.2.2]) F W H8 Aa Aa (fun hL => ih _ w ((v10.2.1.2.2.2.1)) ((v10.2.2.2.2.1)) (Tr31.of (x5.un.1, Tr28.of (x5.un.2.1.un.1, x5.un.2.1.un.2.1, x5.un.2.1.un.2.2.1, x5.un.2.1.un.2.2.2), x5.un.2.2.1, x5.un.2.2.2.1, x5.un.2.2.2.2)) _ h10 ((Bf (Ae h_v2) h7 (Ag.snd (Ag.fst (Ag.snd (Ag.snd (Ag.snd Ag.here))))) (congrArg (fun q : Tr31 => q.un.2.1.un.2.2.2) h8)) w W).nx ((Bf (Ae h_v2) h7 (Ag.snd (Ag.snd (Ag.snd (Ag.snd Ag.here)))) (congrArg (fun q : Tr31 => q.un.2.2.2.2) h8)) w W).nx) fun x a w F W => ?_
   obtain ⟨v11, v12⟩ := x
   have W : sy Y w0 (NP b3 p0 x1 v5 v7 b2 b1 v1 v2) [row v11 36 Bm x6.un.2.1.un.2.2.2, row v12 39 DF x6.un.2.2.2.2, row v7 39 LM v9, row v5 36 HE v8] w := W
   refine Bc (N2 := []) (NZ2 := []) (N3 := [(some 9, b3, [Jint p0.un.1, Jint x1.un.1, Jint x1.un.2.1, Jint x1.un.2.2.1, v5, Jint p0.un.2.2.1, Jint p0.un.2.2.2.1, v7]), (some 7, b1, pz31 p0 v1 v2)]) (NZ3 := []) W Aa Aa (all_cons (fun _ => (.head _)) (all_cons (fun h => An (by kernel_rfl) h) Ak)) Ak ?_
   refine Dt Aa ?_
   have W := W.freeze
   have W := W.frontZ (i := 1) Aa Aa
   have W := W.freeze
   refine GT (z := Value.agg #[Jint 0, Jint 0, Jint 0, Jint 0, .slice none 0 0, Jint 0, Jint 0, .slice none 0 0]) (cs := (C7 x6 v11 v12)) DF ([Tr39.of (x6.un.1, Tr36.of (x6.un.2.1.un.1, x6.un.2.1.un.2.1, x6.un.2.1.un.2.2.1, x6.un.2.1.un.2.2.2), x6.un.2.2.1, x6.un.2.2.2.1, x6.un.2.2.2.2)] : List Tr39) F W Aa Ta Sv Aa Aa Aa (AY Aa Aa Aa CQ) Aa Aa ⟨[Jint x6.un.1, Jint x6.un.2.1.un.1, Jint x6.un.2.1.un.2.1, Jint x6.un.2.1.un.2.2.1, v11, Jint x6.un.2.2.1, Jint x6.un.2.2.2.1, v12], _, Aa, (X7.2 ⟨[Jint x6.un.1], [Jint x6.un.2.1.un.1, Jint x6.un.2.1.un.2.1, Jint x6.un.2.1.un.2.2.1, v11, Jint x6.un.2.2.1, Jint x6.un.2.2.2.1, v12], Aa, Aa, ⟨[Jint x6.un.2.1.un.1, Jint x6.un.2.1.un.2.1, Jint x6.un.2.1.un.2.2.1, v11], [Jint x6.un.2.2.1, Jint x6.un.2.2.2.1, v12], Aa, (SI.2 ⟨[Jint x6.un.2.1.un.1], [Jint x6.un.2.1.un.2.1, Jint x6.un.2.1.un.2.2.1, v11], Aa, Aa, ⟨[Jint x6.un.2.1.un.2.1], [Jint x6.un.2.1.un.2.2.1, v11], Aa, Aa, ⟨[Jint x6.un.2.1.un.2.2.1], [v11], Aa, Aa, ⟨_, Aa, (W.item (i := 1) Aa)⟩⟩⟩⟩), ⟨[Jint x6.un.2.2.1], [Jint x6.un.2.2.2.1, v12], Aa, Aa, ⟨[Jint x6.un.2.2.2.1], [v12], Aa, Aa, ⟨_, Aa, (W.item (i := 0) Aa)⟩⟩⟩⟩⟩), Aa⟩ fun v13 a w F W => ?_
   refine Bc (N2 := []) (NZ2 := []) (N3 := [(some 9, b3, [Jint p0.un.1, Jint x1.un.1, Jint x1.un.2.1, Jint x1.un.2.2.1, v5, Jint p0.un.2.2.1, Jint p0.un.2.2.2.1, v7]), (some 7, b1, pz31 p0 v1 v2)]) (NZ3 := []) W Aa Aa (all_cons (fun _ => (.head _)) (all_cons (fun h => An (by kernel_rfl) h) Ak)) Ak ?_
   refine Dt Aa ?_
   have W := W.frontZ (i := 3) Aa Aa
   have W := W.hideR Er h5
   obtain ⟨x7, h11, H⟩ := Af H
   refine DL (r := DF) (i := 0) F W Aa Ta Aa Aa Aa Aa (EB W 1 Aa) h11 Aa fun v14 a w F W => ?_
   have W : sy Y w0 (NP b3 p0 x1 v5 v7 b2 b1 v1 v2) [row v14 39 DF x7, row v13 39 DF ([Tr39.of (x6.un.1, Tr36.of (x6.un.2.1.un.1, x6.un.2.1.un.2.1, x6.un.2.1.un.2.2.1, x6.un.2.1.un.2.2.2), x6.un.2.2.1, x6.un.2.2.2.1, x6.un.2.2.2.2)] : List Tr39), Ch v12 DF x6.un.2.2.2.2, Ch v11 Bm x6.un.2.1.un.2.2.2, row v5 36 HE v8] w := W
   refine Bc (N2 := []) (NZ2 := []) (N3 := [(some 9, b3, [Jint p0.un.1, Jint x1.un.1, Jint x1.un.2.1, Jint x1.un.2.2.1, v5, Jint p0.un.2.2.1, Jint p0.un.2.2.2.1, v7]), (some 7, b1, pz31 p0 v1 v2)]) (NZ3 := []) W Aa Aa (all_cons (fun h => An (by kernel_rfl) h) (all_cons (fun h => An (by kernel_rfl) h) Ak)) Ak ?_
   refine A9 (R := []) F Aa Aa (yC fun M Z hN hZ => Aq Ih Aa Aa Aa UB F Aa 7 Aa) Aa Aa fun a F => ?_
   refine Dt Aa ?_
   refine IV (M' := (NP b3 p0 x1 v5 v14 b2 b1 v1 v2)) 0 F W Aa Aa Aa UB (W.one (k := 0) Aa) Aa Aa fun w W => ?_
   refine Bc (N2 := []) (NZ2 := []) (N3 := [(some 9, b3, [Jint p0.un.1, Jint x1.un.1, Jint x1.un.2.1, Jint x1.un.2.2.1, v5, Jint p0.un.2.2.1, Jint p0.un.2.2.2.1, v7]), (some 7, b1, pz31 p0 v1 v2)]) (NZ3 := []) W Aa Aa (all_cons (fun h => An (by kernel_rfl) h) (all_cons (fun h => An (by kernel_rfl) h) Ak)) Ak ?_
   refine FL (Az ?_)
   refine vn tk 5 F W fun a w F W => ?_
   refine Ab ?_
   have W := W.frontZ (i := 4) Aa Aa
   have W := W.hideR BK h4
   have W := W.frontZ (i := 1) Aa Aa
   have W := W.frontZ (i := 1) Aa Aa
   have W := W.frontM (i := 2) Aa Aa
   have W := W.frontM (i := 2) Aa Aa
   have W := W.frontM (i := 2) Aa Aa
   have W := W.sub (M' := (NP b3 p0 x1 v5 v14 b2 b1 v1 v2)) (Z' := [row v5 36 Bm x1.un.2.2.2, row v14 39 DF x7]) sr (sc (sc nl))
   exact ⟨_, H, (v14), F.ra Aa, W⟩
  refine AN ?_
  iterate 2 refine A6 ?_
  refine AP (Ab ?_)
  have W := W.frontZ (i := 1) Aa Aa
  have W := W.frontZ (i := 1) Aa Aa
  have W := W.frontM (i := 2) Aa Aa
  have W := W.frontM (i := 2) Aa Aa
  have W := W.frontM (i := 2) Aa Aa
  have H := L2 _ H
  exact ⟨_, (v7), H, F.ra Aa, W⟩
 rintro a w ⟨x2, v6, hj, F, W⟩
 have hj := Ay hj
 subst hj
 have H := K1
 refine CT tk 3 [0] F W (ai fun a w F W => ?_)
 refine CE 1 F W Aa Aa Aa I7 Aa Aa (Ac Aa (Ac Aa (Ac Aa (Ac Aa (Ac (W.one (k := 0) Aa) (Ac Aa (Ac Aa (Ac (W.one (k := 1) Aa) Bn)))))))) fun w W => ?_
 refine Bo tk 2 F W fun a w F W => ?_
 refine Ah ?_
 have H := Ay H
 subst H
 refine Av (.inl Aa) F W Aa (Cm 1 F Aa Aa I7 Aa) ?_
 have W := W.frontZ (i := 1) Aa Aa
 have W := W.frontZ (i := 1) Aa Aa
 have W := W.sub (M' := []) (Z' := [row v5 36 Bm x1.un.2.2.2, row v6 39 DF x2]) nl sr
 exact ⟨((v5), (v6)), Aa, W⟩
theorem RG : ∀ (n : Nat) (Y : Nat → Prop) (w0 : World) (v1 : Value) (v2 : Value) (p0 : Tr31) (r : Tr39) (H : EI n p0 = some r) (h_v1 : Sl w0 (NX []) B0 v1 p0.un.2.1.un.2.2.2) (h_v2 : Sl w0 (NX []) Dw v2 p0.un.2.2.2.2), ca_ 8 #[.agg #[Jint p0.un.1, Jint p0.un.2.1.un.1, Jint p0.un.2.1.un.2.1, Jint p0.un.2.1.un.2.2.1, v1, Jint p0.un.2.2.1, Jint p0.un.2.2.2.1, v2]] w0 fun e w' => ∃ x : Value × Value, e = .returned (.agg #[Jint r.un.1, Jint r.un.2.1.un.1, Jint r.un.2.1.un.2.1, Jint r.un.2.1.un.2.2.1, x.1, Jint r.un.2.2.1, Jint r.un.2.2.2.1, x.2]) ∧ sy Y w0 [] [row (x.1) 36 Bm r.un.2.1.un.2.2.2, row (x.2) 39 DF r.un.2.2.2.2] w' := by
  intro n
  induction n with
  | zero => intro Y w0 v1 v2 p0 r H; exact nomatch H
  | succ n ih => intro Y w0 v1 v2 p0 r H h_v1 h_v2; exact QD (EI n) ih Y w0 v1 v2 p0 r H h_v1 h_v2
theorem Sn (Y : Nat → Prop) (w0 : World) (v1 : Value) (v2 : Value) (p0 : Tr31) (r : Tr39) (H : N5 p0 = some r) (h_v1 : Sl w0 (NX []) B0 v1 p0.un.2.1.un.2.2.2) (h_v2 : Sl w0 (NX []) Dw v2 p0.un.2.2.2.2) :
    ca_ 8 #[.agg #[Jint p0.un.1, Jint p0.un.2.1.un.1, Jint p0.un.2.1.un.2.1, Jint p0.un.2.1.un.2.2.1, v1, Jint p0.un.2.2.1, Jint p0.un.2.2.2.1, v2]] w0 fun e w' => ∃ x : Value × Value, e = .returned (.agg #[Jint r.un.1, Jint r.un.2.1.un.1, Jint r.un.2.1.un.2.1, Jint r.un.2.1.un.2.2.1, x.1, Jint r.un.2.2.1, Jint r.un.2.2.2.1, x.2]) ∧ sy Y w0 [] [row (x.1) 36 Bm r.un.2.1.un.2.2.2, row (x.2) 39 DF r.un.2.2.2.2] w' := by
  obtain ⟨n, H⟩ := BP H
  exact RG n Y w0 v1 v2 p0 r H h_v1 h_v2
def Gu (p0 : Int × (List (Int × Int × Int × Int × Int × Int)) × (List (Int × Int))) (p1 : Int) (p2 : Int) : (Int × Int) → Option ((Int × Int) ⊕ Int)
  | (x2, x3) => (if x3 < (p0.2.1.length : Int) then ((ix p0.2.1 x3).bind fun x5 => (if (decide (x5.1 = p1) && decide (x5.2.1 = p2)) = true then some (AJ (x2 + 1)) else some x2).bind fun x6 => (if (decide (x5.2.2.1 = p1) && decide (x5.2.2.2.1 = p2)) = true then some (AJ (x6 + 1)) else some x6)).bind fun x4 => some (.inl (x4, AJ (x3 + 1))) else some (.inr x2))
def Gr (p0 : Int × (List (Int × Int × Int × Int × Int × Int)) × (List (Int × Int))) (p1 : Int) (p2 : Int) : (Int × Int) → Option ((Int × Int) ⊕ Int)
  | (x8, x9) => (if x9 < (p0.2.2.length : Int) then (((ix p0.2.2 x9).bind fun x12 => (if x12.1 = p1 then (ix p0.2.2 x9).bind fun x13 => some (decide (x13.2 = p2)) else some false)).bind fun x11 => (if x11 = true then some (AJ (x8 + 1)) else some x8)).bind fun x10 => some (.inl (x10, AJ (x9 + 1))) else some (.inr x8))
def H2 (p0 : Int × (List (Int × Int × Int × Int × Int × Int)) × (List (Int × Int))) (p1 : Int) (p2 : Int) : Option Bool := (AB (Gu p0 p1 p2) (0, 0)).bind fun x1 => (AB (Gr p0 p1 p2) (x1, 0)).bind fun x7 => some (decide (0 ≤ p1) && (decide (p1 < p0.1) && (decide (0 ≤ p2) && (decide (p2 ≤ 7) && decide (x7 = 1)))))
theorem KW (Y : Nat → Prop) (w0 : World) (v1 : Value) (v2 : Value) (p0 : Int × (List (Int × Int × Int × Int × Int × Int)) × (List (Int × Int))) (p1 : Int) (p2 : Int) (r : Bool) (H : H2 p0 p1 p2 = some r) (h_v1 : Sl w0 (NX []) IP v1 p0.2.1) (h_v2 : Sl w0 (NX []) Jj v2 p0.2.2) :
    ca_ 78 #[.agg #[Jint p0.1, v1, v2], Jint p1, Jint p2] w0 fun e w' => e = .returned (.bool r) ∧ Below w0.heap.size w0 w' := by
 refine enter Tryz.func78 Aa Tryz.ntmps78 Aa fun a F => ?_
 have W := Stw.start Y w0
 unfold H2 at H
 refine vc tk 2 F W fun a w F W => ?_
 refine BQ (cs := [Jint p0.1, v1, v2]) F W Aa Aa Aa fun b1 a w F W => ?_
 refine Bo tk 8 F W fun a w F W => ?_
 obtain ⟨o1, G1, K1⟩ := Af H
 refine Ap (fun a w => ∃ x1 : Int, some (x1) = some o1 ∧ Fr 94 [] [(1, Jint p1), (2, Jint p2), (3, pp b1), (6, .bool false), (7, Jint x1)] a ∧ sy Y w0 [(b1, [Jint p0.1, v1, v2])] [] w) ?_ ?_
 ·
  have H := G1
  refine vc tk 6 F W fun a w F W => ?_
  refine AQ H (fun s a w => Fr 94 [] [(1, Jint p1), (2, Jint p2), (3, pp b1), (6, .bool false), (7, Jint s.1), (8, Jint s.2)] a ∧ sy Y w0 [(b1, [Jint p0.1, v1, v2])] [] w) ⟨F.ra Aa, W⟩ fun s o a w H L2 hR => ?_
  obtain ⟨x2, x3⟩ := s
  obtain ⟨F, W⟩ := hR
  have F : Fr 94 [] [(1, Jint p1), (2, Jint p2), (3, pp b1), (6, .bool false), (7, Jint x2), (8, Jint x3)] a := F
  have W : sy Y w0 [(b1, [Jint p0.1, v1, v2])] [] w := W
  rw [Gu] at H
  refine CT tk 6 [0] F W (ai fun a w F W => ?_)
  refine ls F W Aa (Bz (r := IP) (l := p0.2.1) Py Aa F Aa (Ae h_v1)).q fun a w F W => ?_
  refine Bo tk 3 F W fun a w F W => ?_
  refine A1 F Aa H (fun F H => ?_) fun F H => ?_
  ·
   refine AD (Ab ?_)
   obtain ⟨o3, G3, K3⟩ := Af H
   refine Ap (fun a w => ∃ x4 : Int, some (x4) = some o3 ∧ Fr 94 [] [(1, Jint p1), (2, Jint p2), (3, pp b1), (6, .bool false), (7, Jint x4), (8, Jint x3)] a ∧ sy Y w0 [(b1, [Jint p0.1, v1, v2])] [] w) ?_ ?_
   ·
    have H := G3
    refine CT tk 6 [0] F W (ai fun a w F W => ?_)
    obtain ⟨x5, h1, H⟩ := Af H
    refine ls F W Aa (Au (r := IP) Xa F Aa Aa (Ae h_v1) h1).q fun a w F W => ?_
    refine ls F W Aa (Aj (y := Value.agg #[Jint x5.1, Jint x5.2.1, Jint x5.2.2.1, Jint x5.2.2.2.1, Jint x5.2.2.2.2.1, Jint x5.2.2.2.2.2]) (j := 0) (i := x3) F Aa Aa (Ae h_v1) h1 Xd.to Wp Aa).q fun a w F W => ?_
    refine Bw (cs := (UV)) F W Aa Y7 Aa fun b2 a w F W => ?_
    refine CE 0 F W Aa Aa Aa Wp Aa Aa Aa fun w W => ?_
    refine F6 (Ab ?_)
    obtain ⟨o4, G4, K4⟩ := Af H
    refine Ap (fun a w => ∃ x6 : Int, some (x6) = some o4 ∧ Fr 94 [] [(1, Jint p1), (2, Jint p2), (3, pp b1), (6, .bool false), (7, Jint x6), (8, Jint x3), (9, pp b2)] a ∧ sy Y w0 (Rq b2 x5 b1 p0 v1 v2) [] w) ?_ ?_
    ·
     have H := G4
     refine Ap (fun a w => Fr 94 [] [(1, Jint p1), (2, Jint p2), (3, pp b1), (6, .bool false), (7, Jint x2), (8, Jint x3), (9, pp b2), (32, .bool (decide (x5.1 = p1) && decide (x5.2.1 = p2)))] a ∧ sy Y w0 (Rq b2 x5 b1 p0 v1 v2) [] w) ?_ ?_
     ·
      refine CT tk 6 [0] F W (ai fun a w F W => ?_)
      rcases bxq (decide (x5.1 = p1)) with hb0 | hb0
      ·
       rw [hb0] at F
       refine DU tk 6 [0] F W (ai fun a w F W => ?_)
       refine Ab ?_
       exact ⟨F.re ⟨rfl, Aa, Aa, Aa, Aa, Aa, Aa, (CL (by try rw [hb0]; all_goals simp only [CM])), trivial⟩, W⟩
      rw [hb0] at F
      refine vl tk 6 F W fun a w F W => ?_
      refine Ab ?_
      exact ⟨F.re ⟨rfl, Aa, Aa, Aa, Aa, Aa, Aa, (CL (by try rw [hb0]; all_goals simp only [CM])), trivial⟩, W⟩
     rintro a w ⟨F, W⟩
     refine Bi F Aa H (fun F H => ?_) fun F H => ?_
     ·
      refine vc tk 5 F W fun a w F W => ?_
      refine Ab ?_
      have W := W.frontM (i := 1) Aa Aa
      have W := W.frontM (i := 1) Aa Aa
      exact ⟨_, H, F.ra Aa, W⟩
     refine AD (Ab ?_)
     have W := W.frontM (i := 1) Aa Aa
     have W := W.frontM (i := 1) Aa Aa
     exact ⟨_, H, F.ra Aa, W⟩
    rintro a w ⟨x6, hj, F, W⟩
    have hj := Ay hj
    subst hj
    have H := K4
    refine Ap (fun a w => Fr 94 [] [(1, Jint p1), (2, Jint p2), (3, pp b1), (6, .bool false), (7, Jint x6), (8, Jint x3), (44, .bool (decide (x5.2.2.1 = p1) && decide (x5.2.2.2.1 = p2)))] a ∧ sy Y w0 (Rq b2 x5 b1 p0 v1 v2) [] w) ?_ ?_
    ·
     refine CT tk 6 [0] F W (ai fun a w F W => ?_)
     rcases bxq (decide (x5.2.2.1 = p1)) with hb0 | hb0
     ·
      rw [hb0] at F
      refine DU tk 6 [0] F W (ai fun a w F W => ?_)
      refine Ab ?_
      exact ⟨F.re ⟨rfl, Aa, Aa, Aa, Aa, Aa, (CL (by try rw [hb0]; all_goals simp only [CM])), trivial⟩, W⟩
     rw [hb0] at F
     refine vl tk 6 F W fun a w F W => ?_
     refine Ab ?_
     exact ⟨F.re ⟨rfl, Aa, Aa, Aa, Aa, Aa, (CL (by try rw [hb0]; all_goals simp only [CM])), trivial⟩, W⟩
    rintro a w ⟨F, W⟩
    refine Bi F Aa H (fun F H => ?_) fun F H => ?_
    ·
     refine vc tk 5 F W fun a w F W => ?_
     refine Az (Ab ?_)
     have W := W.frontM (i := 1) Aa Aa
     have W := W.sub (M' := [(b1, [Jint p0.1, v1, v2])]) (Z' := []) (sc nl) sr
     exact ⟨_, H, F.ra Aa, W⟩
    refine AD (Az (Ab ?_))
    have W := W.frontM (i := 1) Aa Aa
    have W := W.sub (M' := [(b1, [Jint p0.1, v1, v2])]) (Z' := []) (sc nl) sr
    exact ⟨_, H, F.ra Aa, W⟩
   rintro a w ⟨x4, hj, F, W⟩
   have hj := Ay hj
   subst hj
   have H := K3
   refine vc tk 5 F W fun a w F W => ?_
   refine Ab ?_
   exact ⟨_, H, F.ra Aa, W⟩
  refine AN ?_
  iterate 2 refine A6 ?_
  refine AP (Ab ?_)
  have H := L2 _ H
  exact ⟨_, H, F.ra Aa, W⟩
 rintro a w ⟨x1, hj, F, W⟩
 have hj := Ay hj
 subst hj
 have H := K1
 obtain ⟨o5, G5, K5⟩ := Af H
 refine Ap (fun a w => ∃ x7 : Int, some (x7) = some o5 ∧ Fr 94 [] [(1, Jint p1), (2, Jint p2), (3, pp b1), (6, .bool false), (7, Jint x7)] a ∧ sy Y w0 [(b1, [Jint p0.1, v1, v2])] [] w) ?_ ?_
 ·
  have H := G5
  refine vc tk 6 F W fun a w F W => ?_
  refine AQ H (fun s a w => Fr 94 [] [(1, Jint p1), (2, Jint p2), (3, pp b1), (6, .bool false), (7, Jint s.1), (10, Jint s.2)] a ∧ sy Y w0 [(b1, [Jint p0.1, v1, v2])] [] w) ⟨F.ra Aa, W⟩ fun s o a w H L6 hR => ?_
  obtain ⟨x8, x9⟩ := s
  obtain ⟨F, W⟩ := hR
  have F : Fr 94 [] [(1, Jint p1), (2, Jint p2), (3, pp b1), (6, .bool false), (7, Jint x8), (10, Jint x9)] a := F
  have W : sy Y w0 [(b1, [Jint p0.1, v1, v2])] [] w := W
  rw [Gr] at H
  refine CT tk 6 [0] F W (ai fun a w F W => ?_)
  refine ls F W Aa (Bz (r := Jj) (l := p0.2.2) QV Aa F Aa (Ae h_v2)).q fun a w F W => ?_
  refine Bo tk 3 F W fun a w F W => ?_
  refine A1 F Aa H (fun F H => ?_) fun F H => ?_
  ·
   refine AD (Ab ?_)
   obtain ⟨o7, G7, K7⟩ := Af H
   refine Ap (fun a w => ∃ x10 : Int, some (x10) = some o7 ∧ Fr 94 [] [(1, Jint p1), (2, Jint p2), (3, pp b1), (6, .bool false), (7, Jint x10), (10, Jint x9)] a ∧ sy Y w0 [(b1, [Jint p0.1, v1, v2])] [] w) ?_ ?_
   ·
    have H := G7
    refine Ez ?_
    obtain ⟨o8, G8, K8⟩ := Af H
    refine Ap (fun a w => ∃ x11 : Bool, some (x11) = some o8 ∧ Fr 94 [] [(1, Jint p1), (2, Jint p2), (3, pp b1), (6, .bool false), (7, Jint x8), (10, Jint x9), (71, .bool x11)] a ∧ sy Y w0 [(b1, [Jint p0.1, v1, v2])] [] w) ?_ ?_
    ·
     have H := G8
     refine CT tk 4 [0] F W (ai fun a w F W => ?_)
     obtain ⟨x12, h2, H⟩ := Af H
     refine ls F W Aa (Au (r := Jj) Xe F Aa Aa (Ae h_v2) h2).q fun a w F W => ?_
     refine ls F W Aa (Aq U6 Aa Aa Aa T3 F Aa (H5 v2 + (x9).toNat * 2) Aa).q fun a w F W => ?_
     refine ls F W Aa (Aj (y := Jint x12.1) (j := 0) (i := x9) F Aa Aa (Ae h_v2) h2 W1.to T3 Aa).q fun a w F W => ?_
     refine vl tk 3 F W fun a w F W => ?_
     rcases bxq (decide (x12.1 = p1)) with hb | hb
     ·
      have H := BB (B4 hb) H
      rw [hb] at F
      refine DU tk 3 [0] F W (ai fun a w F W => ?_)
      obtain ⟨x13, h3, H⟩ := Af H
      refine Dy F W (Ad F Aa Aa Aa Aa) Aa (As Aa) (Au (r := Jj) Xe F Aa Aa (Ae h_v2) h3).q fun a w F W => ?_
      refine Dy F W (Ad F Aa Aa Aa Aa) Aa (As Aa) (Aq U6 Aa Aa Aa T3 F Aa (H5 v2 + (x9).toNat * 2 + 1) Aa).q fun a w F W => ?_
      refine Dy F W (Ad F Aa Aa Aa Aa) Aa (As Aa) (Aj (y := Jint x13.2) (j := 1) (i := x9) F Aa Aa (Ae h_v2) h3 W1.to T3 Aa).q fun a w F W => ?_
      refine vl tk 4 F W fun a w F W => ?_
      refine Ab ?_
      exact ⟨_, H, F.ra Aa, W⟩
     have H := BC (B1 hb) H
     rw [hb] at F
     refine vl tk 10 F W fun a w F W => ?_
     refine Ab ?_
     exact ⟨_, H, F.ra Aa, W⟩
    rintro a w ⟨x11, hj, F, W⟩
    have hj := Ay hj
    subst hj
    have H := K8
    refine Bi F Aa H (fun F H => ?_) fun F H => ?_
    ·
     refine vc tk 5 F W fun a w F W => ?_
     refine Az (Ab ?_)
     exact ⟨_, H, F.ra Aa, W⟩
    refine AD (Az (Ab ?_))
    exact ⟨_, H, F.ra Aa, W⟩
   rintro a w ⟨x10, hj, F, W⟩
   have hj := Ay hj
   subst hj
   have H := K7
   refine vc tk 5 F W fun a w F W => ?_
   refine Ab ?_
   exact ⟨_, H, F.ra Aa, W⟩
  refine AN ?_
  iterate 2 refine A6 ?_
  refine AP (Ab ?_)
  have H := L6 _ H
  exact ⟨_, H, F.ra Aa, W⟩
 rintro a w ⟨x7, hj, F, W⟩
 have hj := Ay hj
 subst hj
 have H := K5
 refine Ap (fun a w => Fr 94 [] [(6, .bool (decide (0 ≤ p1) && (decide (p1 < p0.1) && (decide (0 ≤ p2) && (decide (p2 ≤ 7) && decide (x7 = 1))))))] a ∧ sy Y w0 [(b1, [Jint p0.1, v1, v2])] [] w) ?_ ?_
 ·
  refine vc tk 4 F W fun a w F W => ?_
  rcases bxq (decide (0 ≤ p1)) with hb0 | hb0
  ·
   rw [hb0] at F
   refine DU tk 6 [0] F W (ai fun a w F W => ?_)
   rcases bxq (decide (p1 < p0.1)) with hb1 | hb1
   ·
    rw [hb1] at F
    refine vl tk 4 F W fun a w F W => ?_
    rcases bxq (decide (0 ≤ p2)) with hb2 | hb2
    ·
     rw [hb2] at F
     refine vl tk 4 F W fun a w F W => ?_
     rcases bxq (decide (p2 ≤ 7)) with hb3 | hb3
     ·
      rw [hb3] at F
      refine vl tk 5 F W fun a w F W => ?_
      refine Ab ?_
      exact ⟨F.re ⟨(CL (by try rw [hb1]; try rw [hb0]; try rw [hb2]; try rw [hb3]; all_goals simp only [CM])), trivial⟩, W⟩
     rw [hb3] at F
     refine vl tk 5 F W fun a w F W => ?_
     refine Ab ?_
     exact ⟨F.re ⟨(CL (by try rw [hb1]; try rw [hb0]; try rw [hb2]; try rw [hb3]; all_goals simp only [CM])), trivial⟩, W⟩
    rw [hb2] at F
    refine vl tk 9 F W fun a w F W => ?_
    refine Ab ?_
    exact ⟨F.re ⟨(CL (by try rw [hb1]; try rw [hb0]; try rw [hb2]; all_goals simp only [CM])), trivial⟩, W⟩
   rw [hb1] at F
   refine vl tk 13 F W fun a w F W => ?_
   refine Ab ?_
   exact ⟨F.re ⟨(CL (by try rw [hb1]; try rw [hb0]; all_goals simp only [CM])), trivial⟩, W⟩
  rw [hb0] at F
  refine vl tk 19 F W fun a w F W => ?_
  refine Ab ?_
  exact ⟨F.re ⟨(CL (by try rw [hb0]; all_goals simp only [CM])), trivial⟩, W⟩
 rintro a w ⟨F, W⟩
 refine Ah ?_
 have H := Ay H
 subst H
 refine Av (.inl Aa) F W Aa (Am F Aa) ?_
 exact ⟨rfl, W.done⟩
theorem ZG : Has Tryz.prog 78 := BM Tryz.func78
def GJ (p0 : Int × (List (Int × Int × Int × Int × Int × Int)) × (List (Int × Int))) : Int → Option (Int ⊕ (Unit ⊕ Bool))
  | x1 => (if x1 < (p0.2.1.length : Int) then (ix p0.2.1 x1).bind fun x2 => (if x2.1 = x2.2.2.1 then some true else (if x2.2.2.2.2.1 < 1 then some true else (if x2.2.2.2.2.2 < x2.2.2.2.2.1 then some true else (if 1000 < x2.2.2.2.2.2 then some true else (H2 p0 x2.1 x2.2.1).bind fun x4 => (if (!x4) = true then some true else (H2 p0 x2.2.2.1 x2.2.2.2.1).bind fun x5 => some (!x5)))))).bind fun x3 => (if x3 = true then some (.inr (.inr false)) else some (.inl (AJ (x1 + 1)))) else some (.inr (.inl ())))
def GM (p0 : Int × (List (Int × Int × Int × Int × Int × Int)) × (List (Int × Int))) : Int → Option (Int ⊕ (Unit ⊕ Bool))
  | x6 => (if x6 < (p0.2.2.length : Int) then (ix p0.2.2 x6).bind fun x7 => (ix p0.2.2 x6).bind fun x8 => (H2 p0 x7.1 x8.2).bind fun x9 => (if (!x9) = true then some (.inr (.inr false)) else some (.inl (AJ (x6 + 1)))) else some (.inr (.inl ())))
def IK (p0 : Int × (List (Int × Int × Int × Int × Int × Int)) × (List (Int × Int))) : Option Bool := (if (decide (p0.1 < 1) || (decide (8 < p0.1) || (decide (24 < (p0.2.1.length : Int)) || decide (8 < (p0.2.2.length : Int))))) = true then some false else HA (AB (GJ p0) 0) fun _ => HA (AB (GM p0) 0) fun _ => some true)
theorem Rc (Y : Nat → Prop) (w0 : World) (v1 : Value) (v2 : Value) (p0 : Int × (List (Int × Int × Int × Int × Int × Int)) × (List (Int × Int))) (r : Bool) (H : IK p0 = some r) (h_v1 : Sl w0 (NX []) IP v1 p0.2.1) (h_v2 : Sl w0 (NX []) Jj v2 p0.2.2) :
    ca_ 37 #[.agg #[Jint p0.1, v1, v2]] w0 fun e w' => e = .returned (.bool r) ∧ Below w0.heap.size w0 w' := by
 refine enter Tryz.func37 Aa Tryz.ntmps37 Aa fun a F => ?_
 have W := Stw.start Y w0
 unfold IK at H
 refine vc tk 2 F W fun a w F W => ?_
 refine BQ (cs := [Jint p0.1, v1, v2]) F W Aa Aa Aa fun b1 a w F W => ?_
 refine Bo tk 4 F W fun a w F W => ?_
 refine Ap (fun a w => Fr 100 [] [(1, pp b1), (2, .bool false), (25, .bool (decide (p0.1 < 1) || (decide (8 < p0.1) || (decide (24 < (p0.2.1.length : Int)) || decide (8 < (p0.2.2.length : Int))))))] a ∧ sy Y w0 [(b1, [Jint p0.1, v1, v2])] [] w) ?_ ?_
 ·
  refine CT tk 5 [0] F W (ai fun a w F W => ?_)
  rcases bxq (decide (p0.1 < 1)) with hb0 | hb0
  ·
   rw [hb0] at F
   refine vl tk 17 F W fun a w F W => ?_
   refine Ab ?_
   exact ⟨F.re ⟨rfl, Aa, (CL (by try rw [hb0]; all_goals simp only [CM])), trivial⟩, W⟩
  rw [hb0] at F
  refine DU tk 5 [0] F W (ai fun a w F W => ?_)
  rcases bxq (decide (8 < p0.1)) with hb1 | hb1
  ·
   rw [hb1] at F
   refine vl tk 12 F W fun a w F W => ?_
   refine Ab ?_
   exact ⟨F.re ⟨rfl, Aa, (CL (by try rw [hb0]; try rw [hb1]; all_goals simp only [CM])), trivial⟩, W⟩
  rw [hb1] at F
  refine DU tk 2 [0] F W (ai fun a w F W => ?_)
  refine Dy F W (Ad F Aa Aa Aa Aa) Aa (As Aa) (Bz (r := IP) (l := p0.2.1) Py Aa F Aa (Ae h_v1)).q fun a w F W => ?_
  refine vl tk 3 F W fun a w F W => ?_
  rcases bxq (decide (24 < (p0.2.1.length : Int))) with hb2 | hb2
  ·
   rw [hb2] at F
   refine vl tk 6 F W fun a w F W => ?_
   refine Ab ?_
   exact ⟨F.re ⟨rfl, Aa, (CL (by try rw [hb2]; try rw [hb0]; try rw [hb1]; all_goals simp only [CM])), trivial⟩, W⟩
  rw [hb2] at F
  refine DU tk 2 [0] F W (ai fun a w F W => ?_)
  refine Dy F W (Ad F Aa Aa Aa Aa) Aa (As Aa) (Bz (r := Jj) (l := p0.2.2) QV Aa F Aa (Ae h_v2)).q fun a w F W => ?_
  refine vl tk 3 F W fun a w F W => ?_
  refine Ab ?_
  exact ⟨F.re ⟨rfl, Aa, (CL (by try rw [hb2]; try rw [hb0]; try rw [hb1]; all_goals simp only [CM])), trivial⟩, W⟩
 rintro a w ⟨F, W⟩
 refine Bi F Aa H (fun F H => ?_) fun F H => ?_
 ·
  refine vc tk 5 F W fun a w F W => ?_
  refine Ah (Aw ?_)
  have H := Ay H
  subst H
  refine Av (.inl Aa) F W Aa (Am F Aa) ?_
  exact ⟨rfl, W.done⟩
 refine AD (Ab ?_)
 obtain ⟨o1, G1, K1, L1⟩ := Lh H
 refine Ap (fun a w => some (Sum.inl ()) = some o1 ∧ Fr 100 [] [(1, pp b1), (2, .bool false)] a ∧ sy Y w0 [(b1, [Jint p0.1, v1, v2])] [] w) ?_ ?_
 ·
  have H := G1
  refine vc tk 6 F W fun a w F W => ?_
  refine AQ H (fun s a w => Fr 100 [] [(1, pp b1), (2, .bool false), (3, Jint s)] a ∧ sy Y w0 [(b1, [Jint p0.1, v1, v2])] [] w) ⟨F.ra Aa, W⟩ fun s o a w H L2 hR => ?_
  obtain ⟨x1, rfl⟩ : ∃ x, x = s := ⟨s, rfl⟩
  obtain ⟨F, W⟩ := hR
  have F : Fr 100 [] [(1, pp b1), (2, .bool false), (3, Jint x1)] a := F
  have W : sy Y w0 [(b1, [Jint p0.1, v1, v2])] [] w := W
  rw [GJ] at H
  refine CT tk 6 [0] F W (ai fun a w F W => ?_)
  refine ls F W Aa (Bz (r := IP) (l := p0.2.1) Py Aa F Aa (Ae h_v1)).q fun a w F W => ?_
  refine Bo tk 3 F W fun a w F W => ?_
  refine A1 F Aa H (fun F H => ?_) fun F H => ?_
  ·
   refine Hr tk 9 [0] F W (ai fun a w F W => ?_)
   obtain ⟨x2, h1, H⟩ := Af H
   refine ls F W Aa (Au (r := IP) Xa F Aa Aa (Ae h_v1) h1).q fun a w F W => ?_
   refine ls F W Aa (Aj (y := Value.agg #[Jint x2.1, Jint x2.2.1, Jint x2.2.2.1, Jint x2.2.2.2.1, Jint x2.2.2.2.2.1, Jint x2.2.2.2.2.2]) (j := 0) (i := x1) F Aa Aa (Ae h_v1) h1 Xd.to Wp Aa).q fun a w F W => ?_
   refine Bw (cs := (UV)) F W Aa Y7 Aa fun b2 a w F W => ?_
   refine CE 0 F W Aa Aa Aa Wp Aa Aa Aa fun w W => ?_
   refine F6 (Ab ?_)
   obtain ⟨o3, G3, K3⟩ := Af H
   refine Ap (fun a w => ∃ x3 : Bool, some (x3) = some o3 ∧ Fr 100 [] [(1, pp b1), (2, .bool false), (3, Jint x1), (77, .bool x3)] a ∧ sy Y w0 (Rq b2 x2 b1 p0 v1 v2) [] w) ?_ ?_
   ·
    have H := G3
    refine CT tk 7 [0, 0] F W (ai (ai fun a w F W => ?_))
    rcases bxq (decide (x2.1 = x2.2.2.1)) with hb | hb
    ·
     have H := BB (B4 hb) H
     rw [hb] at F
     refine vl tk 35 F W fun a w F W => ?_
     refine Ab ?_
     have W := W.frontM (i := 1) Aa Aa
     have W := W.frontM (i := 1) Aa Aa
     exact ⟨_, H, F.ra Aa, W⟩
    have H := BC (B1 hb) H
    rw [hb] at F
    refine DU tk 5 [0] F W (ai fun a w F W => ?_)
    rcases bxq (decide (x2.2.2.2.2.1 < 1)) with hb | hb
    ·
     have H := BB (B4 hb) H
     rw [hb] at F
     refine vl tk 30 F W fun a w F W => ?_
     refine Ab ?_
     have W := W.frontM (i := 1) Aa Aa
     have W := W.frontM (i := 1) Aa Aa
     exact ⟨_, H, F.ra Aa, W⟩
    have H := BC (B1 hb) H
    rw [hb] at F
    refine DU tk 7 [0, 0] F W (ai (ai fun a w F W => ?_))
    rcases bxq (decide (x2.2.2.2.2.2 < x2.2.2.2.2.1)) with hb | hb
    ·
     have H := BB (B4 hb) H
     rw [hb] at F
     refine vl tk 23 F W fun a w F W => ?_
     refine Ab ?_
     have W := W.frontM (i := 1) Aa Aa
     have W := W.frontM (i := 1) Aa Aa
     exact ⟨_, H, F.ra Aa, W⟩
    have H := BC (B1 hb) H
    rw [hb] at F
    refine DU tk 5 [0] F W (ai fun a w F W => ?_)
    rcases bxq (decide (1000 < x2.2.2.2.2.2)) with hb | hb
    ·
     have H := BB (B4 hb) H
     rw [hb] at F
     refine vl tk 18 F W fun a w F W => ?_
     refine Ab ?_
     have W := W.frontM (i := 1) Aa Aa
     have W := W.frontM (i := 1) Aa Aa
     exact ⟨_, H, F.ra Aa, W⟩
    have H := BC (B1 hb) H
    rw [hb] at F
    refine DU tk 5 [1, 0, 0] F W (ai (ai (ai fun a w F W => ?_)))
    refine FU (Ad F Aa Aa Aa Aa) ?_
    obtain ⟨x4, h2, H⟩ := Af H
    refine ls F W Aa (AA (v := Value.bool x4) F ZG Aa (fun w W => KW any w (v1) (v2) p0 x2.1 x2.2.1 _ h2 (Cl (Ae h_v1) W) (Cl (Ae h_v2) W))) fun a w F W => ?_
    refine vl tk 3 F W fun a w F W => ?_
    rcases bxq (!x4) with hb | hb
    ·
     have H := BB hb H
     rw [hb] at F
     refine vl tk 9 F W fun a w F W => ?_
     refine Ab ?_
     have W := W.frontM (i := 1) Aa Aa
     have W := W.frontM (i := 1) Aa Aa
     exact ⟨_, H, F.ra Aa, W⟩
    have H := BC (by rw [hb]; decide) H
    rw [hb] at F
    refine DU tk 5 [1, 0, 0] F W (ai (ai (ai fun a w F W => ?_)))
    refine FU (Ad F Aa Aa Aa Aa) ?_
    obtain ⟨x5, h3, H⟩ := Af H
    refine ls F W Aa (AA (v := Value.bool x5) F ZG Aa (fun w W => KW any w (v1) (v2) p0 x2.2.2.1 x2.2.2.2.1 _ h3 (Cl (Ae h_v1) W) (Cl (Ae h_v2) W))) fun a w F W => ?_
    refine vl tk 3 F W fun a w F W => ?_
    refine Ab ?_
    have W := W.frontM (i := 1) Aa Aa
    have W := W.frontM (i := 1) Aa Aa
    exact ⟨_, H, F.ra Aa, W⟩
   rintro a w ⟨x3, hj, F, W⟩
   have hj := Ay hj
   subst hj
   have H := K3
   refine Bi F Aa H (fun F H => ?_) fun F H => ?_
   ·
    refine vc tk 5 F W fun a w F W => ?_
    refine Ah (AC ?_)
    iterate 2 refine Aw ?_
    refine AC (Aw ?_)
    have H := L2 _ H
    have H := L1 _ H
    have H := Ay H
    subst H
    refine Av (.inl Aa) F W Aa (Am F Aa) ?_
    exact ⟨rfl, W.done⟩
   refine AD (Az ?_)
   refine vn tk 5 F W fun a w F W => ?_
   refine Ab ?_
   have W := W.frontM (i := 1) Aa Aa
   have W := W.sub (M' := [(b1, [Jint p0.1, v1, v2])]) (Z' := []) (sc nl) sr
   exact ⟨_, H, F.ra Aa, W⟩
  refine AN ?_
  iterate 2 refine A6 ?_
  refine AP (Ab ?_)
  have H := L2 _ H
  exact ⟨H, F.ra Aa, W⟩
 rintro a w ⟨hj, F, W⟩
 have H := K1 _ hj
 obtain ⟨o4, G4, K4, L4⟩ := Lh H
 refine Ap (fun a w => some (Sum.inl ()) = some o4 ∧ Fr 100 [] [(2, .bool false)] a ∧ sy Y w0 [(b1, [Jint p0.1, v1, v2])] [] w) ?_ ?_
 ·
  have H := G4
  refine vc tk 6 F W fun a w F W => ?_
  refine AQ H (fun s a w => Fr 100 [] [(1, pp b1), (2, .bool false), (5, Jint s)] a ∧ sy Y w0 [(b1, [Jint p0.1, v1, v2])] [] w) ⟨F.ra Aa, W⟩ fun s o a w H L5 hR => ?_
  obtain ⟨x6, rfl⟩ : ∃ x, x = s := ⟨s, rfl⟩
  obtain ⟨F, W⟩ := hR
  have F : Fr 100 [] [(1, pp b1), (2, .bool false), (5, Jint x6)] a := F
  have W : sy Y w0 [(b1, [Jint p0.1, v1, v2])] [] w := W
  rw [GM] at H
  refine CT tk 6 [0] F W (ai fun a w F W => ?_)
  refine ls F W Aa (Bz (r := Jj) (l := p0.2.2) QV Aa F Aa (Ae h_v2)).q fun a w F W => ?_
  refine Bo tk 3 F W fun a w F W => ?_
  refine A1 F Aa H (fun F H => ?_) fun F H => ?_
  ·
   refine EX tk 5 F W fun a w F W => ?_
   refine B5 W MO (by kernel_rfl) ?_
   refine qs F Aa (Bk (v := Value.agg #[Jint p0.1, v1, v2]) 0 F Aa Aa XA Aa).q fun a F => ?_
   refine qs F Aa (Aq Xi Aa Aa Aa YU F Aa 2 Aa).q fun a F => ?_
   refine qs F Aa (Bk (v := v2) 0 F Aa Aa YU Aa).q fun a F => ?_
   refine qs F Aa (Ao F Aa).q fun a F => ?_
   obtain ⟨x7, h4, H⟩ := Af H
   refine qs F Aa (Au (r := Jj) Xe F Aa Aa (Ae h_v2) h4).q fun a F => ?_
   refine qs F Aa (Aq U6 Aa Aa Aa T3 F Aa (H5 v2 + (x6).toNat * 2) Aa).q fun a F => ?_
   refine qs F Aa (Aj (y := Jint x7.1) (j := 0) (i := x6) F Aa Aa (Ae h_v2) h4 W1.to T3 Aa).q fun a F => ?_
   refine qs F Aa (Aq Xi Aa Aa Aa YU F Aa 2 Aa).q fun a F => ?_
   refine qs F Aa (Bk (v := v2) 0 F Aa Aa YU Aa).q fun a F => ?_
   refine qs F Aa (Ao F Aa).q fun a F => ?_
   obtain ⟨x8, h5, H⟩ := Af H
   refine qs F Aa (Au (r := Jj) Xe F Aa Aa (Ae h_v2) h5).q fun a F => ?_
   refine qs F Aa (Aq U6 Aa Aa Aa T3 F Aa (H5 v2 + (x6).toNat * 2 + 1) Aa).q fun a F => ?_
   refine qs F Aa (Aj (y := Jint x8.2) (j := 1) (i := x6) F Aa Aa (Ae h_v2) h5 W1.to T3 Aa).q fun a F => ?_
   obtain ⟨x9, h6, H⟩ := Af H
   refine qs F Aa (AA (v := Value.bool x9) F ZG Aa (fun w W => KW any w (v1) (v2) p0 x7.1 x8.2 _ h6 (Cl (Ae h_v1) W) (Cl (Ae h_v2) W))) fun a F => ?_
   refine qs F Aa (Jn F Aa).q fun a F => ?_
   refine AK fun w W => ?_
   refine Ab ?_
   refine Bi F Aa H (fun F H => ?_) fun F H => ?_
   ·
    refine vc tk 5 F W fun a w F W => ?_
    refine Ah (AC ?_)
    iterate 2 refine Aw ?_
    refine AC (Aw ?_)
    have H := L5 _ H
    have H := L4 _ H
    have H := Ay H
    subst H
    refine Av (.inl Aa) F W Aa (Am F Aa) ?_
    exact ⟨rfl, W.done⟩
   refine AD (Az ?_)
   refine vn tk 5 F W fun a w F W => ?_
   refine Ab ?_
   exact ⟨_, H, F.ra Aa, W⟩
  refine AN ?_
  iterate 2 refine A6 ?_
  refine AP (Ab ?_)
  have H := L5 _ H
  exact ⟨H, F.ra Aa, W⟩
 rintro a w ⟨hj, F, W⟩
 have H := K4 _ hj
 refine vc tk 5 F W fun a w F W => ?_
 refine Ah ?_
 have H := Ay H
 subst H
 refine Av (.inl Aa) F W Aa (Am F Aa) ?_
 exact ⟨rfl, W.done⟩
theorem cL : Has Tryz.prog 37 := BM Tryz.func37
def Kd (p0 : Int) : Int := (if p0 = 2 then 15 else (if (decide (p0 = 0) || (decide (p0 = 1) || decide (p0 = 3))) = true then 255 else 0))
theorem TY (Y : Nat → Prop) (w0 : World)  (p0 : Int) (r : Int) (H : Kd p0 = r)  :
    ca_ 109 #[Jint p0] w0 fun e w' => e = .returned (Jint r) ∧ Below w0.heap.size w0 w' := by
 refine enter Tryz.func109 Aa Tryz.ntmps109 Aa fun a F => ?_
 have W := Stw.start Y w0
 unfold Kd at H
 refine vc tk 12 F W fun a w F W => ?_
 refine A1 F Aa H (fun F H => ?_) fun F H => ?_
 ·
  refine vc tk 5 F W fun a w F W => ?_
  refine Ah (Aw ?_)
  subst H
  refine Av (.inl Aa) F W Aa (Am F Aa) ?_
  exact ⟨rfl, W.done⟩
 refine EX tk 3 F W fun a w F W => ?_
 refine Ap (fun a w => Fr 15 [] [(2, Jint 0), (14, .bool (decide (p0 = 0) || (decide (p0 = 1) || decide (p0 = 3))))] a ∧ sy Y w0 [] [] w) ?_ ?_
 ·
  refine vc tk 4 F W fun a w F W => ?_
  rcases bxq (decide (p0 = 0)) with hb0 | hb0
  ·
   rw [hb0] at F
   refine vl tk 8 F W fun a w F W => ?_
   refine Ab ?_
   exact ⟨F.re ⟨rfl, (CL (by try rw [hb0]; all_goals simp only [CM])), trivial⟩, W⟩
  rw [hb0] at F
  refine vl tk 4 F W fun a w F W => ?_
  rcases bxq (decide (p0 = 1)) with hb1 | hb1
  ·
   rw [hb1] at F
   refine vl tk 4 F W fun a w F W => ?_
   refine Ab ?_
   exact ⟨F.re ⟨rfl, (CL (by try rw [hb0]; try rw [hb1]; all_goals simp only [CM])), trivial⟩, W⟩
  rw [hb1] at F
  refine vl tk 4 F W fun a w F W => ?_
  refine Ab ?_
  exact ⟨F.re ⟨rfl, (CL (by try rw [hb0]; try rw [hb1]; all_goals simp only [CM])), trivial⟩, W⟩
 rintro a w ⟨F, W⟩
 refine Bi F Aa H (fun F H => ?_) fun F H => ?_
 ·
  refine vc tk 5 F W fun a w F W => ?_
  refine Ah (Aw ?_)
  subst H
  refine Av (.inl Aa) F W Aa (Am F Aa) ?_
  exact ⟨rfl, W.done⟩
 refine EX tk 7 F W fun a w F W => ?_
 refine Ah ?_
 subst H
 refine Av (.inl Aa) F W Aa (Am F Aa) ?_
 exact ⟨rfl, W.done⟩
theorem ZR : Has Tryz.prog 109 := BM Tryz.func109
def CP (p0 : Int) : Int := (if (decide (p0 = 4) || decide (p0 = 5)) = true then 7 else (Kd p0))
theorem Mh (Y : Nat → Prop) (w0 : World)  (p0 : Int) (r : Int) (H : CP p0 = r)  :
    ca_ 82 #[Jint p0] w0 fun e w' => e = .returned (Jint r) ∧ Below w0.heap.size w0 w' := by
 refine enter Tryz.func82 Aa Tryz.ntmps82 Aa fun a F => ?_
 have W := Stw.start Y w0
 unfold CP at H
 refine vc tk 6 F W fun a w F W => ?_
 refine Ap (fun a w => Fr 11 [] [(0, Jint p0), (2, Jint 0), (8, .bool (decide (p0 = 4) || decide (p0 = 5)))] a ∧ sy Y w0 [] [] w) ?_ ?_
 ·
  refine vc tk 4 F W fun a w F W => ?_
  rcases bxq (decide (p0 = 4)) with hb0 | hb0
  ·
   rw [hb0] at F
   refine vl tk 4 F W fun a w F W => ?_
   refine Ab ?_
   exact ⟨F.re ⟨rfl, Aa, (CL (by try rw [hb0]; all_goals simp only [CM])), trivial⟩, W⟩
  rw [hb0] at F
  refine vl tk 4 F W fun a w F W => ?_
  refine Ab ?_
  exact ⟨F.re ⟨rfl, Aa, (CL (by try rw [hb0]; all_goals simp only [CM])), trivial⟩, W⟩
 rintro a w ⟨F, W⟩
 refine Bi F Aa H (fun F H => ?_) fun F H => ?_
 ·
  refine vc tk 5 F W fun a w F W => ?_
  refine Ah (Aw ?_)
  subst H
  refine Av (.inl Aa) F W Aa (Am F Aa) ?_
  exact ⟨rfl, W.done⟩
 refine EX tk 5 F W fun a w F W => ?_
 refine ls F W Aa (AA (v := Jint (Kd p0)) F ZR Aa (fun w W => TY any w p0 _ Aa)) fun a w F W => ?_
 refine Bo tk 3 F W fun a w F W => ?_
 refine Ah ?_
 subst H
 refine Av (.inl Aa) F W Aa (Am F Aa) ?_
 exact ⟨rfl, W.done⟩
theorem Y1 : Has Tryz.prog 82 := BM Tryz.func82
theorem aB : Has Tryz.prog 47 := BM Tryz.func47
def E3 (fRec : Tr28 → Option Bool) (p0 : Tr28) : Int → Option (Int ⊕ (Unit ⊕ Bool))
  | x1 => (if x1 < (p0.un.2.2.2.length : Int) then (ix p0.un.2.2.2 x1).bind fun x2 => (fRec x2).bind fun x3 => (if (!x3) = true then some (.inr (.inr false)) else some (.inl (AJ (x1 + 1)))) else some (.inr (.inl ())))
def Ff (fRec : Tr28 → Option Bool) (p0 : Tr28) : Option Bool := (if (bif decide (p0.un.1 ≠ 3) then (decide (p0.un.2.1 ≠ 0) || (decide (p0.un.2.2.1 ≠ 0) || (decide (p0.un.1 < 1) || decide (6 < p0.un.1)))) else (decide (p0.un.1 < 1) || decide (6 < p0.un.1))) = true then some false else (if (decide (p0.un.1 = 3) && (decide (p0.un.2.1 < 0) || (decide (5 < p0.un.2.1) || (decide (p0.un.2.2.1 < 0) || decide ((CP p0.un.2.1) < p0.un.2.2.1))))) = true then some false else (if (bif decide (p0.un.1 ≤ 3) then (decide ((p0.un.2.2.2.length : Int) ≠ 0) || (bif decide (p0.un.1 = 4) then (decide ((p0.un.2.2.2.length : Int) ≠ 1) || (decide (5 ≤ p0.un.1) && (decide ((p0.un.2.2.2.length : Int) < 2) || decide (8 < (p0.un.2.2.2.length : Int))))) else (decide (5 ≤ p0.un.1) && (decide ((p0.un.2.2.2.length : Int) < 2) || decide (8 < (p0.un.2.2.2.length : Int)))))) else (bif decide (p0.un.1 = 4) then (decide ((p0.un.2.2.2.length : Int) ≠ 1) || (decide (5 ≤ p0.un.1) && (decide ((p0.un.2.2.2.length : Int) < 2) || decide (8 < (p0.un.2.2.2.length : Int))))) else (decide (5 ≤ p0.un.1) && (decide ((p0.un.2.2.2.length : Int) < 2) || decide (8 < (p0.un.2.2.2.length : Int)))))) = true then some false else HA (AB (E3 fRec p0) 0) fun _ => some true)))
def Ee : Nat → Tr28 → Option Bool
  | 0 => fun _ => none
  | n + 1 => Ff (Ee n)
def NM (p0 : Tr28) : Option Bool := FT fun n => Ee n p0
theorem Qv (fRec : Tr28 → Option Bool) (ih : ∀ (Y : Nat → Prop) (w0 : World) (v1 : Value) (p0 : Tr28) (r : Bool) (H : fRec p0 = some r) (h_v1 : Sl w0 (NX []) B0 v1 p0.un.2.2.2), ca_ 47 #[.agg #[Jint p0.un.1, Jint p0.un.2.1, Jint p0.un.2.2.1, v1]] w0 fun e w' => e = .returned (.bool r) ∧ Below w0.heap.size w0 w') (Y : Nat → Prop) (w0 : World) (v1 : Value) (p0 : Tr28) (r : Bool) (H : Ff fRec p0 = some r) (h_v1 : Sl w0 (NX []) B0 v1 p0.un.2.2.2) :
    ca_ 47 #[.agg #[Jint p0.un.1, Jint p0.un.2.1, Jint p0.un.2.2.1, v1]] w0 fun e w' => e = .returned (.bool r) ∧ Below w0.heap.size w0 w' := by
 refine enter Tryz.func47 Aa Tryz.ntmps47 Aa fun a F => ?_
 have W := Stw.start Y w0
 obtain ⟨v2, h1, h_v1⟩ := h_v1.ex CA
 unfold Ff at H
 refine vc tk 2 F W fun a w F W => ?_
 refine BQ (cs := (Jp p0 v1)) F W Aa Aa Aa fun b1 a w F W => ?_
 refine Es tk 7 [0] F W (ai fun a w F W => ?_)
 refine ls F W Aa (Bz (r := B0) (l := p0.un.2.2.2) Nk Aa F Aa (Al CA h1 (Ae h_v1))).q fun a w F W => ?_
 refine Bo tk 4 F W fun a w F W => ?_
 refine Ap (fun a w => Fr 98 [] [(1, pp b1), (2, .bool false), (3, Jint (p0.un.2.2.2.length : Int)), (30, .bool (bif decide (p0.un.1 ≠ 3) then (decide (p0.un.2.1 ≠ 0) || (decide (p0.un.2.2.1 ≠ 0) || (decide (p0.un.1 < 1) || decide (6 < p0.un.1)))) else (decide (p0.un.1 < 1) || decide (6 < p0.un.1))))] a ∧ sy Y w0 (Js b1 p0 v1) [] w) ?_ ?_
 ·
  refine CT tk 5 [0] F W (ai fun a w F W => ?_)
  rcases bxq (decide (p0.un.1 ≠ 3)) with hb0 | hb0
  ·
   rw [hb0] at F
   refine DU tk 4 [0] F W (ai fun a w F W => ?_)
   rcases bxq (decide (p0.un.2.1 ≠ 0)) with hb1 | hb1
   ·
    rw [hb1] at F
    refine vl tk 16 F W fun a w F W => ?_
    refine Ab ?_
    exact ⟨F.re ⟨rfl, Aa, Aa, (CL (by try rw [hb1]; try rw [hb0]; all_goals simp only [CM])), trivial⟩, W⟩
   rw [hb1] at F
   refine DU tk 6 [0] F W (ai fun a w F W => ?_)
   rcases bxq (decide (p0.un.2.2.1 ≠ 0)) with hb2 | hb2
   ·
    rw [hb2] at F
    refine vl tk 10 F W fun a w F W => ?_
    refine Ab ?_
    exact ⟨F.re ⟨rfl, Aa, Aa, (CL (by try rw [hb2]; try rw [hb1]; try rw [hb0]; all_goals simp only [CM])), trivial⟩, W⟩
   rw [hb2] at F
   refine DU tk 5 [0] F W (ai fun a w F W => ?_)
   rcases bxq (decide (p0.un.1 < 1)) with hb3 | hb3
   ·
    rw [hb3] at F
    refine vl tk 5 F W fun a w F W => ?_
    refine Ab ?_
    exact ⟨F.re ⟨rfl, Aa, Aa, (CL (by try rw [hb2]; try rw [hb1]; try rw [hb0]; try rw [hb3]; all_goals simp only [CM])), trivial⟩, W⟩
   rw [hb3] at F
   refine DU tk 5 [0] F W (ai fun a w F W => ?_)
   refine Ab ?_
   exact ⟨F.re ⟨rfl, Aa, Aa, (CL (by try rw [hb2]; try rw [hb1]; try rw [hb0]; try rw [hb3]; all_goals simp only [CM])), trivial⟩, W⟩
  rw [hb0] at F
  refine DU tk 15 [0] F W (ai fun a w F W => ?_)
  rcases bxq (decide (p0.un.1 < 1)) with hb1 | hb1
  ·
   rw [hb1] at F
   refine vl tk 5 F W fun a w F W => ?_
   refine Ab ?_
   exact ⟨F.re ⟨rfl, Aa, Aa, (CL (by try rw [hb0]; try rw [hb1]; all_goals simp only [CM])), trivial⟩, W⟩
  rw [hb1] at F
  refine DU tk 5 [0] F W (ai fun a w F W => ?_)
  refine Ab ?_
  exact ⟨F.re ⟨rfl, Aa, Aa, (CL (by try rw [hb0]; try rw [hb1]; all_goals simp only [CM])), trivial⟩, W⟩
 rintro a w ⟨F, W⟩
 refine Bi F Aa H (fun F H => ?_) fun F H => ?_
 ·
  refine vc tk 5 F W fun a w F W => ?_
  refine Ah (Aw ?_)
  have H := Ay H
  subst H
  refine Av (.inl Aa) F W Aa (Am F Aa) ?_
  exact ⟨rfl, W.done⟩
 refine EX tk 3 F W fun a w F W => ?_
 refine Ap (fun a w => Fr 98 [] [(1, pp b1), (2, .bool false), (3, Jint (p0.un.2.2.2.length : Int)), (56, .bool (decide (p0.un.1 = 3) && (decide (p0.un.2.1 < 0) || (decide (5 < p0.un.2.1) || (decide (p0.un.2.2.1 < 0) || decide ((CP p0.un.2.1) < p0.un.2.2.1))))))] a ∧ sy Y w0 (Js b1 p0 v1) [] w) ?_ ?_
 ·
  refine B5 W MO (by kernel_rfl) ?_
  refine qs F Aa (Aq Nc Aa Aa Aa T3 F Aa 0 Aa).q fun a F => ?_
  refine qs F Aa (Bk (v := Jint p0.un.1) 0 F Aa Aa T3 Aa).q fun a F => ?_
  refine qs F Aa (NK F Aa Aa).q fun a F => ?_
  refine qs F Aa (Ao F Aa).q fun a F => ?_
  rcases bxq (decide (p0.un.1 = 3)) with hb0 | hb0
  ·
   rw [hb0] at F
   refine AR F (Ad F Aa Aa Aa Aa) Aa (As Aa) (Aq Nc Aa Aa Aa T3 F Aa 1 Aa).q fun a F => ?_
   refine AR F (Ad F Aa Aa Aa Aa) Aa (As Aa) (Bk (v := Jint p0.un.2.1) 0 F Aa Aa T3 Aa).q fun a F => ?_
   refine AR F (Ad F Aa Aa Aa Aa) Aa (As Aa) (OK F Aa Aa).q fun a F => ?_
   refine AR F (Ad F Aa Aa Aa Aa) Aa (As Aa) (Ao F Aa).q fun a F => ?_
   rcases bxq (decide (p0.un.2.1 < 0)) with hb1 | hb1
   ·
    rw [hb1] at F
    iterate 3 refine Bb F (A3 F Aa Aa Aa Aa Aa) Aa Aa fun a F => ?_
    refine AR F (Ad F Aa Aa Aa Aa) Aa (As Aa) (Bq F Aa Aa Aa).q fun a F => ?_
    refine AR F (Ad F Aa Aa Aa Aa) Aa (As Aa) (Ao F Aa).q fun a F => ?_
    iterate 3 refine Bb F (A3 F Aa Aa Aa Aa Aa) Aa Aa fun a F => ?_
    refine AR F (Ad F Aa Aa Aa Aa) Aa (As Aa) (Bq F Aa Aa Aa).q fun a F => ?_
    refine AR F (Ad F Aa Aa Aa Aa) Aa (As Aa) (Ao F Aa).q fun a F => ?_
    iterate 6 refine Bb F (A3 F Aa Aa Aa Aa Aa) Aa Aa fun a F => ?_
    refine AR F (Ad F Aa Aa Aa Aa) Aa (As Aa) (Bq F Aa Aa Aa).q fun a F => ?_
    refine qs F Aa (Bq F Aa Aa Aa).q fun a F => ?_
    refine AK fun w W => ?_
    refine Ab ?_
    exact ⟨F.re ⟨rfl, Aa, Aa, (CL (by try rw [hb1]; try rw [hb0]; all_goals simp only [CM])), trivial⟩, W⟩
   rw [hb1] at F
   refine AR F (Ad F Aa Aa Aa Aa) Aa (As Aa) (Aq Nc Aa Aa Aa T3 F Aa 1 Aa).q fun a F => ?_
   refine AR F (Ad F Aa Aa Aa Aa) Aa (As Aa) (Bk (v := Jint p0.un.2.1) 0 F Aa Aa T3 Aa).q fun a F => ?_
   refine AR F (Ad F Aa Aa Aa Aa) Aa (As Aa) (Oq F Aa Aa).q fun a F => ?_
   refine AR F (Ad F Aa Aa Aa Aa) Aa (As Aa) (Bh F Aa Aa Aa).q fun a F => ?_
   refine AR F (Ad F Aa Aa Aa Aa) Aa (As Aa) (Ao F Aa).q fun a F => ?_
   rcases bxq (decide (5 < p0.un.2.1)) with hb2 | hb2
   ·
    rw [hb2] at F
    iterate 3 refine Bb F (A3 F Aa Aa Aa Aa Aa) Aa Aa fun a F => ?_
    refine AR F (Ad F Aa Aa Aa Aa) Aa (As Aa) (Bq F Aa Aa Aa).q fun a F => ?_
    refine AR F (Ad F Aa Aa Aa Aa) Aa (As Aa) (Ao F Aa).q fun a F => ?_
    iterate 6 refine Bb F (A3 F Aa Aa Aa Aa Aa) Aa Aa fun a F => ?_
    refine AR F (Ad F Aa Aa Aa Aa) Aa (As Aa) (Bq F Aa Aa Aa).q fun a F => ?_
    refine qs F Aa (Bq F Aa Aa Aa).q fun a F => ?_
    refine AK fun w W => ?_
    refine Ab ?_
    exact ⟨F.re ⟨rfl, Aa, Aa, (CL (by try rw [hb1]; try rw [hb2]; try rw [hb0]; all_goals simp only [CM])), trivial⟩, W⟩
   rw [hb2] at F
   refine AR F (Ad F Aa Aa Aa Aa) Aa (As Aa) (Aq Nc Aa Aa Aa T3 F Aa 2 Aa).q fun a F => ?_
   refine AR F (Ad F Aa Aa Aa Aa) Aa (As Aa) (Bk (v := Jint p0.un.2.2.1) 0 F Aa Aa T3 Aa).q fun a F => ?_
   refine AR F (Ad F Aa Aa Aa Aa) Aa (As Aa) (OK F Aa Aa).q fun a F => ?_
   refine AR F (Ad F Aa Aa Aa Aa) Aa (As Aa) (Bh F Aa Aa Aa).q fun a F => ?_
   refine AR F (Ad F Aa Aa Aa Aa) Aa (As Aa) (Ao F Aa).q fun a F => ?_
   rcases bxq (decide (p0.un.2.2.1 < 0)) with hb3 | hb3
   ·
    rw [hb3] at F
    iterate 6 refine Bb F (A3 F Aa Aa Aa Aa Aa) Aa Aa fun a F => ?_
    refine AR F (Ad F Aa Aa Aa Aa) Aa (As Aa) (Bq F Aa Aa Aa).q fun a F => ?_
    refine qs F Aa (Bq F Aa Aa Aa).q fun a F => ?_
    refine AK fun w W => ?_
    refine Ab ?_
    exact ⟨F.re ⟨rfl, Aa, Aa, (CL (by try rw [hb3]; try rw [hb1]; try rw [hb2]; try rw [hb0]; all_goals simp only [CM])), trivial⟩, W⟩
   rw [hb3] at F
   refine AR F (Ad F Aa Aa Aa Aa) Aa (As Aa) (Aq Nc Aa Aa Aa T3 F Aa 2 Aa).q fun a F => ?_
   refine AR F (Ad F Aa Aa Aa Aa) Aa (As Aa) (Bk (v := Jint p0.un.2.2.1) 0 F Aa Aa T3 Aa).q fun a F => ?_
   refine AR F (Ad F Aa Aa Aa Aa) Aa (As Aa) (Aq Nc Aa Aa Aa T3 F Aa 1 Aa).q fun a F => ?_
   refine AR F (Ad F Aa Aa Aa Aa) Aa (As Aa) (Bk (v := Jint p0.un.2.1) 0 F Aa Aa T3 Aa).q fun a F => ?_
   refine AR F (Ad F Aa Aa Aa Aa) Aa (As Aa) (AA (v := Jint (CP p0.un.2.1)) F Y1 Aa (fun w W => Mh any w p0.un.2.1 _ Aa)) fun a F => ?_
   refine AR F (Ad F Aa Aa Aa Aa) Aa (As Aa) (Oq F Aa Aa).q fun a F => ?_
   refine AR F (Ad F Aa Aa Aa Aa) Aa (As Aa) (Bh F Aa Aa Aa).q fun a F => ?_
   refine qs F Aa (Bq F Aa Aa Aa).q fun a F => ?_
   refine AK fun w W => ?_
   refine Ab ?_
   exact ⟨F.re ⟨rfl, Aa, Aa, (CL (by try rw [hb3]; try rw [hb1]; try rw [hb2]; try rw [hb0]; all_goals simp only [CM])), trivial⟩, W⟩
  rw [hb0] at F
  iterate 4 refine Bb F (A3 F Aa Aa Aa Aa Aa) Aa Aa fun a F => ?_
  iterate 3 refine Bb F (Fp F Aa Aa Aa Aa) Aa Aa fun a F => ?_
  iterate 2 refine Bb F (A3 F Aa Aa Aa Aa Aa) Aa Aa fun a F => ?_
  iterate 3 refine Bb F (Fp F Aa Aa Aa Aa) Aa Aa fun a F => ?_
  iterate 2 refine Bb F (A3 F Aa Aa Aa Aa Aa) Aa Aa fun a F => ?_
  iterate 6 refine Bb F (Fp F Aa Aa Aa Aa) Aa Aa fun a F => ?_
  refine Bb F (A3 F Aa Aa Aa Aa Aa) Aa Aa fun a F => ?_
  refine qs F Aa (Bh F Aa Aa Aa).q fun a F => ?_
  refine AK fun w W => ?_
  refine Ab ?_
  exact ⟨F.re ⟨rfl, Aa, Aa, (CL (by try rw [hb0]; all_goals simp only [CM])), trivial⟩, W⟩
 rintro a w ⟨F, W⟩
 refine Bi F Aa H (fun F H => ?_) fun F H => ?_
 ·
  refine vc tk 5 F W fun a w F W => ?_
  refine Ah (Aw ?_)
  have H := Ay H
  subst H
  refine Av (.inl Aa) F W Aa (Am F Aa) ?_
  exact ⟨rfl, W.done⟩
 refine EX tk 3 F W fun a w F W => ?_
 refine Ap (fun a w => Fr 98 [] [(1, pp b1), (2, .bool false), (3, Jint (p0.un.2.2.2.length : Int)), (85, .bool (bif decide (p0.un.1 ≤ 3) then (decide ((p0.un.2.2.2.length : Int) ≠ 0) || (bif decide (p0.un.1 = 4) then (decide ((p0.un.2.2.2.length : Int) ≠ 1) || (decide (5 ≤ p0.un.1) && (decide ((p0.un.2.2.2.length : Int) < 2) || decide (8 < (p0.un.2.2.2.length : Int))))) else (decide (5 ≤ p0.un.1) && (decide ((p0.un.2.2.2.length : Int) < 2) || decide (8 < (p0.un.2.2.2.length : Int)))))) else (bif decide (p0.un.1 = 4) then (decide ((p0.un.2.2.2.length : Int) ≠ 1) || (decide (5 ≤ p0.un.1) && (decide ((p0.un.2.2.2.length : Int) < 2) || decide (8 < (p0.un.2.2.2.length : Int))))) else (decide (5 ≤ p0.un.1) && (decide ((p0.un.2.2.2.length : Int) < 2) || decide (8 < (p0.un.2.2.2.length : Int)))))))] a ∧ sy Y w0 (Js b1 p0 v1) [] w) ?_ ?_
 ·
  refine CT tk 5 [0] F W (ai fun a w F W => ?_)
  rcases bxq (decide (p0.un.1 ≤ 3)) with hb0 | hb0
  ·
   rw [hb0] at F
   refine vl tk 4 F W fun a w F W => ?_
   rcases bxq (decide ((p0.un.2.2.2.length : Int) ≠ 0)) with hb1 | hb1
   ·
    rw [hb1] at F
    refine vl tk 22 F W fun a w F W => ?_
    refine Ab ?_
    exact ⟨F.re ⟨rfl, Aa, Aa, (CL (by try rw [hb1]; try rw [hb0]; all_goals simp only [CM])), trivial⟩, W⟩
   rw [hb1] at F
   refine DU tk 4 [0] F W (ai fun a w F W => ?_)
   rcases bxq (decide (p0.un.1 = 4)) with hb2 | hb2
   ·
    rw [hb2] at F
    refine vl tk 5 F W fun a w F W => ?_
    rcases bxq (decide ((p0.un.2.2.2.length : Int) ≠ 1)) with hb3 | hb3
    ·
     rw [hb3] at F
     refine vl tk 13 F W fun a w F W => ?_
     refine Ab ?_
     exact ⟨F.re ⟨rfl, Aa, Aa, (CL (by try rw [hb1]; try rw [hb3]; try rw [hb0]; try rw [hb2]; all_goals simp only [CM])), trivial⟩, W⟩
    rw [hb3] at F
    refine DU tk 4 [0] F W (ai fun a w F W => ?_)
    rcases bxq (decide (5 ≤ p0.un.1)) with hb4 | hb4
    ·
     rw [hb4] at F
     refine vl tk 3 F W fun a w F W => ?_
     rcases bxq (decide ((p0.un.2.2.2.length : Int) < 2)) with hb5 | hb5
     ·
      rw [hb5] at F
      refine vl tk 6 F W fun a w F W => ?_
      refine Ab ?_
      exact ⟨F.re ⟨rfl, Aa, Aa, (CL (by try rw [hb1]; try rw [hb3]; try rw [hb5]; try rw [hb0]; try rw [hb2]; try rw [hb4]; all_goals simp only [CM])), trivial⟩, W⟩
     rw [hb5] at F
     refine vl tk 6 F W fun a w F W => ?_
     refine Ab ?_
     exact ⟨F.re ⟨rfl, Aa, Aa, (CL (by try rw [hb1]; try rw [hb3]; try rw [hb5]; try rw [hb0]; try rw [hb2]; try rw [hb4]; all_goals simp only [CM])), trivial⟩, W⟩
    rw [hb4] at F
    refine vl tk 9 F W fun a w F W => ?_
    refine Ab ?_
    exact ⟨F.re ⟨rfl, Aa, Aa, (CL (by try rw [hb1]; try rw [hb3]; try rw [hb0]; try rw [hb2]; try rw [hb4]; all_goals simp only [CM])), trivial⟩, W⟩
   rw [hb2] at F
   refine DU tk 9 [0] F W (ai fun a w F W => ?_)
   rcases bxq (decide (5 ≤ p0.un.1)) with hb3 | hb3
   ·
    rw [hb3] at F
    refine vl tk 3 F W fun a w F W => ?_
    rcases bxq (decide ((p0.un.2.2.2.length : Int) < 2)) with hb4 | hb4
    ·
     rw [hb4] at F
     refine vl tk 6 F W fun a w F W => ?_
     refine Ab ?_
     exact ⟨F.re ⟨rfl, Aa, Aa, (CL (by try rw [hb1]; try rw [hb4]; try rw [hb0]; try rw [hb2]; try rw [hb3]; all_goals simp only [CM])), trivial⟩, W⟩
    rw [hb4] at F
    refine vl tk 6 F W fun a w F W => ?_
    refine Ab ?_
    exact ⟨F.re ⟨rfl, Aa, Aa, (CL (by try rw [hb1]; try rw [hb4]; try rw [hb0]; try rw [hb2]; try rw [hb3]; all_goals simp only [CM])), trivial⟩, W⟩
   rw [hb3] at F
   refine vl tk 9 F W fun a w F W => ?_
   refine Ab ?_
   exact ⟨F.re ⟨rfl, Aa, Aa, (CL (by try rw [hb1]; try rw [hb0]; try rw [hb2]; try rw [hb3]; all_goals simp only [CM])), trivial⟩, W⟩
  rw [hb0] at F
  refine DU tk 8 [0] F W (ai fun a w F W => ?_)
  rcases bxq (decide (p0.un.1 = 4)) with hb1 | hb1
  ·
   rw [hb1] at F
   refine vl tk 5 F W fun a w F W => ?_
   rcases bxq (decide ((p0.un.2.2.2.length : Int) ≠ 1)) with hb2 | hb2
   ·
    rw [hb2] at F
    refine vl tk 13 F W fun a w F W => ?_
    refine Ab ?_
    exact ⟨F.re ⟨rfl, Aa, Aa, (CL (by try rw [hb2]; try rw [hb0]; try rw [hb1]; all_goals simp only [CM])), trivial⟩, W⟩
   rw [hb2] at F
   refine DU tk 4 [0] F W (ai fun a w F W => ?_)
   rcases bxq (decide (5 ≤ p0.un.1)) with hb3 | hb3
   ·
    rw [hb3] at F
    refine vl tk 3 F W fun a w F W => ?_
    rcases bxq (decide ((p0.un.2.2.2.length : Int) < 2)) with hb4 | hb4
    ·
     rw [hb4] at F
     refine vl tk 6 F W fun a w F W => ?_
     refine Ab ?_
     exact ⟨F.re ⟨rfl, Aa, Aa, (CL (by try rw [hb2]; try rw [hb4]; try rw [hb0]; try rw [hb1]; try rw [hb3]; all_goals simp only [CM])), trivial⟩, W⟩
    rw [hb4] at F
    refine vl tk 6 F W fun a w F W => ?_
    refine Ab ?_
    exact ⟨F.re ⟨rfl, Aa, Aa, (CL (by try rw [hb2]; try rw [hb4]; try rw [hb0]; try rw [hb1]; try rw [hb3]; all_goals simp only [CM])), trivial⟩, W⟩
   rw [hb3] at F
   refine vl tk 9 F W fun a w F W => ?_
   refine Ab ?_
   exact ⟨F.re ⟨rfl, Aa, Aa, (CL (by try rw [hb2]; try rw [hb0]; try rw [hb1]; try rw [hb3]; all_goals simp only [CM])), trivial⟩, W⟩
  rw [hb1] at F
  refine DU tk 9 [0] F W (ai fun a w F W => ?_)
  rcases bxq (decide (5 ≤ p0.un.1)) with hb2 | hb2
  ·
   rw [hb2] at F
   refine vl tk 3 F W fun a w F W => ?_
   rcases bxq (decide ((p0.un.2.2.2.length : Int) < 2)) with hb3 | hb3
   ·
    rw [hb3] at F
    refine vl tk 6 F W fun a w F W => ?_
    refine Ab ?_
    exact ⟨F.re ⟨rfl, Aa, Aa, (CL (by try rw [hb3]; try rw [hb0]; try rw [hb1]; try rw [hb2]; all_goals simp only [CM])), trivial⟩, W⟩
   rw [hb3] at F
   refine vl tk 6 F W fun a w F W => ?_
   refine Ab ?_
   exact ⟨F.re ⟨rfl, Aa, Aa, (CL (by try rw [hb3]; try rw [hb0]; try rw [hb1]; try rw [hb2]; all_goals simp only [CM])), trivial⟩, W⟩
  rw [hb2] at F
  refine vl tk 9 F W fun a w F W => ?_
  refine Ab ?_
  exact ⟨F.re ⟨rfl, Aa, Aa, (CL (by try rw [hb0]; try rw [hb1]; try rw [hb2]; all_goals simp only [CM])), trivial⟩, W⟩
 rintro a w ⟨F, W⟩
 refine Bi F Aa H (fun F H => ?_) fun F H => ?_
 ·
  refine vc tk 5 F W fun a w F W => ?_
  refine Ah (Aw ?_)
  have H := Ay H
  subst H
  refine Av (.inl Aa) F W Aa (Am F Aa) ?_
  exact ⟨rfl, W.done⟩
 refine AD (Ab ?_)
 obtain ⟨o1, G1, K1, L1⟩ := Lh H
 refine Ap (fun a w => some (Sum.inl ()) = some o1 ∧ Fr 98 [] [(2, .bool false)] a ∧ sy Y w0 (Js b1 p0 v1) [] w) ?_ ?_
 ·
  have H := G1
  refine vc tk 6 F W fun a w F W => ?_
  refine AQ H (fun s a w => Fr 98 [] [(1, pp b1), (2, .bool false), (3, Jint (p0.un.2.2.2.length : Int)), (4, Jint s)] a ∧ sy Y w0 (Js b1 p0 v1) [] w) ⟨F.ra Aa, W⟩ fun s o a w H L2 hR => ?_
  obtain ⟨x1, rfl⟩ : ∃ x, x = s := ⟨s, rfl⟩
  obtain ⟨F, W⟩ := hR
  have F : Fr 98 [] [(1, pp b1), (2, .bool false), (3, Jint (p0.un.2.2.2.length : Int)), (4, Jint x1)] a := F
  have W : sy Y w0 (Js b1 p0 v1) [] w := W
  rw [E3] at H
  refine vc tk 8 F W fun a w F W => ?_
  refine A1 F Aa H (fun F H => ?_) fun F H => ?_
  ·
   refine Hr tk 9 [0] F W (ai fun a w F W => ?_)
   obtain ⟨x2, h2, H⟩ := Af H
   obtain ⟨v3, h3, h4⟩ := CS h1 h2
   have h5 : HZ v3 = [Jint x2.un.1, Jint x2.un.2.1, Jint x2.un.2.2.1, (v3.2.2.2.1)] := congrArg (fun q : Tr28 => ([Jint q.un.1, Jint q.un.2.1, Jint q.un.2.2.1, (v3.2.2.2.1)] : List Value)) h4
   refine ls F W Aa (Au (r := Ia) Se F Aa Aa (Ae h_v1) h3).q fun a w F W => ?_
   refine ls F W Aa (Aj (y := Value.agg #[Jint x2.un.1, Jint x2.un.2.1, Jint x2.un.2.2.1, (v3.2.2.2.1)]) (j := 0) (i := x1) (enc := HZ) F Aa Aa (Ae h_v1) h3 Oi I2 (by rw [h5]; rfl)).q fun a w F W => ?_
   obtain ⟨x3, h6, H⟩ := Af H
   refine ls F W Aa (AA (v := Value.bool x3) F aB Aa (fun w W => ih any w ((v3.2.2.2.1)) x2 _ h6 (Cl (Bf (Ae h_v1) h3 (Ag.snd (Ag.snd (Ag.snd Ag.here))) (congrArg (fun q : Tr28 => q.un.2.2.2) h4)) W))) fun a w F W => ?_
   refine Bo tk 3 F W fun a w F W => ?_
   refine Bi F Aa H (fun F H => ?_) fun F H => ?_
   ·
    refine vc tk 5 F W fun a w F W => ?_
    refine Ah (AC ?_)
    iterate 2 refine Aw ?_
    refine AC (Aw ?_)
    have H := L2 _ H
    have H := L1 _ H
    have H := Ay H
    subst H
    refine Av (.inl Aa) F W Aa (Am F Aa) ?_
    exact ⟨rfl, W.done⟩
   refine AD (Az ?_)
   refine vn tk 5 F W fun a w F W => ?_
   refine Ab ?_
   exact ⟨_, H, F.ra Aa, W⟩
  refine AN ?_
  iterate 2 refine A6 ?_
  refine AP (Ab ?_)
  have H := L2 _ H
  exact ⟨H, F.ra Aa, W⟩
 rintro a w ⟨hj, F, W⟩
 have H := K1 _ hj
 refine vc tk 5 F W fun a w F W => ?_
 refine Ah ?_
 have H := Ay H
 subst H
 refine Av (.inl Aa) F W Aa (Am F Aa) ?_
 exact ⟨rfl, W.done⟩
theorem R9 : ∀ (n : Nat) (Y : Nat → Prop) (w0 : World) (v1 : Value) (p0 : Tr28) (r : Bool) (H : Ee n p0 = some r) (h_v1 : Sl w0 (NX []) B0 v1 p0.un.2.2.2), ca_ 47 #[.agg #[Jint p0.un.1, Jint p0.un.2.1, Jint p0.un.2.2.1, v1]] w0 fun e w' => e = .returned (.bool r) ∧ Below w0.heap.size w0 w' := by
  intro n
  induction n with
  | zero => intro Y w0 v1 p0 r H; exact nomatch H
  | succ n ih => intro Y w0 v1 p0 r H h_v1; exact Qv (Ee n) ih Y w0 v1 p0 r H h_v1
theorem SK (Y : Nat → Prop) (w0 : World) (v1 : Value) (p0 : Tr28) (r : Bool) (H : NM p0 = some r) (h_v1 : Sl w0 (NX []) B0 v1 p0.un.2.2.2) :
    ca_ 47 #[.agg #[Jint p0.un.1, Jint p0.un.2.1, Jint p0.un.2.2.1, v1]] w0 fun e w' => e = .returned (.bool r) ∧ Below w0.heap.size w0 w' := by
  obtain ⟨n, H⟩ := BP H
  exact R9 n Y w0 v1 p0 r H h_v1
end
end Go.Proofs.YtgoifghhcekahaaGreatDoor
