/- The functions of layer 25, GX. Conditions: none. -/
import Derived.Test.YthhoflfhegfmcaacA4
namespace Go.Proofs.Ythhoflfhegfmcaa
open Go Go.RowKit
set_option linter.unusedVariables false
set_option linter.unusedSimpArgs false
set_option maxRecDepth 20000
set_option maxHeartbeats 1600000
theorem Wm : Has Try.prog 75 := Ct Try.func75
abbrev T6 (a0 : Nat) (a1 : Int × Int × Int × Int) (a2 : Nat) (a3 : Value) (a4 : Value) (a5 : (List (Int × Int × Int × Int)) × (List (Int × Int × List Int)) × Int × Int × Int × Int) : List (Nat × List Value) := [(a0, [.int .i64 a1.1, .int .i64 a1.2.1, .int .i64 a1.2.2.1, .int .i64 a1.2.2.2]), (a2, [a3, a4, .int .i64 a5.2.2.1, .int .i64 a5.2.2.2.1, .int .i64 a5.2.2.2.2.1, .int .i64 a5.2.2.2.2.2])]
noncomputable def Ht (p0 : (List (Int × Int × Int × Int)) × (List (Int × Int × List Int)) × Int × Int × Int × Int) (p1 : Int) (p2 : Int × Int × Int × Int) : Option Bool := ((ix p0.2.1 p1).bind fun x2 => (if x2.1 = p2.2.2.2 then (ix p0.2.1 p1).bind fun x3 => (JP x3.2.2 p2.1).bind fun x4 => some x4 else some false)).bind fun x1 => some x1
theorem Oa (Y : Nat → Prop) (w0 : World) (v1 : Value) (v2 : Value) (p0 : (List (Int × Int × Int × Int)) × (List (Int × Int × List Int)) × Int × Int × Int × Int) (p1 : Int) (p2 : Int × Int × Int × Int) (r : Bool) (H : Ht p0 p1 p2 = some r) (h_v1 : Sl w0 (NX []) LI v1 p0.1) (h_v2 : Sl w0 (NX []) Oh v2 p0.2.1) :
    Calls Try.prog 56 #[.agg #[v1, v2, .int .i64 p0.2.2.1, .int .i64 p0.2.2.2.1, .int .i64 p0.2.2.2.2.1, .int .i64 p0.2.2.2.2.2], .int .i64 p1, .agg #[.int .i64 p2.1, .int .i64 p2.2.1, .int .i64 p2.2.2.1, .int .i64 p2.2.2.2]] w0 fun e w' => e = .returned (.bool r) ∧ Below w0.heap.size w0 w' := by
 refine enter Try.func56 Aa Try.ntmps56 Aa fun a F => ?_
 have W := Stw.start Y w0
 obtain ⟨v3, h1, h_v2⟩ := h_v2.ex HY
 unfold Ht at H
 refine vc tk 2 F W fun a w F W => ?_
 refine Cq (cs := [v1, v2, .int .i64 p0.2.2.1, .int .i64 p0.2.2.2.1, .int .i64 p0.2.2.2.2.1, .int .i64 p0.2.2.2.2.2]) F W Aa Aa Aa fun b1 a w F W => ?_
 refine Cq (cs := (CR p2)) F W Aa Aa Aa fun b2 a w F W => ?_
 refine vl tk 2 F W fun a w F W => ?_
 refine Ac ?_
 obtain ⟨o1, G1, K1⟩ := Ad H
 refine Av (fun a w => ∃ x1 : Bool, some (x1) = some o1 ∧ Fr 27 [] [(6, .bool x1)] a ∧ Stw ⟨Y, [], w0⟩ (T6 b2 p2 b1 v1 v2 p0) [] w) ?_ ?_
 ·
  have H := G1
  clear G1 K1
  refine Cx W MO (by kernel_rfl) ?_
  refine qs F Aa (Ah IZ Aa Aa Aa OP F Aa 1 Aa).q fun a F => ?_
  refine qs F Aa (A4 (v := v2) 1 F Aa Aa OP Aa).q fun a F => ?_
  refine qs F Aa (Am F Aa).q fun a F => ?_
  obtain ⟨x2, h2, H⟩ := Ad H
  obtain ⟨v4, h3, h4⟩ := CE h1 h2
  have h5 : JT v4 = [.int .i64 x2.1, .int .i64 x2.2.1, (v4.2.2.1)] := congrArg (fun q : Int × Int × List Int => ([.int .i64 q.1, .int .i64 q.2.1, (v4.2.2.1)] : List Value)) h4
  refine qs F Aa (Aw (r := Nh) TB F Aa Aa (Ab h_v2) h3).q fun a F => ?_
  refine qs F Aa (Ah PF Aa Aa Aa T3 F Aa (Fi v2 + (p1).toNat * 3) Aa).q fun a F => ?_
  refine qs F Aa (Ai (y := Value.int .i64 x2.1) (j := 0) (i := p1) (enc := JT) F Aa Aa (Ab h_v2) h3 PQ T3 (by rw [h5]; rfl)).q fun a F => ?_
  refine qs F Aa (Ah M7 Aa Aa Aa T3 F Aa 3 Aa).q fun a F => ?_
  refine qs F Aa (A4 (v := Value.int .i64 p2.2.2.2) 0 F Aa Aa T3 Aa).q fun a F => ?_
  refine qs F Aa (Nj F Aa Aa).q fun a F => ?_
  refine qs F Aa (Am F Aa).q fun a F => ?_
  rcases Bool.eq_false_or_eq_true (decide (x2.1 = p2.2.2.2)) with hb | hb
  ·
   have H := Di (E6 hb) H
   rw [hb] at F
   clear hb
   refine B5 F (Ae F Aa Aa Aa Aa) Aa (AC Aa) (Ah IZ Aa Aa Aa OP F Aa 1 Aa).q fun a F => ?_
   refine B5 F (Ae F Aa Aa Aa Aa) Aa (AC Aa) (A4 (v := v2) 1 F Aa Aa OP Aa).q fun a F => ?_
   refine B5 F (Ae F Aa Aa Aa Aa) Aa (AC Aa) (Am F Aa).q fun a F => ?_
   obtain ⟨x3, h6, H⟩ := Ad H
   obtain ⟨v5, h7, h8⟩ := CE h1 h6
   have h9 : JT v5 = [.int .i64 x3.1, .int .i64 x3.2.1, (v5.2.2.1)] := congrArg (fun q : Int × Int × List Int => ([.int .i64 q.1, .int .i64 q.2.1, (v5.2.2.1)] : List Value)) h8
   refine B5 F (Ae F Aa Aa Aa Aa) Aa (AC Aa) (Aw (r := Nh) TB F Aa Aa (Ab h_v2) h7).q fun a F => ?_
   refine B5 F (Ae F Aa Aa Aa Aa) Aa (AC Aa) (Ah PF Aa Aa Aa Kj F Aa (Fi v2 + (p1).toNat * 3 + 2) Aa).q fun a F => ?_
   refine B5 F (Ae F Aa Aa Aa Aa) Aa (AC Aa) (Ai (y := (v5.2.2.1)) (j := 2) (i := p1) (enc := JT) F Aa Aa (Ab h_v2) h7 PQ Kj (by rw [h9]; rfl)).q fun a F => ?_
   refine B5 F (Ae F Aa Aa Aa Aa) Aa (AC Aa) (Ah M7 Aa Aa Aa T3 F Aa 0 Aa).q fun a F => ?_
   refine B5 F (Ae F Aa Aa Aa Aa) Aa (AC Aa) (A4 (v := Value.int .i64 p2.1) 0 F Aa Aa T3 Aa).q fun a F => ?_
   obtain ⟨x4, h10, H⟩ := Ad H
   refine B5 F (Ae F Aa Aa Aa Aa) Aa (AC Aa) (AW (v := Value.bool x4) F Wm Aa (fun w W => PR any w ((v5.2.2.1)) x3.2.2 p2.1 _ h10 (CW (BE (Ab h_v2) h7 (Cd.snd (Cd.snd Cd.here)) (congrArg (fun q : Int × Int × List Int => q.2.2) h8)) W))) fun a F => ?_
   refine qs F Aa (BM F Aa Aa Aa).q fun a F => ?_
   refine qs F Aa (BR F Aa).q fun a F => ?_
   refine A9 fun w W => ?_
   refine Ac ?_
   have W := W.frontM (i := 1) Aa Aa
   have W := W.frontM (i := 1) Aa Aa
   exact ⟨_, H, F.ra Aa, W⟩
  have H := Dg (Fh hb) H
  rw [hb] at F
  clear hb
  iterate 9 refine Dc F (Bb F Aa Aa Aa Aa Aa) Aa Aa fun a F => ?_
  refine qs F Aa (Cv F Aa Aa Aa).q fun a F => ?_
  refine qs F Aa (BR F Aa).q fun a F => ?_
  refine A9 fun w W => ?_
  refine Ac ?_
  have W := W.frontM (i := 1) Aa Aa
  have W := W.frontM (i := 1) Aa Aa
  exact ⟨_, H, F.ra Aa, W⟩
 rintro a w ⟨x1, hj, F, W⟩
 have hj := AA hj
 subst hj
 have H := K1
 clear G1 K1
 refine Ao ?_
 have H := AA H
 subst H
 refine AG (.inl Aa) F W Aa (Al F Aa) ?_
 exact ⟨rfl, W.done⟩
theorem Ws : Has Try.prog 56 := Ct Try.func56
def EQ (p0 : Int × (List (Int × Int × Int × Int × Int × Int)) × (List (Int × Int))) (p1 : Int × Int × Int × Int) : Bool := (decide (0 ≤ p1.1) && (decide (p1.1 < p0.1) && (decide (0 ≤ p1.2.1) && decide (p1.2.1 < (p0.2.2.length : Int)))))
abbrev DY (a0 : Nat) (a1 : Value) (a2 : Value) (a3 : (List (Int × Int × Int × Int)) × (List (Int × Int × List Int)) × Int × Int × Int × Int) : List (Nat × List Value) := [(a0, [a1, a2, .int .i64 a3.2.2.1, .int .i64 a3.2.2.2.1, .int .i64 a3.2.2.2.2.1, .int .i64 a3.2.2.2.2.2])]
noncomputable def Gf (p1 : (List (Int × Int × Int × Int)) × (List (Int × Int × List Int)) × Int × Int × Int × Int) (p3 : Int) (p4 : Int) (x5 : Int) : (Int × Int) → Option ((Int × Int) ⊕ Int)
  | (x7, x8) => (if x8 < (p1.1.length : Int) then (((ix p1.1 x8).bind fun x11 => (if x11.1 = p3 then (ix p1.1 x8).bind fun x12 => (if x12.2.1 = p4 then (ix p1.1 x8).bind fun x13 => (Ht p1 x5 x13).bind fun x14 => some x14 else some false) else some false)).bind fun x10 => (if x10 = true then (ix p1.1 x8).bind fun x15 => some x15.2.2.1 else some x7)).bind fun x9 => some (.inl (x9, A7 (x8 + 1))) else some (.inr x7))
noncomputable def Ho (p1 : (List (Int × Int × Int × Int)) × (List (Int × Int × List Int)) × Int × Int × Int × Int) (p2 : Int) (p3 : Int) (p4 : Int) : (Int × Int) → Option ((Int × Int) ⊕ Int)
  | (x4, x5) => (if x5 < p2 then (An (Gf p1 p3 p4 x5) (x4, 0)).bind fun x6 => some (.inl (x6, A7 (x5 + 1))) else some (.inr x4))
noncomputable def Kh (p0 : List (List Int)) (p1 : (List (Int × Int × Int × Int)) × (List (Int × Int × List Int)) × Int × Int × Int × Int) (p2 : Int) (p3 : Int) (p4 : Int) : Option Int := (ix p0 p3).bind fun x1 => (ix x1 p4).bind fun x2 => (An (Ho p1 p2 p3 p4) (x2, 0)).bind fun x3 => some x3
theorem NQ (Y : Nat → Prop) (w0 : World) (v1 : Value) (v2 : Value) (v3 : Value) (p0 : List (List Int)) (p1 : (List (Int × Int × Int × Int)) × (List (Int × Int × List Int)) × Int × Int × Int × Int) (p2 : Int) (p3 : Int) (p4 : Int) (r : Int) (H : Kh p0 p1 p2 p3 p4 = some r) (h_v1 : Sl w0 (NX []) (Rp.slice (Rp.int .i64)) v1 p0) (h_v2 : Sl w0 (NX []) LI v2 p1.1) (h_v3 : Sl w0 (NX []) Oh v3 p1.2.1) :
    Calls Try.prog 29 #[v1, .agg #[v2, v3, .int .i64 p1.2.2.1, .int .i64 p1.2.2.2.1, .int .i64 p1.2.2.2.2.1, .int .i64 p1.2.2.2.2.2], .int .i64 p2, .int .i64 p3, .int .i64 p4] w0 fun e w' => e = .returned (.int .i64 r) ∧ Below w0.heap.size w0 w' := by
 refine enter Try.func29 Aa Try.ntmps29 Aa fun a F => ?_
 have W := Stw.start Y w0
 obtain ⟨v4, h1, h_v1⟩ := h_v1.ex Bn
 obtain ⟨v5, h2, h_v3⟩ := h_v3.ex HY
 unfold Kh at H
 refine vc tk 2 F W fun a w F W => ?_
 refine Cq (cs := [v2, v3, .int .i64 p1.2.2.1, .int .i64 p1.2.2.2.1, .int .i64 p1.2.2.2.2.1, .int .i64 p1.2.2.2.2.2]) F W Aa Aa Aa fun b1 a w F W => ?_
 refine Cc tk 7 F W fun a w F W => ?_
 obtain ⟨x1, h3, H⟩ := Ad H
 obtain ⟨v6, h4, h5⟩ := CE h1 h3
 have h6 : Em v6 = [(v6.1)] := congrArg (fun q : List Int => ([(v6.1)] : List Value)) h5
 refine ls F W Aa (Aw (r := (Rp.vsl (Rp.int .i64))) LF F Aa Aa (Ab h_v1) h4).q fun a w F W => ?_
 refine ls F W Aa (Ai (y := (v6.1)) (j := 0) (i := p3) (enc := Em) F Aa Aa (Ab h_v1) h4 Ik Kj (by rw [h6]; rfl)).q fun a w F W => ?_
 refine ls F W Aa (Am F Aa).q fun a w F W => ?_
 obtain ⟨x2, h7, H⟩ := Ad H
 refine ls F W Aa (Aw (r := (Rp.int .i64)) HT F Aa Aa (BE (Ab h_v1) h4 Cd.here (congrArg (fun q : List Int => q) h5)) h7).q fun a w F W => ?_
 refine ls F W Aa (Ai (y := Value.int .i64 x2) (j := 0) (i := p4) F Aa Aa (BE (Ab h_v1) h4 Cd.here (congrArg (fun q : List Int => q) h5)) h7 Fl.int.to T3 Aa).q fun a w F W => ?_
 refine vl tk 2 F W fun a w F W => ?_
 refine Ac ?_
 obtain ⟨o1, G1, K1⟩ := Ad H
 refine Av (fun a w => ∃ x3 : Int, some (x3) = some o1 ∧ Fr 68 [] [(10, .int .i64 0), (11, .int .i64 x3)] a ∧ Stw ⟨Y, [], w0⟩ (DY b1 v2 v3 p1) [] w) ?_ ?_
 ·
  have H := G1
  clear G1 K1
  refine vc tk 6 F W fun a w F W => ?_
  refine AP H (fun s a w => Fr 68 [] [(2, .int .i64 p2), (3, .int .i64 p3), (4, .int .i64 p4), (6, .pointer (some ⟨b1, 0, none⟩)), (10, .int .i64 0), (11, .int .i64 s.1), (12, .int .i64 s.2)] a ∧ Stw ⟨Y, [], w0⟩ (DY b1 v2 v3 p1) [] w) ⟨F.ra Aa, W⟩ fun s o a w H L2 hR => ?_
  obtain ⟨x4, x5⟩ := s
  obtain ⟨F, W⟩ := hR
  have F : Fr 68 [] [(2, .int .i64 p2), (3, .int .i64 p3), (4, .int .i64 p4), (6, .pointer (some ⟨b1, 0, none⟩)), (10, .int .i64 0), (11, .int .i64 x4), (12, .int .i64 x5)] a := F
  have W : Stw ⟨Y, [], w0⟩ (DY b1 v2 v3 p1) [] w := W
  rw [Ho] at H
  refine vc tk 8 F W fun a w F W => ?_
  refine A3 F Aa H (fun F H => ?_) fun F H => ?_
  ·
   refine AD (Ac ?_)
   obtain ⟨o3, G3, K3⟩ := Ad H
   refine Av (fun a w => ∃ x6 : Int, some (x6) = some o3 ∧ Fr 68 [] [(2, .int .i64 p2), (3, .int .i64 p3), (4, .int .i64 p4), (6, .pointer (some ⟨b1, 0, none⟩)), (10, .int .i64 0), (11, .int .i64 x6), (12, .int .i64 x5)] a ∧ Stw ⟨Y, [], w0⟩ (DY b1 v2 v3 p1) [] w) ?_ ?_
   ·
    have H := G3
    clear G3 K3
    refine vc tk 7 F W fun a w F W => ?_
    refine AP H (fun s a w => Fr 68 [] [(2, .int .i64 p2), (3, .int .i64 p3), (4, .int .i64 p4), (6, .pointer (some ⟨b1, 0, none⟩)), (10, .int .i64 0), (11, .int .i64 s.1), (12, .int .i64 x5), (13, .int .i64 s.2)] a ∧ Stw ⟨Y, [], w0⟩ (DY b1 v2 v3 p1) [] w) ⟨F.ra Aa, W⟩ fun s o a w H L4 hR => ?_
    obtain ⟨x7, x8⟩ := s
    obtain ⟨F, W⟩ := hR
    have F : Fr 68 [] [(2, .int .i64 p2), (3, .int .i64 p3), (4, .int .i64 p4), (6, .pointer (some ⟨b1, 0, none⟩)), (10, .int .i64 0), (11, .int .i64 x7), (12, .int .i64 x5), (13, .int .i64 x8)] a := F
    have W : Stw ⟨Y, [], w0⟩ (DY b1 v2 v3 p1) [] w := W
    rw [Gf] at H
    refine Ha tk 6 [0] F W (ai fun a w F W => ?_)
    refine ls F W Aa (A0 (r := LI) (l := p1.1) Sm Aa F Aa (Ab h_v2)).q fun a w F W => ?_
    refine Cc tk 3 F W fun a w F W => ?_
    refine A3 F Aa H (fun F H => ?_) fun F H => ?_
    ·
     refine AD (Ac ?_)
     obtain ⟨o5, G5, K5⟩ := Ad H
     refine Av (fun a w => ∃ x9 : Int, some (x9) = some o5 ∧ Fr 68 [] [(2, .int .i64 p2), (3, .int .i64 p3), (4, .int .i64 p4), (6, .pointer (some ⟨b1, 0, none⟩)), (10, .int .i64 0), (11, .int .i64 x9), (12, .int .i64 x5), (13, .int .i64 x8)] a ∧ Stw ⟨Y, [], w0⟩ (DY b1 v2 v3 p1) [] w) ?_ ?_
     ·
      have H := G5
      clear G5 K5
      refine Lj ?_
      obtain ⟨o6, G6, K6⟩ := Ad H
      refine Av (fun a w => ∃ x10 : Bool, some (x10) = some o6 ∧ Fr 68 [] [(2, .int .i64 p2), (3, .int .i64 p3), (4, .int .i64 p4), (6, .pointer (some ⟨b1, 0, none⟩)), (10, .int .i64 0), (11, .int .i64 x7), (12, .int .i64 x5), (13, .int .i64 x8), (60, .bool x10)] a ∧ Stw ⟨Y, [], w0⟩ (DY b1 v2 v3 p1) [] w) ?_ ?_
      ·
       have H := G6
       clear G6 K6
       refine Cx W MO (by kernel_rfl) ?_
       refine qs F Aa (Ah IZ Aa Aa Aa Sz F Aa 0 Aa).q fun a F => ?_
       refine qs F Aa (A4 (v := v2) 0 F Aa Aa Sz Aa).q fun a F => ?_
       refine qs F Aa (Am F Aa).q fun a F => ?_
       obtain ⟨x11, h8, H⟩ := Ad H
       refine qs F Aa (Aw (r := LI) Su F Aa Aa (Ab h_v2) h8).q fun a F => ?_
       refine qs F Aa (Ah M7 Aa Aa Aa T3 F Aa (Fi v2 + (x8).toNat * 4) Aa).q fun a F => ?_
       refine qs F Aa (Ai (y := Value.int .i64 x11.1) (j := 0) (i := x8) F Aa Aa (Ab h_v2) h8 Sq.to T3 Aa).q fun a F => ?_
       refine qs F Aa (Am F Aa).q fun a F => ?_
       refine qs F Aa (Nj F Aa Aa).q fun a F => ?_
       refine qs F Aa (Am F Aa).q fun a F => ?_
       rcases Bool.eq_false_or_eq_true (decide (x11.1 = p3)) with hb | hb
       ·
        have H := Di (E6 hb) H
        rw [hb] at F
        clear hb
        refine B5 F (Ae F Aa Aa Aa Aa) Aa (AC Aa) (Ah IZ Aa Aa Aa Sz F Aa 0 Aa).q fun a F => ?_
        refine B5 F (Ae F Aa Aa Aa Aa) Aa (AC Aa) (A4 (v := v2) 0 F Aa Aa Sz Aa).q fun a F => ?_
        refine B5 F (Ae F Aa Aa Aa Aa) Aa (AC Aa) (Am F Aa).q fun a F => ?_
        obtain ⟨x12, h9, H⟩ := Ad H
        refine B5 F (Ae F Aa Aa Aa Aa) Aa (AC Aa) (Aw (r := LI) Su F Aa Aa (Ab h_v2) h9).q fun a F => ?_
        refine B5 F (Ae F Aa Aa Aa Aa) Aa (AC Aa) (Ah M7 Aa Aa Aa T3 F Aa (Fi v2 + (x8).toNat * 4 + 1) Aa).q fun a F => ?_
        refine B5 F (Ae F Aa Aa Aa Aa) Aa (AC Aa) (Ai (y := Value.int .i64 x12.2.1) (j := 1) (i := x8) F Aa Aa (Ab h_v2) h9 Sq.to T3 Aa).q fun a F => ?_
        refine B5 F (Ae F Aa Aa Aa Aa) Aa (AC Aa) (Am F Aa).q fun a F => ?_
        refine B5 F (Ae F Aa Aa Aa Aa) Aa (AC Aa) (Nj F Aa Aa).q fun a F => ?_
        refine qs F Aa (BM F Aa Aa Aa).q fun a F => ?_
        refine qs F Aa (Am F Aa).q fun a F => ?_
        rcases Bool.eq_false_or_eq_true (decide (x12.2.1 = p4)) with hb | hb
        ·
         have H := Di (E6 hb) H
         rw [hb] at F
         clear hb
         refine B5 F (Ae F Aa Aa Aa Aa) Aa (AC Aa) (A4 (v := Value.agg #[v2, v3, .int .i64 p1.2.2.1, .int .i64 p1.2.2.2.1, .int .i64 p1.2.2.2.2.1, .int .i64 p1.2.2.2.2.2]) 0 F Aa Aa TK Aa).q fun a F => ?_
         refine B5 F (Ae F Aa Aa Aa Aa) Aa (AC Aa) (Am F Aa).q fun a F => ?_
         refine B5 F (Ae F Aa Aa Aa Aa) Aa (AC Aa) (Ah IZ Aa Aa Aa Sz F Aa 0 Aa).q fun a F => ?_
         refine B5 F (Ae F Aa Aa Aa Aa) Aa (AC Aa) (A4 (v := v2) 0 F Aa Aa Sz Aa).q fun a F => ?_
         refine B5 F (Ae F Aa Aa Aa Aa) Aa (AC Aa) (Am F Aa).q fun a F => ?_
         obtain ⟨x13, h10, H⟩ := Ad H
         refine B5 F (Ae F Aa Aa Aa Aa) Aa (AC Aa) (Aw (r := LI) Su F Aa Aa (Ab h_v2) h10).q fun a F => ?_
         refine B5 F (Ae F Aa Aa Aa Aa) Aa (AC Aa) (Ai (y := Value.agg #[.int .i64 x13.1, .int .i64 x13.2.1, .int .i64 x13.2.2.1, .int .i64 x13.2.2.2]) (j := 0) (i := x8) F Aa Aa (Ab h_v2) h10 Sq.to VL Aa).q fun a F => ?_
         obtain ⟨x14, h11, H⟩ := Ad H
         refine B5 F (Ae F Aa Aa Aa Aa) Aa (AC Aa) (AW (v := Value.bool x14) F Ws Aa (fun w W => Oa any w (v2) (v3) p1 x5 x13 _ h11 (CW (Ab h_v2) W) (CW (Ak HY h2 (Ab h_v3)) W))) fun a F => ?_
         refine qs F Aa (BM F Aa Aa Aa).q fun a F => ?_
         refine A9 fun w W => ?_
         refine Ac ?_
         exact ⟨_, H, F.ra Aa, W⟩
        have H := Dg (Fh hb) H
        rw [hb] at F
        clear hb
        iterate 8 refine Dc F (Bb F Aa Aa Aa Aa Aa) Aa Aa fun a F => ?_
        refine qs F Aa (Cv F Aa Aa Aa).q fun a F => ?_
        refine A9 fun w W => ?_
        refine Ac ?_
        exact ⟨_, H, F.ra Aa, W⟩
       have H := Dg (Fh hb) H
       rw [hb] at F
       clear hb
       iterate 8 refine Dc F (Bb F Aa Aa Aa Aa Aa) Aa Aa fun a F => ?_
       refine qs F Aa (Cv F Aa Aa Aa).q fun a F => ?_
       refine qs F Aa (Am F Aa).q fun a F => ?_
       iterate 8 refine Dc F (Bb F Aa Aa Aa Aa Aa) Aa Aa fun a F => ?_
       refine qs F Aa (Cv F Aa Aa Aa).q fun a F => ?_
       refine A9 fun w W => ?_
       refine Ac ?_
       exact ⟨_, H, F.ra Aa, W⟩
      rintro a w ⟨x10, hj, F, W⟩
      have hj := AA hj
      subst hj
      have H := K6
      clear G6 K6
      refine D8 F Aa H (fun F H => ?_) fun F H => ?_
      ·
       refine Ha tk 4 [0] F W (ai fun a w F W => ?_)
       obtain ⟨x15, h12, H⟩ := Ad H
       refine ls F W Aa (Aw (r := LI) Su F Aa Aa (Ab h_v2) h12).q fun a w F W => ?_
       refine ls F W Aa (Ah M7 Aa Aa Aa T3 F Aa (Fi v2 + (x8).toNat * 4 + 2) Aa).q fun a w F W => ?_
       refine ls F W Aa (Ai (y := Value.int .i64 x15.2.2.1) (j := 2) (i := x8) F Aa Aa (Ab h_v2) h12 Sq.to T3 Aa).q fun a w F W => ?_
       refine vl tk 2 F W fun a w F W => ?_
       refine Aq (Ac ?_)
       exact ⟨_, H, F.ra Aa, W⟩
      refine AD (Aq (Ac ?_))
      exact ⟨_, H, F.ra Aa, W⟩
     rintro a w ⟨x9, hj, F, W⟩
     have hj := AA hj
     subst hj
     have H := K5
     clear G5 K5
     refine vc tk 5 F W fun a w F W => ?_
     refine Ac ?_
     exact ⟨_, H, F.ra Aa, W⟩
    refine AJ ?_
    iterate 2 refine A6 ?_
    refine AM (Aq (Ac ?_))
    have H := L4 _ H
    exact ⟨_, H, F.ra Aa, W⟩
   rintro a w ⟨x6, hj, F, W⟩
   have hj := AA hj
   subst hj
   have H := K3
   clear G3 K3
   refine vc tk 5 F W fun a w F W => ?_
   refine Ac ?_
   exact ⟨_, H, F.ra Aa, W⟩
  refine AJ ?_
  iterate 2 refine A6 ?_
  refine AM (Ac ?_)
  have H := L2 _ H
  exact ⟨_, H, F.ra Aa, W⟩
 rintro a w ⟨x3, hj, F, W⟩
 have hj := AA hj
 subst hj
 have H := K1
 clear G1 K1
 refine vc tk 6 F W fun a w F W => ?_
 refine Ao ?_
 have H := AA H
 subst H
 refine AG (.inl Aa) F W Aa (Al F Aa) ?_
 exact ⟨rfl, W.done⟩
theorem Vv : Has Try.prog 29 := Ct Try.func29
noncomputable def HD (p0 : Int) (p1 : List (Int × Int)) : Int → Option (Int ⊕ (Unit ⊕ Bool))
  | x1 => (if x1 < (p1.length : Int) then ((ix p1 x1).bind fun x3 => (if x3.1 < 0 then some true else (ix p1 x1).bind fun x4 => (if p0 ≤ x4.1 then some true else (ix p1 x1).bind fun x5 => (if x5.2 < 0 then some true else (ix p1 x1).bind fun x6 => some (decide (p0 ≤ x6.2)))))).bind fun x2 => (if x2 = true then some (.inr (.inr false)) else some (.inl (A7 (x1 + 1)))) else some (.inr (.inl ())))
noncomputable def J6 (p0 : Int) (p1 : List (Int × Int)) : Option Bool := EZ (An (HD p0 p1) 0) fun _ => some (decide (0 ≤ p0) && decide (p0 ≤ 16))
noncomputable def Ih (p0 : List (Int × Int)) (p1 : Int) (p2 : Int) : Int → Option (Int ⊕ (Unit ⊕ Bool))
  | x1 => (if x1 < (p0.length : Int) then ((ix p0 x1).bind fun x3 => (if x3.1 = p1 then (ix p0 x1).bind fun x4 => some (decide (x4.2 = p2)) else some false)).bind fun x2 => (if x2 = true then some (.inr (.inr true)) else some (.inl (A7 (x1 + 1)))) else some (.inr (.inl ())))
noncomputable def JG (p0 : List (Int × Int)) (p1 : Int) (p2 : Int) : Option Bool := EZ (An (Ih p0 p1 p2) 0) fun _ => some false
noncomputable def I1 (p0 : List Int) (p1 : Int) : Int → Option (Int ⊕ (Unit ⊕ Bool))
  | x1 => (if x1 < (p0.length : Int) then (ix p0 x1).bind fun x2 => (if x2 = p1 then some (.inr (.inr true)) else some (.inl (A7 (x1 + 1)))) else some (.inr (.inl ())))
noncomputable def KQ (p0 : List Int) (p1 : Int) : Option Bool := EZ (An (I1 p0 p1) 0) fun _ => some false
end Go.Proofs.Ythhoflfhegfmcaa
