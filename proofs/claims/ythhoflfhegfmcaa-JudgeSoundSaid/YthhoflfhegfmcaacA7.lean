/- The functions of layer 25, GX. Conditions: none. -/
import Derived.Test.YthhoflfhegfmcaacA6
namespace Go.Proofs.Ythhoflfhegfmcaa
open Go Go.RowKit
set_option linter.unusedVariables false
set_option linter.unusedSimpArgs false
set_option maxRecDepth 20000
set_option maxHeartbeats 1600000
theorem VC : Has Try.prog 14 := Ct Try.func14
noncomputable def Eg (p0 : List Int) (p1 : List Int) : Int → Option (Int ⊕ (Unit ⊕ Bool))
  | x1 => (if x1 < (p0.length : Int) then (ix p0 x1).bind fun x2 => (ix p1 x1).bind fun x3 => (if x2 ≠ x3 then some (.inr (.inr false)) else some (.inl (A7 (x1 + 1)))) else some (.inr (.inl ())))
noncomputable def Iu (p0 : List Int) (p1 : List Int) : Option Bool := (if (p0.length : Int) ≠ (p1.length : Int) then some false else EZ (An (Eg p0 p1) 0) fun _ => some true)
theorem On (Y : Nat → Prop) (w0 : World) (v1 : Value) (v2 : Value) (p0 : List Int) (p1 : List Int) (r : Bool) (H : Iu p0 p1 = some r) (h_v1 : Sl w0 (NX []) (Rp.int .i64) v1 p0) (h_v2 : Sl w0 (NX []) (Rp.int .i64) v2 p1) :
    Calls Try.prog 30 #[v1, v2] w0 fun e w' => e = .returned (.bool r) ∧ Below w0.heap.size w0 w' := by
 refine enter Try.func30 Aa Try.ntmps30 Aa fun a F => ?_
 have W := Stw.start Y w0
 unfold Iu at H
 refine vc tk 9 F W fun a w F W => ?_
 refine ls F W Aa (A0 (r := (Rp.int .i64)) (l := p0) GS Aa F Aa (Ab h_v1)).q fun a w F W => ?_
 refine ls F W Aa (Am F Aa).q fun a w F W => ?_
 refine ls F W Aa (A0 (r := (Rp.int .i64)) (l := p1) GS Aa F Aa (Ab h_v2)).q fun a w F W => ?_
 refine Cc tk 3 F W fun a w F W => ?_
 refine A3 F Aa H (fun F H => ?_) fun F H => ?_
 ·
  refine vc tk 5 F W fun a w F W => ?_
  refine Ao (AN ?_)
  have H := AA H
  subst H
  refine AG (.inl Aa) F W Aa (Al F Aa) ?_
  exact ⟨rfl, W.done⟩
 refine AD (Ac ?_)
 obtain ⟨o1, G1, K1, L1⟩ := L9 H
 refine Av (fun a w => some (Sum.inl ()) = some o1 ∧ Fr 26 [] [(4, .bool false)] a ∧ Stw ⟨Y, [], w0⟩ [] [] w) ?_ ?_
 ·
  have H := G1
  clear G1 K1
  refine vc tk 6 F W fun a w F W => ?_
  refine AP H (fun s a w => Fr 26 [] [(0, v1), (1, v2), (4, .bool false), (5, .int .i64 s)] a ∧ Stw ⟨Y, [], w0⟩ [] [] w) ⟨F.ra Aa, W⟩ fun s o a w H L2 hR => ?_
  obtain ⟨x1, rfl⟩ : ∃ x, x = s := ⟨s, rfl⟩
  obtain ⟨F, W⟩ := hR
  have F : Fr 26 [] [(0, v1), (1, v2), (4, .bool false), (5, .int .i64 x1)] a := F
  have W : Stw ⟨Y, [], w0⟩ [] [] w := W
  rw [Eg] at H
  refine vc tk 5 F W fun a w F W => ?_
  refine ls F W Aa (A0 (r := (Rp.int .i64)) (l := p0) GS Aa F Aa (Ab h_v1)).q fun a w F W => ?_
  refine Cc tk 3 F W fun a w F W => ?_
  refine A3 F Aa H (fun F H => ?_) fun F H => ?_
  ·
   refine Ie tk 5 F W fun a w F W => ?_
   refine Cx W MO (by kernel_rfl) ?_
   iterate 2 refine qs F Aa (Am F Aa).q fun a F => ?_
   obtain ⟨x2, h1, H⟩ := Ad H
   refine qs F Aa (Aw (r := (Rp.int .i64)) HT F Aa Aa (Ab h_v1) h1).q fun a F => ?_
   refine qs F Aa (Ai (y := Value.int .i64 x2) (j := 0) (i := x1) F Aa Aa (Ab h_v1) h1 Fl.int.to T3 Aa).q fun a F => ?_
   iterate 2 refine qs F Aa (Am F Aa).q fun a F => ?_
   obtain ⟨x3, h2, H⟩ := Ad H
   refine qs F Aa (Aw (r := (Rp.int .i64)) HT F Aa Aa (Ab h_v2) h2).q fun a F => ?_
   refine qs F Aa (Ai (y := Value.int .i64 x3) (j := 0) (i := x1) F Aa Aa (Ab h_v2) h2 Fl.int.to T3 Aa).q fun a F => ?_
   refine qs F Aa (O4 F Aa Aa).q fun a F => ?_
   refine A9 fun w W => ?_
   refine Ac ?_
   refine A3 F Aa H (fun F H => ?_) fun F H => ?_
   ·
    refine vc tk 5 F W fun a w F W => ?_
    refine Ao (AR ?_)
    iterate 2 refine AN ?_
    refine AR (AN ?_)
    have H := L2 _ H
    have H := L1 _ H
    have H := AA H
    subst H
    refine AG (.inl Aa) F W Aa (Al F Aa) ?_
    exact ⟨rfl, W.done⟩
   refine AD (Aq ?_)
   refine vn tk 5 F W fun a w F W => ?_
   refine Ac ?_
   exact ⟨_, H, F.ra Aa, W⟩
  refine AJ ?_
  iterate 2 refine A6 ?_
  refine AM (Ac ?_)
  have H := L2 _ H
  exact ⟨H, F.ra Aa, W⟩
 rintro a w ⟨hj, F, W⟩
 have H := K1 _ hj
 clear hj G1 K1 L1
 refine vc tk 5 F W fun a w F W => ?_
 refine Ao ?_
 have H := AA H
 subst H
 refine AG (.inl Aa) F W Aa (Al F Aa) ?_
 exact ⟨rfl, W.done⟩
theorem Ww : Has Try.prog 30 := Ct Try.func30
noncomputable def Eo (p0 : List (List Int)) (p1 : List (List Int)) : Int → Option (Int ⊕ (Unit ⊕ Bool))
  | x1 => (if x1 < (p0.length : Int) then (ix p0 x1).bind fun x2 => (ix p1 x1).bind fun x3 => (Iu x2 x3).bind fun x4 => (if (!x4) = true then some (.inr (.inr false)) else some (.inl (A7 (x1 + 1)))) else some (.inr (.inl ())))
noncomputable def Ir (p0 : List (List Int)) (p1 : List (List Int)) : Option Bool := (if (p0.length : Int) ≠ (p1.length : Int) then some false else EZ (An (Eo p0 p1) 0) fun _ => some true)
theorem Ox (Y : Nat → Prop) (w0 : World) (v1 : Value) (v2 : Value) (p0 : List (List Int)) (p1 : List (List Int)) (r : Bool) (H : Ir p0 p1 = some r) (h_v1 : Sl w0 (NX []) (Rp.slice (Rp.int .i64)) v1 p0) (h_v2 : Sl w0 (NX []) (Rp.slice (Rp.int .i64)) v2 p1) :
    Calls Try.prog 15 #[v1, v2] w0 fun e w' => e = .returned (.bool r) ∧ Below w0.heap.size w0 w' := by
 refine enter Try.func15 Aa Try.ntmps15 Aa fun a F => ?_
 have W := Stw.start Y w0
 obtain ⟨v3, h1, h_v1⟩ := h_v1.ex Bn
 obtain ⟨v4, h2, h_v2⟩ := h_v2.ex Bn
 unfold Ir at H
 refine vc tk 9 F W fun a w F W => ?_
 refine ls F W Aa (A0 (r := (Rp.slice (Rp.int .i64))) (l := p0) I7 Aa F Aa (Ak Bn h1 (Ab h_v1))).q fun a w F W => ?_
 refine ls F W Aa (Am F Aa).q fun a w F W => ?_
 refine ls F W Aa (A0 (r := (Rp.slice (Rp.int .i64))) (l := p1) I7 Aa F Aa (Ak Bn h2 (Ab h_v2))).q fun a w F W => ?_
 refine Cc tk 3 F W fun a w F W => ?_
 refine A3 F Aa H (fun F H => ?_) fun F H => ?_
 ·
  refine vc tk 5 F W fun a w F W => ?_
  refine Ao (AN ?_)
  have H := AA H
  subst H
  refine AG (.inl Aa) F W Aa (Al F Aa) ?_
  exact ⟨rfl, W.done⟩
 refine AD (Ac ?_)
 obtain ⟨o1, G1, K1, L1⟩ := L9 H
 refine Av (fun a w => some (Sum.inl ()) = some o1 ∧ Fr 27 [] [(4, .bool false)] a ∧ Stw ⟨Y, [], w0⟩ [] [] w) ?_ ?_
 ·
  have H := G1
  clear G1 K1
  refine vc tk 6 F W fun a w F W => ?_
  refine AP H (fun s a w => Fr 27 [] [(0, v1), (1, v2), (4, .bool false), (5, .int .i64 s)] a ∧ Stw ⟨Y, [], w0⟩ [] [] w) ⟨F.ra Aa, W⟩ fun s o a w H L2 hR => ?_
  obtain ⟨x1, rfl⟩ : ∃ x, x = s := ⟨s, rfl⟩
  obtain ⟨F, W⟩ := hR
  have F : Fr 27 [] [(0, v1), (1, v2), (4, .bool false), (5, .int .i64 x1)] a := F
  have W : Stw ⟨Y, [], w0⟩ [] [] w := W
  rw [Eo] at H
  refine vc tk 5 F W fun a w F W => ?_
  refine ls F W Aa (A0 (r := (Rp.slice (Rp.int .i64))) (l := p0) I7 Aa F Aa (Ak Bn h1 (Ab h_v1))).q fun a w F W => ?_
  refine Cc tk 3 F W fun a w F W => ?_
  refine A3 F Aa H (fun F H => ?_) fun F H => ?_
  ·
   refine Ie tk 5 F W fun a w F W => ?_
   refine Cx W MO (by kernel_rfl) ?_
   iterate 2 refine qs F Aa (Am F Aa).q fun a F => ?_
   obtain ⟨x2, h3, H⟩ := Ad H
   obtain ⟨v5, h4, h5⟩ := CE h1 h3
   have h6 : Em v5 = [(v5.1)] := congrArg (fun q : List Int => ([(v5.1)] : List Value)) h5
   refine qs F Aa (Aw (r := (Rp.vsl (Rp.int .i64))) LF F Aa Aa (Ab h_v1) h4).q fun a F => ?_
   refine qs F Aa (Ai (y := (v5.1)) (j := 0) (i := x1) (enc := Em) F Aa Aa (Ab h_v1) h4 Ik Kj (by rw [h6]; rfl)).q fun a F => ?_
   iterate 2 refine qs F Aa (Am F Aa).q fun a F => ?_
   obtain ⟨x3, h7, H⟩ := Ad H
   obtain ⟨v6, h8, h9⟩ := CE h2 h7
   have h10 : Em v6 = [(v6.1)] := congrArg (fun q : List Int => ([(v6.1)] : List Value)) h9
   refine qs F Aa (Aw (r := (Rp.vsl (Rp.int .i64))) LF F Aa Aa (Ab h_v2) h8).q fun a F => ?_
   refine qs F Aa (Ai (y := (v6.1)) (j := 0) (i := x1) (enc := Em) F Aa Aa (Ab h_v2) h8 Ik Kj (by rw [h10]; rfl)).q fun a F => ?_
   obtain ⟨x4, h11, H⟩ := Ad H
   refine qs F Aa (AW (v := Value.bool x4) F Ww Aa (fun w W => On any w ((v5.1)) ((v6.1)) x2 x3 _ h11 (CW (BE (Ab h_v1) h4 Cd.here (congrArg (fun q : List Int => q) h5)) W) (CW (BE (Ab h_v2) h8 Cd.here (congrArg (fun q : List Int => q) h9)) W))) fun a F => ?_
   refine qs F Aa (Ns F Aa).q fun a F => ?_
   refine A9 fun w W => ?_
   refine Ac ?_
   refine D8 F Aa H (fun F H => ?_) fun F H => ?_
   ·
    refine vc tk 5 F W fun a w F W => ?_
    refine Ao (AR ?_)
    iterate 2 refine AN ?_
    refine AR (AN ?_)
    have H := L2 _ H
    have H := L1 _ H
    have H := AA H
    subst H
    refine AG (.inl Aa) F W Aa (Al F Aa) ?_
    exact ⟨rfl, W.done⟩
   refine AD (Aq ?_)
   refine vn tk 5 F W fun a w F W => ?_
   refine Ac ?_
   exact ⟨_, H, F.ra Aa, W⟩
  refine AJ ?_
  iterate 2 refine A6 ?_
  refine AM (Ac ?_)
  have H := L2 _ H
  exact ⟨H, F.ra Aa, W⟩
 rintro a w ⟨hj, F, W⟩
 have H := K1 _ hj
 clear hj G1 K1 L1
 refine vc tk 5 F W fun a w F W => ?_
 refine Ao ?_
 have H := AA H
 subst H
 refine AG (.inl Aa) F W Aa (Al F Aa) ?_
 exact ⟨rfl, W.done⟩
theorem WC : Has Try.prog 15 := Ct Try.func15
noncomputable def Ek (p0 : Int × (List (Int × Int × Int × Int × Int × Int)) × (List (Int × Int))) (p1 : List (List Int)) (p2 : List (List Int)) (p3 : (List (Int × Int × Int × Int)) × (List (Int × Int × List Int)) × Int × Int × Int × Int) (p4 : Int) (p5 : List Int) : Option Bool := ((Hj p0 p1 p2 p3).bind fun x2 => (if (!x2) = true then some true else (if 20 < (p5.length : Int) then some true else (if p4 < 0 then some true else (if (p3.2.1.length : Int) ≤ p4 then some true else (IE p3).bind fun x3 => (Dq p0 p1 p2 x3).bind fun x4 => some (decide (0 < (x4.length : Int)))))))).bind fun x1 => (if x1 = true then (Fq).bind fun x5 => some x5 else ((Hx p1 p3 p4 p5).bind fun x7 => (DT p0 x7).bind fun x8 => (if x8 = true then (Hx p1 p3 (p3.2.1.length : Int) ([] : List Int)).bind fun x9 => (Ir x9 p2).bind fun x10 => (if x10 = true then (Fq).bind fun x11 => some x11 else some false) else some false)).bind fun x6 => some x6)
theorem JU (Y : Nat → Prop) (w0 : World) (v1 : Value) (v2 : Value) (v3 : Value) (v4 : Value) (v5 : Value) (v6 : Value) (v7 : Value) (p0 : Int × (List (Int × Int × Int × Int × Int × Int)) × (List (Int × Int))) (p1 : List (List Int)) (p2 : List (List Int)) (p3 : (List (Int × Int × Int × Int)) × (List (Int × Int × List Int)) × Int × Int × Int × Int) (p4 : Int) (p5 : List Int) (r : Bool) (H : Ek p0 p1 p2 p3 p4 p5 = some r) (h_v1 : Sl w0 (NX []) Gn v1 p0.2.1) (h_v2 : Sl w0 (NX []) GE v2 p0.2.2) (s_v3 : Sl w0 Y (Rp.slice (Rp.int .i64)) v3 p1) (h_v4 : Sl w0 (NX []) (Rp.slice (Rp.int .i64)) v4 p2) (h_v5 : Sl w0 (NX []) LI v5 p3.1) (s_v6 : Sl w0 Y Oh v6 p3.2.1) (h_v7 : Sl w0 (NX []) (Rp.int .i64) v7 p5) :
    Calls Try.prog 4 #[.agg #[.int .i64 p0.1, v1, v2], v3, v4, .agg #[v5, v6, .int .i64 p3.2.2.1, .int .i64 p3.2.2.2.1, .int .i64 p3.2.2.2.2.1, .int .i64 p3.2.2.2.2.2], .int .i64 p4, v7] w0 fun e w' => e = .returned (.bool r) ∧ Below w0.heap.size w0 w' := by
 refine enter Try.func4 Aa Try.ntmps4 Aa fun a F => ?_
 have W := Stw.start Y w0
 obtain ⟨v8, h1, s_v3⟩ := s_v3.ex Bn
 obtain ⟨v9, h2, h_v4⟩ := h_v4.ex Bn
 obtain ⟨v10, h3, s_v6⟩ := s_v6.ex HY
 have h_v3 := W.nx s_v3
 have h_v6 := W.nx s_v6
 unfold Ek at H
 refine vc tk 2 F W fun a w F W => ?_
 refine Cq (cs := [.int .i64 p0.1, v1, v2]) F W Aa Aa Aa fun b1 a w F W => ?_
 refine Cq (cs := [v5, v6, .int .i64 p3.2.2.1, .int .i64 p3.2.2.2.1, .int .i64 p3.2.2.2.2.1, .int .i64 p3.2.2.2.2.2]) F W Aa Aa Aa fun b2 a w F W => ?_
 refine Cc tk 4 F W fun a w F W => ?_
 obtain ⟨o1, G1, K1⟩ := Ad H
 refine Av (fun a w => ∃ x1 : Bool, some (x1) = some o1 ∧ Fr 66 [] [(1, v3), (2, v4), (4, .int .i64 p4), (5, v7), (6, .pointer (some ⟨b1, 0, none⟩)), (9, .pointer (some ⟨b2, 0, none⟩)), (12, .bool false), (44, .bool x1)] a ∧ Stw ⟨Y, [], w0⟩ (Jj b2 v5 v6 p3 b1 p0 v1 v2) [] w) ?_ ?_
 ·
  have H := G1
  clear G1 K1
  refine Is [(true, 0), (true, 1), (true, 2), (true, 3), (false, 4), (true, 5), (true, 6), (true, 7), (true, 8), (true, 9), (true, 10), (true, 11), (true, 12), (true, 13), (true, 14), (true, 15), (true, 16), (true, 17), (true, 18), (true, 19), (true, 20), (true, 21), (true, 22), (true, 23), (true, 24), (true, 25), (true, 26), (false, 27), (false, 28), (true, 29), (true, 30), (true, 31)] (CN ⟨Y, [], w0⟩ [(some 4, b1, [.int .i64 p0.1, v1, v2]), (some 4, b2, [v5, v6, .int .i64 p3.2.2.1, .int .i64 p3.2.2.2.1, .int .i64 p3.2.2.2.2.1, .int .i64 p3.2.2.2.2.2])] []) (fun ch a d v w h => by cases d <;> exact h) MO (by kernel_rfl) W (fun w W => ⟨_, _, W, (all_cons (fun _ => (.tail _ (.head _))) (all_cons (fun _ => (.head _)) Aj)), Aj⟩) fun w W => ?_
  refine Bx (R := [4]) F Aa Aa (yC fun M Z hN hZ => BF (cs := [.int .i64 p0.1, v1, v2]) (v := Value.agg #[.int .i64 p0.1, v1, v2]) F Aa (hN ((some 4), b1, [.int .i64 p0.1, v1, v2]) (.head _) Aa) Th Aa) (by kernel_rfl) Aa fun a F => ?_
  iterate 2 refine Bx (R := []) F Aa Aa (yC fun M Z hN hZ => Am F Aa) Aa Aa fun a F => ?_
  refine Bx (R := [4]) F Aa Aa (yC fun M Z hN hZ => BF (cs := [v5, v6, .int .i64 p3.2.2.1, .int .i64 p3.2.2.2.1, .int .i64 p3.2.2.2.2.1, .int .i64 p3.2.2.2.2.2]) (v := Value.agg #[v5, v6, .int .i64 p3.2.2.1, .int .i64 p3.2.2.2.1, .int .i64 p3.2.2.2.2.1, .int .i64 p3.2.2.2.2.2]) F Aa (hN ((some 4), b2, [v5, v6, .int .i64 p3.2.2.1, .int .i64 p3.2.2.2.1, .int .i64 p3.2.2.2.2.1, .int .i64 p3.2.2.2.2.2]) (.tail _ (.head _)) Aa) TK Aa) (by kernel_rfl) Aa fun a F => ?_
  refine Ea Aa ?_
  obtain ⟨x2, h4, H⟩ := Ad H
  refine ls F W Aa (AW (v := Value.bool x2) F H5 Aa (fun w W => NS any w (v1) (v2) (v3) (v4) (v5) (v6) p0 p1 p2 p3 _ h4 (CW (Ab h_v1) W) (CW (Ab h_v2) W) (CW (Ak Bn h1 (Ab h_v3)) W) (CW (Ak Bn h2 (Ab h_v4)) W) (CW (Ab h_v5) W) (CW (Ak HY h3 (Ab h_v6)) W))) fun a w F W => ?_
  refine Bj (N2 := [(some 27, b2, [v5, v6, .int .i64 p3.2.2.1, .int .i64 p3.2.2.2.1, .int .i64 p3.2.2.2.2.1, .int .i64 p3.2.2.2.2.2]), (some 28, b1, [.int .i64 p0.1, v1, v2])]) (NZ2 := []) (N3 := [(some 4, b1, [.int .i64 p0.1, v1, v2]), (some 4, b2, [v5, v6, .int .i64 p3.2.2.1, .int .i64 p3.2.2.2.1, .int .i64 p3.2.2.2.2.1, .int .i64 p3.2.2.2.2.2]), (some 27, b2, [v5, v6, .int .i64 p3.2.2.1, .int .i64 p3.2.2.2.1, .int .i64 p3.2.2.2.2.1, .int .i64 p3.2.2.2.2.2]), (some 28, b1, [.int .i64 p0.1, v1, v2])]) (NZ3 := []) W Aa Aa (all_cons (fun h => Af (by kernel_rfl) h) (all_cons (fun h => Af (by kernel_rfl) h) (all_cons (fun _ => (.head _)) (all_cons (fun _ => (.tail _ (.head _))) Aj)))) Aj ?_
  refine Bx (R := []) F Aa Aa (yC fun M Z hN hZ => Ns F Aa) Aa Aa fun a F => ?_
  refine Bx (R := []) F Aa Aa (yC fun M Z hN hZ => Am F Aa) Aa Aa fun a F => ?_
  rcases Bool.eq_false_or_eq_true (!x2) with hb | hb
  ·
   have H := Di hb H
   rw [hb] at F
   clear hb
   iterate 3 refine DQ F Aa (Bb F Aa Aa Aa Aa Aa) Aa Aa Aa fun a F => ?_
   refine Bx (R := []) F Aa Aa (yC fun M Z hN hZ => BM F Aa Aa Aa) Aa Aa fun a F => ?_
   refine Bx (R := []) F Aa Aa (yC fun M Z hN hZ => Am F Aa) Aa Aa fun a F => ?_
   iterate 2 refine DQ F Aa (Bb F Aa Aa Aa Aa Aa) Aa Aa Aa fun a F => ?_
   refine Bx (R := []) F Aa Aa (yC fun M Z hN hZ => BM F Aa Aa Aa) Aa Aa fun a F => ?_
   refine Bx (R := []) F Aa Aa (yC fun M Z hN hZ => Am F Aa) Aa Aa fun a F => ?_
   iterate 5 refine DQ F Aa (Bb F Aa Aa Aa Aa Aa) Aa Aa Aa fun a F => ?_
   refine Bx (R := []) F Aa Aa (yC fun M Z hN hZ => BM F Aa Aa Aa) Aa Aa fun a F => ?_
   refine Bx (R := []) F Aa Aa (yC fun M Z hN hZ => Am F Aa) Aa Aa fun a F => ?_
   iterate 4 refine DQ F Aa (Bb F Aa Aa Aa Aa Aa) Aa Aa Aa fun a F => ?_
   refine Ea Aa ?_
   refine PW F Aa Aa Aa Aa Aa Aa Aa fun a F => ?_
   refine Bj (N2 := []) (NZ2 := []) (N3 := [(some 4, b1, [.int .i64 p0.1, v1, v2]), (some 4, b2, [v5, v6, .int .i64 p3.2.2.1, .int .i64 p3.2.2.2.1, .int .i64 p3.2.2.2.2.1, .int .i64 p3.2.2.2.2.2]), (some 27, b2, [v5, v6, .int .i64 p3.2.2.1, .int .i64 p3.2.2.2.1, .int .i64 p3.2.2.2.2.1, .int .i64 p3.2.2.2.2.2]), (some 28, b1, [.int .i64 p0.1, v1, v2])]) (NZ3 := []) W Aa Aa (all_cons (fun h => Af (by kernel_rfl) h) (all_cons (fun h => Af (by kernel_rfl) h) (all_cons (fun h => Af (by kernel_rfl) h) (all_cons (fun _ => (.tail _ (.head _))) Aj)))) Aj ?_
   refine Ea Aa ?_
   refine PW F Aa Aa Aa Aa Aa Aa Aa fun a F => ?_
   refine Bj (N2 := []) (NZ2 := []) (N3 := [(some 4, b1, [.int .i64 p0.1, v1, v2]), (some 4, b2, [v5, v6, .int .i64 p3.2.2.1, .int .i64 p3.2.2.2.1, .int .i64 p3.2.2.2.2.1, .int .i64 p3.2.2.2.2.2]), (some 27, b2, [v5, v6, .int .i64 p3.2.2.1, .int .i64 p3.2.2.2.1, .int .i64 p3.2.2.2.2.1, .int .i64 p3.2.2.2.2.2]), (some 28, b1, [.int .i64 p0.1, v1, v2])]) (NZ3 := []) W Aa Aa (all_cons (fun h => Af (by kernel_rfl) h) (all_cons (fun h => Af (by kernel_rfl) h) (all_cons (fun h => Af (by kernel_rfl) h) (all_cons (fun h => Af (by kernel_rfl) h) Aj)))) Aj ?_
   iterate 2 refine DQ F Aa (Bb F Aa Aa Aa Aa Aa) Aa Aa Aa fun a F => ?_
   refine Bx (R := []) F Aa Aa (yC fun M Z hN hZ => BM F Aa Aa Aa) Aa Aa fun a F => ?_
   refine Gz (Ac ?_)
   have W := W.frontM (i := 1) Aa Aa
   have W := W.frontM (i := 1) Aa Aa
   exact ⟨_, H, F.ra Aa, W⟩
  have H := Dg (by rw [hb]; decide) H
  rw [hb] at F
  clear hb
  refine GV (R := []) F Aa (Ae F Aa Aa Aa Aa) Aa Aa (yC fun M Z hN hZ => Am F Aa) Aa Aa fun a F => ?_
  refine GV (R := []) F Aa (Ae F Aa Aa Aa Aa) Aa Aa (yC fun M Z hN hZ => A0 (r := (Rp.int .i64)) (l := p5) GS Aa F Aa (Ab h_v7)) Aa Aa fun a F => ?_
  refine GV (R := []) F Aa (Ae F Aa Aa Aa Aa) Aa Aa (yC fun M Z hN hZ => P1 F Aa Aa) Aa Aa fun a F => ?_
  refine Bx (R := []) F Aa Aa (yC fun M Z hN hZ => Cv F Aa Aa Aa) Aa Aa fun a F => ?_
  refine Bx (R := []) F Aa Aa (yC fun M Z hN hZ => Am F Aa) Aa Aa fun a F => ?_
  rcases Bool.eq_false_or_eq_true (decide (20 < (p5.length : Int))) with hb | hb
  ·
   have H := Di (E6 hb) H
   rw [hb] at F
   clear hb
   iterate 2 refine DQ F Aa (Bb F Aa Aa Aa Aa Aa) Aa Aa Aa fun a F => ?_
   refine Bx (R := []) F Aa Aa (yC fun M Z hN hZ => BM F Aa Aa Aa) Aa Aa fun a F => ?_
   refine Bx (R := []) F Aa Aa (yC fun M Z hN hZ => Am F Aa) Aa Aa fun a F => ?_
   iterate 5 refine DQ F Aa (Bb F Aa Aa Aa Aa Aa) Aa Aa Aa fun a F => ?_
   refine Bx (R := []) F Aa Aa (yC fun M Z hN hZ => BM F Aa Aa Aa) Aa Aa fun a F => ?_
   refine Bx (R := []) F Aa Aa (yC fun M Z hN hZ => Am F Aa) Aa Aa fun a F => ?_
   iterate 4 refine DQ F Aa (Bb F Aa Aa Aa Aa Aa) Aa Aa Aa fun a F => ?_
   refine Ea Aa ?_
   refine PW F Aa Aa Aa Aa Aa Aa Aa fun a F => ?_
   refine Bj (N2 := []) (NZ2 := []) (N3 := [(some 4, b1, [.int .i64 p0.1, v1, v2]), (some 4, b2, [v5, v6, .int .i64 p3.2.2.1, .int .i64 p3.2.2.2.1, .int .i64 p3.2.2.2.2.1, .int .i64 p3.2.2.2.2.2]), (some 27, b2, [v5, v6, .int .i64 p3.2.2.1, .int .i64 p3.2.2.2.1, .int .i64 p3.2.2.2.2.1, .int .i64 p3.2.2.2.2.2]), (some 28, b1, [.int .i64 p0.1, v1, v2])]) (NZ3 := []) W Aa Aa (all_cons (fun h => Af (by kernel_rfl) h) (all_cons (fun h => Af (by kernel_rfl) h) (all_cons (fun h => Af (by kernel_rfl) h) (all_cons (fun _ => (.tail _ (.head _))) Aj)))) Aj ?_
   refine Ea Aa ?_
   refine PW F Aa Aa Aa Aa Aa Aa Aa fun a F => ?_
   refine Bj (N2 := []) (NZ2 := []) (N3 := [(some 4, b1, [.int .i64 p0.1, v1, v2]), (some 4, b2, [v5, v6, .int .i64 p3.2.2.1, .int .i64 p3.2.2.2.1, .int .i64 p3.2.2.2.2.1, .int .i64 p3.2.2.2.2.2]), (some 27, b2, [v5, v6, .int .i64 p3.2.2.1, .int .i64 p3.2.2.2.1, .int .i64 p3.2.2.2.2.1, .int .i64 p3.2.2.2.2.2]), (some 28, b1, [.int .i64 p0.1, v1, v2])]) (NZ3 := []) W Aa Aa (all_cons (fun h => Af (by kernel_rfl) h) (all_cons (fun h => Af (by kernel_rfl) h) (all_cons (fun h => Af (by kernel_rfl) h) (all_cons (fun h => Af (by kernel_rfl) h) Aj)))) Aj ?_
   iterate 2 refine DQ F Aa (Bb F Aa Aa Aa Aa Aa) Aa Aa Aa fun a F => ?_
   refine Bx (R := []) F Aa Aa (yC fun M Z hN hZ => BM F Aa Aa Aa) Aa Aa fun a F => ?_
   refine Gz (Ac ?_)
   have W := W.frontM (i := 1) Aa Aa
   have W := W.frontM (i := 1) Aa Aa
   exact ⟨_, H, F.ra Aa, W⟩
  have H := Dg (Fh hb) H
  rw [hb] at F
  clear hb
  refine GV (R := []) F Aa (Ae F Aa Aa Aa Aa) Aa Aa (yC fun M Z hN hZ => Am F Aa) Aa Aa fun a F => ?_
  refine GV (R := []) F Aa (Ae F Aa Aa Aa Aa) Aa Aa (yC fun M Z hN hZ => Nz F Aa Aa) Aa Aa fun a F => ?_
  refine Bx (R := []) F Aa Aa (yC fun M Z hN hZ => Cv F Aa Aa Aa) Aa Aa fun a F => ?_
  refine Bx (R := []) F Aa Aa (yC fun M Z hN hZ => Am F Aa) Aa Aa fun a F => ?_
  rcases Bool.eq_false_or_eq_true (decide (p4 < 0)) with hb | hb
  ·
   have H := Di (E6 hb) H
   rw [hb] at F
   clear hb
   iterate 5 refine DQ F Aa (Bb F Aa Aa Aa Aa Aa) Aa Aa Aa fun a F => ?_
   refine Bx (R := []) F Aa Aa (yC fun M Z hN hZ => BM F Aa Aa Aa) Aa Aa fun a F => ?_
   refine Bx (R := []) F Aa Aa (yC fun M Z hN hZ => Am F Aa) Aa Aa fun a F => ?_
   iterate 4 refine DQ F Aa (Bb F Aa Aa Aa Aa Aa) Aa Aa Aa fun a F => ?_
   refine Ea Aa ?_
   refine PW F Aa Aa Aa Aa Aa Aa Aa fun a F => ?_
   refine Bj (N2 := []) (NZ2 := []) (N3 := [(some 4, b1, [.int .i64 p0.1, v1, v2]), (some 4, b2, [v5, v6, .int .i64 p3.2.2.1, .int .i64 p3.2.2.2.1, .int .i64 p3.2.2.2.2.1, .int .i64 p3.2.2.2.2.2]), (some 27, b2, [v5, v6, .int .i64 p3.2.2.1, .int .i64 p3.2.2.2.1, .int .i64 p3.2.2.2.2.1, .int .i64 p3.2.2.2.2.2]), (some 28, b1, [.int .i64 p0.1, v1, v2])]) (NZ3 := []) W Aa Aa (all_cons (fun h => Af (by kernel_rfl) h) (all_cons (fun h => Af (by kernel_rfl) h) (all_cons (fun h => Af (by kernel_rfl) h) (all_cons (fun _ => (.tail _ (.head _))) Aj)))) Aj ?_
   refine Ea Aa ?_
   refine PW F Aa Aa Aa Aa Aa Aa Aa fun a F => ?_
   refine Bj (N2 := []) (NZ2 := []) (N3 := [(some 4, b1, [.int .i64 p0.1, v1, v2]), (some 4, b2, [v5, v6, .int .i64 p3.2.2.1, .int .i64 p3.2.2.2.1, .int .i64 p3.2.2.2.2.1, .int .i64 p3.2.2.2.2.2]), (some 27, b2, [v5, v6, .int .i64 p3.2.2.1, .int .i64 p3.2.2.2.1, .int .i64 p3.2.2.2.2.1, .int .i64 p3.2.2.2.2.2]), (some 28, b1, [.int .i64 p0.1, v1, v2])]) (NZ3 := []) W Aa Aa (all_cons (fun h => Af (by kernel_rfl) h) (all_cons (fun h => Af (by kernel_rfl) h) (all_cons (fun h => Af (by kernel_rfl) h) (all_cons (fun h => Af (by kernel_rfl) h) Aj)))) Aj ?_
   iterate 2 refine DQ F Aa (Bb F Aa Aa Aa Aa Aa) Aa Aa Aa fun a F => ?_
   refine Bx (R := []) F Aa Aa (yC fun M Z hN hZ => BM F Aa Aa Aa) Aa Aa fun a F => ?_
   refine Gz (Ac ?_)
   have W := W.frontM (i := 1) Aa Aa
   have W := W.frontM (i := 1) Aa Aa
   exact ⟨_, H, F.ra Aa, W⟩
  have H := Dg (Fh hb) H
  rw [hb] at F
  clear hb
  refine GV (R := []) F Aa (Ae F Aa Aa Aa Aa) Aa Aa (yC fun M Z hN hZ => Am F Aa) Aa Aa fun a F => ?_
  refine GV (R := []) F Aa (Ae F Aa Aa Aa Aa) Aa Aa (yC fun M Z hN hZ => Ah IZ Aa Aa Aa OP F Aa 1 Aa) Aa Aa fun a F => ?_
  refine GV (R := [27, 22, 21, 20, 19]) F Aa (Ae F Aa Aa Aa Aa) Aa Aa (yC fun M Z hN hZ => BF (cs := [v5, v6, .int .i64 p3.2.2.1, .int .i64 p3.2.2.2.1, .int .i64 p3.2.2.2.2.1, .int .i64 p3.2.2.2.2.2]) (v := v6) F Aa (hN ((some 27), b2, [v5, v6, .int .i64 p3.2.2.1, .int .i64 p3.2.2.2.1, .int .i64 p3.2.2.2.2.1, .int .i64 p3.2.2.2.2.2]) (.tail _ (.tail _ (.head _))) Aa) OP Aa) (by kernel_rfl) Aa fun a F => ?_
  refine GV (R := []) F Aa (Ae F Aa Aa Aa Aa) Aa Aa (yC fun M Z hN hZ => A0 (r := Oh) (l := p3.2.1) PA Aa F Aa (Ak HY h3 (Ab h_v6))) Aa Aa fun a F => ?_
  refine GV (R := []) F Aa (Ae F Aa Aa Aa Aa) Aa Aa (yC fun M Z hN hZ => P3 F Aa Aa) Aa Aa fun a F => ?_
  refine Bx (R := []) F Aa Aa (yC fun M Z hN hZ => Cv F Aa Aa Aa) Aa Aa fun a F => ?_
  refine Bx (R := []) F Aa Aa (yC fun M Z hN hZ => Am F Aa) Aa Aa fun a F => ?_
  rcases Bool.eq_false_or_eq_true (decide ((p3.2.1.length : Int) ≤ p4)) with hb | hb
  ·
   have H := Di (E6 hb) H
   rw [hb] at F
   clear hb
   iterate 4 refine DQ F Aa (Bb F Aa Aa Aa Aa Aa) Aa Aa Aa fun a F => ?_
   refine Ea Aa ?_
   refine PW F Aa Aa Aa Aa Aa Aa Aa fun a F => ?_
   refine Bj (N2 := []) (NZ2 := []) (N3 := [(some 4, b1, [.int .i64 p0.1, v1, v2]), (some 4, b2, [v5, v6, .int .i64 p3.2.2.1, .int .i64 p3.2.2.2.1, .int .i64 p3.2.2.2.2.1, .int .i64 p3.2.2.2.2.2]), (some 27, b2, [v5, v6, .int .i64 p3.2.2.1, .int .i64 p3.2.2.2.1, .int .i64 p3.2.2.2.2.1, .int .i64 p3.2.2.2.2.2]), (some 28, b1, [.int .i64 p0.1, v1, v2])]) (NZ3 := []) W Aa Aa (all_cons (fun h => Af (by kernel_rfl) h) (all_cons (fun h => Af (by kernel_rfl) h) (all_cons (fun h => Af (by kernel_rfl) h) (all_cons (fun _ => (.tail _ (.head _))) Aj)))) Aj ?_
   refine Ea Aa ?_
   refine PW F Aa Aa Aa Aa Aa Aa Aa fun a F => ?_
   refine Bj (N2 := []) (NZ2 := []) (N3 := [(some 4, b1, [.int .i64 p0.1, v1, v2]), (some 4, b2, [v5, v6, .int .i64 p3.2.2.1, .int .i64 p3.2.2.2.1, .int .i64 p3.2.2.2.2.1, .int .i64 p3.2.2.2.2.2]), (some 27, b2, [v5, v6, .int .i64 p3.2.2.1, .int .i64 p3.2.2.2.1, .int .i64 p3.2.2.2.2.1, .int .i64 p3.2.2.2.2.2]), (some 28, b1, [.int .i64 p0.1, v1, v2])]) (NZ3 := []) W Aa Aa (all_cons (fun h => Af (by kernel_rfl) h) (all_cons (fun h => Af (by kernel_rfl) h) (all_cons (fun h => Af (by kernel_rfl) h) (all_cons (fun h => Af (by kernel_rfl) h) Aj)))) Aj ?_
   iterate 2 refine DQ F Aa (Bb F Aa Aa Aa Aa Aa) Aa Aa Aa fun a F => ?_
   refine Bx (R := []) F Aa Aa (yC fun M Z hN hZ => BM F Aa Aa Aa) Aa Aa fun a F => ?_
   refine Gz (Ac ?_)
   have W := W.frontM (i := 1) Aa Aa
   have W := W.frontM (i := 1) Aa Aa
   exact ⟨_, H, F.ra Aa, W⟩
  have H := Dg (Fh hb) H
  rw [hb] at F
  clear hb
  refine GV (R := [28]) F Aa (Ae F Aa Aa Aa Aa) Aa Aa (yC fun M Z hN hZ => BF (cs := [.int .i64 p0.1, v1, v2]) (v := Value.agg #[.int .i64 p0.1, v1, v2]) F Aa (hN ((some 28), b1, [.int .i64 p0.1, v1, v2]) (.tail _ (.tail _ (.tail _ (.head _)))) Aa) Th Aa) (by kernel_rfl) Aa fun a F => ?_
  iterate 2 refine GV (R := []) F Aa (Ae F Aa Aa Aa Aa) Aa Aa (yC fun M Z hN hZ => Am F Aa) Aa Aa fun a F => ?_
  refine GV (R := [27]) F Aa (Ae F Aa Aa Aa Aa) Aa Aa (yC fun M Z hN hZ => BF (cs := [v5, v6, .int .i64 p3.2.2.1, .int .i64 p3.2.2.2.1, .int .i64 p3.2.2.2.2.1, .int .i64 p3.2.2.2.2.2]) (v := Value.agg #[v5, v6, .int .i64 p3.2.2.1, .int .i64 p3.2.2.2.1, .int .i64 p3.2.2.2.2.1, .int .i64 p3.2.2.2.2.2]) F Aa (hN ((some 27), b2, [v5, v6, .int .i64 p3.2.2.1, .int .i64 p3.2.2.2.1, .int .i64 p3.2.2.2.2.1, .int .i64 p3.2.2.2.2.2]) (.tail _ (.tail _ (.head _))) Aa) TK Aa) (by kernel_rfl) Aa fun a F => ?_
  refine Ea Aa ?_
  refine Jg (Ae F Aa Aa Aa Aa) ?_
  obtain ⟨x3, h5, H⟩ := Ad H
  refine CJ (Ml := []) (Zl := []) (β := Value × Value) (rv := fun x => .agg #[x.1, x.2, .int .i64 x3.2.2.1, .int .i64 x3.2.2.2.1, .int .i64 x3.2.2.2.2.1, .int .i64 x3.2.2.2.2.2]) (MM := fun x => []) (ZZ := fun x => [row x.1 78 Hg x3.1, row x.2 65 Jw x3.2.1]) F W H9 Aa Aa (fun hL => Ob _ w (v5) (v6) p3 _ h5 ((Ab h_v5) w W).nx (Sl.hide HY h3 (W.old s_v6))) fun x a w F W => ?_
  obtain ⟨v11, v12⟩ := x
  have W : Stw ⟨Y, [], w0⟩ (Jj b2 v5 v6 p3 b1 p0 v1 v2) [row v11 78 Hg x3.1, row v12 65 Jw x3.2.1] w := W
  refine Bj (N2 := []) (NZ2 := []) (N3 := [(some 4, b1, [.int .i64 p0.1, v1, v2]), (some 4, b2, [v5, v6, .int .i64 p3.2.2.1, .int .i64 p3.2.2.2.1, .int .i64 p3.2.2.2.2.1, .int .i64 p3.2.2.2.2.2]), (some 27, b2, [v5, v6, .int .i64 p3.2.2.1, .int .i64 p3.2.2.2.1, .int .i64 p3.2.2.2.2.1, .int .i64 p3.2.2.2.2.2]), (some 28, b1, [.int .i64 p0.1, v1, v2])]) (NZ3 := []) W Aa Aa (all_cons (fun h => Af (by kernel_rfl) h) (all_cons (fun h => Af (by kernel_rfl) h) (all_cons (fun h => Af (by kernel_rfl) h) (all_cons (fun _ => (.tail _ (.head _))) Aj)))) Aj ?_
  refine Ea Aa ?_
  refine Jg (Ae F Aa Aa Aa Aa) ?_
  obtain ⟨x4, h6, H⟩ := Ad H
  refine CJ (Ml := []) (Zl := []) (β := Value) (rv := fun x => x) (MM := fun x => []) (ZZ := fun x => [row x 58 Bw x4]) F W H8 Aa Aa (fun hL => GW _ w (v1) (v2) (v3) (v4) (v11) (v12) p0 p1 p2 x3 _ h6 ((Ab h_v1) w W).nx ((Ab h_v2) w W).nx (Sl.hide Bn h1 (W.old s_v3)) ((Ak Bn h2 (Ab h_v4)) w W).nx ((CY 0 Aa) w W).nx ((CY 1 Aa) w W).nx) fun x a w F W => ?_
  obtain ⟨v13, rfl⟩ : ∃ y, y = x := ⟨x, rfl⟩
  have W : Stw ⟨Y, [], w0⟩ (Jj b2 v5 v6 p3 b1 p0 v1 v2) [row v13 58 Bw x4, row v11 78 Hg x3.1, row v12 65 Jw x3.2.1] w := W
  refine Bj (N2 := []) (NZ2 := [(none, row v13 58 Bw x4)]) (N3 := [(some 4, b1, [.int .i64 p0.1, v1, v2]), (some 4, b2, [v5, v6, .int .i64 p3.2.2.1, .int .i64 p3.2.2.2.1, .int .i64 p3.2.2.2.2.1, .int .i64 p3.2.2.2.2.2]), (some 27, b2, [v5, v6, .int .i64 p3.2.2.1, .int .i64 p3.2.2.2.1, .int .i64 p3.2.2.2.2.1, .int .i64 p3.2.2.2.2.2]), (some 28, b1, [.int .i64 p0.1, v1, v2])]) (NZ3 := [(none, row v13 58 Bw x4)]) W Aa Aa (all_cons (fun h => Af (by kernel_rfl) h) (all_cons (fun h => Af (by kernel_rfl) h) (all_cons (fun h => Af (by kernel_rfl) h) (all_cons (fun h => Af (by kernel_rfl) h) Aj)))) (all_cons (fun _ => (.head _)) Aj) ?_
  refine GV (R := []) F Aa (Ae F Aa Aa Aa Aa) Aa Aa (yC fun M Z hN hZ => A0 (r := Bw) (l := x4) Mp Aa F Aa (QK (hZ (none, row v13 58 Bw x4) (.head _) Aa))) Aa Aa fun a F => ?_
  refine GV (R := []) F Aa (Ae F Aa Aa Aa Aa) Aa Aa (yC fun M Z hN hZ => P1 F Aa Aa) Aa Aa fun a F => ?_
  refine Bx (R := []) F Aa Aa (yC fun M Z hN hZ => Cv F Aa Aa Aa) Aa Aa fun a F => ?_
  refine Gz (Ac ?_)
  have W := W.frontM (i := 1) Aa Aa
  have W := W.frontM (i := 1) Aa Aa
  have W := W.sub (M' := (Jj b2 v5 v6 p3 b1 p0 v1 v2)) (Z' := []) (List.Sublist.refl _) (List.nil_sublist _)
  exact ⟨_, H, F.ra Aa, W⟩
 rintro a w ⟨x1, hj, F, W⟩
 have hj := AA hj
 subst hj
 have H := K1
 clear G1 K1
 refine D8 F Aa H (fun F H => ?_) fun F H => ?_
 ·
  refine vc tk 2 F W fun a w F W => ?_
  obtain ⟨x5, h7, H⟩ := Ad H
  refine ls F W Aa (AW (v := Value.bool x5) F H6 Aa (fun w W => Kw any w _ h7)) fun a w F W => ?_
  refine Cc tk 3 F W fun a w F W => ?_
  refine Ao (AN ?_)
  have H := AA H
  subst H
  refine AG (.inl Aa) F W Aa (Al F Aa) ?_
  exact ⟨rfl, W.done⟩
 refine AD (Ac ?_)
 obtain ⟨o2, G2, K2⟩ := Ad H
 refine Av (fun a w => ∃ x6 : Bool, some (x6) = some o2 ∧ Fr 66 [] [(12, .bool x6)] a ∧ Stw ⟨Y, [], w0⟩ (Jj b2 v5 v6 p3 b1 p0 v1 v2) [] w) ?_ ?_
 ·
  have H := G2
  clear G2 K2
  refine Is [(true, 0), (true, 1), (true, 2), (true, 3), (true, 4), (false, 5), (false, 6), (true, 7), (true, 8), (true, 9), (true, 10), (true, 11), (true, 12), (true, 14), (false, 13), (false, 15), (true, 16), (true, 17), (false, 18), (true, 19), (false, 20)] (CN ⟨Y, [], w0⟩ [(some 6, b1, [.int .i64 p0.1, v1, v2]), (some 5, b2, [v5, v6, .int .i64 p3.2.2.1, .int .i64 p3.2.2.2.1, .int .i64 p3.2.2.2.2.1, .int .i64 p3.2.2.2.2.2])] []) (fun ch a d v w h => by cases d <;> exact h) MO (by kernel_rfl) W (fun w W => ⟨_, _, W, (all_cons (fun _ => (.tail _ (.head _))) (all_cons (fun _ => (.head _)) Aj)), Aj⟩) fun w W => ?_
  refine Bx (R := [6]) F Aa Aa (yC fun M Z hN hZ => BF (cs := [.int .i64 p0.1, v1, v2]) (v := Value.agg #[.int .i64 p0.1, v1, v2]) F Aa (hN ((some 6), b1, [.int .i64 p0.1, v1, v2]) (.head _) Aa) Th Aa) (by kernel_rfl) Aa fun a F => ?_
  refine Bx (R := []) F Aa Aa (yC fun M Z hN hZ => Am F Aa) Aa Aa fun a F => ?_
  refine Bx (R := [5]) F Aa Aa (yC fun M Z hN hZ => BF (cs := [v5, v6, .int .i64 p3.2.2.1, .int .i64 p3.2.2.2.1, .int .i64 p3.2.2.2.2.1, .int .i64 p3.2.2.2.2.2]) (v := Value.agg #[v5, v6, .int .i64 p3.2.2.1, .int .i64 p3.2.2.2.1, .int .i64 p3.2.2.2.2.1, .int .i64 p3.2.2.2.2.2]) F Aa (hN ((some 5), b2, [v5, v6, .int .i64 p3.2.2.1, .int .i64 p3.2.2.2.1, .int .i64 p3.2.2.2.2.1, .int .i64 p3.2.2.2.2.2]) (.tail _ (.head _)) Aa) TK Aa) (by kernel_rfl) Aa fun a F => ?_
  iterate 2 refine Bx (R := []) F Aa Aa (yC fun M Z hN hZ => Am F Aa) Aa Aa fun a F => ?_
  refine Ea Aa ?_
  obtain ⟨x7, h8, H⟩ := Ad H
  refine CJ (Ml := []) (Zl := []) (β := Value) (rv := fun x => x) (MM := fun x => []) (ZZ := fun x => [row x 46 (Rp.slice (Rp.int .i64)) x7]) F W VC Aa Aa (fun hL => Lo _ w (v3) (v5) (v6) (v7) p1 p3 p4 p5 _ h8 ((Ak Bn h1 (Ab h_v3)) w W).nx ((Ab h_v5) w W).nx ((Ak HY h3 (Ab h_v6)) w W).nx ((Ab h_v7) w W).nx) fun x a w F W => ?_
  obtain ⟨v14, rfl⟩ : ∃ y, y = x := ⟨x, rfl⟩
  have W : Stw ⟨Y, [], w0⟩ (Jj b2 v5 v6 p3 b1 p0 v1 v2) [row v14 46 (Rp.slice (Rp.int .i64)) x7] w := W
  refine Bj (N2 := []) (NZ2 := []) (N3 := [(some 6, b1, [.int .i64 p0.1, v1, v2]), (some 5, b2, [v5, v6, .int .i64 p3.2.2.1, .int .i64 p3.2.2.2.1, .int .i64 p3.2.2.2.2.1, .int .i64 p3.2.2.2.2.2])]) (NZ3 := []) W Aa Aa (all_cons (fun _ => (.tail _ (.head _))) (all_cons (fun h => Af (by kernel_rfl) h) Aj)) Aj ?_
  refine Ea Aa ?_
  obtain ⟨x8, h9, H⟩ := Ad H
  refine ls F W Aa (AW (v := Value.bool x8) F Vk Aa (fun w W => HF any w (v1) (v2) (v14) p0 x7 _ h9 (CW (Ab h_v1) W) (CW (Ab h_v2) W) (CW (CY 0 Aa) W))) fun a w F W => ?_
  refine Bj (N2 := [(some 13, b2, [v5, v6, .int .i64 p3.2.2.1, .int .i64 p3.2.2.2.1, .int .i64 p3.2.2.2.2.1, .int .i64 p3.2.2.2.2.2])]) (NZ2 := []) (N3 := [(some 6, b1, [.int .i64 p0.1, v1, v2]), (some 5, b2, [v5, v6, .int .i64 p3.2.2.1, .int .i64 p3.2.2.2.1, .int .i64 p3.2.2.2.2.1, .int .i64 p3.2.2.2.2.2]), (some 13, b2, [v5, v6, .int .i64 p3.2.2.1, .int .i64 p3.2.2.2.1, .int .i64 p3.2.2.2.2.1, .int .i64 p3.2.2.2.2.2])]) (NZ3 := []) W Aa Aa (all_cons (fun h => Af (by kernel_rfl) h) (all_cons (fun h => Af (by kernel_rfl) h) (all_cons (fun _ => (.head _)) Aj))) Aj ?_
  refine Bx (R := []) F Aa Aa (yC fun M Z hN hZ => Am F Aa) Aa Aa fun a F => ?_
  rcases Bool.eq_false_or_eq_true x8 with hb | hb
  ·
   have H := Di hb H
   rw [hb] at F
   clear hb
   refine GV (R := []) F Aa (Ae F Aa Aa Aa Aa) Aa Aa (yC fun M Z hN hZ => Am F Aa) Aa Aa fun a F => ?_
   refine GV (R := [13]) F Aa (Ae F Aa Aa Aa Aa) Aa Aa (yC fun M Z hN hZ => BF (cs := [v5, v6, .int .i64 p3.2.2.1, .int .i64 p3.2.2.2.1, .int .i64 p3.2.2.2.2.1, .int .i64 p3.2.2.2.2.2]) (v := Value.agg #[v5, v6, .int .i64 p3.2.2.1, .int .i64 p3.2.2.2.1, .int .i64 p3.2.2.2.2.1, .int .i64 p3.2.2.2.2.2]) F Aa (hN ((some 13), b2, [v5, v6, .int .i64 p3.2.2.1, .int .i64 p3.2.2.2.1, .int .i64 p3.2.2.2.2.1, .int .i64 p3.2.2.2.2.2]) (.tail _ (.tail _ (.head _))) Aa) TK Aa) (by kernel_rfl) Aa fun a F => ?_
   refine GV (R := []) F Aa (Ae F Aa Aa Aa Aa) Aa Aa (yC fun M Z hN hZ => Ah IZ Aa Aa Aa OP F Aa 1 Aa) Aa Aa fun a F => ?_
   refine GV (R := [13, 12]) F Aa (Ae F Aa Aa Aa Aa) Aa Aa (yC fun M Z hN hZ => BF (cs := [v5, v6, .int .i64 p3.2.2.1, .int .i64 p3.2.2.2.1, .int .i64 p3.2.2.2.2.1, .int .i64 p3.2.2.2.2.2]) (v := v6) F Aa (hN ((some 13), b2, [v5, v6, .int .i64 p3.2.2.1, .int .i64 p3.2.2.2.1, .int .i64 p3.2.2.2.2.1, .int .i64 p3.2.2.2.2.2]) (.tail _ (.tail _ (.head _))) Aa) OP Aa) (by kernel_rfl) Aa fun a F => ?_
   refine GV (R := []) F Aa (Ae F Aa Aa Aa Aa) Aa Aa (yC fun M Z hN hZ => A0 (r := Oh) (l := p3.2.1) PA Aa F Aa (Ak HY h3 (Ab h_v6))) Aa Aa fun a F => ?_
   refine GV (R := []) F Aa (Ae F Aa Aa Aa Aa) Aa Aa (yC fun M Z hN hZ => Am F Aa) Aa Aa fun a F => ?_
   refine Ea Aa ?_
   refine Jg (Ae F Aa Aa Aa Aa) ?_
   obtain ⟨x9, h10, H⟩ := Ad H
   refine CJ (Ml := []) (Zl := []) (β := Value) (rv := fun x => x) (MM := fun x => []) (ZZ := fun x => [row x 46 (Rp.slice (Rp.int .i64)) x9]) F W VC Aa Aa (fun hL => Lo _ w (v3) (v5) (v6) (Value.slice none 0 0) p1 p3 (p3.2.1.length : Int) ([] : List Int) _ h10 ((Ak Bn h1 (Ab h_v3)) w W).nx ((Ab h_v5) w W).nx ((Ak HY h3 (Ab h_v6)) w W).nx Sl.nil) fun x a w F W => ?_
   obtain ⟨v15, rfl⟩ : ∃ y, y = x := ⟨x, rfl⟩
   have W : Stw ⟨Y, [], w0⟩ (Jj b2 v5 v6 p3 b1 p0 v1 v2) [row v15 46 (Rp.slice (Rp.int .i64)) x9, row v14 46 (Rp.slice (Rp.int .i64)) x7] w := W
   refine Bj (N2 := []) (NZ2 := []) (N3 := [(some 6, b1, [.int .i64 p0.1, v1, v2]), (some 5, b2, [v5, v6, .int .i64 p3.2.2.1, .int .i64 p3.2.2.2.1, .int .i64 p3.2.2.2.2.1, .int .i64 p3.2.2.2.2.2]), (some 13, b2, [v5, v6, .int .i64 p3.2.2.1, .int .i64 p3.2.2.2.1, .int .i64 p3.2.2.2.2.1, .int .i64 p3.2.2.2.2.2])]) (NZ3 := []) W Aa Aa (all_cons (fun h => Af (by kernel_rfl) h) (all_cons (fun h => Af (by kernel_rfl) h) (all_cons (fun h => Af (by kernel_rfl) h) Aj))) Aj ?_
   refine Ea Aa ?_
   refine Jg (Ae F Aa Aa Aa Aa) ?_
   obtain ⟨x10, h11, H⟩ := Ad H
   refine ls F W Aa (AW (v := Value.bool x10) F WC Aa (fun w W => Ox any w (v15) (v4) x9 p2 _ h11 (CW (CY 0 Aa) W) (CW (Ak Bn h2 (Ab h_v4)) W))) fun a w F W => ?_
   refine Bj (N2 := []) (NZ2 := []) (N3 := [(some 6, b1, [.int .i64 p0.1, v1, v2]), (some 5, b2, [v5, v6, .int .i64 p3.2.2.1, .int .i64 p3.2.2.2.1, .int .i64 p3.2.2.2.2.1, .int .i64 p3.2.2.2.2.2]), (some 13, b2, [v5, v6, .int .i64 p3.2.2.1, .int .i64 p3.2.2.2.1, .int .i64 p3.2.2.2.2.1, .int .i64 p3.2.2.2.2.2])]) (NZ3 := []) W Aa Aa (all_cons (fun h => Af (by kernel_rfl) h) (all_cons (fun h => Af (by kernel_rfl) h) (all_cons (fun h => Af (by kernel_rfl) h) Aj))) Aj ?_
   refine Bx (R := []) F Aa Aa (yC fun M Z hN hZ => BM F Aa Aa Aa) Aa Aa fun a F => ?_
   refine Bx (R := []) F Aa Aa (yC fun M Z hN hZ => Am F Aa) Aa Aa fun a F => ?_
   rcases Bool.eq_false_or_eq_true x10 with hb | hb
   ·
    have H := Di hb H
    rw [hb] at F
    clear hb
    refine Ea Aa ?_
    refine Jg (Ae F Aa Aa Aa Aa) ?_
    obtain ⟨x11, h12, H⟩ := Ad H
    refine ls F W Aa (AW (v := Value.bool x11) F H6 Aa (fun w W => Kw any w _ h12)) fun a w F W => ?_
    refine Bj (N2 := []) (NZ2 := []) (N3 := [(some 6, b1, [.int .i64 p0.1, v1, v2]), (some 5, b2, [v5, v6, .int .i64 p3.2.2.1, .int .i64 p3.2.2.2.1, .int .i64 p3.2.2.2.2.1, .int .i64 p3.2.2.2.2.2]), (some 13, b2, [v5, v6, .int .i64 p3.2.2.1, .int .i64 p3.2.2.2.1, .int .i64 p3.2.2.2.2.1, .int .i64 p3.2.2.2.2.2])]) (NZ3 := []) W Aa Aa (all_cons (fun h => Af (by kernel_rfl) h) (all_cons (fun h => Af (by kernel_rfl) h) (all_cons (fun h => Af (by kernel_rfl) h) Aj))) Aj ?_
    refine Bx (R := []) F Aa Aa (yC fun M Z hN hZ => BM F Aa Aa Aa) Aa Aa fun a F => ?_
    refine Ea Aa ?_
    refine ls F W Aa (BR F Aa).q fun a w F W => ?_
    refine Bj (N2 := []) (NZ2 := []) (N3 := [(some 6, b1, [.int .i64 p0.1, v1, v2]), (some 5, b2, [v5, v6, .int .i64 p3.2.2.1, .int .i64 p3.2.2.2.1, .int .i64 p3.2.2.2.2.1, .int .i64 p3.2.2.2.2.2]), (some 13, b2, [v5, v6, .int .i64 p3.2.2.1, .int .i64 p3.2.2.2.1, .int .i64 p3.2.2.2.2.1, .int .i64 p3.2.2.2.2.2])]) (NZ3 := []) W Aa Aa (all_cons (fun h => Af (by kernel_rfl) h) (all_cons (fun h => Af (by kernel_rfl) h) (all_cons (fun h => Af (by kernel_rfl) h) Aj))) Aj ?_
    refine Gz (Ac ?_)
    have W := W.frontM (i := 1) Aa Aa
    have W := W.frontM (i := 1) Aa Aa
    have W := W.sub (M' := (Jj b2 v5 v6 p3 b1 p0 v1 v2)) (Z' := []) (List.Sublist.refl _) (List.nil_sublist _)
    exact ⟨_, H, F.ra Aa, W⟩
   have H := Dg (by rw [hb]; decide) H
   rw [hb] at F
   clear hb
   refine Ea Aa ?_
   refine PW F Aa Aa Aa Aa Aa Aa Aa fun a F => ?_
   refine Bj (N2 := []) (NZ2 := []) (N3 := [(some 6, b1, [.int .i64 p0.1, v1, v2]), (some 5, b2, [v5, v6, .int .i64 p3.2.2.1, .int .i64 p3.2.2.2.1, .int .i64 p3.2.2.2.2.1, .int .i64 p3.2.2.2.2.2]), (some 13, b2, [v5, v6, .int .i64 p3.2.2.1, .int .i64 p3.2.2.2.1, .int .i64 p3.2.2.2.2.1, .int .i64 p3.2.2.2.2.2])]) (NZ3 := []) W Aa Aa (all_cons (fun h => Af (by kernel_rfl) h) (all_cons (fun h => Af (by kernel_rfl) h) (all_cons (fun h => Af (by kernel_rfl) h) Aj))) Aj ?_
   refine Bx (R := []) F Aa Aa (yC fun M Z hN hZ => Cv F Aa Aa Aa) Aa Aa fun a F => ?_
   refine Ea Aa ?_
   refine ls F W Aa (BR F Aa).q fun a w F W => ?_
   refine Bj (N2 := []) (NZ2 := []) (N3 := [(some 6, b1, [.int .i64 p0.1, v1, v2]), (some 5, b2, [v5, v6, .int .i64 p3.2.2.1, .int .i64 p3.2.2.2.1, .int .i64 p3.2.2.2.2.1, .int .i64 p3.2.2.2.2.2]), (some 13, b2, [v5, v6, .int .i64 p3.2.2.1, .int .i64 p3.2.2.2.1, .int .i64 p3.2.2.2.2.1, .int .i64 p3.2.2.2.2.2])]) (NZ3 := []) W Aa Aa (all_cons (fun h => Af (by kernel_rfl) h) (all_cons (fun h => Af (by kernel_rfl) h) (all_cons (fun h => Af (by kernel_rfl) h) Aj))) Aj ?_
   refine Gz (Ac ?_)
   have W := W.frontM (i := 1) Aa Aa
   have W := W.frontM (i := 1) Aa Aa
   have W := W.sub (M' := (Jj b2 v5 v6 p3 b1 p0 v1 v2)) (Z' := []) (List.Sublist.refl _) (List.nil_sublist _)
   exact ⟨_, H, F.ra Aa, W⟩
  have H := Dg (by rw [hb]; decide) H
  rw [hb] at F
  clear hb
  iterate 6 refine DQ F Aa (Bb F Aa Aa Aa Aa Aa) Aa Aa Aa fun a F => ?_
  refine Ea Aa ?_
  refine PW F Aa Aa Aa Aa Aa Aa Aa fun a F => ?_
  refine Bj (N2 := []) (NZ2 := []) (N3 := [(some 6, b1, [.int .i64 p0.1, v1, v2]), (some 5, b2, [v5, v6, .int .i64 p3.2.2.1, .int .i64 p3.2.2.2.1, .int .i64 p3.2.2.2.2.1, .int .i64 p3.2.2.2.2.2]), (some 13, b2, [v5, v6, .int .i64 p3.2.2.1, .int .i64 p3.2.2.2.1, .int .i64 p3.2.2.2.2.1, .int .i64 p3.2.2.2.2.2])]) (NZ3 := []) W Aa Aa (all_cons (fun h => Af (by kernel_rfl) h) (all_cons (fun h => Af (by kernel_rfl) h) (all_cons (fun h => Af (by kernel_rfl) h) Aj))) Aj ?_
  refine Ea Aa ?_
  refine PW F Aa Aa Aa Aa Aa Aa Aa fun a F => ?_
  refine Bj (N2 := []) (NZ2 := []) (N3 := [(some 6, b1, [.int .i64 p0.1, v1, v2]), (some 5, b2, [v5, v6, .int .i64 p3.2.2.1, .int .i64 p3.2.2.2.1, .int .i64 p3.2.2.2.2.1, .int .i64 p3.2.2.2.2.2]), (some 13, b2, [v5, v6, .int .i64 p3.2.2.1, .int .i64 p3.2.2.2.1, .int .i64 p3.2.2.2.2.1, .int .i64 p3.2.2.2.2.2])]) (NZ3 := []) W Aa Aa (all_cons (fun h => Af (by kernel_rfl) h) (all_cons (fun h => Af (by kernel_rfl) h) (all_cons (fun h => Af (by kernel_rfl) h) Aj))) Aj ?_
  refine Bx (R := []) F Aa Aa (yC fun M Z hN hZ => Cv F Aa Aa Aa) Aa Aa fun a F => ?_
  refine Bx (R := []) F Aa Aa (yC fun M Z hN hZ => Am F Aa) Aa Aa fun a F => ?_
  refine Ea Aa ?_
  refine PW F Aa Aa Aa Aa Aa Aa Aa fun a F => ?_
  refine Bj (N2 := []) (NZ2 := []) (N3 := [(some 6, b1, [.int .i64 p0.1, v1, v2]), (some 5, b2, [v5, v6, .int .i64 p3.2.2.1, .int .i64 p3.2.2.2.1, .int .i64 p3.2.2.2.2.1, .int .i64 p3.2.2.2.2.2]), (some 13, b2, [v5, v6, .int .i64 p3.2.2.1, .int .i64 p3.2.2.2.1, .int .i64 p3.2.2.2.2.1, .int .i64 p3.2.2.2.2.2])]) (NZ3 := []) W Aa Aa (all_cons (fun h => Af (by kernel_rfl) h) (all_cons (fun h => Af (by kernel_rfl) h) (all_cons (fun h => Af (by kernel_rfl) h) Aj))) Aj ?_
  refine Bx (R := []) F Aa Aa (yC fun M Z hN hZ => Cv F Aa Aa Aa) Aa Aa fun a F => ?_
  refine Ea Aa ?_
  refine ls F W Aa (BR F Aa).q fun a w F W => ?_
  refine Bj (N2 := []) (NZ2 := []) (N3 := [(some 6, b1, [.int .i64 p0.1, v1, v2]), (some 5, b2, [v5, v6, .int .i64 p3.2.2.1, .int .i64 p3.2.2.2.1, .int .i64 p3.2.2.2.2.1, .int .i64 p3.2.2.2.2.2]), (some 13, b2, [v5, v6, .int .i64 p3.2.2.1, .int .i64 p3.2.2.2.1, .int .i64 p3.2.2.2.2.1, .int .i64 p3.2.2.2.2.2])]) (NZ3 := []) W Aa Aa (all_cons (fun h => Af (by kernel_rfl) h) (all_cons (fun h => Af (by kernel_rfl) h) (all_cons (fun h => Af (by kernel_rfl) h) Aj))) Aj ?_
  refine Gz (Ac ?_)
  have W := W.frontM (i := 1) Aa Aa
  have W := W.frontM (i := 1) Aa Aa
  have W := W.sub (M' := (Jj b2 v5 v6 p3 b1 p0 v1 v2)) (Z' := []) (List.Sublist.refl _) (List.nil_sublist _)
  exact ⟨_, H, F.ra Aa, W⟩
 rintro a w ⟨x6, hj, F, W⟩
 have hj := AA hj
 subst hj
 have H := K2
 clear G2 K2
 refine Ao ?_
 have H := AA H
 subst H
 refine AG (.inl Aa) F W Aa (Al F Aa) ?_
 exact ⟨rfl, W.done⟩
end Go.Proofs.Ythhoflfhegfmcaa
