/- The functions of layer 12, EV. Conditions: none. -/
import Derived.Test.YtfnmlmglmegamaacA7
namespace Go.Proofs.Ytfnmlmglmegamaa
open Go Go.RowKit
set_option linter.unusedVariables false
set_option linter.unusedSimpArgs false
set_option maxRecDepth 20000
theorem Pl : type_of% Try.underlying59 := Try.underlying59
theorem Qo : Et Try.prog 59 3 1 8 := Et.of Pl (by kernel_rfl) (by kernel_rfl) (by kernel_rfl) (by decide)
noncomputable def Cd (p0 : List (Int × (Int × (Int × (Int × Int × Int × Int) × (Int × Int × Int × Int)) × (List (Int × Int × Int))) × Bool)) : Int → Option (Int ⊕ (Unit ⊕ Bool))
  | x4 => (if x4 < (p0.length : Int) then (ix p0 x4).bind fun x5 => (if 10 < (x5.2.1.2.2.length : Int) then (Db).bind fun x6 => some (.inr (.inr x6)) else some (.inl (Cs (x4 + 1)))) else some (.inr (.inl ())))
noncomputable def Cg (p0 : List (Int × (Int × (Int × (Int × Int × Int × Int) × (Int × Int × Int × Int)) × (List (Int × Int × Int))) × Bool)) (p1 : List Int) : (Int × (Int × List (Bool × (Int × (Int × (Int × (Int × Int × Int × Int) × (Int × Int × Int × Int)) × (List (Int × Int × Int))) × Bool)))) → Option ((Int × (Int × List (Bool × (Int × (Int × (Int × (Int × Int × Int × Int) × (Int × Int × Int × Int)) × (List (Int × Int × Int))) × Bool)))) ⊕ ((Int × List (Bool × (Int × (Int × (Int × (Int × Int × Int × Int) × (Int × Int × Int × Int)) × (List (Int × Int × Int))) × Bool))) ⊕ Bool))
  | (x8, x9) => (if x8 < (p1.length : Int) then ((ix p1 x8).bind fun x12 => (if 0 ≤ x12 then (ix p1 x8).bind fun x13 => (if x13 < (p0.length : Int) then (ix p1 x8).bind fun x14 => (ix p1 x8).bind fun x15 => (ix p0 x15).bind fun x16 => (AP x9 x14 x16).bind fun x17 => some (decide (x17.1 ≠ 0), x17.2) else some (false, x9)) else some (false, x9))).bind fun (x10, x11) => (if x10 = true then some (.inr (.inr false)) else some (.inl (Cs (x8 + 1), x11))) else some (.inr (.inl x9)))
noncomputable def CC (p0 : List (Int × (Int × (Int × (Int × Int × Int × Int) × (Int × Int × Int × Int)) × (List (Int × Int × Int))) × Bool)) : (Int × (Int × List (Bool × (Int × (Int × (Int × (Int × Int × Int × Int) × (Int × Int × Int × Int)) × (List (Int × Int × Int))) × Bool)))) → Option ((Int × (Int × List (Bool × (Int × (Int × (Int × (Int × Int × Int × Int) × (Int × Int × Int × Int)) × (List (Int × Int × Int))) × Bool)))) ⊕ ((Int × List (Bool × (Int × (Int × (Int × (Int × Int × Int × Int) × (Int × Int × Int × Int)) × (List (Int × Int × Int))) × Bool))) ⊕ Bool))
  | (x19, x20) => (if 0 ≤ x19 then (ix p0 x19).bind fun x21 => (AP x20 x19 x21).bind fun x22 => (if x22.1 ≠ 0 then some (.inr (.inr false)) else some (.inl (Cs (x19 - 1), x22.2))) else some (.inr (.inl x20)))
noncomputable def C7 (p0 : List (Int × (Int × (Int × (Int × Int × Int × Int) × (Int × Int × Int × Int)) × (List (Int × Int × Int))) × Bool)) (p1 : List Int) (p2 : List (Int × (Int × (Int × Int × Int × Int) × (Int × Int × Int × Int)) × (List (Int × Int × Int)))) (p3 : Int) (p4 : Int) : Option Bool := (if 16 < (p0.length : Int) then some true else (if 60 < (p1.length : Int) then some true else (if 20 < (p2.length : Int) then some true else (FK p2 p3 p4).bind fun x2 => some (!x2)))).bind fun x1 => (if x1 = true then (Db).bind fun x3 => some x3 else Fu (AJ (Cd p0) 0) fun _ => Fu (AJ (Cg p0 p1) (0, BJ)) fun x7 => Fu (AJ (CC p0) (Cs ((p0.length : Int) - 1), x7)) fun x18 => ((Bv x18 (p0.length : Int)).bind fun x25 => (if x25.1 ≠ 0 then some (true, x25.2) else (AF x25.2).bind fun x26 => (FD x26 p0).bind fun x27 => some (!x27, x25.2))).bind fun (x23, x24) => (if x23 = true then some false else (Ef p2 p0 p3 p4).bind fun x28 => (B2 x24 p2 p3 p4).bind fun x29 => (B2 x29.2.2 p2 p3 p4).bind fun x30 => ((Dw x29.1 x28.1).bind fun x32 => (if (!x32) = true then some true else some (decide (x29.2.1 ≠ x28.2.2)))).bind fun x31 => (if x31 = true then some false else (if x29.2.1 ≠ 0 then ((Dw x29.1 p2).bind fun x34 => (if x34 = true then (if x30.2.1 = x29.2.1 then (if (Ai x30.2.2) = 1 then (Db).bind fun x35 => some x35 else some false) else some false) else some false)).bind fun x33 => some x33 else ((Dw x30.1 p2).bind fun x37 => (if x37 = true then (if x30.2.1 = 16 then (if (Ai x30.2.2) = 2 then (Db).bind fun x38 => some x38 else some false) else some false) else some false)).bind fun x36 => some x36))))
theorem G0 (Y : Nat → Prop) (w0 : World) (v1 : Value) (v2 : Value) (v3 : Value) (p0 : List (Int × (Int × (Int × (Int × Int × Int × Int) × (Int × Int × Int × Int)) × (List (Int × Int × Int))) × Bool)) (p1 : List Int) (p2 : List (Int × (Int × (Int × Int × Int × Int) × (Int × Int × Int × Int)) × (List (Int × Int × Int)))) (p3 : Int) (p4 : Int) (r : Bool) (H : C7 p0 p1 p2 p3 p4 = some r) (s_v1 : Sl w0 Y F2 v1 p0) (h_v2 : Sl w0 (NX []) (Rp.int .i64) v2 p1) (s_v3 : Sl w0 Y A5 v3 p2) :
    Calls Try.prog 4 #[v1, v2, v3, .int .i64 p3, .int .i64 p4] w0 fun e w' => e = .returned (.bool r) ∧ Below w0.heap.size w0 w' := by
 refine enter Try.func4 Aa Try.ntmps4 Aa fun a F => ?_
 have W := Stw.start Y w0
 obtain ⟨v4, h1, s_v1⟩ := s_v1.ex FW
 obtain ⟨v5, h2, s_v3⟩ := s_v3.ex BH
 have h_v1 := W.nx s_v1
 have h_v3 := W.nx s_v3
 unfold C7 at H
 refine vc tk 6 F W fun a w F W => ?_
 obtain ⟨o1, G1, K1⟩ := Ah H
 refine AC (fun a w => ∃ x1 : Bool, some (x1) = some o1 ∧ Fr 189 [] [(0, v1), (1, v2), (2, v3), (3, .int .i64 p3), (4, .int .i64 p4), (10, .bool false), (41, .bool x1)] a ∧ Stw ⟨Y, [], w0⟩ [] [] w) ?_ ?_
 ·
  have H := G1
  clear G1 K1
  refine vc tk 2 F W fun a w F W => ?_
  refine ls F W Aa (BQ (r := F2) (l := p0) IB Aa F Aa (A6 FW h1 (Aj h_v1))).q fun a w F W => ?_
  refine vl tk 2 F W fun a w F W => ?_
  rcases Bool.eq_false_or_eq_true (decide (16 < (p0.length : Int))) with hb | hb
  ·
   have H := BW (Ci hb) H
   rw [hb] at F
   clear hb
   refine vl tk 17 F W fun a w F W => ?_
   refine Ad ?_
   exact ⟨_, H, F.ra Aa, W⟩
  have H := BX (Ch hb) H
  rw [hb] at F
  clear hb
  refine EC F W (Ag F Aa Aa Aa Aa) Aa (Ax Aa) (Am F Aa).q fun a w F W => ?_
  refine EC F W (Ag F Aa Aa Aa Aa) Aa (Ax Aa) (BQ (r := (Rp.int .i64)) (l := p1) Pl Aa F Aa (Aj h_v2)).q fun a w F W => ?_
  refine vl tk 3 F W fun a w F W => ?_
  rcases Bool.eq_false_or_eq_true (decide (60 < (p1.length : Int))) with hb | hb
  ·
   have H := BW (Ci hb) H
   rw [hb] at F
   clear hb
   refine vl tk 12 F W fun a w F W => ?_
   refine Ad ?_
   exact ⟨_, H, F.ra Aa, W⟩
  have H := BX (Ch hb) H
  rw [hb] at F
  clear hb
  refine EC F W (Ag F Aa Aa Aa Aa) Aa (Ax Aa) (Am F Aa).q fun a w F W => ?_
  refine EC F W (Ag F Aa Aa Aa Aa) Aa (Ax Aa) (BQ (r := A5) (l := p2) E2 Aa F Aa (A6 BH h2 (Aj h_v3))).q fun a w F W => ?_
  refine vl tk 3 F W fun a w F W => ?_
  rcases Bool.eq_false_or_eq_true (decide (20 < (p2.length : Int))) with hb | hb
  ·
   have H := BW (Ci hb) H
   rw [hb] at F
   clear hb
   refine vl tk 7 F W fun a w F W => ?_
   refine Ad ?_
   exact ⟨_, H, F.ra Aa, W⟩
  have H := BX (Ch hb) H
  rw [hb] at F
  clear hb
  refine vl tk 3 F W fun a w F W => ?_
  refine Fg (Ag F Aa Aa Aa Aa) ?_
  obtain ⟨x2, h3, H⟩ := Ah H
  refine ls F W Aa (AU (v := Value.bool x2) F H5 Aa (fun w W => JS any w (v3) p2 p3 p4 _ h3 (CY (A6 BH h2 (Aj h_v3)) W))) fun a w F W => ?_
  refine vl tk 3 F W fun a w F W => ?_
  refine Ad ?_
  exact ⟨_, H, F.ra Aa, W⟩
 rintro a w ⟨x1, hj, F, W⟩
 have hj := Aw hj
 subst hj
 have H := K1
 clear G1 K1
 refine B8 F Aa H (fun F H => ?_) fun F H => ?_
 ·
  refine vc tk 2 F W fun a w F W => ?_
  obtain ⟨x3, h4, H⟩ := Ah H
  refine ls F W Aa (AU (v := Value.bool x3) F H6 Aa (fun w W => E6 any w _ h4)) fun a w F W => ?_
  refine BV tk 3 F W fun a w F W => ?_
  refine Al (Ap ?_)
  have H := Aw H
  subst H
  refine Aq (.inl Aa) F W Aa (Ak F Aa) ?_
  exact ⟨rfl, W.done⟩
 refine AH (Ad ?_)
 obtain ⟨o2, G2, K2, L2⟩ := IZ H
 refine AC (fun a w => some (Sum.inl ()) = some o2 ∧ Fr 189 [] [(0, v1), (1, v2), (2, v3), (3, .int .i64 p3), (4, .int .i64 p4), (10, .bool false)] a ∧ Stw ⟨Y, [], w0⟩ [] [] w) ?_ ?_
 ·
  have H := G2
  clear G2 K2
  refine vc tk 6 F W fun a w F W => ?_
  refine BI H (fun s a w => Fr 189 [] [(0, v1), (1, v2), (2, v3), (3, .int .i64 p3), (4, .int .i64 p4), (10, .bool false), (11, .int .i64 s)] a ∧ Stw ⟨Y, [], w0⟩ [] [] w) ⟨F.ra Aa, W⟩ fun s o a w H L3 hR => ?_
  obtain ⟨x4, rfl⟩ : ∃ x, x = s := ⟨s, rfl⟩
  obtain ⟨F, W⟩ := hR
  have F : Fr 189 [] [(0, v1), (1, v2), (2, v3), (3, .int .i64 p3), (4, .int .i64 p4), (10, .bool false), (11, .int .i64 x4)] a := F
  have W : Stw ⟨Y, [], w0⟩ [] [] w := W
  rw [Cd] at H
  refine vc tk 5 F W fun a w F W => ?_
  refine ls F W Aa (BQ (r := F2) (l := p0) IB Aa F Aa (A6 FW h1 (Aj h_v1))).q fun a w F W => ?_
  refine BV tk 3 F W fun a w F W => ?_
  refine Br F Aa H (fun F H => ?_) fun F H => ?_
  ·
   refine E8 tk 8 F W fun a w F W => ?_
   obtain ⟨x5, h5, H⟩ := Ah H
   obtain ⟨v6, h6, h7⟩ := Ck h1 h5
   have h8 : Gj v6 = [.int .i64 x5.1, .int .i64 x5.2.1.1, .int .i64 x5.2.1.2.1.1, .int .i64 x5.2.1.2.1.2.1.1, .int .i64 x5.2.1.2.1.2.1.2.1, .int .i64 x5.2.1.2.1.2.1.2.2.1, .int .i64 x5.2.1.2.1.2.1.2.2.2, .int .i64 x5.2.1.2.1.2.2.1, .int .i64 x5.2.1.2.1.2.2.2.1, .int .i64 x5.2.1.2.1.2.2.2.2.1, .int .i64 x5.2.1.2.1.2.2.2.2.2, (v6.2.1.2.2.1), .bool x5.2.2] := congrArg (fun q : Int × (Int × (Int × (Int × Int × Int × Int) × (Int × Int × Int × Int)) × (List (Int × Int × Int))) × Bool => ([.int .i64 q.1, .int .i64 q.2.1.1, .int .i64 q.2.1.2.1.1, .int .i64 q.2.1.2.1.2.1.1, .int .i64 q.2.1.2.1.2.1.2.1, .int .i64 q.2.1.2.1.2.1.2.2.1, .int .i64 q.2.1.2.1.2.1.2.2.2, .int .i64 q.2.1.2.1.2.2.1, .int .i64 q.2.1.2.1.2.2.2.1, .int .i64 q.2.1.2.1.2.2.2.2.1, .int .i64 q.2.1.2.1.2.2.2.2.2, (v6.2.1.2.2.1), .bool q.2.2] : List Value)) h7
   refine ls F W Aa (A8 (r := Hp) NN F Aa Aa (Aj h_v1) h6).q fun a w F W => ?_
   refine vl tk 2 F W fun a w F W => ?_
   refine ls F W Aa (AE (y := (v6.2.1.2.2.1)) (j := 11) (i := x4) (enc := Gj) F Aa Aa (Aj h_v1) h6 Kg NM (by rw [h8]; rfl)).q fun a w F W => ?_
   refine ls F W Aa (BQ (r := Bl) (l := x5.2.1.2.2) HC Aa F Aa (Dr (Aj h_v1) h6 (Ay.snd (Ay.fst (Ay.snd (Ay.snd Ay.here)))) (congrArg (fun q : Int × (Int × (Int × (Int × Int × Int × Int) × (Int × Int × Int × Int)) × (List (Int × Int × Int))) × Bool => q.2.1.2.2) h7))).q fun a w F W => ?_
   refine BV tk 3 F W fun a w F W => ?_
   refine Br F Aa H (fun F H => ?_) fun F H => ?_
   ·
    refine vc tk 2 F W fun a w F W => ?_
    obtain ⟨x6, h9, H⟩ := Ah H
    refine ls F W Aa (AU (v := Value.bool x6) F H6 Aa (fun w W => E6 any w _ h9)) fun a w F W => ?_
    refine BV tk 3 F W fun a w F W => ?_
    refine Al (Az ?_)
    iterate 2 refine Ap ?_
    refine Az (Ap ?_)
    have H := L3 _ H
    have H := L2 _ H
    have H := Aw H
    subst H
    refine Aq (.inl Aa) F W Aa (Ak F Aa) ?_
    exact ⟨rfl, W.done⟩
   refine AH (AV ?_)
   refine vn tk 5 F W fun a w F W => ?_
   refine Ad ?_
   exact ⟨_, H, F.ra Aa, W⟩
  refine Bz ?_
  iterate 2 refine B7 ?_
  refine BC (Ad ?_)
  have H := L3 _ H
  exact ⟨H, F.ra Aa, W⟩
 rintro a w ⟨hj, F, W⟩
 have H := K2 _ hj
 clear hj G2 K2 L2
 refine vc tk 2 F W fun a w F W => ?_
 refine AB (Ml := []) (Zl := []) (β := Nat) (rv := fun x => .pointer (some ⟨x, 0, none⟩)) (MM := fun x => []) (ZZ := fun x => [Be x Bn 16 BJ]) F W H7 Aa Aa (fun hL => GZ _ w _ Aa) fun x a w F W => ?_
 obtain ⟨b1, rfl⟩ : ∃ y, y = x := ⟨x, rfl⟩
 have W : Stw ⟨Y, [], w0⟩ [] [Be b1 Bn 16 BJ] w := W
 refine vl tk 2 F W fun a w F W => ?_
 refine Ad ?_
 obtain ⟨o4, G4, K4, L4⟩ := IZ H
 refine AC (fun a w => ∃ x7 : Int × List (Bool × (Int × (Int × (Int × (Int × Int × Int × Int) × (Int × Int × Int × Int)) × (List (Int × Int × Int))) × Bool)), some (Sum.inl x7) = some o4 ∧ Fr 189 [] [(0, v1), (2, v3), (3, .int .i64 p3), (4, .int .i64 p4), (10, .bool false), (12, .pointer (some ⟨b1, 0, none⟩))] a ∧ Stw ⟨Y, [], w0⟩ [] [Be b1 Bn 16 x7] w) ?_ ?_
 ·
  have H := G4
  clear G4 K4
  refine vc tk 6 F W fun a w F W => ?_
  refine BI H (fun s a w => Fr 189 [] [(0, v1), (1, v2), (2, v3), (3, .int .i64 p3), (4, .int .i64 p4), (10, .bool false), (12, .pointer (some ⟨b1, 0, none⟩)), (13, .int .i64 s.1)] a ∧ Stw ⟨Y, [], w0⟩ [] [Be b1 Bn 16 s.2] w) ⟨F.ra Aa, W⟩ fun s o a w H L5 hR => ?_
  obtain ⟨x8, x9⟩ := s
  obtain ⟨F, W⟩ := hR
  have F : Fr 189 [] [(0, v1), (1, v2), (2, v3), (3, .int .i64 p3), (4, .int .i64 p4), (10, .bool false), (12, .pointer (some ⟨b1, 0, none⟩)), (13, .int .i64 x8)] a := F
  have W : Stw ⟨Y, [], w0⟩ [] [Be b1 Bn 16 x9] w := W
  rw [Cg] at H
  refine vc tk 5 F W fun a w F W => ?_
  refine ls F W Aa (BQ (r := (Rp.int .i64)) (l := p1) Pl Aa F Aa (Aj h_v2)).q fun a w F W => ?_
  refine BV tk 3 F W fun a w F W => ?_
  refine Br F Aa H (fun F H => ?_) fun F H => ?_
  ·
   refine E8 tk 4 F W fun a w F W => ?_
   obtain ⟨o6, G6, K6⟩ := Ah H
   refine AC (fun a w => ∃ x10 : Bool, ∃ x11 : Int × List (Bool × (Int × (Int × (Int × (Int × Int × Int × Int) × (Int × Int × Int × Int)) × (List (Int × Int × Int))) × Bool)), some ((x10, x11)) = some o6 ∧ Fr 189 [] [(0, v1), (1, v2), (2, v3), (3, .int .i64 p3), (4, .int .i64 p4), (10, .bool false), (12, .pointer (some ⟨b1, 0, none⟩)), (13, .int .i64 x8), (94, .bool x10)] a ∧ Stw ⟨Y, [], w0⟩ [] [Be b1 Bn 16 x11] w) ?_ ?_
   ·
    have H := G6
    clear G6 K6
    obtain ⟨v7, h10, W⟩ := W.exP Dx
    refine Gn 27 W MO (by kernel_rfl) ?_
    iterate 2 refine qs F Aa (Am F Aa).q fun a F => ?_
    obtain ⟨x12, h11, H⟩ := Ah H
    refine qs F Aa (A8 (r := (Rp.int .i64)) Qo F Aa Aa (Aj h_v2) h11).q fun a F => ?_
    refine qs F Aa (AE (y := Value.int .i64 x12) (j := 0) (i := x8) F Aa Aa (Aj h_v2) h11 Fl.int.to T3 Aa).q fun a F => ?_
    refine qs F Aa (Jh F Aa Aa).q fun a F => ?_
    refine qs F Aa (Am F Aa).q fun a F => ?_
    rcases Bool.eq_false_or_eq_true (decide (0 ≤ x12)) with hb | hb
    ·
     have H := BW (Ci hb) H
     rw [hb] at F
     clear hb
     iterate 2 refine Bp F (Ag F Aa Aa Aa Aa) Aa (Ax Aa) (Am F Aa).q fun a F => ?_
     obtain ⟨x13, h12, H⟩ := Ah H
     refine Bp F (Ag F Aa Aa Aa Aa) Aa (Ax Aa) (A8 (r := (Rp.int .i64)) Qo F Aa Aa (Aj h_v2) h12).q fun a F => ?_
     refine Bp F (Ag F Aa Aa Aa Aa) Aa (Ax Aa) (AE (y := Value.int .i64 x13) (j := 0) (i := x8) F Aa Aa (Aj h_v2) h12 Fl.int.to T3 Aa).q fun a F => ?_
     refine Bp F (Ag F Aa Aa Aa Aa) Aa (Ax Aa) (Am F Aa).q fun a F => ?_
     refine Bp F (Ag F Aa Aa Aa Aa) Aa (Ax Aa) (BQ (r := F2) (l := p0) IB Aa F Aa (A6 FW h1 (Aj h_v1))).q fun a F => ?_
     refine Bp F (Ag F Aa Aa Aa Aa) Aa (Ax Aa) (Jd F Aa Aa).q fun a F => ?_
     refine qs F Aa (B0 F Aa Aa Aa).q fun a F => ?_
     refine qs F Aa (Am F Aa).q fun a F => ?_
     rcases Bool.eq_false_or_eq_true (decide (x13 < (p0.length : Int))) with hb | hb
     ·
      have H := BW (Ci hb) H
      rw [hb] at F
      clear hb
      iterate 3 refine Bp F (Ag F Aa Aa Aa Aa) Aa (Ax Aa) (Am F Aa).q fun a F => ?_
      obtain ⟨x14, h13, H⟩ := Ah H
      refine Bp F (Ag F Aa Aa Aa Aa) Aa (Ax Aa) (A8 (r := (Rp.int .i64)) Qo F Aa Aa (Aj h_v2) h13).q fun a F => ?_
      refine Bp F (Ag F Aa Aa Aa Aa) Aa (Ax Aa) (AE (y := Value.int .i64 x14) (j := 0) (i := x8) F Aa Aa (Aj h_v2) h13 Fl.int.to T3 Aa).q fun a F => ?_
      iterate 3 refine Bp F (Ag F Aa Aa Aa Aa) Aa (Ax Aa) (Am F Aa).q fun a F => ?_
      obtain ⟨x15, h14, H⟩ := Ah H
      refine Bp F (Ag F Aa Aa Aa Aa) Aa (Ax Aa) (A8 (r := (Rp.int .i64)) Qo F Aa Aa (Aj h_v2) h14).q fun a F => ?_
      refine Bp F (Ag F Aa Aa Aa Aa) Aa (Ax Aa) (AE (y := Value.int .i64 x15) (j := 0) (i := x8) F Aa Aa (Aj h_v2) h14 Fl.int.to T3 Aa).q fun a F => ?_
      obtain ⟨x16, h15, H⟩ := Ah H
      obtain ⟨v8, h16, h17⟩ := Ck h1 h15
      have h18 : Gj v8 = [.int .i64 x16.1, .int .i64 x16.2.1.1, .int .i64 x16.2.1.2.1.1, .int .i64 x16.2.1.2.1.2.1.1, .int .i64 x16.2.1.2.1.2.1.2.1, .int .i64 x16.2.1.2.1.2.1.2.2.1, .int .i64 x16.2.1.2.1.2.1.2.2.2, .int .i64 x16.2.1.2.1.2.2.1, .int .i64 x16.2.1.2.1.2.2.2.1, .int .i64 x16.2.1.2.1.2.2.2.2.1, .int .i64 x16.2.1.2.1.2.2.2.2.2, (v8.2.1.2.2.1), .bool x16.2.2] := congrArg (fun q : Int × (Int × (Int × (Int × Int × Int × Int) × (Int × Int × Int × Int)) × (List (Int × Int × Int))) × Bool => ([.int .i64 q.1, .int .i64 q.2.1.1, .int .i64 q.2.1.2.1.1, .int .i64 q.2.1.2.1.2.1.1, .int .i64 q.2.1.2.1.2.1.2.1, .int .i64 q.2.1.2.1.2.1.2.2.1, .int .i64 q.2.1.2.1.2.1.2.2.2, .int .i64 q.2.1.2.1.2.2.1, .int .i64 q.2.1.2.1.2.2.2.1, .int .i64 q.2.1.2.1.2.2.2.2.1, .int .i64 q.2.1.2.1.2.2.2.2.2, (v8.2.1.2.2.1), .bool q.2.2] : List Value)) h17
      refine Bp F (Ag F Aa Aa Aa Aa) Aa (Ax Aa) (A8 (r := Hp) NN F Aa Aa (Aj h_v1) h16).q fun a F => ?_
      refine Bp F (Ag F Aa Aa Aa Aa) Aa (Ax Aa) (AE (y := Value.agg #[.int .i64 x16.1, .int .i64 x16.2.1.1, .int .i64 x16.2.1.2.1.1, .int .i64 x16.2.1.2.1.2.1.1, .int .i64 x16.2.1.2.1.2.1.2.1, .int .i64 x16.2.1.2.1.2.1.2.2.1, .int .i64 x16.2.1.2.1.2.1.2.2.2, .int .i64 x16.2.1.2.1.2.2.1, .int .i64 x16.2.1.2.1.2.2.2.1, .int .i64 x16.2.1.2.1.2.2.2.2.1, .int .i64 x16.2.1.2.1.2.2.2.2.2, (v8.2.1.2.2.1), .bool x16.2.2]) (j := 0) (i := x15) (enc := Gj) F Aa Aa (Aj h_v1) h16 Kg I3 (by rw [h18]; rfl)).q fun a F => ?_
      refine AM fun w W => ?_
      refine Fg (Ag F Aa Aa Aa Aa) ?_
      obtain ⟨x17, h19, H⟩ := Ah H
      have W := W.hideP Dx h10
      refine AB (Ml := []) (Zl := [Be b1 Bn 16 x9]) (β := Unit) (rv := fun x => .int .i64 x17.1) (MM := fun x => []) (ZZ := fun x => [Be b1 Bn 16 x17.2]) F W H8 Aa Aa (fun hL => Cr _ _ w b1 ((v8.2.1.2.2.1)) x9 x14 x16 _ h19 (Sl.at_ (W.old s_v1) h16 (Ay.snd (Ay.fst (Ay.snd (Ay.snd Ay.here)))) (congrArg (fun q : Int × (Int × (Int × (Int × Int × Int × Int) × (Int × Int × Int × Int)) × (List (Int × Int × Int))) × Bool => q.2.1.2.2) h17)) hL) fun x a w F W => ?_
      have W : Stw ⟨Y, [], w0⟩ [] [Be b1 Bn 16 x17.2] w := W
      refine vl tk 3 F W fun a w F W => ?_
      refine Ad ?_
      exact ⟨_, _, H, F.ra Aa, W⟩
     have H := BX (Ch hb) H
     rw [hb] at F
     clear hb
     iterate 12 refine AL F (AA F Aa Aa Aa Aa Aa) Aa Aa fun a F => ?_
     refine AM fun w W => ?_
     refine vl tk 4 F W fun a w F W => ?_
     refine Ad ?_
     have W := W.hideP Dx h10
     exact ⟨_, _, H, F.ra Aa, W⟩
    have H := BX (Ch hb) H
    rw [hb] at F
    clear hb
    iterate 7 refine AL F (AA F Aa Aa Aa Aa Aa) Aa Aa fun a F => ?_
    refine qs F Aa (AQ F Aa Aa Aa).q fun a F => ?_
    refine qs F Aa (Am F Aa).q fun a F => ?_
    iterate 12 refine AL F (AA F Aa Aa Aa Aa Aa) Aa Aa fun a F => ?_
    refine AM fun w W => ?_
    refine vl tk 4 F W fun a w F W => ?_
    refine Ad ?_
    have W := W.hideP Dx h10
    exact ⟨_, _, H, F.ra Aa, W⟩
   rintro a w ⟨x10, x11, hj, F, W⟩
   have hj := Aw hj
   subst hj
   have H := K6
   clear G6 K6
   refine B8 F Aa H (fun F H => ?_) fun F H => ?_
   ·
    refine vc tk 5 F W fun a w F W => ?_
    refine Al (Az ?_)
    iterate 2 refine Ap ?_
    refine Az (Ap ?_)
    have H := L5 _ H
    have H := L4 _ H
    have H := Aw H
    subst H
    refine Aq (.inl Aa) F W Aa (Ak F Aa) ?_
    exact ⟨rfl, W.done⟩
   refine AH (AV ?_)
   refine vn tk 5 F W fun a w F W => ?_
   refine Ad ?_
   exact ⟨_, H, F.ra Aa, W⟩
  refine Bz ?_
  iterate 2 refine B7 ?_
  refine BC (Ad ?_)
  have H := L5 _ H
  exact ⟨_, H, F.ra Aa, W⟩
 rintro a w ⟨x7, hj, F, W⟩
 have H := K4 _ hj
 clear hj G4 K4 L4
 obtain ⟨o7, G7, K7, L7⟩ := IZ H
 refine AC (fun a w => ∃ x18 : Int × List (Bool × (Int × (Int × (Int × (Int × Int × Int × Int) × (Int × Int × Int × Int)) × (List (Int × Int × Int))) × Bool)), some (Sum.inl x18) = some o7 ∧ Fr 189 [] [(0, v1), (2, v3), (3, .int .i64 p3), (4, .int .i64 p4), (10, .bool false), (12, .pointer (some ⟨b1, 0, none⟩))] a ∧ Stw ⟨Y, [], w0⟩ [] [Be b1 Bn 16 x18] w) ?_ ?_
 ·
  have H := G7
  clear G7 K7
  refine vc tk 3 F W fun a w F W => ?_
  refine ls F W Aa (BQ (r := F2) (l := p0) IB Aa F Aa (A6 FW h1 (Aj h_v1))).q fun a w F W => ?_
  refine BV tk 5 F W fun a w F W => ?_
  refine BI H (fun s a w => Fr 189 [] [(0, v1), (2, v3), (3, .int .i64 p3), (4, .int .i64 p4), (10, .bool false), (12, .pointer (some ⟨b1, 0, none⟩)), (14, .int .i64 s.1)] a ∧ Stw ⟨Y, [], w0⟩ [] [Be b1 Bn 16 s.2] w) ⟨F.ra Aa, W⟩ fun s o a w H L8 hR => ?_
  obtain ⟨x19, x20⟩ := s
  obtain ⟨F, W⟩ := hR
  have F : Fr 189 [] [(0, v1), (2, v3), (3, .int .i64 p3), (4, .int .i64 p4), (10, .bool false), (12, .pointer (some ⟨b1, 0, none⟩)), (14, .int .i64 x19)] a := F
  have W : Stw ⟨Y, [], w0⟩ [] [Be b1 Bn 16 x20] w := W
  rw [CC] at H
  refine vc tk 7 F W fun a w F W => ?_
  refine Br F Aa H (fun F H => ?_) fun F H => ?_
  ·
   refine E8 tk 5 F W fun a w F W => ?_
   obtain ⟨v9, h20, W⟩ := W.exP Dx
   refine vc tk 5 F W fun a w F W => ?_
   obtain ⟨x21, h21, H⟩ := Ah H
   obtain ⟨v10, h22, h23⟩ := Ck h1 h21
   have h24 : Gj v10 = [.int .i64 x21.1, .int .i64 x21.2.1.1, .int .i64 x21.2.1.2.1.1, .int .i64 x21.2.1.2.1.2.1.1, .int .i64 x21.2.1.2.1.2.1.2.1, .int .i64 x21.2.1.2.1.2.1.2.2.1, .int .i64 x21.2.1.2.1.2.1.2.2.2, .int .i64 x21.2.1.2.1.2.2.1, .int .i64 x21.2.1.2.1.2.2.2.1, .int .i64 x21.2.1.2.1.2.2.2.2.1, .int .i64 x21.2.1.2.1.2.2.2.2.2, (v10.2.1.2.2.1), .bool x21.2.2] := congrArg (fun q : Int × (Int × (Int × (Int × Int × Int × Int) × (Int × Int × Int × Int)) × (List (Int × Int × Int))) × Bool => ([.int .i64 q.1, .int .i64 q.2.1.1, .int .i64 q.2.1.2.1.1, .int .i64 q.2.1.2.1.2.1.1, .int .i64 q.2.1.2.1.2.1.2.1, .int .i64 q.2.1.2.1.2.1.2.2.1, .int .i64 q.2.1.2.1.2.1.2.2.2, .int .i64 q.2.1.2.1.2.2.1, .int .i64 q.2.1.2.1.2.2.2.1, .int .i64 q.2.1.2.1.2.2.2.2.1, .int .i64 q.2.1.2.1.2.2.2.2.2, (v10.2.1.2.2.1), .bool q.2.2] : List Value)) h23
   refine ls F W Aa (A8 (r := Hp) NN F Aa Aa (Aj h_v1) h22).q fun a w F W => ?_
   refine ls F W Aa (AE (y := Value.agg #[.int .i64 x21.1, .int .i64 x21.2.1.1, .int .i64 x21.2.1.2.1.1, .int .i64 x21.2.1.2.1.2.1.1, .int .i64 x21.2.1.2.1.2.1.2.1, .int .i64 x21.2.1.2.1.2.1.2.2.1, .int .i64 x21.2.1.2.1.2.1.2.2.2, .int .i64 x21.2.1.2.1.2.2.1, .int .i64 x21.2.1.2.1.2.2.2.1, .int .i64 x21.2.1.2.1.2.2.2.2.1, .int .i64 x21.2.1.2.1.2.2.2.2.2, (v10.2.1.2.2.1), .bool x21.2.2]) (j := 0) (i := x19) (enc := Gj) F Aa Aa (Aj h_v1) h22 Kg I3 (by rw [h24]; rfl)).q fun a w F W => ?_
   obtain ⟨x22, h25, H⟩ := Ah H
   have W := W.hideP Dx h20
   refine AB (Ml := []) (Zl := [Be b1 Bn 16 x20]) (β := Unit) (rv := fun x => .int .i64 x22.1) (MM := fun x => []) (ZZ := fun x => [Be b1 Bn 16 x22.2]) F W H8 Aa Aa (fun hL => Cr _ _ w b1 ((v10.2.1.2.2.1)) x20 x19 x21 _ h25 (Sl.at_ (W.old s_v1) h22 (Ay.snd (Ay.fst (Ay.snd (Ay.snd Ay.here)))) (congrArg (fun q : Int × (Int × (Int × (Int × Int × Int × Int) × (Int × Int × Int × Int)) × (List (Int × Int × Int))) × Bool => q.2.1.2.2) h23)) hL) fun x a w F W => ?_
   have W : Stw ⟨Y, [], w0⟩ [] [Be b1 Bn 16 x22.2] w := W
   refine BV tk 3 F W fun a w F W => ?_
   refine Br F Aa H (fun F H => ?_) fun F H => ?_
   ·
    refine vc tk 5 F W fun a w F W => ?_
    refine Al (Az ?_)
    iterate 2 refine Ap ?_
    refine Az (Ap ?_)
    have H := L8 _ H
    have H := L7 _ H
    have H := Aw H
    subst H
    refine Aq (.inl Aa) F W Aa (Ak F Aa) ?_
    exact ⟨rfl, W.done⟩
   refine AH (AV ?_)
   refine vn tk 5 F W fun a w F W => ?_
   refine Ad ?_
   exact ⟨_, H, F.ra Aa, W⟩
  refine Bz ?_
  iterate 2 refine B7 ?_
  refine BC (Ad ?_)
  have H := L8 _ H
  exact ⟨_, H, F.ra Aa, W⟩
 rintro a w ⟨x18, hj, F, W⟩
 have H := K7 _ hj
 clear hj G7 K7 L7
 refine HJ ?_
 obtain ⟨o9, G9, K9⟩ := Ah H
 refine AC (fun a w => ∃ x23 : Bool, ∃ x24 : Int × List (Bool × (Int × (Int × (Int × (Int × Int × Int × Int) × (Int × Int × Int × Int)) × (List (Int × Int × Int))) × Bool)), some ((x23, x24)) = some o9 ∧ Fr 189 [] [(0, v1), (2, v3), (3, .int .i64 p3), (4, .int .i64 p4), (10, .bool false), (12, .pointer (some ⟨b1, 0, none⟩)), (121, .bool x23)] a ∧ Stw ⟨Y, [], w0⟩ [] [Be b1 Bn 16 x24] w) ?_ ?_
 ·
  have H := G9
  clear G9 K9
  refine vc tk 3 F W fun a w F W => ?_
  refine ls F W Aa (BQ (r := F2) (l := p0) IB Aa F Aa (A6 FW h1 (Aj h_v1))).q fun a w F W => ?_
  obtain ⟨x25, h26, H⟩ := Ah H
  refine AB (Ml := []) (Zl := [Be b1 Bn 16 x18]) (β := Unit) (rv := fun x => .int .i64 x25.1) (MM := fun x => []) (ZZ := fun x => [Be b1 Bn 16 x25.2]) F W Rk Aa Aa (fun hL => D4 _ _ w b1 x18 (p0.length : Int) _ h26 hL) fun x a w F W => ?_
  have W : Stw ⟨Y, [], w0⟩ [] [Be b1 Bn 16 x25.2] w := W
  refine vl tk 2 F W fun a w F W => ?_
  rcases Bool.eq_false_or_eq_true (decide (x25.1 ≠ 0)) with hb | hb
  ·
   have H := BW (Ci hb) H
   rw [hb] at F
   clear hb
   refine vl tk 7 F W fun a w F W => ?_
   refine Ad ?_
   exact ⟨_, _, H, F.ra Aa, W⟩
  have H := BX (Ch hb) H
  rw [hb] at F
  clear hb
  refine EC F W (Ag F Aa Aa Aa Aa) Aa (Ax Aa) (Am F Aa).q fun a w F W => ?_
  refine Fg (Ag F Aa Aa Aa Aa) ?_
  obtain ⟨x26, h27, H⟩ := Ah H
  refine AB (Ml := []) (Zl := [Be b1 Bn 16 x25.2]) (β := Value) (rv := fun x => x) (MM := fun x => []) (ZZ := fun x => [Be b1 Bn 16 x25.2, row x 39 F2 x26]) F W QP Aa Aa (fun hL => Dp _ _ w b1 x25.2 _ h27 hL) fun x a w F W => ?_
  obtain ⟨v11, rfl⟩ : ∃ y, y = x := ⟨x, rfl⟩
  have W : Stw ⟨Y, [], w0⟩ [] [Be b1 Bn 16 x25.2, row v11 39 F2 x26] w := W
  refine EC F W (Ag F Aa Aa Aa Aa) Aa (Ax Aa) (Am F Aa).q fun a w F W => ?_
  refine Fg (Ag F Aa Aa Aa Aa) ?_
  obtain ⟨x27, h28, H⟩ := Ah H
  refine ls F W Aa (AU (v := Value.bool x27) F RS Aa (fun w W => KF any w (v11) (v1) x26 p0 _ h28 (CY (A4 1 Aa) W) (CY (A6 FW h1 (Aj h_v1)) W))) fun a w F W => ?_
  refine vl tk 3 F W fun a w F W => ?_
  refine Ad ?_
  have W := W.sub (M' := []) (Z' := [Be b1 Bn 16 x25.2]) (List.Sublist.refl _) (List.Sublist.cons_cons _ (List.nil_sublist _))
  exact ⟨_, _, H, F.ra Aa, W⟩
 rintro a w ⟨x23, x24, hj, F, W⟩
 have hj := Aw hj
 subst hj
 have H := K9
 clear G9 K9
 refine B8 F Aa H (fun F H => ?_) fun F H => ?_
 ·
  refine vc tk 5 F W fun a w F W => ?_
  refine Al (Ap ?_)
  have H := Aw H
  subst H
  refine Aq (.inl Aa) F W Aa (Ak F Aa) ?_
  exact ⟨rfl, W.done⟩
 refine E8 tk 8 F W fun a w F W => ?_
 obtain ⟨x28, h29, H⟩ := Ah H
 refine AB (Ml := []) (Zl := []) (β := Value) (rv := fun x => .tuple #[x, .int .i64 x28.2.1, .int .i64 x28.2.2]) (MM := fun x => []) (ZZ := fun x => [BD x A5 x28.1]) F W Rr Aa Aa (fun hL => G8 _ w (v3) (v1) p2 p0 p3 p4 _ h29 (Sl.hide BH h2 (W.old s_v3)) (Sl.hide FW h1 (W.old s_v1))) fun x a w F W => ?_
 obtain ⟨v12, rfl⟩ : ∃ y, y = x := ⟨x, rfl⟩
 have W : Stw ⟨Y, [], w0⟩ [] [BD v12 A5 x28.1, Be b1 Bn 16 x24] w := W
 refine ls F W Aa (Am F Aa).q fun a w F W => ?_
 refine ls F W Aa (BE (v := v12) F Aa Aa).q fun a w F W => ?_
 refine ls F W Aa (BE (v := Value.int .i64 x28.2.1) F Aa Aa).q fun a w F W => ?_
 refine ls F W Aa (BE (v := Value.int .i64 x28.2.2) F Aa Aa).q fun a w F W => ?_
 refine BV tk 11 F W fun a w F W => ?_
 obtain ⟨x29, h30, H⟩ := Ah H
 have W := W.frontZ (i := 1) Aa Aa
 refine AB (Ml := []) (Zl := [Be b1 Bn 16 x24]) (β := Value) (rv := fun x => .tuple #[x, .int .i64 x29.2.1]) (MM := fun x => []) (ZZ := fun x => [Be b1 Bn 16 x29.2.2, BD x A5 x29.1]) F W Rb Aa Aa (fun hL => DY _ _ w b1 (v3) x24 p2 p3 p4 _ h30 (Sl.hide BH h2 (W.old s_v3)) hL) fun x a w F W => ?_
 obtain ⟨v13, rfl⟩ : ∃ y, y = x := ⟨x, rfl⟩
 have W : Stw ⟨Y, [], w0⟩ [] [Be b1 Bn 16 x29.2.2, BD v13 A5 x29.1, BD v12 A5 x28.1] w := W
 refine ls F W Aa (Am F Aa).q fun a w F W => ?_
 refine ls F W Aa (BE (v := v13) F Aa Aa).q fun a w F W => ?_
 refine ls F W Aa (BE (v := Value.int .i64 x29.2.1) F Aa Aa).q fun a w F W => ?_
 refine BV tk 10 F W fun a w F W => ?_
 obtain ⟨x30, h31, H⟩ := Ah H
 refine AB (Ml := []) (Zl := [Be b1 Bn 16 x29.2.2]) (β := Value) (rv := fun x => .tuple #[x, .int .i64 x30.2.1]) (MM := fun x => []) (ZZ := fun x => [Be b1 Bn 16 x30.2.2, BD x A5 x30.1]) F W Rb Aa Aa (fun hL => DY _ _ w b1 (v3) x29.2.2 p2 p3 p4 _ h31 (Sl.hide BH h2 (W.old s_v3)) hL) fun x a w F W => ?_
 obtain ⟨v14, rfl⟩ : ∃ y, y = x := ⟨x, rfl⟩
 have W : Stw ⟨Y, [], w0⟩ [] [Be b1 Bn 16 x30.2.2, BD v14 A5 x30.1, BD v13 A5 x29.1, BD v12 A5 x28.1] w := W
 refine ls F W Aa (Am F Aa).q fun a w F W => ?_
 refine ls F W Aa (BE (v := v14) F Aa Aa).q fun a w F W => ?_
 refine ls F W Aa (BE (v := Value.int .i64 x30.2.1) F Aa Aa).q fun a w F W => ?_
 refine BV tk 5 F W fun a w F W => ?_
 obtain ⟨o10, G10, K10⟩ := Ah H
 refine AC (fun a w => ∃ x31 : Bool, some (x31) = some o10 ∧ Fr 189 [] [(2, v3), (10, .bool false), (12, .pointer (some ⟨b1, 0, none⟩)), (18, v13), (19, .int .i64 x29.2.1), (20, v14), (21, .int .i64 x30.2.1), (155, .bool x31)] a ∧ Stw ⟨Y, [], w0⟩ [] [BD v13 A5 x29.1, BD v14 A5 x30.1, Be b1 Bn 16 x30.2.2] w) ?_ ?_
 ·
  have H := G10
  clear G10 K10
  refine vc tk 3 F W fun a w F W => ?_
  obtain ⟨x32, h32, H⟩ := Ah H
  refine ls F W Aa (AU (v := Value.bool x32) F QW Aa (fun w W => F8 any w (v13) (v12) x29.1 x28.1 _ h32 (CY (Ds 2 Aa) W) (CY (Ds 3 Aa) W))) fun a w F W => ?_
  refine vl tk 2 F W fun a w F W => ?_
  rcases Bool.eq_false_or_eq_true (!x32) with hb | hb
  ·
   have H := BW hb H
   rw [hb] at F
   clear hb
   refine vl tk 5 F W fun a w F W => ?_
   refine Ad ?_
   have W := W.frontZ (i := 1) Aa Aa
   have W := W.frontZ (i := 2) Aa Aa
   have W := W.sub (M' := []) (Z' := [BD v13 A5 x29.1, BD v14 A5 x30.1, Be b1 Bn 16 x30.2.2]) (List.Sublist.refl _) (List.Sublist.cons_cons _ (List.Sublist.cons_cons _ (List.Sublist.cons_cons _ (List.nil_sublist _))))
   exact ⟨_, H, F.ra Aa, W⟩
  have H := BX (by rw [hb]; decide) H
  rw [hb] at F
  clear hb
  refine vl tk 5 F W fun a w F W => ?_
  refine Ad ?_
  have W := W.frontZ (i := 1) Aa Aa
  have W := W.frontZ (i := 2) Aa Aa
  have W := W.sub (M' := []) (Z' := [BD v13 A5 x29.1, BD v14 A5 x30.1, Be b1 Bn 16 x30.2.2]) (List.Sublist.refl _) (List.Sublist.cons_cons _ (List.Sublist.cons_cons _ (List.Sublist.cons_cons _ (List.nil_sublist _))))
  exact ⟨_, H, F.ra Aa, W⟩
 rintro a w ⟨x31, hj, F, W⟩
 have hj := Aw hj
 subst hj
 have H := K10
 clear G10 K10
 refine B8 F Aa H (fun F H => ?_) fun F H => ?_
 ·
  refine vc tk 5 F W fun a w F W => ?_
  refine Al (Ap ?_)
  have H := Aw H
  subst H
  refine Aq (.inl Aa) F W Aa (Ak F Aa) ?_
  exact ⟨rfl, W.done⟩
 refine E8 tk 9 F W fun a w F W => ?_
 refine Br F Aa H (fun F H => ?_) fun F H => ?_
 ·
  obtain ⟨o11, G11, K11⟩ := Ah H
  refine AC (fun a w => ∃ x33 : Bool, some (x33) = some o11 ∧ Fr 189 [] [(2, v3), (10, .bool x33), (12, .pointer (some ⟨b1, 0, none⟩)), (20, v14), (21, .int .i64 x30.2.1)] a ∧ Stw ⟨Y, [], w0⟩ [] [BD v14 A5 x30.1, Be b1 Bn 16 x30.2.2] w) ?_ ?_
  ·
   have H := G11
   clear G11 K11
   refine vc tk 3 F W fun a w F W => ?_
   obtain ⟨x34, h33, H⟩ := Ah H
   refine ls F W Aa (AU (v := Value.bool x34) F QW Aa (fun w W => F8 any w (v13) (v3) x29.1 p2 _ h33 (CY (Ds 0 Aa) W) (CY (A6 BH h2 (Aj h_v3)) W))) fun a w F W => ?_
   refine ls F W Aa (Am F Aa).q fun a w F W => ?_
   rcases Bool.eq_false_or_eq_true x34 with hb | hb
   ·
    have H := BW hb H
    rw [hb] at F
    clear hb
    refine vl tk 5 F W fun a w F W => ?_
    rcases Bool.eq_false_or_eq_true (decide (x30.2.1 = x29.2.1)) with hb | hb
    ·
     have H := BW (Ci hb) H
     rw [hb] at F
     clear hb
     refine EC F W (Ag F Aa Aa Aa Aa) Aa (Ax Aa) (Am F Aa).q fun a w F W => ?_
     refine Fg (Ag F Aa Aa Aa Aa) ?_
     have W := W.frontZ (i := 2) Aa Aa
     refine AB (Ml := []) (Zl := [Be b1 Bn 16 x30.2.2]) (β := Unit) (rv := fun x => .int .i64 (Ai x30.2.2)) (MM := fun x => []) (ZZ := fun x => [Be b1 Bn 16 x30.2.2]) F W N4 Aa Aa (fun hL => Bj _ _ w b1 x30.2.2 _ Aa hL) fun x a w F W => ?_
     have W : Stw ⟨Y, [], w0⟩ [] [Be b1 Bn 16 x30.2.2, BD v13 A5 x29.1, BD v14 A5 x30.1] w := W
     refine vl tk 3 F W fun a w F W => ?_
     rcases Bool.eq_false_or_eq_true (decide ((Ai x30.2.2) = 1)) with hb | hb
     ·
      have H := BW (Ci hb) H
      rw [hb] at F
      clear hb
      refine Fg (Ag F Aa Aa Aa Aa) ?_
      obtain ⟨x35, h34, H⟩ := Ah H
      refine ls F W Aa (AU (v := Value.bool x35) F H6 Aa (fun w W => E6 any w _ h34)) fun a w F W => ?_
      refine vl tk 3 F W fun a w F W => ?_
      refine Ad ?_
      have W := W.frontZ (i := 2) Aa Aa
      have W := W.sub (M' := []) (Z' := [BD v14 A5 x30.1, Be b1 Bn 16 x30.2.2]) (List.Sublist.refl _) (List.Sublist.cons_cons _ (List.Sublist.cons_cons _ (List.nil_sublist _)))
      exact ⟨_, H, F.ra Aa, W⟩
     have H := BX (Ch hb) H
     rw [hb] at F
     clear hb
     refine vl tk 4 F W fun a w F W => ?_
     refine Ad ?_
     have W := W.frontZ (i := 2) Aa Aa
     have W := W.sub (M' := []) (Z' := [BD v14 A5 x30.1, Be b1 Bn 16 x30.2.2]) (List.Sublist.refl _) (List.Sublist.cons_cons _ (List.Sublist.cons_cons _ (List.nil_sublist _)))
     exact ⟨_, H, F.ra Aa, W⟩
    have H := BX (Ch hb) H
    rw [hb] at F
    clear hb
    refine vl tk 9 F W fun a w F W => ?_
    refine Ad ?_
    have W := W.frontZ (i := 2) Aa Aa
    have W := W.frontZ (i := 2) Aa Aa
    have W := W.sub (M' := []) (Z' := [BD v14 A5 x30.1, Be b1 Bn 16 x30.2.2]) (List.Sublist.refl _) (List.Sublist.cons_cons _ (List.Sublist.cons_cons _ (List.nil_sublist _)))
    exact ⟨_, H, F.ra Aa, W⟩
   have H := BX (by rw [hb]; decide) H
   rw [hb] at F
   clear hb
   refine vl tk 14 F W fun a w F W => ?_
   refine Ad ?_
   have W := W.frontZ (i := 2) Aa Aa
   have W := W.frontZ (i := 2) Aa Aa
   have W := W.sub (M' := []) (Z' := [BD v14 A5 x30.1, Be b1 Bn 16 x30.2.2]) (List.Sublist.refl _) (List.Sublist.cons_cons _ (List.Sublist.cons_cons _ (List.nil_sublist _)))
   exact ⟨_, H, F.ra Aa, W⟩
  rintro a w ⟨x33, hj, F, W⟩
  have hj := Aw hj
  subst hj
  have H := K11
  clear G11 K11
  refine Al (Ap ?_)
  have H := Aw H
  subst H
  refine Aq (.inl Aa) F W Aa (Ak F Aa) ?_
  exact ⟨rfl, W.done⟩
 refine AH (Ad ?_)
 obtain ⟨o12, G12, K12⟩ := Ah H
 refine AC (fun a w => ∃ x36 : Bool, some (x36) = some o12 ∧ Fr 189 [] [(10, .bool x36)] a ∧ Stw ⟨Y, [], w0⟩ [] [Be b1 Bn 16 x30.2.2] w) ?_ ?_
 ·
  have H := G12
  clear G12 K12
  refine vc tk 3 F W fun a w F W => ?_
  obtain ⟨x37, h35, H⟩ := Ah H
  refine ls F W Aa (AU (v := Value.bool x37) F QW Aa (fun w W => F8 any w (v14) (v3) x30.1 p2 _ h35 (CY (Ds 1 Aa) W) (CY (A6 BH h2 (Aj h_v3)) W))) fun a w F W => ?_
  refine ls F W Aa (Am F Aa).q fun a w F W => ?_
  rcases Bool.eq_false_or_eq_true x37 with hb | hb
  ·
   have H := BW hb H
   rw [hb] at F
   clear hb
   refine vl tk 4 F W fun a w F W => ?_
   rcases Bool.eq_false_or_eq_true (decide (x30.2.1 = 16)) with hb | hb
   ·
    have H := BW (Ci hb) H
    rw [hb] at F
    clear hb
    refine EC F W (Ag F Aa Aa Aa Aa) Aa (Ax Aa) (Am F Aa).q fun a w F W => ?_
    refine Fg (Ag F Aa Aa Aa Aa) ?_
    have W := W.frontZ (i := 2) Aa Aa
    refine AB (Ml := []) (Zl := [Be b1 Bn 16 x30.2.2]) (β := Unit) (rv := fun x => .int .i64 (Ai x30.2.2)) (MM := fun x => []) (ZZ := fun x => [Be b1 Bn 16 x30.2.2]) F W N4 Aa Aa (fun hL => Bj _ _ w b1 x30.2.2 _ Aa hL) fun x a w F W => ?_
    have W : Stw ⟨Y, [], w0⟩ [] [Be b1 Bn 16 x30.2.2, BD v13 A5 x29.1, BD v14 A5 x30.1] w := W
    refine vl tk 3 F W fun a w F W => ?_
    rcases Bool.eq_false_or_eq_true (decide ((Ai x30.2.2) = 2)) with hb | hb
    ·
     have H := BW (Ci hb) H
     rw [hb] at F
     clear hb
     refine Fg (Ag F Aa Aa Aa Aa) ?_
     obtain ⟨x38, h36, H⟩ := Ah H
     refine ls F W Aa (AU (v := Value.bool x38) F H6 Aa (fun w W => E6 any w _ h36)) fun a w F W => ?_
     refine vl tk 3 F W fun a w F W => ?_
     refine Ad ?_
     have W := W.sub (M' := []) (Z' := [Be b1 Bn 16 x30.2.2]) (List.Sublist.refl _) (List.Sublist.cons_cons _ (List.nil_sublist _))
     exact ⟨_, H, F.ra Aa, W⟩
    have H := BX (Ch hb) H
    rw [hb] at F
    clear hb
    refine vl tk 4 F W fun a w F W => ?_
    refine Ad ?_
    have W := W.sub (M' := []) (Z' := [Be b1 Bn 16 x30.2.2]) (List.Sublist.refl _) (List.Sublist.cons_cons _ (List.nil_sublist _))
    exact ⟨_, H, F.ra Aa, W⟩
   have H := BX (Ch hb) H
   rw [hb] at F
   clear hb
   refine vl tk 9 F W fun a w F W => ?_
   refine Ad ?_
   have W := W.frontZ (i := 2) Aa Aa
   have W := W.sub (M' := []) (Z' := [Be b1 Bn 16 x30.2.2]) (List.Sublist.refl _) (List.Sublist.cons_cons _ (List.nil_sublist _))
   exact ⟨_, H, F.ra Aa, W⟩
  have H := BX (by rw [hb]; decide) H
  rw [hb] at F
  clear hb
  refine vl tk 13 F W fun a w F W => ?_
  refine Ad ?_
  have W := W.frontZ (i := 2) Aa Aa
  have W := W.sub (M' := []) (Z' := [Be b1 Bn 16 x30.2.2]) (List.Sublist.refl _) (List.Sublist.cons_cons _ (List.nil_sublist _))
  exact ⟨_, H, F.ra Aa, W⟩
 rintro a w ⟨x36, hj, F, W⟩
 have hj := Aw hj
 subst hj
 have H := K12
 clear G12 K12
 refine Al ?_
 have H := Aw H
 subst H
 refine Aq (.inl Aa) F W Aa (Ak F Aa) ?_
 exact ⟨rfl, W.done⟩
end Go.Proofs.Ytfnmlmglmegamaa
