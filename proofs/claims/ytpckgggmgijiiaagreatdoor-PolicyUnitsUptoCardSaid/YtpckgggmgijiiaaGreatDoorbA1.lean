/- The functions of layer 27, IC. Conditions: none. -/
import Derived.Test.YtpckgggmgijiiaaGreatDoorbA0
namespace Go.Proofs.YtpckgggmgijiiaaGreatDoor
open Go Go.RowKit
set_option linter.unusedVariables false
set_option linter.unusedSimpArgs false
set_option maxRecDepth 20000
theorem YZ : Has Tryz.prog 35 := CF Tryz.func35
noncomputable def Dt (fRec : Tr27 → Option Int) (p0 : Tr27) : (Int × Int) → Option ((Int × Int) ⊕ Int)
  | (x3, x4) => (if x4 < (p0.un.2.2.2.2.length : Int) then ((ix p0.un.2.2.2.2 x4).bind fun x6 => (fRec (Tr27.of (x6.un.1, Tr24.of (x6.un.2.1.un.1, x6.un.2.1.un.2.1, x6.un.2.1.un.2.2.1, x6.un.2.1.un.2.2.2), x6.un.2.2.1, x6.un.2.2.2.1, x6.un.2.2.2.2))).bind fun x7 => (if p0.un.1 = 3 then some (Ic (AO (x3 * x7))) else some x3).bind fun x8 => (if p0.un.1 = 4 then some (Ic (AO (x8 + x7))) else some x8).bind fun x9 => (if (decide (p0.un.1 = 5) && decide (x9 < x7)) = true then some x7 else some x9)).bind fun x5 => some (.inl (x5, AO (x4 + 1))) else some (.inr x3))
noncomputable def E3 (fRec : Tr27 → Option Int) (p0 : Tr27) : Option Int := (if (decide (p0.un.1 < 3) || decide (5 < p0.un.1)) = true then some 1 else (if p0.un.1 = 3 then some 1 else some 0).bind fun x1 => (AY (Dt fRec p0) (x1, 0)).bind fun x2 => some x2)
noncomputable def DG : Nat → Tr27 → Option Int
  | 0 => fun _ => none
  | n + 1 => E3 (DG n)
noncomputable def N1 (p0 : Tr27) : Option Int := GI fun n => DG n p0
theorem PX (fRec : Tr27 → Option Int) (ih : ∀ (Y : Nat → Prop) (w0 : World) (v1 : Value) (v2 : Value) (p0 : Tr27) (r : Int) (H : fRec p0 = some r) (h_v1 : Sl w0 (NX []) DL v1 p0.un.2.1.un.2.2.2) (h_v2 : Sl w0 (NX []) GL v2 p0.un.2.2.2.2), Calls Tryz.prog 16 #[.agg #[.int .i64 p0.un.1, .int .i64 p0.un.2.1.un.1, .int .i64 p0.un.2.1.un.2.1, .int .i64 p0.un.2.1.un.2.2.1, v1, .int .i64 p0.un.2.2.1, .int .i64 p0.un.2.2.2.1, v2]] w0 fun e w' => e = .returned (.int .i64 r) ∧ Below w0.heap.size w0 w') (Y : Nat → Prop) (w0 : World) (v1 : Value) (v2 : Value) (p0 : Tr27) (r : Int) (H : E3 fRec p0 = some r) (h_v1 : Sl w0 (NX []) DL v1 p0.un.2.1.un.2.2.2) (h_v2 : Sl w0 (NX []) GL v2 p0.un.2.2.2.2) :
    Calls Tryz.prog 16 #[.agg #[.int .i64 p0.un.1, .int .i64 p0.un.2.1.un.1, .int .i64 p0.un.2.1.un.2.1, .int .i64 p0.un.2.1.un.2.2.1, v1, .int .i64 p0.un.2.2.1, .int .i64 p0.un.2.2.2.1, v2]] w0 fun e w' => e = .returned (.int .i64 r) ∧ Below w0.heap.size w0 w' := by
 refine enter Tryz.func16 Aa Tryz.ntmps16 Aa fun a F => ?_
 have W := Stw.start Y w0
 obtain ⟨v3, h1, h_v1⟩ := h_v1.ex EI
 obtain ⟨v4, h2, h_v2⟩ := h_v2.ex Iw
 unfold E3 at H
 refine vc tk 2 F W fun a w F W => ?_
 refine CU (cs := (Fu p0 v1 v2)) F W Aa Aa Aa fun b1 a w F W => ?_
 refine Ck tk 4 F W fun a w F W => ?_
 refine Ay (fun a w => Fr 54 [] [(1, .pointer (some ⟨b1, 0, none⟩)), (2, .int .i64 0), (13, .bool (decide (p0.un.1 < 3) || decide (5 < p0.un.1)))] a ∧ Stw ⟨Y, [], w0⟩ (GP b1 p0 v1 v2) [] w) ?_ ?_
 ·
  refine Fj tk 5 [0] F W (ai fun a w F W => ?_)
  rcases Bool.eq_false_or_eq_true (decide (p0.un.1 < 3)) with hb0 | hb0
  ·
   rw [hb0] at F
   refine vl tk 5 F W fun a w F W => ?_
   refine Ac ?_
   exact ⟨F.re ⟨rfl, Aa, (DE (by try rw [hb0]; all_goals simp only [DF])), trivial⟩, W⟩
  rw [hb0] at F
  refine GH tk 5 [0] F W (ai fun a w F W => ?_)
  refine Ac ?_
  exact ⟨F.re ⟨rfl, Aa, (DE (by try rw [hb0]; all_goals simp only [DF])), trivial⟩, W⟩
 rintro a w ⟨F, W⟩
 refine Cv F Aa H (fun F H => ?_) fun F H => ?_
 ·
  refine vc tk 5 F W fun a w F W => ?_
  refine Ak (Ax ?_)
  have H := AA H
  subst H
  refine Au (.inl Aa) F W Aa (Am F Aa) ?_
  exact ⟨rfl, W.done⟩
 refine FJ tk 7 F W fun a w F W => ?_
 obtain ⟨o1, G1, K1⟩ := Ad H
 refine Ay (fun a w => ∃ x1 : Int, some (x1) = some o1 ∧ Fr 54 [] [(1, .pointer (some ⟨b1, 0, none⟩)), (2, .int .i64 0), (3, .int .i64 x1)] a ∧ Stw ⟨Y, [], w0⟩ (GP b1 p0 v1 v2) [] w) ?_ ?_
 ·
  have H := G1
  clear G1 K1
  refine Fj tk 7 [0] F W (ai fun a w F W => ?_)
  refine BI F Aa H (fun F H => ?_) fun F H => ?_
  ·
   refine vc tk 3 F W fun a w F W => ?_
   refine Ac ?_
   exact ⟨_, H, F.ra Aa, W⟩
  refine AW (Ac ?_)
  exact ⟨_, H, F.ra Aa, W⟩
 rintro a w ⟨x1, hj, F, W⟩
 have hj := AA hj
 subst hj
 have H := K1
 clear G1 K1
 obtain ⟨o2, G2, K2⟩ := Ad H
 refine Ay (fun a w => ∃ x2 : Int, some (x2) = some o2 ∧ Fr 54 [] [(2, .int .i64 0), (3, .int .i64 x2)] a ∧ Stw ⟨Y, [], w0⟩ (GP b1 p0 v1 v2) [] w) ?_ ?_
 ·
  have H := G2
  clear G2 K2
  refine vc tk 6 F W fun a w F W => ?_
  refine BE H (fun s a w => Fr 54 [] [(1, .pointer (some ⟨b1, 0, none⟩)), (2, .int .i64 0), (3, .int .i64 s.1), (4, .int .i64 s.2)] a ∧ Stw ⟨Y, [], w0⟩ (GP b1 p0 v1 v2) [] w) ⟨F.ra Aa, W⟩ fun s o a w H L3 hR => ?_
  obtain ⟨x3, x4⟩ := s
  obtain ⟨F, W⟩ := hR
  have F : Fr 54 [] [(1, .pointer (some ⟨b1, 0, none⟩)), (2, .int .i64 0), (3, .int .i64 x3), (4, .int .i64 x4)] a := F
  have W : Stw ⟨Y, [], w0⟩ (GP b1 p0 v1 v2) [] w := W
  rw [Dt] at H
  refine Fj tk 6 [0] F W (ai fun a w F W => ?_)
  refine ls F W Aa (CP (r := GL) (l := p0.un.2.2.2.2) SE Aa F Aa (Aq Iw h2 (Af h_v2))).q fun a w F W => ?_
  refine Ck tk 3 F W fun a w F W => ?_
  refine BI F Aa H (fun F H => ?_) fun F H => ?_
  ·
   refine AW (Ac ?_)
   obtain ⟨o4, G4, K4⟩ := Ad H
   refine Ay (fun a w => ∃ x5 : Int, some (x5) = some o4 ∧ Fr 54 [] [(1, .pointer (some ⟨b1, 0, none⟩)), (2, .int .i64 0), (3, .int .i64 x5), (4, .int .i64 x4)] a ∧ Stw ⟨Y, [], w0⟩ (GP b1 p0 v1 v2) [] w) ?_ ?_
   ·
    have H := G4
    clear G4 K4
    refine Fj tk 6 [0] F W (ai fun a w F W => ?_)
    obtain ⟨x6, h3, H⟩ := Ad H
    obtain ⟨v5, h4, h5⟩ := DH h2 h3
    have h6 : Mi v5 = [.int .i64 x6.un.1, .int .i64 x6.un.2.1.un.1, .int .i64 x6.un.2.1.un.2.1, .int .i64 x6.un.2.1.un.2.2.1, (v5.2.1.2.2.2.1), .int .i64 x6.un.2.2.1, .int .i64 x6.un.2.2.2.1, (v5.2.2.2.2.1)] := congrArg (fun q : Tr27 => ([.int .i64 q.un.1, .int .i64 q.un.2.1.un.1, .int .i64 q.un.2.1.un.2.1, .int .i64 q.un.2.1.un.2.2.1, (v5.2.1.2.2.2.1), .int .i64 q.un.2.2.1, .int .i64 q.un.2.2.2.1, (v5.2.2.2.2.1)] : List Value)) h5
    refine ls F W Aa (Av (r := Qb) U8 F Aa Aa (Af h_v2) h4).q fun a w F W => ?_
    refine ls F W Aa (Al (y := Value.agg #[.int .i64 x6.un.1, .int .i64 x6.un.2.1.un.1, .int .i64 x6.un.2.1.un.2.1, .int .i64 x6.un.2.1.un.2.2.1, (v5.2.1.2.2.2.1), .int .i64 x6.un.2.2.1, .int .i64 x6.un.2.2.2.1, (v5.2.2.2.2.1)]) (j := 0) (i := x4) (enc := Mi) F Aa Aa (Af h_v2) h4 Sy SQ (by rw [h6]; rfl)).q fun a w F W => ?_
    obtain ⟨x7, h7, H⟩ := Ad H
    refine ls F W Aa (AL (v := Value.int .i64 x7) F YQ Aa (fun w W => ih any w ((v5.2.1.2.2.2.1)) ((v5.2.2.2.2.1)) (Tr27.of (x6.un.1, Tr24.of (x6.un.2.1.un.1, x6.un.2.1.un.2.1, x6.un.2.1.un.2.2.1, x6.un.2.1.un.2.2.2), x6.un.2.2.1, x6.un.2.2.2.1, x6.un.2.2.2.2)) _ h7 (Ef (BD (Af h_v2) h4 (Ah.snd (Ah.fst (Ah.snd (Ah.snd (Ah.snd Ah.here))))) (congrArg (fun q : Tr27 => q.un.2.1.un.2.2.2) h5)) W) (Ef (BD (Af h_v2) h4 (Ah.snd (Ah.snd (Ah.snd (Ah.snd Ah.here)))) (congrArg (fun q : Tr27 => q.un.2.2.2.2) h5)) W))) fun a w F W => ?_
    refine vl tk 2 F W fun a w F W => ?_
    refine Ac ?_
    obtain ⟨o5, G5, K5⟩ := Ad H
    refine Ay (fun a w => ∃ x8 : Int, some (x8) = some o5 ∧ Fr 54 [] [(1, .pointer (some ⟨b1, 0, none⟩)), (2, .int .i64 0), (3, .int .i64 x8), (4, .int .i64 x4), (5, .int .i64 x7)] a ∧ Stw ⟨Y, [], w0⟩ (GP b1 p0 v1 v2) [] w) ?_ ?_
    ·
     have H := G5
     clear G5 K5
     refine Fj tk 7 [0] F W (ai fun a w F W => ?_)
     refine BI F Aa H (fun F H => ?_) fun F H => ?_
     ·
      refine vc tk 4 F W fun a w F W => ?_
      refine ls F W Aa (AL (v := Value.int .i64 (Ic (AO (x3 * x7)))) F YZ Aa (fun w W => Pa any w (AO (x3 * x7)) _ Aa)) fun a w F W => ?_
      refine vl tk 2 F W fun a w F W => ?_
      refine Ac ?_
      exact ⟨_, H, F.ra Aa, W⟩
     refine AW (Ac ?_)
     exact ⟨_, H, F.ra Aa, W⟩
    rintro a w ⟨x8, hj, F, W⟩
    have hj := AA hj
    subst hj
    have H := K5
    clear G5 K5
    obtain ⟨o6, G6, K6⟩ := Ad H
    refine Ay (fun a w => ∃ x9 : Int, some (x9) = some o6 ∧ Fr 54 [] [(1, .pointer (some ⟨b1, 0, none⟩)), (2, .int .i64 0), (3, .int .i64 x9), (4, .int .i64 x4), (5, .int .i64 x7)] a ∧ Stw ⟨Y, [], w0⟩ (GP b1 p0 v1 v2) [] w) ?_ ?_
    ·
     have H := G6
     clear G6 K6
     refine Fj tk 7 [0] F W (ai fun a w F W => ?_)
     refine BI F Aa H (fun F H => ?_) fun F H => ?_
     ·
      refine vc tk 4 F W fun a w F W => ?_
      refine ls F W Aa (AL (v := Value.int .i64 (Ic (AO (x8 + x7)))) F YZ Aa (fun w W => Pa any w (AO (x8 + x7)) _ Aa)) fun a w F W => ?_
      refine vl tk 2 F W fun a w F W => ?_
      refine Ac ?_
      exact ⟨_, H, F.ra Aa, W⟩
     refine AW (Ac ?_)
     exact ⟨_, H, F.ra Aa, W⟩
    rintro a w ⟨x9, hj, F, W⟩
    have hj := AA hj
    subst hj
    have H := K6
    clear G6 K6
    refine Ay (fun a w => Fr 54 [] [(1, .pointer (some ⟨b1, 0, none⟩)), (2, .int .i64 0), (3, .int .i64 x9), (4, .int .i64 x4), (5, .int .i64 x7), (51, .bool (decide (p0.un.1 = 5) && decide (x9 < x7)))] a ∧ Stw ⟨Y, [], w0⟩ (GP b1 p0 v1 v2) [] w) ?_ ?_
    ·
     refine Fj tk 5 [0] F W (ai fun a w F W => ?_)
     rcases Bool.eq_false_or_eq_true (decide (p0.un.1 = 5)) with hb0 | hb0
     ·
      rw [hb0] at F
      refine vl tk 5 F W fun a w F W => ?_
      refine Ac ?_
      exact ⟨F.re ⟨rfl, Aa, Aa, Aa, Aa, (DE (by try rw [hb0]; all_goals simp only [DF])), trivial⟩, W⟩
     rw [hb0] at F
     refine vl tk 5 F W fun a w F W => ?_
     refine Ac ?_
     exact ⟨F.re ⟨rfl, Aa, Aa, Aa, Aa, (DE (by try rw [hb0]; all_goals simp only [DF])), trivial⟩, W⟩
    rintro a w ⟨F, W⟩
    refine Cv F Aa H (fun F H => ?_) fun F H => ?_
    ·
     refine vc tk 4 F W fun a w F W => ?_
     refine AG (Ac ?_)
     exact ⟨_, H, F.ra Aa, W⟩
    refine AW (AG (Ac ?_))
    exact ⟨_, H, F.ra Aa, W⟩
   rintro a w ⟨x5, hj, F, W⟩
   have hj := AA hj
   subst hj
   have H := K4
   clear G4 K4
   refine vc tk 5 F W fun a w F W => ?_
   refine Ac ?_
   exact ⟨_, H, F.ra Aa, W⟩
  refine Br ?_
  iterate 2 refine BK ?_
  refine Bo (Ac ?_)
  have H := L3 _ H
  exact ⟨_, H, F.ra Aa, W⟩
 rintro a w ⟨x2, hj, F, W⟩
 have hj := AA hj
 subst hj
 have H := K2
 clear G2 K2
 refine vc tk 6 F W fun a w F W => ?_
 refine Ak ?_
 have H := AA H
 subst H
 refine Au (.inl Aa) F W Aa (Am F Aa) ?_
 exact ⟨rfl, W.done⟩
theorem QJ : ∀ (n : Nat) (Y : Nat → Prop) (w0 : World) (v1 : Value) (v2 : Value) (p0 : Tr27) (r : Int) (H : DG n p0 = some r) (h_v1 : Sl w0 (NX []) DL v1 p0.un.2.1.un.2.2.2) (h_v2 : Sl w0 (NX []) GL v2 p0.un.2.2.2.2), Calls Tryz.prog 16 #[.agg #[.int .i64 p0.un.1, .int .i64 p0.un.2.1.un.1, .int .i64 p0.un.2.1.un.2.1, .int .i64 p0.un.2.1.un.2.2.1, v1, .int .i64 p0.un.2.2.1, .int .i64 p0.un.2.2.2.1, v2]] w0 fun e w' => e = .returned (.int .i64 r) ∧ Below w0.heap.size w0 w' := by
  intro n
  induction n with
  | zero => intro Y w0 v1 v2 p0 r H; exact nomatch H
  | succ n ih => intro Y w0 v1 v2 p0 r H h_v1 h_v2; exact PX (DG n) ih Y w0 v1 v2 p0 r H h_v1 h_v2
theorem RI (Y : Nat → Prop) (w0 : World) (v1 : Value) (v2 : Value) (p0 : Tr27) (r : Int) (H : N1 p0 = some r) (h_v1 : Sl w0 (NX []) DL v1 p0.un.2.1.un.2.2.2) (h_v2 : Sl w0 (NX []) GL v2 p0.un.2.2.2.2) :
    Calls Tryz.prog 16 #[.agg #[.int .i64 p0.un.1, .int .i64 p0.un.2.1.un.1, .int .i64 p0.un.2.1.un.2.1, .int .i64 p0.un.2.1.un.2.2.1, v1, .int .i64 p0.un.2.2.1, .int .i64 p0.un.2.2.2.1, v2]] w0 fun e w' => e = .returned (.int .i64 r) ∧ Below w0.heap.size w0 w' := by
  obtain ⟨n, H⟩ := CO H
  exact QJ n Y w0 v1 v2 p0 r H h_v1 h_v2
noncomputable def Gt (p0 : Tr27) : Option Bool := ((Of (Tr27.of (p0.un.1, Tr24.of (p0.un.2.1.un.1, p0.un.2.1.un.2.1, p0.un.2.1.un.2.2.1, p0.un.2.1.un.2.2.2), p0.un.2.2.1, p0.un.2.2.2.1, p0.un.2.2.2.2))).bind fun x2 => (if x2 = true then (OD (Tr27.of (p0.un.1, Tr24.of (p0.un.2.1.un.1, p0.un.2.1.un.2.1, p0.un.2.1.un.2.2.1, p0.un.2.1.un.2.2.2), p0.un.2.2.1, p0.un.2.2.2.1, p0.un.2.2.2.2))).bind fun x3 => (if x3 ≤ 8 then (Nr (Tr27.of (p0.un.1, Tr24.of (p0.un.2.1.un.1, p0.un.2.1.un.2.1, p0.un.2.1.un.2.2.1, p0.un.2.1.un.2.2.2), p0.un.2.2.1, p0.un.2.2.2.1, p0.un.2.2.2.2))).bind fun x4 => (if x4 ≤ 64 then (N1 (Tr27.of (p0.un.1, Tr24.of (p0.un.2.1.un.1, p0.un.2.1.un.2.1, p0.un.2.1.un.2.2.1, p0.un.2.1.un.2.2.2), p0.un.2.2.1, p0.un.2.2.2.1, p0.un.2.2.2.2))).bind fun x5 => some (decide (x5 ≤ 64)) else some false) else some false) else some false)).bind fun x1 => some x1
theorem Ke (Y : Nat → Prop) (w0 : World) (v1 : Value) (v2 : Value) (p0 : Tr27) (r : Bool) (H : Gt p0 = some r) (h_v1 : Sl w0 (NX []) DL v1 p0.un.2.1.un.2.2.2) (h_v2 : Sl w0 (NX []) GL v2 p0.un.2.2.2.2) :
    Calls Tryz.prog 10 #[.agg #[.int .i64 p0.un.1, .int .i64 p0.un.2.1.un.1, .int .i64 p0.un.2.1.un.2.1, .int .i64 p0.un.2.1.un.2.2.1, v1, .int .i64 p0.un.2.2.1, .int .i64 p0.un.2.2.2.1, v2]] w0 fun e w' => e = .returned (.bool r) ∧ Below w0.heap.size w0 w' := by
 refine enter Tryz.func10 Aa Tryz.ntmps10 Aa fun a F => ?_
 have W := Stw.start Y w0
 obtain ⟨v3, h1, h_v1⟩ := h_v1.ex EI
 obtain ⟨v4, h2, h_v2⟩ := h_v2.ex Iw
 unfold Gt at H
 refine vc tk 2 F W fun a w F W => ?_
 refine CU (cs := (Fu p0 v1 v2)) F W Aa Aa Aa fun b1 a w F W => ?_
 refine vl tk 2 F W fun a w F W => ?_
 refine Ac ?_
 obtain ⟨o1, G1, K1⟩ := Ad H
 refine Ay (fun a w => ∃ x1 : Bool, some (x1) = some o1 ∧ Fr 20 [] [(2, .bool x1)] a ∧ Stw ⟨Y, [], w0⟩ (GP b1 p0 v1 v2) [] w) ?_ ?_
 ·
  have H := G1
  clear G1 K1
  refine Fj tk 2 [0] F W (ai fun a w F W => ?_)
  obtain ⟨x2, h3, H⟩ := Ad H
  refine ls F W Aa (AL (v := Value.bool x2) F YU Aa (fun w W => RH any w (v1) (v2) (Tr27.of (p0.un.1, Tr24.of (p0.un.2.1.un.1, p0.un.2.1.un.2.1, p0.un.2.1.un.2.2.1, p0.un.2.1.un.2.2.2), p0.un.2.2.1, p0.un.2.2.2.1, p0.un.2.2.2.2)) _ h3 (Ef (Aq EI h1 (Af h_v1)) W) (Ef (Aq Iw h2 (Af h_v2)) W))) fun a w F W => ?_
  refine ls F W Aa (An F Aa).q fun a w F W => ?_
  rcases Bool.eq_false_or_eq_true x2 with hb | hb
  ·
   have H := B7 hb H
   rw [hb] at F
   clear hb
   refine GQ F W (Ab F Aa Aa Aa Aa) Aa (Ao Aa) (Bv (v := Value.agg #[.int .i64 p0.un.1, .int .i64 p0.un.2.1.un.1, .int .i64 p0.un.2.1.un.2.1, .int .i64 p0.un.2.1.un.2.2.1, v1, .int .i64 p0.un.2.2.1, .int .i64 p0.un.2.2.2.1, v2]) 0 F Aa Aa SQ Aa).q fun a w F W => ?_
   refine HJ (Ab F Aa Aa Aa Aa) ?_
   obtain ⟨x3, h4, H⟩ := Ad H
   refine ls F W Aa (AL (v := Value.int .i64 x3) F X0 Aa (fun w W => Rs any w (v1) (v2) (Tr27.of (p0.un.1, Tr24.of (p0.un.2.1.un.1, p0.un.2.1.un.2.1, p0.un.2.1.un.2.2.1, p0.un.2.1.un.2.2.2), p0.un.2.2.1, p0.un.2.2.2.1, p0.un.2.2.2.2)) _ h4 (Ef (Aq EI h1 (Af h_v1)) W) (Ef (Aq Iw h2 (Af h_v2)) W))) fun a w F W => ?_
   refine vl tk 3 F W fun a w F W => ?_
   rcases Bool.eq_false_or_eq_true (decide (x3 ≤ 8)) with hb | hb
   ·
    have H := B7 (CE hb) H
    rw [hb] at F
    clear hb
    refine GQ F W (Ab F Aa Aa Aa Aa) Aa (Ao Aa) (Bv (v := Value.agg #[.int .i64 p0.un.1, .int .i64 p0.un.2.1.un.1, .int .i64 p0.un.2.1.un.2.1, .int .i64 p0.un.2.1.un.2.2.1, v1, .int .i64 p0.un.2.2.1, .int .i64 p0.un.2.2.2.1, v2]) 0 F Aa Aa SQ Aa).q fun a w F W => ?_
    refine HJ (Ab F Aa Aa Aa Aa) ?_
    obtain ⟨x4, h5, H⟩ := Ad H
    refine ls F W Aa (AL (v := Value.int .i64 x4) F Yv Aa (fun w W => Rk any w (v1) (v2) (Tr27.of (p0.un.1, Tr24.of (p0.un.2.1.un.1, p0.un.2.1.un.2.1, p0.un.2.1.un.2.2.1, p0.un.2.1.un.2.2.2), p0.un.2.2.1, p0.un.2.2.2.1, p0.un.2.2.2.2)) _ h5 (Ef (Aq EI h1 (Af h_v1)) W) (Ef (Aq Iw h2 (Af h_v2)) W))) fun a w F W => ?_
    refine vl tk 3 F W fun a w F W => ?_
    rcases Bool.eq_false_or_eq_true (decide (x4 ≤ 64)) with hb | hb
    ·
     have H := B7 (CE hb) H
     rw [hb] at F
     clear hb
     refine GQ F W (Ab F Aa Aa Aa Aa) Aa (Ao Aa) (Bv (v := Value.agg #[.int .i64 p0.un.1, .int .i64 p0.un.2.1.un.1, .int .i64 p0.un.2.1.un.2.1, .int .i64 p0.un.2.1.un.2.2.1, v1, .int .i64 p0.un.2.2.1, .int .i64 p0.un.2.2.2.1, v2]) 0 F Aa Aa SQ Aa).q fun a w F W => ?_
     refine HJ (Ab F Aa Aa Aa Aa) ?_
     obtain ⟨x5, h6, H⟩ := Ad H
     refine ls F W Aa (AL (v := Value.int .i64 x5) F YQ Aa (fun w W => RI any w (v1) (v2) (Tr27.of (p0.un.1, Tr24.of (p0.un.2.1.un.1, p0.un.2.1.un.2.1, p0.un.2.1.un.2.2.1, p0.un.2.1.un.2.2.2), p0.un.2.2.1, p0.un.2.2.2.1, p0.un.2.2.2.2)) _ h6 (Ef (Aq EI h1 (Af h_v1)) W) (Ef (Aq Iw h2 (Af h_v2)) W))) fun a w F W => ?_
     refine vl tk 4 F W fun a w F W => ?_
     refine Ac ?_
     exact ⟨_, H, F.ra Aa, W⟩
    have H := B6 (CG hb) H
    rw [hb] at F
    clear hb
    refine vl tk 6 F W fun a w F W => ?_
    refine Ac ?_
    exact ⟨_, H, F.ra Aa, W⟩
   have H := B6 (CG hb) H
   rw [hb] at F
   clear hb
   refine vl tk 11 F W fun a w F W => ?_
   refine Ac ?_
   exact ⟨_, H, F.ra Aa, W⟩
  have H := B6 (by rw [hb]; decide) H
  rw [hb] at F
  clear hb
  refine vl tk 16 F W fun a w F W => ?_
  refine Ac ?_
  exact ⟨_, H, F.ra Aa, W⟩
 rintro a w ⟨x1, hj, F, W⟩
 have hj := AA hj
 subst hj
 have H := K1
 clear G1 K1
 refine Ak ?_
 have H := AA H
 subst H
 refine Au (.inl Aa) F W Aa (Am F Aa) ?_
 exact ⟨rfl, W.done⟩
theorem Ye : type_of% Tryz.underlying29 := Tryz.underlying29
theorem Kr : type_of% Tryz.underlying35 := Tryz.underlying35
theorem II : type_of% Tryz.underlying37 := Tryz.underlying37
theorem Qg : type_of% Tryz.underlying63 := Tryz.underlying63
theorem R9 : type_of% Tryz.underlying126 := Tryz.underlying126
theorem XK : Has Tryz.prog 10 := CF Tryz.func10
theorem Q8 : Bt Tryz.prog 37 [.int .i64 0, .int .i64 0, .int .i64 0, .int .i64 0, .slice none 0 0, .int .i64 0, .int .i64 0, .slice none 0 0] [(0, 1), (1, 4), (5, 1), (6, 1), (7, 1)] := ⟨⟨.agg #[.int .i64 0, .int .i64 0, .int .i64 0, .int .i64 0, .slice none 0 0, .int .i64 0, .int .i64 0, .slice none 0 0], by kernel_rfl, rfl⟩, ⟨_, II, fun w => by kernel_rfl⟩⟩
theorem Mk : (Tryz.prog.info? 37).bind (·.zero) = some (.agg #[.int .i64 0, .int .i64 0, .int .i64 0, .int .i64 0, .slice none 0 0, .int .i64 0, .int .i64 0, .slice none 0 0]) := by kernel_rfl
inductive Tr34 : Type where
  | mk : Int → Int → Int → (List Tr34) → Tr34
def Tr34.un : Tr34 → Int × Int × Int × List Tr34
  | .mk a0 a1 a2 a3 => (a0, a1, a2, a3)
abbrev Tr34.of (p : Int × Int × Int × List Tr34) : Tr34 := .mk p.1 p.2.1 p.2.2.1 p.2.2.2
def Tr34.cnt : Tr34 → Nat
  | .mk _ _ _ a3 => 1 + ((a3.map Tr34.cnt).sum)
inductive Tr37 : Type where
  | mk : Int → Tr34 → Int → Int → (List Tr37) → Tr37
def Tr37.un : Tr37 → Int × Tr34 × Int × Int × List Tr37
  | .mk a0 a1 a2 a3 a4 => (a0, a1, a2, a3, a4)
abbrev Tr37.of (p : Int × Tr34 × Int × Int × List Tr37) : Tr37 := .mk p.1 p.2.1 p.2.2.1 p.2.2.2.1 p.2.2.2.2
def Tr37.cnt : Tr37 → Nat
  | .mk _ a1 _ _ a4 => 1 + (a1.cnt + (a4.map Tr37.cnt).sum)
abbrev VF (r : Rp Tr34) : Rp (Int × Int × Int × List Tr34) := (Rp.pair (Rp.int .i64) (Rp.pair (Rp.int .i64) (Rp.pair (Rp.int .i64) (Rp.slice r))))
theorem U0 : Kt VF := (Kt.pair (Kt.const _) (Kt.pair (Kt.const _) (Kt.pair (Kt.const _) Kt.hole)))
abbrev CA : Rp Tr34 := Rp.knot VF Tr34.un U0
theorem Ij {w : World} {A : Nat → Prop} {cs : List Value} {a : Tr34} : CA.rep w A cs a ↔ (VF CA).rep w A cs a.un := HX U0
abbrev VO (r : Rp Tr37) : Rp (Int × Tr34 × Int × Int × List Tr37) := (Rp.pair (Rp.int .i64) (Rp.pair CA (Rp.pair (Rp.int .i64) (Rp.pair (Rp.int .i64) (Rp.slice r)))))
theorem V9 : Kt VO := (Kt.pair (Kt.const _) (Kt.pair (Kt.const _) (Kt.pair (Kt.const _) (Kt.pair (Kt.const _) Kt.hole))))
abbrev C9 : Rp Tr37 := Rp.knot VO Tr37.un V9
theorem IJ {w : World} {A : Nat → Prop} {cs : List Value} {a : Tr37} : C9.rep w A cs a ↔ (VO C9).rep w A cs a.un := HX V9
theorem OO : Et Tryz.prog 35 37 8 96 := Et.of Kr (by kernel_rfl) (by kernel_rfl) (by kernel_rfl) (by decide)
theorem IF : Ty Tryz.prog 37 true 8 := ⟨by kernel_rfl, by kernel_rfl⟩
theorem WB : ∃ z, (Tryz.prog.info? 29).bind (·.zero) = some z ∧ z.cells = [.int .i64 0, .int .i64 0, .int .i64 0, .int .i64 0].toArray := ⟨.agg #[.int .i64 0, .int .i64 0, .int .i64 0, .int .i64 0], by kernel_rfl, rfl⟩
theorem RE : Ar Tryz.prog 29 4 3 1 := ⟨Ye, by kernel_rfl⟩
abbrev JB : Rp (Int × Int × Int × (Value × List Tr34)) := (Rp.pair (Rp.int .i64) (Rp.pair (Rp.int .i64) (Rp.pair (Rp.int .i64) (Rp.vsl CA))))
abbrev XQ (p : Int × Int × Int × (Value × List Tr34)) : Tr34 := (Tr34.of (p.1, p.2.1, p.2.2.1, p.2.2.2.2))
theorem CD : Ex CA JB XQ := (Ex.knot U0 (of := Tr34.of) (fun _ => rfl) (fun x => by cases x; rfl) (Ex.pair Ex.rfl' (Ex.pair Ex.rfl' (Ex.pair Ex.rfl' Ex.sliceF))))
abbrev FV : Rp (Int × (Int × Int × Int × (Value × List Tr34)) × Int × Int × (Value × List Tr37)) := (Rp.pair (Rp.int .i64) (Rp.pair JB (Rp.pair (Rp.int .i64) (Rp.pair (Rp.int .i64) (Rp.vsl C9)))))
abbrev XM (p : Int × (Int × Int × Int × (Value × List Tr34)) × Int × Int × (Value × List Tr37)) : Tr37 := (Tr37.of (p.1, (Tr34.of (p.2.1.1, p.2.1.2.1, p.2.1.2.2.1, p.2.1.2.2.2.2)), p.2.2.1, p.2.2.2.1, p.2.2.2.2.2))
theorem ED : Ex C9 FV XM := (Ex.knot V9 (of := Tr37.of) (fun _ => rfl) (fun x => by cases x; rfl) (Ex.pair Ex.rfl' (Ex.pair (Ex.knot U0 (of := Tr34.of) (fun _ => rfl) (fun x => by cases x; rfl) (Ex.pair Ex.rfl' (Ex.pair Ex.rfl' (Ex.pair Ex.rfl' Ex.sliceF)))) (Ex.pair Ex.rfl' (Ex.pair Ex.rfl' Ex.sliceF)))))
theorem S5 : Ty Tryz.prog 29 true 4 := ⟨by kernel_rfl, by kernel_rfl⟩
theorem YM : Bt Tryz.prog 63 [.int .i64 0, .int .i64 0, .int .i64 0, .int .i64 0, .int .i64 0] [(0, 1), (1, 4)] := ⟨⟨.agg #[.int .i64 0, .int .i64 0, .int .i64 0, .int .i64 0, .int .i64 0], by kernel_rfl, rfl⟩, ⟨_, Qg, fun w => by kernel_rfl⟩⟩
theorem L6 : Ty Tryz.prog 34 true 4 := ⟨by kernel_rfl, by kernel_rfl⟩
theorem XW : Bt Tryz.prog 126 [.int .i64 0, .int .i64 0, .int .i64 0, .int .i64 0, .int .i64 0, .int .i64 0] [(0, 1), (1, 1), (2, 4)] := ⟨⟨.agg #[.int .i64 0, .int .i64 0, .int .i64 0, .int .i64 0, .int .i64 0, .int .i64 0], by kernel_rfl, rfl⟩, ⟨_, R9, fun w => by kernel_rfl⟩⟩
def C2 (p0 : Int) : Bool := (decide (0 ≤ p0) && decide (p0 ≤ 5))
theorem Jb (Y : Nat → Prop) (w0 : World)  (p0 : Int) (r : Bool) (H : C2 p0 = r)  :
    Calls Tryz.prog 119 #[.int .i64 p0] w0 fun e w' => e = .returned (.bool r) ∧ Below w0.heap.size w0 w' := by
 refine enter Tryz.func119 Aa Tryz.ntmps119 Aa fun a F => ?_
 have W := Stw.start Y w0
 unfold C2 at H
 refine vc tk 5 F W fun a w F W => ?_
 refine Ay (fun a w => Fr 9 [] [(2, .bool (decide (0 ≤ p0) && decide (p0 ≤ 5)))] a ∧ Stw ⟨Y, [], w0⟩ [] [] w) ?_ ?_
 ·
  refine vc tk 4 F W fun a w F W => ?_
  rcases Bool.eq_false_or_eq_true (decide (0 ≤ p0)) with hb0 | hb0
  ·
   rw [hb0] at F
   refine vl tk 5 F W fun a w F W => ?_
   refine Ac ?_
   exact ⟨F.re ⟨(DE (by try rw [hb0]; all_goals simp only [DF])), trivial⟩, W⟩
  rw [hb0] at F
  refine vl tk 5 F W fun a w F W => ?_
  refine Ac ?_
  exact ⟨F.re ⟨(DE (by try rw [hb0]; all_goals simp only [DF])), trivial⟩, W⟩
 rintro a w ⟨F, W⟩
 refine Ak ?_
 subst H
 refine Au (.inl Aa) F W Aa (Am F Aa) ?_
 exact ⟨rfl, W.done⟩
theorem Wh : Has Tryz.prog 119 := CF Tryz.func119
def CB (p0 : Int) : Bool := (decide (0 ≤ p0) && decide (p0 < 4))
theorem J5 (Y : Nat → Prop) (w0 : World)  (p0 : Int) (r : Bool) (H : CB p0 = r)  :
    Calls Tryz.prog 123 #[.int .i64 p0] w0 fun e w' => e = .returned (.bool r) ∧ Below w0.heap.size w0 w' := by
 refine enter Tryz.func123 Aa Tryz.ntmps123 Aa fun a F => ?_
 have W := Stw.start Y w0
 unfold CB at H
 refine vc tk 5 F W fun a w F W => ?_
 refine Ay (fun a w => Fr 9 [] [(2, .bool (decide (0 ≤ p0) && decide (p0 < 4)))] a ∧ Stw ⟨Y, [], w0⟩ [] [] w) ?_ ?_
 ·
  refine vc tk 4 F W fun a w F W => ?_
  rcases Bool.eq_false_or_eq_true (decide (0 ≤ p0)) with hb0 | hb0
  ·
   rw [hb0] at F
   refine vl tk 5 F W fun a w F W => ?_
   refine Ac ?_
   exact ⟨F.re ⟨(DE (by try rw [hb0]; all_goals simp only [DF])), trivial⟩, W⟩
  rw [hb0] at F
  refine vl tk 5 F W fun a w F W => ?_
  refine Ac ?_
  exact ⟨F.re ⟨(DE (by try rw [hb0]; all_goals simp only [DF])), trivial⟩, W⟩
 rintro a w ⟨F, W⟩
 refine Ak ?_
 subst H
 refine Au (.inl Aa) F W Aa (Am F Aa) ?_
 exact ⟨rfl, W.done⟩
theorem Xj : Has Tryz.prog 123 := CF Tryz.func123
abbrev F0 (a0 : Int × Int × Int × Int) : List Value := [.int .i64 a0.1, .int .i64 a0.2.1, .int .i64 a0.2.2.1, .int .i64 a0.2.2.2]
noncomputable def GW (p0 : Int × Int × Int × Int) (p1 : Int) : Option Int := (if (!(CB p1)) = true then some 0 else (ix ([p0.1, p0.2.1, p0.2.2.1, p0.2.2.2] : List Int) p1).bind fun x1 => some x1)
theorem P3 (Y : Nat → Prop) (w0 : World)  (p0 : Int × Int × Int × Int) (p1 : Int) (r : Int) (H : GW p0 p1 = some r)  :
    Calls Tryz.prog 140 #[.agg #[.int .i64 p0.1, .int .i64 p0.2.1, .int .i64 p0.2.2.1, .int .i64 p0.2.2.2], .int .i64 p1] w0 fun e w' => e = .returned (.int .i64 r) ∧ Below w0.heap.size w0 w' := by
 refine enter Tryz.func140 Aa Tryz.ntmps140 Aa fun a F => ?_
 have W := Stw.start Y w0
 unfold GW at H
 refine vc tk 2 F W fun a w F W => ?_
 refine CU (cs := (F0 p0)) F W Aa Aa Aa fun b1 a w F W => ?_
 refine Ck tk 7 F W fun a w F W => ?_
 refine ls F W Aa (AL (v := Value.bool (CB p1)) F Xj Aa (fun w W => J5 any w p1 _ Aa)) fun a w F W => ?_
 refine Ck tk 3 F W fun a w F W => ?_
 refine Cv F Aa H (fun F H => ?_) fun F H => ?_
 ·
  refine vc tk 5 F W fun a w F W => ?_
  refine Ak (Ax ?_)
  have H := AA H
  subst H
  refine Au (.inl Aa) F W Aa (Am F Aa) ?_
  exact ⟨rfl, W.done⟩
 refine FJ tk 5 F W fun a w F W => ?_
 obtain ⟨x1, h1, H⟩ := Ad H
 refine ls F W Aa (Qk (0 + (p1).toNat * 1) RE F Aa Aa Aa h1 Aa).q fun a w F W => ?_
 refine ls F W Aa (Bv (v := Value.int .i64 x1) 0 F Aa Aa T3 (UA (base := 0) (m := 4) (l := [p0.1, p0.2.1, p0.2.2.1, p0.2.2.2]) (enc := Value.int .i64) Aa h1)).q fun a w F W => ?_
 refine Ck tk 3 F W fun a w F W => ?_
 refine Ak ?_
 have H := AA H
 subst H
 refine Au (.inl Aa) F W Aa (Am F Aa) ?_
 exact ⟨rfl, W.done⟩
theorem Yi : Has Tryz.prog 140 := CF Tryz.func140
noncomputable def HL (p0 : Int) (p1 : Int) (p2 : Int) (p3 : Int × Int × Int × Int) : Option Int := (if p0 = 4 then some p2 else (if p0 = 5 then some p1 else (if (C2 p0) = true then (GW p3 p0).bind fun x1 => some x1 else some (-1))))
theorem Ri (Y : Nat → Prop) (w0 : World)  (p0 : Int) (p1 : Int) (p2 : Int) (p3 : Int × Int × Int × Int) (r : Int) (H : HL p0 p1 p2 p3 = some r)  :
    Calls Tryz.prog 120 #[.int .i64 p0, .int .i64 p1, .int .i64 p2, .agg #[.int .i64 p3.1, .int .i64 p3.2.1, .int .i64 p3.2.2.1, .int .i64 p3.2.2.2]] w0 fun e w' => e = .returned (.int .i64 r) ∧ Below w0.heap.size w0 w' := by
 refine enter Tryz.func120 Aa Tryz.ntmps120 Aa fun a F => ?_
 have W := Stw.start Y w0
 unfold HL at H
 refine vc tk 2 F W fun a w F W => ?_
 refine CU (cs := (F0 p3)) F W Aa Aa Aa fun b1 a w F W => ?_
 refine Ck tk 12 F W fun a w F W => ?_
 refine BV F Aa (fun hb => ?_) fun hb => ?_
 ·
  have H := B7 (CE hb) H
  rw [hb] at F
  clear hb
  refine vc tk 6 F W fun a w F W => ?_
  refine Ak (AE (Ax ?_))
  have H := AA H
  subst H
  refine Au (.inl Aa) F W Aa (Am F Aa) ?_
  exact ⟨rfl, W.done⟩
 have H := B6 (CG hb) H
 rw [hb] at F
 clear hb
 refine vc tk 7 F W fun a w F W => ?_
 refine BV F Aa (fun hb => ?_) fun hb => ?_
 ·
  have H := B7 (CE hb) H
  rw [hb] at F
  clear hb
  refine vc tk 6 F W fun a w F W => ?_
  refine Ak (AE (Ax ?_))
  have H := AA H
  subst H
  refine Au (.inl Aa) F W Aa (Am F Aa) ?_
  exact ⟨rfl, W.done⟩
 have H := B6 (CG hb) H
 rw [hb] at F
 clear hb
 refine vc tk 3 F W fun a w F W => ?_
 refine ls F W Aa (AL (v := Value.bool (C2 p0)) F Wh Aa (fun w W => Jb any w p0 _ Aa)) fun a w F W => ?_
 refine Ck tk 3 F W fun a w F W => ?_
 refine BV F Aa (fun hb => ?_) fun hb => ?_
 ·
  have H := B7 hb H
  rw [hb] at F
  clear hb
  refine Fj tk 4 [0] F W (ai fun a w F W => ?_)
  obtain ⟨x1, h1, H⟩ := Ad H
  refine ls F W Aa (AL (v := Value.int .i64 x1) F Yi Aa (fun w W => P3 any w p3 p0 _ h1)) fun a w F W => ?_
  refine Ck tk 3 F W fun a w F W => ?_
  refine Ak (AE (Ax ?_))
  have H := AA H
  subst H
  refine Au (.inl Aa) F W Aa (Am F Aa) ?_
  exact ⟨rfl, W.done⟩
 have H := B6 (by rw [hb]; decide) H
 rw [hb] at F
 clear hb
 refine AW (AG ?_)
 refine vn tk 5 F W fun a w F W => ?_
 refine Ak ?_
 have H := AA H
 subst H
 refine Au (.inl Aa) F W Aa (Am F Aa) ?_
 exact ⟨rfl, W.done⟩
theorem Kw : type_of% Tryz.underlying32 := Tryz.underlying32
theorem XS : Has Tryz.prog 120 := CF Tryz.func120
theorem S4 : Ty Tryz.prog 32 false 1 := ⟨by kernel_rfl, by kernel_rfl⟩
theorem XI : Ty Tryz.prog 126 true 6 := ⟨by kernel_rfl, by kernel_rfl⟩
abbrev Je (a : Int × Int × Int × (Value × List Tr34)) : List Value := [.int .i64 a.1, .int .i64 a.2.1, .int .i64 a.2.2.1, a.2.2.2.1]
theorem Pr : Fo JB Je := (Fo.pair Fl.int.to (Fo.pair Fl.int.to (Fo.pair Fl.int.to Fo.vsl)))
theorem Tg : Et Tryz.prog 32 34 4 48 := Et.of Kw (by kernel_rfl) (by kernel_rfl) (by kernel_rfl) (by decide)
theorem X9 : Has Tryz.prog 91 := CF Tryz.func91
abbrev WE (a0 : Int × Int × (Int × Int × Int × Int)) : List Value := [.int .i64 a0.1, .int .i64 a0.2.1, .int .i64 a0.2.2.1, .int .i64 a0.2.2.2.1, .int .i64 a0.2.2.2.2.1, .int .i64 a0.2.2.2.2.2]
abbrev Iy (a0 : Tr34) (a1 : Value) : List Value := [.int .i64 a0.un.1, .int .i64 a0.un.2.1, .int .i64 a0.un.2.2.1, a1]
noncomputable def Cf (fRec_pred_arrival_satisfies : (Int × Int × (Int × Int × Int × Int)) → Tr34 → Option Bool) (p0 : Int × Int × (Int × Int × Int × Int)) (p1 : Tr34) : Option Bool := (fRec_pred_arrival_satisfies p0 p1).bind fun x1 => some (!x1)
theorem Hg (fRec_pred_arrival_satisfies : (Int × Int × (Int × Int × Int × Int)) → Tr34 → Option Bool) (ih_pred_arrival_satisfies : ∀ (Y : Nat → Prop) (w0 : World) (v1 : Value) (p0 : Int × Int × (Int × Int × Int × Int)) (p1 : Tr34) (r : Bool) (H : fRec_pred_arrival_satisfies p0 p1 = some r) (h_v1 : Sl w0 (NX []) CA v1 p1.un.2.2.2), Calls Tryz.prog 91 #[.agg #[.int .i64 p0.1, .int .i64 p0.2.1, .int .i64 p0.2.2.1, .int .i64 p0.2.2.2.1, .int .i64 p0.2.2.2.2.1, .int .i64 p0.2.2.2.2.2], .agg #[.int .i64 p1.un.1, .int .i64 p1.un.2.1, .int .i64 p1.un.2.2.1, v1]] w0 fun e w' => e = .returned (.bool r) ∧ Below w0.heap.size w0 w') (Y : Nat → Prop) (w0 : World) (v1 : Value) (p0 : Int × Int × (Int × Int × Int × Int)) (p1 : Tr34) (r : Bool) (H : Cf fRec_pred_arrival_satisfies p0 p1 = some r) (h_v1 : Sl w0 (NX []) CA v1 p1.un.2.2.2) :
    Calls Tryz.prog 121 #[.agg #[.int .i64 p0.1, .int .i64 p0.2.1, .int .i64 p0.2.2.1, .int .i64 p0.2.2.2.1, .int .i64 p0.2.2.2.2.1, .int .i64 p0.2.2.2.2.2], .agg #[.int .i64 p1.un.1, .int .i64 p1.un.2.1, .int .i64 p1.un.2.2.1, v1]] w0 fun e w' => e = .returned (.bool r) ∧ Below w0.heap.size w0 w' := by
 refine enter Tryz.func121 Aa Tryz.ntmps121 Aa fun a F => ?_
 have W := Stw.start Y w0
 obtain ⟨v2, h1, h_v1⟩ := h_v1.ex CD
 unfold Cf at H
 refine vc tk 2 F W fun a w F W => ?_
 refine CU (cs := (WE p0)) F W Aa Aa Aa fun b1 a w F W => ?_
 refine CU (cs := (Iy p1 v1)) F W Aa Aa Aa fun b2 a w F W => ?_
 refine FA tk 7 [1, 0] F W (ai (ai fun a w F W => ?_))
 obtain ⟨x1, h2, H⟩ := Ad H
 refine ls F W Aa (AL (v := Value.bool x1) F X9 Aa (fun w W => ih_pred_arrival_satisfies any w (v1) p0 p1 _ h2 (Ef (Aq CD h1 (Af h_v1)) W))) fun a w F W => ?_
 refine Ck tk 4 F W fun a w F W => ?_
 refine Ak ?_
 have H := AA H
 subst H
 refine Au (.inl Aa) F W Aa (Am F Aa) ?_
 exact ⟨rfl, W.done⟩
theorem Xb : Has Tryz.prog 121 := CF Tryz.func121
noncomputable def AH (fRec_pred_arrival_satisfies : (Int × Int × (Int × Int × Int × Int)) → Tr34 → Option Bool) (p0 : List Tr34) (p1f0 : Int × Int × (Int × Int × Int × Int)) : Int → Option (Int ⊕ (Unit ⊕ Int))
  | x1 => (if x1 < (p0.length : Int) then (ix p0 x1).bind fun x2 => ((Cf fRec_pred_arrival_satisfies) p1f0 x2).bind fun x3 => (if x3 = true then some (.inr (.inr x1)) else some (.inl (AO (x1 + 1)))) else some (.inr (.inl ())))
noncomputable def A8 (fRec_pred_arrival_satisfies : (Int × Int × (Int × Int × Int × Int)) → Tr34 → Option Bool) (p0 : List Tr34) (p1f0 : Int × Int × (Int × Int × Int × Int)) : Option Int := Kq (AY (AH fRec_pred_arrival_satisfies p0 p1f0) 0) fun _ => some (-1)
theorem FI (fRec_pred_arrival_satisfies : (Int × Int × (Int × Int × Int × Int)) → Tr34 → Option Bool) (ih_pred_arrival_satisfies : ∀ (Y : Nat → Prop) (w0 : World) (v1 : Value) (p0 : Int × Int × (Int × Int × Int × Int)) (p1 : Tr34) (r : Bool) (H : fRec_pred_arrival_satisfies p0 p1 = some r) (h_v1 : Sl w0 (NX []) CA v1 p1.un.2.2.2), Calls Tryz.prog 91 #[.agg #[.int .i64 p0.1, .int .i64 p0.2.1, .int .i64 p0.2.2.1, .int .i64 p0.2.2.2.1, .int .i64 p0.2.2.2.2.1, .int .i64 p0.2.2.2.2.2], .agg #[.int .i64 p1.un.1, .int .i64 p1.un.2.1, .int .i64 p1.un.2.2.1, v1]] w0 fun e w' => e = .returned (.bool r) ∧ Below w0.heap.size w0 w') (Y : Nat → Prop) (w0 : World) (v1 : Value) (p0 : List Tr34) (p1f0 : Int × Int × (Int × Int × Int × Int)) (r : Int) (H : A8 fRec_pred_arrival_satisfies p0 p1f0 = some r) (h_v1 : Sl w0 (NX []) CA v1 p0) :
    Calls Tryz.prog 141 #[v1, .func (.func 121) #[.agg #[.int .i64 p1f0.1, .int .i64 p1f0.2.1, .int .i64 p1f0.2.2.1, .int .i64 p1f0.2.2.2.1, .int .i64 p1f0.2.2.2.2.1, .int .i64 p1f0.2.2.2.2.2]] #[]] w0 fun e w' => e = .returned (.int .i64 r) ∧ Below w0.heap.size w0 w' := by
 refine enter Tryz.func141 Aa Tryz.ntmps141 Aa fun a F => ?_
 have W := Stw.start Y w0
 obtain ⟨v2, h1, h_v1⟩ := h_v1.ex CD
 unfold A8 at H
 refine vc tk 5 F W fun a w F W => ?_
 obtain ⟨o1, G1, K1, L1⟩ := QO H
 refine Ay (fun a w => some (Sum.inl ()) = some o1 ∧ Fr 19 [] [(4, .int .i64 0)] a ∧ Stw ⟨Y, [], w0⟩ [] [] w) ?_ ?_
 ·
  have H := G1
  clear G1 K1
  refine vc tk 3 F W fun a w F W => ?_
  refine ls F W Aa (CP (r := CA) (l := p0) Kw Aa F Aa (Aq CD h1 (Af h_v1))).q fun a w F W => ?_
  refine Ck tk 4 F W fun a w F W => ?_
  refine BE H (fun s a w => Fr 19 [] [(0, v1), (1, .func (.func 121) #[.agg #[.int .i64 p1f0.1, .int .i64 p1f0.2.1, .int .i64 p1f0.2.2.1, .int .i64 p1f0.2.2.2.1, .int .i64 p1f0.2.2.2.2.1, .int .i64 p1f0.2.2.2.2.2]] #[]), (4, .int .i64 0), (7, .int .i64 (p0.length : Int)), (8, .int .i64 s)] a ∧ Stw ⟨Y, [], w0⟩ [] [] w) ⟨F.ra Aa, W⟩ fun s o a w H L2 hR => ?_
  obtain ⟨x1, rfl⟩ : ∃ x, x = s := ⟨s, rfl⟩
  obtain ⟨F, W⟩ := hR
  have F : Fr 19 [] [(0, v1), (1, .func (.func 121) #[.agg #[.int .i64 p1f0.1, .int .i64 p1f0.2.1, .int .i64 p1f0.2.2.1, .int .i64 p1f0.2.2.2.1, .int .i64 p1f0.2.2.2.2.1, .int .i64 p1f0.2.2.2.2.2]] #[]), (4, .int .i64 0), (7, .int .i64 (p0.length : Int)), (8, .int .i64 x1)] a := F
  have W : Stw ⟨Y, [], w0⟩ [] [] w := W
  rw [AH] at H
  refine vc tk 6 F W fun a w F W => ?_
  refine BI F Aa H (fun F H => ?_) fun F H => ?_
  ·
   refine FJ tk 15 F W fun a w F W => ?_
   obtain ⟨x2, h2, H⟩ := Ad H
   obtain ⟨v3, h3, h4⟩ := DH h1 h2
   have h5 : Je v3 = [.int .i64 x2.un.1, .int .i64 x2.un.2.1, .int .i64 x2.un.2.2.1, (v3.2.2.2.1)] := congrArg (fun q : Tr34 => ([.int .i64 q.un.1, .int .i64 q.un.2.1, .int .i64 q.un.2.2.1, (v3.2.2.2.1)] : List Value)) h4
   refine ls F W Aa (Av (r := JB) Tg F Aa Aa (Af h_v1) h3).q fun a w F W => ?_
   refine ls F W Aa (Al (y := Value.agg #[.int .i64 x2.un.1, .int .i64 x2.un.2.1, .int .i64 x2.un.2.2.1, (v3.2.2.2.1)]) (j := 0) (i := x1) (enc := Je) F Aa Aa (Af h_v1) h3 Pr L6 (by rw [h5]; rfl)).q fun a w F W => ?_
   obtain ⟨x3, h6, H⟩ := Ad H
   refine ls F W Aa (Es (ws := [.agg #[.int .i64 p1f0.1, .int .i64 p1f0.2.1, .int .i64 p1f0.2.2.1, .int .i64 p1f0.2.2.2.1, .int .i64 p1f0.2.2.2.2.1, .int .i64 p1f0.2.2.2.2.2], .agg #[.int .i64 x2.un.1, .int .i64 x2.un.2.1, .int .i64 x2.un.2.2.1, (v3.2.2.2.1)]]) (v := Value.bool x3) F Xb Aa (fun w W => (Hg fRec_pred_arrival_satisfies ih_pred_arrival_satisfies) any w ((v3.2.2.2.1)) p1f0 x2 _ h6 (Ef (BD (Af h_v1) h3 (Ah.snd (Ah.snd (Ah.snd Ah.here))) (congrArg (fun q : Tr34 => q.un.2.2.2) h4)) W))) fun a w F W => ?_
   refine Ck tk 2 F W fun a w F W => ?_
   refine Cv F Aa H (fun F H => ?_) fun F H => ?_
   ·
    refine vc tk 6 F W fun a w F W => ?_
    refine Ak (AE ?_)
    iterate 2 refine Ax ?_
    refine AE (Ax ?_)
    have H := L2 _ H
    have H := L1 _ H
    have H := AA H
    subst H
    refine Au (.inl Aa) F W Aa (Am F Aa) ?_
    exact ⟨rfl, W.done⟩
   refine AW (AG ?_)
   refine vn tk 4 F W fun a w F W => ?_
   refine Ac ?_
   exact ⟨_, H, F.ra Aa, W⟩
  refine Br ?_
  iterate 2 refine BK ?_
  refine Bo (Ac ?_)
  have H := L2 _ H
  exact ⟨H, F.ra Aa, W⟩
 rintro a w ⟨hj, F, W⟩
 have H := K1 _ hj
 clear hj G1 K1 L1
 refine vc tk 5 F W fun a w F W => ?_
 refine Ak ?_
 have H := AA H
 subst H
 refine Au (.inl Aa) F W Aa (Am F Aa) ?_
 exact ⟨rfl, W.done⟩
theorem Wy : Has Tryz.prog 141 := CF Tryz.func141
noncomputable def AV (fRec_pred_arrival_satisfies : (Int × Int × (Int × Int × Int × Int)) → Tr34 → Option Bool) (p0 : List Tr34) (p1f0 : Int × Int × (Int × Int × Int × Int)) : Option Bool := ((A8 fRec_pred_arrival_satisfies) p0 p1f0).bind fun x1 => some (decide (0 ≤ x1))
theorem Fi (fRec_pred_arrival_satisfies : (Int × Int × (Int × Int × Int × Int)) → Tr34 → Option Bool) (ih_pred_arrival_satisfies : ∀ (Y : Nat → Prop) (w0 : World) (v1 : Value) (p0 : Int × Int × (Int × Int × Int × Int)) (p1 : Tr34) (r : Bool) (H : fRec_pred_arrival_satisfies p0 p1 = some r) (h_v1 : Sl w0 (NX []) CA v1 p1.un.2.2.2), Calls Tryz.prog 91 #[.agg #[.int .i64 p0.1, .int .i64 p0.2.1, .int .i64 p0.2.2.1, .int .i64 p0.2.2.2.1, .int .i64 p0.2.2.2.2.1, .int .i64 p0.2.2.2.2.2], .agg #[.int .i64 p1.un.1, .int .i64 p1.un.2.1, .int .i64 p1.un.2.2.1, v1]] w0 fun e w' => e = .returned (.bool r) ∧ Below w0.heap.size w0 w') (Y : Nat → Prop) (w0 : World) (v1 : Value) (p0 : List Tr34) (p1f0 : Int × Int × (Int × Int × Int × Int)) (r : Bool) (H : AV fRec_pred_arrival_satisfies p0 p1f0 = some r) (h_v1 : Sl w0 (NX []) CA v1 p0) :
    Calls Tryz.prog 122 #[v1, .func (.func 121) #[.agg #[.int .i64 p1f0.1, .int .i64 p1f0.2.1, .int .i64 p1f0.2.2.1, .int .i64 p1f0.2.2.2.1, .int .i64 p1f0.2.2.2.2.1, .int .i64 p1f0.2.2.2.2.2]] #[]] w0 fun e w' => e = .returned (.bool r) ∧ Below w0.heap.size w0 w' := by
 refine enter Tryz.func122 Aa Tryz.ntmps122 Aa fun a F => ?_
 have W := Stw.start Y w0
 obtain ⟨v2, h1, h_v1⟩ := h_v1.ex CD
 unfold AV at H
 refine vc tk 9 F W fun a w F W => ?_
 obtain ⟨x1, h2, H⟩ := Ad H
 refine ls F W Aa (AL (v := Value.int .i64 x1) F Wy Aa (fun w W => (FI fRec_pred_arrival_satisfies ih_pred_arrival_satisfies) any w (v1) p0 p1f0 _ h2 (Ef (Aq CD h1 (Af h_v1)) W))) fun a w F W => ?_
 refine Ck tk 4 F W fun a w F W => ?_
 refine Ak ?_
 have H := AA H
 subst H
 refine Au (.inl Aa) F W Aa (Am F Aa) ?_
 exact ⟨rfl, W.done⟩
theorem WS : Has Tryz.prog 122 := CF Tryz.func122
noncomputable def AF (fRec_pred_arrival_satisfies : (Int × Int × (Int × Int × Int × Int)) → Tr34 → Option Bool) (p0 : List Tr34) (p1f0 : Int × Int × (Int × Int × Int × Int)) : Int → Option (Int ⊕ (Unit ⊕ Int))
  | x1 => (if x1 < (p0.length : Int) then (ix p0 x1).bind fun x2 => (fRec_pred_arrival_satisfies p1f0 x2).bind fun x3 => (if x3 = true then some (.inr (.inr x1)) else some (.inl (AO (x1 + 1)))) else some (.inr (.inl ())))
noncomputable def AX (fRec_pred_arrival_satisfies : (Int × Int × (Int × Int × Int × Int)) → Tr34 → Option Bool) (p0 : List Tr34) (p1f0 : Int × Int × (Int × Int × Int × Int)) : Option Int := Kq (AY (AF fRec_pred_arrival_satisfies p0 p1f0) 0) fun _ => some (-1)
theorem Fv (fRec_pred_arrival_satisfies : (Int × Int × (Int × Int × Int × Int)) → Tr34 → Option Bool) (ih_pred_arrival_satisfies : ∀ (Y : Nat → Prop) (w0 : World) (v1 : Value) (p0 : Int × Int × (Int × Int × Int × Int)) (p1 : Tr34) (r : Bool) (H : fRec_pred_arrival_satisfies p0 p1 = some r) (h_v1 : Sl w0 (NX []) CA v1 p1.un.2.2.2), Calls Tryz.prog 91 #[.agg #[.int .i64 p0.1, .int .i64 p0.2.1, .int .i64 p0.2.2.1, .int .i64 p0.2.2.2.1, .int .i64 p0.2.2.2.2.1, .int .i64 p0.2.2.2.2.2], .agg #[.int .i64 p1.un.1, .int .i64 p1.un.2.1, .int .i64 p1.un.2.2.1, v1]] w0 fun e w' => e = .returned (.bool r) ∧ Below w0.heap.size w0 w') (Y : Nat → Prop) (w0 : World) (v1 : Value) (p0 : List Tr34) (p1f0 : Int × Int × (Int × Int × Int × Int)) (r : Int) (H : AX fRec_pred_arrival_satisfies p0 p1f0 = some r) (h_v1 : Sl w0 (NX []) CA v1 p0) :
    Calls Tryz.prog 141 #[v1, .func (.func 91) #[.agg #[.int .i64 p1f0.1, .int .i64 p1f0.2.1, .int .i64 p1f0.2.2.1, .int .i64 p1f0.2.2.2.1, .int .i64 p1f0.2.2.2.2.1, .int .i64 p1f0.2.2.2.2.2]] #[]] w0 fun e w' => e = .returned (.int .i64 r) ∧ Below w0.heap.size w0 w' := by
 refine enter Tryz.func141 Aa Tryz.ntmps141 Aa fun a F => ?_
 have W := Stw.start Y w0
 obtain ⟨v2, h1, h_v1⟩ := h_v1.ex CD
 unfold AX at H
 refine vc tk 5 F W fun a w F W => ?_
 obtain ⟨o1, G1, K1, L1⟩ := QO H
 refine Ay (fun a w => some (Sum.inl ()) = some o1 ∧ Fr 19 [] [(4, .int .i64 0)] a ∧ Stw ⟨Y, [], w0⟩ [] [] w) ?_ ?_
 ·
  have H := G1
  clear G1 K1
  refine vc tk 3 F W fun a w F W => ?_
  refine ls F W Aa (CP (r := CA) (l := p0) Kw Aa F Aa (Aq CD h1 (Af h_v1))).q fun a w F W => ?_
  refine Ck tk 4 F W fun a w F W => ?_
  refine BE H (fun s a w => Fr 19 [] [(0, v1), (1, .func (.func 91) #[.agg #[.int .i64 p1f0.1, .int .i64 p1f0.2.1, .int .i64 p1f0.2.2.1, .int .i64 p1f0.2.2.2.1, .int .i64 p1f0.2.2.2.2.1, .int .i64 p1f0.2.2.2.2.2]] #[]), (4, .int .i64 0), (7, .int .i64 (p0.length : Int)), (8, .int .i64 s)] a ∧ Stw ⟨Y, [], w0⟩ [] [] w) ⟨F.ra Aa, W⟩ fun s o a w H L2 hR => ?_
  obtain ⟨x1, rfl⟩ : ∃ x, x = s := ⟨s, rfl⟩
  obtain ⟨F, W⟩ := hR
  have F : Fr 19 [] [(0, v1), (1, .func (.func 91) #[.agg #[.int .i64 p1f0.1, .int .i64 p1f0.2.1, .int .i64 p1f0.2.2.1, .int .i64 p1f0.2.2.2.1, .int .i64 p1f0.2.2.2.2.1, .int .i64 p1f0.2.2.2.2.2]] #[]), (4, .int .i64 0), (7, .int .i64 (p0.length : Int)), (8, .int .i64 x1)] a := F
  have W : Stw ⟨Y, [], w0⟩ [] [] w := W
  rw [AF] at H
  refine vc tk 6 F W fun a w F W => ?_
  refine BI F Aa H (fun F H => ?_) fun F H => ?_
  ·
   refine FJ tk 15 F W fun a w F W => ?_
   obtain ⟨x2, h2, H⟩ := Ad H
   obtain ⟨v3, h3, h4⟩ := DH h1 h2
   have h5 : Je v3 = [.int .i64 x2.un.1, .int .i64 x2.un.2.1, .int .i64 x2.un.2.2.1, (v3.2.2.2.1)] := congrArg (fun q : Tr34 => ([.int .i64 q.un.1, .int .i64 q.un.2.1, .int .i64 q.un.2.2.1, (v3.2.2.2.1)] : List Value)) h4
   refine ls F W Aa (Av (r := JB) Tg F Aa Aa (Af h_v1) h3).q fun a w F W => ?_
   refine ls F W Aa (Al (y := Value.agg #[.int .i64 x2.un.1, .int .i64 x2.un.2.1, .int .i64 x2.un.2.2.1, (v3.2.2.2.1)]) (j := 0) (i := x1) (enc := Je) F Aa Aa (Af h_v1) h3 Pr L6 (by rw [h5]; rfl)).q fun a w F W => ?_
   obtain ⟨x3, h6, H⟩ := Ad H
   refine ls F W Aa (Es (ws := [.agg #[.int .i64 p1f0.1, .int .i64 p1f0.2.1, .int .i64 p1f0.2.2.1, .int .i64 p1f0.2.2.2.1, .int .i64 p1f0.2.2.2.2.1, .int .i64 p1f0.2.2.2.2.2], .agg #[.int .i64 x2.un.1, .int .i64 x2.un.2.1, .int .i64 x2.un.2.2.1, (v3.2.2.2.1)]]) (v := Value.bool x3) F X9 Aa (fun w W => ih_pred_arrival_satisfies any w ((v3.2.2.2.1)) p1f0 x2 _ h6 (Ef (BD (Af h_v1) h3 (Ah.snd (Ah.snd (Ah.snd Ah.here))) (congrArg (fun q : Tr34 => q.un.2.2.2) h4)) W))) fun a w F W => ?_
   refine Ck tk 2 F W fun a w F W => ?_
   refine Cv F Aa H (fun F H => ?_) fun F H => ?_
   ·
    refine vc tk 6 F W fun a w F W => ?_
    refine Ak (AE ?_)
    iterate 2 refine Ax ?_
    refine AE (Ax ?_)
    have H := L2 _ H
    have H := L1 _ H
    have H := AA H
    subst H
    refine Au (.inl Aa) F W Aa (Am F Aa) ?_
    exact ⟨rfl, W.done⟩
   refine AW (AG ?_)
   refine vn tk 4 F W fun a w F W => ?_
   refine Ac ?_
   exact ⟨_, H, F.ra Aa, W⟩
  refine Br ?_
  iterate 2 refine BK ?_
  refine Bo (Ac ?_)
  have H := L2 _ H
  exact ⟨H, F.ra Aa, W⟩
 rintro a w ⟨hj, F, W⟩
 have H := K1 _ hj
 clear hj G1 K1 L1
 refine vc tk 5 F W fun a w F W => ?_
 refine Ak ?_
 have H := AA H
 subst H
 refine Au (.inl Aa) F W Aa (Am F Aa) ?_
 exact ⟨rfl, W.done⟩
noncomputable def AP (fRec_pred_arrival_satisfies : (Int × Int × (Int × Int × Int × Int)) → Tr34 → Option Bool) (p0 : List Tr34) (p1f0 : Int × Int × (Int × Int × Int × Int)) : Option Bool := ((AX fRec_pred_arrival_satisfies) p0 p1f0).bind fun x1 => some (decide (0 ≤ x1))
theorem EN (fRec_pred_arrival_satisfies : (Int × Int × (Int × Int × Int × Int)) → Tr34 → Option Bool) (ih_pred_arrival_satisfies : ∀ (Y : Nat → Prop) (w0 : World) (v1 : Value) (p0 : Int × Int × (Int × Int × Int × Int)) (p1 : Tr34) (r : Bool) (H : fRec_pred_arrival_satisfies p0 p1 = some r) (h_v1 : Sl w0 (NX []) CA v1 p1.un.2.2.2), Calls Tryz.prog 91 #[.agg #[.int .i64 p0.1, .int .i64 p0.2.1, .int .i64 p0.2.2.1, .int .i64 p0.2.2.2.1, .int .i64 p0.2.2.2.2.1, .int .i64 p0.2.2.2.2.2], .agg #[.int .i64 p1.un.1, .int .i64 p1.un.2.1, .int .i64 p1.un.2.2.1, v1]] w0 fun e w' => e = .returned (.bool r) ∧ Below w0.heap.size w0 w') (Y : Nat → Prop) (w0 : World) (v1 : Value) (p0 : List Tr34) (p1f0 : Int × Int × (Int × Int × Int × Int)) (r : Bool) (H : AP fRec_pred_arrival_satisfies p0 p1f0 = some r) (h_v1 : Sl w0 (NX []) CA v1 p0) :
    Calls Tryz.prog 122 #[v1, .func (.func 91) #[.agg #[.int .i64 p1f0.1, .int .i64 p1f0.2.1, .int .i64 p1f0.2.2.1, .int .i64 p1f0.2.2.2.1, .int .i64 p1f0.2.2.2.2.1, .int .i64 p1f0.2.2.2.2.2]] #[]] w0 fun e w' => e = .returned (.bool r) ∧ Below w0.heap.size w0 w' := by
 refine enter Tryz.func122 Aa Tryz.ntmps122 Aa fun a F => ?_
 have W := Stw.start Y w0
 obtain ⟨v2, h1, h_v1⟩ := h_v1.ex CD
 unfold AP at H
 refine vc tk 9 F W fun a w F W => ?_
 obtain ⟨x1, h2, H⟩ := Ad H
 refine ls F W Aa (AL (v := Value.int .i64 x1) F Wy Aa (fun w W => (Fv fRec_pred_arrival_satisfies ih_pred_arrival_satisfies) any w (v1) p0 p1f0 _ h2 (Ef (Aq CD h1 (Af h_v1)) W))) fun a w F W => ?_
 refine Ck tk 4 F W fun a w F W => ?_
 refine Ak ?_
 have H := AA H
 subst H
 refine Au (.inl Aa) F W Aa (Am F Aa) ?_
 exact ⟨rfl, W.done⟩
theorem Kx : type_of% Tryz.underlying34 := Tryz.underlying34
abbrev Xm (a0 : Nat) (a1 : Tr34) (a2 : Value) (a3 : Nat) (a4 : Int × Int × (Int × Int × Int × Int)) : List (Nat × List Value) := [(a0, [.int .i64 a1.un.1, .int .i64 a1.un.2.1, .int .i64 a1.un.2.2.1, a2]), (a3, [.int .i64 a4.1, .int .i64 a4.2.1, .int .i64 a4.2.2.1, .int .i64 a4.2.2.2.1, .int .i64 a4.2.2.2.2.1, .int .i64 a4.2.2.2.2.2])]
abbrev Vg (a0 : Int × Int × (Int × Int × Int × Int)) : List Value := [.agg #[.int .i64 a0.1, .int .i64 a0.2.1, .int .i64 a0.2.2.1, .int .i64 a0.2.2.2.1, .int .i64 a0.2.2.2.2.1, .int .i64 a0.2.2.2.2.2]]
noncomputable def BC (fRec : (Int × Int × (Int × Int × Int × Int)) → Tr34 → Option Bool) (p0 : Int × Int × (Int × Int × Int × Int)) (p1 : Tr34) : Option Bool := (if p1.un.1 = 1 then some true else (if p1.un.1 = 3 then (if (C2 p1.un.2.1) = true then (HL p1.un.2.1 p0.1 p0.2.1 p0.2.2).bind fun x2 => some (decide (x2 = p1.un.2.2.1)) else some false).bind fun x1 => some x1 else (if p1.un.1 = 4 then (if 0 < (p1.un.2.2.2.length : Int) then (ix p1.un.2.2.2 0).bind fun x4 => ((Cf fRec) p0 x4).bind fun x5 => some x5 else some false).bind fun x3 => some x3 else (if p1.un.1 = 5 then ((AV fRec) p1.un.2.2.2 p0).bind fun x6 => some (!x6) else (if p1.un.1 = 6 then ((AP fRec) p1.un.2.2.2 p0).bind fun x7 => some x7 else some false)))))
noncomputable def Bb : Nat → (Int × Int × (Int × Int × Int × Int)) → Tr34 → Option Bool
  | 0 => fun _ _ => none
  | n + 1 => BC (Bb n)
noncomputable def DO (p0 : Int × Int × (Int × Int × Int × Int)) (p1 : Tr34) : Option Bool := GI fun n => Bb n p0 p1
theorem HE (fRec : (Int × Int × (Int × Int × Int × Int)) → Tr34 → Option Bool) (ih : ∀ (Y : Nat → Prop) (w0 : World) (v1 : Value) (p0 : Int × Int × (Int × Int × Int × Int)) (p1 : Tr34) (r : Bool) (H : fRec p0 p1 = some r) (h_v1 : Sl w0 (NX []) CA v1 p1.un.2.2.2), Calls Tryz.prog 91 #[.agg #[.int .i64 p0.1, .int .i64 p0.2.1, .int .i64 p0.2.2.1, .int .i64 p0.2.2.2.1, .int .i64 p0.2.2.2.2.1, .int .i64 p0.2.2.2.2.2], .agg #[.int .i64 p1.un.1, .int .i64 p1.un.2.1, .int .i64 p1.un.2.2.1, v1]] w0 fun e w' => e = .returned (.bool r) ∧ Below w0.heap.size w0 w') (Y : Nat → Prop) (w0 : World) (v1 : Value) (p0 : Int × Int × (Int × Int × Int × Int)) (p1 : Tr34) (r : Bool) (H : BC fRec p0 p1 = some r) (h_v1 : Sl w0 (NX []) CA v1 p1.un.2.2.2) :
    Calls Tryz.prog 91 #[.agg #[.int .i64 p0.1, .int .i64 p0.2.1, .int .i64 p0.2.2.1, .int .i64 p0.2.2.2.1, .int .i64 p0.2.2.2.2.1, .int .i64 p0.2.2.2.2.2], .agg #[.int .i64 p1.un.1, .int .i64 p1.un.2.1, .int .i64 p1.un.2.2.1, v1]] w0 fun e w' => e = .returned (.bool r) ∧ Below w0.heap.size w0 w' := by
 refine enter Tryz.func91 Aa Tryz.ntmps91 Aa fun a F => ?_
 have W := Stw.start Y w0
 obtain ⟨v2, h1, h_v1⟩ := h_v1.ex CD
 unfold BC at H
 refine vc tk 2 F W fun a w F W => ?_
 refine CU (cs := (WE p0)) F W Aa Aa Aa fun b1 a w F W => ?_
 refine CU (cs := (Iy p1 v1)) F W Aa Aa Aa fun b2 a w F W => ?_
 refine FA tk 17 [0] F W (ai fun a w F W => ?_)
 refine BV F Aa (fun hb => ?_) fun hb => ?_
 ·
  have H := B7 (CE hb) H
  rw [hb] at F
  clear hb
  refine vc tk 5 F W fun a w F W => ?_
  refine Ak (AE (Ax ?_))
  have H := AA H
  subst H
  refine Au (.inl Aa) F W Aa (Am F Aa) ?_
  exact ⟨rfl, W.done⟩
 have H := B6 (CG hb) H
 rw [hb] at F
 clear hb
 refine vc tk 6 F W fun a w F W => ?_
 refine BV F Aa (fun hb => ?_) fun hb => ?_
 ·
  have H := B7 (CE hb) H
  rw [hb] at F
  clear hb
  obtain ⟨o1, G1, K1⟩ := Ad H
  refine Ay (fun a w => ∃ x1 : Bool, some (x1) = some o1 ∧ Fr 57 [] [(4, .bool x1)] a ∧ Stw ⟨Y, [], w0⟩ (Xm b2 p1 v1 b1 p0) [] w) ?_ ?_
  ·
   have H := G1
   clear G1 K1
   refine Cu W MO (by kernel_rfl) ?_
   refine qs F Aa (Ap Kx Aa Aa Aa T3 F Aa 1 Aa).q fun a F => ?_
   refine qs F Aa (Bv (v := Value.int .i64 p1.un.2.1) 0 F Aa Aa T3 Aa).q fun a F => ?_
   refine qs F Aa (AL (v := Value.bool (C2 p1.un.2.1)) F Wh Aa (fun w W => Jb any w p1.un.2.1 _ Aa)) fun a F => ?_
   refine qs F Aa (An F Aa).q fun a F => ?_
   rcases Bool.eq_false_or_eq_true (C2 p1.un.2.1) with hb | hb
   ·
    have H := B7 hb H
    rw [hb] at F
    clear hb
    refine AK F (Ab F Aa Aa Aa Aa) Aa (Ao Aa) (Ap Kx Aa Aa Aa T3 F Aa 1 Aa).q fun a F => ?_
    refine AK F (Ab F Aa Aa Aa Aa) Aa (Ao Aa) (Bv (v := Value.int .i64 p1.un.2.1) 0 F Aa Aa T3 Aa).q fun a F => ?_
    refine AK F (Ab F Aa Aa Aa Aa) Aa (Ao Aa) (Ap R9 Aa Aa Aa T3 F Aa 0 Aa).q fun a F => ?_
    refine AK F (Ab F Aa Aa Aa Aa) Aa (Ao Aa) (Bv (v := Value.int .i64 p0.1) 1 F Aa Aa T3 Aa).q fun a F => ?_
    refine AK F (Ab F Aa Aa Aa Aa) Aa (Ao Aa) (Ap R9 Aa Aa Aa T3 F Aa 1 Aa).q fun a F => ?_
    refine AK F (Ab F Aa Aa Aa Aa) Aa (Ao Aa) (Bv (v := Value.int .i64 p0.2.1) 1 F Aa Aa T3 Aa).q fun a F => ?_
    refine AK F (Ab F Aa Aa Aa Aa) Aa (Ao Aa) (Ap R9 Aa Aa Aa S5 F Aa 2 Aa).q fun a F => ?_
    refine AK F (Ab F Aa Aa Aa Aa) Aa (Ao Aa) (Bv (v := Value.agg #[.int .i64 p0.2.2.1, .int .i64 p0.2.2.2.1, .int .i64 p0.2.2.2.2.1, .int .i64 p0.2.2.2.2.2]) 1 F Aa Aa S5 Aa).q fun a F => ?_
    obtain ⟨x2, h2, H⟩ := Ad H
    refine AK F (Ab F Aa Aa Aa Aa) Aa (Ao Aa) (AL (v := Value.int .i64 x2) F XS Aa (fun w W => Ri any w p1.un.2.1 p0.1 p0.2.1 p0.2.2 _ h2)) fun a F => ?_
    refine AK F (Ab F Aa Aa Aa Aa) Aa (Ao Aa) (Ap Kx Aa Aa Aa T3 F Aa 2 Aa).q fun a F => ?_
    refine AK F (Ab F Aa Aa Aa Aa) Aa (Ao Aa) (Bv (v := Value.int .i64 p1.un.2.2.1) 0 F Aa Aa T3 Aa).q fun a F => ?_
    refine AK F (Ab F Aa Aa Aa Aa) Aa (Ao Aa) (Po F Aa Aa).q fun a F => ?_
    refine qs F Aa (Bq F Aa Aa Aa).q fun a F => ?_
    refine qs F Aa (Bj F Aa).q fun a F => ?_
    refine AJ fun w W => ?_
    refine Ac ?_
    have W := W.frontM (i := 1) Aa Aa
    have W := W.frontM (i := 1) Aa Aa
    exact ⟨_, H, F.ra Aa, W⟩
   have H := B6 (by rw [hb]; decide) H
   rw [hb] at F
   clear hb
   iterate 12 refine Bi F (A0 F Aa Aa Aa Aa Aa) Aa Aa fun a F => ?_
   refine qs F Aa (Bp F Aa Aa Aa).q fun a F => ?_
   refine qs F Aa (Bj F Aa).q fun a F => ?_
   refine AJ fun w W => ?_
   refine Ac ?_
   have W := W.frontM (i := 1) Aa Aa
   have W := W.frontM (i := 1) Aa Aa
   exact ⟨_, H, F.ra Aa, W⟩
  rintro a w ⟨x1, hj, F, W⟩
  have hj := AA hj
  subst hj
  have H := K1
  clear G1 K1
  refine Ak (AE (Ax ?_))
  have H := AA H
  subst H
  refine Au (.inl Aa) F W Aa (Am F Aa) ?_
  exact ⟨rfl, W.done⟩
 have H := B6 (CG hb) H
 rw [hb] at F
 clear hb
 refine vc tk 6 F W fun a w F W => ?_
 refine BV F Aa (fun hb => ?_) fun hb => ?_
 ·
  have H := B7 (CE hb) H
  rw [hb] at F
  clear hb
  obtain ⟨o2, G2, K2⟩ := Ad H
  refine Ay (fun a w => ∃ x3 : Bool, some (x3) = some o2 ∧ Fr 57 [] [(4, .bool x3)] a ∧ Stw ⟨Y, [], w0⟩ (Xm b2 p1 v1 b1 p0) [] w) ?_ ?_
  ·
   have H := G2
   clear G2 K2
   refine Cu W MO (by kernel_rfl) ?_
   refine qs F Aa (Ap Kx Aa Aa Aa S4 F Aa 3 Aa).q fun a F => ?_
   refine qs F Aa (Bv (v := v1) 0 F Aa Aa S4 Aa).q fun a F => ?_
   refine qs F Aa (CP (r := CA) (l := p1.un.2.2.2) Kw Aa F Aa (Aq CD h1 (Af h_v1))).q fun a F => ?_
   refine qs F Aa (MA F Aa Aa).q fun a F => ?_
   refine qs F Aa (An F Aa).q fun a F => ?_
   rcases Bool.eq_false_or_eq_true (decide (0 < (p1.un.2.2.2.length : Int))) with hb | hb
   ·
    have H := B7 (CE hb) H
    rw [hb] at F
    clear hb
    refine AK F (Ab F Aa Aa Aa Aa) Aa (Ao Aa) (Bv (v := Value.agg #[.int .i64 p0.1, .int .i64 p0.2.1, .int .i64 p0.2.2.1, .int .i64 p0.2.2.2.1, .int .i64 p0.2.2.2.2.1, .int .i64 p0.2.2.2.2.2]) 1 F Aa Aa XI Aa).q fun a F => ?_
    refine AK F (Ab F Aa Aa Aa Aa) Aa (Ao Aa) (Ap Kx Aa Aa Aa S4 F Aa 3 Aa).q fun a F => ?_
    refine AK F (Ab F Aa Aa Aa Aa) Aa (Ao Aa) (Bv (v := v1) 0 F Aa Aa S4 Aa).q fun a F => ?_
    obtain ⟨x4, h3, H⟩ := Ad H
    obtain ⟨v3, h4, h5⟩ := DH h1 h3
    have h6 : Je v3 = [.int .i64 x4.un.1, .int .i64 x4.un.2.1, .int .i64 x4.un.2.2.1, (v3.2.2.2.1)] := congrArg (fun q : Tr34 => ([.int .i64 q.un.1, .int .i64 q.un.2.1, .int .i64 q.un.2.2.1, (v3.2.2.2.1)] : List Value)) h5
    refine AK F (Ab F Aa Aa Aa Aa) Aa (Ao Aa) (Av (r := JB) Tg F Aa Aa (Af h_v1) h4).q fun a F => ?_
    refine AK F (Ab F Aa Aa Aa Aa) Aa (Ao Aa) (Al (y := Value.agg #[.int .i64 x4.un.1, .int .i64 x4.un.2.1, .int .i64 x4.un.2.2.1, (v3.2.2.2.1)]) (j := 0) (i := 0) (enc := Je) F Aa Aa (Af h_v1) h4 Pr L6 (by rw [h6]; rfl)).q fun a F => ?_
    obtain ⟨x5, h7, H⟩ := Ad H
    refine AK F (Ab F Aa Aa Aa Aa) Aa (Ao Aa) (AL (v := Value.bool x5) F Xb Aa (fun w W => (Hg fRec ih) any w ((v3.2.2.2.1)) p0 x4 _ h7 (Ef (BD (Af h_v1) h4 (Ah.snd (Ah.snd (Ah.snd Ah.here))) (congrArg (fun q : Tr34 => q.un.2.2.2) h5)) W))) fun a F => ?_
    refine qs F Aa (Bq F Aa Aa Aa).q fun a F => ?_
    refine qs F Aa (Bj F Aa).q fun a F => ?_
    refine AJ fun w W => ?_
    refine Ac ?_
    have W := W.frontM (i := 1) Aa Aa
    have W := W.frontM (i := 1) Aa Aa
    exact ⟨_, H, F.ra Aa, W⟩
   have H := B6 (CG hb) H
   rw [hb] at F
   clear hb
   iterate 6 refine Bi F (A0 F Aa Aa Aa Aa Aa) Aa Aa fun a F => ?_
   refine qs F Aa (Bp F Aa Aa Aa).q fun a F => ?_
   refine qs F Aa (Bj F Aa).q fun a F => ?_
   refine AJ fun w W => ?_
   refine Ac ?_
   have W := W.frontM (i := 1) Aa Aa
   have W := W.frontM (i := 1) Aa Aa
   exact ⟨_, H, F.ra Aa, W⟩
  rintro a w ⟨x3, hj, F, W⟩
  have hj := AA hj
  subst hj
  have H := K2
  clear G2 K2
  refine Ak (AE (Ax ?_))
  have H := AA H
  subst H
  refine Au (.inl Aa) F W Aa (Am F Aa) ?_
  exact ⟨rfl, W.done⟩
 have H := B6 (CG hb) H
 rw [hb] at F
 clear hb
 refine vc tk 6 F W fun a w F W => ?_
 refine BV F Aa (fun hb => ?_) fun hb => ?_
 ·
  have H := B7 (CE hb) H
  rw [hb] at F
  clear hb
  refine Fj tk 5 [0, 1] F W (ai (ai fun a w F W => ?_))
  refine ls F W Aa (NL (us := (Vg p0)) (vs := []) F Aa Aa).q fun a w F W => ?_
  obtain ⟨x6, h8, H⟩ := Ad H
  refine ls F W Aa (AL (v := Value.bool x6) F WS Aa (fun w W => (Fi fRec ih) any w (v1) p1.un.2.2.2 p0 _ h8 (Ef (Aq CD h1 (Af h_v1)) W))) fun a w F W => ?_
  refine Ck tk 4 F W fun a w F W => ?_
  refine Ak (AE (Ax ?_))
  have H := AA H
  subst H
  refine Au (.inl Aa) F W Aa (Am F Aa) ?_
  exact ⟨rfl, W.done⟩
 have H := B6 (CG hb) H
 rw [hb] at F
 clear hb
 refine vc tk 6 F W fun a w F W => ?_
 refine BV F Aa (fun hb => ?_) fun hb => ?_
 ·
  have H := B7 (CE hb) H
  rw [hb] at F
  clear hb
  refine Fj tk 5 [0, 1] F W (ai (ai fun a w F W => ?_))
  refine ls F W Aa (NL (us := (Vg p0)) (vs := []) F Aa Aa).q fun a w F W => ?_
  obtain ⟨x7, h9, H⟩ := Ad H
  refine ls F W Aa (AL (v := Value.bool x7) F WS Aa (fun w W => (EN fRec ih) any w (v1) p1.un.2.2.2 p0 _ h9 (Ef (Aq CD h1 (Af h_v1)) W))) fun a w F W => ?_
  refine Ck tk 3 F W fun a w F W => ?_
  refine Ak (AE (Ax ?_))
  have H := AA H
  subst H
  refine Au (.inl Aa) F W Aa (Am F Aa) ?_
  exact ⟨rfl, W.done⟩
 have H := B6 (CG hb) H
 rw [hb] at F
 clear hb
 refine AW (AG ?_)
 refine vn tk 5 F W fun a w F W => ?_
 refine Ak ?_
 have H := AA H
 subst H
 refine Au (.inl Aa) F W Aa (Am F Aa) ?_
 exact ⟨rfl, W.done⟩
theorem HZ : ∀ (n : Nat) (Y : Nat → Prop) (w0 : World) (v1 : Value) (p0 : Int × Int × (Int × Int × Int × Int)) (p1 : Tr34) (r : Bool) (H : Bb n p0 p1 = some r) (h_v1 : Sl w0 (NX []) CA v1 p1.un.2.2.2), Calls Tryz.prog 91 #[.agg #[.int .i64 p0.1, .int .i64 p0.2.1, .int .i64 p0.2.2.1, .int .i64 p0.2.2.2.1, .int .i64 p0.2.2.2.2.1, .int .i64 p0.2.2.2.2.2], .agg #[.int .i64 p1.un.1, .int .i64 p1.un.2.1, .int .i64 p1.un.2.2.1, v1]] w0 fun e w' => e = .returned (.bool r) ∧ Below w0.heap.size w0 w' := by
  intro n
  induction n with
  | zero => intro Y w0 v1 p0 p1 r H; exact nomatch H
  | succ n ih => intro Y w0 v1 p0 p1 r H h_v1; exact HE (Bb n) ih Y w0 v1 p0 p1 r H h_v1
theorem IE (Y : Nat → Prop) (w0 : World) (v1 : Value) (p0 : Int × Int × (Int × Int × Int × Int)) (p1 : Tr34) (r : Bool) (H : DO p0 p1 = some r) (h_v1 : Sl w0 (NX []) CA v1 p1.un.2.2.2) :
    Calls Tryz.prog 91 #[.agg #[.int .i64 p0.1, .int .i64 p0.2.1, .int .i64 p0.2.2.1, .int .i64 p0.2.2.2.1, .int .i64 p0.2.2.2.2.1, .int .i64 p0.2.2.2.2.2], .agg #[.int .i64 p1.un.1, .int .i64 p1.un.2.1, .int .i64 p1.un.2.2.1, v1]] w0 fun e w' => e = .returned (.bool r) ∧ Below w0.heap.size w0 w' := by
  obtain ⟨n, H⟩ := CO H
  exact HZ n Y w0 v1 p0 p1 r H h_v1
noncomputable def Gv (p0 : Tr34) (p1 : Int) (p2 : Int) (p3 : Int × Int × Int × Int) : Option Bool := (DO (p1, p2, p3) p0).bind fun x1 => some x1
theorem Mx (Y : Nat → Prop) (w0 : World) (v1 : Value) (p0 : Tr34) (p1 : Int) (p2 : Int) (p3 : Int × Int × Int × Int) (r : Bool) (H : Gv p0 p1 p2 p3 = some r) (h_v1 : Sl w0 (NX []) CA v1 p0.un.2.2.2) :
    Calls Tryz.prog 68 #[.agg #[.int .i64 p0.un.1, .int .i64 p0.un.2.1, .int .i64 p0.un.2.2.1, v1], .int .i64 p1, .int .i64 p2, .agg #[.int .i64 p3.1, .int .i64 p3.2.1, .int .i64 p3.2.2.1, .int .i64 p3.2.2.2]] w0 fun e w' => e = .returned (.bool r) ∧ Below w0.heap.size w0 w' := by
 refine enter Tryz.func68 Aa Tryz.ntmps68 Aa fun a F => ?_
 have W := Stw.start Y w0
 obtain ⟨v2, h1, h_v1⟩ := h_v1.ex CD
 unfold Gv at H
 refine vc tk 2 F W fun a w F W => ?_
 refine CU (cs := (Iy p0 v1)) F W Aa Aa Aa fun b1 a w F W => ?_
 refine CU (cs := (F0 p3)) F W Aa Aa Aa fun b2 a w F W => ?_
 refine FA tk 8 [0] F W (ai fun a w F W => ?_)
 refine ls F W Aa (Cz (v := Value.agg #[.int .i64 p1, .int .i64 p2, .int .i64 p3.1, .int .i64 p3.2.1, .int .i64 p3.2.2.1, .int .i64 p3.2.2.2]) XW F Aa Aa Aa).q fun a w F W => ?_
 refine ls F W Aa (Bv (v := Value.agg #[.int .i64 p0.un.1, .int .i64 p0.un.2.1, .int .i64 p0.un.2.2.1, v1]) 1 F Aa Aa L6 Aa).q fun a w F W => ?_
 obtain ⟨x1, h2, H⟩ := Ad H
 refine ls F W Aa (AL (v := Value.bool x1) F X9 Aa (fun w W => IE any w (v1) (p1, p2, p3) p0 _ h2 (Ef (Aq CD h1 (Af h_v1)) W))) fun a w F W => ?_
 refine Ck tk 3 F W fun a w F W => ?_
 refine Ak ?_
 have H := AA H
 subst H
 refine Au (.inl Aa) F W Aa (Am F Aa) ?_
 exact ⟨rfl, W.done⟩
theorem Wb : type_of% Tryz.underlying3 := Tryz.underlying3
theorem X6 : type_of% Tryz.underlying97 := Tryz.underlying97
theorem YY : Has Tryz.prog 68 := CF Tryz.func68
abbrev CW (x : Int × (Int × Int × Int × Int)) : Value := .agg #[.int .i64 x.1, .int .i64 x.2.1, .int .i64 x.2.2.1, .int .i64 x.2.2.2.1, .int .i64 x.2.2.2.2]
abbrev ST (x : Int × (Int × Int × Int × Int)) : List Int := [x.1, x.2.1, x.2.2.1, x.2.2.2.1, x.2.2.2.2]
abbrev Bh (x y : Int × (Int × Int × Int × Int)) : Bool := HN (ST x) (ST y)
theorem H2 : Lo Bh := VM ST 5 (fun _ => rfl) fun x y h => by simp only [ST, List.cons.injEq] at h; simp only [Prod.ext_iff, h, and_self]
theorem DM : Ty Tryz.prog 63 true 5 := ⟨by kernel_rfl, by kernel_rfl⟩
theorem Xv : Bt Tryz.prog 97 [] [] := ⟨⟨.agg #[], by kernel_rfl, rfl⟩, ⟨_, X6, fun w => by kernel_rfl⟩⟩
theorem X1 (d : Nat) (x0 x1 x2 x3 y0 y1 y2 y3 : Int) (w : World) : (Op.equalIn (d + 2) 29 (.agg #[.int .i64 x0, .int .i64 x1, .int .i64 x2, .int .i64 x3]) (.agg #[.int .i64 y0, .int .i64 y1, .int .i64 y2, .int .i64 y3])).run Tryz.prog w = .ok (decide (x0 = y0 ∧ x1 = y1 ∧ x2 = y2 ∧ x3 = y3)) w :=
  (V1 (d := d) (k := .i64) RE Wb T3 [x0, x1, x2, x3] [y0, y1, y2, y3] rfl rfl w).trans (by congr 1; exact decide_eq_decide.2 (by simp))
theorem Yk (dd : Nat) (x0 : Int) (x1 : Int) (x2 : Int) (x3 : Int) (x4 : Int) (y0 : Int) (y1 : Int) (y2 : Int) (y3 : Int) (y4 : Int) (w : World) : (Op.equalIn (dd + 3) 63 (.agg #[.int .i64 x0, .int .i64 x1, .int .i64 x2, .int .i64 x3, .int .i64 x4]) (.agg #[.int .i64 y0, .int .i64 y1, .int .i64 y2, .int .i64 y3, .int .i64 y4])).run Tryz.prog w = .ok (decide (x0 = y0 ∧ x1 = y1 ∧ x2 = y2 ∧ x3 = y3 ∧ x4 = y4)) w :=
  SX (d := dd + 2) (rs := [decide (x0 = y0), decide (x1 = y1 ∧ x2 = y2 ∧ x3 = y3 ∧ x4 = y4)]) Qg (by kernel_rfl) ⟨rfl, UY (d := dd + 1) rfl rfl Wb T3 rfl rfl, rfl, UD (d := dd + 2) (sz := 4) (xs' := [.int .i64 x1, .int .i64 x2, .int .i64 x3, .int .i64 x4]) (ys' := [.int .i64 y1, .int .i64 y2, .int .i64 y3, .int .i64 y4]) rfl rfl S5 rfl rfl (fun w => X1 (dd + 0) x1 x2 x3 x4 y1 y2 y3 y4 w), trivial⟩ (by rw [Bool.eq_iff_iff]; simp [and_assoc]) w
theorem YI : Tryz.prog.eqGuardType Tryz.prog.depth 63 = false := by kernel_rfl
theorem Yg (x0 : Int) (x1 : Int) (x2 : Int) (x3 : Int) (x4 : Int) (y0 : Int) (y1 : Int) (y2 : Int) (y3 : Int) (y4 : Int) (w : World) : (Op.equalIn 10000 63 (.agg #[.int .i64 x0, .int .i64 x1, .int .i64 x2, .int .i64 x3, .int .i64 x4]) (.agg #[.int .i64 y0, .int .i64 y1, .int .i64 y2, .int .i64 y3, .int .i64 y4])).run Tryz.prog w = .ok (decide (x0 = y0 ∧ x1 = y1 ∧ x2 = y2 ∧ x3 = y3 ∧ x4 = y4)) w := Yk 9997 x0 x1 x2 x3 x4 y0 y1 y2 y3 y4 w
instance : DecidableEq (Int × Int) := inferInstance
instance : DecidableEq (Int × Int × Int) := inferInstance
instance : DecidableEq (Int × Int × Int × Int) := inferInstance
instance : DecidableEq (Int × (Int × Int × Int × Int)) := inferInstance
theorem UF : KeyEnc Tryz.prog 63 CW := ⟨⟨_, Qg, .inl fun _ _ => rfl⟩, fun x y w => (Yg x.1 x.2.1 x.2.2.1 x.2.2.2.1 x.2.2.2.2 y.1 y.2.1 y.2.2.1 y.2.2.2.1 y.2.2.2.2 w).trans (by congr 1; exact decide_eq_decide.2 (by simp only [Prod.ext_iff, and_assoc])), fun b x w => by kernel_rfl, fun x => by simp [Instr.sameBits]⟩
theorem Wr : (Tryz.prog.info? 63).bind (·.zero) = some (.agg #[.int .i64 0, .int .i64 0, .int .i64 0, .int .i64 0, .int .i64 0]) := by kernel_rfl
theorem ZL : (Tryz.prog.info? 29).bind (·.zero) = some (.agg #[.int .i64 0, .int .i64 0, .int .i64 0, .int .i64 0]) := by kernel_rfl
noncomputable def Gp (p0 : Int) : Option Int := (if p0 = 0 then some true else (if p0 = 1 then some true else some (decide (p0 = 3)))).bind fun x1 => (if x1 = true then some 8 else (if p0 = 2 then some 4 else some 0))
theorem OS (Y : Nat → Prop) (w0 : World)  (p0 : Int) (r : Int) (H : Gp p0 = some r)  :
    Calls Tryz.prog 139 #[.int .i64 p0] w0 fun e w' => e = .returned (.int .i64 r) ∧ Below w0.heap.size w0 w' := by
 refine enter Tryz.func139 Aa Tryz.ntmps139 Aa fun a F => ?_
 have W := Stw.start Y w0
 unfold Gp at H
 refine vc tk 12 F W fun a w F W => ?_
 obtain ⟨o1, G1, K1⟩ := Ad H
 refine Ay (fun a w => ∃ x1 : Bool, some (x1) = some o1 ∧ Fr 10 [] [(2, .int .i64 0), (3, .int .i64 p0), (4, .bool x1)] a ∧ Stw ⟨Y, [], w0⟩ [] [] w) ?_ ?_
 ·
  have H := G1
  clear G1 K1
  refine vc tk 6 F W fun a w F W => ?_
  refine BV F Aa (fun hb => ?_) fun hb => ?_
  ·
   have H := B7 (CE hb) H
   rw [hb] at F
   clear hb
   refine AW (Ac ?_)
   exact ⟨_, H, F.ra Aa, W⟩
  have H := B6 (CG hb) H
  rw [hb] at F
  clear hb
  refine vc tk 6 F W fun a w F W => ?_
  refine BV F Aa (fun hb => ?_) fun hb => ?_
  ·
   have H := B7 (CE hb) H
   rw [hb] at F
   clear hb
   refine AW (Ac ?_)
   exact ⟨_, H, F.ra Aa, W⟩
  have H := B6 (CG hb) H
  rw [hb] at F
  clear hb
  refine vc tk 4 F W fun a w F W => ?_
  refine Ac ?_
  exact ⟨_, H, F.ra Aa, W⟩
 rintro a w ⟨x1, hj, F, W⟩
 have hj := AA hj
 subst hj
 have H := K1
 clear G1 K1
 refine Cv F Aa H (fun F H => ?_) fun F H => ?_
 ·
  refine vc tk 5 F W fun a w F W => ?_
  refine Ak (AE (Ax ?_))
  have H := AA H
  subst H
  refine Au (.inl Aa) F W Aa (Am F Aa) ?_
  exact ⟨rfl, W.done⟩
 refine vc tk 6 F W fun a w F W => ?_
 refine BV F Aa (fun hb => ?_) fun hb => ?_
 ·
  have H := B7 (CE hb) H
  rw [hb] at F
  clear hb
  refine vc tk 5 F W fun a w F W => ?_
  refine Ak (AE (Ax ?_))
  have H := AA H
  subst H
  refine Au (.inl Aa) F W Aa (Am F Aa) ?_
  exact ⟨rfl, W.done⟩
 have H := B6 (CG hb) H
 rw [hb] at F
 clear hb
 refine AW (AG ?_)
 refine vn tk 5 F W fun a w F W => ?_
 refine Ak ?_
 have H := AA H
 subst H
 refine Au (.inl Aa) F W Aa (Am F Aa) ?_
 exact ⟨rfl, W.done⟩
theorem Yr : Has Tryz.prog 139 := CF Tryz.func139
noncomputable def D5 (p0 : Int) : Option Int := (Gp p0).bind fun x1 => (Wa (Hi .i64 1 x1) x1).bind fun x2 => some (AO (x2 - 1))
theorem Lk (Y : Nat → Prop) (w0 : World)  (p0 : Int) (r : Int) (H : D5 p0 = some r)  :
    Calls Tryz.prog 117 #[.int .i64 p0] w0 fun e w' => e = .returned (.int .i64 r) ∧ Below w0.heap.size w0 w' := by
 refine enter Tryz.func117 Aa Tryz.ntmps117 Aa fun a F => ?_
 have W := Stw.start Y w0
 unfold D5 at H
 refine vc tk 8 F W fun a w F W => ?_
 obtain ⟨x1, h1, H⟩ := Ad H
 refine ls F W Aa (AL (v := Value.int .i64 x1) F Yr Aa (fun w W => OS any w p0 _ h1)) fun a w F W => ?_
 obtain ⟨x2, h2, H⟩ := Ad H
 refine ls F W Aa (Vz (Lm h2).2 (St F Aa Aa (Lm h2).1)).q fun a w F W => ?_
 refine Ck tk 4 F W fun a w F W => ?_
 refine Ak ?_
 have H := AA H
 subst H
 refine Au (.inl Aa) F W Aa (Am F Aa) ?_
 exact ⟨rfl, W.done⟩
theorem WD : Has Tryz.prog 117 := CF Tryz.func117
noncomputable def DC (p0 : Int) (p1 : Int) : Option Bool := (if 0 ≤ p1 then (D5 p0).bind fun x2 => some (decide (p1 ≤ x2)) else some false).bind fun x1 => some x1
theorem OV (Y : Nat → Prop) (w0 : World)  (p0 : Int) (p1 : Int) (r : Bool) (H : DC p0 p1 = some r)  :
    Calls Tryz.prog 124 #[.int .i64 p0, .int .i64 p1] w0 fun e w' => e = .returned (.bool r) ∧ Below w0.heap.size w0 w' := by
 refine enter Tryz.func124 Aa Tryz.ntmps124 Aa fun a F => ?_
 have W := Stw.start Y w0
 unfold DC at H
 refine vc tk 5 F W fun a w F W => ?_
 obtain ⟨o1, G1, K1⟩ := Ad H
 refine Ay (fun a w => ∃ x1 : Bool, some (x1) = some o1 ∧ Fr 13 [] [(4, .bool x1)] a ∧ Stw ⟨Y, [], w0⟩ [] [] w) ?_ ?_
 ·
  have H := G1
  clear G1 K1
  refine vc tk 4 F W fun a w F W => ?_
  rcases Bool.eq_false_or_eq_true (decide (0 ≤ p1)) with hb | hb
  ·
   have H := B7 (CE hb) H
   rw [hb] at F
   clear hb
   refine vl tk 2 F W fun a w F W => ?_
   refine HJ (Ab F Aa Aa Aa Aa) ?_
   obtain ⟨x2, h1, H⟩ := Ad H
   refine ls F W Aa (AL (v := Value.int .i64 x2) F WD Aa (fun w W => Lk any w p0 _ h1)) fun a w F W => ?_
   refine vl tk 4 F W fun a w F W => ?_
   refine Ac ?_
   exact ⟨_, H, F.ra Aa, W⟩
  have H := B6 (CG hb) H
  rw [hb] at F
  clear hb
  refine vl tk 7 F W fun a w F W => ?_
  refine Ac ?_
  exact ⟨_, H, F.ra Aa, W⟩
 rintro a w ⟨x1, hj, F, W⟩
 have hj := AA hj
 subst hj
 have H := K1
 clear G1 K1
 refine Ak ?_
 have H := AA H
 subst H
 refine Au (.inl Aa) F W Aa (Am F Aa) ?_
 exact ⟨rfl, W.done⟩
theorem Yo : Has Tryz.prog 124 := CF Tryz.func124
abbrev Vq  : List Value := [.int .i64 0, .int .i64 0, .int .i64 0, .int .i64 0]
noncomputable def C4 (p0 : Int × Int × Int × Int) (p1 : Int) (p2 : Int) : Option (Int × Int × Int × Int) := ((if (CB p1) = true then (DC p1 p2).bind fun x6 => some x6 else some false).bind fun x5 => (if x5 = true then (ix ([p0.1, p0.2.1, p0.2.2.1, p0.2.2.2] : List Int) p1).bind fun x7 => some ((if p1 = 0 then p2 else p0.1), (if p1 = 1 then p2 else p0.2.1), (if p1 = 2 then p2 else p0.2.2.1), (if p1 = 3 then p2 else p0.2.2.2)) else some (p0.1, p0.2.1, p0.2.2.1, p0.2.2.2))).bind fun (x1, x2, x3, x4) => some (x1, x2, x3, x4)
theorem OY (Y : Nat → Prop) (w0 : World)  (p0 : Int × Int × Int × Int) (p1 : Int) (p2 : Int) (r : (Int × Int × Int × Int)) (H : C4 p0 p1 p2 = some r)  :
    Calls Tryz.prog 92 #[.agg #[.int .i64 p0.1, .int .i64 p0.2.1, .int .i64 p0.2.2.1, .int .i64 p0.2.2.2], .int .i64 p1, .int .i64 p2] w0 fun e w' => e = .returned (.agg #[.int .i64 r.1, .int .i64 r.2.1, .int .i64 r.2.2.1, .int .i64 r.2.2.2]) ∧ Below w0.heap.size w0 w' := by
 refine enter Tryz.func92 Aa Tryz.ntmps92 Aa fun a F => ?_
 have W := Stw.start Y w0
 unfold C4 at H
 refine vc tk 2 F W fun a w F W => ?_
 refine CU (cs := (F0 p0)) F W Aa Aa Aa fun b1 a w F W => ?_
 refine B8 (cs := (Vq)) F W Aa ZL Aa fun b2 a w F W => ?_
 refine Ev (Ac ?_)
 obtain ⟨o1, G1, K1⟩ := Ad H
 refine Ay (fun a w => ∃ x1 : Int, ∃ x2 : Int, ∃ x3 : Int, ∃ x4 : Int, some ((x1, x2, x3, x4)) = some o1 ∧ Fr 18 [] [(3, .pointer (some ⟨b1, 0, none⟩)), (6, .pointer (some ⟨b2, 0, none⟩))] a ∧ Stw ⟨Y, [], w0⟩ [(b2, [.int .i64 0, .int .i64 0, .int .i64 0, .int .i64 0]), (b1, [.int .i64 x1, .int .i64 x2, .int .i64 x3, .int .i64 x4])] [] w) ?_ ?_
 ·
  have H := G1
  clear G1 K1
  obtain ⟨o2, G2, K2⟩ := Ad H
  refine Ay (fun a w => ∃ x5 : Bool, some (x5) = some o2 ∧ Fr 18 [] [(1, .int .i64 p1), (2, .int .i64 p2), (3, .pointer (some ⟨b1, 0, none⟩)), (6, .pointer (some ⟨b2, 0, none⟩)), (13, .bool x5)] a ∧ Stw ⟨Y, [], w0⟩ [(b2, [.int .i64 0, .int .i64 0, .int .i64 0, .int .i64 0]), (b1, [.int .i64 p0.1, .int .i64 p0.2.1, .int .i64 p0.2.2.1, .int .i64 p0.2.2.2])] [] w) ?_ ?_
  ·
   have H := G2
   clear G2 K2
   refine vc tk 2 F W fun a w F W => ?_
   refine ls F W Aa (AL (v := Value.bool (CB p1)) F Xj Aa (fun w W => J5 any w p1 _ Aa)) fun a w F W => ?_
   refine ls F W Aa (An F Aa).q fun a w F W => ?_
   rcases Bool.eq_false_or_eq_true (CB p1) with hb | hb
   ·
    have H := B7 hb H
    rw [hb] at F
    clear hb
    refine vl tk 2 F W fun a w F W => ?_
    refine HJ (Ab F Aa Aa Aa Aa) ?_
    obtain ⟨x6, h1, H⟩ := Ad H
    refine ls F W Aa (AL (v := Value.bool x6) F Yo Aa (fun w W => OV any w p1 p2 _ h1)) fun a w F W => ?_
    refine vl tk 2 F W fun a w F W => ?_
    refine Ac ?_
    have W := W.frontM (i := 1) Aa Aa
    have W := W.frontM (i := 1) Aa Aa
    exact ⟨_, H, F.ra Aa, W⟩
   have H := B6 (by rw [hb]; decide) H
   rw [hb] at F
   clear hb
   refine vl tk 5 F W fun a w F W => ?_
   refine Ac ?_
   have W := W.frontM (i := 1) Aa Aa
   have W := W.frontM (i := 1) Aa Aa
   exact ⟨_, H, F.ra Aa, W⟩
  rintro a w ⟨x5, hj, F, W⟩
  have hj := AA hj
  subst hj
  have H := K2
  clear G2 K2
  refine Cv F Aa H (fun F H => ?_) fun F H => ?_
  ·
   refine vc tk 3 F W fun a w F W => ?_
   obtain ⟨x7, h2, H⟩ := Ad H
   refine ls F W Aa (Qk (0 + (p1).toNat * 1) RE F Aa Aa Aa h2 Aa).q fun a w F W => ?_
   refine QG (o := 0) (m := 4) (i := p1) (l := ([p0.1, p0.2.1, p0.2.2.1, p0.2.2.2] : List Int)) (x := x7) (cs := (F0 p0)) (cs' := [.int .i64 (if p1 = 0 then p2 else p0.1), .int .i64 (if p1 = 1 then p2 else p0.2.1), .int .i64 (if p1 = 2 then p2 else p0.2.2.1), .int .i64 (if p1 = 3 then p2 else p0.2.2.2)]) 1 F W Aa Aa Aa T3 Aa Aa Aa Aa h2 (by intro k hk hn; rw [hk]; match k, hn with | 0, _ => rfl | 1, _ => rfl | 2, _ => rfl | 3, _ => rfl | (z + 4), h => exact absurd h (by omega)) fun w W => ?_
   have W : Stw ⟨Y, [], w0⟩ [(b2, (Vq)), (b1, [.int .i64 (if p1 = 0 then p2 else p0.1), .int .i64 (if p1 = 1 then p2 else p0.2.1), .int .i64 (if p1 = 2 then p2 else p0.2.2.1), .int .i64 (if p1 = 3 then p2 else p0.2.2.2)])] [] w := W
   refine Ev (Ac ?_)
   have W := W.frontM (i := 1) Aa Aa
   have W := W.frontM (i := 1) Aa Aa
   exact ⟨_, _, _, _, H, F.ra Aa, W⟩
  refine AW (Ac ?_)
  have W := W.frontM (i := 1) Aa Aa
  have W := W.frontM (i := 1) Aa Aa
  exact ⟨_, _, _, _, H, F.ra Aa, W⟩
 rintro a w ⟨x1, x2, x3, x4, hj, F, W⟩
 have hj := AA hj
 subst hj
 have H := K1
 clear G1 K1
 refine Fj tk 3 [1] F W (ai fun a w F W => ?_)
 refine D2 0 F W Aa Aa Aa S5 Aa Aa Aa fun w W => ?_
 refine Ck tk 2 F W fun a w F W => ?_
 refine Ak ?_
 have H := AA H
 subst H
 refine Au (.inl Aa) F W Aa (Ib 0 F Aa Aa S5 Aa) ?_
 exact ⟨rfl, W.done⟩
theorem ZA : Has Tryz.prog 92 := CF Tryz.func92
abbrev CQ (a0 : Int × (Int × Int × Int × Int)) : List Value := [.int .i64 a0.1, .int .i64 a0.2.1, .int .i64 a0.2.2.1, .int .i64 a0.2.2.2.1, .int .i64 a0.2.2.2.2]
abbrev TY  : List Value := [.int .i64 0, .int .i64 0, .int .i64 0, .int .i64 0, .int .i64 0]
abbrev Wo (a0 : Nat) (a1 : Nat) (a2 : Int) (a3 : Int × (Int × Int × Int × Int)) : List (Nat × List Value) := [(a0, [.int .i64 0, .int .i64 0, .int .i64 0, .int .i64 0, .int .i64 0]), (a1, [.int .i64 a2, .int .i64 a3.2.1, .int .i64 a3.2.2.1, .int .i64 a3.2.2.2.1, .int .i64 a3.2.2.2.2])]
noncomputable def Cd (p0 : Int × (Int × Int × Int × Int)) (p1 : Int) (p2 : Int) : Option (Int × (Int × Int × Int × Int)) := (if p1 = 4 then some p2 else some p0.1).bind fun x1 => (C4 p0.2 p1 p2).bind fun x2 => some (x1, x2)
theorem Lt (Y : Nat → Prop) (w0 : World)  (p0 : Int × (Int × Int × Int × Int)) (p1 : Int) (p2 : Int) (r : (Int × (Int × Int × Int × Int))) (H : Cd p0 p1 p2 = some r)  :
    Calls Tryz.prog 69 #[.agg #[.int .i64 p0.1, .int .i64 p0.2.1, .int .i64 p0.2.2.1, .int .i64 p0.2.2.2.1, .int .i64 p0.2.2.2.2], .int .i64 p1, .int .i64 p2] w0 fun e w' => e = .returned (.agg #[.int .i64 r.1, .int .i64 r.2.1, .int .i64 r.2.2.1, .int .i64 r.2.2.2.1, .int .i64 r.2.2.2.2]) ∧ Below w0.heap.size w0 w' := by
 refine enter Tryz.func69 Aa Tryz.ntmps69 Aa fun a F => ?_
 have W := Stw.start Y w0
 unfold Cd at H
 refine vc tk 2 F W fun a w F W => ?_
 refine CU (cs := (CQ p0)) F W Aa Aa Aa fun b1 a w F W => ?_
 refine B8 (cs := (TY)) F W Aa Wr Aa fun b2 a w F W => ?_
 refine Ev (Ac ?_)
 obtain ⟨o1, G1, K1⟩ := Ad H
 refine Ay (fun a w => ∃ x1 : Int, some (x1) = some o1 ∧ Fr 18 [] [(1, .int .i64 p1), (2, .int .i64 p2), (3, .pointer (some ⟨b1, 0, none⟩)), (6, .pointer (some ⟨b2, 0, none⟩))] a ∧ Stw ⟨Y, [], w0⟩ (Wo b2 b1 x1 p0) [] w) ?_ ?_
 ·
  have H := G1
  clear G1 K1
  refine vc tk 6 F W fun a w F W => ?_
  refine BI F Aa H (fun F H => ?_) fun F H => ?_
  ·
   refine vc tk 3 F W fun a w F W => ?_
   refine D2 1 F W Aa Aa Aa T3 Aa Aa Aa fun w W => ?_
   refine Ev (Ac ?_)
   have W := W.frontM (i := 1) Aa Aa
   have W := W.frontM (i := 1) Aa Aa
   exact ⟨_, H, F.ra Aa, W⟩
  refine AW (Ac ?_)
  have W := W.frontM (i := 1) Aa Aa
  have W := W.frontM (i := 1) Aa Aa
  exact ⟨_, H, F.ra Aa, W⟩
 rintro a w ⟨x1, hj, F, W⟩
 have hj := AA hj
 subst hj
 have H := K1
 clear G1 K1
 refine Fj tk 6 [1] F W (ai fun a w F W => ?_)
 obtain ⟨x2, h1, H⟩ := Ad H
 refine ls F W Aa (AL (v := Value.agg #[.int .i64 x2.1, .int .i64 x2.2.1, .int .i64 x2.2.2.1, .int .i64 x2.2.2.2]) F ZA Aa (fun w W => OY any w p0.2 p1 p2 _ h1)) fun a w F W => ?_
 refine ls F W Aa (Ap Qg Aa Aa Aa S5 F Aa 1 Aa).q fun a w F W => ?_
 refine D2 1 F W Aa Aa Aa S5 Aa Aa Aa fun w W => ?_
 refine FA tk 5 [1] F W (ai fun a w F W => ?_)
 refine D2 0 F W Aa Aa Aa DM Aa Aa Aa fun w W => ?_
 refine Ck tk 2 F W fun a w F W => ?_
 refine Ak ?_
 have H := AA H
 subst H
 refine Au (.inl Aa) F W Aa (Ib 0 F Aa Aa DM Aa) ?_
 exact ⟨rfl, W.done⟩
theorem Rm : type_of% Tryz.underlying73 := Tryz.underlying73
theorem Y4 : Has Tryz.prog 69 := CF Tryz.func69
theorem Uv : Ty Tryz.prog 35 false 1 := ⟨by kernel_rfl, by kernel_rfl⟩
abbrev Hy (a : Int × (Int × Int × Int × (Value × List Tr34)) × Int × Int × (Value × List Tr37)) : List Value := [.int .i64 a.1, .int .i64 a.2.1.1, .int .i64 a.2.1.2.1, .int .i64 a.2.1.2.2.1, a.2.1.2.2.2.1, .int .i64 a.2.2.1, .int .i64 a.2.2.2.1, a.2.2.2.2.1]
theorem NH : Fo FV Hy := (Fo.pair Fl.int.to (Fo.pair (Fo.pair Fl.int.to (Fo.pair Fl.int.to (Fo.pair Fl.int.to Fo.vsl))) (Fo.pair Fl.int.to (Fo.pair Fl.int.to Fo.vsl))))
theorem Xn : Has Tryz.prog 39 := CF Tryz.func39
theorem Tw (Y : Nat → Prop) (X : List Nat) (w0 : World) (v0 v1 : Value) (s0 s1 : List (Int × (Int × Int × Int × Int))) (hL : Stw ⟨Y, X, w0⟩ [] [Cx v0 CW Bh s0, Cx v1 CW Bh s1] w0) :
    Calls Tryz.prog 71 #[v0, v1] w0 fun e w' => ∃ x : Unit, e = .returned (.tuple #[]) ∧ Stw ⟨Y, X, w0⟩ [] [Cx v1 CW Bh s1, Cx v0 CW Bh (Jf Bh s0 s1)] w' := by
  refine enter Tryz.func71 Aa Tryz.ntmps71 Aa fun a F => ?_
  have hA : H4 Bh s0 := hL.asc (i := 0) Aa
  refine FN (JQ (l := [_, _]) ?_)
  refine ls F hL Aa (An F Aa).q fun a w F W => ?_
  refine KW (q := 1) F W Aa Aa Aa Aa Rm fun i b es clock l a w hv hE F W => ?_
  refine Ev (Ac (Ec ?_))
  refine Pl (fun done s => s = Jf Bh s0 done) (fun _ => [(0, v0)]) (fun s => [Cx v0 CW Bh s]) (F.ra Aa) W hE Aa Aa Aa (fun done kx s seen a w hk hc hR F W => ?_) fun done s seen a w hp hR F W => ?_
  · refine Ec (FN (JQ (l := [_, _, _, _]) ?_))
    refine ls F W Aa (Lb (q := 0) (q' := 1) F Aa Aa Aa hc).q fun a w F W => ?_
    refine ls F W Aa (Dl (vs := [CW kx, .agg #[]]) F Aa Aa).q fun a w F W => ?_
    refine B8 F W Aa Wr Aa fun b2 a w F W => ?_
    refine Nf 0 F W Aa Aa Aa DM Aa Aa Aa Aa Aa fun w W => ?_
    refine Ev (Ac (JQ (l := [_, _, _, _]) ?_))
    refine GH tk 2 [0] F W (ai fun a w F W => ?_)
    refine ls F W Aa (Cz (zs := []) (cs := []) (parts := []) (vp := []) (v := .agg #[]) Xv F Aa Aa Aa).q fun a w F W => ?_
    refine TN (q := 2) kx F W Aa Aa Aa Aa Aa UF H2 Rm fun w W => ?_
    refine Ev (AG (Ac ⟨_, ?_, F.ra Aa, (W.frontZ (i := 2) Aa Aa |>.frontZ (i := 2) Aa Aa |>.sub (List.nil_sublist _) (List.Sublist.refl _))⟩))
    rw [hR]; simp only [Jf, List.foldl_append, List.foldl_cons, List.foldl_nil]
  · have W := W.unfix hE
    rw [← hv] at W
    rw [hR, Ti H2 hA hp] at W
    refine Bo (Jq (.inr Aa) F Aa ?_)
    exact ⟨(), Aa, W⟩
theorem YF : Has Tryz.prog 71 := CF Tryz.func71
abbrev O7 (a0 : Nat) (a1 : Int × (Int × Int × Int × Int)) : List (Nat × List Value) := [(a0, [.int .i64 a1.1, .int .i64 a1.2.1, .int .i64 a1.2.2.1, .int .i64 a1.2.2.2.1, .int .i64 a1.2.2.2.2])]
abbrev F4  : List Value := [.int .i64 0, .int .i64 0, .int .i64 0, .int .i64 0, .slice none 0 0, .int .i64 0, .int .i64 0, .slice none 0 0]
noncomputable def Cq (fRec_policy_results : Tr37 → Int → (Int × (Int × Int × Int × Int)) → Option (List (Int × (Int × Int × Int × Int)))) (p1 : Int) (x4 : Tr37) (kx760 : Int × (Int × Int × Int × Int)) : Option (List (Int × (Int × Int × Int × Int))) := (fRec_policy_results (Tr37.of (x4.un.1, Tr34.of (x4.un.2.1.un.1, x4.un.2.1.un.2.1, x4.un.2.1.un.2.2.1, x4.un.2.1.un.2.2.2), x4.un.2.2.1, x4.un.2.2.2.1, x4.un.2.2.2.2)) p1 kx760).bind fun x6 => some x6
noncomputable def BM (fRec_policy_results : Tr37 → Int → (Int × (Int × Int × Int × Int)) → Option (List (Int × (Int × Int × Int × Int)))) (p0 : List Tr37) (p1 : Int) : ((List (Int × (Int × Int × Int × Int))) × Int) → Option (((List (Int × (Int × Int × Int × Int))) × Int) ⊕ (List (Int × (Int × Int × Int × Int))))
  | (x2, x3) => (if x3 < (p0.length : Int) then (ix p0 x3).bind fun x4 => (GG Bh (Cq fRec_policy_results p1 x4) x2 ([] : List (Int × (Int × Int × Int × Int)))).bind fun x5 => some (.inl (x5, AO (x3 + 1))) else some (.inr x2))
noncomputable def CI (fRec_policy_results : Tr37 → Int → (Int × (Int × Int × Int × Int)) → Option (List (Int × (Int × Int × Int × Int)))) (p0 : List Tr37) (p1 : Int) (p2 : Int × (Int × Int × Int × Int)) : Option (List (Int × (Int × Int × Int × Int))) := (AY (BM fRec_policy_results p0 p1) ((FM Bh ([] : List (Int × (Int × Int × Int × Int))) p2), 0)).bind fun x1 => some x1
theorem Ks (fRec_policy_results : Tr37 → Int → (Int × (Int × Int × Int × Int)) → Option (List (Int × (Int × Int × Int × Int)))) (ih_policy_results : ∀ (Y : Nat → Prop) (w0 : World) (v1 : Value) (v2 : Value) (p0 : Tr37) (p1 : Int) (p2 : Int × (Int × Int × Int × Int)) (r : (List (Int × (Int × Int × Int × Int)))) (H : fRec_policy_results p0 p1 p2 = some r) (h_v1 : Sl w0 (NX []) CA v1 p0.un.2.1.un.2.2.2) (s_v2 : Sl w0 Y C9 v2 p0.un.2.2.2.2), Calls Tryz.prog 39 #[.agg #[.int .i64 p0.un.1, .int .i64 p0.un.2.1.un.1, .int .i64 p0.un.2.1.un.2.1, .int .i64 p0.un.2.1.un.2.2.1, v1, .int .i64 p0.un.2.2.1, .int .i64 p0.un.2.2.2.1, v2], .int .i64 p1, .agg #[.int .i64 p2.1, .int .i64 p2.2.1, .int .i64 p2.2.2.1, .int .i64 p2.2.2.2.1, .int .i64 p2.2.2.2.2]] w0 fun e w' => ∃ x : Value, e = .returned (x) ∧ Stw ⟨Y, [], w0⟩ [] [Cx (x) CW Bh r] w') (Y : Nat → Prop) (w0 : World) (v1 : Value) (p0 : List Tr37) (p1 : Int) (p2 : Int × (Int × Int × Int × Int)) (r : (List (Int × (Int × Int × Int × Int)))) (H : CI fRec_policy_results p0 p1 p2 = some r) (s_v1 : Sl w0 Y C9 v1 p0) :
    Calls Tryz.prog 70 #[v1, .int .i64 p1, .agg #[.int .i64 p2.1, .int .i64 p2.2.1, .int .i64 p2.2.2.1, .int .i64 p2.2.2.2.1, .int .i64 p2.2.2.2.2]] w0 fun e w' => ∃ x : Value, e = .returned (x) ∧ Stw ⟨Y, [], w0⟩ [] [Cx (x) CW Bh r] w' := by
 refine enter Tryz.func70 Aa Tryz.ntmps70 Aa fun a F => ?_
 have W := Stw.start Y w0
 obtain ⟨v2, h1, s_v1⟩ := s_v1.ex ED
 have h_v1 := W.nx s_v1
 unfold CI at H
 refine vc tk 2 F W fun a w F W => ?_
 refine CU (cs := (CQ p2)) F W Aa Aa Aa fun b1 a w F W => ?_
 refine Ck tk 5 F W fun a w F W => ?_
 refine Hv CW Bh F W Aa fun v3 a w F W => ?_
 have W : Stw ⟨Y, [], w0⟩ (O7 b1 p2) [Cx v3 CW Bh ([] : List (Int × (Int × Int × Int × Int)))] w := W
 refine ls F W Aa (Bv (v := Value.agg #[.int .i64 p2.1, .int .i64 p2.2.1, .int .i64 p2.2.2.1, .int .i64 p2.2.2.2.1, .int .i64 p2.2.2.2.2]) 0 F Aa Aa DM Aa).q fun a w F W => ?_
 refine ls F W Aa (Cz (v := Value.agg #[]) Xv F Aa Aa Aa).q fun a w F W => ?_
 refine l_setput' (q := 0) (p2 : Int × (Int × Int × Int × Int)) F W Aa Aa Aa Aa Aa UF H2 Rm fun w W => ?_
 have W : Stw ⟨Y, [], w0⟩ (O7 b1 p2) [Cx v3 CW Bh (FM Bh ([] : List (Int × (Int × Int × Int × Int))) p2)] w := W
 refine vl tk 3 F W fun a w F W => ?_
 refine Ac ?_
 obtain ⟨o1, G1, K1⟩ := Ad H
 refine Ay (fun a w => ∃ x1 : List (Int × (Int × Int × Int × Int)), ∃ v4 : Value, some (x1) = some o1 ∧ Fr 38 [] [(6, .map none), (7, v4)] a ∧ Stw ⟨Y, [], w0⟩ (O7 b1 p2) [Cx v4 CW Bh x1] w) ?_ ?_
 ·
  have H := G1
  clear G1 K1
  refine vc tk 3 F W fun a w F W => ?_
  refine ls F W Aa (CP (r := C9) (l := p0) Kr Aa F Aa (Aq ED h1 (Af h_v1))).q fun a w F W => ?_
  refine Ck tk 4 F W fun a w F W => ?_
  refine BE H (fun s a w => ∃ v5 : Value, Fr 38 [] [(1, .int .i64 p1), (6, .map none), (7, v5), (16, v1), (17, .int .i64 (p0.length : Int)), (18, .int .i64 s.2)] a ∧ Stw ⟨Y, [], w0⟩ (O7 b1 p2) [Cx v5 CW Bh s.1] w) ⟨(v3), F.ra Aa, W⟩ fun s o a w H L2 hR => ?_
  obtain ⟨x2, x3⟩ := s
  obtain ⟨v5, F, W⟩ := hR
  have F : Fr 38 [] [(1, .int .i64 p1), (6, .map none), (7, v5), (16, v1), (17, .int .i64 (p0.length : Int)), (18, .int .i64 x3)] a := F
  have W : Stw ⟨Y, [], w0⟩ (O7 b1 p2) [Cx v5 CW Bh x2] w := W
  rw [BM] at H
  refine vc tk 6 F W fun a w F W => ?_
  refine BI F Aa H (fun F H => ?_) fun F H => ?_
  ·
   refine FJ tk 6 F W fun a w F W => ?_
   obtain ⟨x4, h2, H⟩ := Ad H
   obtain ⟨v6, h3, h4⟩ := DH h1 h2
   have h5 : Hy v6 = [.int .i64 x4.un.1, .int .i64 x4.un.2.1.un.1, .int .i64 x4.un.2.1.un.2.1, .int .i64 x4.un.2.1.un.2.2.1, (v6.2.1.2.2.2.1), .int .i64 x4.un.2.2.1, .int .i64 x4.un.2.2.2.1, (v6.2.2.2.2.1)] := congrArg (fun q : Tr37 => ([.int .i64 q.un.1, .int .i64 q.un.2.1.un.1, .int .i64 q.un.2.1.un.2.1, .int .i64 q.un.2.1.un.2.2.1, (v6.2.1.2.2.2.1), .int .i64 q.un.2.2.1, .int .i64 q.un.2.2.2.1, (v6.2.2.2.2.1)] : List Value)) h4
   refine ls F W Aa (Av (r := FV) OO F Aa Aa (Af h_v1) h3).q fun a w F W => ?_
   refine ls F W Aa (Al (y := Value.agg #[.int .i64 x4.un.1, .int .i64 x4.un.2.1.un.1, .int .i64 x4.un.2.1.un.2.1, .int .i64 x4.un.2.1.un.2.2.1, (v6.2.1.2.2.2.1), .int .i64 x4.un.2.2.1, .int .i64 x4.un.2.2.2.1, (v6.2.2.2.2.1)]) (j := 0) (i := x3) (enc := Hy) F Aa Aa (Af h_v1) h3 NH IF (by rw [h5]; rfl)).q fun a w F W => ?_
   refine B8 (cs := (F4)) F W Aa Mk Aa fun b2 a w F W => ?_
   refine D2 0 F W Aa Aa Aa IF Aa Aa (Ae Aa (Ae Aa (Ae Aa (Ae Aa (Ae ((BD (Af h_v1) h3 (Ah.snd (Ah.fst (Ah.snd (Ah.snd (Ah.snd Ah.here))))) (congrArg (fun q : Tr37 => q.un.2.1.un.2.2.2) h4)) _ W).one (Ae Aa (Ae Aa (Ae ((BD (Af h_v1) h3 (Ah.snd (Ah.snd (Ah.snd (Ah.snd Ah.here)))) (congrArg (fun q : Tr37 => q.un.2.2.2.2) h4)) _ W).one Da)))))))) fun w W => ?_
   refine Ck tk 4 F W fun a w F W => ?_
   refine Hv CW Bh F W Aa fun v7 a w F W => ?_
   have W : Stw ⟨Y, [], w0⟩ [(b2, [.int .i64 x4.un.1, .int .i64 x4.un.2.1.un.1, .int .i64 x4.un.2.1.un.2.1, .int .i64 x4.un.2.1.un.2.2.1, (v6.2.1.2.2.2.1), .int .i64 x4.un.2.2.1, .int .i64 x4.un.2.2.2.1, (v6.2.2.2.2.1)]), (b1, (CQ p2))] [Cx v7 CW Bh ([] : List (Int × (Int × Int × Int × Int))), Cx v5 CW Bh x2] w := W
   refine Ck tk 7 F W fun a w F W => ?_
   refine KW (q := 1) F W Aa Aa Aa Aa Rm fun i760 m760 e760 c760 l760 a w hv760 hE760 F W => ?_
   have W : Stw ⟨Y, [], w0⟩ [(b2, [.int .i64 x4.un.1, .int .i64 x4.un.2.1.un.1, .int .i64 x4.un.2.1.un.2.1, .int .i64 x4.un.2.1.un.2.2.1, (v6.2.1.2.2.2.1), .int .i64 x4.un.2.2.1, .int .i64 x4.un.2.2.2.1, (v6.2.2.2.2.1)]), (b1, (CQ p2))] [Ga i760 m760 c760 #[] c760, FY m760 e760 c760, Cx v7 CW Bh ([] : List (Int × (Int × Int × Int × Int)))] w := W
   refine Ck tk 3 F W fun a w F W => ?_
   obtain ⟨x5, h6, H⟩ := Ad H
   refine Tc (Ff := [(1, .int .i64 p1), (6, .map none), (7, v5), (9, .pointer (some ⟨b2, 0, none⟩)), (10, v7), (16, v1), (17, .int .i64 (p0.length : Int)), (18, .int .i64 x3), (19, .bool true), (21, .agg #[.int .i64 x4.un.1, .int .i64 x4.un.2.1.un.1, .int .i64 x4.un.2.1.un.2.1, .int .i64 x4.un.2.1.un.2.2.1, (v6.2.1.2.2.2.1), .int .i64 x4.un.2.2.1, .int .i64 x4.un.2.2.2.1, (v6.2.2.2.2.1)]), (22, v7), (23, v5)]) (Zr := []) (va := v7) H2 h6 (F.ra Aa) W hv760 hE760 Aa Aa (fun kx760 r760 s760 sn760 a w G760_ hc760 F W => ?_) fun a w F W => ?_
   ·
    have F : Fr 38 [] [(1, .int .i64 p1), (6, .map none), (7, v5), (9, .pointer (some ⟨b2, 0, none⟩)), (10, v7), (16, v1), (17, .int .i64 (p0.length : Int)), (18, .int .i64 x3), (19, .bool true), (21, .agg #[.int .i64 x4.un.1, .int .i64 x4.un.2.1.un.1, .int .i64 x4.un.2.1.un.2.1, .int .i64 x4.un.2.1.un.2.2.1, (v6.2.1.2.2.2.1), .int .i64 x4.un.2.2.1, .int .i64 x4.un.2.2.2.1, (v6.2.2.2.2.1)]), (22, v7), (23, v5), (24, .pointer (some ⟨i760, 0, none⟩)), (25, .tuple #[.bool true, .agg #[.int .i64 kx760.1, .int .i64 kx760.2.1, .int .i64 kx760.2.2.1, .int .i64 kx760.2.2.2.1, .int .i64 kx760.2.2.2.2], .agg #[]]), (26, .bool true)] a := F.ra Aa
    have W : Stw ⟨Y, [], w0⟩ [(b2, [.int .i64 x4.un.1, .int .i64 x4.un.2.1.un.1, .int .i64 x4.un.2.1.un.2.1, .int .i64 x4.un.2.1.un.2.2.1, (v6.2.1.2.2.2.1), .int .i64 x4.un.2.2.1, .int .i64 x4.un.2.2.2.1, (v6.2.2.2.2.1)]), (b1, (CQ p2))] [Ga i760 m760 c760 sn760 c760, FY m760 e760 c760, Cx v7 CW Bh s760] w := W
    have H := G760_
    rw [Cq] at H
    refine vc tk 3 F W fun a w F W => ?_
    refine ls F W Aa (Lb (q := 0) (q' := 1) F Aa Aa Aa hc760).q fun a w F W => ?_
    refine ls F W Aa (Dl (v := Value.agg #[.int .i64 kx760.1, .int .i64 kx760.2.1, .int .i64 kx760.2.2.1, .int .i64 kx760.2.2.2.1, .int .i64 kx760.2.2.2.2]) F Aa Aa).q fun a w F W => ?_
    refine B8 (cs := (TY)) F W Aa Wr Aa fun b3 a w F W => ?_
    refine D2 0 F W Aa Aa Aa DM Aa Aa Aa fun w W => ?_
    refine FA tk 7 [1, 0] F W (ai (ai fun a w F W => ?_))
    obtain ⟨x6, h7, H⟩ := Ad H
    refine Bu (Ml := []) (Zl := []) (β := Value) (rv := fun x => x) (MM := fun x => []) (ZZ := fun x => [Cx x CW Bh x6]) F W Xn Aa Aa (fun hL => ih_policy_results _ w ((v6.2.1.2.2.2.1)) ((v6.2.2.2.2.1)) (Tr37.of (x4.un.1, Tr34.of (x4.un.2.1.un.1, x4.un.2.1.un.2.1, x4.un.2.1.un.2.2.1, x4.un.2.1.un.2.2.2), x4.un.2.2.1, x4.un.2.2.2.1, x4.un.2.2.2.2)) p1 kx760 _ h7 ((BD (Af h_v1) h3 (Ah.snd (Ah.fst (Ah.snd (Ah.snd (Ah.snd Ah.here))))) (congrArg (fun q : Tr37 => q.un.2.1.un.2.2.2) h4)) w W).nx (Sl.at_ (W.old s_v1) h3 (Ah.snd (Ah.snd (Ah.snd (Ah.snd Ah.here)))) (congrArg (fun q : Tr37 => q.un.2.2.2.2) h4))) fun x a w F W => ?_
    obtain ⟨v8, rfl⟩ : ∃ y, y = x := ⟨x, rfl⟩
    have W : Stw ⟨Y, [], w0⟩ [(b3, (CQ kx760)), (b2, [.int .i64 x4.un.1, .int .i64 x4.un.2.1.un.1, .int .i64 x4.un.2.1.un.2.1, .int .i64 x4.un.2.1.un.2.2.1, (v6.2.1.2.2.2.1), .int .i64 x4.un.2.2.1, .int .i64 x4.un.2.2.2.1, (v6.2.2.2.2.1)]), (b1, (CQ p2))] [Cx v8 CW Bh x6, Ga i760 m760 c760 sn760 c760, FY m760 e760 c760, Cx v7 CW Bh s760] w := W
    have W := W.frontZ (i := 3) Aa Aa
    refine Bu (Ml := []) (Zl := [Cx v7 CW Bh s760, Cx v8 CW Bh x6]) (β := Unit) (rv := fun _ => .tuple #[]) (MM := fun _ => []) (ZZ := fun _ => [Cx v8 CW Bh x6, Cx v7 CW Bh (Jf Bh s760 x6)]) F W YF Aa Aa (fun hL => Tw _ _ w _ _ _ _ hL) fun _ a w F W => ?_
    have W : Stw ⟨Y, [], w0⟩ [(b3, (CQ kx760)), (b2, [.int .i64 x4.un.1, .int .i64 x4.un.2.1.un.1, .int .i64 x4.un.2.1.un.2.1, .int .i64 x4.un.2.1.un.2.2.1, (v6.2.1.2.2.2.1), .int .i64 x4.un.2.2.1, .int .i64 x4.un.2.2.2.1, (v6.2.2.2.2.1)]), (b1, (CQ p2))] [Cx v8 CW Bh x6, Cx v7 CW Bh (Jf Bh s760 x6), Ga i760 m760 c760 sn760 c760, FY m760 e760 c760] w := W
    refine Ev (AG (Ac ?_))
    have H := AA H
    subst H
    have W := W.frontZ (i := 1) Aa Aa
    have W := W.frontZ (i := 3) Aa Aa
    have W := W.frontZ (i := 3) Aa Aa
    have W := W.frontM (i := 2) Aa Aa
    have W := W.frontM (i := 2) Aa Aa
    have W := W.sub (M' := [(b2, [.int .i64 x4.un.1, .int .i64 x4.un.2.1.un.1, .int .i64 x4.un.2.1.un.2.1, .int .i64 x4.un.2.1.un.2.2.1, (v6.2.1.2.2.2.1), .int .i64 x4.un.2.2.1, .int .i64 x4.un.2.2.2.1, (v6.2.2.2.2.1)]), (b1, (CQ p2))]) (Z' := [Ga i760 m760 c760 sn760 c760, FY m760 e760 c760, Cx v7 CW Bh (Jf Bh s760 x6)]) (List.Sublist.cons_cons _ (List.Sublist.cons_cons _ (List.nil_sublist _))) (List.Sublist.cons_cons _ (List.Sublist.cons_cons _ (List.Sublist.cons_cons _ (List.nil_sublist _))))
    exact ⟨F.ra Aa, W⟩
   have F : Fr 38 [] [(1, .int .i64 p1), (6, .map none), (7, v5), (9, .pointer (some ⟨b2, 0, none⟩)), (10, v7), (16, v1), (17, .int .i64 (p0.length : Int)), (18, .int .i64 x3), (19, .bool true), (21, .agg #[.int .i64 x4.un.1, .int .i64 x4.un.2.1.un.1, .int .i64 x4.un.2.1.un.2.1, .int .i64 x4.un.2.1.un.2.2.1, (v6.2.1.2.2.2.1), .int .i64 x4.un.2.2.1, .int .i64 x4.un.2.2.2.1, (v6.2.2.2.2.1)]), (22, v7), (23, v5)] a := F.ra Aa
   have W : Stw ⟨Y, [], w0⟩ [(b2, [.int .i64 x4.un.1, .int .i64 x4.un.2.1.un.1, .int .i64 x4.un.2.1.un.2.1, .int .i64 x4.un.2.1.un.2.2.1, (v6.2.1.2.2.2.1), .int .i64 x4.un.2.2.1, .int .i64 x4.un.2.2.2.1, (v6.2.2.2.2.1)]), (b1, (CQ p2))] [Cx v5 CW Bh x2, Cx v7 CW Bh x5] w := W
   refine Bo ?_
   refine vn tk 4 F W fun a w F W => ?_
   refine AG ?_
   refine vn tk 4 F W fun a w F W => ?_
   refine Ac ?_
   have W := W.frontZ (i := 1) Aa Aa
   have W := W.frontM (i := 1) Aa Aa
   have W := W.sub (M' := (O7 b1 p2)) (Z' := [Cx v7 CW Bh x5]) (List.Sublist.cons_cons _ (List.nil_sublist _)) (List.Sublist.cons_cons _ (List.nil_sublist _))
   exact ⟨_, H, (v7), F.ra Aa, W⟩
  refine Br ?_
  iterate 2 refine BK ?_
  refine Bo (Ac ?_)
  have H := L2 _ H
  exact ⟨_, (v5), H, F.ra Aa, W⟩
 rintro a w ⟨x1, v4, hj, F, W⟩
 have hj := AA hj
 subst hj
 have H := K1
 clear G1 K1
 refine vc tk 6 F W fun a w F W => ?_
 refine Ak ?_
 have H := AA H
 subst H
 refine Au (.inl Aa) F W Aa (Am F Aa) ?_
 have W := W.sub (M' := []) (Z' := [Cx v4 CW Bh x1]) (List.nil_sublist _) (List.Sublist.refl _)
 exact ⟨(v4), Aa, W⟩
theorem Zc : Has Tryz.prog 70 := CF Tryz.func70
abbrev CT (a0 : Tr37) (a1 : Value) (a2 : Value) : List Value := [.int .i64 a0.un.1, .int .i64 a0.un.2.1.un.1, .int .i64 a0.un.2.1.un.2.1, .int .i64 a0.un.2.1.un.2.2.1, a1, .int .i64 a0.un.2.2.1, .int .i64 a0.un.2.2.2.1, a2]
abbrev WQ (a0 : Nat) (a1 : Nat) (a2 : Int × (Int × Int × Int × Int)) (a3 : Nat) (a4 : Tr37) (a5 : Value) (a6 : Value) : List (Nat × List Value) := [(a0, [.int .i64 0, .int .i64 0, .int .i64 0, .int .i64 0, .slice none 0 0, .int .i64 0, .int .i64 0, .slice none 0 0]), (a1, [.int .i64 a2.1, .int .i64 a2.2.1, .int .i64 a2.2.2.1, .int .i64 a2.2.2.2.1, .int .i64 a2.2.2.2.2]), (a3, [.int .i64 a4.un.1, .int .i64 a4.un.2.1.un.1, .int .i64 a4.un.2.1.un.2.1, .int .i64 a4.un.2.1.un.2.2.1, a5, .int .i64 a4.un.2.2.1, .int .i64 a4.un.2.2.2.1, a6])]
noncomputable def Ey (p0 : Tr37) (p1 : Int) (p2 : Int × (Int × Int × Int × Int)) : Option Tr37 := ((Gv (Tr34.of (p0.un.2.1.un.1, p0.un.2.1.un.2.1, p0.un.2.1.un.2.2.1, p0.un.2.1.un.2.2.2)) p1 p2.1 p2.2).bind fun x2 => (if x2 = true then some 0 else some 1)).bind fun x1 => (if (p0.un.2.2.2.2.length : Int) ≤ x1 then some (Tr37.of (0, Tr34.of (0, 0, 0, ([] : List Tr34)), 0, 0, ([] : List Tr37))) else (ix p0.un.2.2.2.2 x1).bind fun x3 => some (Tr37.of (x3.un.1, Tr34.of (x3.un.2.1.un.1, x3.un.2.1.un.2.1, x3.un.2.1.un.2.2.1, x3.un.2.1.un.2.2.2), x3.un.2.2.1, x3.un.2.2.2.1, x3.un.2.2.2.2)))
theorem MZ (Y : Nat → Prop) (w0 : World) (v1 : Value) (v2 : Value) (p0 : Tr37) (p1 : Int) (p2 : Int × (Int × Int × Int × Int)) (r : Tr37) (H : Ey p0 p1 p2 = some r) (h_v1 : Sl w0 (NX []) CA v1 p0.un.2.1.un.2.2.2) (s_v2 : Sl w0 Y C9 v2 p0.un.2.2.2.2) :
    Calls Tryz.prog 72 #[.agg #[.int .i64 p0.un.1, .int .i64 p0.un.2.1.un.1, .int .i64 p0.un.2.1.un.2.1, .int .i64 p0.un.2.1.un.2.2.1, v1, .int .i64 p0.un.2.2.1, .int .i64 p0.un.2.2.2.1, v2], .int .i64 p1, .agg #[.int .i64 p2.1, .int .i64 p2.2.1, .int .i64 p2.2.2.1, .int .i64 p2.2.2.2.1, .int .i64 p2.2.2.2.2]] w0 fun e w' => ∃ x : Value × Value, e = .returned (.agg #[.int .i64 r.un.1, .int .i64 r.un.2.1.un.1, .int .i64 r.un.2.1.un.2.1, .int .i64 r.un.2.1.un.2.2.1, x.1, .int .i64 r.un.2.2.1, .int .i64 r.un.2.2.2.1, x.2]) ∧ Stw ⟨Y, [], w0⟩ [] [Ee (x.1) CA r.un.2.1.un.2.2.2, Ee (x.2) C9 r.un.2.2.2.2] w' := by
 refine enter Tryz.func72 Aa Tryz.ntmps72 Aa fun a F => ?_
 have W := Stw.start Y w0
 obtain ⟨v3, h1, h_v1⟩ := h_v1.ex CD
 obtain ⟨v4, h2, s_v2⟩ := s_v2.ex ED
 have h_v2 := W.nx s_v2
 unfold Ey at H
 refine vc tk 2 F W fun a w F W => ?_
 refine CU (cs := (CT p0 v1 v2)) F W Aa Aa Aa fun b1 a w F W => ?_
 refine CU (cs := (CQ p2)) F W Aa Aa Aa fun b2 a w F W => ?_
 refine B8 (cs := (F4)) F W Aa Mk Aa fun b3 a w F W => ?_
 refine Ck tk 7 F W fun a w F W => ?_
 obtain ⟨o1, G1, K1⟩ := Ad H
 refine Ay (fun a w => ∃ x1 : Int, some (x1) = some o1 ∧ Fr 27 [] [(3, .pointer (some ⟨b1, 0, none⟩)), (6, .pointer (some ⟨b3, 0, none⟩)), (7, .int .i64 x1)] a ∧ Stw ⟨Y, [], w0⟩ (WQ b3 b2 p2 b1 p0 v1 v2) [] w) ?_ ?_
 ·
  have H := G1
  clear G1 K1
  refine Fj tk 9 [2, 1, 1] F W (ai (ai (ai fun a w F W => ?_)))
  obtain ⟨x2, h3, H⟩ := Ad H
  refine ls F W Aa (AL (v := Value.bool x2) F YY Aa (fun w W => Mx any w (v1) (Tr34.of (p0.un.2.1.un.1, p0.un.2.1.un.2.1, p0.un.2.1.un.2.2.1, p0.un.2.1.un.2.2.2)) p1 p2.1 p2.2 _ h3 (Ef (Aq CD h1 (Af h_v1)) W))) fun a w F W => ?_
  refine Ck tk 2 F W fun a w F W => ?_
  refine Cv F Aa H (fun F H => ?_) fun F H => ?_
  ·
   refine vc tk 3 F W fun a w F W => ?_
   refine Ac ?_
   have W := W.frontM (i := 2) Aa Aa
   have W := W.frontM (i := 2) Aa Aa
   have W := W.frontM (i := 2) Aa Aa
   exact ⟨_, H, F.ra Aa, W⟩
  refine AW (Ac ?_)
  have W := W.frontM (i := 2) Aa Aa
  have W := W.frontM (i := 2) Aa Aa
  have W := W.frontM (i := 2) Aa Aa
  exact ⟨_, H, F.ra Aa, W⟩
 rintro a w ⟨x1, hj, F, W⟩
 have hj := AA hj
 subst hj
 have H := K1
 clear G1 K1
 refine Fj tk 6 [2] F W (ai fun a w F W => ?_)
 refine ls F W Aa (CP (r := C9) (l := p0.un.2.2.2.2) Kr Aa F Aa (Aq ED h2 (Af h_v2))).q fun a w F W => ?_
 refine Ck tk 3 F W fun a w F W => ?_
 refine BI F Aa H (fun F H => ?_) fun F H => ?_
 ·
  refine vc tk 2 F W fun a w F W => ?_
  refine ls F W Aa (Cz (v := Value.agg #[.int .i64 0, .int .i64 0, .int .i64 0, .int .i64 0, .slice none 0 0, .int .i64 0, .int .i64 0, .slice none 0 0]) Q8 F Aa Aa Aa).q fun a w F W => ?_
  refine D2 0 F W Aa Aa Aa IF Aa Aa Aa fun w W => ?_
  refine Ck tk 2 F W fun a w F W => ?_
  refine Ak (Ax ?_)
  have H := AA H
  subst H
  refine Au (.inl Aa) F W Aa (Ib 0 F Aa Aa IF Aa) ?_
  have W := W.note (Sl.nil (r := CA))
  have W := W.note (Sl.nil (r := C9))
  have W := W.frontZ (i := 1) Aa Aa
  have W := W.sub (M' := []) (Z' := [Ee (Value.slice none 0 0) CA ([]), Ee (Value.slice none 0 0) C9 ([])]) (List.nil_sublist _) (List.Sublist.refl _)
  exact ⟨((Value.slice none 0 0), (Value.slice none 0 0)), Aa, W⟩
 refine PY tk 7 [2] F W (ai fun a w F W => ?_)
 obtain ⟨x3, h4, H⟩ := Ad H
 obtain ⟨v5, h5, h6⟩ := DH h2 h4
 have h7 : Hy v5 = [.int .i64 x3.un.1, .int .i64 x3.un.2.1.un.1, .int .i64 x3.un.2.1.un.2.1, .int .i64 x3.un.2.1.un.2.2.1, (v5.2.1.2.2.2.1), .int .i64 x3.un.2.2.1, .int .i64 x3.un.2.2.2.1, (v5.2.2.2.2.1)] := congrArg (fun q : Tr37 => ([.int .i64 q.un.1, .int .i64 q.un.2.1.un.1, .int .i64 q.un.2.1.un.2.1, .int .i64 q.un.2.1.un.2.2.1, (v5.2.1.2.2.2.1), .int .i64 q.un.2.2.1, .int .i64 q.un.2.2.2.1, (v5.2.2.2.2.1)] : List Value)) h6
 refine ls F W Aa (Av (r := FV) OO F Aa Aa (Af h_v2) h5).q fun a w F W => ?_
 refine ls F W Aa (Al (y := Value.agg #[.int .i64 x3.un.1, .int .i64 x3.un.2.1.un.1, .int .i64 x3.un.2.1.un.2.1, .int .i64 x3.un.2.1.un.2.2.1, (v5.2.1.2.2.2.1), .int .i64 x3.un.2.2.1, .int .i64 x3.un.2.2.2.1, (v5.2.2.2.2.1)]) (j := 0) (i := x1) (enc := Hy) F Aa Aa (Af h_v2) h5 NH IF (by rw [h7]; rfl)).q fun a w F W => ?_
 refine D2 0 F W Aa Aa Aa IF Aa Aa (Ae Aa (Ae Aa (Ae Aa (Ae Aa (Ae ((BD (Af h_v2) h5 (Ah.snd (Ah.fst (Ah.snd (Ah.snd (Ah.snd Ah.here))))) (congrArg (fun q : Tr37 => q.un.2.1.un.2.2.2) h6)) _ W).one (Ae Aa (Ae Aa (Ae ((BD (Af h_v2) h5 (Ah.snd (Ah.snd (Ah.snd (Ah.snd Ah.here)))) (congrArg (fun q : Tr37 => q.un.2.2.2.2) h6)) _ W).one Da)))))))) fun w W => ?_
 refine Ck tk 2 F W fun a w F W => ?_
 refine Ak ?_
 have H := AA H
 subst H
 refine Au (.inl Aa) F W Aa (Ib 0 F Aa Aa IF Aa) ?_
 have W := W.note (Sl.at_ (W.old s_v2) h5 (Ah.snd (Ah.fst (Ah.snd (Ah.snd (Ah.snd Ah.here))))) (congrArg (fun q : Tr37 => q.un.2.1.un.2.2.2) h6))
 have W := W.note (Sl.at_ (W.old s_v2) h5 (Ah.snd (Ah.snd (Ah.snd (Ah.snd Ah.here)))) (congrArg (fun q : Tr37 => q.un.2.2.2.2) h6))
 have W := W.frontZ (i := 1) Aa Aa
 have W := W.sub (M' := []) (Z' := [Ee (v5.2.1.2.2.2.1) CA x3.un.2.1.un.2.2.2, Ee (v5.2.2.2.2.1) C9 x3.un.2.2.2.2]) (List.nil_sublist _) (List.Sublist.refl _)
 exact ⟨(((v5.2.1.2.2.2.1)), ((v5.2.2.2.2.1))), Aa, W⟩
end Go.Proofs.YtpckgggmgijiiaaGreatDoor
