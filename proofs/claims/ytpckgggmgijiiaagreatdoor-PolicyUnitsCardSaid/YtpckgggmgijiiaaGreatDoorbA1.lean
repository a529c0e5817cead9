/- The functions of layer 27, Ix. Conditions: none. -/
import Derived.Test.YtpckgggmgijiiaaGreatDoorbA0
namespace Go.Proofs.YtpckgggmgijiiaaGreatDoor
open Go Go.RowKit
set_option linter.unusedVariables false
set_option linter.unusedSimpArgs false
set_option maxRecDepth 20000
theorem X4 : Has Tryz.prog 35 := CJ Tryz.func35
noncomputable def DE (fRec : Tr27 → Option Int) (p0 : Tr27) : (Int × Int) → Option ((Int × Int) ⊕ Int)
  | (x3, x4) => (if x4 < (p0.un.2.2.2.2.length : Int) then ((ix p0.un.2.2.2.2 x4).bind fun x6 => (fRec (Tr27.of (x6.un.1, Tr24.of (x6.un.2.1.un.1, x6.un.2.1.un.2.1, x6.un.2.1.un.2.2.1, x6.un.2.1.un.2.2.2), x6.un.2.2.1, x6.un.2.2.2.1, x6.un.2.2.2.2))).bind fun x7 => (if p0.un.1 = 3 then some (H6 (AO (x3 * x7))) else some x3).bind fun x8 => (if p0.un.1 = 4 then some (H6 (AO (x8 + x7))) else some x8).bind fun x9 => (if (decide (p0.un.1 = 5) && decide (x9 < x7)) = true then some x7 else some x9)).bind fun x5 => some (.inl (x5, AO (x4 + 1))) else some (.inr x3))
noncomputable def EU (fRec : Tr27 → Option Int) (p0 : Tr27) : Option Int := (if (decide (p0.un.1 < 3) || decide (5 < p0.un.1)) = true then some 1 else (if p0.un.1 = 3 then some 1 else some 0).bind fun x1 => (AW (DE fRec p0) (x1, 0)).bind fun x2 => some x2)
noncomputable def DJ : Nat → Tr27 → Option Int
  | 0 => fun _ => none
  | n + 1 => EU (DJ n)
noncomputable def Ok (p0 : Tr27) : Option Int := GL fun n => DJ n p0
theorem PM (fRec : Tr27 → Option Int) (ih : ∀ (Y : Nat → Prop) (w0 : World) (v1 : Value) (v2 : Value) (p0 : Tr27) (r : Int) (H : fRec p0 = some r) (h_v1 : Sl w0 (NX []) DO v1 p0.un.2.1.un.2.2.2) (h_v2 : Sl w0 (NX []) GN v2 p0.un.2.2.2.2), Calls Tryz.prog 16 #[.agg #[.int .i64 p0.un.1, .int .i64 p0.un.2.1.un.1, .int .i64 p0.un.2.1.un.2.1, .int .i64 p0.un.2.1.un.2.2.1, v1, .int .i64 p0.un.2.2.1, .int .i64 p0.un.2.2.2.1, v2]] w0 fun e w' => e = .returned (.int .i64 r) ∧ Below w0.heap.size w0 w') (Y : Nat → Prop) (w0 : World) (v1 : Value) (v2 : Value) (p0 : Tr27) (r : Int) (H : EU fRec p0 = some r) (h_v1 : Sl w0 (NX []) DO v1 p0.un.2.1.un.2.2.2) (h_v2 : Sl w0 (NX []) GN v2 p0.un.2.2.2.2) :
    Calls Tryz.prog 16 #[.agg #[.int .i64 p0.un.1, .int .i64 p0.un.2.1.un.1, .int .i64 p0.un.2.1.un.2.1, .int .i64 p0.un.2.1.un.2.2.1, v1, .int .i64 p0.un.2.2.1, .int .i64 p0.un.2.2.2.1, v2]] w0 fun e w' => e = .returned (.int .i64 r) ∧ Below w0.heap.size w0 w' := by
 refine enter Tryz.func16 Aa Tryz.ntmps16 Aa fun a F => ?_
 have W := Stw.start Y w0
 obtain ⟨v3, h1, h_v1⟩ := h_v1.ex EJ
 obtain ⟨v4, h2, h_v2⟩ := h_v2.ex Is
 unfold EU at H
 refine vc tk 2 F W fun a w F W => ?_
 refine CY (cs := (Fv p0 v1 v2)) F W Aa Aa Aa fun b1 a w F W => ?_
 refine Cl tk 4 F W fun a w F W => ?_
 refine Ax (fun a w => Fr 54 [] [(1, .pointer (some ⟨b1, 0, none⟩)), (2, .int .i64 0), (13, .bool (decide (p0.un.1 < 3) || decide (5 < p0.un.1)))] a ∧ Stw ⟨Y, [], w0⟩ (GS b1 p0 v1 v2) [] w) ?_ ?_
 ·
  refine Fo tk 5 [0] F W (ai fun a w F W => ?_)
  rcases Bool.eq_false_or_eq_true (decide (p0.un.1 < 3)) with hb0 | hb0
  ·
   rw [hb0] at F
   refine vl tk 5 F W fun a w F W => ?_
   refine Ac ?_
   exact ⟨F.re ⟨rfl, Aa, (DH (by try rw [hb0]; all_goals simp only [DI])), trivial⟩, W⟩
  rw [hb0] at F
  refine GD tk 5 [0] F W (ai fun a w F W => ?_)
  refine Ac ?_
  exact ⟨F.re ⟨rfl, Aa, (DH (by try rw [hb0]; all_goals simp only [DI])), trivial⟩, W⟩
 rintro a w ⟨F, W⟩
 refine Cz F Aa H (fun F H => ?_) fun F H => ?_
 ·
  refine vc tk 5 F W fun a w F W => ?_
  refine Ak (Ay ?_)
  have H := AA H
  subst H
  refine Au (.inl Aa) F W Aa (Am F Aa) ?_
  exact ⟨rfl, W.done⟩
 refine FL tk 7 F W fun a w F W => ?_
 obtain ⟨o1, G1, K1⟩ := Ad H
 refine Ax (fun a w => ∃ x1 : Int, some (x1) = some o1 ∧ Fr 54 [] [(1, .pointer (some ⟨b1, 0, none⟩)), (2, .int .i64 0), (3, .int .i64 x1)] a ∧ Stw ⟨Y, [], w0⟩ (GS b1 p0 v1 v2) [] w) ?_ ?_
 ·
  have H := G1
  clear G1 K1
  refine Fo tk 7 [0] F W (ai fun a w F W => ?_)
  refine BJ F Aa H (fun F H => ?_) fun F H => ?_
  ·
   refine vc tk 3 F W fun a w F W => ?_
   refine Ac ?_
   exact ⟨_, H, F.ra Aa, W⟩
  refine AX (Ac ?_)
  exact ⟨_, H, F.ra Aa, W⟩
 rintro a w ⟨x1, hj, F, W⟩
 have hj := AA hj
 subst hj
 have H := K1
 clear G1 K1
 obtain ⟨o2, G2, K2⟩ := Ad H
 refine Ax (fun a w => ∃ x2 : Int, some (x2) = some o2 ∧ Fr 54 [] [(2, .int .i64 0), (3, .int .i64 x2)] a ∧ Stw ⟨Y, [], w0⟩ (GS b1 p0 v1 v2) [] w) ?_ ?_
 ·
  have H := G2
  clear G2 K2
  refine vc tk 6 F W fun a w F W => ?_
  refine BF H (fun s a w => Fr 54 [] [(1, .pointer (some ⟨b1, 0, none⟩)), (2, .int .i64 0), (3, .int .i64 s.1), (4, .int .i64 s.2)] a ∧ Stw ⟨Y, [], w0⟩ (GS b1 p0 v1 v2) [] w) ⟨F.ra Aa, W⟩ fun s o a w H L3 hR => ?_
  obtain ⟨x3, x4⟩ := s
  obtain ⟨F, W⟩ := hR
  have F : Fr 54 [] [(1, .pointer (some ⟨b1, 0, none⟩)), (2, .int .i64 0), (3, .int .i64 x3), (4, .int .i64 x4)] a := F
  have W : Stw ⟨Y, [], w0⟩ (GS b1 p0 v1 v2) [] w := W
  rw [DE] at H
  refine Fo tk 6 [0] F W (ai fun a w F W => ?_)
  refine ls F W Aa (CS (r := GN) (l := p0.un.2.2.2.2) SM Aa F Aa (Aq Is h2 (Af h_v2))).q fun a w F W => ?_
  refine Cl tk 3 F W fun a w F W => ?_
  refine BJ F Aa H (fun F H => ?_) fun F H => ?_
  ·
   refine AX (Ac ?_)
   obtain ⟨o4, G4, K4⟩ := Ad H
   refine Ax (fun a w => ∃ x5 : Int, some (x5) = some o4 ∧ Fr 54 [] [(1, .pointer (some ⟨b1, 0, none⟩)), (2, .int .i64 0), (3, .int .i64 x5), (4, .int .i64 x4)] a ∧ Stw ⟨Y, [], w0⟩ (GS b1 p0 v1 v2) [] w) ?_ ?_
   ·
    have H := G4
    clear G4 K4
    refine Fo tk 6 [0] F W (ai fun a w F W => ?_)
    obtain ⟨x6, h3, H⟩ := Ad H
    obtain ⟨v5, h4, h5⟩ := DM h2 h3
    have h6 : Mj v5 = [.int .i64 x6.un.1, .int .i64 x6.un.2.1.un.1, .int .i64 x6.un.2.1.un.2.1, .int .i64 x6.un.2.1.un.2.2.1, (v5.2.1.2.2.2.1), .int .i64 x6.un.2.2.1, .int .i64 x6.un.2.2.2.1, (v5.2.2.2.2.1)] := congrArg (fun q : Tr27 => ([.int .i64 q.un.1, .int .i64 q.un.2.1.un.1, .int .i64 q.un.2.1.un.2.1, .int .i64 q.un.2.1.un.2.2.1, (v5.2.1.2.2.2.1), .int .i64 q.un.2.2.1, .int .i64 q.un.2.2.2.1, (v5.2.2.2.2.1)] : List Value)) h5
    refine ls F W Aa (Av (r := PA) UJ F Aa Aa (Af h_v2) h4).q fun a w F W => ?_
    refine ls F W Aa (Al (y := Value.agg #[.int .i64 x6.un.1, .int .i64 x6.un.2.1.un.1, .int .i64 x6.un.2.1.un.2.1, .int .i64 x6.un.2.1.un.2.2.1, (v5.2.1.2.2.2.1), .int .i64 x6.un.2.2.1, .int .i64 x6.un.2.2.2.1, (v5.2.2.2.2.1)]) (j := 0) (i := x4) (enc := Mj) F Aa Aa (Af h_v2) h4 Su Sk (by rw [h6]; rfl)).q fun a w F W => ?_
    obtain ⟨x7, h7, H⟩ := Ad H
    refine ls F W Aa (AK (v := Value.int .i64 x7) F X5 Aa (fun w W => ih any w ((v5.2.1.2.2.2.1)) ((v5.2.2.2.2.1)) (Tr27.of (x6.un.1, Tr24.of (x6.un.2.1.un.1, x6.un.2.1.un.2.1, x6.un.2.1.un.2.2.1, x6.un.2.1.un.2.2.2), x6.un.2.2.1, x6.un.2.2.2.1, x6.un.2.2.2.2)) _ h7 (Ek (BE (Af h_v2) h4 (Ai.snd (Ai.fst (Ai.snd (Ai.snd (Ai.snd Ai.here))))) (congrArg (fun q : Tr27 => q.un.2.1.un.2.2.2) h5)) W) (Ek (BE (Af h_v2) h4 (Ai.snd (Ai.snd (Ai.snd (Ai.snd Ai.here)))) (congrArg (fun q : Tr27 => q.un.2.2.2.2) h5)) W))) fun a w F W => ?_
    refine vl tk 2 F W fun a w F W => ?_
    refine Ac ?_
    obtain ⟨o5, G5, K5⟩ := Ad H
    refine Ax (fun a w => ∃ x8 : Int, some (x8) = some o5 ∧ Fr 54 [] [(1, .pointer (some ⟨b1, 0, none⟩)), (2, .int .i64 0), (3, .int .i64 x8), (4, .int .i64 x4), (5, .int .i64 x7)] a ∧ Stw ⟨Y, [], w0⟩ (GS b1 p0 v1 v2) [] w) ?_ ?_
    ·
     have H := G5
     clear G5 K5
     refine Fo tk 7 [0] F W (ai fun a w F W => ?_)
     refine BJ F Aa H (fun F H => ?_) fun F H => ?_
     ·
      refine vc tk 4 F W fun a w F W => ?_
      refine ls F W Aa (AK (v := Value.int .i64 (H6 (AO (x3 * x7)))) F X4 Aa (fun w W => Pd any w (AO (x3 * x7)) _ Aa)) fun a w F W => ?_
      refine vl tk 2 F W fun a w F W => ?_
      refine Ac ?_
      exact ⟨_, H, F.ra Aa, W⟩
     refine AX (Ac ?_)
     exact ⟨_, H, F.ra Aa, W⟩
    rintro a w ⟨x8, hj, F, W⟩
    have hj := AA hj
    subst hj
    have H := K5
    clear G5 K5
    obtain ⟨o6, G6, K6⟩ := Ad H
    refine Ax (fun a w => ∃ x9 : Int, some (x9) = some o6 ∧ Fr 54 [] [(1, .pointer (some ⟨b1, 0, none⟩)), (2, .int .i64 0), (3, .int .i64 x9), (4, .int .i64 x4), (5, .int .i64 x7)] a ∧ Stw ⟨Y, [], w0⟩ (GS b1 p0 v1 v2) [] w) ?_ ?_
    ·
     have H := G6
     clear G6 K6
     refine Fo tk 7 [0] F W (ai fun a w F W => ?_)
     refine BJ F Aa H (fun F H => ?_) fun F H => ?_
     ·
      refine vc tk 4 F W fun a w F W => ?_
      refine ls F W Aa (AK (v := Value.int .i64 (H6 (AO (x8 + x7)))) F X4 Aa (fun w W => Pd any w (AO (x8 + x7)) _ Aa)) fun a w F W => ?_
      refine vl tk 2 F W fun a w F W => ?_
      refine Ac ?_
      exact ⟨_, H, F.ra Aa, W⟩
     refine AX (Ac ?_)
     exact ⟨_, H, F.ra Aa, W⟩
    rintro a w ⟨x9, hj, F, W⟩
    have hj := AA hj
    subst hj
    have H := K6
    clear G6 K6
    refine Ax (fun a w => Fr 54 [] [(1, .pointer (some ⟨b1, 0, none⟩)), (2, .int .i64 0), (3, .int .i64 x9), (4, .int .i64 x4), (5, .int .i64 x7), (51, .bool (decide (p0.un.1 = 5) && decide (x9 < x7)))] a ∧ Stw ⟨Y, [], w0⟩ (GS b1 p0 v1 v2) [] w) ?_ ?_
    ·
     refine Fo tk 5 [0] F W (ai fun a w F W => ?_)
     rcases Bool.eq_false_or_eq_true (decide (p0.un.1 = 5)) with hb0 | hb0
     ·
      rw [hb0] at F
      refine vl tk 5 F W fun a w F W => ?_
      refine Ac ?_
      exact ⟨F.re ⟨rfl, Aa, Aa, Aa, Aa, (DH (by try rw [hb0]; all_goals simp only [DI])), trivial⟩, W⟩
     rw [hb0] at F
     refine vl tk 5 F W fun a w F W => ?_
     refine Ac ?_
     exact ⟨F.re ⟨rfl, Aa, Aa, Aa, Aa, (DH (by try rw [hb0]; all_goals simp only [DI])), trivial⟩, W⟩
    rintro a w ⟨F, W⟩
    refine Cz F Aa H (fun F H => ?_) fun F H => ?_
    ·
     refine vc tk 4 F W fun a w F W => ?_
     refine AG (Ac ?_)
     exact ⟨_, H, F.ra Aa, W⟩
    refine AX (AG (Ac ?_))
    exact ⟨_, H, F.ra Aa, W⟩
   rintro a w ⟨x5, hj, F, W⟩
   have hj := AA hj
   subst hj
   have H := K4
   clear G4 K4
   refine vc tk 5 F W fun a w F W => ?_
   refine Ac ?_
   exact ⟨_, H, F.ra Aa, W⟩
  refine Bu ?_
  iterate 2 refine BL ?_
  refine Bp (Ac ?_)
  have H := L3 _ H
  exact ⟨_, H, F.ra Aa, W⟩
 rintro a w ⟨x2, hj, F, W⟩
 have hj := AA hj
 subst hj
 have H := K2
 clear G2 K2
 refine vc tk 6 F W fun a w F W => ?_
 refine Ak ?_
 have H := AA H
 subst H
 refine Au (.inl Aa) F W Aa (Am F Aa) ?_
 exact ⟨rfl, W.done⟩
theorem QC : ∀ (n : Nat) (Y : Nat → Prop) (w0 : World) (v1 : Value) (v2 : Value) (p0 : Tr27) (r : Int) (H : DJ n p0 = some r) (h_v1 : Sl w0 (NX []) DO v1 p0.un.2.1.un.2.2.2) (h_v2 : Sl w0 (NX []) GN v2 p0.un.2.2.2.2), Calls Tryz.prog 16 #[.agg #[.int .i64 p0.un.1, .int .i64 p0.un.2.1.un.1, .int .i64 p0.un.2.1.un.2.1, .int .i64 p0.un.2.1.un.2.2.1, v1, .int .i64 p0.un.2.2.1, .int .i64 p0.un.2.2.2.1, v2]] w0 fun e w' => e = .returned (.int .i64 r) ∧ Below w0.heap.size w0 w' := by
  intro n
  induction n with
  | zero => intro Y w0 v1 v2 p0 r H; exact nomatch H
  | succ n ih => intro Y w0 v1 v2 p0 r H h_v1 h_v2; exact PM (DJ n) ih Y w0 v1 v2 p0 r H h_v1 h_v2
theorem Rw (Y : Nat → Prop) (w0 : World) (v1 : Value) (v2 : Value) (p0 : Tr27) (r : Int) (H : Ok p0 = some r) (h_v1 : Sl w0 (NX []) DO v1 p0.un.2.1.un.2.2.2) (h_v2 : Sl w0 (NX []) GN v2 p0.un.2.2.2.2) :
    Calls Tryz.prog 16 #[.agg #[.int .i64 p0.un.1, .int .i64 p0.un.2.1.un.1, .int .i64 p0.un.2.1.un.2.1, .int .i64 p0.un.2.1.un.2.2.1, v1, .int .i64 p0.un.2.2.1, .int .i64 p0.un.2.2.2.1, v2]] w0 fun e w' => e = .returned (.int .i64 r) ∧ Below w0.heap.size w0 w' := by
  obtain ⟨n, H⟩ := CR H
  exact QC n Y w0 v1 v2 p0 r H h_v1 h_v2
noncomputable def FO (p0 : Tr27) : Option Bool := ((OJ (Tr27.of (p0.un.1, Tr24.of (p0.un.2.1.un.1, p0.un.2.1.un.2.1, p0.un.2.1.un.2.2.1, p0.un.2.1.un.2.2.2), p0.un.2.2.1, p0.un.2.2.2.1, p0.un.2.2.2.2))).bind fun x2 => (if x2 = true then (NM (Tr27.of (p0.un.1, Tr24.of (p0.un.2.1.un.1, p0.un.2.1.un.2.1, p0.un.2.1.un.2.2.1, p0.un.2.1.un.2.2.2), p0.un.2.2.1, p0.un.2.2.2.1, p0.un.2.2.2.2))).bind fun x3 => (if x3 ≤ 8 then (Nt (Tr27.of (p0.un.1, Tr24.of (p0.un.2.1.un.1, p0.un.2.1.un.2.1, p0.un.2.1.un.2.2.1, p0.un.2.1.un.2.2.2), p0.un.2.2.1, p0.un.2.2.2.1, p0.un.2.2.2.2))).bind fun x4 => (if x4 ≤ 64 then (Ok (Tr27.of (p0.un.1, Tr24.of (p0.un.2.1.un.1, p0.un.2.1.un.2.1, p0.un.2.1.un.2.2.1, p0.un.2.1.un.2.2.2), p0.un.2.2.1, p0.un.2.2.2.1, p0.un.2.2.2.2))).bind fun x5 => some (decide (x5 ≤ 64)) else some false) else some false) else some false)).bind fun x1 => some x1
theorem J8 (Y : Nat → Prop) (w0 : World) (v1 : Value) (v2 : Value) (p0 : Tr27) (r : Bool) (H : FO p0 = some r) (h_v1 : Sl w0 (NX []) DO v1 p0.un.2.1.un.2.2.2) (h_v2 : Sl w0 (NX []) GN v2 p0.un.2.2.2.2) :
    Calls Tryz.prog 10 #[.agg #[.int .i64 p0.un.1, .int .i64 p0.un.2.1.un.1, .int .i64 p0.un.2.1.un.2.1, .int .i64 p0.un.2.1.un.2.2.1, v1, .int .i64 p0.un.2.2.1, .int .i64 p0.un.2.2.2.1, v2]] w0 fun e w' => e = .returned (.bool r) ∧ Below w0.heap.size w0 w' := by
 refine enter Tryz.func10 Aa Tryz.ntmps10 Aa fun a F => ?_
 have W := Stw.start Y w0
 obtain ⟨v3, h1, h_v1⟩ := h_v1.ex EJ
 obtain ⟨v4, h2, h_v2⟩ := h_v2.ex Is
 unfold FO at H
 refine vc tk 2 F W fun a w F W => ?_
 refine CY (cs := (Fv p0 v1 v2)) F W Aa Aa Aa fun b1 a w F W => ?_
 refine vl tk 2 F W fun a w F W => ?_
 refine Ac ?_
 obtain ⟨o1, G1, K1⟩ := Ad H
 refine Ax (fun a w => ∃ x1 : Bool, some (x1) = some o1 ∧ Fr 20 [] [(2, .bool x1)] a ∧ Stw ⟨Y, [], w0⟩ (GS b1 p0 v1 v2) [] w) ?_ ?_
 ·
  have H := G1
  clear G1 K1
  refine Fo tk 2 [0] F W (ai fun a w F W => ?_)
  obtain ⟨x2, h3, H⟩ := Ad H
  refine ls F W Aa (AK (v := Value.bool x2) F XZ Aa (fun w W => Ry any w (v1) (v2) (Tr27.of (p0.un.1, Tr24.of (p0.un.2.1.un.1, p0.un.2.1.un.2.1, p0.un.2.1.un.2.2.1, p0.un.2.1.un.2.2.2), p0.un.2.2.1, p0.un.2.2.2.1, p0.un.2.2.2.2)) _ h3 (Ek (Aq EJ h1 (Af h_v1)) W) (Ek (Aq Is h2 (Af h_v2)) W))) fun a w F W => ?_
  refine ls F W Aa (An F Aa).q fun a w F W => ?_
  rcases Bool.eq_false_or_eq_true x2 with hb | hb
  ·
   have H := B8 hb H
   rw [hb] at F
   clear hb
   refine GQ F W (Ab F Aa Aa Aa Aa) Aa (Ao Aa) (Bw (v := Value.agg #[.int .i64 p0.un.1, .int .i64 p0.un.2.1.un.1, .int .i64 p0.un.2.1.un.2.1, .int .i64 p0.un.2.1.un.2.2.1, v1, .int .i64 p0.un.2.2.1, .int .i64 p0.un.2.2.2.1, v2]) 0 F Aa Aa Sk Aa).q fun a w F W => ?_
   refine HB (Ab F Aa Aa Aa Aa) ?_
   obtain ⟨x3, h4, H⟩ := Ad H
   refine ls F W Aa (AK (v := Value.int .i64 x3) F W6 Aa (fun w W => Re any w (v1) (v2) (Tr27.of (p0.un.1, Tr24.of (p0.un.2.1.un.1, p0.un.2.1.un.2.1, p0.un.2.1.un.2.2.1, p0.un.2.1.un.2.2.2), p0.un.2.2.1, p0.un.2.2.2.1, p0.un.2.2.2.2)) _ h4 (Ek (Aq EJ h1 (Af h_v1)) W) (Ek (Aq Is h2 (Af h_v2)) W))) fun a w F W => ?_
   refine vl tk 3 F W fun a w F W => ?_
   rcases Bool.eq_false_or_eq_true (decide (x3 ≤ 8)) with hb | hb
   ·
    have H := B8 (CI hb) H
    rw [hb] at F
    clear hb
    refine GQ F W (Ab F Aa Aa Aa Aa) Aa (Ao Aa) (Bw (v := Value.agg #[.int .i64 p0.un.1, .int .i64 p0.un.2.1.un.1, .int .i64 p0.un.2.1.un.2.1, .int .i64 p0.un.2.1.un.2.2.1, v1, .int .i64 p0.un.2.2.1, .int .i64 p0.un.2.2.2.1, v2]) 0 F Aa Aa Sk Aa).q fun a w F W => ?_
    refine HB (Ab F Aa Aa Aa Aa) ?_
    obtain ⟨x4, h5, H⟩ := Ad H
    refine ls F W Aa (AK (v := Value.int .i64 x4) F XY Aa (fun w W => Ro any w (v1) (v2) (Tr27.of (p0.un.1, Tr24.of (p0.un.2.1.un.1, p0.un.2.1.un.2.1, p0.un.2.1.un.2.2.1, p0.un.2.1.un.2.2.2), p0.un.2.2.1, p0.un.2.2.2.1, p0.un.2.2.2.2)) _ h5 (Ek (Aq EJ h1 (Af h_v1)) W) (Ek (Aq Is h2 (Af h_v2)) W))) fun a w F W => ?_
    refine vl tk 3 F W fun a w F W => ?_
    rcases Bool.eq_false_or_eq_true (decide (x4 ≤ 64)) with hb | hb
    ·
     have H := B8 (CI hb) H
     rw [hb] at F
     clear hb
     refine GQ F W (Ab F Aa Aa Aa Aa) Aa (Ao Aa) (Bw (v := Value.agg #[.int .i64 p0.un.1, .int .i64 p0.un.2.1.un.1, .int .i64 p0.un.2.1.un.2.1, .int .i64 p0.un.2.1.un.2.2.1, v1, .int .i64 p0.un.2.2.1, .int .i64 p0.un.2.2.2.1, v2]) 0 F Aa Aa Sk Aa).q fun a w F W => ?_
     refine HB (Ab F Aa Aa Aa Aa) ?_
     obtain ⟨x5, h6, H⟩ := Ad H
     refine ls F W Aa (AK (v := Value.int .i64 x5) F X5 Aa (fun w W => Rw any w (v1) (v2) (Tr27.of (p0.un.1, Tr24.of (p0.un.2.1.un.1, p0.un.2.1.un.2.1, p0.un.2.1.un.2.2.1, p0.un.2.1.un.2.2.2), p0.un.2.2.1, p0.un.2.2.2.1, p0.un.2.2.2.2)) _ h6 (Ek (Aq EJ h1 (Af h_v1)) W) (Ek (Aq Is h2 (Af h_v2)) W))) fun a w F W => ?_
     refine vl tk 4 F W fun a w F W => ?_
     refine Ac ?_
     exact ⟨_, H, F.ra Aa, W⟩
    have H := B7 (CH hb) H
    rw [hb] at F
    clear hb
    refine vl tk 6 F W fun a w F W => ?_
    refine Ac ?_
    exact ⟨_, H, F.ra Aa, W⟩
   have H := B7 (CH hb) H
   rw [hb] at F
   clear hb
   refine vl tk 11 F W fun a w F W => ?_
   refine Ac ?_
   exact ⟨_, H, F.ra Aa, W⟩
  have H := B7 (by rw [hb]; decide) H
  rw [hb] at F
  clear hb
  refine vl tk 16 F W fun a w F W => ?_
  refine Ac ?_
  exact ⟨_, H, F.ra Aa, W⟩
 rintro a w ⟨x1, hj, F, W⟩
 have hj := AA hj
 subst hj
 have H := K1
 clear G1 K1
 refine Ak ?_
 have H := AA H
 subst H
 refine Au (.inl Aa) F W Aa (Am F Aa) ?_
 exact ⟨rfl, W.done⟩
theorem W4 : type_of% Tryz.underlying29 := Tryz.underlying29
theorem Kq : type_of% Tryz.underlying35 := Tryz.underlying35
theorem I2 : type_of% Tryz.underlying37 := Tryz.underlying37
theorem Q3 : type_of% Tryz.underlying63 := Tryz.underlying63
theorem RR : type_of% Tryz.underlying126 := Tryz.underlying126
theorem Xr : Has Tryz.prog 10 := CJ Tryz.func10
theorem Q8 : Bt Tryz.prog 37 [.int .i64 0, .int .i64 0, .int .i64 0, .int .i64 0, .slice none 0 0, .int .i64 0, .int .i64 0, .slice none 0 0] [(0, 1), (1, 4), (5, 1), (6, 1), (7, 1)] := ⟨⟨.agg #[.int .i64 0, .int .i64 0, .int .i64 0, .int .i64 0, .slice none 0 0, .int .i64 0, .int .i64 0, .slice none 0 0], by kernel_rfl, rfl⟩, ⟨_, I2, fun w => by kernel_rfl⟩⟩
theorem Mc : (Tryz.prog.info? 37).bind (·.zero) = some (.agg #[.int .i64 0, .int .i64 0, .int .i64 0, .int .i64 0, .slice none 0 0, .int .i64 0, .int .i64 0, .slice none 0 0]) := by kernel_rfl
inductive Tr34 : Type where
  | mk : Int → Int → Int → (List Tr34) → Tr34
def Tr34.un : Tr34 → Int × Int × Int × List Tr34
  | .mk a0 a1 a2 a3 => (a0, a1, a2, a3)
abbrev Tr34.of (p : Int × Int × Int × List Tr34) : Tr34 := .mk p.1 p.2.1 p.2.2.1 p.2.2.2
def Tr34.cnt : Tr34 → Nat
  | .mk _ _ _ a3 => 1 + ((a3.map Tr34.cnt).sum)
inductive Tr37 : Type where
  | mk : Int → Tr34 → Int → Int → (List Tr37) → Tr37
def Tr37.un : Tr37 → Int × Tr34 × Int × Int × List Tr37
  | .mk a0 a1 a2 a3 a4 => (a0, a1, a2, a3, a4)
abbrev Tr37.of (p : Int × Tr34 × Int × Int × List Tr37) : Tr37 := .mk p.1 p.2.1 p.2.2.1 p.2.2.2.1 p.2.2.2.2
def Tr37.cnt : Tr37 → Nat
  | .mk _ a1 _ _ a4 => 1 + (a1.cnt + (a4.map Tr37.cnt).sum)
abbrev Ve (r : Rp Tr34) : Rp (Int × Int × Int × List Tr34) := (Rp.pair (Rp.int .i64) (Rp.pair (Rp.int .i64) (Rp.pair (Rp.int .i64) (Rp.slice r))))
theorem Ui : Kt Ve := (Kt.pair (Kt.const _) (Kt.pair (Kt.const _) (Kt.pair (Kt.const _) Kt.hole)))
abbrev CC : Rp Tr34 := Rp.knot Ve Tr34.un Ui
theorem IF {w : World} {A : Nat → Prop} {cs : List Value} {a : Tr34} : CC.rep w A cs a ↔ (Ve CC).rep w A cs a.un := HD Ui
abbrev Vg (r : Rp Tr37) : Rp (Int × Tr34 × Int × Int × List Tr37) := (Rp.pair (Rp.int .i64) (Rp.pair CC (Rp.pair (Rp.int .i64) (Rp.pair (Rp.int .i64) (Rp.slice r)))))
theorem Vs : Kt Vg := (Kt.pair (Kt.const _) (Kt.pair (Kt.const _) (Kt.pair (Kt.const _) (Kt.pair (Kt.const _) Kt.hole))))
abbrev De : Rp Tr37 := Rp.knot Vg Tr37.un Vs
theorem IZ {w : World} {A : Nat → Prop} {cs : List Value} {a : Tr37} : De.rep w A cs a ↔ (Vg De).rep w A cs a.un := HD Vs
theorem O0 : Et Tryz.prog 35 37 8 96 := Et.of Kq (by kernel_rfl) (by kernel_rfl) (by kernel_rfl) (by decide)
theorem II : Ty Tryz.prog 37 true 8 := ⟨by kernel_rfl, by kernel_rfl⟩
theorem V8 : ∃ z, (Tryz.prog.info? 29).bind (·.zero) = some z ∧ z.cells = [.int .i64 0, .int .i64 0, .int .i64 0, .int .i64 0].toArray := ⟨.agg #[.int .i64 0, .int .i64 0, .int .i64 0, .int .i64 0], by kernel_rfl, rfl⟩
theorem Rt : Ar Tryz.prog 29 4 3 1 := ⟨W4, by kernel_rfl⟩
abbrev Kb : Rp (Int × Int × Int × (Value × List Tr34)) := (Rp.pair (Rp.int .i64) (Rp.pair (Rp.int .i64) (Rp.pair (Rp.int .i64) (Rp.vsl CC))))
abbrev Xd (p : Int × Int × Int × (Value × List Tr34)) : Tr34 := (Tr34.of (p.1, p.2.1, p.2.2.1, p.2.2.2.2))
theorem CG : Ex CC Kb Xd := (Ex.knot Ui (of := Tr34.of) (fun _ => rfl) (fun x => by cases x; rfl) (Ex.pair Ex.rfl' (Ex.pair Ex.rfl' (Ex.pair Ex.rfl' Ex.sliceF))))
abbrev FW : Rp (Int × (Int × Int × Int × (Value × List Tr34)) × Int × Int × (Value × List Tr37)) := (Rp.pair (Rp.int .i64) (Rp.pair Kb (Rp.pair (Rp.int .i64) (Rp.pair (Rp.int .i64) (Rp.vsl De)))))
abbrev XS (p : Int × (Int × Int × Int × (Value × List Tr34)) × Int × Int × (Value × List Tr37)) : Tr37 := (Tr37.of (p.1, (Tr34.of (p.2.1.1, p.2.1.2.1, p.2.1.2.2.1, p.2.1.2.2.2.2)), p.2.2.1, p.2.2.2.1, p.2.2.2.2.2))
theorem EE : Ex De FW XS := (Ex.knot Vs (of := Tr37.of) (fun _ => rfl) (fun x => by cases x; rfl) (Ex.pair Ex.rfl' (Ex.pair (Ex.knot Ui (of := Tr34.of) (fun _ => rfl) (fun x => by cases x; rfl) (Ex.pair Ex.rfl' (Ex.pair Ex.rfl' (Ex.pair Ex.rfl' Ex.sliceF)))) (Ex.pair Ex.rfl' (Ex.pair Ex.rfl' Ex.sliceF)))))
theorem SR : Ty Tryz.prog 29 true 4 := ⟨by kernel_rfl, by kernel_rfl⟩
theorem Yg : Bt Tryz.prog 63 [.int .i64 0, .int .i64 0, .int .i64 0, .int .i64 0, .int .i64 0] [(0, 1), (1, 4)] := ⟨⟨.agg #[.int .i64 0, .int .i64 0, .int .i64 0, .int .i64 0, .int .i64 0], by kernel_rfl, rfl⟩, ⟨_, Q3, fun w => by kernel_rfl⟩⟩
theorem L6 : Ty Tryz.prog 34 true 4 := ⟨by kernel_rfl, by kernel_rfl⟩
theorem Xy : Bt Tryz.prog 126 [.int .i64 0, .int .i64 0, .int .i64 0, .int .i64 0, .int .i64 0, .int .i64 0] [(0, 1), (1, 1), (2, 4)] := ⟨⟨.agg #[.int .i64 0, .int .i64 0, .int .i64 0, .int .i64 0, .int .i64 0, .int .i64 0], by kernel_rfl, rfl⟩, ⟨_, RR, fun w => by kernel_rfl⟩⟩
def C7 (p0 : Int) : Bool := (decide (0 ≤ p0) && decide (p0 ≤ 5))
theorem Jl (Y : Nat → Prop) (w0 : World)  (p0 : Int) (r : Bool) (H : C7 p0 = r)  :
    Calls Tryz.prog 119 #[.int .i64 p0] w0 fun e w' => e = .returned (.bool r) ∧ Below w0.heap.size w0 w' := by
 refine enter Tryz.func119 Aa Tryz.ntmps119 Aa fun a F => ?_
 have W := Stw.start Y w0
 unfold C7 at H
 refine vc tk 5 F W fun a w F W => ?_
 refine Ax (fun a w => Fr 9 [] [(2, .bool (decide (0 ≤ p0) && decide (p0 ≤ 5)))] a ∧ Stw ⟨Y, [], w0⟩ [] [] w) ?_ ?_
 ·
  refine vc tk 4 F W fun a w F W => ?_
  rcases Bool.eq_false_or_eq_true (decide (0 ≤ p0)) with hb0 | hb0
  ·
   rw [hb0] at F
   refine vl tk 5 F W fun a w F W => ?_
   refine Ac ?_
   exact ⟨F.re ⟨(DH (by try rw [hb0]; all_goals simp only [DI])), trivial⟩, W⟩
  rw [hb0] at F
  refine vl tk 5 F W fun a w F W => ?_
  refine Ac ?_
  exact ⟨F.re ⟨(DH (by try rw [hb0]; all_goals simp only [DI])), trivial⟩, W⟩
 rintro a w ⟨F, W⟩
 refine Ak ?_
 subst H
 refine Au (.inl Aa) F W Aa (Am F Aa) ?_
 exact ⟨rfl, W.done⟩
theorem VE : Has Tryz.prog 119 := CJ Tryz.func119
def CD (p0 : Int) : Bool := (decide (0 ≤ p0) && decide (p0 < 4))
theorem Kh (Y : Nat → Prop) (w0 : World)  (p0 : Int) (r : Bool) (H : CD p0 = r)  :
    Calls Tryz.prog 123 #[.int .i64 p0] w0 fun e w' => e = .returned (.bool r) ∧ Below w0.heap.size w0 w' := by
 refine enter Tryz.func123 Aa Tryz.ntmps123 Aa fun a F => ?_
 have W := Stw.start Y w0
 unfold CD at H
 refine vc tk 5 F W fun a w F W => ?_
 refine Ax (fun a w => Fr 9 [] [(2, .bool (decide (0 ≤ p0) && decide (p0 < 4)))] a ∧ Stw ⟨Y, [], w0⟩ [] [] w) ?_ ?_
 ·
  refine vc tk 4 F W fun a w F W => ?_
  rcases Bool.eq_false_or_eq_true (decide (0 ≤ p0)) with hb0 | hb0
  ·
   rw [hb0] at F
   refine vl tk 5 F W fun a w F W => ?_
   refine Ac ?_
   exact ⟨F.re ⟨(DH (by try rw [hb0]; all_goals simp only [DI])), trivial⟩, W⟩
  rw [hb0] at F
  refine vl tk 5 F W fun a w F W => ?_
  refine Ac ?_
  exact ⟨F.re ⟨(DH (by try rw [hb0]; all_goals simp only [DI])), trivial⟩, W⟩
 rintro a w ⟨F, W⟩
 refine Ak ?_
 subst H
 refine Au (.inl Aa) F W Aa (Am F Aa) ?_
 exact ⟨rfl, W.done⟩
theorem VW : Has Tryz.prog 123 := CJ Tryz.func123
abbrev F8 (a0 : Int × Int × Int × Int) : List Value := [.int .i64 a0.1, .int .i64 a0.2.1, .int .i64 a0.2.2.1, .int .i64 a0.2.2.2]
noncomputable def GU (p0 : Int × Int × Int × Int) (p1 : Int) : Option Int := (if (!(CD p1)) = true then some 0 else (ix ([p0.1, p0.2.1, p0.2.2.1, p0.2.2.2] : List Int) p1).bind fun x1 => some x1)
theorem P4 (Y : Nat → Prop) (w0 : World)  (p0 : Int × Int × Int × Int) (p1 : Int) (r : Int) (H : GU p0 p1 = some r)  :
    Calls Tryz.prog 140 #[.agg #[.int .i64 p0.1, .int .i64 p0.2.1, .int .i64 p0.2.2.1, .int .i64 p0.2.2.2], .int .i64 p1] w0 fun e w' => e = .returned (.int .i64 r) ∧ Below w0.heap.size w0 w' := by
 refine enter Tryz.func140 Aa Tryz.ntmps140 Aa fun a F => ?_
 have W := Stw.start Y w0
 unfold GU at H
 refine vc tk 2 F W fun a w F W => ?_
 refine CY (cs := (F8 p0)) F W Aa Aa Aa fun b1 a w F W => ?_
 refine Cl tk 7 F W fun a w F W => ?_
 refine ls F W Aa (AK (v := Value.bool (CD p1)) F VW Aa (fun w W => Kh any w p1 _ Aa)) fun a w F W => ?_
 refine Cl tk 3 F W fun a w F W => ?_
 refine Cz F Aa H (fun F H => ?_) fun F H => ?_
 ·
  refine vc tk 5 F W fun a w F W => ?_
  refine Ak (Ay ?_)
  have H := AA H
  subst H
  refine Au (.inl Aa) F W Aa (Am F Aa) ?_
  exact ⟨rfl, W.done⟩
 refine FL tk 5 F W fun a w F W => ?_
 obtain ⟨x1, h1, H⟩ := Ad H
 refine ls F W Aa (Qq (0 + (p1).toNat * 1) Rt F Aa Aa Aa h1 Aa).q fun a w F W => ?_
 refine ls F W Aa (Bw (v := Value.int .i64 x1) 0 F Aa Aa T3 (Uc (base := 0) (m := 4) (l := [p0.1, p0.2.1, p0.2.2.1, p0.2.2.2]) (enc := Value.int .i64) Aa h1)).q fun a w F W => ?_
 refine Cl tk 3 F W fun a w F W => ?_
 refine Ak ?_
 have H := AA H
 subst H
 refine Au (.inl Aa) F W Aa (Am F Aa) ?_
 exact ⟨rfl, W.done⟩
theorem XR : Has Tryz.prog 140 := CJ Tryz.func140
noncomputable def HI (p0 : Int) (p1 : Int) (p2 : Int) (p3 : Int × Int × Int × Int) : Option Int := (if p0 = 4 then some p2 else (if p0 = 5 then some p1 else (if (C7 p0) = true then (GU p3 p0).bind fun x1 => some x1 else some (-1))))
theorem Rm (Y : Nat → Prop) (w0 : World)  (p0 : Int) (p1 : Int) (p2 : Int) (p3 : Int × Int × Int × Int) (r : Int) (H : HI p0 p1 p2 p3 = some r)  :
    Calls Tryz.prog 120 #[.int .i64 p0, .int .i64 p1, .int .i64 p2, .agg #[.int .i64 p3.1, .int .i64 p3.2.1, .int .i64 p3.2.2.1, .int .i64 p3.2.2.2]] w0 fun e w' => e = .returned (.int .i64 r) ∧ Below w0.heap.size w0 w' := by
 refine enter Tryz.func120 Aa Tryz.ntmps120 Aa fun a F => ?_
 have W := Stw.start Y w0
 unfold HI at H
 refine vc tk 2 F W fun a w F W => ?_
 refine CY (cs := (F8 p3)) F W Aa Aa Aa fun b1 a w F W => ?_
 refine Cl tk 12 F W fun a w F W => ?_
 refine BX F Aa (fun hb => ?_) fun hb => ?_
 ·
  have H := B8 (CI hb) H
  rw [hb] at F
  clear hb
  refine vc tk 6 F W fun a w F W => ?_
  refine Ak (AD (Ay ?_))
  have H := AA H
  subst H
  refine Au (.inl Aa) F W Aa (Am F Aa) ?_
  exact ⟨rfl, W.done⟩
 have H := B7 (CH hb) H
 rw [hb] at F
 clear hb
 refine vc tk 7 F W fun a w F W => ?_
 refine BX F Aa (fun hb => ?_) fun hb => ?_
 ·
  have H := B8 (CI hb) H
  rw [hb] at F
  clear hb
  refine vc tk 6 F W fun a w F W => ?_
  refine Ak (AD (Ay ?_))
  have H := AA H
  subst H
  refine Au (.inl Aa) F W Aa (Am F Aa) ?_
  exact ⟨rfl, W.done⟩
 have H := B7 (CH hb) H
 rw [hb] at F
 clear hb
 refine vc tk 3 F W fun a w F W => ?_
 refine ls F W Aa (AK (v := Value.bool (C7 p0)) F VE Aa (fun w W => Jl any w p0 _ Aa)) fun a w F W => ?_
 refine Cl tk 3 F W fun a w F W => ?_
 refine BX F Aa (fun hb => ?_) fun hb => ?_
 ·
  have H := B8 hb H
  rw [hb] at F
  clear hb
  refine Fo tk 4 [0] F W (ai fun a w F W => ?_)
  obtain ⟨x1, h1, H⟩ := Ad H
  refine ls F W Aa (AK (v := Value.int .i64 x1) F XR Aa (fun w W => P4 any w p3 p0 _ h1)) fun a w F W => ?_
  refine Cl tk 3 F W fun a w F W => ?_
  refine Ak (AD (Ay ?_))
  have H := AA H
  subst H
  refine Au (.inl Aa) F W Aa (Am F Aa) ?_
  exact ⟨rfl, W.done⟩
 have H := B7 (by rw [hb]; decide) H
 rw [hb] at F
 clear hb
 refine AX (AG ?_)
 refine vn tk 5 F W fun a w F W => ?_
 refine Ak ?_
 have H := AA H
 subst H
 refine Au (.inl Aa) F W Aa (Am F Aa) ?_
 exact ⟨rfl, W.done⟩
theorem Kv : type_of% Tryz.underlying32 := Tryz.underlying32
theorem XH : Has Tryz.prog 120 := CJ Tryz.func120
theorem SP : Ty Tryz.prog 32 false 1 := ⟨by kernel_rfl, by kernel_rfl⟩
theorem XB : Ty Tryz.prog 126 true 6 := ⟨by kernel_rfl, by kernel_rfl⟩
abbrev Jd (a : Int × Int × Int × (Value × List Tr34)) : List Value := [.int .i64 a.1, .int .i64 a.2.1, .int .i64 a.2.2.1, a.2.2.2.1]
theorem P5 : Fj Kb Jd := (Fj.pair Fl.int.to (Fj.pair Fl.int.to (Fj.pair Fl.int.to Fj.vsl)))
theorem TL : Et Tryz.prog 32 34 4 48 := Et.of Kv (by kernel_rfl) (by kernel_rfl) (by kernel_rfl) (by decide)
theorem XT : Has Tryz.prog 91 := CJ Tryz.func91
abbrev WE (a0 : Int × Int × (Int × Int × Int × Int)) : List Value := [.int .i64 a0.1, .int .i64 a0.2.1, .int .i64 a0.2.2.1, .int .i64 a0.2.2.2.1, .int .i64 a0.2.2.2.2.1, .int .i64 a0.2.2.2.2.2]
abbrev Im (a0 : Tr34) (a1 : Value) : List Value := [.int .i64 a0.un.1, .int .i64 a0.un.2.1, .int .i64 a0.un.2.2.1, a1]
noncomputable def Ch (fRec_pred_arrival_satisfies : (Int × Int × (Int × Int × Int × Int)) → Tr34 → Option Bool) (p0 : Int × Int × (Int × Int × Int × Int)) (p1 : Tr34) : Option Bool := (fRec_pred_arrival_satisfies p0 p1).bind fun x1 => some (!x1)
theorem Hj (fRec_pred_arrival_satisfies : (Int × Int × (Int × Int × Int × Int)) → Tr34 → Option Bool) (ih_pred_arrival_satisfies : ∀ (Y : Nat → Prop) (w0 : World) (v1 : Value) (p0 : Int × Int × (Int × Int × Int × Int)) (p1 : Tr34) (r : Bool) (H : fRec_pred_arrival_satisfies p0 p1 = some r) (h_v1 : Sl w0 (NX []) CC v1 p1.un.2.2.2), Calls Tryz.prog 91 #[.agg #[.int .i64 p0.1, .int .i64 p0.2.1, .int .i64 p0.2.2.1, .int .i64 p0.2.2.2.1, .int .i64 p0.2.2.2.2.1, .int .i64 p0.2.2.2.2.2], .agg #[.int .i64 p1.un.1, .int .i64 p1.un.2.1, .int .i64 p1.un.2.2.1, v1]] w0 fun e w' => e = .returned (.bool r) ∧ Below w0.heap.size w0 w') (Y : Nat → Prop) (w0 : World) (v1 : Value) (p0 : Int × Int × (Int × Int × Int × Int)) (p1 : Tr34) (r : Bool) (H : Ch fRec_pred_arrival_satisfies p0 p1 = some r) (h_v1 : Sl w0 (NX []) CC v1 p1.un.2.2.2) :
    Calls Tryz.prog 121 #[.agg #[.int .i64 p0.1, .int .i64 p0.2.1, .int .i64 p0.2.2.1, .int .i64 p0.2.2.2.1, .int .i64 p0.2.2.2.2.1, .int .i64 p0.2.2.2.2.2], .agg #[.int .i64 p1.un.1, .int .i64 p1.un.2.1, .int .i64 p1.un.2.2.1, v1]] w0 fun e w' => e = .returned (.bool r) ∧ Below w0.heap.size w0 w' := by
 refine enter Tryz.func121 Aa Tryz.ntmps121 Aa fun a F => ?_
 have W := Stw.start Y w0
 obtain ⟨v2, h1, h_v1⟩ := h_v1.ex CG
 unfold Ch at H
 refine vc tk 2 F W fun a w F W => ?_
 refine CY (cs := (WE p0)) F W Aa Aa Aa fun b1 a w F W => ?_
 refine CY (cs := (Im p1 v1)) F W Aa Aa Aa fun b2 a w F W => ?_
 refine FC tk 7 [1, 0] F W (ai (ai fun a w F W => ?_))
 obtain ⟨x1, h2, H⟩ := Ad H
 refine ls F W Aa (AK (v := Value.bool x1) F XT Aa (fun w W => ih_pred_arrival_satisfies any w (v1) p0 p1 _ h2 (Ek (Aq CG h1 (Af h_v1)) W))) fun a w F W => ?_
 refine Cl tk 4 F W fun a w F W => ?_
 refine Ak ?_
 have H := AA H
 subst H
 refine Au (.inl Aa) F W Aa (Am F Aa) ?_
 exact ⟨rfl, W.done⟩
theorem Wg : Has Tryz.prog 121 := CJ Tryz.func121
noncomputable def AH (fRec_pred_arrival_satisfies : (Int × Int × (Int × Int × Int × Int)) → Tr34 → Option Bool) (p0 : List Tr34) (p1f0 : Int × Int × (Int × Int × Int × Int)) : Int → Option (Int ⊕ (Unit ⊕ Int))
  | x1 => (if x1 < (p0.length : Int) then (ix p0 x1).bind fun x2 => ((Ch fRec_pred_arrival_satisfies) p1f0 x2).bind fun x3 => (if x3 = true then some (.inr (.inr x1)) else some (.inl (AO (x1 + 1)))) else some (.inr (.inl ())))
noncomputable def Ba (fRec_pred_arrival_satisfies : (Int × Int × (Int × Int × Int × Int)) → Tr34 → Option Bool) (p0 : List Tr34) (p1f0 : Int × Int × (Int × Int × Int × Int)) : Option Int := Ko (AW (AH fRec_pred_arrival_satisfies p0 p1f0) 0) fun _ => some (-1)
theorem FJ (fRec_pred_arrival_satisfies : (Int × Int × (Int × Int × Int × Int)) → Tr34 → Option Bool) (ih_pred_arrival_satisfies : ∀ (Y : Nat → Prop) (w0 : World) (v1 : Value) (p0 : Int × Int × (Int × Int × Int × Int)) (p1 : Tr34) (r : Bool) (H : fRec_pred_arrival_satisfies p0 p1 = some r) (h_v1 : Sl w0 (NX []) CC v1 p1.un.2.2.2), Calls Tryz.prog 91 #[.agg #[.int .i64 p0.1, .int .i64 p0.2.1, .int .i64 p0.2.2.1, .int .i64 p0.2.2.2.1, .int .i64 p0.2.2.2.2.1, .int .i64 p0.2.2.2.2.2], .agg #[.int .i64 p1.un.1, .int .i64 p1.un.2.1, .int .i64 p1.un.2.2.1, v1]] w0 fun e w' => e = .returned (.bool r) ∧ Below w0.heap.size w0 w') (Y : Nat → Prop) (w0 : World) (v1 : Value) (p0 : List Tr34) (p1f0 : Int × Int × (Int × Int × Int × Int)) (r : Int) (H : Ba fRec_pred_arrival_satisfies p0 p1f0 = some r) (h_v1 : Sl w0 (NX []) CC v1 p0) :
    Calls Tryz.prog 141 #[v1, .func (.func 121) #[.agg #[.int .i64 p1f0.1, .int .i64 p1f0.2.1, .int .i64 p1f0.2.2.1, .int .i64 p1f0.2.2.2.1, .int .i64 p1f0.2.2.2.2.1, .int .i64 p1f0.2.2.2.2.2]] #[]] w0 fun e w' => e = .returned (.int .i64 r) ∧ Below w0.heap.size w0 w' := by
 refine enter Tryz.func141 Aa Tryz.ntmps141 Aa fun a F => ?_
 have W := Stw.start Y w0
 obtain ⟨v2, h1, h_v1⟩ := h_v1.ex CG
 unfold Ba at H
 refine vc tk 5 F W fun a w F W => ?_
 obtain ⟨o1, G1, K1, L1⟩ := QS H
 refine Ax (fun a w => some (Sum.inl ()) = some o1 ∧ Fr 19 [] [(4, .int .i64 0)] a ∧ Stw ⟨Y, [], w0⟩ [] [] w) ?_ ?_
 ·
  have H := G1
  clear G1 K1
  refine vc tk 3 F W fun a w F W => ?_
  refine ls F W Aa (CS (r := CC) (l := p0) Kv Aa F Aa (Aq CG h1 (Af h_v1))).q fun a w F W => ?_
  refine Cl tk 4 F W fun a w F W => ?_
  refine BF H (fun s a w => Fr 19 [] [(0, v1), (1, .func (.func 121) #[.agg #[.int .i64 p1f0.1, .int .i64 p1f0.2.1, .int .i64 p1f0.2.2.1, .int .i64 p1f0.2.2.2.1, .int .i64 p1f0.2.2.2.2.1, .int .i64 p1f0.2.2.2.2.2]] #[]), (4, .int .i64 0), (7, .int .i64 (p0.length : Int)), (8, .int .i64 s)] a ∧ Stw ⟨Y, [], w0⟩ [] [] w) ⟨F.ra Aa, W⟩ fun s o a w H L2 hR => ?_
  obtain ⟨x1, rfl⟩ : ∃ x, x = s := ⟨s, rfl⟩
  obtain ⟨F, W⟩ := hR
  have F : Fr 19 [] [(0, v1), (1, .func (.func 121) #[.agg #[.int .i64 p1f0.1, .int .i64 p1f0.2.1, .int .i64 p1f0.2.2.1, .int .i64 p1f0.2.2.2.1, .int .i64 p1f0.2.2.2.2.1, .int .i64 p1f0.2.2.2.2.2]] #[]), (4, .int .i64 0), (7, .int .i64 (p0.length : Int)), (8, .int .i64 x1)] a := F
  have W : Stw ⟨Y, [], w0⟩ [] [] w := W
  rw [AH] at H
  refine vc tk 6 F W fun a w F W => ?_
  refine BJ F Aa H (fun F H => ?_) fun F H => ?_
  ·
   refine FL tk 15 F W fun a w F W => ?_
   obtain ⟨x2, h2, H⟩ := Ad H
   obtain ⟨v3, h3, h4⟩ := DM h1 h2
   have h5 : Jd v3 = [.int .i64 x2.un.1, .int .i64 x2.un.2.1, .int .i64 x2.un.2.2.1, (v3.2.2.2.1)] := congrArg (fun q : Tr34 => ([.int .i64 q.un.1, .int .i64 q.un.2.1, .int .i64 q.un.2.2.1, (v3.2.2.2.1)] : List Value)) h4
   refine ls F W Aa (Av (r := Kb) TL F Aa Aa (Af h_v1) h3).q fun a w F W => ?_
   refine ls F W Aa (Al (y := Value.agg #[.int .i64 x2.un.1, .int .i64 x2.un.2.1, .int .i64 x2.un.2.2.1, (v3.2.2.2.1)]) (j := 0) (i := x1) (enc := Jd) F Aa Aa (Af h_v1) h3 P5 L6 (by rw [h5]; rfl)).q fun a w F W => ?_
   obtain ⟨x3, h6, H⟩ := Ad H
   refine ls F W Aa (Eo (ws := [.agg #[.int .i64 p1f0.1, .int .i64 p1f0.2.1, .int .i64 p1f0.2.2.1, .int .i64 p1f0.2.2.2.1, .int .i64 p1f0.2.2.2.2.1, .int .i64 p1f0.2.2.2.2.2], .agg #[.int .i64 x2.un.1, .int .i64 x2.un.2.1, .int .i64 x2.un.2.2.1, (v3.2.2.2.1)]]) (v := Value.bool x3) F Wg Aa (fun w W => (Hj fRec_pred_arrival_satisfies ih_pred_arrival_satisfies) any w ((v3.2.2.2.1)) p1f0 x2 _ h6 (Ek (BE (Af h_v1) h3 (Ai.snd (Ai.snd (Ai.snd Ai.here))) (congrArg (fun q : Tr34 => q.un.2.2.2) h4)) W))) fun a w F W => ?_
   refine Cl tk 2 F W fun a w F W => ?_
   refine Cz F Aa H (fun F H => ?_) fun F H => ?_
   ·
    refine vc tk 6 F W fun a w F W => ?_
    refine Ak (AD ?_)
    iterate 2 refine Ay ?_
    refine AD (Ay ?_)
    have H := L2 _ H
    have H := L1 _ H
    have H := AA H
    subst H
    refine Au (.inl Aa) F W Aa (Am F Aa) ?_
    exact ⟨rfl, W.done⟩
   refine AX (AG ?_)
   refine vn tk 4 F W fun a w F W => ?_
   refine Ac ?_
   exact ⟨_, H, F.ra Aa, W⟩
  refine Bu ?_
  iterate 2 refine BL ?_
  refine Bp (Ac ?_)
  have H := L2 _ H
  exact ⟨H, F.ra Aa, W⟩
 rintro a w ⟨hj, F, W⟩
 have H := K1 _ hj
 clear hj G1 K1 L1
 refine vc tk 5 F W fun a w F W => ?_
 refine Ak ?_
 have H := AA H
 subst H
 refine Au (.inl Aa) F W Aa (Am F Aa) ?_
 exact ⟨rfl, W.done⟩
theorem VV : Has Tryz.prog 141 := CJ Tryz.func141
noncomputable def AV (fRec_pred_arrival_satisfies : (Int × Int × (Int × Int × Int × Int)) → Tr34 → Option Bool) (p0 : List Tr34) (p1f0 : Int × Int × (Int × Int × Int × Int)) : Option Bool := ((Ba fRec_pred_arrival_satisfies) p0 p1f0).bind fun x1 => some (decide (0 ≤ x1))
theorem Fp (fRec_pred_arrival_satisfies : (Int × Int × (Int × Int × Int × Int)) → Tr34 → Option Bool) (ih_pred_arrival_satisfies : ∀ (Y : Nat → Prop) (w0 : World) (v1 : Value) (p0 : Int × Int × (Int × Int × Int × Int)) (p1 : Tr34) (r : Bool) (H : fRec_pred_arrival_satisfies p0 p1 = some r) (h_v1 : Sl w0 (NX []) CC v1 p1.un.2.2.2), Calls Tryz.prog 91 #[.agg #[.int .i64 p0.1, .int .i64 p0.2.1, .int .i64 p0.2.2.1, .int .i64 p0.2.2.2.1, .int .i64 p0.2.2.2.2.1, .int .i64 p0.2.2.2.2.2], .agg #[.int .i64 p1.un.1, .int .i64 p1.un.2.1, .int .i64 p1.un.2.2.1, v1]] w0 fun e w' => e = .returned (.bool r) ∧ Below w0.heap.size w0 w') (Y : Nat → Prop) (w0 : World) (v1 : Value) (p0 : List Tr34) (p1f0 : Int × Int × (Int × Int × Int × Int)) (r : Bool) (H : AV fRec_pred_arrival_satisfies p0 p1f0 = some r) (h_v1 : Sl w0 (NX []) CC v1 p0) :
    Calls Tryz.prog 122 #[v1, .func (.func 121) #[.agg #[.int .i64 p1f0.1, .int .i64 p1f0.2.1, .int .i64 p1f0.2.2.1, .int .i64 p1f0.2.2.2.1, .int .i64 p1f0.2.2.2.2.1, .int .i64 p1f0.2.2.2.2.2]] #[]] w0 fun e w' => e = .returned (.bool r) ∧ Below w0.heap.size w0 w' := by
 refine enter Tryz.func122 Aa Tryz.ntmps122 Aa fun a F => ?_
 have W := Stw.start Y w0
 obtain ⟨v2, h1, h_v1⟩ := h_v1.ex CG
 unfold AV at H
 refine vc tk 9 F W fun a w F W => ?_
 obtain ⟨x1, h2, H⟩ := Ad H
 refine ls F W Aa (AK (v := Value.int .i64 x1) F VV Aa (fun w W => (FJ fRec_pred_arrival_satisfies ih_pred_arrival_satisfies) any w (v1) p0 p1f0 _ h2 (Ek (Aq CG h1 (Af h_v1)) W))) fun a w F W => ?_
 refine Cl tk 4 F W fun a w F W => ?_
 refine Ak ?_
 have H := AA H
 subst H
 refine Au (.inl Aa) F W Aa (Am F Aa) ?_
 exact ⟨rfl, W.done⟩
theorem Wt : Has Tryz.prog 122 := CJ Tryz.func122
noncomputable def AE (fRec_pred_arrival_satisfies : (Int × Int × (Int × Int × Int × Int)) → Tr34 → Option Bool) (p0 : List Tr34) (p1f0 : Int × Int × (Int × Int × Int × Int)) : Int → Option (Int ⊕ (Unit ⊕ Int))
  | x1 => (if x1 < (p0.length : Int) then (ix p0 x1).bind fun x2 => (fRec_pred_arrival_satisfies p1f0 x2).bind fun x3 => (if x3 = true then some (.inr (.inr x1)) else some (.inl (AO (x1 + 1)))) else some (.inr (.inl ())))
noncomputable def AY (fRec_pred_arrival_satisfies : (Int × Int × (Int × Int × Int × Int)) → Tr34 → Option Bool) (p0 : List Tr34) (p1f0 : Int × Int × (Int × Int × Int × Int)) : Option Int := Ko (AW (AE fRec_pred_arrival_satisfies p0 p1f0) 0) fun _ => some (-1)
theorem Fu (fRec_pred_arrival_satisfies : (Int × Int × (Int × Int × Int × Int)) → Tr34 → Option Bool) (ih_pred_arrival_satisfies : ∀ (Y : Nat → Prop) (w0 : World) (v1 : Value) (p0 : Int × Int × (Int × Int × Int × Int)) (p1 : Tr34) (r : Bool) (H : fRec_pred_arrival_satisfies p0 p1 = some r) (h_v1 : Sl w0 (NX []) CC v1 p1.un.2.2.2), Calls Tryz.prog 91 #[.agg #[.int .i64 p0.1, .int .i64 p0.2.1, .int .i64 p0.2.2.1, .int .i64 p0.2.2.2.1, .int .i64 p0.2.2.2.2.1, .int .i64 p0.2.2.2.2.2], .agg #[.int .i64 p1.un.1, .int .i64 p1.un.2.1, .int .i64 p1.un.2.2.1, v1]] w0 fun e w' => e = .returned (.bool r) ∧ Below w0.heap.size w0 w') (Y : Nat → Prop) (w0 : World) (v1 : Value) (p0 : List Tr34) (p1f0 : Int × Int × (Int × Int × Int × Int)) (r : Int) (H : AY fRec_pred_arrival_satisfies p0 p1f0 = some r) (h_v1 : Sl w0 (NX []) CC v1 p0) :
    Calls Tryz.prog 141 #[v1, .func (.func 91) #[.agg #[.int .i64 p1f0.1, .int .i64 p1f0.2.1, .int .i64 p1f0.2.2.1, .int .i64 p1f0.2.2.2.1, .int .i64 p1f0.2.2.2.2.1, .int .i64 p1f0.2.2.2.2.2]] #[]] w0 fun e w' => e = .returned (.int .i64 r) ∧ Below w0.heap.size w0 w' := by
 refine enter Tryz.func141 Aa Tryz.ntmps141 Aa fun a F => ?_
 have W := Stw.start Y w0
 obtain ⟨v2, h1, h_v1⟩ := h_v1.ex CG
 unfold AY at H
 refine vc tk 5 F W fun a w F W => ?_
 obtain ⟨o1, G1, K1, L1⟩ := QS H
 refine Ax (fun a w => some (Sum.inl ()) = some o1 ∧ Fr 19 [] [(4, .int .i64 0)] a ∧ Stw ⟨Y, [], w0⟩ [] [] w) ?_ ?_
 ·
  have H := G1
  clear G1 K1
  refine vc tk 3 F W fun a w F W => ?_
  refine ls F W Aa (CS (r := CC) (l := p0) Kv Aa F Aa (Aq CG h1 (Af h_v1))).q fun a w F W => ?_
  refine Cl tk 4 F W fun a w F W => ?_
  refine BF H (fun s a w => Fr 19 [] [(0, v1), (1, .func (.func 91) #[.agg #[.int .i64 p1f0.1, .int .i64 p1f0.2.1, .int .i64 p1f0.2.2.1, .int .i64 p1f0.2.2.2.1, .int .i64 p1f0.2.2.2.2.1, .int .i64 p1f0.2.2.2.2.2]] #[]), (4, .int .i64 0), (7, .int .i64 (p0.length : Int)), (8, .int .i64 s)] a ∧ Stw ⟨Y, [], w0⟩ [] [] w) ⟨F.ra Aa, W⟩ fun s o a w H L2 hR => ?_
  obtain ⟨x1, rfl⟩ : ∃ x, x = s := ⟨s, rfl⟩
  obtain ⟨F, W⟩ := hR
  have F : Fr 19 [] [(0, v1), (1, .func (.func 91) #[.agg #[.int .i64 p1f0.1, .int .i64 p1f0.2.1, .int .i64 p1f0.2.2.1, .int .i64 p1f0.2.2.2.1, .int .i64 p1f0.2.2.2.2.1, .int .i64 p1f0.2.2.2.2.2]] #[]), (4, .int .i64 0), (7, .int .i64 (p0.length : Int)), (8, .int .i64 x1)] a := F
  have W : Stw ⟨Y, [], w0⟩ [] [] w := W
  rw [AE] at H
  refine vc tk 6 F W fun a w F W => ?_
  refine BJ F Aa H (fun F H => ?_) fun F H => ?_
  ·
   refine FL tk 15 F W fun a w F W => ?_
   obtain ⟨x2, h2, H⟩ := Ad H
   obtain ⟨v3, h3, h4⟩ := DM h1 h2
   have h5 : Jd v3 = [.int .i64 x2.un.1, .int .i64 x2.un.2.1, .int .i64 x2.un.2.2.1, (v3.2.2.2.1)] := congrArg (fun q : Tr34 => ([.int .i64 q.un.1, .int .i64 q.un.2.1, .int .i64 q.un.2.2.1, (v3.2.2.2.1)] : List Value)) h4
   refine ls F W Aa (Av (r := Kb) TL F Aa Aa (Af h_v1) h3).q fun a w F W => ?_
   refine ls F W Aa (Al (y := Value.agg #[.int .i64 x2.un.1, .int .i64 x2.un.2.1, .int .i64 x2.un.2.2.1, (v3.2.2.2.1)]) (j := 0) (i := x1) (enc := Jd) F Aa Aa (Af h_v1) h3 P5 L6 (by rw [h5]; rfl)).q fun a w F W => ?_
   obtain ⟨x3, h6, H⟩ := Ad H
   refine ls F W Aa (Eo (ws := [.agg #[.int .i64 p1f0.1, .int .i64 p1f0.2.1, .int .i64 p1f0.2.2.1, .int .i64 p1f0.2.2.2.1, .int .i64 p1f0.2.2.2.2.1, .int .i64 p1f0.2.2.2.2.2], .agg #[.int .i64 x2.un.1, .int .i64 x2.un.2.1, .int .i64 x2.un.2.2.1, (v3.2.2.2.1)]]) (v := Value.bool x3) F XT Aa (fun w W => ih_pred_arrival_satisfies any w ((v3.2.2.2.1)) p1f0 x2 _ h6 (Ek (BE (Af h_v1) h3 (Ai.snd (Ai.snd (Ai.snd Ai.here))) (congrArg (fun q : Tr34 => q.un.2.2.2) h4)) W))) fun a w F W => ?_
   refine Cl tk 2 F W fun a w F W => ?_
   refine Cz F Aa H (fun F H => ?_) fun F H => ?_
   ·
    refine vc tk 6 F W fun a w F W => ?_
    refine Ak (AD ?_)
    iterate 2 refine Ay ?_
    refine AD (Ay ?_)
    have H := L2 _ H
    have H := L1 _ H
    have H := AA H
    subst H
    refine Au (.inl Aa) F W Aa (Am F Aa) ?_
    exact ⟨rfl, W.done⟩
   refine AX (AG ?_)
   refine vn tk 4 F W fun a w F W => ?_
   refine Ac ?_
   exact ⟨_, H, F.ra Aa, W⟩
  refine Bu ?_
  iterate 2 refine BL ?_
  refine Bp (Ac ?_)
  have H := L2 _ H
  exact ⟨H, F.ra Aa, W⟩
 rintro a w ⟨hj, F, W⟩
 have H := K1 _ hj
 clear hj G1 K1 L1
 refine vc tk 5 F W fun a w F W => ?_
 refine Ak ?_
 have H := AA H
 subst H
 refine Au (.inl Aa) F W Aa (Am F Aa) ?_
 exact ⟨rfl, W.done⟩
noncomputable def AR (fRec_pred_arrival_satisfies : (Int × Int × (Int × Int × Int × Int)) → Tr34 → Option Bool) (p0 : List Tr34) (p1f0 : Int × Int × (Int × Int × Int × Int)) : Option Bool := ((AY fRec_pred_arrival_satisfies) p0 p1f0).bind fun x1 => some (decide (0 ≤ x1))
theorem EO (fRec_pred_arrival_satisfies : (Int × Int × (Int × Int × Int × Int)) → Tr34 → Option Bool) (ih_pred_arrival_satisfies : ∀ (Y : Nat → Prop) (w0 : World) (v1 : Value) (p0 : Int × Int × (Int × Int × Int × Int)) (p1 : Tr34) (r : Bool) (H : fRec_pred_arrival_satisfies p0 p1 = some r) (h_v1 : Sl w0 (NX []) CC v1 p1.un.2.2.2), Calls Tryz.prog 91 #[.agg #[.int .i64 p0.1, .int .i64 p0.2.1, .int .i64 p0.2.2.1, .int .i64 p0.2.2.2.1, .int .i64 p0.2.2.2.2.1, .int .i64 p0.2.2.2.2.2], .agg #[.int .i64 p1.un.1, .int .i64 p1.un.2.1, .int .i64 p1.un.2.2.1, v1]] w0 fun e w' => e = .returned (.bool r) ∧ Below w0.heap.size w0 w') (Y : Nat → Prop) (w0 : World) (v1 : Value) (p0 : List Tr34) (p1f0 : Int × Int × (Int × Int × Int × Int)) (r : Bool) (H : AR fRec_pred_arrival_satisfies p0 p1f0 = some r) (h_v1 : Sl w0 (NX []) CC v1 p0) :
    Calls Tryz.prog 122 #[v1, .func (.func 91) #[.agg #[.int .i64 p1f0.1, .int .i64 p1f0.2.1, .int .i64 p1f0.2.2.1, .int .i64 p1f0.2.2.2.1, .int .i64 p1f0.2.2.2.2.1, .int .i64 p1f0.2.2.2.2.2]] #[]] w0 fun e w' => e = .returned (.bool r) ∧ Below w0.heap.size w0 w' := by
 refine enter Tryz.func122 Aa Tryz.ntmps122 Aa fun a F => ?_
 have W := Stw.start Y w0
 obtain ⟨v2, h1, h_v1⟩ := h_v1.ex CG
 unfold AR at H
 refine vc tk 9 F W fun a w F W => ?_
 obtain ⟨x1, h2, H⟩ := Ad H
 refine ls F W Aa (AK (v := Value.int .i64 x1) F VV Aa (fun w W => (Fu fRec_pred_arrival_satisfies ih_pred_arrival_satisfies) any w (v1) p0 p1f0 _ h2 (Ek (Aq CG h1 (Af h_v1)) W))) fun a w F W => ?_
 refine Cl tk 4 F W fun a w F W => ?_
 refine Ak ?_
 have H := AA H
 subst H
 refine Au (.inl Aa) F W Aa (Am F Aa) ?_
 exact ⟨rfl, W.done⟩
theorem Kw : type_of% Tryz.underlying34 := Tryz.underlying34
abbrev Wz (a0 : Nat) (a1 : Tr34) (a2 : Value) (a3 : Nat) (a4 : Int × Int × (Int × Int × Int × Int)) : List (Nat × List Value) := [(a0, [.int .i64 a1.un.1, .int .i64 a1.un.2.1, .int .i64 a1.un.2.2.1, a2]), (a3, [.int .i64 a4.1, .int .i64 a4.2.1, .int .i64 a4.2.2.1, .int .i64 a4.2.2.2.1, .int .i64 a4.2.2.2.2.1, .int .i64 a4.2.2.2.2.2])]
abbrev UN (a0 : Int × Int × (Int × Int × Int × Int)) : List Value := [.agg #[.int .i64 a0.1, .int .i64 a0.2.1, .int .i64 a0.2.2.1, .int .i64 a0.2.2.2.1, .int .i64 a0.2.2.2.2.1, .int .i64 a0.2.2.2.2.2]]
noncomputable def BD (fRec : (Int × Int × (Int × Int × Int × Int)) → Tr34 → Option Bool) (p0 : Int × Int × (Int × Int × Int × Int)) (p1 : Tr34) : Option Bool := (if p1.un.1 = 1 then some true else (if p1.un.1 = 3 then (if (C7 p1.un.2.1) = true then (HI p1.un.2.1 p0.1 p0.2.1 p0.2.2).bind fun x2 => some (decide (x2 = p1.un.2.2.1)) else some false).bind fun x1 => some x1 else (if p1.un.1 = 4 then (if 0 < (p1.un.2.2.2.length : Int) then (ix p1.un.2.2.2 0).bind fun x4 => ((Ch fRec) p0 x4).bind fun x5 => some x5 else some false).bind fun x3 => some x3 else (if p1.un.1 = 5 then ((AV fRec) p1.un.2.2.2 p0).bind fun x6 => some (!x6) else (if p1.un.1 = 6 then ((AR fRec) p1.un.2.2.2 p0).bind fun x7 => some x7 else some false)))))
noncomputable def Bc : Nat → (Int × Int × (Int × Int × Int × Int)) → Tr34 → Option Bool
  | 0 => fun _ _ => none
  | n + 1 => BD (Bc n)
noncomputable def DV (p0 : Int × Int × (Int × Int × Int × Int)) (p1 : Tr34) : Option Bool := GL fun n => Bc n p0 p1
theorem HP (fRec : (Int × Int × (Int × Int × Int × Int)) → Tr34 → Option Bool) (ih : ∀ (Y : Nat → Prop) (w0 : World) (v1 : Value) (p0 : Int × Int × (Int × Int × Int × Int)) (p1 : Tr34) (r : Bool) (H : fRec p0 p1 = some r) (h_v1 : Sl w0 (NX []) CC v1 p1.un.2.2.2), Calls Tryz.prog 91 #[.agg #[.int .i64 p0.1, .int .i64 p0.2.1, .int .i64 p0.2.2.1, .int .i64 p0.2.2.2.1, .int .i64 p0.2.2.2.2.1, .int .i64 p0.2.2.2.2.2], .agg #[.int .i64 p1.un.1, .int .i64 p1.un.2.1, .int .i64 p1.un.2.2.1, v1]] w0 fun e w' => e = .returned (.bool r) ∧ Below w0.heap.size w0 w') (Y : Nat → Prop) (w0 : World) (v1 : Value) (p0 : Int × Int × (Int × Int × Int × Int)) (p1 : Tr34) (r : Bool) (H : BD fRec p0 p1 = some r) (h_v1 : Sl w0 (NX []) CC v1 p1.un.2.2.2) :
    Calls Tryz.prog 91 #[.agg #[.int .i64 p0.1, .int .i64 p0.2.1, .int .i64 p0.2.2.1, .int .i64 p0.2.2.2.1, .int .i64 p0.2.2.2.2.1, .int .i64 p0.2.2.2.2.2], .agg #[.int .i64 p1.un.1, .int .i64 p1.un.2.1, .int .i64 p1.un.2.2.1, v1]] w0 fun e w' => e = .returned (.bool r) ∧ Below w0.heap.size w0 w' := by
 refine enter Tryz.func91 Aa Tryz.ntmps91 Aa fun a F => ?_
 have W := Stw.start Y w0
 obtain ⟨v2, h1, h_v1⟩ := h_v1.ex CG
 unfold BD at H
 refine vc tk 2 F W fun a w F W => ?_
 refine CY (cs := (WE p0)) F W Aa Aa Aa fun b1 a w F W => ?_
 refine CY (cs := (Im p1 v1)) F W Aa Aa Aa fun b2 a w F W => ?_
 refine FC tk 17 [0] F W (ai fun a w F W => ?_)
 refine BX F Aa (fun hb => ?_) fun hb => ?_
 ·
  have H := B8 (CI hb) H
  rw [hb] at F
  clear hb
  refine vc tk 5 F W fun a w F W => ?_
  refine Ak (AD (Ay ?_))
  have H := AA H
  subst H
  refine Au (.inl Aa) F W Aa (Am F Aa) ?_
  exact ⟨rfl, W.done⟩
 have H := B7 (CH hb) H
 rw [hb] at F
 clear hb
 refine vc tk 6 F W fun a w F W => ?_
 refine BX F Aa (fun hb => ?_) fun hb => ?_
 ·
  have H := B8 (CI hb) H
  rw [hb] at F
  clear hb
  obtain ⟨o1, G1, K1⟩ := Ad H
  refine Ax (fun a w => ∃ x1 : Bool, some (x1) = some o1 ∧ Fr 57 [] [(4, .bool x1)] a ∧ Stw ⟨Y, [], w0⟩ (Wz b2 p1 v1 b1 p0) [] w) ?_ ?_
  ·
   have H := G1
   clear G1 K1
   refine Cw W MO (by kernel_rfl) ?_
   refine qs F Aa (Ap Kw Aa Aa Aa T3 F Aa 1 Aa).q fun a F => ?_
   refine qs F Aa (Bw (v := Value.int .i64 p1.un.2.1) 0 F Aa Aa T3 Aa).q fun a F => ?_
   refine qs F Aa (AK (v := Value.bool (C7 p1.un.2.1)) F VE Aa (fun w W => Jl any w p1.un.2.1 _ Aa)) fun a F => ?_
   refine qs F Aa (An F Aa).q fun a F => ?_
   rcases Bool.eq_false_or_eq_true (C7 p1.un.2.1) with hb | hb
   ·
    have H := B8 hb H
    rw [hb] at F
    clear hb
    refine AL F (Ab F Aa Aa Aa Aa) Aa (Ao Aa) (Ap Kw Aa Aa Aa T3 F Aa 1 Aa).q fun a F => ?_
    refine AL F (Ab F Aa Aa Aa Aa) Aa (Ao Aa) (Bw (v := Value.int .i64 p1.un.2.1) 0 F Aa Aa T3 Aa).q fun a F => ?_
    refine AL F (Ab F Aa Aa Aa Aa) Aa (Ao Aa) (Ap RR Aa Aa Aa T3 F Aa 0 Aa).q fun a F => ?_
    refine AL F (Ab F Aa Aa Aa Aa) Aa (Ao Aa) (Bw (v := Value.int .i64 p0.1) 1 F Aa Aa T3 Aa).q fun a F => ?_
    refine AL F (Ab F Aa Aa Aa Aa) Aa (Ao Aa) (Ap RR Aa Aa Aa T3 F Aa 1 Aa).q fun a F => ?_
    refine AL F (Ab F Aa Aa Aa Aa) Aa (Ao Aa) (Bw (v := Value.int .i64 p0.2.1) 1 F Aa Aa T3 Aa).q fun a F => ?_
    refine AL F (Ab F Aa Aa Aa Aa) Aa (Ao Aa) (Ap RR Aa Aa Aa SR F Aa 2 Aa).q fun a F => ?_
    refine AL F (Ab F Aa Aa Aa Aa) Aa (Ao Aa) (Bw (v := Value.agg #[.int .i64 p0.2.2.1, .int .i64 p0.2.2.2.1, .int .i64 p0.2.2.2.2.1, .int .i64 p0.2.2.2.2.2]) 1 F Aa Aa SR Aa).q fun a F => ?_
    obtain ⟨x2, h2, H⟩ := Ad H
    refine AL F (Ab F Aa Aa Aa Aa) Aa (Ao Aa) (AK (v := Value.int .i64 x2) F XH Aa (fun w W => Rm any w p1.un.2.1 p0.1 p0.2.1 p0.2.2 _ h2)) fun a F => ?_
    refine AL F (Ab F Aa Aa Aa Aa) Aa (Ao Aa) (Ap Kw Aa Aa Aa T3 F Aa 2 Aa).q fun a F => ?_
    refine AL F (Ab F Aa Aa Aa Aa) Aa (Ao Aa) (Bw (v := Value.int .i64 p1.un.2.2.1) 0 F Aa Aa T3 Aa).q fun a F => ?_
    refine AL F (Ab F Aa Aa Aa Aa) Aa (Ao Aa) (Pj F Aa Aa).q fun a F => ?_
    refine qs F Aa (Bq F Aa Aa Aa).q fun a F => ?_
    refine qs F Aa (Bk F Aa).q fun a F => ?_
    refine AJ fun w W => ?_
    refine Ac ?_
    have W := W.frontM (i := 1) Aa Aa
    have W := W.frontM (i := 1) Aa Aa
    exact ⟨_, H, F.ra Aa, W⟩
   have H := B7 (by rw [hb]; decide) H
   rw [hb] at F
   clear hb
   iterate 12 refine Bj F (A7 F Aa Aa Aa Aa Aa) Aa Aa fun a F => ?_
   refine qs F Aa (Br F Aa Aa Aa).q fun a F => ?_
   refine qs F Aa (Bk F Aa).q fun a F => ?_
   refine AJ fun w W => ?_
   refine Ac ?_
   have W := W.frontM (i := 1) Aa Aa
   have W := W.frontM (i := 1) Aa Aa
   exact ⟨_, H, F.ra Aa, W⟩
  rintro a w ⟨x1, hj, F, W⟩
  have hj := AA hj
  subst hj
  have H := K1
  clear G1 K1
  refine Ak (AD (Ay ?_))
  have H := AA H
  subst H
  refine Au (.inl Aa) F W Aa (Am F Aa) ?_
  exact ⟨rfl, W.done⟩
 have H := B7 (CH hb) H
 rw [hb] at F
 clear hb
 refine vc tk 6 F W fun a w F W => ?_
 refine BX F Aa (fun hb => ?_) fun hb => ?_
 ·
  have H := B8 (CI hb) H
  rw [hb] at F
  clear hb
  obtain ⟨o2, G2, K2⟩ := Ad H
  refine Ax (fun a w => ∃ x3 : Bool, some (x3) = some o2 ∧ Fr 57 [] [(4, .bool x3)] a ∧ Stw ⟨Y, [], w0⟩ (Wz b2 p1 v1 b1 p0) [] w) ?_ ?_
  ·
   have H := G2
   clear G2 K2
   refine Cw W MO (by kernel_rfl) ?_
   refine qs F Aa (Ap Kw Aa Aa Aa SP F Aa 3 Aa).q fun a F => ?_
   refine qs F Aa (Bw (v := v1) 0 F Aa Aa SP Aa).q fun a F => ?_
   refine qs F Aa (CS (r := CC) (l := p1.un.2.2.2) Kv Aa F Aa (Aq CG h1 (Af h_v1))).q fun a F => ?_
   refine qs F Aa (MD F Aa Aa).q fun a F => ?_
   refine qs F Aa (An F Aa).q fun a F => ?_
   rcases Bool.eq_false_or_eq_true (decide (0 < (p1.un.2.2.2.length : Int))) with hb | hb
   ·
    have H := B8 (CI hb) H
    rw [hb] at F
    clear hb
    refine AL F (Ab F Aa Aa Aa Aa) Aa (Ao Aa) (Bw (v := Value.agg #[.int .i64 p0.1, .int .i64 p0.2.1, .int .i64 p0.2.2.1, .int .i64 p0.2.2.2.1, .int .i64 p0.2.2.2.2.1, .int .i64 p0.2.2.2.2.2]) 1 F Aa Aa XB Aa).q fun a F => ?_
    refine AL F (Ab F Aa Aa Aa Aa) Aa (Ao Aa) (Ap Kw Aa Aa Aa SP F Aa 3 Aa).q fun a F => ?_
    refine AL F (Ab F Aa Aa Aa Aa) Aa (Ao Aa) (Bw (v := v1) 0 F Aa Aa SP Aa).q fun a F => ?_
    obtain ⟨x4, h3, H⟩ := Ad H
    obtain ⟨v3, h4, h5⟩ := DM h1 h3
    have h6 : Jd v3 = [.int .i64 x4.un.1, .int .i64 x4.un.2.1, .int .i64 x4.un.2.2.1, (v3.2.2.2.1)] := congrArg (fun q : Tr34 => ([.int .i64 q.un.1, .int .i64 q.un.2.1, .int .i64 q.un.2.2.1, (v3.2.2.2.1)] : List Value)) h5
    refine AL F (Ab F Aa Aa Aa Aa) Aa (Ao Aa) (Av (r := Kb) TL F Aa Aa (Af h_v1) h4).q fun a F => ?_
    refine AL F (Ab F Aa Aa Aa Aa) Aa (Ao Aa) (Al (y := Value.agg #[.int .i64 x4.un.1, .int .i64 x4.un.2.1, .int .i64 x4.un.2.2.1, (v3.2.2.2.1)]) (j := 0) (i := 0) (enc := Jd) F Aa Aa (Af h_v1) h4 P5 L6 (by rw [h6]; rfl)).q fun a F => ?_
    obtain ⟨x5, h7, H⟩ := Ad H
    refine AL F (Ab F Aa Aa Aa Aa) Aa (Ao Aa) (AK (v := Value.bool x5) F Wg Aa (fun w W => (Hj fRec ih) any w ((v3.2.2.2.1)) p0 x4 _ h7 (Ek (BE (Af h_v1) h4 (Ai.snd (Ai.snd (Ai.snd Ai.here))) (congrArg (fun q : Tr34 => q.un.2.2.2) h5)) W))) fun a F => ?_
    refine qs F Aa (Bq F Aa Aa Aa).q fun a F => ?_
    refine qs F Aa (Bk F Aa).q fun a F => ?_
    refine AJ fun w W => ?_
    refine Ac ?_
    have W := W.frontM (i := 1) Aa Aa
    have W := W.frontM (i := 1) Aa Aa
    exact ⟨_, H, F.ra Aa, W⟩
   have H := B7 (CH hb) H
   rw [hb] at F
   clear hb
   iterate 6 refine Bj F (A7 F Aa Aa Aa Aa Aa) Aa Aa fun a F => ?_
   refine qs F Aa (Br F Aa Aa Aa).q fun a F => ?_
   refine qs F Aa (Bk F Aa).q fun a F => ?_
   refine AJ fun w W => ?_
   refine Ac ?_
   have W := W.frontM (i := 1) Aa Aa
   have W := W.frontM (i := 1) Aa Aa
   exact ⟨_, H, F.ra Aa, W⟩
  rintro a w ⟨x3, hj, F, W⟩
  have hj := AA hj
  subst hj
  have H := K2
  clear G2 K2
  refine Ak (AD (Ay ?_))
  have H := AA H
  subst H
  refine Au (.inl Aa) F W Aa (Am F Aa) ?_
  exact ⟨rfl, W.done⟩
 have H := B7 (CH hb) H
 rw [hb] at F
 clear hb
 refine vc tk 6 F W fun a w F W => ?_
 refine BX F Aa (fun hb => ?_) fun hb => ?_
 ·
  have H := B8 (CI hb) H
  rw [hb] at F
  clear hb
  refine Fo tk 5 [0, 1] F W (ai (ai fun a w F W => ?_))
  refine ls F W Aa (OG (us := (UN p0)) (vs := []) F Aa Aa).q fun a w F W => ?_
  obtain ⟨x6, h8, H⟩ := Ad H
  refine ls F W Aa (AK (v := Value.bool x6) F Wt Aa (fun w W => (Fp fRec ih) any w (v1) p1.un.2.2.2 p0 _ h8 (Ek (Aq CG h1 (Af h_v1)) W))) fun a w F W => ?_
  refine Cl tk 4 F W fun a w F W => ?_
  refine Ak (AD (Ay ?_))
  have H := AA H
  subst H
  refine Au (.inl Aa) F W Aa (Am F Aa) ?_
  exact ⟨rfl, W.done⟩
 have H := B7 (CH hb) H
 rw [hb] at F
 clear hb
 refine vc tk 6 F W fun a w F W => ?_
 refine BX F Aa (fun hb => ?_) fun hb => ?_
 ·
  have H := B8 (CI hb) H
  rw [hb] at F
  clear hb
  refine Fo tk 5 [0, 1] F W (ai (ai fun a w F W => ?_))
  refine ls F W Aa (OG (us := (UN p0)) (vs := []) F Aa Aa).q fun a w F W => ?_
  obtain ⟨x7, h9, H⟩ := Ad H
  refine ls F W Aa (AK (v := Value.bool x7) F Wt Aa (fun w W => (EO fRec ih) any w (v1) p1.un.2.2.2 p0 _ h9 (Ek (Aq CG h1 (Af h_v1)) W))) fun a w F W => ?_
  refine Cl tk 3 F W fun a w F W => ?_
  refine Ak (AD (Ay ?_))
  have H := AA H
  subst H
  refine Au (.inl Aa) F W Aa (Am F Aa) ?_
  exact ⟨rfl, W.done⟩
 have H := B7 (CH hb) H
 rw [hb] at F
 clear hb
 refine AX (AG ?_)
 refine vn tk 5 F W fun a w F W => ?_
 refine Ak ?_
 have H := AA H
 subst H
 refine Au (.inl Aa) F W Aa (Am F Aa) ?_
 exact ⟨rfl, W.done⟩
theorem H4 : ∀ (n : Nat) (Y : Nat → Prop) (w0 : World) (v1 : Value) (p0 : Int × Int × (Int × Int × Int × Int)) (p1 : Tr34) (r : Bool) (H : Bc n p0 p1 = some r) (h_v1 : Sl w0 (NX []) CC v1 p1.un.2.2.2), Calls Tryz.prog 91 #[.agg #[.int .i64 p0.1, .int .i64 p0.2.1, .int .i64 p0.2.2.1, .int .i64 p0.2.2.2.1, .int .i64 p0.2.2.2.2.1, .int .i64 p0.2.2.2.2.2], .agg #[.int .i64 p1.un.1, .int .i64 p1.un.2.1, .int .i64 p1.un.2.2.1, v1]] w0 fun e w' => e = .returned (.bool r) ∧ Below w0.heap.size w0 w' := by
  intro n
  induction n with
  | zero => intro Y w0 v1 p0 p1 r H; exact nomatch H
  | succ n ih => intro Y w0 v1 p0 p1 r H h_v1; exact HP (Bc n) ih Y w0 v1 p0 p1 r H h_v1
theorem IA (Y : Nat → Prop) (w0 : World) (v1 : Value) (p0 : Int × Int × (Int × Int × Int × Int)) (p1 : Tr34) (r : Bool) (H : DV p0 p1 = some r) (h_v1 : Sl w0 (NX []) CC v1 p1.un.2.2.2) :
    Calls Tryz.prog 91 #[.agg #[.int .i64 p0.1, .int .i64 p0.2.1, .int .i64 p0.2.2.1, .int .i64 p0.2.2.2.1, .int .i64 p0.2.2.2.2.1, .int .i64 p0.2.2.2.2.2], .agg #[.int .i64 p1.un.1, .int .i64 p1.un.2.1, .int .i64 p1.un.2.2.1, v1]] w0 fun e w' => e = .returned (.bool r) ∧ Below w0.heap.size w0 w' := by
  obtain ⟨n, H⟩ := CR H
  exact H4 n Y w0 v1 p0 p1 r H h_v1
noncomputable def Gt (p0 : Tr34) (p1 : Int) (p2 : Int) (p3 : Int × Int × Int × Int) : Option Bool := (DV (p1, p2, p3) p0).bind fun x1 => some x1
theorem MJ (Y : Nat → Prop) (w0 : World) (v1 : Value) (p0 : Tr34) (p1 : Int) (p2 : Int) (p3 : Int × Int × Int × Int) (r : Bool) (H : Gt p0 p1 p2 p3 = some r) (h_v1 : Sl w0 (NX []) CC v1 p0.un.2.2.2) :
    Calls Tryz.prog 68 #[.agg #[.int .i64 p0.un.1, .int .i64 p0.un.2.1, .int .i64 p0.un.2.2.1, v1], .int .i64 p1, .int .i64 p2, .agg #[.int .i64 p3.1, .int .i64 p3.2.1, .int .i64 p3.2.2.1, .int .i64 p3.2.2.2]] w0 fun e w' => e = .returned (.bool r) ∧ Below w0.heap.size w0 w' := by
 refine enter Tryz.func68 Aa Tryz.ntmps68 Aa fun a F => ?_
 have W := Stw.start Y w0
 obtain ⟨v2, h1, h_v1⟩ := h_v1.ex CG
 unfold Gt at H
 refine vc tk 2 F W fun a w F W => ?_
 refine CY (cs := (Im p0 v1)) F W Aa Aa Aa fun b1 a w F W => ?_
 refine CY (cs := (F8 p3)) F W Aa Aa Aa fun b2 a w F W => ?_
 refine FC tk 8 [0] F W (ai fun a w F W => ?_)
 refine ls F W Aa (CB (v := Value.agg #[.int .i64 p1, .int .i64 p2, .int .i64 p3.1, .int .i64 p3.2.1, .int .i64 p3.2.2.1, .int .i64 p3.2.2.2]) Xy F Aa Aa Aa).q fun a w F W => ?_
 refine ls F W Aa (Bw (v := Value.agg #[.int .i64 p0.un.1, .int .i64 p0.un.2.1, .int .i64 p0.un.2.2.1, v1]) 1 F Aa Aa L6 Aa).q fun a w F W => ?_
 obtain ⟨x1, h2, H⟩ := Ad H
 refine ls F W Aa (AK (v := Value.bool x1) F XT Aa (fun w W => IA any w (v1) (p1, p2, p3) p0 _ h2 (Ek (Aq CG h1 (Af h_v1)) W))) fun a w F W => ?_
 refine Cl tk 3 F W fun a w F W => ?_
 refine Ak ?_
 have H := AA H
 subst H
 refine Au (.inl Aa) F W Aa (Am F Aa) ?_
 exact ⟨rfl, W.done⟩
theorem Vo : type_of% Tryz.underlying3 := Tryz.underlying3
theorem Xc : type_of% Tryz.underlying97 := Tryz.underlying97
theorem Yd : Has Tryz.prog 68 := CJ Tryz.func68
abbrev CZ (x : Int × (Int × Int × Int × Int)) : Value := .agg #[.int .i64 x.1, .int .i64 x.2.1, .int .i64 x.2.2.1, .int .i64 x.2.2.2.1, .int .i64 x.2.2.2.2]
abbrev SI (x : Int × (Int × Int × Int × Int)) : List Int := [x.1, x.2.1, x.2.2.1, x.2.2.2.1, x.2.2.2.2]
abbrev Bi (x y : Int × (Int × Int × Int × Int)) : Bool := HS (SI x) (SI y)
theorem H2 : Lo Bi := Va SI 5 (fun _ => rfl) fun x y h => by simp only [SI, List.cons.injEq] at h; simp only [Prod.ext_iff, h, and_self]
theorem DP : Ty Tryz.prog 63 true 5 := ⟨by kernel_rfl, by kernel_rfl⟩
theorem WV : Bt Tryz.prog 97 [] [] := ⟨⟨.agg #[], by kernel_rfl, rfl⟩, ⟨_, Xc, fun w => by kernel_rfl⟩⟩
theorem W1 (d : Nat) (x0 x1 x2 x3 y0 y1 y2 y3 : Int) (w : World) : (Op.equalIn (d + 2) 29 (.agg #[.int .i64 x0, .int .i64 x1, .int .i64 x2, .int .i64 x3]) (.agg #[.int .i64 y0, .int .i64 y1, .int .i64 y2, .int .i64 y3])).run Tryz.prog w = .ok (decide (x0 = y0 ∧ x1 = y1 ∧ x2 = y2 ∧ x3 = y3)) w :=
  (Vw (d := d) (k := .i64) Rt Vo T3 [x0, x1, x2, x3] [y0, y1, y2, y3] rfl rfl w).trans (by congr 1; exact decide_eq_decide.2 (by simp))
theorem XF (dd : Nat) (x0 : Int) (x1 : Int) (x2 : Int) (x3 : Int) (x4 : Int) (y0 : Int) (y1 : Int) (y2 : Int) (y3 : Int) (y4 : Int) (w : World) : (Op.equalIn (dd + 3) 63 (.agg #[.int .i64 x0, .int .i64 x1, .int .i64 x2, .int .i64 x3, .int .i64 x4]) (.agg #[.int .i64 y0, .int .i64 y1, .int .i64 y2, .int .i64 y3, .int .i64 y4])).run Tryz.prog w = .ok (decide (x0 = y0 ∧ x1 = y1 ∧ x2 = y2 ∧ x3 = y3 ∧ x4 = y4)) w :=
  Sm (d := dd + 2) (rs := [decide (x0 = y0), decide (x1 = y1 ∧ x2 = y2 ∧ x3 = y3 ∧ x4 = y4)]) Q3 (by kernel_rfl) ⟨rfl, Uv (d := dd + 1) rfl rfl Vo T3 rfl rfl, rfl, UB (d := dd + 2) (sz := 4) (xs' := [.int .i64 x1, .int .i64 x2, .int .i64 x3, .int .i64 x4]) (ys' := [.int .i64 y1, .int .i64 y2, .int .i64 y3, .int .i64 y4]) rfl rfl SR rfl rfl (fun w => W1 (dd + 0) x1 x2 x3 x4 y1 y2 y3 y4 w), trivial⟩ (by rw [Bool.eq_iff_iff]; simp [and_assoc]) w
theorem X9 : Tryz.prog.eqGuardType Tryz.prog.depth 63 = false := by kernel_rfl
theorem W2 (x0 : Int) (x1 : Int) (x2 : Int) (x3 : Int) (x4 : Int) (y0 : Int) (y1 : Int) (y2 : Int) (y3 : Int) (y4 : Int) (w : World) : (Op.equalIn 10000 63 (.agg #[.int .i64 x0, .int .i64 x1, .int .i64 x2, .int .i64 x3, .int .i64 x4]) (.agg #[.int .i64 y0, .int .i64 y1, .int .i64 y2, .int .i64 y3, .int .i64 y4])).run Tryz.prog w = .ok (decide (x0 = y0 ∧ x1 = y1 ∧ x2 = y2 ∧ x3 = y3 ∧ x4 = y4)) w := XF 9997 x0 x1 x2 x3 x4 y0 y1 y2 y3 y4 w
instance : DecidableEq (Int × Int) := inferInstance
instance : DecidableEq (Int × Int × Int) := inferInstance
instance : DecidableEq (Int × Int × Int × Int) := inferInstance
instance : DecidableEq (Int × (Int × Int × Int × Int)) := inferInstance
theorem Um : KeyEnc Tryz.prog 63 CZ := ⟨⟨_, Q3, .inl fun _ _ => rfl⟩, fun x y w => (W2 x.1 x.2.1 x.2.2.1 x.2.2.2.1 x.2.2.2.2 y.1 y.2.1 y.2.2.1 y.2.2.2.1 y.2.2.2.2 w).trans (by congr 1; exact decide_eq_decide.2 (by simp only [Prod.ext_iff, and_assoc])), fun b x w => by kernel_rfl, fun x => by simp [Instr.sameBits]⟩
theorem V7 : (Tryz.prog.info? 63).bind (·.zero) = some (.agg #[.int .i64 0, .int .i64 0, .int .i64 0, .int .i64 0, .int .i64 0]) := by kernel_rfl
theorem YK : (Tryz.prog.info? 29).bind (·.zero) = some (.agg #[.int .i64 0, .int .i64 0, .int .i64 0, .int .i64 0]) := by kernel_rfl
noncomputable def Gw (p0 : Int) : Option Int := (if p0 = 0 then some true else (if p0 = 1 then some true else some (decide (p0 = 3)))).bind fun x1 => (if x1 = true then some 8 else (if p0 = 2 then some 4 else some 0))
theorem OK (Y : Nat → Prop) (w0 : World)  (p0 : Int) (r : Int) (H : Gw p0 = some r)  :
    Calls Tryz.prog 139 #[.int .i64 p0] w0 fun e w' => e = .returned (.int .i64 r) ∧ Below w0.heap.size w0 w' := by
 refine enter Tryz.func139 Aa Tryz.ntmps139 Aa fun a F => ?_
 have W := Stw.start Y w0
 unfold Gw at H
 refine vc tk 12 F W fun a w F W => ?_
 obtain ⟨o1, G1, K1⟩ := Ad H
 refine Ax (fun a w => ∃ x1 : Bool, some (x1) = some o1 ∧ Fr 10 [] [(2, .int .i64 0), (3, .int .i64 p0), (4, .bool x1)] a ∧ Stw ⟨Y, [], w0⟩ [] [] w) ?_ ?_
 ·
  have H := G1
  clear G1 K1
  refine vc tk 6 F W fun a w F W => ?_
  refine BX F Aa (fun hb => ?_) fun hb => ?_
  ·
   have H := B8 (CI hb) H
   rw [hb] at F
   clear hb
   refine AX (Ac ?_)
   exact ⟨_, H, F.ra Aa, W⟩
  have H := B7 (CH hb) H
  rw [hb] at F
  clear hb
  refine vc tk 6 F W fun a w F W => ?_
  refine BX F Aa (fun hb => ?_) fun hb => ?_
  ·
   have H := B8 (CI hb) H
   rw [hb] at F
   clear hb
   refine AX (Ac ?_)
   exact ⟨_, H, F.ra Aa, W⟩
  have H := B7 (CH hb) H
  rw [hb] at F
  clear hb
  refine vc tk 4 F W fun a w F W => ?_
  refine Ac ?_
  exact ⟨_, H, F.ra Aa, W⟩
 rintro a w ⟨x1, hj, F, W⟩
 have hj := AA hj
 subst hj
 have H := K1
 clear G1 K1
 refine Cz F Aa H (fun F H => ?_) fun F H => ?_
 ·
  refine vc tk 5 F W fun a w F W => ?_
  refine Ak (AD (Ay ?_))
  have H := AA H
  subst H
  refine Au (.inl Aa) F W Aa (Am F Aa) ?_
  exact ⟨rfl, W.done⟩
 refine vc tk 6 F W fun a w F W => ?_
 refine BX F Aa (fun hb => ?_) fun hb => ?_
 ·
  have H := B8 (CI hb) H
  rw [hb] at F
  clear hb
  refine vc tk 5 F W fun a w F W => ?_
  refine Ak (AD (Ay ?_))
  have H := AA H
  subst H
  refine Au (.inl Aa) F W Aa (Am F Aa) ?_
  exact ⟨rfl, W.done⟩
 have H := B7 (CH hb) H
 rw [hb] at F
 clear hb
 refine AX (AG ?_)
 refine vn tk 5 F W fun a w F W => ?_
 refine Ak ?_
 have H := AA H
 subst H
 refine Au (.inl Aa) F W Aa (Am F Aa) ?_
 exact ⟨rfl, W.done⟩
theorem XG : Has Tryz.prog 139 := CJ Tryz.func139
noncomputable def D5 (p0 : Int) : Option Int := (Gw p0).bind fun x1 => (VG (He .i64 1 x1) x1).bind fun x2 => some (AO (x2 - 1))
theorem Li (Y : Nat → Prop) (w0 : World)  (p0 : Int) (r : Int) (H : D5 p0 = some r)  :
    Calls Tryz.prog 117 #[.int .i64 p0] w0 fun e w' => e = .returned (.int .i64 r) ∧ Below w0.heap.size w0 w' := by
 refine enter Tryz.func117 Aa Tryz.ntmps117 Aa fun a F => ?_
 have W := Stw.start Y w0
 unfold D5 at H
 refine vc tk 8 F W fun a w F W => ?_
 obtain ⟨x1, h1, H⟩ := Ad H
 refine ls F W Aa (AK (v := Value.int .i64 x1) F XG Aa (fun w W => OK any w p0 _ h1)) fun a w F W => ?_
 obtain ⟨x2, h2, H⟩ := Ad H
 refine ls F W Aa (UF (LG h2).2 (RU F Aa Aa (LG h2).1)).q fun a w F W => ?_
 refine Cl tk 4 F W fun a w F W => ?_
 refine Ak ?_
 have H := AA H
 subst H
 refine Au (.inl Aa) F W Aa (Am F Aa) ?_
 exact ⟨rfl, W.done⟩
theorem WJ : Has Tryz.prog 117 := CJ Tryz.func117
noncomputable def DF (p0 : Int) (p1 : Int) : Option Bool := (if 0 ≤ p1 then (D5 p0).bind fun x2 => some (decide (p1 ≤ x2)) else some false).bind fun x1 => some x1
theorem OM (Y : Nat → Prop) (w0 : World)  (p0 : Int) (p1 : Int) (r : Bool) (H : DF p0 p1 = some r)  :
    Calls Tryz.prog 124 #[.int .i64 p0, .int .i64 p1] w0 fun e w' => e = .returned (.bool r) ∧ Below w0.heap.size w0 w' := by
 refine enter Tryz.func124 Aa Tryz.ntmps124 Aa fun a F => ?_
 have W := Stw.start Y w0
 unfold DF at H
 refine vc tk 5 F W fun a w F W => ?_
 obtain ⟨o1, G1, K1⟩ := Ad H
 refine Ax (fun a w => ∃ x1 : Bool, some (x1) = some o1 ∧ Fr 13 [] [(4, .bool x1)] a ∧ Stw ⟨Y, [], w0⟩ [] [] w) ?_ ?_
 ·
  have H := G1
  clear G1 K1
  refine vc tk 4 F W fun a w F W => ?_
  rcases Bool.eq_false_or_eq_true (decide (0 ≤ p1)) with hb | hb
  ·
   have H := B8 (CI hb) H
   rw [hb] at F
   clear hb
   refine vl tk 2 F W fun a w F W => ?_
   refine HB (Ab F Aa Aa Aa Aa) ?_
   obtain ⟨x2, h1, H⟩ := Ad H
   refine ls F W Aa (AK (v := Value.int .i64 x2) F WJ Aa (fun w W => Li any w p0 _ h1)) fun a w F W => ?_
   refine vl tk 4 F W fun a w F W => ?_
   refine Ac ?_
   exact ⟨_, H, F.ra Aa, W⟩
  have H := B7 (CH hb) H
  rw [hb] at F
  clear hb
  refine vl tk 7 F W fun a w F W => ?_
  refine Ac ?_
  exact ⟨_, H, F.ra Aa, W⟩
 rintro a w ⟨x1, hj, F, W⟩
 have hj := AA hj
 subst hj
 have H := K1
 clear G1 K1
 refine Ak ?_
 have H := AA H
 subst H
 refine Au (.inl Aa) F W Aa (Am F Aa) ?_
 exact ⟨rfl, W.done⟩
theorem XK : Has Tryz.prog 124 := CJ Tryz.func124
abbrev UQ  : List Value := [.int .i64 0, .int .i64 0, .int .i64 0, .int .i64 0]
noncomputable def C9 (p0 : Int × Int × Int × Int) (p1 : Int) (p2 : Int) : Option (Int × Int × Int × Int) := ((if (CD p1) = true then (DF p1 p2).bind fun x6 => some x6 else some false).bind fun x5 => (if x5 = true then (ix ([p0.1, p0.2.1, p0.2.2.1, p0.2.2.2] : List Int) p1).bind fun x7 => some ((if p1 = 0 then p2 else p0.1), (if p1 = 1 then p2 else p0.2.1), (if p1 = 2 then p2 else p0.2.2.1), (if p1 = 3 then p2 else p0.2.2.2)) else some (p0.1, p0.2.1, p0.2.2.1, p0.2.2.2))).bind fun (x1, x2, x3, x4) => some (x1, x2, x3, x4)
theorem OV (Y : Nat → Prop) (w0 : World)  (p0 : Int × Int × Int × Int) (p1 : Int) (p2 : Int) (r : (Int × Int × Int × Int)) (H : C9 p0 p1 p2 = some r)  :
    Calls Tryz.prog 92 #[.agg #[.int .i64 p0.1, .int .i64 p0.2.1, .int .i64 p0.2.2.1, .int .i64 p0.2.2.2], .int .i64 p1, .int .i64 p2] w0 fun e w' => e = .returned (.agg #[.int .i64 r.1, .int .i64 r.2.1, .int .i64 r.2.2.1, .int .i64 r.2.2.2]) ∧ Below w0.heap.size w0 w' := by
 refine enter Tryz.func92 Aa Tryz.ntmps92 Aa fun a F => ?_
 have W := Stw.start Y w0
 unfold C9 at H
 refine vc tk 2 F W fun a w F W => ?_
 refine CY (cs := (F8 p0)) F W Aa Aa Aa fun b1 a w F W => ?_
 refine B9 (cs := (UQ)) F W Aa YK Aa fun b2 a w F W => ?_
 refine Ew (Ac ?_)
 obtain ⟨o1, G1, K1⟩ := Ad H
 refine Ax (fun a w => ∃ x1 : Int, ∃ x2 : Int, ∃ x3 : Int, ∃ x4 : Int, some ((x1, x2, x3, x4)) = some o1 ∧ Fr 18 [] [(3, .pointer (some ⟨b1, 0, none⟩)), (6, .pointer (some ⟨b2, 0, none⟩))] a ∧ Stw ⟨Y, [], w0⟩ [(b2, [.int .i64 0, .int .i64 0, .int .i64 0, .int .i64 0]), (b1, [.int .i64 x1, .int .i64 x2, .int .i64 x3, .int .i64 x4])] [] w) ?_ ?_
 ·
  have H := G1
  clear G1 K1
  obtain ⟨o2, G2, K2⟩ := Ad H
  refine Ax (fun a w => ∃ x5 : Bool, some (x5) = some o2 ∧ Fr 18 [] [(1, .int .i64 p1), (2, .int .i64 p2), (3, .pointer (some ⟨b1, 0, none⟩)), (6, .pointer (some ⟨b2, 0, none⟩)), (13, .bool x5)] a ∧ Stw ⟨Y, [], w0⟩ [(b2, [.int .i64 0, .int .i64 0, .int .i64 0, .int .i64 0]), (b1, [.int .i64 p0.1, .int .i64 p0.2.1, .int .i64 p0.2.2.1, .int .i64 p0.2.2.2])] [] w) ?_ ?_
  ·
   have H := G2
   clear G2 K2
   refine vc tk 2 F W fun a w F W => ?_
   refine ls F W Aa (AK (v := Value.bool (CD p1)) F VW Aa (fun w W => Kh any w p1 _ Aa)) fun a w F W => ?_
   refine ls F W Aa (An F Aa).q fun a w F W => ?_
   rcases Bool.eq_false_or_eq_true (CD p1) with hb | hb
   ·
    have H := B8 hb H
    rw [hb] at F
    clear hb
    refine vl tk 2 F W fun a w F W => ?_
    refine HB (Ab F Aa Aa Aa Aa) ?_
    obtain ⟨x6, h1, H⟩ := Ad H
    refine ls F W Aa (AK (v := Value.bool x6) F XK Aa (fun w W => OM any w p1 p2 _ h1)) fun a w F W => ?_
    refine vl tk 2 F W fun a w F W => ?_
    refine Ac ?_
    have W := W.frontM (i := 1) Aa Aa
    have W := W.frontM (i := 1) Aa Aa
    exact ⟨_, H, F.ra Aa, W⟩
   have H := B7 (by rw [hb]; decide) H
   rw [hb] at F
   clear hb
   refine vl tk 5 F W fun a w F W => ?_
   refine Ac ?_
   have W := W.frontM (i := 1) Aa Aa
   have W := W.frontM (i := 1) Aa Aa
   exact ⟨_, H, F.ra Aa, W⟩
  rintro a w ⟨x5, hj, F, W⟩
  have hj := AA hj
  subst hj
  have H := K2
  clear G2 K2
  refine Cz F Aa H (fun F H => ?_) fun F H => ?_
  ·
   refine vc tk 3 F W fun a w F W => ?_
   obtain ⟨x7, h2, H⟩ := Ad H
   refine ls F W Aa (Qq (0 + (p1).toNat * 1) Rt F Aa Aa Aa h2 Aa).q fun a w F W => ?_
   refine QD (o := 0) (m := 4) (i := p1) (l := ([p0.1, p0.2.1, p0.2.2.1, p0.2.2.2] : List Int)) (x := x7) (cs := (F8 p0)) (cs' := [.int .i64 (if p1 = 0 then p2 else p0.1), .int .i64 (if p1 = 1 then p2 else p0.2.1), .int .i64 (if p1 = 2 then p2 else p0.2.2.1), .int .i64 (if p1 = 3 then p2 else p0.2.2.2)]) 1 F W Aa Aa Aa T3 Aa Aa Aa Aa h2 (by intro k hk hn; rw [hk]; match k, hn with | 0, _ => rfl | 1, _ => rfl | 2, _ => rfl | 3, _ => rfl | (z + 4), h => exact absurd h (by omega)) fun w W => ?_
   have W : Stw ⟨Y, [], w0⟩ [(b2, (UQ)), (b1, [.int .i64 (if p1 = 0 then p2 else p0.1), .int .i64 (if p1 = 1 then p2 else p0.2.1), .int .i64 (if p1 = 2 then p2 else p0.2.2.1), .int .i64 (if p1 = 3 then p2 else p0.2.2.2)])] [] w := W
   refine Ew (Ac ?_)
   have W := W.frontM (i := 1) Aa Aa
   have W := W.frontM (i := 1) Aa Aa
   exact ⟨_, _, _, _, H, F.ra Aa, W⟩
  refine AX (Ac ?_)
  have W := W.frontM (i := 1) Aa Aa
  have W := W.frontM (i := 1) Aa Aa
  exact ⟨_, _, _, _, H, F.ra Aa, W⟩
 rintro a w ⟨x1, x2, x3, x4, hj, F, W⟩
 have hj := AA hj
 subst hj
 have H := K1
 clear G1 K1
 refine Fo tk 3 [1] F W (ai fun a w F W => ?_)
 refine Ed 0 F W Aa Aa Aa SR Aa Aa Aa fun w W => ?_
 refine Cl tk 2 F W fun a w F W => ?_
 refine Ak ?_
 have H := AA H
 subst H
 refine Au (.inl Aa) F W Aa (Ig 0 F Aa Aa SR Aa) ?_
 exact ⟨rfl, W.done⟩
theorem YV : Has Tryz.prog 92 := CJ Tryz.func92
abbrev CT (a0 : Int × (Int × Int × Int × Int)) : List Value := [.int .i64 a0.1, .int .i64 a0.2.1, .int .i64 a0.2.2.1, .int .i64 a0.2.2.2.1, .int .i64 a0.2.2.2.2]
abbrev TK  : List Value := [.int .i64 0, .int .i64 0, .int .i64 0, .int .i64 0, .int .i64 0]
abbrev V1 (a0 : Nat) (a1 : Nat) (a2 : Int) (a3 : Int × (Int × Int × Int × Int)) : List (Nat × List Value) := [(a0, [.int .i64 0, .int .i64 0, .int .i64 0, .int .i64 0, .int .i64 0]), (a1, [.int .i64 a2, .int .i64 a3.2.1, .int .i64 a3.2.2.1, .int .i64 a3.2.2.2.1, .int .i64 a3.2.2.2.2])]
noncomputable def Cd (p0 : Int × (Int × Int × Int × Int)) (p1 : Int) (p2 : Int) : Option (Int × (Int × Int × Int × Int)) := (if p1 = 4 then some p2 else some p0.1).bind fun x1 => (C9 p0.2 p1 p2).bind fun x2 => some (x1, x2)
theorem Ll (Y : Nat → Prop) (w0 : World)  (p0 : Int × (Int × Int × Int × Int)) (p1 : Int) (p2 : Int) (r : (Int × (Int × Int × Int × Int))) (H : Cd p0 p1 p2 = some r)  :
    Calls Tryz.prog 69 #[.agg #[.int .i64 p0.1, .int .i64 p0.2.1, .int .i64 p0.2.2.1, .int .i64 p0.2.2.2.1, .int .i64 p0.2.2.2.2], .int .i64 p1, .int .i64 p2] w0 fun e w' => e = .returned (.agg #[.int .i64 r.1, .int .i64 r.2.1, .int .i64 r.2.2.1, .int .i64 r.2.2.2.1, .int .i64 r.2.2.2.2]) ∧ Below w0.heap.size w0 w' := by
 refine enter Tryz.func69 Aa Tryz.ntmps69 Aa fun a F => ?_
 have W := Stw.start Y w0
 unfold Cd at H
 refine vc tk 2 F W fun a w F W => ?_
 refine CY (cs := (CT p0)) F W Aa Aa Aa fun b1 a w F W => ?_
 refine B9 (cs := (TK)) F W Aa V7 Aa fun b2 a w F W => ?_
 refine Ew (Ac ?_)
 obtain ⟨o1, G1, K1⟩ := Ad H
 refine Ax (fun a w => ∃ x1 : Int, some (x1) = some o1 ∧ Fr 18 [] [(1, .int .i64 p1), (2, .int .i64 p2), (3, .pointer (some ⟨b1, 0, none⟩)), (6, .pointer (some ⟨b2, 0, none⟩))] a ∧ Stw ⟨Y, [], w0⟩ (V1 b2 b1 x1 p0) [] w) ?_ ?_
 ·
  have H := G1
  clear G1 K1
  refine vc tk 6 F W fun a w F W => ?_
  refine BJ F Aa H (fun F H => ?_) fun F H => ?_
  ·
   refine vc tk 3 F W fun a w F W => ?_
   refine Ed 1 F W Aa Aa Aa T3 Aa Aa Aa fun w W => ?_
   refine Ew (Ac ?_)
   have W := W.frontM (i := 1) Aa Aa
   have W := W.frontM (i := 1) Aa Aa
   exact ⟨_, H, F.ra Aa, W⟩
  refine AX (Ac ?_)
  have W := W.frontM (i := 1) Aa Aa
  have W := W.frontM (i := 1) Aa Aa
  exact ⟨_, H, F.ra Aa, W⟩
 rintro a w ⟨x1, hj, F, W⟩
 have hj := AA hj
 subst hj
 have H := K1
 clear G1 K1
 refine Fo tk 6 [1] F W (ai fun a w F W => ?_)
 obtain ⟨x2, h1, H⟩ := Ad H
 refine ls F W Aa (AK (v := Value.agg #[.int .i64 x2.1, .int .i64 x2.2.1, .int .i64 x2.2.2.1, .int .i64 x2.2.2.2]) F YV Aa (fun w W => OV any w p0.2 p1 p2 _ h1)) fun a w F W => ?_
 refine ls F W Aa (Ap Q3 Aa Aa Aa SR F Aa 1 Aa).q fun a w F W => ?_
 refine Ed 1 F W Aa Aa Aa SR Aa Aa Aa fun w W => ?_
 refine FC tk 5 [1] F W (ai fun a w F W => ?_)
 refine Ed 0 F W Aa Aa Aa DP Aa Aa Aa fun w W => ?_
 refine Cl tk 2 F W fun a w F W => ?_
 refine Ak ?_
 have H := AA H
 subst H
 refine Au (.inl Aa) F W Aa (Ig 0 F Aa Aa DP Aa) ?_
 exact ⟨rfl, W.done⟩
theorem Rn : type_of% Tryz.underlying73 := Tryz.underlying73
theorem YE : Has Tryz.prog 69 := CJ Tryz.func69
theorem T8 : Ty Tryz.prog 35 false 1 := ⟨by kernel_rfl, by kernel_rfl⟩
abbrev HK (a : Int × (Int × Int × Int × (Value × List Tr34)) × Int × Int × (Value × List Tr37)) : List Value := [.int .i64 a.1, .int .i64 a.2.1.1, .int .i64 a.2.1.2.1, .int .i64 a.2.1.2.2.1, a.2.1.2.2.2.1, .int .i64 a.2.2.1, .int .i64 a.2.2.2.1, a.2.2.2.2.1]
theorem NN : Fj FW HK := (Fj.pair Fl.int.to (Fj.pair (Fj.pair Fl.int.to (Fj.pair Fl.int.to (Fj.pair Fl.int.to Fj.vsl))) (Fj.pair Fl.int.to (Fj.pair Fl.int.to Fj.vsl))))
theorem WR : Has Tryz.prog 39 := CJ Tryz.func39
theorem S2 (Y : Nat → Prop) (X : List Nat) (w0 : World) (v0 v1 : Value) (s0 s1 : List (Int × (Int × Int × Int × Int))) (hL : Stw ⟨Y, X, w0⟩ [] [Cx v0 CZ Bi s0, Cx v1 CZ Bi s1] w0) :
    Calls Tryz.prog 71 #[v0, v1] w0 fun e w' => ∃ x : Unit, e = .returned (.tuple #[]) ∧ Stw ⟨Y, X, w0⟩ [] [Cx v1 CZ Bi s1, Cx v0 CZ Bi (Jg Bi s0 s1)] w' := by
  refine enter Tryz.func71 Aa Tryz.ntmps71 Aa fun a F => ?_
  have hA : Ih Bi s0 := hL.asc (i := 0) Aa
  refine FS (JH (l := [_, _]) ?_)
  refine ls F hL Aa (An F Aa).q fun a w F W => ?_
  refine KR (q := 1) F W Aa Aa Aa Aa Rn fun i b es clock l a w hv hE F W => ?_
  refine Ew (Ac (D7 ?_))
  refine Pa (fun done s => s = Jg Bi s0 done) (fun _ => [(0, v0)]) (fun s => [Cx v0 CZ Bi s]) (F.ra Aa) W hE Aa Aa Aa (fun done kx s seen a w hk hc hR F W => ?_) fun done s seen a w hp hR F W => ?_
  · refine D7 (FS (JH (l := [_, _, _, _]) ?_))
    refine ls F W Aa (K0 (q := 0) (q' := 1) F Aa Aa Aa hc).q fun a w F W => ?_
    refine ls F W Aa (Dp (vs := [CZ kx, .agg #[]]) F Aa Aa).q fun a w F W => ?_
    refine B9 F W Aa V7 Aa fun b2 a w F W => ?_
    refine Nf 0 F W Aa Aa Aa DP Aa Aa Aa Aa Aa fun w W => ?_
    refine Ew (Ac (JH (l := [_, _, _, _]) ?_))
    refine GD tk 2 [0] F W (ai fun a w F W => ?_)
    refine ls F W Aa (CB (zs := []) (cs := []) (parts := []) (vp := []) (v := .agg #[]) WV F Aa Aa Aa).q fun a w F W => ?_
    refine S0 (q := 2) kx F W Aa Aa Aa Aa Aa Um H2 Rn fun w W => ?_
    refine Ew (AG (Ac ⟨_, ?_, F.ra Aa, (W.frontZ (i := 2) Aa Aa |>.frontZ (i := 2) Aa Aa |>.sub (List.nil_sublist _) (List.Sublist.refl _))⟩))
    rw [hR]; simp only [Jg, List.foldl_append, List.foldl_cons, List.foldl_nil]
  · have W := W.unfix hE
    rw [← hv] at W
    rw [hR, Th H2 hA hp] at W
    refine Bp (Jq (.inr Aa) F Aa ?_)
    exact ⟨(), Aa, W⟩
theorem Yb : Has Tryz.prog 71 := CJ Tryz.func71
abbrev Pi (a0 : Nat) (a1 : Int × (Int × Int × Int × Int)) : List (Nat × List Value) := [(a0, [.int .i64 a1.1, .int .i64 a1.2.1, .int .i64 a1.2.2.1, .int .i64 a1.2.2.2.1, .int .i64 a1.2.2.2.2])]
abbrev F6  : List Value := [.int .i64 0, .int .i64 0, .int .i64 0, .int .i64 0, .slice none 0 0, .int .i64 0, .int .i64 0, .slice none 0 0]
noncomputable def Cs (fRec_policy_results : Tr37 → Int → (Int × (Int × Int × Int × Int)) → Option (List (Int × (Int × Int × Int × Int)))) (p1 : Int) (x4 : Tr37) (kx760 : Int × (Int × Int × Int × Int)) : Option (List (Int × (Int × Int × Int × Int))) := (fRec_policy_results (Tr37.of (x4.un.1, Tr34.of (x4.un.2.1.un.1, x4.un.2.1.un.2.1, x4.un.2.1.un.2.2.1, x4.un.2.1.un.2.2.2), x4.un.2.2.1, x4.un.2.2.2.1, x4.un.2.2.2.2)) p1 kx760).bind fun x6 => some x6
noncomputable def BM (fRec_policy_results : Tr37 → Int → (Int × (Int × Int × Int × Int)) → Option (List (Int × (Int × Int × Int × Int)))) (p0 : List Tr37) (p1 : Int) : ((List (Int × (Int × Int × Int × Int))) × Int) → Option (((List (Int × (Int × Int × Int × Int))) × Int) ⊕ (List (Int × (Int × Int × Int × Int))))
  | (x2, x3) => (if x3 < (p0.length : Int) then (ix p0 x3).bind fun x4 => (GC Bi (Cs fRec_policy_results p1 x4) x2 ([] : List (Int × (Int × Int × Int × Int)))).bind fun x5 => some (.inl (x5, AO (x3 + 1))) else some (.inr x2))
noncomputable def CK (fRec_policy_results : Tr37 → Int → (Int × (Int × Int × Int × Int)) → Option (List (Int × (Int × Int × Int × Int)))) (p0 : List Tr37) (p1 : Int) (p2 : Int × (Int × Int × Int × Int)) : Option (List (Int × (Int × Int × Int × Int))) := (AW (BM fRec_policy_results p0 p1) ((FN Bi ([] : List (Int × (Int × Int × Int × Int))) p2), 0)).bind fun x1 => some x1
theorem Kr (fRec_policy_results : Tr37 → Int → (Int × (Int × Int × Int × Int)) → Option (List (Int × (Int × Int × Int × Int)))) (ih_policy_results : ∀ (Y : Nat → Prop) (w0 : World) (v1 : Value) (v2 : Value) (p0 : Tr37) (p1 : Int) (p2 : Int × (Int × Int × Int × Int)) (r : (List (Int × (Int × Int × Int × Int)))) (H : fRec_policy_results p0 p1 p2 = some r) (h_v1 : Sl w0 (NX []) CC v1 p0.un.2.1.un.2.2.2) (s_v2 : Sl w0 Y De v2 p0.un.2.2.2.2), Calls Tryz.prog 39 #[.agg #[.int .i64 p0.un.1, .int .i64 p0.un.2.1.un.1, .int .i64 p0.un.2.1.un.2.1, .int .i64 p0.un.2.1.un.2.2.1, v1, .int .i64 p0.un.2.2.1, .int .i64 p0.un.2.2.2.1, v2], .int .i64 p1, .agg #[.int .i64 p2.1, .int .i64 p2.2.1, .int .i64 p2.2.2.1, .int .i64 p2.2.2.2.1, .int .i64 p2.2.2.2.2]] w0 fun e w' => ∃ x : Value, e = .returned (x) ∧ Stw ⟨Y, [], w0⟩ [] [Cx (x) CZ Bi r] w') (Y : Nat → Prop) (w0 : World) (v1 : Value) (p0 : List Tr37) (p1 : Int) (p2 : Int × (Int × Int × Int × Int)) (r : (List (Int × (Int × Int × Int × Int)))) (H : CK fRec_policy_results p0 p1 p2 = some r) (s_v1 : Sl w0 Y De v1 p0) :
    Calls Tryz.prog 70 #[v1, .int .i64 p1, .agg #[.int .i64 p2.1, .int .i64 p2.2.1, .int .i64 p2.2.2.1, .int .i64 p2.2.2.2.1, .int .i64 p2.2.2.2.2]] w0 fun e w' => ∃ x : Value, e = .returned (x) ∧ Stw ⟨Y, [], w0⟩ [] [Cx (x) CZ Bi r] w' := by
 refine enter Tryz.func70 Aa Tryz.ntmps70 Aa fun a F => ?_
 have W := Stw.start Y w0
 obtain ⟨v2, h1, s_v1⟩ := s_v1.ex EE
 have h_v1 := W.nx s_v1
 unfold CK at H
 refine vc tk 2 F W fun a w F W => ?_
 refine CY (cs := (CT p2)) F W Aa Aa Aa fun b1 a w F W => ?_
 refine Cl tk 5 F W fun a w F W => ?_
 refine Hx CZ Bi F W Aa fun v3 a w F W => ?_
 have W : Stw ⟨Y, [], w0⟩ (Pi b1 p2) [Cx v3 CZ Bi ([] : List (Int × (Int × Int × Int × Int)))] w := W
 refine ls F W Aa (Bw (v := Value.agg #[.int .i64 p2.1, .int .i64 p2.2.1, .int .i64 p2.2.2.1, .int .i64 p2.2.2.2.1, .int .i64 p2.2.2.2.2]) 0 F Aa Aa DP Aa).q fun a w F W => ?_
 refine ls F W Aa (CB (v := Value.agg #[]) WV F Aa Aa Aa).q fun a w F W => ?_
 refine l_setput' (q := 0) (p2 : Int × (Int × Int × Int × Int)) F W Aa Aa Aa Aa Aa Um H2 Rn fun w W => ?_
 have W : Stw ⟨Y, [], w0⟩ (Pi b1 p2) [Cx v3 CZ Bi (FN Bi ([] : List (Int × (Int × Int × Int × Int))) p2)] w := W
 refine vl tk 3 F W fun a w F W => ?_
 refine Ac ?_
 obtain ⟨o1, G1, K1⟩ := Ad H
 refine Ax (fun a w => ∃ x1 : List (Int × (Int × Int × Int × Int)), ∃ v4 : Value, some (x1) = some o1 ∧ Fr 38 [] [(6, .map none), (7, v4)] a ∧ Stw ⟨Y, [], w0⟩ (Pi b1 p2) [Cx v4 CZ Bi x1] w) ?_ ?_
 ·
  have H := G1
  clear G1 K1
  refine vc tk 3 F W fun a w F W => ?_
  refine ls F W Aa (CS (r := De) (l := p0) Kq Aa F Aa (Aq EE h1 (Af h_v1))).q fun a w F W => ?_
  refine Cl tk 4 F W fun a w F W => ?_
  refine BF H (fun s a w => ∃ v5 : Value, Fr 38 [] [(1, .int .i64 p1), (6, .map none), (7, v5), (16, v1), (17, .int .i64 (p0.length : Int)), (18, .int .i64 s.2)] a ∧ Stw ⟨Y, [], w0⟩ (Pi b1 p2) [Cx v5 CZ Bi s.1] w) ⟨(v3), F.ra Aa, W⟩ fun s o a w H L2 hR => ?_
  obtain ⟨x2, x3⟩ := s
  obtain ⟨v5, F, W⟩ := hR
  have F : Fr 38 [] [(1, .int .i64 p1), (6, .map none), (7, v5), (16, v1), (17, .int .i64 (p0.length : Int)), (18, .int .i64 x3)] a := F
  have W : Stw ⟨Y, [], w0⟩ (Pi b1 p2) [Cx v5 CZ Bi x2] w := W
  rw [BM] at H
  refine vc tk 6 F W fun a w F W => ?_
  refine BJ F Aa H (fun F H => ?_) fun F H => ?_
  ·
   refine FL tk 6 F W fun a w F W => ?_
   obtain ⟨x4, h2, H⟩ := Ad H
   obtain ⟨v6, h3, h4⟩ := DM h1 h2
   have h5 : HK v6 = [.int .i64 x4.un.1, .int .i64 x4.un.2.1.un.1, .int .i64 x4.un.2.1.un.2.1, .int .i64 x4.un.2.1.un.2.2.1, (v6.2.1.2.2.2.1), .int .i64 x4.un.2.2.1, .int .i64 x4.un.2.2.2.1, (v6.2.2.2.2.1)] := congrArg (fun q : Tr37 => ([.int .i64 q.un.1, .int .i64 q.un.2.1.un.1, .int .i64 q.un.2.1.un.2.1, .int .i64 q.un.2.1.un.2.2.1, (v6.2.1.2.2.2.1), .int .i64 q.un.2.2.1, .int .i64 q.un.2.2.2.1, (v6.2.2.2.2.1)] : List Value)) h4
   refine ls F W Aa (Av (r := FW) O0 F Aa Aa (Af h_v1) h3).q fun a w F W => ?_
   refine ls F W Aa (Al (y := Value.agg #[.int .i64 x4.un.1, .int .i64 x4.un.2.1.un.1, .int .i64 x4.un.2.1.un.2.1, .int .i64 x4.un.2.1.un.2.2.1, (v6.2.1.2.2.2.1), .int .i64 x4.un.2.2.1, .int .i64 x4.un.2.2.2.1, (v6.2.2.2.2.1)]) (j := 0) (i := x3) (enc := HK) F Aa Aa (Af h_v1) h3 NN II (by rw [h5]; rfl)).q fun a w F W => ?_
   refine B9 (cs := (F6)) F W Aa Mc Aa fun b2 a w F W => ?_
   refine Ed 0 F W Aa Aa Aa II Aa Aa (Ae Aa (Ae Aa (Ae Aa (Ae Aa (Ae ((BE (Af h_v1) h3 (Ai.snd (Ai.fst (Ai.snd (Ai.snd (Ai.snd Ai.here))))) (congrArg (fun q : Tr37 => q.un.2.1.un.2.2.2) h4)) _ W).one (Ae Aa (Ae Aa (Ae ((BE (Af h_v1) h3 (Ai.snd (Ai.snd (Ai.snd (Ai.snd Ai.here)))) (congrArg (fun q : Tr37 => q.un.2.2.2.2) h4)) _ W).one Df)))))))) fun w W => ?_
   refine Cl tk 4 F W fun a w F W => ?_
   refine Hx CZ Bi F W Aa fun v7 a w F W => ?_
   have W : Stw ⟨Y, [], w0⟩ [(b2, [.int .i64 x4.un.1, .int .i64 x4.un.2.1.un.1, .int .i64 x4.un.2.1.un.2.1, .int .i64 x4.un.2.1.un.2.2.1, (v6.2.1.2.2.2.1), .int .i64 x4.un.2.2.1, .int .i64 x4.un.2.2.2.1, (v6.2.2.2.2.1)]), (b1, (CT p2))] [Cx v7 CZ Bi ([] : List (Int × (Int × Int × Int × Int))), Cx v5 CZ Bi x2] w := W
   refine Cl tk 7 F W fun a w F W => ?_
   refine KR (q := 1) F W Aa Aa Aa Aa Rn fun i760 m760 e760 c760 l760 a w hv760 hE760 F W => ?_
   have W : Stw ⟨Y, [], w0⟩ [(b2, [.int .i64 x4.un.1, .int .i64 x4.un.2.1.un.1, .int .i64 x4.un.2.1.un.2.1, .int .i64 x4.un.2.1.un.2.2.1, (v6.2.1.2.2.2.1), .int .i64 x4.un.2.2.1, .int .i64 x4.un.2.2.2.1, (v6.2.2.2.2.1)]), (b1, (CT p2))] [Gi i760 m760 c760 #[] c760, F0 m760 e760 c760, Cx v7 CZ Bi ([] : List (Int × (Int × Int × Int × Int)))] w := W
   refine Cl tk 3 F W fun a w F W => ?_
   obtain ⟨x5, h6, H⟩ := Ad H
   refine TU (Ff := [(1, .int .i64 p1), (6, .map none), (7, v5), (9, .pointer (some ⟨b2, 0, none⟩)), (10, v7), (16, v1), (17, .int .i64 (p0.length : Int)), (18, .int .i64 x3), (19, .bool true), (21, .agg #[.int .i64 x4.un.1, .int .i64 x4.un.2.1.un.1, .int .i64 x4.un.2.1.un.2.1, .int .i64 x4.un.2.1.un.2.2.1, (v6.2.1.2.2.2.1), .int .i64 x4.un.2.2.1, .int .i64 x4.un.2.2.2.1, (v6.2.2.2.2.1)]), (22, v7), (23, v5)]) (Zr := []) (va := v7) H2 h6 (F.ra Aa) W hv760 hE760 Aa Aa (fun kx760 r760 s760 sn760 a w G760_ hc760 F W => ?_) fun a w F W => ?_
   ·
    have F : Fr 38 [] [(1, .int .i64 p1), (6, .map none), (7, v5), (9, .pointer (some ⟨b2, 0, none⟩)), (10, v7), (16, v1), (17, .int .i64 (p0.length : Int)), (18, .int .i64 x3), (19, .bool true), (21, .agg #[.int .i64 x4.un.1, .int .i64 x4.un.2.1.un.1, .int .i64 x4.un.2.1.un.2.1, .int .i64 x4.un.2.1.un.2.2.1, (v6.2.1.2.2.2.1), .int .i64 x4.un.2.2.1, .int .i64 x4.un.2.2.2.1, (v6.2.2.2.2.1)]), (22, v7), (23, v5), (24, .pointer (some ⟨i760, 0, none⟩)), (25, .tuple #[.bool true, .agg #[.int .i64 kx760.1, .int .i64 kx760.2.1, .int .i64 kx760.2.2.1, .int .i64 kx760.2.2.2.1, .int .i64 kx760.2.2.2.2], .agg #[]]), (26, .bool true)] a := F.ra Aa
    have W : Stw ⟨Y, [], w0⟩ [(b2, [.int .i64 x4.un.1, .int .i64 x4.un.2.1.un.1, .int .i64 x4.un.2.1.un.2.1, .int .i64 x4.un.2.1.un.2.2.1, (v6.2.1.2.2.2.1), .int .i64 x4.un.2.2.1, .int .i64 x4.un.2.2.2.1, (v6.2.2.2.2.1)]), (b1, (CT p2))] [Gi i760 m760 c760 sn760 c760, F0 m760 e760 c760, Cx v7 CZ Bi s760] w := W
    have H := G760_
    rw [Cs] at H
    refine vc tk 3 F W fun a w F W => ?_
    refine ls F W Aa (K0 (q := 0) (q' := 1) F Aa Aa Aa hc760).q fun a w F W => ?_
    refine ls F W Aa (Dp (v := Value.agg #[.int .i64 kx760.1, .int .i64 kx760.2.1, .int .i64 kx760.2.2.1, .int .i64 kx760.2.2.2.1, .int .i64 kx760.2.2.2.2]) F Aa Aa).q fun a w F W => ?_
    refine B9 (cs := (TK)) F W Aa V7 Aa fun b3 a w F W => ?_
    refine Ed 0 F W Aa Aa Aa DP Aa Aa Aa fun w W => ?_
    refine FC tk 7 [1, 0] F W (ai (ai fun a w F W => ?_))
    obtain ⟨x6, h7, H⟩ := Ad H
    refine Bv (Ml := []) (Zl := []) (β := Value) (rv := fun x => x) (MM := fun x => []) (ZZ := fun x => [Cx x CZ Bi x6]) F W WR Aa Aa (fun hL => ih_policy_results _ w ((v6.2.1.2.2.2.1)) ((v6.2.2.2.2.1)) (Tr37.of (x4.un.1, Tr34.of (x4.un.2.1.un.1, x4.un.2.1.un.2.1, x4.un.2.1.un.2.2.1, x4.un.2.1.un.2.2.2), x4.un.2.2.1, x4.un.2.2.2.1, x4.un.2.2.2.2)) p1 kx760 _ h7 ((BE (Af h_v1) h3 (Ai.snd (Ai.fst (Ai.snd (Ai.snd (Ai.snd Ai.here))))) (congrArg (fun q : Tr37 => q.un.2.1.un.2.2.2) h4)) w W).nx (Sl.at_ (W.old s_v1) h3 (Ai.snd (Ai.snd (Ai.snd (Ai.snd Ai.here)))) (congrArg (fun q : Tr37 => q.un.2.2.2.2) h4))) fun x a w F W => ?_
    obtain ⟨v8, rfl⟩ : ∃ y, y = x := ⟨x, rfl⟩
    have W : Stw ⟨Y, [], w0⟩ [(b3, (CT kx760)), (b2, [.int .i64 x4.un.1, .int .i64 x4.un.2.1.un.1, .int .i64 x4.un.2.1.un.2.1, .int .i64 x4.un.2.1.un.2.2.1, (v6.2.1.2.2.2.1), .int .i64 x4.un.2.2.1, .int .i64 x4.un.2.2.2.1, (v6.2.2.2.2.1)]), (b1, (CT p2))] [Cx v8 CZ Bi x6, Gi i760 m760 c760 sn760 c760, F0 m760 e760 c760, Cx v7 CZ Bi s760] w := W
    have W := W.frontZ (i := 3) Aa Aa
    refine Bv (Ml := []) (Zl := [Cx v7 CZ Bi s760, Cx v8 CZ Bi x6]) (β := Unit) (rv := fun _ => .tuple #[]) (MM := fun _ => []) (ZZ := fun _ => [Cx v8 CZ Bi x6, Cx v7 CZ Bi (Jg Bi s760 x6)]) F W Yb Aa Aa (fun hL => S2 _ _ w _ _ _ _ hL) fun _ a w F W => ?_
    have W : Stw ⟨Y, [], w0⟩ [(b3, (CT kx760)), (b2, [.int .i64 x4.un.1, .int .i64 x4.un.2.1.un.1, .int .i64 x4.un.2.1.un.2.1, .int .i64 x4.un.2.1.un.2.2.1, (v6.2.1.2.2.2.1), .int .i64 x4.un.2.2.1, .int .i64 x4.un.2.2.2.1, (v6.2.2.2.2.1)]), (b1, (CT p2))] [Cx v8 CZ Bi x6, Cx v7 CZ Bi (Jg Bi s760 x6), Gi i760 m760 c760 sn760 c760, F0 m760 e760 c760] w := W
    refine Ew (AG (Ac ?_))
    have H := AA H
    subst H
    have W := W.frontZ (i := 1) Aa Aa
    have W := W.frontZ (i := 3) Aa Aa
    have W := W.frontZ (i := 3) Aa Aa
    have W := W.frontM (i := 2) Aa Aa
    have W := W.frontM (i := 2) Aa Aa
    have W := W.sub (M' := [(b2, [.int .i64 x4.un.1, .int .i64 x4.un.2.1.un.1, .int .i64 x4.un.2.1.un.2.1, .int .i64 x4.un.2.1.un.2.2.1, (v6.2.1.2.2.2.1), .int .i64 x4.un.2.2.1, .int .i64 x4.un.2.2.2.1, (v6.2.2.2.2.1)]), (b1, (CT p2))]) (Z' := [Gi i760 m760 c760 sn760 c760, F0 m760 e760 c760, Cx v7 CZ Bi (Jg Bi s760 x6)]) (List.Sublist.cons_cons _ (List.Sublist.cons_cons _ (List.nil_sublist _))) (List.Sublist.cons_cons _ (List.Sublist.cons_cons _ (List.Sublist.cons_cons _ (List.nil_sublist _))))
    exact ⟨F.ra Aa, W⟩
   have F : Fr 38 [] [(1, .int .i64 p1), (6, .map none), (7, v5), (9, .pointer (some ⟨b2, 0, none⟩)), (10, v7), (16, v1), (17, .int .i64 (p0.length : Int)), (18, .int .i64 x3), (19, .bool true), (21, .agg #[.int .i64 x4.un.1, .int .i64 x4.un.2.1.un.1, .int .i64 x4.un.2.1.un.2.1, .int .i64 x4.un.2.1.un.2.2.1, (v6.2.1.2.2.2.1), .int .i64 x4.un.2.2.1, .int .i64 x4.un.2.2.2.1, (v6.2.2.2.2.1)]), (22, v7), (23, v5)] a := F.ra Aa
   have W : Stw ⟨Y, [], w0⟩ [(b2, [.int .i64 x4.un.1, .int .i64 x4.un.2.1.un.1, .int .i64 x4.un.2.1.un.2.1, .int .i64 x4.un.2.1.un.2.2.1, (v6.2.1.2.2.2.1), .int .i64 x4.un.2.2.1, .int .i64 x4.un.2.2.2.1, (v6.2.2.2.2.1)]), (b1, (CT p2))] [Cx v5 CZ Bi x2, Cx v7 CZ Bi x5] w := W
   refine Bp ?_
   refine vn tk 4 F W fun a w F W => ?_
   refine AG ?_
   refine vn tk 4 F W fun a w F W => ?_
   refine Ac ?_
   have W := W.frontZ (i := 1) Aa Aa
   have W := W.frontM (i := 1) Aa Aa
   have W := W.sub (M' := (Pi b1 p2)) (Z' := [Cx v7 CZ Bi x5]) (List.Sublist.cons_cons _ (List.nil_sublist _)) (List.Sublist.cons_cons _ (List.nil_sublist _))
   exact ⟨_, H, (v7), F.ra Aa, W⟩
  refine Bu ?_
  iterate 2 refine BL ?_
  refine Bp (Ac ?_)
  have H := L2 _ H
  exact ⟨_, (v5), H, F.ra Aa, W⟩
 rintro a w ⟨x1, v4, hj, F, W⟩
 have hj := AA hj
 subst hj
 have H := K1
 clear G1 K1
 refine vc tk 6 F W fun a w F W => ?_
 refine Ak ?_
 have H := AA H
 subst H
 refine Au (.inl Aa) F W Aa (Am F Aa) ?_
 have W := W.sub (M' := []) (Z' := [Cx v4 CZ Bi x1]) (List.nil_sublist _) (List.Sublist.refl _)
 exact ⟨(v4), Aa, W⟩
theorem Yw : Has Tryz.prog 70 := CJ Tryz.func70
abbrev CX (a0 : Tr37) (a1 : Value) (a2 : Value) : List Value := [.int .i64 a0.un.1, .int .i64 a0.un.2.1.un.1, .int .i64 a0.un.2.1.un.2.1, .int .i64 a0.un.2.1.un.2.2.1, a1, .int .i64 a0.un.2.2.1, .int .i64 a0.un.2.2.2.1, a2]
abbrev Wo (a0 : Nat) (a1 : Nat) (a2 : Int × (Int × Int × Int × Int)) (a3 : Nat) (a4 : Tr37) (a5 : Value) (a6 : Value) : List (Nat × List Value) := [(a0, [.int .i64 0, .int .i64 0, .int .i64 0, .int .i64 0, .slice none 0 0, .int .i64 0, .int .i64 0, .slice none 0 0]), (a1, [.int .i64 a2.1, .int .i64 a2.2.1, .int .i64 a2.2.2.1, .int .i64 a2.2.2.2.1, .int .i64 a2.2.2.2.2]), (a3, [.int .i64 a4.un.1, .int .i64 a4.un.2.1.un.1, .int .i64 a4.un.2.1.un.2.1, .int .i64 a4.un.2.1.un.2.2.1, a5, .int .i64 a4.un.2.2.1, .int .i64 a4.un.2.2.2.1, a6])]
noncomputable def EC (p0 : Tr37) (p1 : Int) (p2 : Int × (Int × Int × Int × Int)) : Option Tr37 := ((Gt (Tr34.of (p0.un.2.1.un.1, p0.un.2.1.un.2.1, p0.un.2.1.un.2.2.1, p0.un.2.1.un.2.2.2)) p1 p2.1 p2.2).bind fun x2 => (if x2 = true then some 0 else some 1)).bind fun x1 => (if (p0.un.2.2.2.2.length : Int) ≤ x1 then some (Tr37.of (0, Tr34.of (0, 0, 0, ([] : List Tr34)), 0, 0, ([] : List Tr37))) else (ix p0.un.2.2.2.2 x1).bind fun x3 => some (Tr37.of (x3.un.1, Tr34.of (x3.un.2.1.un.1, x3.un.2.1.un.2.1, x3.un.2.1.un.2.2.1, x3.un.2.1.un.2.2.2), x3.un.2.2.1, x3.un.2.2.2.1, x3.un.2.2.2.2)))
theorem M4 (Y : Nat → Prop) (w0 : World) (v1 : Value) (v2 : Value) (p0 : Tr37) (p1 : Int) (p2 : Int × (Int × Int × Int × Int)) (r : Tr37) (H : EC p0 p1 p2 = some r) (h_v1 : Sl w0 (NX []) CC v1 p0.un.2.1.un.2.2.2) (s_v2 : Sl w0 Y De v2 p0.un.2.2.2.2) :
    Calls Tryz.prog 72 #[.agg #[.int .i64 p0.un.1, .int .i64 p0.un.2.1.un.1, .int .i64 p0.un.2.1.un.2.1, .int .i64 p0.un.2.1.un.2.2.1, v1, .int .i64 p0.un.2.2.1, .int .i64 p0.un.2.2.2.1, v2], .int .i64 p1, .agg #[.int .i64 p2.1, .int .i64 p2.2.1, .int .i64 p2.2.2.1, .int .i64 p2.2.2.2.1, .int .i64 p2.2.2.2.2]] w0 fun e w' => ∃ x : Value × Value, e = .returned (.agg #[.int .i64 r.un.1, .int .i64 r.un.2.1.un.1, .int .i64 r.un.2.1.un.2.1, .int .i64 r.un.2.1.un.2.2.1, x.1, .int .i64 r.un.2.2.1, .int .i64 r.un.2.2.2.1, x.2]) ∧ Stw ⟨Y, [], w0⟩ [] [Ef (x.1) CC r.un.2.1.un.2.2.2, Ef (x.2) De r.un.2.2.2.2] w' := by
 refine enter Tryz.func72 Aa Tryz.ntmps72 Aa fun a F => ?_
 have W := Stw.start Y w0
 obtain ⟨v3, h1, h_v1⟩ := h_v1.ex CG
 obtain ⟨v4, h2, s_v2⟩ := s_v2.ex EE
 have h_v2 := W.nx s_v2
 unfold EC at H
 refine vc tk 2 F W fun a w F W => ?_
 refine CY (cs := (CX p0 v1 v2)) F W Aa Aa Aa fun b1 a w F W => ?_
 refine CY (cs := (CT p2)) F W Aa Aa Aa fun b2 a w F W => ?_
 refine B9 (cs := (F6)) F W Aa Mc Aa fun b3 a w F W => ?_
 refine Cl tk 7 F W fun a w F W => ?_
 obtain ⟨o1, G1, K1⟩ := Ad H
 refine Ax (fun a w => ∃ x1 : Int, some (x1) = some o1 ∧ Fr 27 [] [(3, .pointer (some ⟨b1, 0, none⟩)), (6, .pointer (some ⟨b3, 0, none⟩)), (7, .int .i64 x1)] a ∧ Stw ⟨Y, [], w0⟩ (Wo b3 b2 p2 b1 p0 v1 v2) [] w) ?_ ?_
 ·
  have H := G1
  clear G1 K1
  refine Fo tk 9 [2, 1, 1] F W (ai (ai (ai fun a w F W => ?_)))
  obtain ⟨x2, h3, H⟩ := Ad H
  refine ls F W Aa (AK (v := Value.bool x2) F Yd Aa (fun w W => MJ any w (v1) (Tr34.of (p0.un.2.1.un.1, p0.un.2.1.un.2.1, p0.un.2.1.un.2.2.1, p0.un.2.1.un.2.2.2)) p1 p2.1 p2.2 _ h3 (Ek (Aq CG h1 (Af h_v1)) W))) fun a w F W => ?_
  refine Cl tk 2 F W fun a w F W => ?_
  refine Cz F Aa H (fun F H => ?_) fun F H => ?_
  ·
   refine vc tk 3 F W fun a w F W => ?_
   refine Ac ?_
   have W := W.frontM (i := 2) Aa Aa
   have W := W.frontM (i := 2) Aa Aa
   have W := W.frontM (i := 2) Aa Aa
   exact ⟨_, H, F.ra Aa, W⟩
  refine AX (Ac ?_)
  have W := W.frontM (i := 2) Aa Aa
  have W := W.frontM (i := 2) Aa Aa
  have W := W.frontM (i := 2) Aa Aa
  exact ⟨_, H, F.ra Aa, W⟩
 rintro a w ⟨x1, hj, F, W⟩
 have hj := AA hj
 subst hj
 have H := K1
 clear G1 K1
 refine Fo tk 6 [2] F W (ai fun a w F W => ?_)
 refine ls F W Aa (CS (r := De) (l := p0.un.2.2.2.2) Kq Aa F Aa (Aq EE h2 (Af h_v2))).q fun a w F W => ?_
 refine Cl tk 3 F W fun a w F W => ?_
 refine BJ F Aa H (fun F H => ?_) fun F H => ?_
 ·
  refine vc tk 2 F W fun a w F W => ?_
  refine ls F W Aa (CB (v := Value.agg #[.int .i64 0, .int .i64 0, .int .i64 0, .int .i64 0, .slice none 0 0, .int .i64 0, .int .i64 0, .slice none 0 0]) Q8 F Aa Aa Aa).q fun a w F W => ?_
  refine Ed 0 F W Aa Aa Aa II Aa Aa Aa fun w W => ?_
  refine Cl tk 2 F W fun a w F W => ?_
  refine Ak (Ay ?_)
  have H := AA H
  subst H
  refine Au (.inl Aa) F W Aa (Ig 0 F Aa Aa II Aa) ?_
  have W := W.note (Sl.nil (r := CC))
  have W := W.note (Sl.nil (r := De))
  have W := W.frontZ (i := 1) Aa Aa
  have W := W.sub (M' := []) (Z' := [Ef (Value.slice none 0 0) CC ([]), Ef (Value.slice none 0 0) De ([])]) (List.nil_sublist _) (List.Sublist.refl _)
  exact ⟨((Value.slice none 0 0), (Value.slice none 0 0)), Aa, W⟩
 refine P6 tk 7 [2] F W (ai fun a w F W => ?_)
 obtain ⟨x3, h4, H⟩ := Ad H
 obtain ⟨v5, h5, h6⟩ := DM h2 h4
 have h7 : HK v5 = [.int .i64 x3.un.1, .int .i64 x3.un.2.1.un.1, .int .i64 x3.un.2.1.un.2.1, .int .i64 x3.un.2.1.un.2.2.1, (v5.2.1.2.2.2.1), .int .i64 x3.un.2.2.1, .int .i64 x3.un.2.2.2.1, (v5.2.2.2.2.1)] := congrArg (fun q : Tr37 => ([.int .i64 q.un.1, .int .i64 q.un.2.1.un.1, .int .i64 q.un.2.1.un.2.1, .int .i64 q.un.2.1.un.2.2.1, (v5.2.1.2.2.2.1), .int .i64 q.un.2.2.1, .int .i64 q.un.2.2.2.1, (v5.2.2.2.2.1)] : List Value)) h6
 refine ls F W Aa (Av (r := FW) O0 F Aa Aa (Af h_v2) h5).q fun a w F W => ?_
 refine ls F W Aa (Al (y := Value.agg #[.int .i64 x3.un.1, .int .i64 x3.un.2.1.un.1, .int .i64 x3.un.2.1.un.2.1, .int .i64 x3.un.2.1.un.2.2.1, (v5.2.1.2.2.2.1), .int .i64 x3.un.2.2.1, .int .i64 x3.un.2.2.2.1, (v5.2.2.2.2.1)]) (j := 0) (i := x1) (enc := HK) F Aa Aa (Af h_v2) h5 NN II (by rw [h7]; rfl)).q fun a w F W => ?_
 refine Ed 0 F W Aa Aa Aa II Aa Aa (Ae Aa (Ae Aa (Ae Aa (Ae Aa (Ae ((BE (Af h_v2) h5 (Ai.snd (Ai.fst (Ai.snd (Ai.snd (Ai.snd Ai.here))))) (congrArg (fun q : Tr37 => q.un.2.1.un.2.2.2) h6)) _ W).one (Ae Aa (Ae Aa (Ae ((BE (Af h_v2) h5 (Ai.snd (Ai.snd (Ai.snd (Ai.snd Ai.here)))) (congrArg (fun q : Tr37 => q.un.2.2.2.2) h6)) _ W).one Df)))))))) fun w W => ?_
 refine Cl tk 2 F W fun a w F W => ?_
 refine Ak ?_
 have H := AA H
 subst H
 refine Au (.inl Aa) F W Aa (Ig 0 F Aa Aa II Aa) ?_
 have W := W.note (Sl.at_ (W.old s_v2) h5 (Ai.snd (Ai.fst (Ai.snd (Ai.snd (Ai.snd Ai.here))))) (congrArg (fun q : Tr37 => q.un.2.1.un.2.2.2) h6))
 have W := W.note (Sl.at_ (W.old s_v2) h5 (Ai.snd (Ai.snd (Ai.snd (Ai.snd Ai.here)))) (congrArg (fun q : Tr37 => q.un.2.2.2.2) h6))
 have W := W.frontZ (i := 1) Aa Aa
 have W := W.sub (M' := []) (Z' := [Ef (v5.2.1.2.2.2.1) CC x3.un.2.1.un.2.2.2, Ef (v5.2.2.2.2.1) De x3.un.2.2.2.2]) (List.nil_sublist _) (List.Sublist.refl _)
 exact ⟨(((v5.2.1.2.2.2.1)), ((v5.2.2.2.2.1))), Aa, W⟩
end Go.Proofs.YtpckgggmgijiiaaGreatDoor
