/- The functions of layer 29, E5. Conditions: none. -/
import Derived.Test.YtlgjpoapclifbaaDoorcA7
namespace Go.Proofs.YtlgjpoapclifbaaDoor
open Go Go.RowKit
set_option linter.unusedVariables false
set_option linter.unusedSimpArgs false
set_option maxRecDepth 20000
theorem VP : Has Tryd.prog 71 := ⟨fun args w => An Tryd.func71 rfl (by decide) args w⟩
theorem VM : Has Tryd.prog 46 := ⟨fun args w => An Tryd.func46 rfl (by decide) args w⟩
abbrev Eb (a0 : Nat) (a1 : Tr34) (a2 : Value) : List (Nat × List Value) := [(a0, [.int .i64 a1.un.1, .int .i64 a1.un.2.1, .int .i64 a1.un.2.2.1, a2])]
noncomputable def Eg (fRec : Tr34 → Option Bool) (p0 : Tr34) : Int → Option (Int ⊕ (Unit ⊕ Bool))
  | x1 => (if x1 < (p0.un.2.2.2.length : Int) then (ix p0.un.2.2.2 x1).bind fun x2 => (fRec x2).bind fun x3 => (if (!x3) = true then some (.inr (.inr false)) else some (.inl (DP (x1 + 1)))) else some (.inr (.inl ())))
noncomputable def Ed (fRec : Tr34 → Option Bool) (p0 : Tr34) : Option Bool := (if (bif decide (p0.un.1 ≠ 3) then (decide (p0.un.2.1 ≠ 0) || (decide (p0.un.2.2.1 ≠ 0) || (decide (p0.un.1 < 1) || decide (6 < p0.un.1)))) else (decide (p0.un.1 < 1) || decide (6 < p0.un.1))) = true then some false else (if (decide (p0.un.1 = 3) && (decide (p0.un.2.1 < 0) || (decide (5 < p0.un.2.1) || (decide (p0.un.2.2.1 < 0) || decide ((EF p0.un.2.1) < p0.un.2.2.1))))) = true then some false else (if (bif decide (p0.un.1 ≤ 3) then (decide ((p0.un.2.2.2.length : Int) ≠ 0) || (bif decide (p0.un.1 = 4) then (decide ((p0.un.2.2.2.length : Int) ≠ 1) || (decide (5 ≤ p0.un.1) && (decide ((p0.un.2.2.2.length : Int) < 2) || decide (8 < (p0.un.2.2.2.length : Int))))) else (decide (5 ≤ p0.un.1) && (decide ((p0.un.2.2.2.length : Int) < 2) || decide (8 < (p0.un.2.2.2.length : Int)))))) else (bif decide (p0.un.1 = 4) then (decide ((p0.un.2.2.2.length : Int) ≠ 1) || (decide (5 ≤ p0.un.1) && (decide ((p0.un.2.2.2.length : Int) < 2) || decide (8 < (p0.un.2.2.2.length : Int))))) else (decide (5 ≤ p0.un.1) && (decide ((p0.un.2.2.2.length : Int) < 2) || decide (8 < (p0.un.2.2.2.length : Int)))))) = true then some false else KC (Br (Eg fRec p0) 0) fun _ => some true)))
noncomputable def Dz : Nat → Tr34 → Option Bool
  | 0 => fun _ => none
  | n + 1 => Ed (Dz n)
noncomputable def LP (p0 : Tr34) : Option Bool := FY fun n => Dz n p0
theorem N0 (fRec : Tr34 → Option Bool) (ih : ∀ (Y : Nat → Prop) (w0 : World) (v1 : Value) (p0 : Tr34) (r : Bool) (H : fRec p0 = some r) (h_v1 : Sl w0 (NX []) CS v1 p0.un.2.2.2), Calls Tryd.prog 46 #[.agg #[.int .i64 p0.un.1, .int .i64 p0.un.2.1, .int .i64 p0.un.2.2.1, v1]] w0 fun e w' => e = .returned (.bool r) ∧ Below w0.heap.size w0 w') (Y : Nat → Prop) (w0 : World) (v1 : Value) (p0 : Tr34) (r : Bool) (H : Ed fRec p0 = some r) (h_v1 : Sl w0 (NX []) CS v1 p0.un.2.2.2) :
    Calls Tryd.prog 46 #[.agg #[.int .i64 p0.un.1, .int .i64 p0.un.2.1, .int .i64 p0.un.2.2.1, v1]] w0 fun e w' => e = .returned (.bool r) ∧ Below w0.heap.size w0 w' := by
 refine enter Tryd.func46 Aa Tryd.ntmps46 Aa fun a F => ?_
 have W := Stw.start Y w0
 obtain ⟨v2, h1, h_v1⟩ := h_v1.ex CL
 unfold Ed at H
 refine Ak (Ab ?_)
 refine D6 (cs := (Du p0 v1)) F W Aa Aa Aa fun b1 a w F W => ?_
 refine ls F W Aa (Ag F Aa).q fun a w F W => ?_
 refine Ae (Ac (Ak (Ab ?_)))
 refine ls F W Aa (Aj CJ Aa Aa Aa Ix F Aa 3 Aa).q fun a w F W => ?_
 refine ls F W Aa (Av (v := v1) 0 F Aa Aa Ix Aa).q fun a w F W => ?_
 refine ls F W Aa (D7 (r := CS) (l := p0.un.2.2.2) Om Aa F Aa (AM CL h1 (Ay h_v1))).q fun a w F W => ?_
 refine ls F W Aa (Ag F Aa).q fun a w F W => ?_
 refine Ae (Ac (Ak ?_))
 refine A1 (fun a w => Fr 98 [] [(1, .pointer (some ⟨b1, 0, none⟩)), (2, .bool false), (3, .int .i64 (p0.un.2.2.2.length : Int)), (30, .bool (bif decide (p0.un.1 ≠ 3) then (decide (p0.un.2.1 ≠ 0) || (decide (p0.un.2.2.1 ≠ 0) || (decide (p0.un.1 < 1) || decide (6 < p0.un.1)))) else (decide (p0.un.1 < 1) || decide (6 < p0.un.1))))] a ∧ Stw ⟨Y, [], w0⟩ (Eb b1 p0 v1) [] w) ?_ ?_
 ·
  refine Ab ?_
  refine ls F W Aa (Aj CJ Aa Aa Aa T3 F Aa 0 Aa).q fun a w F W => ?_
  refine ls F W Aa (Av (v := Value.int .i64 p0.un.1) 0 F Aa Aa T3 Aa).q fun a w F W => ?_
  refine ls F W Aa (Dp F Aa Aa).q fun a w F W => ?_
  refine ls F W Aa (Ah F Aa).q fun a w F W => ?_
  rcases Bool.eq_false_or_eq_true (decide (p0.un.1 ≠ 3)) with hb0 | hb0
  ·
   rw [hb0] at F
   refine Au F W (Ad F Aa Aa Aa Aa) Aa (Al Aa) (Aj CJ Aa Aa Aa T3 F Aa 1 Aa).q fun a w F W => ?_
   refine Au F W (Ad F Aa Aa Aa Aa) Aa (Al Aa) (Av (v := Value.int .i64 p0.un.2.1) 0 F Aa Aa T3 Aa).q fun a w F W => ?_
   refine Au F W (Ad F Aa Aa Aa Aa) Aa (Al Aa) (Dp F Aa Aa).q fun a w F W => ?_
   refine Au F W (Ad F Aa Aa Aa Aa) Aa (Al Aa) (Ah F Aa).q fun a w F W => ?_
   rcases Bool.eq_false_or_eq_true (decide (p0.un.2.1 ≠ 0)) with hb1 | hb1
   ·
    rw [hb1] at F
    iterate 3 refine Cd F Aa Aa Aa Aa Aa Aa Aa fun a F => ?_
    refine Au F W (Ad F Aa Aa Aa Aa) Aa (Al Aa) (As F Aa Aa Aa).q fun a w F W => ?_
    refine ls F W Aa (As F Aa Aa Aa).q fun a w F W => ?_
    refine ls F W Aa (Ah F Aa).q fun a w F W => ?_
    iterate 3 refine Cd F Aa Aa Aa Aa Aa Aa Aa fun a F => ?_
    refine ls F W Aa (As F Aa Aa Aa).q fun a w F W => ?_
    refine ls F W Aa (Ah F Aa).q fun a w F W => ?_
    iterate 3 refine Cd F Aa Aa Aa Aa Aa Aa Aa fun a F => ?_
    refine ls F W Aa (As F Aa Aa Aa).q fun a w F W => ?_
    refine Ae (Ac ?_)
    exact ⟨F.re ⟨rfl, Aa, Aa, (Dq (by try rw [hb1]; try rw [hb0]; all_goals simp only [Dr])), trivial⟩, W⟩
   rw [hb1] at F
   refine Au F W (Ad F Aa Aa Aa Aa) Aa (Al Aa) (Aj CJ Aa Aa Aa T3 F Aa 2 Aa).q fun a w F W => ?_
   refine Au F W (Ad F Aa Aa Aa Aa) Aa (Al Aa) (Av (v := Value.int .i64 p0.un.2.2.1) 0 F Aa Aa T3 Aa).q fun a w F W => ?_
   refine Au F W (Ad F Aa Aa Aa Aa) Aa (Al Aa) (Dp F Aa Aa).q fun a w F W => ?_
   refine Au F W (Ad F Aa Aa Aa Aa) Aa (Al Aa) (Ap F Aa Aa Aa).q fun a w F W => ?_
   refine ls F W Aa (As F Aa Aa Aa).q fun a w F W => ?_
   refine ls F W Aa (Ah F Aa).q fun a w F W => ?_
   rcases Bool.eq_false_or_eq_true (decide (p0.un.2.2.1 ≠ 0)) with hb2 | hb2
   ·
    rw [hb2] at F
    iterate 3 refine Cd F Aa Aa Aa Aa Aa Aa Aa fun a F => ?_
    refine ls F W Aa (As F Aa Aa Aa).q fun a w F W => ?_
    refine ls F W Aa (Ah F Aa).q fun a w F W => ?_
    iterate 3 refine Cd F Aa Aa Aa Aa Aa Aa Aa fun a F => ?_
    refine ls F W Aa (As F Aa Aa Aa).q fun a w F W => ?_
    refine Ae (Ac ?_)
    exact ⟨F.re ⟨rfl, Aa, Aa, (Dq (by try rw [hb2]; try rw [hb1]; try rw [hb0]; all_goals simp only [Dr])), trivial⟩, W⟩
   rw [hb2] at F
   refine Au F W (Ad F Aa Aa Aa Aa) Aa (Al Aa) (Aj CJ Aa Aa Aa T3 F Aa 0 Aa).q fun a w F W => ?_
   refine Au F W (Ad F Aa Aa Aa Aa) Aa (Al Aa) (Av (v := Value.int .i64 p0.un.1) 0 F Aa Aa T3 Aa).q fun a w F W => ?_
   refine Au F W (Ad F Aa Aa Aa Aa) Aa (Al Aa) (Co F Aa Aa).q fun a w F W => ?_
   refine ls F W Aa (Ap F Aa Aa Aa).q fun a w F W => ?_
   refine ls F W Aa (Ah F Aa).q fun a w F W => ?_
   rcases Bool.eq_false_or_eq_true (decide (p0.un.1 < 1)) with hb3 | hb3
   ·
    rw [hb3] at F
    iterate 3 refine Cd F Aa Aa Aa Aa Aa Aa Aa fun a F => ?_
    refine ls F W Aa (As F Aa Aa Aa).q fun a w F W => ?_
    refine Ae (Ac ?_)
    exact ⟨F.re ⟨rfl, Aa, Aa, (Dq (by try rw [hb2]; try rw [hb1]; try rw [hb0]; try rw [hb3]; all_goals simp only [Dr])), trivial⟩, W⟩
   rw [hb3] at F
   refine Au F W (Ad F Aa Aa Aa Aa) Aa (Al Aa) (Aj CJ Aa Aa Aa T3 F Aa 0 Aa).q fun a w F W => ?_
   refine Au F W (Ad F Aa Aa Aa Aa) Aa (Al Aa) (Av (v := Value.int .i64 p0.un.1) 0 F Aa Aa T3 Aa).q fun a w F W => ?_
   refine Au F W (Ad F Aa Aa Aa Aa) Aa (Al Aa) (C2 F Aa Aa).q fun a w F W => ?_
   refine ls F W Aa (Ap F Aa Aa Aa).q fun a w F W => ?_
   refine Ae (Ac ?_)
   exact ⟨F.re ⟨rfl, Aa, Aa, (Dq (by try rw [hb2]; try rw [hb1]; try rw [hb0]; try rw [hb3]; all_goals simp only [Dr])), trivial⟩, W⟩
  rw [hb0] at F
  iterate 4 refine Cd F Aa Aa Aa Aa Aa Aa Aa fun a F => ?_
  iterate 3 refine Ll F Aa Aa Aa Aa Aa Aa fun a F => ?_
  refine Cd F Aa Aa Aa Aa Aa Aa Aa fun a F => ?_
  refine ls F W Aa (Ap F Aa Aa Aa).q fun a w F W => ?_
  refine ls F W Aa (Ah F Aa).q fun a w F W => ?_
  refine Au F W (Ad F Aa Aa Aa Aa) Aa (Al Aa) (Aj CJ Aa Aa Aa T3 F Aa 0 Aa).q fun a w F W => ?_
  refine Au F W (Ad F Aa Aa Aa Aa) Aa (Al Aa) (Av (v := Value.int .i64 p0.un.1) 0 F Aa Aa T3 Aa).q fun a w F W => ?_
  refine Au F W (Ad F Aa Aa Aa Aa) Aa (Al Aa) (Co F Aa Aa).q fun a w F W => ?_
  refine ls F W Aa (Ap F Aa Aa Aa).q fun a w F W => ?_
  refine ls F W Aa (Ah F Aa).q fun a w F W => ?_
  rcases Bool.eq_false_or_eq_true (decide (p0.un.1 < 1)) with hb1 | hb1
  ·
   rw [hb1] at F
   iterate 3 refine Cd F Aa Aa Aa Aa Aa Aa Aa fun a F => ?_
   refine ls F W Aa (As F Aa Aa Aa).q fun a w F W => ?_
   refine Ae (Ac ?_)
   exact ⟨F.re ⟨rfl, Aa, Aa, (Dq (by try rw [hb0]; try rw [hb1]; all_goals simp only [Dr])), trivial⟩, W⟩
  rw [hb1] at F
  refine Au F W (Ad F Aa Aa Aa Aa) Aa (Al Aa) (Aj CJ Aa Aa Aa T3 F Aa 0 Aa).q fun a w F W => ?_
  refine Au F W (Ad F Aa Aa Aa Aa) Aa (Al Aa) (Av (v := Value.int .i64 p0.un.1) 0 F Aa Aa T3 Aa).q fun a w F W => ?_
  refine Au F W (Ad F Aa Aa Aa Aa) Aa (Al Aa) (C2 F Aa Aa).q fun a w F W => ?_
  refine ls F W Aa (Ap F Aa Aa Aa).q fun a w F W => ?_
  refine Ae (Ac ?_)
  exact ⟨F.re ⟨rfl, Aa, Aa, (Dq (by try rw [hb0]; try rw [hb1]; all_goals simp only [Dr])), trivial⟩, W⟩
 rintro a w ⟨F, W⟩
 refine Az F Aa (fun hb => ?_) fun hb => ?_
 ·
  have H := AW hb H
  rw [hb] at F
  clear hb
  refine Ak (Ab ?_)
  refine ls F W Aa (Ag F Aa).q fun a w F W => ?_
  refine Ae (Ac (Ax (AO ?_)))
  have H := AK H
  subst H
  refine AG (.inl Aa) F W Aa (AD F Aa) ?_
  exact ⟨rfl, W.done⟩
 have H := AY (by rw [hb]; decide) H
 rw [hb] at F
 clear hb
 refine AA (Ac (Ak ?_))
 refine A1 (fun a w => Fr 98 [] [(1, .pointer (some ⟨b1, 0, none⟩)), (2, .bool false), (3, .int .i64 (p0.un.2.2.2.length : Int)), (56, .bool (decide (p0.un.1 = 3) && (decide (p0.un.2.1 < 0) || (decide (5 < p0.un.2.1) || (decide (p0.un.2.2.1 < 0) || decide ((EF p0.un.2.1) < p0.un.2.2.1))))))] a ∧ Stw ⟨Y, [], w0⟩ (Eb b1 p0 v1) [] w) ?_ ?_
 ·
  refine EQ W MO (by kernel_rfl) ?_
  refine qs F Aa (Aj CJ Aa Aa Aa T3 F Aa 0 Aa).q fun a F => ?_
  refine qs F Aa (Av (v := Value.int .i64 p0.un.1) 0 F Aa Aa T3 Aa).q fun a F => ?_
  refine qs F Aa (Bd F Aa Aa).q fun a F => ?_
  refine qs F Aa (Ah F Aa).q fun a F => ?_
  rcases Bool.eq_false_or_eq_true (decide (p0.un.1 = 3)) with hb0 | hb0
  ·
   rw [hb0] at F
   refine CH F (Ad F Aa Aa Aa Aa) Aa (Al Aa) (Aj CJ Aa Aa Aa T3 F Aa 1 Aa).q fun a F => ?_
   refine CH F (Ad F Aa Aa Aa Aa) Aa (Al Aa) (Av (v := Value.int .i64 p0.un.2.1) 0 F Aa Aa T3 Aa).q fun a F => ?_
   refine CH F (Ad F Aa Aa Aa Aa) Aa (Al Aa) (Co F Aa Aa).q fun a F => ?_
   refine CH F (Ad F Aa Aa Aa Aa) Aa (Al Aa) (Ah F Aa).q fun a F => ?_
   rcases Bool.eq_false_or_eq_true (decide (p0.un.2.1 < 0)) with hb1 | hb1
   ·
    rw [hb1] at F
    iterate 3 refine CB F (BK F Aa Aa Aa Aa Aa) Aa Aa fun a F => ?_
    refine CH F (Ad F Aa Aa Aa Aa) Aa (Al Aa) (As F Aa Aa Aa).q fun a F => ?_
    refine CH F (Ad F Aa Aa Aa Aa) Aa (Al Aa) (Ah F Aa).q fun a F => ?_
    iterate 3 refine CB F (BK F Aa Aa Aa Aa Aa) Aa Aa fun a F => ?_
    refine CH F (Ad F Aa Aa Aa Aa) Aa (Al Aa) (As F Aa Aa Aa).q fun a F => ?_
    refine CH F (Ad F Aa Aa Aa Aa) Aa (Al Aa) (Ah F Aa).q fun a F => ?_
    iterate 6 refine CB F (BK F Aa Aa Aa Aa Aa) Aa Aa fun a F => ?_
    refine CH F (Ad F Aa Aa Aa Aa) Aa (Al Aa) (As F Aa Aa Aa).q fun a F => ?_
    refine qs F Aa (As F Aa Aa Aa).q fun a F => ?_
    refine Cr fun w W => ?_
    refine Ac ?_
    exact ⟨F.re ⟨rfl, Aa, Aa, (Dq (by try rw [hb1]; try rw [hb0]; all_goals simp only [Dr])), trivial⟩, W⟩
   rw [hb1] at F
   refine CH F (Ad F Aa Aa Aa Aa) Aa (Al Aa) (Aj CJ Aa Aa Aa T3 F Aa 1 Aa).q fun a F => ?_
   refine CH F (Ad F Aa Aa Aa Aa) Aa (Al Aa) (Av (v := Value.int .i64 p0.un.2.1) 0 F Aa Aa T3 Aa).q fun a F => ?_
   refine CH F (Ad F Aa Aa Aa Aa) Aa (Al Aa) (C2 F Aa Aa).q fun a F => ?_
   refine CH F (Ad F Aa Aa Aa Aa) Aa (Al Aa) (Ap F Aa Aa Aa).q fun a F => ?_
   refine CH F (Ad F Aa Aa Aa Aa) Aa (Al Aa) (Ah F Aa).q fun a F => ?_
   rcases Bool.eq_false_or_eq_true (decide (5 < p0.un.2.1)) with hb2 | hb2
   ·
    rw [hb2] at F
    iterate 3 refine CB F (BK F Aa Aa Aa Aa Aa) Aa Aa fun a F => ?_
    refine CH F (Ad F Aa Aa Aa Aa) Aa (Al Aa) (As F Aa Aa Aa).q fun a F => ?_
    refine CH F (Ad F Aa Aa Aa Aa) Aa (Al Aa) (Ah F Aa).q fun a F => ?_
    iterate 6 refine CB F (BK F Aa Aa Aa Aa Aa) Aa Aa fun a F => ?_
    refine CH F (Ad F Aa Aa Aa Aa) Aa (Al Aa) (As F Aa Aa Aa).q fun a F => ?_
    refine qs F Aa (As F Aa Aa Aa).q fun a F => ?_
    refine Cr fun w W => ?_
    refine Ac ?_
    exact ⟨F.re ⟨rfl, Aa, Aa, (Dq (by try rw [hb1]; try rw [hb2]; try rw [hb0]; all_goals simp only [Dr])), trivial⟩, W⟩
   rw [hb2] at F
   refine CH F (Ad F Aa Aa Aa Aa) Aa (Al Aa) (Aj CJ Aa Aa Aa T3 F Aa 2 Aa).q fun a F => ?_
   refine CH F (Ad F Aa Aa Aa Aa) Aa (Al Aa) (Av (v := Value.int .i64 p0.un.2.2.1) 0 F Aa Aa T3 Aa).q fun a F => ?_
   refine CH F (Ad F Aa Aa Aa Aa) Aa (Al Aa) (Co F Aa Aa).q fun a F => ?_
   refine CH F (Ad F Aa Aa Aa Aa) Aa (Al Aa) (Ap F Aa Aa Aa).q fun a F => ?_
   refine CH F (Ad F Aa Aa Aa Aa) Aa (Al Aa) (Ah F Aa).q fun a F => ?_
   rcases Bool.eq_false_or_eq_true (decide (p0.un.2.2.1 < 0)) with hb3 | hb3
   ·
    rw [hb3] at F
    iterate 6 refine CB F (BK F Aa Aa Aa Aa Aa) Aa Aa fun a F => ?_
    refine CH F (Ad F Aa Aa Aa Aa) Aa (Al Aa) (As F Aa Aa Aa).q fun a F => ?_
    refine qs F Aa (As F Aa Aa Aa).q fun a F => ?_
    refine Cr fun w W => ?_
    refine Ac ?_
    exact ⟨F.re ⟨rfl, Aa, Aa, (Dq (by try rw [hb3]; try rw [hb1]; try rw [hb2]; try rw [hb0]; all_goals simp only [Dr])), trivial⟩, W⟩
   rw [hb3] at F
   refine CH F (Ad F Aa Aa Aa Aa) Aa (Al Aa) (Aj CJ Aa Aa Aa T3 F Aa 2 Aa).q fun a F => ?_
   refine CH F (Ad F Aa Aa Aa Aa) Aa (Al Aa) (Av (v := Value.int .i64 p0.un.2.2.1) 0 F Aa Aa T3 Aa).q fun a F => ?_
   refine CH F (Ad F Aa Aa Aa Aa) Aa (Al Aa) (Aj CJ Aa Aa Aa T3 F Aa 1 Aa).q fun a F => ?_
   refine CH F (Ad F Aa Aa Aa Aa) Aa (Al Aa) (Av (v := Value.int .i64 p0.un.2.1) 0 F Aa Aa T3 Aa).q fun a F => ?_
   refine CH F (Ad F Aa Aa Aa Aa) Aa (Al Aa) (A0 (v := Value.int .i64 (EF p0.un.2.1)) F VP Aa (fun w W => Nr any w p0.un.2.1 _ Aa)) fun a F => ?_
   refine CH F (Ad F Aa Aa Aa Aa) Aa (Al Aa) (C2 F Aa Aa).q fun a F => ?_
   refine CH F (Ad F Aa Aa Aa Aa) Aa (Al Aa) (Ap F Aa Aa Aa).q fun a F => ?_
   refine qs F Aa (As F Aa Aa Aa).q fun a F => ?_
   refine Cr fun w W => ?_
   refine Ac ?_
   exact ⟨F.re ⟨rfl, Aa, Aa, (Dq (by try rw [hb3]; try rw [hb1]; try rw [hb2]; try rw [hb0]; all_goals simp only [Dr])), trivial⟩, W⟩
  rw [hb0] at F
  iterate 4 refine CB F (BK F Aa Aa Aa Aa Aa) Aa Aa fun a F => ?_
  iterate 3 refine CB F (EC F Aa Aa Aa Aa) Aa Aa fun a F => ?_
  iterate 2 refine CB F (BK F Aa Aa Aa Aa Aa) Aa Aa fun a F => ?_
  iterate 3 refine CB F (EC F Aa Aa Aa Aa) Aa Aa fun a F => ?_
  iterate 2 refine CB F (BK F Aa Aa Aa Aa Aa) Aa Aa fun a F => ?_
  iterate 6 refine CB F (EC F Aa Aa Aa Aa) Aa Aa fun a F => ?_
  refine CB F (BK F Aa Aa Aa Aa Aa) Aa Aa fun a F => ?_
  refine qs F Aa (Ap F Aa Aa Aa).q fun a F => ?_
  refine Cr fun w W => ?_
  refine Ac ?_
  exact ⟨F.re ⟨rfl, Aa, Aa, (Dq (by try rw [hb0]; all_goals simp only [Dr])), trivial⟩, W⟩
 rintro a w ⟨F, W⟩
 refine Az F Aa (fun hb => ?_) fun hb => ?_
 ·
  have H := AW hb H
  rw [hb] at F
  clear hb
  refine Ak (Ab ?_)
  refine ls F W Aa (Ag F Aa).q fun a w F W => ?_
  refine Ae (Ac (Ax (AO ?_)))
  have H := AK H
  subst H
  refine AG (.inl Aa) F W Aa (AD F Aa) ?_
  exact ⟨rfl, W.done⟩
 have H := AY (by rw [hb]; decide) H
 rw [hb] at F
 clear hb
 refine AA (Ac (Ak ?_))
 refine A1 (fun a w => Fr 98 [] [(1, .pointer (some ⟨b1, 0, none⟩)), (2, .bool false), (3, .int .i64 (p0.un.2.2.2.length : Int)), (85, .bool (bif decide (p0.un.1 ≤ 3) then (decide ((p0.un.2.2.2.length : Int) ≠ 0) || (bif decide (p0.un.1 = 4) then (decide ((p0.un.2.2.2.length : Int) ≠ 1) || (decide (5 ≤ p0.un.1) && (decide ((p0.un.2.2.2.length : Int) < 2) || decide (8 < (p0.un.2.2.2.length : Int))))) else (decide (5 ≤ p0.un.1) && (decide ((p0.un.2.2.2.length : Int) < 2) || decide (8 < (p0.un.2.2.2.length : Int)))))) else (bif decide (p0.un.1 = 4) then (decide ((p0.un.2.2.2.length : Int) ≠ 1) || (decide (5 ≤ p0.un.1) && (decide ((p0.un.2.2.2.length : Int) < 2) || decide (8 < (p0.un.2.2.2.length : Int))))) else (decide (5 ≤ p0.un.1) && (decide ((p0.un.2.2.2.length : Int) < 2) || decide (8 < (p0.un.2.2.2.length : Int)))))))] a ∧ Stw ⟨Y, [], w0⟩ (Eb b1 p0 v1) [] w) ?_ ?_
 ·
  refine Ab ?_
  refine ls F W Aa (Aj CJ Aa Aa Aa T3 F Aa 0 Aa).q fun a w F W => ?_
  refine ls F W Aa (Av (v := Value.int .i64 p0.un.1) 0 F Aa Aa T3 Aa).q fun a w F W => ?_
  refine ls F W Aa (HX F Aa Aa).q fun a w F W => ?_
  refine ls F W Aa (Ah F Aa).q fun a w F W => ?_
  rcases Bool.eq_false_or_eq_true (decide (p0.un.1 ≤ 3)) with hb0 | hb0
  ·
   rw [hb0] at F
   refine Au F W (Ad F Aa Aa Aa Aa) Aa (Al Aa) (Ah F Aa).q fun a w F W => ?_
   refine Au F W (Ad F Aa Aa Aa Aa) Aa (Al Aa) (Dp F Aa Aa).q fun a w F W => ?_
   refine ls F W Aa (As F Aa Aa Aa).q fun a w F W => ?_
   refine ls F W Aa (Ah F Aa).q fun a w F W => ?_
   rcases Bool.eq_false_or_eq_true (decide ((p0.un.2.2.2.length : Int) ≠ 0)) with hb1 | hb1
   ·
    rw [hb1] at F
    iterate 4 refine Cd F Aa Aa Aa Aa Aa Aa Aa fun a F => ?_
    iterate 2 refine Ll F Aa Aa Aa Aa Aa Aa fun a F => ?_
    refine Cd F Aa Aa Aa Aa Aa Aa Aa fun a F => ?_
    refine ls F W Aa (As F Aa Aa Aa).q fun a w F W => ?_
    refine ls F W Aa (Ah F Aa).q fun a w F W => ?_
    iterate 4 refine Cd F Aa Aa Aa Aa Aa Aa Aa fun a F => ?_
    iterate 6 refine Ll F Aa Aa Aa Aa Aa Aa fun a F => ?_
    refine Cd F Aa Aa Aa Aa Aa Aa Aa fun a F => ?_
    refine ls F W Aa (As F Aa Aa Aa).q fun a w F W => ?_
    refine Ae (Ac ?_)
    exact ⟨F.re ⟨rfl, Aa, Aa, (Dq (by try rw [hb1]; try rw [hb0]; all_goals simp only [Dr])), trivial⟩, W⟩
   rw [hb1] at F
   refine Au F W (Ad F Aa Aa Aa Aa) Aa (Al Aa) (Aj CJ Aa Aa Aa T3 F Aa 0 Aa).q fun a w F W => ?_
   refine Au F W (Ad F Aa Aa Aa Aa) Aa (Al Aa) (Av (v := Value.int .i64 p0.un.1) 0 F Aa Aa T3 Aa).q fun a w F W => ?_
   refine Au F W (Ad F Aa Aa Aa Aa) Aa (Al Aa) (Bd F Aa Aa).q fun a w F W => ?_
   refine Au F W (Ad F Aa Aa Aa Aa) Aa (Al Aa) (Ah F Aa).q fun a w F W => ?_
   rcases Bool.eq_false_or_eq_true (decide (p0.un.1 = 4)) with hb2 | hb2
   ·
    rw [hb2] at F
    refine Au F W (Ad F Aa Aa Aa Aa) Aa (Al Aa) (Ah F Aa).q fun a w F W => ?_
    refine Au F W (Ad F Aa Aa Aa Aa) Aa (Al Aa) (Dp F Aa Aa).q fun a w F W => ?_
    refine Au F W (Ad F Aa Aa Aa Aa) Aa (Al Aa) (As F Aa Aa Aa).q fun a w F W => ?_
    refine ls F W Aa (Ap F Aa Aa Aa).q fun a w F W => ?_
    refine ls F W Aa (Ah F Aa).q fun a w F W => ?_
    rcases Bool.eq_false_or_eq_true (decide ((p0.un.2.2.2.length : Int) ≠ 1)) with hb3 | hb3
    ·
     rw [hb3] at F
     iterate 4 refine Cd F Aa Aa Aa Aa Aa Aa Aa fun a F => ?_
     iterate 6 refine Ll F Aa Aa Aa Aa Aa Aa fun a F => ?_
     refine Cd F Aa Aa Aa Aa Aa Aa Aa fun a F => ?_
     refine ls F W Aa (As F Aa Aa Aa).q fun a w F W => ?_
     refine Ae (Ac ?_)
     exact ⟨F.re ⟨rfl, Aa, Aa, (Dq (by try rw [hb1]; try rw [hb3]; try rw [hb0]; try rw [hb2]; all_goals simp only [Dr])), trivial⟩, W⟩
    rw [hb3] at F
    refine Au F W (Ad F Aa Aa Aa Aa) Aa (Al Aa) (Aj CJ Aa Aa Aa T3 F Aa 0 Aa).q fun a w F W => ?_
    refine Au F W (Ad F Aa Aa Aa Aa) Aa (Al Aa) (Av (v := Value.int .i64 p0.un.1) 0 F Aa Aa T3 Aa).q fun a w F W => ?_
    refine Au F W (Ad F Aa Aa Aa Aa) Aa (Al Aa) (Nv F Aa Aa).q fun a w F W => ?_
    refine Au F W (Ad F Aa Aa Aa Aa) Aa (Al Aa) (Ah F Aa).q fun a w F W => ?_
    rcases Bool.eq_false_or_eq_true (decide (5 ≤ p0.un.1)) with hb4 | hb4
    ·
     rw [hb4] at F
     refine Au F W (Ad F Aa Aa Aa Aa) Aa (Al Aa) (Ah F Aa).q fun a w F W => ?_
     refine Au F W (Ad F Aa Aa Aa Aa) Aa (Al Aa) (Co F Aa Aa).q fun a w F W => ?_
     refine Au F W (Ad F Aa Aa Aa Aa) Aa (Al Aa) (Ah F Aa).q fun a w F W => ?_
     rcases Bool.eq_false_or_eq_true (decide ((p0.un.2.2.2.length : Int) < 2)) with hb5 | hb5
     ·
      rw [hb5] at F
      iterate 2 refine Cd F Aa Aa Aa Aa Aa Aa Aa fun a F => ?_
      iterate 2 refine Au F W (Ad F Aa Aa Aa Aa) Aa (Al Aa) (As F Aa Aa Aa).q fun a w F W => ?_
      refine ls F W Aa (Ap F Aa Aa Aa).q fun a w F W => ?_
      refine Ae (Ac ?_)
      exact ⟨F.re ⟨rfl, Aa, Aa, (Dq (by try rw [hb1]; try rw [hb3]; try rw [hb5]; try rw [hb0]; try rw [hb2]; try rw [hb4]; all_goals simp only [Dr])), trivial⟩, W⟩
     rw [hb5] at F
     refine Au F W (Ad F Aa Aa Aa Aa) Aa (Al Aa) (Ah F Aa).q fun a w F W => ?_
     refine Au F W (Ad F Aa Aa Aa Aa) Aa (Al Aa) (C2 F Aa Aa).q fun a w F W => ?_
     refine Au F W (Ad F Aa Aa Aa Aa) Aa (Al Aa) (Ap F Aa Aa Aa).q fun a w F W => ?_
     refine Au F W (Ad F Aa Aa Aa Aa) Aa (Al Aa) (As F Aa Aa Aa).q fun a w F W => ?_
     refine ls F W Aa (Ap F Aa Aa Aa).q fun a w F W => ?_
     refine Ae (Ac ?_)
     exact ⟨F.re ⟨rfl, Aa, Aa, (Dq (by try rw [hb1]; try rw [hb3]; try rw [hb5]; try rw [hb0]; try rw [hb2]; try rw [hb4]; all_goals simp only [Dr])), trivial⟩, W⟩
    rw [hb4] at F
    iterate 3 refine Cd F Aa Aa Aa Aa Aa Aa Aa fun a F => ?_
    iterate 2 refine Ll F Aa Aa Aa Aa Aa Aa fun a F => ?_
    refine Cd F Aa Aa Aa Aa Aa Aa Aa fun a F => ?_
    refine Au F W (Ad F Aa Aa Aa Aa) Aa (Al Aa) (Ap F Aa Aa Aa).q fun a w F W => ?_
    refine ls F W Aa (Ap F Aa Aa Aa).q fun a w F W => ?_
    refine Ae (Ac ?_)
    exact ⟨F.re ⟨rfl, Aa, Aa, (Dq (by try rw [hb1]; try rw [hb3]; try rw [hb0]; try rw [hb2]; try rw [hb4]; all_goals simp only [Dr])), trivial⟩, W⟩
   rw [hb2] at F
   iterate 2 refine Cd F Aa Aa Aa Aa Aa Aa Aa fun a F => ?_
   refine Au F W (Ad F Aa Aa Aa Aa) Aa (Al Aa) (Ap F Aa Aa Aa).q fun a w F W => ?_
   refine ls F W Aa (Ap F Aa Aa Aa).q fun a w F W => ?_
   refine ls F W Aa (Ah F Aa).q fun a w F W => ?_
   refine Au F W (Ad F Aa Aa Aa Aa) Aa (Al Aa) (Aj CJ Aa Aa Aa T3 F Aa 0 Aa).q fun a w F W => ?_
   refine Au F W (Ad F Aa Aa Aa Aa) Aa (Al Aa) (Av (v := Value.int .i64 p0.un.1) 0 F Aa Aa T3 Aa).q fun a w F W => ?_
   refine Au F W (Ad F Aa Aa Aa Aa) Aa (Al Aa) (Nv F Aa Aa).q fun a w F W => ?_
   refine Au F W (Ad F Aa Aa Aa Aa) Aa (Al Aa) (Ah F Aa).q fun a w F W => ?_
   rcases Bool.eq_false_or_eq_true (decide (5 ≤ p0.un.1)) with hb3 | hb3
   ·
    rw [hb3] at F
    refine Au F W (Ad F Aa Aa Aa Aa) Aa (Al Aa) (Ah F Aa).q fun a w F W => ?_
    refine Au F W (Ad F Aa Aa Aa Aa) Aa (Al Aa) (Co F Aa Aa).q fun a w F W => ?_
    refine Au F W (Ad F Aa Aa Aa Aa) Aa (Al Aa) (Ah F Aa).q fun a w F W => ?_
    rcases Bool.eq_false_or_eq_true (decide ((p0.un.2.2.2.length : Int) < 2)) with hb4 | hb4
    ·
     rw [hb4] at F
     iterate 2 refine Cd F Aa Aa Aa Aa Aa Aa Aa fun a F => ?_
     iterate 2 refine Au F W (Ad F Aa Aa Aa Aa) Aa (Al Aa) (As F Aa Aa Aa).q fun a w F W => ?_
     refine ls F W Aa (Ap F Aa Aa Aa).q fun a w F W => ?_
     refine Ae (Ac ?_)
     exact ⟨F.re ⟨rfl, Aa, Aa, (Dq (by try rw [hb1]; try rw [hb4]; try rw [hb0]; try rw [hb2]; try rw [hb3]; all_goals simp only [Dr])), trivial⟩, W⟩
    rw [hb4] at F
    refine Au F W (Ad F Aa Aa Aa Aa) Aa (Al Aa) (Ah F Aa).q fun a w F W => ?_
    refine Au F W (Ad F Aa Aa Aa Aa) Aa (Al Aa) (C2 F Aa Aa).q fun a w F W => ?_
    refine Au F W (Ad F Aa Aa Aa Aa) Aa (Al Aa) (Ap F Aa Aa Aa).q fun a w F W => ?_
    refine Au F W (Ad F Aa Aa Aa Aa) Aa (Al Aa) (As F Aa Aa Aa).q fun a w F W => ?_
    refine ls F W Aa (Ap F Aa Aa Aa).q fun a w F W => ?_
    refine Ae (Ac ?_)
    exact ⟨F.re ⟨rfl, Aa, Aa, (Dq (by try rw [hb1]; try rw [hb4]; try rw [hb0]; try rw [hb2]; try rw [hb3]; all_goals simp only [Dr])), trivial⟩, W⟩
   rw [hb3] at F
   iterate 3 refine Cd F Aa Aa Aa Aa Aa Aa Aa fun a F => ?_
   iterate 2 refine Ll F Aa Aa Aa Aa Aa Aa fun a F => ?_
   refine Cd F Aa Aa Aa Aa Aa Aa Aa fun a F => ?_
   refine Au F W (Ad F Aa Aa Aa Aa) Aa (Al Aa) (Ap F Aa Aa Aa).q fun a w F W => ?_
   refine ls F W Aa (Ap F Aa Aa Aa).q fun a w F W => ?_
   refine Ae (Ac ?_)
   exact ⟨F.re ⟨rfl, Aa, Aa, (Dq (by try rw [hb1]; try rw [hb0]; try rw [hb2]; try rw [hb3]; all_goals simp only [Dr])), trivial⟩, W⟩
  rw [hb0] at F
  iterate 2 refine Cd F Aa Aa Aa Aa Aa Aa Aa fun a F => ?_
  refine ls F W Aa (Ap F Aa Aa Aa).q fun a w F W => ?_
  refine ls F W Aa (Ah F Aa).q fun a w F W => ?_
  refine Au F W (Ad F Aa Aa Aa Aa) Aa (Al Aa) (Aj CJ Aa Aa Aa T3 F Aa 0 Aa).q fun a w F W => ?_
  refine Au F W (Ad F Aa Aa Aa Aa) Aa (Al Aa) (Av (v := Value.int .i64 p0.un.1) 0 F Aa Aa T3 Aa).q fun a w F W => ?_
  refine Au F W (Ad F Aa Aa Aa Aa) Aa (Al Aa) (Bd F Aa Aa).q fun a w F W => ?_
  refine Au F W (Ad F Aa Aa Aa Aa) Aa (Al Aa) (Ah F Aa).q fun a w F W => ?_
  rcases Bool.eq_false_or_eq_true (decide (p0.un.1 = 4)) with hb1 | hb1
  ·
   rw [hb1] at F
   refine Au F W (Ad F Aa Aa Aa Aa) Aa (Al Aa) (Ah F Aa).q fun a w F W => ?_
   refine Au F W (Ad F Aa Aa Aa Aa) Aa (Al Aa) (Dp F Aa Aa).q fun a w F W => ?_
   refine Au F W (Ad F Aa Aa Aa Aa) Aa (Al Aa) (As F Aa Aa Aa).q fun a w F W => ?_
   refine ls F W Aa (Ap F Aa Aa Aa).q fun a w F W => ?_
   refine ls F W Aa (Ah F Aa).q fun a w F W => ?_
   rcases Bool.eq_false_or_eq_true (decide ((p0.un.2.2.2.length : Int) ≠ 1)) with hb2 | hb2
   ·
    rw [hb2] at F
    iterate 4 refine Cd F Aa Aa Aa Aa Aa Aa Aa fun a F => ?_
    iterate 6 refine Ll F Aa Aa Aa Aa Aa Aa fun a F => ?_
    refine Cd F Aa Aa Aa Aa Aa Aa Aa fun a F => ?_
    refine ls F W Aa (As F Aa Aa Aa).q fun a w F W => ?_
    refine Ae (Ac ?_)
    exact ⟨F.re ⟨rfl, Aa, Aa, (Dq (by try rw [hb2]; try rw [hb0]; try rw [hb1]; all_goals simp only [Dr])), trivial⟩, W⟩
   rw [hb2] at F
   refine Au F W (Ad F Aa Aa Aa Aa) Aa (Al Aa) (Aj CJ Aa Aa Aa T3 F Aa 0 Aa).q fun a w F W => ?_
   refine Au F W (Ad F Aa Aa Aa Aa) Aa (Al Aa) (Av (v := Value.int .i64 p0.un.1) 0 F Aa Aa T3 Aa).q fun a w F W => ?_
   refine Au F W (Ad F Aa Aa Aa Aa) Aa (Al Aa) (Nv F Aa Aa).q fun a w F W => ?_
   refine Au F W (Ad F Aa Aa Aa Aa) Aa (Al Aa) (Ah F Aa).q fun a w F W => ?_
   rcases Bool.eq_false_or_eq_true (decide (5 ≤ p0.un.1)) with hb3 | hb3
   ·
    rw [hb3] at F
    refine Au F W (Ad F Aa Aa Aa Aa) Aa (Al Aa) (Ah F Aa).q fun a w F W => ?_
    refine Au F W (Ad F Aa Aa Aa Aa) Aa (Al Aa) (Co F Aa Aa).q fun a w F W => ?_
    refine Au F W (Ad F Aa Aa Aa Aa) Aa (Al Aa) (Ah F Aa).q fun a w F W => ?_
    rcases Bool.eq_false_or_eq_true (decide ((p0.un.2.2.2.length : Int) < 2)) with hb4 | hb4
    ·
     rw [hb4] at F
     iterate 2 refine Cd F Aa Aa Aa Aa Aa Aa Aa fun a F => ?_
     iterate 2 refine Au F W (Ad F Aa Aa Aa Aa) Aa (Al Aa) (As F Aa Aa Aa).q fun a w F W => ?_
     refine ls F W Aa (Ap F Aa Aa Aa).q fun a w F W => ?_
     refine Ae (Ac ?_)
     exact ⟨F.re ⟨rfl, Aa, Aa, (Dq (by try rw [hb2]; try rw [hb4]; try rw [hb0]; try rw [hb1]; try rw [hb3]; all_goals simp only [Dr])), trivial⟩, W⟩
    rw [hb4] at F
    refine Au F W (Ad F Aa Aa Aa Aa) Aa (Al Aa) (Ah F Aa).q fun a w F W => ?_
    refine Au F W (Ad F Aa Aa Aa Aa) Aa (Al Aa) (C2 F Aa Aa).q fun a w F W => ?_
    refine Au F W (Ad F Aa Aa Aa Aa) Aa (Al Aa) (Ap F Aa Aa Aa).q fun a w F W => ?_
    refine Au F W (Ad F Aa Aa Aa Aa) Aa (Al Aa) (As F Aa Aa Aa).q fun a w F W => ?_
    refine ls F W Aa (Ap F Aa Aa Aa).q fun a w F W => ?_
    refine Ae (Ac ?_)
    exact ⟨F.re ⟨rfl, Aa, Aa, (Dq (by try rw [hb2]; try rw [hb4]; try rw [hb0]; try rw [hb1]; try rw [hb3]; all_goals simp only [Dr])), trivial⟩, W⟩
   rw [hb3] at F
   iterate 3 refine Cd F Aa Aa Aa Aa Aa Aa Aa fun a F => ?_
   iterate 2 refine Ll F Aa Aa Aa Aa Aa Aa fun a F => ?_
   refine Cd F Aa Aa Aa Aa Aa Aa Aa fun a F => ?_
   refine Au F W (Ad F Aa Aa Aa Aa) Aa (Al Aa) (Ap F Aa Aa Aa).q fun a w F W => ?_
   refine ls F W Aa (Ap F Aa Aa Aa).q fun a w F W => ?_
   refine Ae (Ac ?_)
   exact ⟨F.re ⟨rfl, Aa, Aa, (Dq (by try rw [hb2]; try rw [hb0]; try rw [hb1]; try rw [hb3]; all_goals simp only [Dr])), trivial⟩, W⟩
  rw [hb1] at F
  iterate 2 refine Cd F Aa Aa Aa Aa Aa Aa Aa fun a F => ?_
  refine Au F W (Ad F Aa Aa Aa Aa) Aa (Al Aa) (Ap F Aa Aa Aa).q fun a w F W => ?_
  refine ls F W Aa (Ap F Aa Aa Aa).q fun a w F W => ?_
  refine ls F W Aa (Ah F Aa).q fun a w F W => ?_
  refine Au F W (Ad F Aa Aa Aa Aa) Aa (Al Aa) (Aj CJ Aa Aa Aa T3 F Aa 0 Aa).q fun a w F W => ?_
  refine Au F W (Ad F Aa Aa Aa Aa) Aa (Al Aa) (Av (v := Value.int .i64 p0.un.1) 0 F Aa Aa T3 Aa).q fun a w F W => ?_
  refine Au F W (Ad F Aa Aa Aa Aa) Aa (Al Aa) (Nv F Aa Aa).q fun a w F W => ?_
  refine Au F W (Ad F Aa Aa Aa Aa) Aa (Al Aa) (Ah F Aa).q fun a w F W => ?_
  rcases Bool.eq_false_or_eq_true (decide (5 ≤ p0.un.1)) with hb2 | hb2
  ·
   rw [hb2] at F
   refine Au F W (Ad F Aa Aa Aa Aa) Aa (Al Aa) (Ah F Aa).q fun a w F W => ?_
   refine Au F W (Ad F Aa Aa Aa Aa) Aa (Al Aa) (Co F Aa Aa).q fun a w F W => ?_
   refine Au F W (Ad F Aa Aa Aa Aa) Aa (Al Aa) (Ah F Aa).q fun a w F W => ?_
   rcases Bool.eq_false_or_eq_true (decide ((p0.un.2.2.2.length : Int) < 2)) with hb3 | hb3
   ·
    rw [hb3] at F
    iterate 2 refine Cd F Aa Aa Aa Aa Aa Aa Aa fun a F => ?_
    iterate 2 refine Au F W (Ad F Aa Aa Aa Aa) Aa (Al Aa) (As F Aa Aa Aa).q fun a w F W => ?_
    refine ls F W Aa (Ap F Aa Aa Aa).q fun a w F W => ?_
    refine Ae (Ac ?_)
    exact ⟨F.re ⟨rfl, Aa, Aa, (Dq (by try rw [hb3]; try rw [hb0]; try rw [hb1]; try rw [hb2]; all_goals simp only [Dr])), trivial⟩, W⟩
   rw [hb3] at F
   refine Au F W (Ad F Aa Aa Aa Aa) Aa (Al Aa) (Ah F Aa).q fun a w F W => ?_
   refine Au F W (Ad F Aa Aa Aa Aa) Aa (Al Aa) (C2 F Aa Aa).q fun a w F W => ?_
   refine Au F W (Ad F Aa Aa Aa Aa) Aa (Al Aa) (Ap F Aa Aa Aa).q fun a w F W => ?_
   refine Au F W (Ad F Aa Aa Aa Aa) Aa (Al Aa) (As F Aa Aa Aa).q fun a w F W => ?_
   refine ls F W Aa (Ap F Aa Aa Aa).q fun a w F W => ?_
   refine Ae (Ac ?_)
   exact ⟨F.re ⟨rfl, Aa, Aa, (Dq (by try rw [hb3]; try rw [hb0]; try rw [hb1]; try rw [hb2]; all_goals simp only [Dr])), trivial⟩, W⟩
  rw [hb2] at F
  iterate 3 refine Cd F Aa Aa Aa Aa Aa Aa Aa fun a F => ?_
  iterate 2 refine Ll F Aa Aa Aa Aa Aa Aa fun a F => ?_
  refine Cd F Aa Aa Aa Aa Aa Aa Aa fun a F => ?_
  refine Au F W (Ad F Aa Aa Aa Aa) Aa (Al Aa) (Ap F Aa Aa Aa).q fun a w F W => ?_
  refine ls F W Aa (Ap F Aa Aa Aa).q fun a w F W => ?_
  refine Ae (Ac ?_)
  exact ⟨F.re ⟨rfl, Aa, Aa, (Dq (by try rw [hb0]; try rw [hb1]; try rw [hb2]; all_goals simp only [Dr])), trivial⟩, W⟩
 rintro a w ⟨F, W⟩
 refine Az F Aa (fun hb => ?_) fun hb => ?_
 ·
  have H := AW hb H
  rw [hb] at F
  clear hb
  refine Ak (Ab ?_)
  refine ls F W Aa (Ag F Aa).q fun a w F W => ?_
  refine Ae (Ac (Ax (AO ?_)))
  have H := AK H
  subst H
  refine AG (.inl Aa) F W Aa (AD F Aa) ?_
  exact ⟨rfl, W.done⟩
 have H := AY (by rw [hb]; decide) H
 rw [hb] at F
 clear hb
 refine AA (Ac ?_)
 obtain ⟨o1, G1, K1, L1⟩ := Rk H
 refine A1 (fun a w => some (Sum.inl ()) = some o1 ∧ Fr 98 [] [(2, .bool false)] a ∧ Stw ⟨Y, [], w0⟩ (Eb b1 p0 v1) [] w) ?_ ?_
 ·
  have H := G1
  clear G1 K1
  refine Ak (Ab ?_)
  refine ls F W Aa (Ag F Aa).q fun a w F W => ?_
  refine Ae (Ac (AP ?_))
  refine Cx H (fun s a w => Fr 98 [] [(1, .pointer (some ⟨b1, 0, none⟩)), (2, .bool false), (3, .int .i64 (p0.un.2.2.2.length : Int)), (4, .int .i64 s)] a ∧ Stw ⟨Y, [], w0⟩ (Eb b1 p0 v1) [] w) ⟨F.re ⟨rfl, Aa, Aa, Aa, trivial⟩, W⟩ fun s o a w H L2 hR => ?_
  obtain ⟨x1, rfl⟩ : ∃ x, x = s := ⟨s, rfl⟩
  obtain ⟨F, W⟩ := hR
  have F : Fr 98 [] [(1, .pointer (some ⟨b1, 0, none⟩)), (2, .bool false), (3, .int .i64 (p0.un.2.2.2.length : Int)), (4, .int .i64 x1)] a := F
  have W : Stw ⟨Y, [], w0⟩ (Eb b1 p0 v1) [] w := W
  rw [Eg] at H
  refine Ak (Ak (Ab ?_))
  iterate 2 refine ls F W Aa (Ah F Aa).q fun a w F W => ?_
  refine ls F W Aa (Co F Aa Aa).q fun a w F W => ?_
  refine Ae (Ac ?_)
  refine Az F Aa (fun hb => ?_) fun hb => ?_
  ·
   have H := AW (Bw hb) H
   rw [hb] at F
   clear hb
   refine AA (Ac (Ak (AP (Ak (Ab ?_)))))
   refine ls F W Aa (Aj CJ Aa Aa Aa Ix F Aa 3 Aa).q fun a w F W => ?_
   refine ls F W Aa (Av (v := v1) 0 F Aa Aa Ix Aa).q fun a w F W => ?_
   refine ls F W Aa (Ah F Aa).q fun a w F W => ?_
   obtain ⟨x2, h2, H⟩ := Aq H
   obtain ⟨v3, h3, h4⟩ := D5 h1 h2
   have h5 : Ir v3 = [.int .i64 x2.un.1, .int .i64 x2.un.2.1, .int .i64 x2.un.2.2.1, (v3.2.2.2.1)] := congrArg (fun q : Tr34 => ([.int .i64 q.un.1, .int .i64 q.un.2.1, .int .i64 q.un.2.2.1, (v3.2.2.2.1)] : List Value)) h4
   refine ls F W Aa (Cg (r := I8) St F Aa Aa (Ay h_v1) h3).q fun a w F W => ?_
   refine ls F W Aa (BC (y := Value.agg #[.int .i64 x2.un.1, .int .i64 x2.un.2.1, .int .i64 x2.un.2.2.1, (v3.2.2.2.1)]) (j := 0) (i := x1) (enc := Ir) F Aa Aa (Ay h_v1) h3 Oq IA (by rw [h5]; rfl)).q fun a w F W => ?_
   obtain ⟨x3, h6, H⟩ := Aq H
   refine ls F W Aa (A0 (v := Value.bool x3) F VM Aa (fun w W => ih any w ((v3.2.2.2.1)) x2 _ h6 (((Ci (Ay h_v1) h3 (AE.snd (AE.snd (AE.snd AE.here))) (congrArg (fun q : Tr34 => q.un.2.2.2) h4)) : DZ _ _ _ _ _ _) w W).nx)) fun a w F W => ?_
   refine ls F W Aa (Hs F Aa).q fun a w F W => ?_
   refine Ae (Ac ?_)
   refine Az F Aa (fun hb => ?_) fun hb => ?_
   ·
    have H := AW hb H
    rw [hb] at F
    clear hb
    refine Ak (Ab ?_)
    refine ls F W Aa (Ag F Aa).q fun a w F W => ?_
    refine Ae (Ac (Ax (Bc ?_)))
    iterate 2 refine AO ?_
    refine Bc (AO ?_)
    have H := L2 _ H
    have H := L1 _ H
    have H := AK H
    subst H
    refine AG (.inl Aa) F W Aa (AD F Aa) ?_
    exact ⟨rfl, W.done⟩
   have H := AY (by rw [hb]; decide) H
   rw [hb] at F
   clear hb
   refine AA (Bn (Ac (Ab ?_)))
   refine ls F W Aa (Ah F Aa).q fun a w F W => ?_
   refine ls F W Aa (C5 F Aa Aa Aa).q fun a w F W => ?_
   refine ls F W Aa (Ag F Aa).q fun a w F W => ?_
   refine Ae (Ac ?_)
   exact ⟨_, H, F.re ⟨rfl, Aa, Aa, Aa, trivial⟩, W⟩
  have H := AY (Bx hb) H
  rw [hb] at F
  clear hb
  refine Cz ?_
  iterate 2 refine C8 ?_
  refine Cy (Ac ?_)
  have H := L2 _ H
  exact ⟨H, F.re ⟨rfl, trivial⟩, W⟩
 rintro a w ⟨hj, F, W⟩
 have H := K1 _ hj
 clear hj G1 K1 L1
 refine Ak (Ab ?_)
 refine ls F W Aa (Ag F Aa).q fun a w F W => ?_
 refine Ae (Ac (Ax ?_))
 have H := AK H
 subst H
 refine AG (.inl Aa) F W Aa (AD F Aa) ?_
 exact ⟨rfl, W.done⟩
theorem O2 : ∀ (n : Nat) (Y : Nat → Prop) (w0 : World) (v1 : Value) (p0 : Tr34) (r : Bool) (H : Dz n p0 = some r) (h_v1 : Sl w0 (NX []) CS v1 p0.un.2.2.2), Calls Tryd.prog 46 #[.agg #[.int .i64 p0.un.1, .int .i64 p0.un.2.1, .int .i64 p0.un.2.2.1, v1]] w0 fun e w' => e = .returned (.bool r) ∧ Below w0.heap.size w0 w' := by
  intro n
  induction n with
  | zero => intro Y w0 v1 p0 r H; exact nomatch H
  | succ n ih => intro Y w0 v1 p0 r H h_v1; exact N0 (Dz n) ih Y w0 v1 p0 r H h_v1
theorem Qm (Y : Nat → Prop) (w0 : World) (v1 : Value) (p0 : Tr34) (r : Bool) (H : LP p0 = some r) (h_v1 : Sl w0 (NX []) CS v1 p0.un.2.2.2) :
    Calls Tryd.prog 46 #[.agg #[.int .i64 p0.un.1, .int .i64 p0.un.2.1, .int .i64 p0.un.2.2.1, v1]] w0 fun e w' => e = .returned (.bool r) ∧ Below w0.heap.size w0 w' := by
  obtain ⟨n, H⟩ := BR H
  exact O2 n Y w0 v1 p0 r H h_v1
theorem Vv : Has Tryd.prog 47 := ⟨fun args w => An Tryd.func47 rfl (by decide) args w⟩
noncomputable def C1 (fRec : Tr34 → Option Int) (p0 : Tr34) : (Int × Int) → Option ((Int × Int) ⊕ Int)
  | (x2, x3) => (if x3 < (p0.un.2.2.2.length : Int) then (ix p0.un.2.2.2 x3).bind fun x4 => (fRec x4).bind fun x5 => some (.inl (DP (x2 + x5), DP (x3 + 1))) else some (.inr x2))
noncomputable def Em (fRec : Tr34 → Option Int) (p0 : Tr34) : Option Int := (Br (C1 fRec p0) (1, 0)).bind fun x1 => some x1
noncomputable def Dy : Nat → Tr34 → Option Int
  | 0 => fun _ => none
  | n + 1 => Em (Dy n)
noncomputable def IY (p0 : Tr34) : Option Int := FY fun n => Dy n p0
theorem Oh (fRec : Tr34 → Option Int) (ih : ∀ (Y : Nat → Prop) (w0 : World) (v1 : Value) (p0 : Tr34) (r : Int) (H : fRec p0 = some r) (h_v1 : Sl w0 (NX []) CS v1 p0.un.2.2.2), Calls Tryd.prog 47 #[.agg #[.int .i64 p0.un.1, .int .i64 p0.un.2.1, .int .i64 p0.un.2.2.1, v1]] w0 fun e w' => e = .returned (.int .i64 r) ∧ Below w0.heap.size w0 w') (Y : Nat → Prop) (w0 : World) (v1 : Value) (p0 : Tr34) (r : Int) (H : Em fRec p0 = some r) (h_v1 : Sl w0 (NX []) CS v1 p0.un.2.2.2) :
    Calls Tryd.prog 47 #[.agg #[.int .i64 p0.un.1, .int .i64 p0.un.2.1, .int .i64 p0.un.2.2.1, v1]] w0 fun e w' => e = .returned (.int .i64 r) ∧ Below w0.heap.size w0 w' := by
 refine enter Tryd.func47 Aa Tryd.ntmps47 Aa fun a F => ?_
 have W := Stw.start Y w0
 obtain ⟨v2, h1, h_v1⟩ := h_v1.ex CL
 unfold Em at H
 refine Ak (Ab ?_)
 refine D6 (cs := (Du p0 v1)) F W Aa Aa Aa fun b1 a w F W => ?_
 refine ls F W Aa (Ag F Aa).q fun a w F W => ?_
 refine Ae (Ac (Ak (Ab ?_)))
 refine ls F W Aa (Ag F Aa).q fun a w F W => ?_
 refine Ae (Ac ?_)
 obtain ⟨o1, G1, K1⟩ := Aq H
 refine A1 (fun a w => ∃ x1 : Int, some (x1) = some o1 ∧ Fr 21 [] [(2, .int .i64 0), (3, .int .i64 x1)] a ∧ Stw ⟨Y, [], w0⟩ (Eb b1 p0 v1) [] w) ?_ ?_
 ·
  have H := G1
  clear G1 K1
  refine Ak (Ab ?_)
  refine ls F W Aa (Ag F Aa).q fun a w F W => ?_
  refine Ae (Ac (AP ?_))
  refine Cx H (fun s a w => Fr 21 [] [(1, .pointer (some ⟨b1, 0, none⟩)), (2, .int .i64 0), (3, .int .i64 s.1), (4, .int .i64 s.2)] a ∧ Stw ⟨Y, [], w0⟩ (Eb b1 p0 v1) [] w) ⟨F.re ⟨rfl, Aa, Aa, Aa, trivial⟩, W⟩ fun s o a w H L2 hR => ?_
  obtain ⟨x2, x3⟩ := s
  obtain ⟨F, W⟩ := hR
  have F : Fr 21 [] [(1, .pointer (some ⟨b1, 0, none⟩)), (2, .int .i64 0), (3, .int .i64 x2), (4, .int .i64 x3)] a := F
  have W : Stw ⟨Y, [], w0⟩ (Eb b1 p0 v1) [] w := W
  rw [C1] at H
  refine Ak (Ak (Ab ?_))
  refine ls F W Aa (Ah F Aa).q fun a w F W => ?_
  refine ls F W Aa (Aj CJ Aa Aa Aa Ix F Aa 3 Aa).q fun a w F W => ?_
  refine ls F W Aa (Av (v := v1) 0 F Aa Aa Ix Aa).q fun a w F W => ?_
  refine ls F W Aa (D7 (r := CS) (l := p0.un.2.2.2) Om Aa F Aa (AM CL h1 (Ay h_v1))).q fun a w F W => ?_
  refine ls F W Aa (Co F Aa Aa).q fun a w F W => ?_
  refine Ae (Ac ?_)
  refine Az F Aa (fun hb => ?_) fun hb => ?_
  ·
   have H := AW (Bw hb) H
   rw [hb] at F
   clear hb
   refine AA (Ac (Ak (AP (Ab ?_))))
   refine ls F W Aa (Ah F Aa).q fun a w F W => ?_
   refine ls F W Aa (Aj CJ Aa Aa Aa Ix F Aa 3 Aa).q fun a w F W => ?_
   refine ls F W Aa (Av (v := v1) 0 F Aa Aa Ix Aa).q fun a w F W => ?_
   refine ls F W Aa (Ah F Aa).q fun a w F W => ?_
   obtain ⟨x4, h2, H⟩ := Aq H
   obtain ⟨v3, h3, h4⟩ := D5 h1 h2
   have h5 : Ir v3 = [.int .i64 x4.un.1, .int .i64 x4.un.2.1, .int .i64 x4.un.2.2.1, (v3.2.2.2.1)] := congrArg (fun q : Tr34 => ([.int .i64 q.un.1, .int .i64 q.un.2.1, .int .i64 q.un.2.2.1, (v3.2.2.2.1)] : List Value)) h4
   refine ls F W Aa (Cg (r := I8) St F Aa Aa (Ay h_v1) h3).q fun a w F W => ?_
   refine ls F W Aa (BC (y := Value.agg #[.int .i64 x4.un.1, .int .i64 x4.un.2.1, .int .i64 x4.un.2.2.1, (v3.2.2.2.1)]) (j := 0) (i := x3) (enc := Ir) F Aa Aa (Ay h_v1) h3 Oq IA (by rw [h5]; rfl)).q fun a w F W => ?_
   obtain ⟨x5, h6, H⟩ := Aq H
   refine ls F W Aa (A0 (v := Value.int .i64 x5) F Vv Aa (fun w W => ih any w ((v3.2.2.2.1)) x4 _ h6 (((Ci (Ay h_v1) h3 (AE.snd (AE.snd (AE.snd AE.here))) (congrArg (fun q : Tr34 => q.un.2.2.2) h4)) : DZ _ _ _ _ _ _) w W).nx)) fun a w F W => ?_
   refine ls F W Aa (C5 F Aa Aa Aa).q fun a w F W => ?_
   refine ls F W Aa (Ag F Aa).q fun a w F W => ?_
   refine Ae (Bn (Ac (Ab ?_)))
   refine ls F W Aa (Ah F Aa).q fun a w F W => ?_
   refine ls F W Aa (C5 F Aa Aa Aa).q fun a w F W => ?_
   refine ls F W Aa (Ag F Aa).q fun a w F W => ?_
   refine Ae (Ac ?_)
   exact ⟨_, H, F.re ⟨rfl, Aa, Aa, Aa, trivial⟩, W⟩
  have H := AY (Bx hb) H
  rw [hb] at F
  clear hb
  refine Cz ?_
  iterate 2 refine C8 ?_
  refine Cy (Ac ?_)
  have H := L2 _ H
  exact ⟨_, H, F.re ⟨rfl, Aa, trivial⟩, W⟩
 rintro a w ⟨x1, hj, F, W⟩
 have hj := AK hj
 subst hj
 have H := K1
 clear G1 K1
 refine Ak (Ab ?_)
 refine ls F W Aa (Ah F Aa).q fun a w F W => ?_
 refine ls F W Aa (Ag F Aa).q fun a w F W => ?_
 refine Ae (Ac (Ax ?_))
 have H := AK H
 subst H
 refine AG (.inl Aa) F W Aa (AD F Aa) ?_
 exact ⟨rfl, W.done⟩
theorem OM : ∀ (n : Nat) (Y : Nat → Prop) (w0 : World) (v1 : Value) (p0 : Tr34) (r : Int) (H : Dy n p0 = some r) (h_v1 : Sl w0 (NX []) CS v1 p0.un.2.2.2), Calls Tryd.prog 47 #[.agg #[.int .i64 p0.un.1, .int .i64 p0.un.2.1, .int .i64 p0.un.2.2.1, v1]] w0 fun e w' => e = .returned (.int .i64 r) ∧ Below w0.heap.size w0 w' := by
  intro n
  induction n with
  | zero => intro Y w0 v1 p0 r H; exact nomatch H
  | succ n ih => intro Y w0 v1 p0 r H h_v1; exact Oh (Dy n) ih Y w0 v1 p0 r H h_v1
theorem LH (Y : Nat → Prop) (w0 : World) (v1 : Value) (p0 : Tr34) (r : Int) (H : IY p0 = some r) (h_v1 : Sl w0 (NX []) CS v1 p0.un.2.2.2) :
    Calls Tryd.prog 47 #[.agg #[.int .i64 p0.un.1, .int .i64 p0.un.2.1, .int .i64 p0.un.2.2.1, v1]] w0 fun e w' => e = .returned (.int .i64 r) ∧ Below w0.heap.size w0 w' := by
  obtain ⟨n, H⟩ := BR H
  exact OM n Y w0 v1 p0 r H h_v1
theorem Vh : Has Tryd.prog 48 := ⟨fun args w => An Tryd.func48 rfl (by decide) args w⟩
noncomputable def C4 (fRec : Tr34 → Option Int) (p0 : Tr34) : (Int × Int) → Option ((Int × Int) ⊕ Int)
  | (x2, x3) => (if x3 < (p0.un.2.2.2.length : Int) then ((ix p0.un.2.2.2 x3).bind fun x5 => (fRec x5).bind fun x6 => (if x2 < (DP (x6 + 1)) then (ix p0.un.2.2.2 x3).bind fun x7 => (fRec x7).bind fun x8 => some (DP (x8 + 1)) else some x2)).bind fun x4 => some (.inl (x4, DP (x3 + 1))) else some (.inr x2))
noncomputable def Ec (fRec : Tr34 → Option Int) (p0 : Tr34) : Option Int := (Br (C4 fRec p0) (1, 0)).bind fun x1 => some x1
noncomputable def DA : Nat → Tr34 → Option Int
  | 0 => fun _ => none
  | n + 1 => Ec (DA n)
noncomputable def LZ (p0 : Tr34) : Option Int := FY fun n => DA n p0
theorem Ol (fRec : Tr34 → Option Int) (ih : ∀ (Y : Nat → Prop) (w0 : World) (v1 : Value) (p0 : Tr34) (r : Int) (H : fRec p0 = some r) (h_v1 : Sl w0 (NX []) CS v1 p0.un.2.2.2), Calls Tryd.prog 48 #[.agg #[.int .i64 p0.un.1, .int .i64 p0.un.2.1, .int .i64 p0.un.2.2.1, v1]] w0 fun e w' => e = .returned (.int .i64 r) ∧ Below w0.heap.size w0 w') (Y : Nat → Prop) (w0 : World) (v1 : Value) (p0 : Tr34) (r : Int) (H : Ec fRec p0 = some r) (h_v1 : Sl w0 (NX []) CS v1 p0.un.2.2.2) :
    Calls Tryd.prog 48 #[.agg #[.int .i64 p0.un.1, .int .i64 p0.un.2.1, .int .i64 p0.un.2.2.1, v1]] w0 fun e w' => e = .returned (.int .i64 r) ∧ Below w0.heap.size w0 w' := by
 refine enter Tryd.func48 Aa Tryd.ntmps48 Aa fun a F => ?_
 have W := Stw.start Y w0
 obtain ⟨v2, h1, h_v1⟩ := h_v1.ex CL
 unfold Ec at H
 refine Ak (Ab ?_)
 refine D6 (cs := (Du p0 v1)) F W Aa Aa Aa fun b1 a w F W => ?_
 refine ls F W Aa (Ag F Aa).q fun a w F W => ?_
 refine Ae (Ac (Ak (Ab ?_)))
 refine ls F W Aa (Ag F Aa).q fun a w F W => ?_
 refine Ae (Ac ?_)
 obtain ⟨o1, G1, K1⟩ := Aq H
 refine A1 (fun a w => ∃ x1 : Int, some (x1) = some o1 ∧ Fr 29 [] [(2, .int .i64 0), (3, .int .i64 x1)] a ∧ Stw ⟨Y, [], w0⟩ (Eb b1 p0 v1) [] w) ?_ ?_
 ·
  have H := G1
  clear G1 K1
  refine Ak (Ab ?_)
  refine ls F W Aa (Ag F Aa).q fun a w F W => ?_
  refine Ae (Ac (AP ?_))
  refine Cx H (fun s a w => Fr 29 [] [(1, .pointer (some ⟨b1, 0, none⟩)), (2, .int .i64 0), (3, .int .i64 s.1), (4, .int .i64 s.2)] a ∧ Stw ⟨Y, [], w0⟩ (Eb b1 p0 v1) [] w) ⟨F.re ⟨rfl, Aa, Aa, Aa, trivial⟩, W⟩ fun s o a w H L2 hR => ?_
  obtain ⟨x2, x3⟩ := s
  obtain ⟨F, W⟩ := hR
  have F : Fr 29 [] [(1, .pointer (some ⟨b1, 0, none⟩)), (2, .int .i64 0), (3, .int .i64 x2), (4, .int .i64 x3)] a := F
  have W : Stw ⟨Y, [], w0⟩ (Eb b1 p0 v1) [] w := W
  rw [C4] at H
  refine Ak (Ak (Ab ?_))
  refine ls F W Aa (Ah F Aa).q fun a w F W => ?_
  refine ls F W Aa (Aj CJ Aa Aa Aa Ix F Aa 3 Aa).q fun a w F W => ?_
  refine ls F W Aa (Av (v := v1) 0 F Aa Aa Ix Aa).q fun a w F W => ?_
  refine ls F W Aa (D7 (r := CS) (l := p0.un.2.2.2) Om Aa F Aa (AM CL h1 (Ay h_v1))).q fun a w F W => ?_
  refine ls F W Aa (Co F Aa Aa).q fun a w F W => ?_
  refine Ae (Ac ?_)
  refine Az F Aa (fun hb => ?_) fun hb => ?_
  ·
   have H := AW (Bw hb) H
   rw [hb] at F
   clear hb
   refine AA (Ac ?_)
   obtain ⟨o3, G3, K3⟩ := Aq H
   refine A1 (fun a w => ∃ x4 : Int, some (x4) = some o3 ∧ Fr 29 [] [(1, .pointer (some ⟨b1, 0, none⟩)), (2, .int .i64 0), (3, .int .i64 x4), (4, .int .i64 x3)] a ∧ Stw ⟨Y, [], w0⟩ (Eb b1 p0 v1) [] w) ?_ ?_
   ·
    have H := G3
    clear G3 K3
    refine AP (Ak (Ab ?_))
    refine ls F W Aa (Aj CJ Aa Aa Aa Ix F Aa 3 Aa).q fun a w F W => ?_
    refine ls F W Aa (Av (v := v1) 0 F Aa Aa Ix Aa).q fun a w F W => ?_
    refine ls F W Aa (Ah F Aa).q fun a w F W => ?_
    obtain ⟨x5, h2, H⟩ := Aq H
    obtain ⟨v3, h3, h4⟩ := D5 h1 h2
    have h5 : Ir v3 = [.int .i64 x5.un.1, .int .i64 x5.un.2.1, .int .i64 x5.un.2.2.1, (v3.2.2.2.1)] := congrArg (fun q : Tr34 => ([.int .i64 q.un.1, .int .i64 q.un.2.1, .int .i64 q.un.2.2.1, (v3.2.2.2.1)] : List Value)) h4
    refine ls F W Aa (Cg (r := I8) St F Aa Aa (Ay h_v1) h3).q fun a w F W => ?_
    refine ls F W Aa (BC (y := Value.agg #[.int .i64 x5.un.1, .int .i64 x5.un.2.1, .int .i64 x5.un.2.2.1, (v3.2.2.2.1)]) (j := 0) (i := x3) (enc := Ir) F Aa Aa (Ay h_v1) h3 Oq IA (by rw [h5]; rfl)).q fun a w F W => ?_
    obtain ⟨x6, h6, H⟩ := Aq H
    refine ls F W Aa (A0 (v := Value.int .i64 x6) F Vh Aa (fun w W => ih any w ((v3.2.2.2.1)) x5 _ h6 (((Ci (Ay h_v1) h3 (AE.snd (AE.snd (AE.snd AE.here))) (congrArg (fun q : Tr34 => q.un.2.2.2) h4)) : DZ _ _ _ _ _ _) w W).nx)) fun a w F W => ?_
    refine ls F W Aa (C5 F Aa Aa Aa).q fun a w F W => ?_
    refine ls F W Aa (Ah F Aa).q fun a w F W => ?_
    refine ls F W Aa (C2 F Aa Aa).q fun a w F W => ?_
    refine Ae (Ac ?_)
    refine Az F Aa (fun hb => ?_) fun hb => ?_
    ·
     have H := AW (Bw hb) H
     rw [hb] at F
     clear hb
     obtain ⟨v4, h7, h8⟩ := Sl.ex CL (Sl.at_ h_v1 h3 (AE.snd (AE.snd (AE.snd AE.here))) (congrArg (fun q : Tr34 => q.un.2.2.2) h4))
     refine Ab ?_
     refine ls F W Aa (Aj CJ Aa Aa Aa Ix F Aa 3 Aa).q fun a w F W => ?_
     refine ls F W Aa (Av (v := v1) 0 F Aa Aa Ix Aa).q fun a w F W => ?_
     refine ls F W Aa (Ah F Aa).q fun a w F W => ?_
     obtain ⟨x7, h9, H⟩ := Aq H
     obtain ⟨v5, h10, h11⟩ := D5 h1 h9
     have h12 : Ir v5 = [.int .i64 x7.un.1, .int .i64 x7.un.2.1, .int .i64 x7.un.2.2.1, (v5.2.2.2.1)] := congrArg (fun q : Tr34 => ([.int .i64 q.un.1, .int .i64 q.un.2.1, .int .i64 q.un.2.2.1, (v5.2.2.2.1)] : List Value)) h11
     refine ls F W Aa (Cg (r := I8) St F Aa Aa (Ay h_v1) h10).q fun a w F W => ?_
     refine ls F W Aa (BC (y := Value.agg #[.int .i64 x7.un.1, .int .i64 x7.un.2.1, .int .i64 x7.un.2.2.1, (v5.2.2.2.1)]) (j := 0) (i := x3) (enc := Ir) F Aa Aa (Ay h_v1) h10 Oq IA (by rw [h12]; rfl)).q fun a w F W => ?_
     obtain ⟨x8, h13, H⟩ := Aq H
     refine ls F W Aa (A0 (v := Value.int .i64 x8) F Vh Aa (fun w W => ih any w ((v5.2.2.2.1)) x7 _ h13 (((Ci (Ay h_v1) h10 (AE.snd (AE.snd (AE.snd AE.here))) (congrArg (fun q : Tr34 => q.un.2.2.2) h11)) : DZ _ _ _ _ _ _) w W).nx)) fun a w F W => ?_
     refine ls F W Aa (C5 F Aa Aa Aa).q fun a w F W => ?_
     refine ls F W Aa (Ag F Aa).q fun a w F W => ?_
     refine Ae (Bn (Ac ?_))
     exact ⟨_, H, F.re ⟨rfl, Aa, Aa, Aa, trivial⟩, W⟩
    have H := AY (Bx hb) H
    rw [hb] at F
    clear hb
    refine AA (Bn (Ac ?_))
    exact ⟨_, H, F.re ⟨rfl, Aa, Aa, Aa, trivial⟩, W⟩
   rintro a w ⟨x4, hj, F, W⟩
   have hj := AK hj
   subst hj
   have H := K3
   clear G3 K3
   refine Ab ?_
   refine ls F W Aa (Ah F Aa).q fun a w F W => ?_
   refine ls F W Aa (C5 F Aa Aa Aa).q fun a w F W => ?_
   refine ls F W Aa (Ag F Aa).q fun a w F W => ?_
   refine Ae (Ac ?_)
   exact ⟨_, H, F.re ⟨rfl, Aa, Aa, Aa, trivial⟩, W⟩
  have H := AY (Bx hb) H
  rw [hb] at F
  clear hb
  refine Cz ?_
  iterate 2 refine C8 ?_
  refine Cy (Ac ?_)
  have H := L2 _ H
  exact ⟨_, H, F.re ⟨rfl, Aa, trivial⟩, W⟩
 rintro a w ⟨x1, hj, F, W⟩
 have hj := AK hj
 subst hj
 have H := K1
 clear G1 K1
 refine Ak (Ab ?_)
 refine ls F W Aa (Ah F Aa).q fun a w F W => ?_
 refine ls F W Aa (Ag F Aa).q fun a w F W => ?_
 refine Ae (Ac (Ax ?_))
 have H := AK H
 subst H
 refine AG (.inl Aa) F W Aa (AD F Aa) ?_
 exact ⟨rfl, W.done⟩
theorem Pk : ∀ (n : Nat) (Y : Nat → Prop) (w0 : World) (v1 : Value) (p0 : Tr34) (r : Int) (H : DA n p0 = some r) (h_v1 : Sl w0 (NX []) CS v1 p0.un.2.2.2), Calls Tryd.prog 48 #[.agg #[.int .i64 p0.un.1, .int .i64 p0.un.2.1, .int .i64 p0.un.2.2.1, v1]] w0 fun e w' => e = .returned (.int .i64 r) ∧ Below w0.heap.size w0 w' := by
  intro n
  induction n with
  | zero => intro Y w0 v1 p0 r H; exact nomatch H
  | succ n ih => intro Y w0 v1 p0 r H h_v1; exact Ol (DA n) ih Y w0 v1 p0 r H h_v1
theorem PS (Y : Nat → Prop) (w0 : World) (v1 : Value) (p0 : Tr34) (r : Int) (H : LZ p0 = some r) (h_v1 : Sl w0 (NX []) CS v1 p0.un.2.2.2) :
    Calls Tryd.prog 48 #[.agg #[.int .i64 p0.un.1, .int .i64 p0.un.2.1, .int .i64 p0.un.2.2.1, v1]] w0 fun e w' => e = .returned (.int .i64 r) ∧ Below w0.heap.size w0 w' := by
  obtain ⟨n, H⟩ := BR H
  exact Pk n Y w0 v1 p0 r H h_v1
noncomputable def FI (p0 : Tr34) : Option Bool := ((LP p0).bind fun x2 => (if x2 = true then (IY p0).bind fun x3 => (if x3 ≤ 64 then (LZ p0).bind fun x4 => some (decide (x4 ≤ 8)) else some false) else some false)).bind fun x1 => some x1
theorem KZ (Y : Nat → Prop) (w0 : World) (v1 : Value) (p0 : Tr34) (r : Bool) (H : FI p0 = some r) (h_v1 : Sl w0 (NX []) CS v1 p0.un.2.2.2) :
    Calls Tryd.prog 19 #[.agg #[.int .i64 p0.un.1, .int .i64 p0.un.2.1, .int .i64 p0.un.2.2.1, v1]] w0 fun e w' => e = .returned (.bool r) ∧ Below w0.heap.size w0 w' := by
 refine enter Tryd.func19 Aa Tryd.ntmps19 Aa fun a F => ?_
 have W := Stw.start Y w0
 obtain ⟨v2, h1, h_v1⟩ := h_v1.ex CL
 unfold FI at H
 refine Ak (Ab ?_)
 refine D6 (cs := (Du p0 v1)) F W Aa Aa Aa fun b1 a w F W => ?_
 refine ls F W Aa (Ag F Aa).q fun a w F W => ?_
 refine Ae (Ac ?_)
 obtain ⟨o1, G1, K1⟩ := Aq H
 refine A1 (fun a w => ∃ x1 : Bool, some (x1) = some o1 ∧ Fr 15 [] [(2, .bool x1)] a ∧ Stw ⟨Y, [], w0⟩ (Eb b1 p0 v1) [] w) ?_ ?_
 ·
  have H := G1
  clear G1 K1
  refine Ab ?_
  refine ls F W Aa (Av (v := Value.agg #[.int .i64 p0.un.1, .int .i64 p0.un.2.1, .int .i64 p0.un.2.2.1, v1]) 0 F Aa Aa IA Aa).q fun a w F W => ?_
  obtain ⟨x2, h2, H⟩ := Aq H
  refine ls F W Aa (A0 (v := Value.bool x2) F VM Aa (fun w W => Qm any w (v1) p0 _ h2 (((AM CL h1 (Ay h_v1)) : DZ _ _ _ _ _ _) w W).nx)) fun a w F W => ?_
  refine ls F W Aa (Ah F Aa).q fun a w F W => ?_
  rcases Bool.eq_false_or_eq_true x2 with hb | hb
  ·
   have H := AW hb H
   rw [hb] at F
   clear hb
   refine Au F W (Ad F Aa Aa Aa Aa) Aa (Al Aa) (Av (v := Value.agg #[.int .i64 p0.un.1, .int .i64 p0.un.2.1, .int .i64 p0.un.2.2.1, v1]) 0 F Aa Aa IA Aa).q fun a w F W => ?_
   refine Jc (Ad F Aa Aa Aa Aa) ?_
   obtain ⟨x3, h3, H⟩ := Aq H
   refine ls F W Aa (A0 (v := Value.int .i64 x3) F Vv Aa (fun w W => LH any w (v1) p0 _ h3 (((AM CL h1 (Ay h_v1)) : DZ _ _ _ _ _ _) w W).nx)) fun a w F W => ?_
   refine Au F W (Ad F Aa Aa Aa Aa) Aa (Al Aa) (HX F Aa Aa).q fun a w F W => ?_
   refine ls F W Aa (As F Aa Aa Aa).q fun a w F W => ?_
   refine ls F W Aa (Ah F Aa).q fun a w F W => ?_
   rcases Bool.eq_false_or_eq_true (decide (x3 ≤ 64)) with hb | hb
   ·
    have H := AW (Bw hb) H
    rw [hb] at F
    clear hb
    refine Au F W (Ad F Aa Aa Aa Aa) Aa (Al Aa) (Av (v := Value.agg #[.int .i64 p0.un.1, .int .i64 p0.un.2.1, .int .i64 p0.un.2.2.1, v1]) 0 F Aa Aa IA Aa).q fun a w F W => ?_
    refine Jc (Ad F Aa Aa Aa Aa) ?_
    obtain ⟨x4, h4, H⟩ := Aq H
    refine ls F W Aa (A0 (v := Value.int .i64 x4) F Vh Aa (fun w W => PS any w (v1) p0 _ h4 (((AM CL h1 (Ay h_v1)) : DZ _ _ _ _ _ _) w W).nx)) fun a w F W => ?_
    refine Au F W (Ad F Aa Aa Aa Aa) Aa (Al Aa) (HX F Aa Aa).q fun a w F W => ?_
    refine ls F W Aa (As F Aa Aa Aa).q fun a w F W => ?_
    refine ls F W Aa (Ag F Aa).q fun a w F W => ?_
    refine Ae (Ac ?_)
    exact ⟨_, H, F.re ⟨rfl, trivial⟩, W⟩
   have H := AY (Bx hb) H
   rw [hb] at F
   clear hb
   iterate 3 refine Cd F Aa Aa Aa Aa Aa Aa Aa fun a F => ?_
   refine ls F W Aa (Ap F Aa Aa Aa).q fun a w F W => ?_
   refine ls F W Aa (Ag F Aa).q fun a w F W => ?_
   refine Ae (Ac ?_)
   exact ⟨_, H, F.re ⟨rfl, trivial⟩, W⟩
  have H := AY (by rw [hb]; decide) H
  rw [hb] at F
  clear hb
  iterate 3 refine Cd F Aa Aa Aa Aa Aa Aa Aa fun a F => ?_
  refine ls F W Aa (Ap F Aa Aa Aa).q fun a w F W => ?_
  refine ls F W Aa (Ah F Aa).q fun a w F W => ?_
  iterate 3 refine Cd F Aa Aa Aa Aa Aa Aa Aa fun a F => ?_
  refine ls F W Aa (Ap F Aa Aa Aa).q fun a w F W => ?_
  refine ls F W Aa (Ag F Aa).q fun a w F W => ?_
  refine Ae (Ac ?_)
  exact ⟨_, H, F.re ⟨rfl, trivial⟩, W⟩
 rintro a w ⟨x1, hj, F, W⟩
 have hj := AK hj
 subst hj
 have H := K1
 clear G1 K1
 refine Ax ?_
 have H := AK H
 subst H
 refine AG (.inl Aa) F W Aa (AD F Aa) ?_
 exact ⟨rfl, W.done⟩
end Go.Proofs.YtlgjpoapclifbaaDoor
