/- The functions of layer 29, E5. Conditions: none. -/
import Derived.Test.YtlgjpoapclifbaaDoorcA8
namespace Go.Proofs.YtlgjpoapclifbaaDoor
open Go Go.RowKit
set_option linter.unusedVariables false
set_option linter.unusedSimpArgs false
set_option maxRecDepth 20000
theorem VR : Has Tryd.prog 19 := ⟨fun args w => An Tryd.func19 rfl (by decide) args w⟩
theorem VS : Has Tryd.prog 35 := ⟨fun args w => An Tryd.func35 rfl (by decide) args w⟩
abbrev Ch (a0 : Nat) (a1 : Tr37) (a2 : Value) (a3 : Value) : List (Nat × List Value) := [(a0, [.int .i64 a1.un.1, .int .i64 a1.un.2.1.un.1, .int .i64 a1.un.2.1.un.2.1, .int .i64 a1.un.2.1.un.2.2.1, a2, .int .i64 a1.un.2.2.1, .int .i64 a1.un.2.2.2.1, a3])]
noncomputable def Ee (fRec : Tr37 → Option Bool) (p0 : Tr37) : Int → Option (Int ⊕ (Unit ⊕ Bool))
  | x4 => (if x4 < (p0.un.2.2.2.2.length : Int) then (ix p0.un.2.2.2.2 x4).bind fun x5 => (fRec (Tr37.of (x5.un.1, Tr34.of (x5.un.2.1.un.1, x5.un.2.1.un.2.1, x5.un.2.1.un.2.2.1, x5.un.2.1.un.2.2.2), x5.un.2.2.1, x5.un.2.2.2.1, x5.un.2.2.2.2))).bind fun x6 => (if (!x6) = true then some (.inr (.inr false)) else some (.inl (DP (x4 + 1)))) else some (.inr (.inl ())))
noncomputable def Es (fRec : Tr37 → Option Bool) (p0 : Tr37) : Option Bool := (if (decide (p0.un.1 < 1) || (decide (5 < p0.un.1) || (decide (p0.un.1 ≠ 2) && (decide (p0.un.2.2.1 ≠ 0) || decide (p0.un.2.2.2.1 ≠ 0))))) = true then some false else (if (decide (p0.un.1 = 1) || decide (p0.un.1 = 5)) = true then (FI (Tr34.of (p0.un.2.1.un.1, p0.un.2.1.un.2.1, p0.un.2.1.un.2.2.1, p0.un.2.1.un.2.2.2))).bind fun x2 => (if (!x2) = true then some true else some false) else (Ha (Tr34.of (p0.un.2.1.un.1, p0.un.2.1.un.2.1, p0.un.2.1.un.2.2.1, p0.un.2.1.un.2.2.2)) (Tr34.of (0, 0, 0, ([] : List Tr34)))).bind fun x3 => some (!x3)).bind fun x1 => (if x1 = true then some false else (if (decide (p0.un.1 = 2) && (decide (p0.un.2.2.1 < 0) || (decide (4 < p0.un.2.2.1) || (decide (p0.un.2.2.2.1 < 0) || decide ((EF p0.un.2.2.1) < p0.un.2.2.2.1))))) = true then some false else (if (bif decide (p0.un.1 ≤ 2) then (decide ((p0.un.2.2.2.2.length : Int) ≠ 0) || (bif decide (p0.un.1 = 5) then (decide ((p0.un.2.2.2.2.length : Int) ≠ 2) || (bif decide (p0.un.1 = 3) then (decide ((p0.un.2.2.2.2.length : Int) < 2) || decide (8 < (p0.un.2.2.2.2.length : Int))) else (decide (p0.un.1 = 4) && (decide ((p0.un.2.2.2.2.length : Int) < 2) || decide (8 < (p0.un.2.2.2.2.length : Int)))))) else (bif decide (p0.un.1 = 3) then (decide ((p0.un.2.2.2.2.length : Int) < 2) || decide (8 < (p0.un.2.2.2.2.length : Int))) else (decide (p0.un.1 = 4) && (decide ((p0.un.2.2.2.2.length : Int) < 2) || decide (8 < (p0.un.2.2.2.2.length : Int))))))) else (bif decide (p0.un.1 = 5) then (decide ((p0.un.2.2.2.2.length : Int) ≠ 2) || (bif decide (p0.un.1 = 3) then (decide ((p0.un.2.2.2.2.length : Int) < 2) || decide (8 < (p0.un.2.2.2.2.length : Int))) else (decide (p0.un.1 = 4) && (decide ((p0.un.2.2.2.2.length : Int) < 2) || decide (8 < (p0.un.2.2.2.2.length : Int)))))) else (bif decide (p0.un.1 = 3) then (decide ((p0.un.2.2.2.2.length : Int) < 2) || decide (8 < (p0.un.2.2.2.2.length : Int))) else (decide (p0.un.1 = 4) && (decide ((p0.un.2.2.2.2.length : Int) < 2) || decide (8 < (p0.un.2.2.2.2.length : Int))))))) = true then some false else KC (Br (Ee fRec p0) 0) fun _ => some true))))
noncomputable def Dv : Nat → Tr37 → Option Bool
  | 0 => fun _ => none
  | n + 1 => Es (Dv n)
noncomputable def Mp (p0 : Tr37) : Option Bool := FY fun n => Dv n p0
theorem Od (fRec : Tr37 → Option Bool) (ih : ∀ (Y : Nat → Prop) (w0 : World) (v1 : Value) (v2 : Value) (p0 : Tr37) (r : Bool) (H : fRec p0 = some r) (h_v1 : Sl w0 (NX []) CS v1 p0.un.2.1.un.2.2.2) (h_v2 : Sl w0 (NX []) Ff v2 p0.un.2.2.2.2), Calls Tryd.prog 35 #[.agg #[.int .i64 p0.un.1, .int .i64 p0.un.2.1.un.1, .int .i64 p0.un.2.1.un.2.1, .int .i64 p0.un.2.1.un.2.2.1, v1, .int .i64 p0.un.2.2.1, .int .i64 p0.un.2.2.2.1, v2]] w0 fun e w' => e = .returned (.bool r) ∧ Below w0.heap.size w0 w') (Y : Nat → Prop) (w0 : World) (v1 : Value) (v2 : Value) (p0 : Tr37) (r : Bool) (H : Es fRec p0 = some r) (h_v1 : Sl w0 (NX []) CS v1 p0.un.2.1.un.2.2.2) (h_v2 : Sl w0 (NX []) Ff v2 p0.un.2.2.2.2) :
    Calls Tryd.prog 35 #[.agg #[.int .i64 p0.un.1, .int .i64 p0.un.2.1.un.1, .int .i64 p0.un.2.1.un.2.1, .int .i64 p0.un.2.1.un.2.2.1, v1, .int .i64 p0.un.2.2.1, .int .i64 p0.un.2.2.2.1, v2]] w0 fun e w' => e = .returned (.bool r) ∧ Below w0.heap.size w0 w' := by
 refine enter Tryd.func35 Aa Tryd.ntmps35 Aa fun a F => ?_
 have W := Stw.start Y w0
 obtain ⟨v3, h1, h_v1⟩ := h_v1.ex CL
 obtain ⟨v4, h2, h_v2⟩ := h_v2.ex Fx
 unfold Es at H
 refine Ak (Ab ?_)
 refine D6 (cs := (Ce p0 v1 v2)) F W Aa Aa Aa fun b1 a w F W => ?_
 refine ls F W Aa (Ag F Aa).q fun a w F W => ?_
 refine Ae (Ac (Ak (Ab ?_)))
 refine ls F W Aa (Aj BX Aa Aa Aa HK F Aa 7 Aa).q fun a w F W => ?_
 refine ls F W Aa (Av (v := v2) 0 F Aa Aa HK Aa).q fun a w F W => ?_
 refine ls F W Aa (D7 (r := Ff) (l := p0.un.2.2.2.2) Nb Aa F Aa (AM Fx h2 (Ay h_v2))).q fun a w F W => ?_
 refine ls F W Aa (Ag F Aa).q fun a w F W => ?_
 refine Ae (Ac (Ak ?_))
 refine A1 (fun a w => Fr 130 [] [(1, .pointer (some ⟨b1, 0, none⟩)), (2, .bool false), (3, .int .i64 (p0.un.2.2.2.2.length : Int)), (31, .bool (decide (p0.un.1 < 1) || (decide (5 < p0.un.1) || (decide (p0.un.1 ≠ 2) && (decide (p0.un.2.2.1 ≠ 0) || decide (p0.un.2.2.2.1 ≠ 0))))))] a ∧ Stw ⟨Y, [], w0⟩ (Ch b1 p0 v1 v2) [] w) ?_ ?_
 ·
  refine Ab ?_
  refine ls F W Aa (Aj BX Aa Aa Aa T3 F Aa 0 Aa).q fun a w F W => ?_
  refine ls F W Aa (Av (v := Value.int .i64 p0.un.1) 0 F Aa Aa T3 Aa).q fun a w F W => ?_
  refine ls F W Aa (Co F Aa Aa).q fun a w F W => ?_
  refine ls F W Aa (Ah F Aa).q fun a w F W => ?_
  rcases Bool.eq_false_or_eq_true (decide (p0.un.1 < 1)) with hb0 | hb0
  ·
   rw [hb0] at F
   iterate 3 refine Cd F Aa Aa Aa Aa Aa Aa Aa fun a F => ?_
   refine ls F W Aa (As F Aa Aa Aa).q fun a w F W => ?_
   refine ls F W Aa (Ah F Aa).q fun a w F W => ?_
   iterate 4 refine Cd F Aa Aa Aa Aa Aa Aa Aa fun a F => ?_
   iterate 8 refine Ll F Aa Aa Aa Aa Aa Aa fun a F => ?_
   refine Cd F Aa Aa Aa Aa Aa Aa Aa fun a F => ?_
   refine ls F W Aa (As F Aa Aa Aa).q fun a w F W => ?_
   refine Ae (Ac ?_)
   exact ⟨F.re ⟨rfl, Aa, Aa, (Dq (by try rw [hb0]; all_goals simp only [Dr])), trivial⟩, W⟩
  rw [hb0] at F
  refine Au F W (Ad F Aa Aa Aa Aa) Aa (Al Aa) (Aj BX Aa Aa Aa T3 F Aa 0 Aa).q fun a w F W => ?_
  refine Au F W (Ad F Aa Aa Aa Aa) Aa (Al Aa) (Av (v := Value.int .i64 p0.un.1) 0 F Aa Aa T3 Aa).q fun a w F W => ?_
  refine Au F W (Ad F Aa Aa Aa Aa) Aa (Al Aa) (C2 F Aa Aa).q fun a w F W => ?_
  refine ls F W Aa (Ap F Aa Aa Aa).q fun a w F W => ?_
  refine ls F W Aa (Ah F Aa).q fun a w F W => ?_
  rcases Bool.eq_false_or_eq_true (decide (5 < p0.un.1)) with hb1 | hb1
  ·
   rw [hb1] at F
   iterate 4 refine Cd F Aa Aa Aa Aa Aa Aa Aa fun a F => ?_
   iterate 8 refine Ll F Aa Aa Aa Aa Aa Aa fun a F => ?_
   refine Cd F Aa Aa Aa Aa Aa Aa Aa fun a F => ?_
   refine ls F W Aa (As F Aa Aa Aa).q fun a w F W => ?_
   refine Ae (Ac ?_)
   exact ⟨F.re ⟨rfl, Aa, Aa, (Dq (by try rw [hb0]; try rw [hb1]; all_goals simp only [Dr])), trivial⟩, W⟩
  rw [hb1] at F
  refine Au F W (Ad F Aa Aa Aa Aa) Aa (Al Aa) (Aj BX Aa Aa Aa T3 F Aa 0 Aa).q fun a w F W => ?_
  refine Au F W (Ad F Aa Aa Aa Aa) Aa (Al Aa) (Av (v := Value.int .i64 p0.un.1) 0 F Aa Aa T3 Aa).q fun a w F W => ?_
  refine Au F W (Ad F Aa Aa Aa Aa) Aa (Al Aa) (Dp F Aa Aa).q fun a w F W => ?_
  refine Au F W (Ad F Aa Aa Aa Aa) Aa (Al Aa) (Ah F Aa).q fun a w F W => ?_
  rcases Bool.eq_false_or_eq_true (decide (p0.un.1 ≠ 2)) with hb2 | hb2
  ·
   rw [hb2] at F
   refine Au F W (Ad F Aa Aa Aa Aa) Aa (Al Aa) (Aj BX Aa Aa Aa T3 F Aa 5 Aa).q fun a w F W => ?_
   refine Au F W (Ad F Aa Aa Aa Aa) Aa (Al Aa) (Av (v := Value.int .i64 p0.un.2.2.1) 0 F Aa Aa T3 Aa).q fun a w F W => ?_
   refine Au F W (Ad F Aa Aa Aa Aa) Aa (Al Aa) (Dp F Aa Aa).q fun a w F W => ?_
   refine Au F W (Ad F Aa Aa Aa Aa) Aa (Al Aa) (Ah F Aa).q fun a w F W => ?_
   rcases Bool.eq_false_or_eq_true (decide (p0.un.2.2.1 ≠ 0)) with hb3 | hb3
   ·
    rw [hb3] at F
    iterate 3 refine Cd F Aa Aa Aa Aa Aa Aa Aa fun a F => ?_
    iterate 2 refine Au F W (Ad F Aa Aa Aa Aa) Aa (Al Aa) (As F Aa Aa Aa).q fun a w F W => ?_
    refine ls F W Aa (Ap F Aa Aa Aa).q fun a w F W => ?_
    refine Ae (Ac ?_)
    exact ⟨F.re ⟨rfl, Aa, Aa, (Dq (by try rw [hb3]; try rw [hb0]; try rw [hb1]; try rw [hb2]; all_goals simp only [Dr])), trivial⟩, W⟩
   rw [hb3] at F
   refine Au F W (Ad F Aa Aa Aa Aa) Aa (Al Aa) (Aj BX Aa Aa Aa T3 F Aa 6 Aa).q fun a w F W => ?_
   refine Au F W (Ad F Aa Aa Aa Aa) Aa (Al Aa) (Av (v := Value.int .i64 p0.un.2.2.2.1) 0 F Aa Aa T3 Aa).q fun a w F W => ?_
   refine Au F W (Ad F Aa Aa Aa Aa) Aa (Al Aa) (Dp F Aa Aa).q fun a w F W => ?_
   refine Au F W (Ad F Aa Aa Aa Aa) Aa (Al Aa) (Ap F Aa Aa Aa).q fun a w F W => ?_
   refine Au F W (Ad F Aa Aa Aa Aa) Aa (Al Aa) (As F Aa Aa Aa).q fun a w F W => ?_
   refine ls F W Aa (Ap F Aa Aa Aa).q fun a w F W => ?_
   refine Ae (Ac ?_)
   exact ⟨F.re ⟨rfl, Aa, Aa, (Dq (by try rw [hb3]; try rw [hb0]; try rw [hb1]; try rw [hb2]; all_goals simp only [Dr])), trivial⟩, W⟩
  rw [hb2] at F
  iterate 4 refine Cd F Aa Aa Aa Aa Aa Aa Aa fun a F => ?_
  iterate 3 refine Ll F Aa Aa Aa Aa Aa Aa fun a F => ?_
  refine Cd F Aa Aa Aa Aa Aa Aa Aa fun a F => ?_
  refine Au F W (Ad F Aa Aa Aa Aa) Aa (Al Aa) (Ap F Aa Aa Aa).q fun a w F W => ?_
  refine ls F W Aa (Ap F Aa Aa Aa).q fun a w F W => ?_
  refine Ae (Ac ?_)
  exact ⟨F.re ⟨rfl, Aa, Aa, (Dq (by try rw [hb0]; try rw [hb1]; try rw [hb2]; all_goals simp only [Dr])), trivial⟩, W⟩
 rintro a w ⟨F, W⟩
 refine Az F Aa (fun hb => ?_) fun hb => ?_
 ·
  have H := AW hb H
  rw [hb] at F
  clear hb
  refine Ak (Ab ?_)
  refine ls F W Aa (Ag F Aa).q fun a w F W => ?_
  refine Ae (Ac (Ax (AO ?_)))
  have H := AK H
  subst H
  refine AG (.inl Aa) F W Aa (AD F Aa) ?_
  exact ⟨rfl, W.done⟩
 have H := AY (by rw [hb]; decide) H
 rw [hb] at F
 clear hb
 refine AA (Ac ?_)
 refine A1 (fun a w => Fr 130 [] [(1, .pointer (some ⟨b1, 0, none⟩)), (2, .bool false), (3, .int .i64 (p0.un.2.2.2.2.length : Int)), (4, .bool (decide (p0.un.1 = 1) || decide (p0.un.1 = 5)))] a ∧ Stw ⟨Y, [], w0⟩ (Ch b1 p0 v1 v2) [] w) ?_ ?_
 ·
  refine Ab ?_
  refine ls F W Aa (Aj BX Aa Aa Aa T3 F Aa 0 Aa).q fun a w F W => ?_
  refine ls F W Aa (Av (v := Value.int .i64 p0.un.1) 0 F Aa Aa T3 Aa).q fun a w F W => ?_
  refine ls F W Aa (Bd F Aa Aa).q fun a w F W => ?_
  refine ls F W Aa (Ah F Aa).q fun a w F W => ?_
  rcases Bool.eq_false_or_eq_true (decide (p0.un.1 = 1)) with hb0 | hb0
  ·
   rw [hb0] at F
   iterate 3 refine Cd F Aa Aa Aa Aa Aa Aa Aa fun a F => ?_
   refine ls F W Aa (As F Aa Aa Aa).q fun a w F W => ?_
   refine ls F W Aa (Ag F Aa).q fun a w F W => ?_
   refine Ae (Ac ?_)
   exact ⟨F.re ⟨rfl, Aa, Aa, (Dq (by try rw [hb0]; all_goals simp only [Dr])), trivial⟩, W⟩
  rw [hb0] at F
  refine Au F W (Ad F Aa Aa Aa Aa) Aa (Al Aa) (Aj BX Aa Aa Aa T3 F Aa 0 Aa).q fun a w F W => ?_
  refine Au F W (Ad F Aa Aa Aa Aa) Aa (Al Aa) (Av (v := Value.int .i64 p0.un.1) 0 F Aa Aa T3 Aa).q fun a w F W => ?_
  refine Au F W (Ad F Aa Aa Aa Aa) Aa (Al Aa) (Bd F Aa Aa).q fun a w F W => ?_
  refine ls F W Aa (Ap F Aa Aa Aa).q fun a w F W => ?_
  refine ls F W Aa (Ag F Aa).q fun a w F W => ?_
  refine Ae (Ac ?_)
  exact ⟨F.re ⟨rfl, Aa, Aa, (Dq (by try rw [hb0]; all_goals simp only [Dr])), trivial⟩, W⟩
 rintro a w ⟨F, W⟩
 refine Ak ?_
 obtain ⟨o1, G1, K1⟩ := Aq H
 refine A1 (fun a w => ∃ x1 : Bool, some (x1) = some o1 ∧ Fr 130 [] [(1, .pointer (some ⟨b1, 0, none⟩)), (2, .bool false), (3, .int .i64 (p0.un.2.2.2.2.length : Int)), (57, .bool x1)] a ∧ Stw ⟨Y, [], w0⟩ (Ch b1 p0 v1 v2) [] w) ?_ ?_
 ·
  have H := G1
  clear G1 K1
  refine Ab ?_
  iterate 2 refine ls F W Aa (Ah F Aa).q fun a w F W => ?_
  rcases Bool.eq_false_or_eq_true (decide (p0.un.1 = 1) || decide (p0.un.1 = 5)) with hb | hb
  ·
   have H := AW hb H
   rw [hb] at F
   clear hb
   refine Au F W (Ad F Aa Aa Aa Aa) Aa (Al Aa) (Aj BX Aa Aa Aa IA F Aa 1 Aa).q fun a w F W => ?_
   refine Au F W (Ad F Aa Aa Aa Aa) Aa (Al Aa) (Av (v := Value.agg #[.int .i64 p0.un.2.1.un.1, .int .i64 p0.un.2.1.un.2.1, .int .i64 p0.un.2.1.un.2.2.1, v1]) 0 F Aa Aa IA Aa).q fun a w F W => ?_
   refine Jc (Ad F Aa Aa Aa Aa) ?_
   obtain ⟨x2, h3, H⟩ := Aq H
   refine ls F W Aa (A0 (v := Value.bool x2) F VR Aa (fun w W => KZ any w (v1) (Tr34.of (p0.un.2.1.un.1, p0.un.2.1.un.2.1, p0.un.2.1.un.2.2.1, p0.un.2.1.un.2.2.2)) _ h3 (((AM CL h1 (Ay h_v1)) : DZ _ _ _ _ _ _) w W).nx)) fun a w F W => ?_
   refine Au F W (Ad F Aa Aa Aa Aa) Aa (Al Aa) (Hs F Aa).q fun a w F W => ?_
   refine ls F W Aa (As F Aa Aa Aa).q fun a w F W => ?_
   refine ls F W Aa (Ah F Aa).q fun a w F W => ?_
   rcases Bool.eq_false_or_eq_true (!x2) with hb | hb
   ·
    have H := AW hb H
    rw [hb] at F
    clear hb
    iterate 3 refine Cd F Aa Aa Aa Aa Aa Aa Aa fun a F => ?_
    iterate 5 refine Ll F Aa Aa Aa Aa Aa Aa fun a F => ?_
    refine Cd F Aa Aa Aa Aa Aa Aa Aa fun a F => ?_
    refine ls F W Aa (As F Aa Aa Aa).q fun a w F W => ?_
    refine Ae (Ac ?_)
    exact ⟨_, H, F.re ⟨rfl, Aa, Aa, Aa, trivial⟩, W⟩
   have H := AY (by rw [hb]; decide) H
   rw [hb] at F
   clear hb
   refine Au F W (Ad F Aa Aa Aa Aa) Aa (Al Aa) (Ah F Aa).q fun a w F W => ?_
   refine Au F W (Ad F Aa Aa Aa Aa) Aa (Al Aa) (Hs F Aa).q fun a w F W => ?_
   refine Au F W (Ad F Aa Aa Aa Aa) Aa (Al Aa) (Ah F Aa).q fun a w F W => ?_
   iterate 5 refine Cd F Aa Aa Aa Aa Aa Aa Aa fun a F => ?_
   refine Au F W (Ad F Aa Aa Aa Aa) Aa (Al Aa) (Ap F Aa Aa Aa).q fun a w F W => ?_
   refine ls F W Aa (Ap F Aa Aa Aa).q fun a w F W => ?_
   refine Ae (Ac ?_)
   exact ⟨_, H, F.re ⟨rfl, Aa, Aa, Aa, trivial⟩, W⟩
  have H := AY (by rw [hb]; decide) H
  rw [hb] at F
  clear hb
  iterate 4 refine Cd F Aa Aa Aa Aa Aa Aa Aa fun a F => ?_
  refine ls F W Aa (Ap F Aa Aa Aa).q fun a w F W => ?_
  refine ls F W Aa (Ah F Aa).q fun a w F W => ?_
  refine Au F W (Ad F Aa Aa Aa Aa) Aa (Al Aa) (Ah F Aa).q fun a w F W => ?_
  refine Au F W (Ad F Aa Aa Aa Aa) Aa (Al Aa) (Hs F Aa).q fun a w F W => ?_
  refine Au F W (Ad F Aa Aa Aa Aa) Aa (Al Aa) (Ah F Aa).q fun a w F W => ?_
  refine Au F W (Ad F Aa Aa Aa Aa) Aa (Al Aa) (Aj BX Aa Aa Aa IA F Aa 1 Aa).q fun a w F W => ?_
  refine Au F W (Ad F Aa Aa Aa Aa) Aa (Al Aa) (Av (v := Value.agg #[.int .i64 p0.un.2.1.un.1, .int .i64 p0.un.2.1.un.2.1, .int .i64 p0.un.2.1.un.2.2.1, v1]) 0 F Aa Aa IA Aa).q fun a w F W => ?_
  refine Au F W (Ad F Aa Aa Aa Aa) Aa (Al Aa) (B7 (v := Value.agg #[.int .i64 0, .int .i64 0, .int .i64 0, .slice none 0 0]) VU F Aa Aa Aa).q fun a w F W => ?_
  refine Jc (Ad F Aa Aa Aa Aa) ?_
  obtain ⟨x3, h4, H⟩ := Aq H
  refine ls F W Aa (A0 (v := Value.bool x3) F U7 Aa (fun w W => JY any w (v1) (Value.slice none 0 0) (Tr34.of (p0.un.2.1.un.1, p0.un.2.1.un.2.1, p0.un.2.1.un.2.2.1, p0.un.2.1.un.2.2.2)) (Tr34.of (0, 0, 0, ([] : List Tr34))) _ h4 (((AM CL h1 (Ay h_v1)) : DZ _ _ _ _ _ _) w W).nx Sl.nil)) fun a w F W => ?_
  refine Au F W (Ad F Aa Aa Aa Aa) Aa (Al Aa) (Hs F Aa).q fun a w F W => ?_
  refine Au F W (Ad F Aa Aa Aa Aa) Aa (Al Aa) (As F Aa Aa Aa).q fun a w F W => ?_
  refine ls F W Aa (Ap F Aa Aa Aa).q fun a w F W => ?_
  refine Ae (Ac ?_)
  exact ⟨_, H, F.re ⟨rfl, Aa, Aa, Aa, trivial⟩, W⟩
 rintro a w ⟨x1, hj, F, W⟩
 have hj := AK hj
 subst hj
 have H := K1
 clear G1 K1
 refine Az F Aa (fun hb => ?_) fun hb => ?_
 ·
  have H := AW hb H
  rw [hb] at F
  clear hb
  refine Ak (Ab ?_)
  refine ls F W Aa (Ag F Aa).q fun a w F W => ?_
  refine Ae (Ac (Ax (AO ?_)))
  have H := AK H
  subst H
  refine AG (.inl Aa) F W Aa (AD F Aa) ?_
  exact ⟨rfl, W.done⟩
 have H := AY (by rw [hb]; decide) H
 rw [hb] at F
 clear hb
 refine AA (Ac (Ak ?_))
 refine A1 (fun a w => Fr 130 [] [(1, .pointer (some ⟨b1, 0, none⟩)), (2, .bool false), (3, .int .i64 (p0.un.2.2.2.2.length : Int)), (83, .bool (decide (p0.un.1 = 2) && (decide (p0.un.2.2.1 < 0) || (decide (4 < p0.un.2.2.1) || (decide (p0.un.2.2.2.1 < 0) || decide ((EF p0.un.2.2.1) < p0.un.2.2.2.1))))))] a ∧ Stw ⟨Y, [], w0⟩ (Ch b1 p0 v1 v2) [] w) ?_ ?_
 ·
  refine EQ W MO (by kernel_rfl) ?_
  refine qs F Aa (Aj BX Aa Aa Aa T3 F Aa 0 Aa).q fun a F => ?_
  refine qs F Aa (Av (v := Value.int .i64 p0.un.1) 0 F Aa Aa T3 Aa).q fun a F => ?_
  refine qs F Aa (Bd F Aa Aa).q fun a F => ?_
  refine qs F Aa (Ah F Aa).q fun a F => ?_
  rcases Bool.eq_false_or_eq_true (decide (p0.un.1 = 2)) with hb0 | hb0
  ·
   rw [hb0] at F
   refine CH F (Ad F Aa Aa Aa Aa) Aa (Al Aa) (Aj BX Aa Aa Aa T3 F Aa 5 Aa).q fun a F => ?_
   refine CH F (Ad F Aa Aa Aa Aa) Aa (Al Aa) (Av (v := Value.int .i64 p0.un.2.2.1) 0 F Aa Aa T3 Aa).q fun a F => ?_
   refine CH F (Ad F Aa Aa Aa Aa) Aa (Al Aa) (Co F Aa Aa).q fun a F => ?_
   refine CH F (Ad F Aa Aa Aa Aa) Aa (Al Aa) (Ah F Aa).q fun a F => ?_
   rcases Bool.eq_false_or_eq_true (decide (p0.un.2.2.1 < 0)) with hb1 | hb1
   ·
    rw [hb1] at F
    iterate 3 refine CB F (BK F Aa Aa Aa Aa Aa) Aa Aa fun a F => ?_
    refine CH F (Ad F Aa Aa Aa Aa) Aa (Al Aa) (As F Aa Aa Aa).q fun a F => ?_
    refine CH F (Ad F Aa Aa Aa Aa) Aa (Al Aa) (Ah F Aa).q fun a F => ?_
    iterate 3 refine CB F (BK F Aa Aa Aa Aa Aa) Aa Aa fun a F => ?_
    refine CH F (Ad F Aa Aa Aa Aa) Aa (Al Aa) (As F Aa Aa Aa).q fun a F => ?_
    refine CH F (Ad F Aa Aa Aa Aa) Aa (Al Aa) (Ah F Aa).q fun a F => ?_
    iterate 6 refine CB F (BK F Aa Aa Aa Aa Aa) Aa Aa fun a F => ?_
    refine CH F (Ad F Aa Aa Aa Aa) Aa (Al Aa) (As F Aa Aa Aa).q fun a F => ?_
    refine qs F Aa (As F Aa Aa Aa).q fun a F => ?_
    refine Cr fun w W => ?_
    refine Ac ?_
    exact ⟨F.re ⟨rfl, Aa, Aa, (Dq (by try rw [hb1]; try rw [hb0]; all_goals simp only [Dr])), trivial⟩, W⟩
   rw [hb1] at F
   refine CH F (Ad F Aa Aa Aa Aa) Aa (Al Aa) (Aj BX Aa Aa Aa T3 F Aa 5 Aa).q fun a F => ?_
   refine CH F (Ad F Aa Aa Aa Aa) Aa (Al Aa) (Av (v := Value.int .i64 p0.un.2.2.1) 0 F Aa Aa T3 Aa).q fun a F => ?_
   refine CH F (Ad F Aa Aa Aa Aa) Aa (Al Aa) (C2 F Aa Aa).q fun a F => ?_
   refine CH F (Ad F Aa Aa Aa Aa) Aa (Al Aa) (Ap F Aa Aa Aa).q fun a F => ?_
   refine CH F (Ad F Aa Aa Aa Aa) Aa (Al Aa) (Ah F Aa).q fun a F => ?_
   rcases Bool.eq_false_or_eq_true (decide (4 < p0.un.2.2.1)) with hb2 | hb2
   ·
    rw [hb2] at F
    iterate 3 refine CB F (BK F Aa Aa Aa Aa Aa) Aa Aa fun a F => ?_
    refine CH F (Ad F Aa Aa Aa Aa) Aa (Al Aa) (As F Aa Aa Aa).q fun a F => ?_
    refine CH F (Ad F Aa Aa Aa Aa) Aa (Al Aa) (Ah F Aa).q fun a F => ?_
    iterate 6 refine CB F (BK F Aa Aa Aa Aa Aa) Aa Aa fun a F => ?_
    refine CH F (Ad F Aa Aa Aa Aa) Aa (Al Aa) (As F Aa Aa Aa).q fun a F => ?_
    refine qs F Aa (As F Aa Aa Aa).q fun a F => ?_
    refine Cr fun w W => ?_
    refine Ac ?_
    exact ⟨F.re ⟨rfl, Aa, Aa, (Dq (by try rw [hb1]; try rw [hb2]; try rw [hb0]; all_goals simp only [Dr])), trivial⟩, W⟩
   rw [hb2] at F
   refine CH F (Ad F Aa Aa Aa Aa) Aa (Al Aa) (Aj BX Aa Aa Aa T3 F Aa 6 Aa).q fun a F => ?_
   refine CH F (Ad F Aa Aa Aa Aa) Aa (Al Aa) (Av (v := Value.int .i64 p0.un.2.2.2.1) 0 F Aa Aa T3 Aa).q fun a F => ?_
   refine CH F (Ad F Aa Aa Aa Aa) Aa (Al Aa) (Co F Aa Aa).q fun a F => ?_
   refine CH F (Ad F Aa Aa Aa Aa) Aa (Al Aa) (Ap F Aa Aa Aa).q fun a F => ?_
   refine CH F (Ad F Aa Aa Aa Aa) Aa (Al Aa) (Ah F Aa).q fun a F => ?_
   rcases Bool.eq_false_or_eq_true (decide (p0.un.2.2.2.1 < 0)) with hb3 | hb3
   ·
    rw [hb3] at F
    iterate 6 refine CB F (BK F Aa Aa Aa Aa Aa) Aa Aa fun a F => ?_
    refine CH F (Ad F Aa Aa Aa Aa) Aa (Al Aa) (As F Aa Aa Aa).q fun a F => ?_
    refine qs F Aa (As F Aa Aa Aa).q fun a F => ?_
    refine Cr fun w W => ?_
    refine Ac ?_
    exact ⟨F.re ⟨rfl, Aa, Aa, (Dq (by try rw [hb3]; try rw [hb1]; try rw [hb2]; try rw [hb0]; all_goals simp only [Dr])), trivial⟩, W⟩
   rw [hb3] at F
   refine CH F (Ad F Aa Aa Aa Aa) Aa (Al Aa) (Aj BX Aa Aa Aa T3 F Aa 6 Aa).q fun a F => ?_
   refine CH F (Ad F Aa Aa Aa Aa) Aa (Al Aa) (Av (v := Value.int .i64 p0.un.2.2.2.1) 0 F Aa Aa T3 Aa).q fun a F => ?_
   refine CH F (Ad F Aa Aa Aa Aa) Aa (Al Aa) (Aj BX Aa Aa Aa T3 F Aa 5 Aa).q fun a F => ?_
   refine CH F (Ad F Aa Aa Aa Aa) Aa (Al Aa) (Av (v := Value.int .i64 p0.un.2.2.1) 0 F Aa Aa T3 Aa).q fun a F => ?_
   refine CH F (Ad F Aa Aa Aa Aa) Aa (Al Aa) (A0 (v := Value.int .i64 (EF p0.un.2.2.1)) F VP Aa (fun w W => Nr any w p0.un.2.2.1 _ Aa)) fun a F => ?_
   refine CH F (Ad F Aa Aa Aa Aa) Aa (Al Aa) (C2 F Aa Aa).q fun a F => ?_
   refine CH F (Ad F Aa Aa Aa Aa) Aa (Al Aa) (Ap F Aa Aa Aa).q fun a F => ?_
   refine qs F Aa (As F Aa Aa Aa).q fun a F => ?_
   refine Cr fun w W => ?_
   refine Ac ?_
   exact ⟨F.re ⟨rfl, Aa, Aa, (Dq (by try rw [hb3]; try rw [hb1]; try rw [hb2]; try rw [hb0]; all_goals simp only [Dr])), trivial⟩, W⟩
  rw [hb0] at F
  iterate 4 refine CB F (BK F Aa Aa Aa Aa Aa) Aa Aa fun a F => ?_
  iterate 3 refine CB F (EC F Aa Aa Aa Aa) Aa Aa fun a F => ?_
  iterate 2 refine CB F (BK F Aa Aa Aa Aa Aa) Aa Aa fun a F => ?_
  iterate 3 refine CB F (EC F Aa Aa Aa Aa) Aa Aa fun a F => ?_
  iterate 2 refine CB F (BK F Aa Aa Aa Aa Aa) Aa Aa fun a F => ?_
  iterate 6 refine CB F (EC F Aa Aa Aa Aa) Aa Aa fun a F => ?_
  refine CB F (BK F Aa Aa Aa Aa Aa) Aa Aa fun a F => ?_
  refine qs F Aa (Ap F Aa Aa Aa).q fun a F => ?_
  refine Cr fun w W => ?_
  refine Ac ?_
  exact ⟨F.re ⟨rfl, Aa, Aa, (Dq (by try rw [hb0]; all_goals simp only [Dr])), trivial⟩, W⟩
 rintro a w ⟨F, W⟩
 refine Az F Aa (fun hb => ?_) fun hb => ?_
 ·
  have H := AW hb H
  rw [hb] at F
  clear hb
  refine Ak (Ab ?_)
  refine ls F W Aa (Ag F Aa).q fun a w F W => ?_
  refine Ae (Ac (Ax (AO ?_)))
  have H := AK H
  subst H
  refine AG (.inl Aa) F W Aa (AD F Aa) ?_
  exact ⟨rfl, W.done⟩
 have H := AY (by rw [hb]; decide) H
 rw [hb] at F
 clear hb
 refine AA (Ac (Ak ?_))
 refine A1 (fun a w => Fr 130 [] [(1, .pointer (some ⟨b1, 0, none⟩)), (2, .bool false), (3, .int .i64 (p0.un.2.2.2.2.length : Int)), (117, .bool (bif decide (p0.un.1 ≤ 2) then (decide ((p0.un.2.2.2.2.length : Int) ≠ 0) || (bif decide (p0.un.1 = 5) then (decide ((p0.un.2.2.2.2.length : Int) ≠ 2) || (bif decide (p0.un.1 = 3) then (decide ((p0.un.2.2.2.2.length : Int) < 2) || decide (8 < (p0.un.2.2.2.2.length : Int))) else (decide (p0.un.1 = 4) && (decide ((p0.un.2.2.2.2.length : Int) < 2) || decide (8 < (p0.un.2.2.2.2.length : Int)))))) else (bif decide (p0.un.1 = 3) then (decide ((p0.un.2.2.2.2.length : Int) < 2) || decide (8 < (p0.un.2.2.2.2.length : Int))) else (decide (p0.un.1 = 4) && (decide ((p0.un.2.2.2.2.length : Int) < 2) || decide (8 < (p0.un.2.2.2.2.length : Int))))))) else (bif decide (p0.un.1 = 5) then (decide ((p0.un.2.2.2.2.length : Int) ≠ 2) || (bif decide (p0.un.1 = 3) then (decide ((p0.un.2.2.2.2.length : Int) < 2) || decide (8 < (p0.un.2.2.2.2.length : Int))) else (decide (p0.un.1 = 4) && (decide ((p0.un.2.2.2.2.length : Int) < 2) || decide (8 < (p0.un.2.2.2.2.length : Int)))))) else (bif decide (p0.un.1 = 3) then (decide ((p0.un.2.2.2.2.length : Int) < 2) || decide (8 < (p0.un.2.2.2.2.length : Int))) else (decide (p0.un.1 = 4) && (decide ((p0.un.2.2.2.2.length : Int) < 2) || decide (8 < (p0.un.2.2.2.2.length : Int))))))))] a ∧ Stw ⟨Y, [], w0⟩ (Ch b1 p0 v1 v2) [] w) ?_ ?_
 ·
  refine Ab ?_
  refine ls F W Aa (Aj BX Aa Aa Aa T3 F Aa 0 Aa).q fun a w F W => ?_
  refine ls F W Aa (Av (v := Value.int .i64 p0.un.1) 0 F Aa Aa T3 Aa).q fun a w F W => ?_
  refine ls F W Aa (HX F Aa Aa).q fun a w F W => ?_
  refine ls F W Aa (Ah F Aa).q fun a w F W => ?_
  rcases Bool.eq_false_or_eq_true (decide (p0.un.1 ≤ 2)) with hb0 | hb0
  ·
   rw [hb0] at F
   refine Au F W (Ad F Aa Aa Aa Aa) Aa (Al Aa) (Ah F Aa).q fun a w F W => ?_
   refine Au F W (Ad F Aa Aa Aa Aa) Aa (Al Aa) (Dp F Aa Aa).q fun a w F W => ?_
   refine ls F W Aa (As F Aa Aa Aa).q fun a w F W => ?_
   refine ls F W Aa (Ah F Aa).q fun a w F W => ?_
   rcases Bool.eq_false_or_eq_true (decide ((p0.un.2.2.2.2.length : Int) ≠ 0)) with hb1 | hb1
   ·
    rw [hb1] at F
    iterate 4 refine Cd F Aa Aa Aa Aa Aa Aa Aa fun a F => ?_
    iterate 2 refine Ll F Aa Aa Aa Aa Aa Aa fun a F => ?_
    refine Cd F Aa Aa Aa Aa Aa Aa Aa fun a F => ?_
    refine ls F W Aa (As F Aa Aa Aa).q fun a w F W => ?_
    refine ls F W Aa (Ah F Aa).q fun a w F W => ?_
    iterate 4 refine Cd F Aa Aa Aa Aa Aa Aa Aa fun a F => ?_
    iterate 3 refine Ll F Aa Aa Aa Aa Aa Aa fun a F => ?_
    iterate 2 refine Cd F Aa Aa Aa Aa Aa Aa Aa fun a F => ?_
    iterate 6 refine Ll F Aa Aa Aa Aa Aa Aa fun a F => ?_
    refine Cd F Aa Aa Aa Aa Aa Aa Aa fun a F => ?_
    refine ls F W Aa (As F Aa Aa Aa).q fun a w F W => ?_
    refine Ae (Ac ?_)
    exact ⟨F.re ⟨rfl, Aa, Aa, (Dq (by try rw [hb1]; try rw [hb0]; all_goals simp only [Dr])), trivial⟩, W⟩
   rw [hb1] at F
   refine Au F W (Ad F Aa Aa Aa Aa) Aa (Al Aa) (Aj BX Aa Aa Aa T3 F Aa 0 Aa).q fun a w F W => ?_
   refine Au F W (Ad F Aa Aa Aa Aa) Aa (Al Aa) (Av (v := Value.int .i64 p0.un.1) 0 F Aa Aa T3 Aa).q fun a w F W => ?_
   refine Au F W (Ad F Aa Aa Aa Aa) Aa (Al Aa) (Bd F Aa Aa).q fun a w F W => ?_
   refine Au F W (Ad F Aa Aa Aa Aa) Aa (Al Aa) (Ah F Aa).q fun a w F W => ?_
   rcases Bool.eq_false_or_eq_true (decide (p0.un.1 = 5)) with hb2 | hb2
   ·
    rw [hb2] at F
    refine Au F W (Ad F Aa Aa Aa Aa) Aa (Al Aa) (Ah F Aa).q fun a w F W => ?_
    refine Au F W (Ad F Aa Aa Aa Aa) Aa (Al Aa) (Dp F Aa Aa).q fun a w F W => ?_
    refine Au F W (Ad F Aa Aa Aa Aa) Aa (Al Aa) (As F Aa Aa Aa).q fun a w F W => ?_
    refine ls F W Aa (Ap F Aa Aa Aa).q fun a w F W => ?_
    refine ls F W Aa (Ah F Aa).q fun a w F W => ?_
    rcases Bool.eq_false_or_eq_true (decide ((p0.un.2.2.2.2.length : Int) ≠ 2)) with hb3 | hb3
    ·
     rw [hb3] at F
     iterate 4 refine Cd F Aa Aa Aa Aa Aa Aa Aa fun a F => ?_
     iterate 3 refine Ll F Aa Aa Aa Aa Aa Aa fun a F => ?_
     iterate 2 refine Cd F Aa Aa Aa Aa Aa Aa Aa fun a F => ?_
     iterate 6 refine Ll F Aa Aa Aa Aa Aa Aa fun a F => ?_
     refine Cd F Aa Aa Aa Aa Aa Aa Aa fun a F => ?_
     refine ls F W Aa (As F Aa Aa Aa).q fun a w F W => ?_
     refine Ae (Ac ?_)
     exact ⟨F.re ⟨rfl, Aa, Aa, (Dq (by try rw [hb1]; try rw [hb3]; try rw [hb0]; try rw [hb2]; all_goals simp only [Dr])), trivial⟩, W⟩
    rw [hb3] at F
    refine Au F W (Ad F Aa Aa Aa Aa) Aa (Al Aa) (Aj BX Aa Aa Aa T3 F Aa 0 Aa).q fun a w F W => ?_
    refine Au F W (Ad F Aa Aa Aa Aa) Aa (Al Aa) (Av (v := Value.int .i64 p0.un.1) 0 F Aa Aa T3 Aa).q fun a w F W => ?_
    refine Au F W (Ad F Aa Aa Aa Aa) Aa (Al Aa) (Bd F Aa Aa).q fun a w F W => ?_
    refine Au F W (Ad F Aa Aa Aa Aa) Aa (Al Aa) (Ah F Aa).q fun a w F W => ?_
    rcases Bool.eq_false_or_eq_true (decide (p0.un.1 = 3)) with hb4 | hb4
    ·
     rw [hb4] at F
     iterate 3 refine Cd F Aa Aa Aa Aa Aa Aa Aa fun a F => ?_
     refine Au F W (Ad F Aa Aa Aa Aa) Aa (Al Aa) (As F Aa Aa Aa).q fun a w F W => ?_
     iterate 2 refine Au F W (Ad F Aa Aa Aa Aa) Aa (Al Aa) (Ah F Aa).q fun a w F W => ?_
     refine Au F W (Ad F Aa Aa Aa Aa) Aa (Al Aa) (Co F Aa Aa).q fun a w F W => ?_
     refine Au F W (Ad F Aa Aa Aa Aa) Aa (Al Aa) (Ah F Aa).q fun a w F W => ?_
     rcases Bool.eq_false_or_eq_true (decide ((p0.un.2.2.2.2.length : Int) < 2)) with hb5 | hb5
     ·
      rw [hb5] at F
      iterate 2 refine Cd F Aa Aa Aa Aa Aa Aa Aa fun a F => ?_
      iterate 2 refine Au F W (Ad F Aa Aa Aa Aa) Aa (Al Aa) (As F Aa Aa Aa).q fun a w F W => ?_
      refine ls F W Aa (Ap F Aa Aa Aa).q fun a w F W => ?_
      refine Ae (Ac ?_)
      exact ⟨F.re ⟨rfl, Aa, Aa, (Dq (by try rw [hb1]; try rw [hb3]; try rw [hb5]; try rw [hb0]; try rw [hb2]; try rw [hb4]; all_goals simp only [Dr])), trivial⟩, W⟩
     rw [hb5] at F
     refine Au F W (Ad F Aa Aa Aa Aa) Aa (Al Aa) (Ah F Aa).q fun a w F W => ?_
     refine Au F W (Ad F Aa Aa Aa Aa) Aa (Al Aa) (C2 F Aa Aa).q fun a w F W => ?_
     refine Au F W (Ad F Aa Aa Aa Aa) Aa (Al Aa) (Ap F Aa Aa Aa).q fun a w F W => ?_
     refine Au F W (Ad F Aa Aa Aa Aa) Aa (Al Aa) (As F Aa Aa Aa).q fun a w F W => ?_
     refine ls F W Aa (Ap F Aa Aa Aa).q fun a w F W => ?_
     refine Ae (Ac ?_)
     exact ⟨F.re ⟨rfl, Aa, Aa, (Dq (by try rw [hb1]; try rw [hb3]; try rw [hb5]; try rw [hb0]; try rw [hb2]; try rw [hb4]; all_goals simp only [Dr])), trivial⟩, W⟩
    rw [hb4] at F
    refine Au F W (Ad F Aa Aa Aa Aa) Aa (Al Aa) (Aj BX Aa Aa Aa T3 F Aa 0 Aa).q fun a w F W => ?_
    refine Au F W (Ad F Aa Aa Aa Aa) Aa (Al Aa) (Av (v := Value.int .i64 p0.un.1) 0 F Aa Aa T3 Aa).q fun a w F W => ?_
    refine Au F W (Ad F Aa Aa Aa Aa) Aa (Al Aa) (Bd F Aa Aa).q fun a w F W => ?_
    refine Au F W (Ad F Aa Aa Aa Aa) Aa (Al Aa) (Ap F Aa Aa Aa).q fun a w F W => ?_
    refine Au F W (Ad F Aa Aa Aa Aa) Aa (Al Aa) (Ah F Aa).q fun a w F W => ?_
    rcases Bool.eq_false_or_eq_true (decide (p0.un.1 = 4)) with hb5 | hb5
    ·
     rw [hb5] at F
     refine Au F W (Ad F Aa Aa Aa Aa) Aa (Al Aa) (Ah F Aa).q fun a w F W => ?_
     refine Au F W (Ad F Aa Aa Aa Aa) Aa (Al Aa) (Co F Aa Aa).q fun a w F W => ?_
     refine Au F W (Ad F Aa Aa Aa Aa) Aa (Al Aa) (Ah F Aa).q fun a w F W => ?_
     rcases Bool.eq_false_or_eq_true (decide ((p0.un.2.2.2.2.length : Int) < 2)) with hb6 | hb6
     ·
      rw [hb6] at F
      iterate 2 refine Cd F Aa Aa Aa Aa Aa Aa Aa fun a F => ?_
      iterate 2 refine Au F W (Ad F Aa Aa Aa Aa) Aa (Al Aa) (As F Aa Aa Aa).q fun a w F W => ?_
      refine ls F W Aa (Ap F Aa Aa Aa).q fun a w F W => ?_
      refine Ae (Ac ?_)
      exact ⟨F.re ⟨rfl, Aa, Aa, (Dq (by try rw [hb1]; try rw [hb3]; try rw [hb6]; try rw [hb0]; try rw [hb2]; try rw [hb4]; try rw [hb5]; all_goals simp only [Dr])), trivial⟩, W⟩
     rw [hb6] at F
     refine Au F W (Ad F Aa Aa Aa Aa) Aa (Al Aa) (Ah F Aa).q fun a w F W => ?_
     refine Au F W (Ad F Aa Aa Aa Aa) Aa (Al Aa) (C2 F Aa Aa).q fun a w F W => ?_
     refine Au F W (Ad F Aa Aa Aa Aa) Aa (Al Aa) (Ap F Aa Aa Aa).q fun a w F W => ?_
     refine Au F W (Ad F Aa Aa Aa Aa) Aa (Al Aa) (As F Aa Aa Aa).q fun a w F W => ?_
     refine ls F W Aa (Ap F Aa Aa Aa).q fun a w F W => ?_
     refine Ae (Ac ?_)
     exact ⟨F.re ⟨rfl, Aa, Aa, (Dq (by try rw [hb1]; try rw [hb3]; try rw [hb6]; try rw [hb0]; try rw [hb2]; try rw [hb4]; try rw [hb5]; all_goals simp only [Dr])), trivial⟩, W⟩
    rw [hb5] at F
    iterate 3 refine Cd F Aa Aa Aa Aa Aa Aa Aa fun a F => ?_
    iterate 2 refine Ll F Aa Aa Aa Aa Aa Aa fun a F => ?_
    refine Cd F Aa Aa Aa Aa Aa Aa Aa fun a F => ?_
    refine Au F W (Ad F Aa Aa Aa Aa) Aa (Al Aa) (Ap F Aa Aa Aa).q fun a w F W => ?_
    refine ls F W Aa (Ap F Aa Aa Aa).q fun a w F W => ?_
    refine Ae (Ac ?_)
    exact ⟨F.re ⟨rfl, Aa, Aa, (Dq (by try rw [hb1]; try rw [hb3]; try rw [hb0]; try rw [hb2]; try rw [hb4]; try rw [hb5]; all_goals simp only [Dr])), trivial⟩, W⟩
   rw [hb2] at F
   iterate 2 refine Cd F Aa Aa Aa Aa Aa Aa Aa fun a F => ?_
   refine Au F W (Ad F Aa Aa Aa Aa) Aa (Al Aa) (Ap F Aa Aa Aa).q fun a w F W => ?_
   refine ls F W Aa (Ap F Aa Aa Aa).q fun a w F W => ?_
   refine ls F W Aa (Ah F Aa).q fun a w F W => ?_
   refine Au F W (Ad F Aa Aa Aa Aa) Aa (Al Aa) (Aj BX Aa Aa Aa T3 F Aa 0 Aa).q fun a w F W => ?_
   refine Au F W (Ad F Aa Aa Aa Aa) Aa (Al Aa) (Av (v := Value.int .i64 p0.un.1) 0 F Aa Aa T3 Aa).q fun a w F W => ?_
   refine Au F W (Ad F Aa Aa Aa Aa) Aa (Al Aa) (Bd F Aa Aa).q fun a w F W => ?_
   refine Au F W (Ad F Aa Aa Aa Aa) Aa (Al Aa) (Ah F Aa).q fun a w F W => ?_
   rcases Bool.eq_false_or_eq_true (decide (p0.un.1 = 3)) with hb3 | hb3
   ·
    rw [hb3] at F
    iterate 3 refine Cd F Aa Aa Aa Aa Aa Aa Aa fun a F => ?_
    refine Au F W (Ad F Aa Aa Aa Aa) Aa (Al Aa) (As F Aa Aa Aa).q fun a w F W => ?_
    iterate 2 refine Au F W (Ad F Aa Aa Aa Aa) Aa (Al Aa) (Ah F Aa).q fun a w F W => ?_
    refine Au F W (Ad F Aa Aa Aa Aa) Aa (Al Aa) (Co F Aa Aa).q fun a w F W => ?_
    refine Au F W (Ad F Aa Aa Aa Aa) Aa (Al Aa) (Ah F Aa).q fun a w F W => ?_
    rcases Bool.eq_false_or_eq_true (decide ((p0.un.2.2.2.2.length : Int) < 2)) with hb4 | hb4
    ·
     rw [hb4] at F
     iterate 2 refine Cd F Aa Aa Aa Aa Aa Aa Aa fun a F => ?_
     iterate 2 refine Au F W (Ad F Aa Aa Aa Aa) Aa (Al Aa) (As F Aa Aa Aa).q fun a w F W => ?_
     refine ls F W Aa (Ap F Aa Aa Aa).q fun a w F W => ?_
     refine Ae (Ac ?_)
     exact ⟨F.re ⟨rfl, Aa, Aa, (Dq (by try rw [hb1]; try rw [hb4]; try rw [hb0]; try rw [hb2]; try rw [hb3]; all_goals simp only [Dr])), trivial⟩, W⟩
    rw [hb4] at F
    refine Au F W (Ad F Aa Aa Aa Aa) Aa (Al Aa) (Ah F Aa).q fun a w F W => ?_
    refine Au F W (Ad F Aa Aa Aa Aa) Aa (Al Aa) (C2 F Aa Aa).q fun a w F W => ?_
    refine Au F W (Ad F Aa Aa Aa Aa) Aa (Al Aa) (Ap F Aa Aa Aa).q fun a w F W => ?_
    refine Au F W (Ad F Aa Aa Aa Aa) Aa (Al Aa) (As F Aa Aa Aa).q fun a w F W => ?_
    refine ls F W Aa (Ap F Aa Aa Aa).q fun a w F W => ?_
    refine Ae (Ac ?_)
    exact ⟨F.re ⟨rfl, Aa, Aa, (Dq (by try rw [hb1]; try rw [hb4]; try rw [hb0]; try rw [hb2]; try rw [hb3]; all_goals simp only [Dr])), trivial⟩, W⟩
   rw [hb3] at F
   refine Au F W (Ad F Aa Aa Aa Aa) Aa (Al Aa) (Aj BX Aa Aa Aa T3 F Aa 0 Aa).q fun a w F W => ?_
   refine Au F W (Ad F Aa Aa Aa Aa) Aa (Al Aa) (Av (v := Value.int .i64 p0.un.1) 0 F Aa Aa T3 Aa).q fun a w F W => ?_
   refine Au F W (Ad F Aa Aa Aa Aa) Aa (Al Aa) (Bd F Aa Aa).q fun a w F W => ?_
   refine Au F W (Ad F Aa Aa Aa Aa) Aa (Al Aa) (Ap F Aa Aa Aa).q fun a w F W => ?_
   refine Au F W (Ad F Aa Aa Aa Aa) Aa (Al Aa) (Ah F Aa).q fun a w F W => ?_
   rcases Bool.eq_false_or_eq_true (decide (p0.un.1 = 4)) with hb4 | hb4
   ·
    rw [hb4] at F
    refine Au F W (Ad F Aa Aa Aa Aa) Aa (Al Aa) (Ah F Aa).q fun a w F W => ?_
    refine Au F W (Ad F Aa Aa Aa Aa) Aa (Al Aa) (Co F Aa Aa).q fun a w F W => ?_
    refine Au F W (Ad F Aa Aa Aa Aa) Aa (Al Aa) (Ah F Aa).q fun a w F W => ?_
    rcases Bool.eq_false_or_eq_true (decide ((p0.un.2.2.2.2.length : Int) < 2)) with hb5 | hb5
    ·
     rw [hb5] at F
     iterate 2 refine Cd F Aa Aa Aa Aa Aa Aa Aa fun a F => ?_
     iterate 2 refine Au F W (Ad F Aa Aa Aa Aa) Aa (Al Aa) (As F Aa Aa Aa).q fun a w F W => ?_
     refine ls F W Aa (Ap F Aa Aa Aa).q fun a w F W => ?_
     refine Ae (Ac ?_)
     exact ⟨F.re ⟨rfl, Aa, Aa, (Dq (by try rw [hb1]; try rw [hb5]; try rw [hb0]; try rw [hb2]; try rw [hb3]; try rw [hb4]; all_goals simp only [Dr])), trivial⟩, W⟩
    rw [hb5] at F
    refine Au F W (Ad F Aa Aa Aa Aa) Aa (Al Aa) (Ah F Aa).q fun a w F W => ?_
    refine Au F W (Ad F Aa Aa Aa Aa) Aa (Al Aa) (C2 F Aa Aa).q fun a w F W => ?_
    refine Au F W (Ad F Aa Aa Aa Aa) Aa (Al Aa) (Ap F Aa Aa Aa).q fun a w F W => ?_
    refine Au F W (Ad F Aa Aa Aa Aa) Aa (Al Aa) (As F Aa Aa Aa).q fun a w F W => ?_
    refine ls F W Aa (Ap F Aa Aa Aa).q fun a w F W => ?_
    refine Ae (Ac ?_)
    exact ⟨F.re ⟨rfl, Aa, Aa, (Dq (by try rw [hb1]; try rw [hb5]; try rw [hb0]; try rw [hb2]; try rw [hb3]; try rw [hb4]; all_goals simp only [Dr])), trivial⟩, W⟩
   rw [hb4] at F
   iterate 3 refine Cd F Aa Aa Aa Aa Aa Aa Aa fun a F => ?_
   iterate 2 refine Ll F Aa Aa Aa Aa Aa Aa fun a F => ?_
   refine Cd F Aa Aa Aa Aa Aa Aa Aa fun a F => ?_
   refine Au F W (Ad F Aa Aa Aa Aa) Aa (Al Aa) (Ap F Aa Aa Aa).q fun a w F W => ?_
   refine ls F W Aa (Ap F Aa Aa Aa).q fun a w F W => ?_
   refine Ae (Ac ?_)
   exact ⟨F.re ⟨rfl, Aa, Aa, (Dq (by try rw [hb1]; try rw [hb0]; try rw [hb2]; try rw [hb3]; try rw [hb4]; all_goals simp only [Dr])), trivial⟩, W⟩
  rw [hb0] at F
  iterate 2 refine Cd F Aa Aa Aa Aa Aa Aa Aa fun a F => ?_
  refine ls F W Aa (Ap F Aa Aa Aa).q fun a w F W => ?_
  refine ls F W Aa (Ah F Aa).q fun a w F W => ?_
  refine Au F W (Ad F Aa Aa Aa Aa) Aa (Al Aa) (Aj BX Aa Aa Aa T3 F Aa 0 Aa).q fun a w F W => ?_
  refine Au F W (Ad F Aa Aa Aa Aa) Aa (Al Aa) (Av (v := Value.int .i64 p0.un.1) 0 F Aa Aa T3 Aa).q fun a w F W => ?_
  refine Au F W (Ad F Aa Aa Aa Aa) Aa (Al Aa) (Bd F Aa Aa).q fun a w F W => ?_
  refine Au F W (Ad F Aa Aa Aa Aa) Aa (Al Aa) (Ah F Aa).q fun a w F W => ?_
  rcases Bool.eq_false_or_eq_true (decide (p0.un.1 = 5)) with hb1 | hb1
  ·
   rw [hb1] at F
   refine Au F W (Ad F Aa Aa Aa Aa) Aa (Al Aa) (Ah F Aa).q fun a w F W => ?_
   refine Au F W (Ad F Aa Aa Aa Aa) Aa (Al Aa) (Dp F Aa Aa).q fun a w F W => ?_
   refine Au F W (Ad F Aa Aa Aa Aa) Aa (Al Aa) (As F Aa Aa Aa).q fun a w F W => ?_
   refine ls F W Aa (Ap F Aa Aa Aa).q fun a w F W => ?_
   refine ls F W Aa (Ah F Aa).q fun a w F W => ?_
   rcases Bool.eq_false_or_eq_true (decide ((p0.un.2.2.2.2.length : Int) ≠ 2)) with hb2 | hb2
   ·
    rw [hb2] at F
    iterate 4 refine Cd F Aa Aa Aa Aa Aa Aa Aa fun a F => ?_
    iterate 3 refine Ll F Aa Aa Aa Aa Aa Aa fun a F => ?_
    iterate 2 refine Cd F Aa Aa Aa Aa Aa Aa Aa fun a F => ?_
    iterate 6 refine Ll F Aa Aa Aa Aa Aa Aa fun a F => ?_
    refine Cd F Aa Aa Aa Aa Aa Aa Aa fun a F => ?_
    refine ls F W Aa (As F Aa Aa Aa).q fun a w F W => ?_
    refine Ae (Ac ?_)
    exact ⟨F.re ⟨rfl, Aa, Aa, (Dq (by try rw [hb2]; try rw [hb0]; try rw [hb1]; all_goals simp only [Dr])), trivial⟩, W⟩
   rw [hb2] at F
   refine Au F W (Ad F Aa Aa Aa Aa) Aa (Al Aa) (Aj BX Aa Aa Aa T3 F Aa 0 Aa).q fun a w F W => ?_
   refine Au F W (Ad F Aa Aa Aa Aa) Aa (Al Aa) (Av (v := Value.int .i64 p0.un.1) 0 F Aa Aa T3 Aa).q fun a w F W => ?_
   refine Au F W (Ad F Aa Aa Aa Aa) Aa (Al Aa) (Bd F Aa Aa).q fun a w F W => ?_
   refine Au F W (Ad F Aa Aa Aa Aa) Aa (Al Aa) (Ah F Aa).q fun a w F W => ?_
   rcases Bool.eq_false_or_eq_true (decide (p0.un.1 = 3)) with hb3 | hb3
   ·
    rw [hb3] at F
    iterate 3 refine Cd F Aa Aa Aa Aa Aa Aa Aa fun a F => ?_
    refine Au F W (Ad F Aa Aa Aa Aa) Aa (Al Aa) (As F Aa Aa Aa).q fun a w F W => ?_
    iterate 2 refine Au F W (Ad F Aa Aa Aa Aa) Aa (Al Aa) (Ah F Aa).q fun a w F W => ?_
    refine Au F W (Ad F Aa Aa Aa Aa) Aa (Al Aa) (Co F Aa Aa).q fun a w F W => ?_
    refine Au F W (Ad F Aa Aa Aa Aa) Aa (Al Aa) (Ah F Aa).q fun a w F W => ?_
    rcases Bool.eq_false_or_eq_true (decide ((p0.un.2.2.2.2.length : Int) < 2)) with hb4 | hb4
    ·
     rw [hb4] at F
     iterate 2 refine Cd F Aa Aa Aa Aa Aa Aa Aa fun a F => ?_
     iterate 2 refine Au F W (Ad F Aa Aa Aa Aa) Aa (Al Aa) (As F Aa Aa Aa).q fun a w F W => ?_
     refine ls F W Aa (Ap F Aa Aa Aa).q fun a w F W => ?_
     refine Ae (Ac ?_)
     exact ⟨F.re ⟨rfl, Aa, Aa, (Dq (by try rw [hb2]; try rw [hb4]; try rw [hb0]; try rw [hb1]; try rw [hb3]; all_goals simp only [Dr])), trivial⟩, W⟩
    rw [hb4] at F
    refine Au F W (Ad F Aa Aa Aa Aa) Aa (Al Aa) (Ah F Aa).q fun a w F W => ?_
    refine Au F W (Ad F Aa Aa Aa Aa) Aa (Al Aa) (C2 F Aa Aa).q fun a w F W => ?_
    refine Au F W (Ad F Aa Aa Aa Aa) Aa (Al Aa) (Ap F Aa Aa Aa).q fun a w F W => ?_
    refine Au F W (Ad F Aa Aa Aa Aa) Aa (Al Aa) (As F Aa Aa Aa).q fun a w F W => ?_
    refine ls F W Aa (Ap F Aa Aa Aa).q fun a w F W => ?_
    refine Ae (Ac ?_)
    exact ⟨F.re ⟨rfl, Aa, Aa, (Dq (by try rw [hb2]; try rw [hb4]; try rw [hb0]; try rw [hb1]; try rw [hb3]; all_goals simp only [Dr])), trivial⟩, W⟩
   rw [hb3] at F
   refine Au F W (Ad F Aa Aa Aa Aa) Aa (Al Aa) (Aj BX Aa Aa Aa T3 F Aa 0 Aa).q fun a w F W => ?_
   refine Au F W (Ad F Aa Aa Aa Aa) Aa (Al Aa) (Av (v := Value.int .i64 p0.un.1) 0 F Aa Aa T3 Aa).q fun a w F W => ?_
   refine Au F W (Ad F Aa Aa Aa Aa) Aa (Al Aa) (Bd F Aa Aa).q fun a w F W => ?_
   refine Au F W (Ad F Aa Aa Aa Aa) Aa (Al Aa) (Ap F Aa Aa Aa).q fun a w F W => ?_
   refine Au F W (Ad F Aa Aa Aa Aa) Aa (Al Aa) (Ah F Aa).q fun a w F W => ?_
   rcases Bool.eq_false_or_eq_true (decide (p0.un.1 = 4)) with hb4 | hb4
   ·
    rw [hb4] at F
    refine Au F W (Ad F Aa Aa Aa Aa) Aa (Al Aa) (Ah F Aa).q fun a w F W => ?_
    refine Au F W (Ad F Aa Aa Aa Aa) Aa (Al Aa) (Co F Aa Aa).q fun a w F W => ?_
    refine Au F W (Ad F Aa Aa Aa Aa) Aa (Al Aa) (Ah F Aa).q fun a w F W => ?_
    rcases Bool.eq_false_or_eq_true (decide ((p0.un.2.2.2.2.length : Int) < 2)) with hb5 | hb5
    ·
     rw [hb5] at F
     iterate 2 refine Cd F Aa Aa Aa Aa Aa Aa Aa fun a F => ?_
     iterate 2 refine Au F W (Ad F Aa Aa Aa Aa) Aa (Al Aa) (As F Aa Aa Aa).q fun a w F W => ?_
     refine ls F W Aa (Ap F Aa Aa Aa).q fun a w F W => ?_
     refine Ae (Ac ?_)
     exact ⟨F.re ⟨rfl, Aa, Aa, (Dq (by try rw [hb2]; try rw [hb5]; try rw [hb0]; try rw [hb1]; try rw [hb3]; try rw [hb4]; all_goals simp only [Dr])), trivial⟩, W⟩
    rw [hb5] at F
    refine Au F W (Ad F Aa Aa Aa Aa) Aa (Al Aa) (Ah F Aa).q fun a w F W => ?_
    refine Au F W (Ad F Aa Aa Aa Aa) Aa (Al Aa) (C2 F Aa Aa).q fun a w F W => ?_
    refine Au F W (Ad F Aa Aa Aa Aa) Aa (Al Aa) (Ap F Aa Aa Aa).q fun a w F W => ?_
    refine Au F W (Ad F Aa Aa Aa Aa) Aa (Al Aa) (As F Aa Aa Aa).q fun a w F W => ?_
    refine ls F W Aa (Ap F Aa Aa Aa).q fun a w F W => ?_
    refine Ae (Ac ?_)
    exact ⟨F.re ⟨rfl, Aa, Aa, (Dq (by try rw [hb2]; try rw [hb5]; try rw [hb0]; try rw [hb1]; try rw [hb3]; try rw [hb4]; all_goals simp only [Dr])), trivial⟩, W⟩
   rw [hb4] at F
   iterate 3 refine Cd F Aa Aa Aa Aa Aa Aa Aa fun a F => ?_
   iterate 2 refine Ll F Aa Aa Aa Aa Aa Aa fun a F => ?_
   refine Cd F Aa Aa Aa Aa Aa Aa Aa fun a F => ?_
   refine Au F W (Ad F Aa Aa Aa Aa) Aa (Al Aa) (Ap F Aa Aa Aa).q fun a w F W => ?_
   refine ls F W Aa (Ap F Aa Aa Aa).q fun a w F W => ?_
   refine Ae (Ac ?_)
   exact ⟨F.re ⟨rfl, Aa, Aa, (Dq (by try rw [hb2]; try rw [hb0]; try rw [hb1]; try rw [hb3]; try rw [hb4]; all_goals simp only [Dr])), trivial⟩, W⟩
  rw [hb1] at F
  iterate 2 refine Cd F Aa Aa Aa Aa Aa Aa Aa fun a F => ?_
  refine Au F W (Ad F Aa Aa Aa Aa) Aa (Al Aa) (Ap F Aa Aa Aa).q fun a w F W => ?_
  refine ls F W Aa (Ap F Aa Aa Aa).q fun a w F W => ?_
  refine ls F W Aa (Ah F Aa).q fun a w F W => ?_
  refine Au F W (Ad F Aa Aa Aa Aa) Aa (Al Aa) (Aj BX Aa Aa Aa T3 F Aa 0 Aa).q fun a w F W => ?_
  refine Au F W (Ad F Aa Aa Aa Aa) Aa (Al Aa) (Av (v := Value.int .i64 p0.un.1) 0 F Aa Aa T3 Aa).q fun a w F W => ?_
  refine Au F W (Ad F Aa Aa Aa Aa) Aa (Al Aa) (Bd F Aa Aa).q fun a w F W => ?_
  refine Au F W (Ad F Aa Aa Aa Aa) Aa (Al Aa) (Ah F Aa).q fun a w F W => ?_
  rcases Bool.eq_false_or_eq_true (decide (p0.un.1 = 3)) with hb2 | hb2
  ·
   rw [hb2] at F
   iterate 3 refine Cd F Aa Aa Aa Aa Aa Aa Aa fun a F => ?_
   refine Au F W (Ad F Aa Aa Aa Aa) Aa (Al Aa) (As F Aa Aa Aa).q fun a w F W => ?_
   iterate 2 refine Au F W (Ad F Aa Aa Aa Aa) Aa (Al Aa) (Ah F Aa).q fun a w F W => ?_
   refine Au F W (Ad F Aa Aa Aa Aa) Aa (Al Aa) (Co F Aa Aa).q fun a w F W => ?_
   refine Au F W (Ad F Aa Aa Aa Aa) Aa (Al Aa) (Ah F Aa).q fun a w F W => ?_
   rcases Bool.eq_false_or_eq_true (decide ((p0.un.2.2.2.2.length : Int) < 2)) with hb3 | hb3
   ·
    rw [hb3] at F
    iterate 2 refine Cd F Aa Aa Aa Aa Aa Aa Aa fun a F => ?_
    iterate 2 refine Au F W (Ad F Aa Aa Aa Aa) Aa (Al Aa) (As F Aa Aa Aa).q fun a w F W => ?_
    refine ls F W Aa (Ap F Aa Aa Aa).q fun a w F W => ?_
    refine Ae (Ac ?_)
    exact ⟨F.re ⟨rfl, Aa, Aa, (Dq (by try rw [hb3]; try rw [hb0]; try rw [hb1]; try rw [hb2]; all_goals simp only [Dr])), trivial⟩, W⟩
   rw [hb3] at F
   refine Au F W (Ad F Aa Aa Aa Aa) Aa (Al Aa) (Ah F Aa).q fun a w F W => ?_
   refine Au F W (Ad F Aa Aa Aa Aa) Aa (Al Aa) (C2 F Aa Aa).q fun a w F W => ?_
   refine Au F W (Ad F Aa Aa Aa Aa) Aa (Al Aa) (Ap F Aa Aa Aa).q fun a w F W => ?_
   refine Au F W (Ad F Aa Aa Aa Aa) Aa (Al Aa) (As F Aa Aa Aa).q fun a w F W => ?_
   refine ls F W Aa (Ap F Aa Aa Aa).q fun a w F W => ?_
   refine Ae (Ac ?_)
   exact ⟨F.re ⟨rfl, Aa, Aa, (Dq (by try rw [hb3]; try rw [hb0]; try rw [hb1]; try rw [hb2]; all_goals simp only [Dr])), trivial⟩, W⟩
  rw [hb2] at F
  refine Au F W (Ad F Aa Aa Aa Aa) Aa (Al Aa) (Aj BX Aa Aa Aa T3 F Aa 0 Aa).q fun a w F W => ?_
  refine Au F W (Ad F Aa Aa Aa Aa) Aa (Al Aa) (Av (v := Value.int .i64 p0.un.1) 0 F Aa Aa T3 Aa).q fun a w F W => ?_
  refine Au F W (Ad F Aa Aa Aa Aa) Aa (Al Aa) (Bd F Aa Aa).q fun a w F W => ?_
  refine Au F W (Ad F Aa Aa Aa Aa) Aa (Al Aa) (Ap F Aa Aa Aa).q fun a w F W => ?_
  refine Au F W (Ad F Aa Aa Aa Aa) Aa (Al Aa) (Ah F Aa).q fun a w F W => ?_
  rcases Bool.eq_false_or_eq_true (decide (p0.un.1 = 4)) with hb3 | hb3
  ·
   rw [hb3] at F
   refine Au F W (Ad F Aa Aa Aa Aa) Aa (Al Aa) (Ah F Aa).q fun a w F W => ?_
   refine Au F W (Ad F Aa Aa Aa Aa) Aa (Al Aa) (Co F Aa Aa).q fun a w F W => ?_
   refine Au F W (Ad F Aa Aa Aa Aa) Aa (Al Aa) (Ah F Aa).q fun a w F W => ?_
   rcases Bool.eq_false_or_eq_true (decide ((p0.un.2.2.2.2.length : Int) < 2)) with hb4 | hb4
   ·
    rw [hb4] at F
    iterate 2 refine Cd F Aa Aa Aa Aa Aa Aa Aa fun a F => ?_
    iterate 2 refine Au F W (Ad F Aa Aa Aa Aa) Aa (Al Aa) (As F Aa Aa Aa).q fun a w F W => ?_
    refine ls F W Aa (Ap F Aa Aa Aa).q fun a w F W => ?_
    refine Ae (Ac ?_)
    exact ⟨F.re ⟨rfl, Aa, Aa, (Dq (by try rw [hb4]; try rw [hb0]; try rw [hb1]; try rw [hb2]; try rw [hb3]; all_goals simp only [Dr])), trivial⟩, W⟩
   rw [hb4] at F
   refine Au F W (Ad F Aa Aa Aa Aa) Aa (Al Aa) (Ah F Aa).q fun a w F W => ?_
   refine Au F W (Ad F Aa Aa Aa Aa) Aa (Al Aa) (C2 F Aa Aa).q fun a w F W => ?_
   refine Au F W (Ad F Aa Aa Aa Aa) Aa (Al Aa) (Ap F Aa Aa Aa).q fun a w F W => ?_
   refine Au F W (Ad F Aa Aa Aa Aa) Aa (Al Aa) (As F Aa Aa Aa).q fun a w F W => ?_
   refine ls F W Aa (Ap F Aa Aa Aa).q fun a w F W => ?_
   refine Ae (Ac ?_)
   exact ⟨F.re ⟨rfl, Aa, Aa, (Dq (by try rw [hb4]; try rw [hb0]; try rw [hb1]; try rw [hb2]; try rw [hb3]; all_goals simp only [Dr])), trivial⟩, W⟩
  rw [hb3] at F
  iterate 3 refine Cd F Aa Aa Aa Aa Aa Aa Aa fun a F => ?_
  iterate 2 refine Ll F Aa Aa Aa Aa Aa Aa fun a F => ?_
  refine Cd F Aa Aa Aa Aa Aa Aa Aa fun a F => ?_
  refine Au F W (Ad F Aa Aa Aa Aa) Aa (Al Aa) (Ap F Aa Aa Aa).q fun a w F W => ?_
  refine ls F W Aa (Ap F Aa Aa Aa).q fun a w F W => ?_
  refine Ae (Ac ?_)
  exact ⟨F.re ⟨rfl, Aa, Aa, (Dq (by try rw [hb0]; try rw [hb1]; try rw [hb2]; try rw [hb3]; all_goals simp only [Dr])), trivial⟩, W⟩
 rintro a w ⟨F, W⟩
 refine Az F Aa (fun hb => ?_) fun hb => ?_
 ·
  have H := AW hb H
  rw [hb] at F
  clear hb
  refine Ak (Ab ?_)
  refine ls F W Aa (Ag F Aa).q fun a w F W => ?_
  refine Ae (Ac (Ax (AO ?_)))
  have H := AK H
  subst H
  refine AG (.inl Aa) F W Aa (AD F Aa) ?_
  exact ⟨rfl, W.done⟩
 have H := AY (by rw [hb]; decide) H
 rw [hb] at F
 clear hb
 refine AA (Ac ?_)
 obtain ⟨o2, G2, K2, L2⟩ := Rk H
 refine A1 (fun a w => some (Sum.inl ()) = some o2 ∧ Fr 130 [] [(2, .bool false)] a ∧ Stw ⟨Y, [], w0⟩ (Ch b1 p0 v1 v2) [] w) ?_ ?_
 ·
  have H := G2
  clear G2 K2
  refine Ak (Ab ?_)
  refine ls F W Aa (Ag F Aa).q fun a w F W => ?_
  refine Ae (Ac (AP ?_))
  refine Cx H (fun s a w => Fr 130 [] [(1, .pointer (some ⟨b1, 0, none⟩)), (2, .bool false), (3, .int .i64 (p0.un.2.2.2.2.length : Int)), (5, .int .i64 s)] a ∧ Stw ⟨Y, [], w0⟩ (Ch b1 p0 v1 v2) [] w) ⟨F.re ⟨rfl, Aa, Aa, Aa, trivial⟩, W⟩ fun s o a w H L3 hR => ?_
  obtain ⟨x4, rfl⟩ : ∃ x, x = s := ⟨s, rfl⟩
  obtain ⟨F, W⟩ := hR
  have F : Fr 130 [] [(1, .pointer (some ⟨b1, 0, none⟩)), (2, .bool false), (3, .int .i64 (p0.un.2.2.2.2.length : Int)), (5, .int .i64 x4)] a := F
  have W : Stw ⟨Y, [], w0⟩ (Ch b1 p0 v1 v2) [] w := W
  rw [Ee] at H
  refine Ak (Ak (Ab ?_))
  iterate 2 refine ls F W Aa (Ah F Aa).q fun a w F W => ?_
  refine ls F W Aa (Co F Aa Aa).q fun a w F W => ?_
  refine Ae (Ac ?_)
  refine Az F Aa (fun hb => ?_) fun hb => ?_
  ·
   have H := AW (Bw hb) H
   rw [hb] at F
   clear hb
   refine AA (Ac (Ak (AP (Ak (Ab ?_)))))
   refine ls F W Aa (Aj BX Aa Aa Aa HK F Aa 7 Aa).q fun a w F W => ?_
   refine ls F W Aa (Av (v := v2) 0 F Aa Aa HK Aa).q fun a w F W => ?_
   refine ls F W Aa (Ah F Aa).q fun a w F W => ?_
   obtain ⟨x5, h5, H⟩ := Aq H
   obtain ⟨v5, h6, h7⟩ := D5 h2 h5
   have h8 : HI v5 = [.int .i64 x5.un.1, .int .i64 x5.un.2.1.un.1, .int .i64 x5.un.2.1.un.2.1, .int .i64 x5.un.2.1.un.2.2.1, (v5.2.1.2.2.2.1), .int .i64 x5.un.2.2.1, .int .i64 x5.un.2.2.2.1, (v5.2.2.2.2.1)] := congrArg (fun q : Tr37 => ([.int .i64 q.un.1, .int .i64 q.un.2.1.un.1, .int .i64 q.un.2.1.un.2.1, .int .i64 q.un.2.1.un.2.2.1, (v5.2.1.2.2.2.1), .int .i64 q.un.2.2.1, .int .i64 q.un.2.2.2.1, (v5.2.2.2.2.1)] : List Value)) h7
   refine ls F W Aa (Cg (r := Kr) RC F Aa Aa (Ay h_v2) h6).q fun a w F W => ?_
   refine ls F W Aa (BC (y := Value.agg #[.int .i64 x5.un.1, .int .i64 x5.un.2.1.un.1, .int .i64 x5.un.2.1.un.2.1, .int .i64 x5.un.2.1.un.2.2.1, (v5.2.1.2.2.2.1), .int .i64 x5.un.2.2.1, .int .i64 x5.un.2.2.2.1, (v5.2.2.2.2.1)]) (j := 0) (i := x4) (enc := HI) F Aa Aa (Ay h_v2) h6 M9 MR (by rw [h8]; rfl)).q fun a w F W => ?_
   obtain ⟨x6, h9, H⟩ := Aq H
   refine ls F W Aa (A0 (v := Value.bool x6) F VS Aa (fun w W => ih any w ((v5.2.1.2.2.2.1)) ((v5.2.2.2.2.1)) (Tr37.of (x5.un.1, Tr34.of (x5.un.2.1.un.1, x5.un.2.1.un.2.1, x5.un.2.1.un.2.2.1, x5.un.2.1.un.2.2.2), x5.un.2.2.1, x5.un.2.2.2.1, x5.un.2.2.2.2)) _ h9 (((Ci (Ay h_v2) h6 (AE.snd (AE.fst (AE.snd (AE.snd (AE.snd AE.here))))) (congrArg (fun q : Tr37 => q.un.2.1.un.2.2.2) h7)) : DZ _ _ _ _ _ _) w W).nx (((Ci (Ay h_v2) h6 (AE.snd (AE.snd (AE.snd (AE.snd AE.here)))) (congrArg (fun q : Tr37 => q.un.2.2.2.2) h7)) : DZ _ _ _ _ _ _) w W).nx)) fun a w F W => ?_
   refine ls F W Aa (Hs F Aa).q fun a w F W => ?_
   refine Ae (Ac ?_)
   refine Az F Aa (fun hb => ?_) fun hb => ?_
   ·
    have H := AW hb H
    rw [hb] at F
    clear hb
    refine Ak (Ab ?_)
    refine ls F W Aa (Ag F Aa).q fun a w F W => ?_
    refine Ae (Ac (Ax (Bc ?_)))
    iterate 2 refine AO ?_
    refine Bc (AO ?_)
    have H := L3 _ H
    have H := L2 _ H
    have H := AK H
    subst H
    refine AG (.inl Aa) F W Aa (AD F Aa) ?_
    exact ⟨rfl, W.done⟩
   have H := AY (by rw [hb]; decide) H
   rw [hb] at F
   clear hb
   refine AA (Bn (Ac (Ab ?_)))
   refine ls F W Aa (Ah F Aa).q fun a w F W => ?_
   refine ls F W Aa (C5 F Aa Aa Aa).q fun a w F W => ?_
   refine ls F W Aa (Ag F Aa).q fun a w F W => ?_
   refine Ae (Ac ?_)
   exact ⟨_, H, F.re ⟨rfl, Aa, Aa, Aa, trivial⟩, W⟩
  have H := AY (Bx hb) H
  rw [hb] at F
  clear hb
  refine Cz ?_
  iterate 2 refine C8 ?_
  refine Cy (Ac ?_)
  have H := L3 _ H
  exact ⟨H, F.re ⟨rfl, trivial⟩, W⟩
 rintro a w ⟨hj, F, W⟩
 have H := K2 _ hj
 clear hj G2 K2 L2
 refine Ak (Ab ?_)
 refine ls F W Aa (Ag F Aa).q fun a w F W => ?_
 refine Ae (Ac (Ax ?_))
 have H := AK H
 subst H
 refine AG (.inl Aa) F W Aa (AD F Aa) ?_
 exact ⟨rfl, W.done⟩
theorem OX : ∀ (n : Nat) (Y : Nat → Prop) (w0 : World) (v1 : Value) (v2 : Value) (p0 : Tr37) (r : Bool) (H : Dv n p0 = some r) (h_v1 : Sl w0 (NX []) CS v1 p0.un.2.1.un.2.2.2) (h_v2 : Sl w0 (NX []) Ff v2 p0.un.2.2.2.2), Calls Tryd.prog 35 #[.agg #[.int .i64 p0.un.1, .int .i64 p0.un.2.1.un.1, .int .i64 p0.un.2.1.un.2.1, .int .i64 p0.un.2.1.un.2.2.1, v1, .int .i64 p0.un.2.2.1, .int .i64 p0.un.2.2.2.1, v2]] w0 fun e w' => e = .returned (.bool r) ∧ Below w0.heap.size w0 w' := by
  intro n
  induction n with
  | zero => intro Y w0 v1 v2 p0 r H; exact nomatch H
  | succ n ih => intro Y w0 v1 v2 p0 r H h_v1 h_v2; exact Od (Dv n) ih Y w0 v1 v2 p0 r H h_v1 h_v2
theorem Qb (Y : Nat → Prop) (w0 : World) (v1 : Value) (v2 : Value) (p0 : Tr37) (r : Bool) (H : Mp p0 = some r) (h_v1 : Sl w0 (NX []) CS v1 p0.un.2.1.un.2.2.2) (h_v2 : Sl w0 (NX []) Ff v2 p0.un.2.2.2.2) :
    Calls Tryd.prog 35 #[.agg #[.int .i64 p0.un.1, .int .i64 p0.un.2.1.un.1, .int .i64 p0.un.2.1.un.2.1, .int .i64 p0.un.2.1.un.2.2.1, v1, .int .i64 p0.un.2.2.1, .int .i64 p0.un.2.2.2.1, v2]] w0 fun e w' => e = .returned (.bool r) ∧ Below w0.heap.size w0 w' := by
  obtain ⟨n, H⟩ := BR H
  exact OX n Y w0 v1 v2 p0 r H h_v1 h_v2
theorem Vz : Has Tryd.prog 36 := ⟨fun args w => An Tryd.func36 rfl (by decide) args w⟩
noncomputable def C9 (fRec : Tr37 → Option Int) (p0 : Tr37) : (Int × Int) → Option ((Int × Int) ⊕ Int)
  | (x2, x3) => (if x3 < (p0.un.2.2.2.2.length : Int) then ((ix p0.un.2.2.2.2 x3).bind fun x5 => (fRec (Tr37.of (x5.un.1, Tr34.of (x5.un.2.1.un.1, x5.un.2.1.un.2.1, x5.un.2.1.un.2.2.1, x5.un.2.1.un.2.2.2), x5.un.2.2.1, x5.un.2.2.2.1, x5.un.2.2.2.2))).bind fun x6 => (if x2 ≤ x6 then (ix p0.un.2.2.2.2 x3).bind fun x7 => (fRec (Tr37.of (x7.un.1, Tr34.of (x7.un.2.1.un.1, x7.un.2.1.un.2.1, x7.un.2.1.un.2.2.1, x7.un.2.1.un.2.2.2), x7.un.2.2.1, x7.un.2.2.2.1, x7.un.2.2.2.2))).bind fun x8 => some (DP (x8 + 1)) else some x2)).bind fun x4 => some (.inl (x4, DP (x3 + 1))) else some (.inr x2))
noncomputable def Eu (fRec : Tr37 → Option Int) (p0 : Tr37) : Option Int := (Br (C9 fRec p0) (1, 0)).bind fun x1 => some x1
noncomputable def DB : Nat → Tr37 → Option Int
  | 0 => fun _ => none
  | n + 1 => Eu (DB n)
noncomputable def Mt (p0 : Tr37) : Option Int := FY fun n => DB n p0
theorem NY (fRec : Tr37 → Option Int) (ih : ∀ (Y : Nat → Prop) (w0 : World) (v1 : Value) (v2 : Value) (p0 : Tr37) (r : Int) (H : fRec p0 = some r) (h_v1 : Sl w0 (NX []) CS v1 p0.un.2.1.un.2.2.2) (h_v2 : Sl w0 (NX []) Ff v2 p0.un.2.2.2.2), Calls Tryd.prog 36 #[.agg #[.int .i64 p0.un.1, .int .i64 p0.un.2.1.un.1, .int .i64 p0.un.2.1.un.2.1, .int .i64 p0.un.2.1.un.2.2.1, v1, .int .i64 p0.un.2.2.1, .int .i64 p0.un.2.2.2.1, v2]] w0 fun e w' => e = .returned (.int .i64 r) ∧ Below w0.heap.size w0 w') (Y : Nat → Prop) (w0 : World) (v1 : Value) (v2 : Value) (p0 : Tr37) (r : Int) (H : Eu fRec p0 = some r) (h_v1 : Sl w0 (NX []) CS v1 p0.un.2.1.un.2.2.2) (h_v2 : Sl w0 (NX []) Ff v2 p0.un.2.2.2.2) :
    Calls Tryd.prog 36 #[.agg #[.int .i64 p0.un.1, .int .i64 p0.un.2.1.un.1, .int .i64 p0.un.2.1.un.2.1, .int .i64 p0.un.2.1.un.2.2.1, v1, .int .i64 p0.un.2.2.1, .int .i64 p0.un.2.2.2.1, v2]] w0 fun e w' => e = .returned (.int .i64 r) ∧ Below w0.heap.size w0 w' := by
 refine enter Tryd.func36 Aa Tryd.ntmps36 Aa fun a F => ?_
 have W := Stw.start Y w0
 obtain ⟨v3, h1, h_v1⟩ := h_v1.ex CL
 obtain ⟨v4, h2, h_v2⟩ := h_v2.ex Fx
 unfold Eu at H
 refine Ak (Ab ?_)
 refine D6 (cs := (Ce p0 v1 v2)) F W Aa Aa Aa fun b1 a w F W => ?_
 refine ls F W Aa (Ag F Aa).q fun a w F W => ?_
 refine Ae (Ac (Ak (Ab ?_)))
 refine ls F W Aa (Ag F Aa).q fun a w F W => ?_
 refine Ae (Ac ?_)
 obtain ⟨o1, G1, K1⟩ := Aq H
 refine A1 (fun a w => ∃ x1 : Int, some (x1) = some o1 ∧ Fr 28 [] [(2, .int .i64 0), (3, .int .i64 x1)] a ∧ Stw ⟨Y, [], w0⟩ (Ch b1 p0 v1 v2) [] w) ?_ ?_
 ·
  have H := G1
  clear G1 K1
  refine Ak (Ab ?_)
  refine ls F W Aa (Ag F Aa).q fun a w F W => ?_
  refine Ae (Ac (AP ?_))
  refine Cx H (fun s a w => Fr 28 [] [(1, .pointer (some ⟨b1, 0, none⟩)), (2, .int .i64 0), (3, .int .i64 s.1), (4, .int .i64 s.2)] a ∧ Stw ⟨Y, [], w0⟩ (Ch b1 p0 v1 v2) [] w) ⟨F.re ⟨rfl, Aa, Aa, Aa, trivial⟩, W⟩ fun s o a w H L2 hR => ?_
  obtain ⟨x2, x3⟩ := s
  obtain ⟨F, W⟩ := hR
  have F : Fr 28 [] [(1, .pointer (some ⟨b1, 0, none⟩)), (2, .int .i64 0), (3, .int .i64 x2), (4, .int .i64 x3)] a := F
  have W : Stw ⟨Y, [], w0⟩ (Ch b1 p0 v1 v2) [] w := W
  rw [C9] at H
  refine Ak (Ak (Ab ?_))
  refine ls F W Aa (Ah F Aa).q fun a w F W => ?_
  refine ls F W Aa (Aj BX Aa Aa Aa HK F Aa 7 Aa).q fun a w F W => ?_
  refine ls F W Aa (Av (v := v2) 0 F Aa Aa HK Aa).q fun a w F W => ?_
  refine ls F W Aa (D7 (r := Ff) (l := p0.un.2.2.2.2) Nb Aa F Aa (AM Fx h2 (Ay h_v2))).q fun a w F W => ?_
  refine ls F W Aa (Co F Aa Aa).q fun a w F W => ?_
  refine Ae (Ac ?_)
  refine Az F Aa (fun hb => ?_) fun hb => ?_
  ·
   have H := AW (Bw hb) H
   rw [hb] at F
   clear hb
   refine AA (Ac ?_)
   obtain ⟨o3, G3, K3⟩ := Aq H
   refine A1 (fun a w => ∃ x4 : Int, some (x4) = some o3 ∧ Fr 28 [] [(1, .pointer (some ⟨b1, 0, none⟩)), (2, .int .i64 0), (3, .int .i64 x4), (4, .int .i64 x3)] a ∧ Stw ⟨Y, [], w0⟩ (Ch b1 p0 v1 v2) [] w) ?_ ?_
   ·
    have H := G3
    clear G3 K3
    refine AP (Ak (Ab ?_))
    refine ls F W Aa (Aj BX Aa Aa Aa HK F Aa 7 Aa).q fun a w F W => ?_
    refine ls F W Aa (Av (v := v2) 0 F Aa Aa HK Aa).q fun a w F W => ?_
    refine ls F W Aa (Ah F Aa).q fun a w F W => ?_
    obtain ⟨x5, h3, H⟩ := Aq H
    obtain ⟨v5, h4, h5⟩ := D5 h2 h3
    have h6 : HI v5 = [.int .i64 x5.un.1, .int .i64 x5.un.2.1.un.1, .int .i64 x5.un.2.1.un.2.1, .int .i64 x5.un.2.1.un.2.2.1, (v5.2.1.2.2.2.1), .int .i64 x5.un.2.2.1, .int .i64 x5.un.2.2.2.1, (v5.2.2.2.2.1)] := congrArg (fun q : Tr37 => ([.int .i64 q.un.1, .int .i64 q.un.2.1.un.1, .int .i64 q.un.2.1.un.2.1, .int .i64 q.un.2.1.un.2.2.1, (v5.2.1.2.2.2.1), .int .i64 q.un.2.2.1, .int .i64 q.un.2.2.2.1, (v5.2.2.2.2.1)] : List Value)) h5
    refine ls F W Aa (Cg (r := Kr) RC F Aa Aa (Ay h_v2) h4).q fun a w F W => ?_
    refine ls F W Aa (BC (y := Value.agg #[.int .i64 x5.un.1, .int .i64 x5.un.2.1.un.1, .int .i64 x5.un.2.1.un.2.1, .int .i64 x5.un.2.1.un.2.2.1, (v5.2.1.2.2.2.1), .int .i64 x5.un.2.2.1, .int .i64 x5.un.2.2.2.1, (v5.2.2.2.2.1)]) (j := 0) (i := x3) (enc := HI) F Aa Aa (Ay h_v2) h4 M9 MR (by rw [h6]; rfl)).q fun a w F W => ?_
    obtain ⟨x6, h7, H⟩ := Aq H
    refine ls F W Aa (A0 (v := Value.int .i64 x6) F Vz Aa (fun w W => ih any w ((v5.2.1.2.2.2.1)) ((v5.2.2.2.2.1)) (Tr37.of (x5.un.1, Tr34.of (x5.un.2.1.un.1, x5.un.2.1.un.2.1, x5.un.2.1.un.2.2.1, x5.un.2.1.un.2.2.2), x5.un.2.2.1, x5.un.2.2.2.1, x5.un.2.2.2.2)) _ h7 (((Ci (Ay h_v2) h4 (AE.snd (AE.fst (AE.snd (AE.snd (AE.snd AE.here))))) (congrArg (fun q : Tr37 => q.un.2.1.un.2.2.2) h5)) : DZ _ _ _ _ _ _) w W).nx (((Ci (Ay h_v2) h4 (AE.snd (AE.snd (AE.snd (AE.snd AE.here)))) (congrArg (fun q : Tr37 => q.un.2.2.2.2) h5)) : DZ _ _ _ _ _ _) w W).nx)) fun a w F W => ?_
    refine ls F W Aa (Ah F Aa).q fun a w F W => ?_
    refine ls F W Aa (Nv F Aa Aa).q fun a w F W => ?_
    refine Ae (Ac ?_)
    refine Az F Aa (fun hb => ?_) fun hb => ?_
    ·
     have H := AW (Bw hb) H
     rw [hb] at F
     clear hb
     obtain ⟨v6, h8, h9⟩ := Sl.ex CL (Sl.at_ h_v2 h4 (AE.snd (AE.fst (AE.snd (AE.snd (AE.snd AE.here))))) (congrArg (fun q : Tr37 => q.un.2.1.un.2.2.2) h5))
     obtain ⟨v7, h10, h11⟩ := Sl.ex Fx (Sl.at_ h_v2 h4 (AE.snd (AE.snd (AE.snd (AE.snd AE.here)))) (congrArg (fun q : Tr37 => q.un.2.2.2.2) h5))
     refine Ab ?_
     refine ls F W Aa (Aj BX Aa Aa Aa HK F Aa 7 Aa).q fun a w F W => ?_
     refine ls F W Aa (Av (v := v2) 0 F Aa Aa HK Aa).q fun a w F W => ?_
     refine ls F W Aa (Ah F Aa).q fun a w F W => ?_
     obtain ⟨x7, h12, H⟩ := Aq H
     obtain ⟨v8, h13, h14⟩ := D5 h2 h12
     have h15 : HI v8 = [.int .i64 x7.un.1, .int .i64 x7.un.2.1.un.1, .int .i64 x7.un.2.1.un.2.1, .int .i64 x7.un.2.1.un.2.2.1, (v8.2.1.2.2.2.1), .int .i64 x7.un.2.2.1, .int .i64 x7.un.2.2.2.1, (v8.2.2.2.2.1)] := congrArg (fun q : Tr37 => ([.int .i64 q.un.1, .int .i64 q.un.2.1.un.1, .int .i64 q.un.2.1.un.2.1, .int .i64 q.un.2.1.un.2.2.1, (v8.2.1.2.2.2.1), .int .i64 q.un.2.2.1, .int .i64 q.un.2.2.2.1, (v8.2.2.2.2.1)] : List Value)) h14
     refine ls F W Aa (Cg (r := Kr) RC F Aa Aa (Ay h_v2) h13).q fun a w F W => ?_
     refine ls F W Aa (BC (y := Value.agg #[.int .i64 x7.un.1, .int .i64 x7.un.2.1.un.1, .int .i64 x7.un.2.1.un.2.1, .int .i64 x7.un.2.1.un.2.2.1, (v8.2.1.2.2.2.1), .int .i64 x7.un.2.2.1, .int .i64 x7.un.2.2.2.1, (v8.2.2.2.2.1)]) (j := 0) (i := x3) (enc := HI) F Aa Aa (Ay h_v2) h13 M9 MR (by rw [h15]; rfl)).q fun a w F W => ?_
     obtain ⟨x8, h16, H⟩ := Aq H
     refine ls F W Aa (A0 (v := Value.int .i64 x8) F Vz Aa (fun w W => ih any w ((v8.2.1.2.2.2.1)) ((v8.2.2.2.2.1)) (Tr37.of (x7.un.1, Tr34.of (x7.un.2.1.un.1, x7.un.2.1.un.2.1, x7.un.2.1.un.2.2.1, x7.un.2.1.un.2.2.2), x7.un.2.2.1, x7.un.2.2.2.1, x7.un.2.2.2.2)) _ h16 (((Ci (Ay h_v2) h13 (AE.snd (AE.fst (AE.snd (AE.snd (AE.snd AE.here))))) (congrArg (fun q : Tr37 => q.un.2.1.un.2.2.2) h14)) : DZ _ _ _ _ _ _) w W).nx (((Ci (Ay h_v2) h13 (AE.snd (AE.snd (AE.snd (AE.snd AE.here)))) (congrArg (fun q : Tr37 => q.un.2.2.2.2) h14)) : DZ _ _ _ _ _ _) w W).nx)) fun a w F W => ?_
     refine ls F W Aa (C5 F Aa Aa Aa).q fun a w F W => ?_
     refine ls F W Aa (Ag F Aa).q fun a w F W => ?_
     refine Ae (Bn (Ac ?_))
     exact ⟨_, H, F.re ⟨rfl, Aa, Aa, Aa, trivial⟩, W⟩
    have H := AY (Bx hb) H
    rw [hb] at F
    clear hb
    refine AA (Bn (Ac ?_))
    exact ⟨_, H, F.re ⟨rfl, Aa, Aa, Aa, trivial⟩, W⟩
   rintro a w ⟨x4, hj, F, W⟩
   have hj := AK hj
   subst hj
   have H := K3
   clear G3 K3
   refine Ab ?_
   refine ls F W Aa (Ah F Aa).q fun a w F W => ?_
   refine ls F W Aa (C5 F Aa Aa Aa).q fun a w F W => ?_
   refine ls F W Aa (Ag F Aa).q fun a w F W => ?_
   refine Ae (Ac ?_)
   exact ⟨_, H, F.re ⟨rfl, Aa, Aa, Aa, trivial⟩, W⟩
  have H := AY (Bx hb) H
  rw [hb] at F
  clear hb
  refine Cz ?_
  iterate 2 refine C8 ?_
  refine Cy (Ac ?_)
  have H := L2 _ H
  exact ⟨_, H, F.re ⟨rfl, Aa, trivial⟩, W⟩
 rintro a w ⟨x1, hj, F, W⟩
 have hj := AK hj
 subst hj
 have H := K1
 clear G1 K1
 refine Ak (Ab ?_)
 refine ls F W Aa (Ah F Aa).q fun a w F W => ?_
 refine ls F W Aa (Ag F Aa).q fun a w F W => ?_
 refine Ae (Ac (Ax ?_))
 have H := AK H
 subst H
 refine AG (.inl Aa) F W Aa (AD F Aa) ?_
 exact ⟨rfl, W.done⟩
theorem Pw : ∀ (n : Nat) (Y : Nat → Prop) (w0 : World) (v1 : Value) (v2 : Value) (p0 : Tr37) (r : Int) (H : DB n p0 = some r) (h_v1 : Sl w0 (NX []) CS v1 p0.un.2.1.un.2.2.2) (h_v2 : Sl w0 (NX []) Ff v2 p0.un.2.2.2.2), Calls Tryd.prog 36 #[.agg #[.int .i64 p0.un.1, .int .i64 p0.un.2.1.un.1, .int .i64 p0.un.2.1.un.2.1, .int .i64 p0.un.2.1.un.2.2.1, v1, .int .i64 p0.un.2.2.1, .int .i64 p0.un.2.2.2.1, v2]] w0 fun e w' => e = .returned (.int .i64 r) ∧ Below w0.heap.size w0 w' := by
  intro n
  induction n with
  | zero => intro Y w0 v1 v2 p0 r H; exact nomatch H
  | succ n ih => intro Y w0 v1 v2 p0 r H h_v1 h_v2; exact NY (DB n) ih Y w0 v1 v2 p0 r H h_v1 h_v2
theorem Ql (Y : Nat → Prop) (w0 : World) (v1 : Value) (v2 : Value) (p0 : Tr37) (r : Int) (H : Mt p0 = some r) (h_v1 : Sl w0 (NX []) CS v1 p0.un.2.1.un.2.2.2) (h_v2 : Sl w0 (NX []) Ff v2 p0.un.2.2.2.2) :
    Calls Tryd.prog 36 #[.agg #[.int .i64 p0.un.1, .int .i64 p0.un.2.1.un.1, .int .i64 p0.un.2.1.un.2.1, .int .i64 p0.un.2.1.un.2.2.1, v1, .int .i64 p0.un.2.2.1, .int .i64 p0.un.2.2.2.1, v2]] w0 fun e w' => e = .returned (.int .i64 r) ∧ Below w0.heap.size w0 w' := by
  obtain ⟨n, H⟩ := BR H
  exact Pw n Y w0 v1 v2 p0 r H h_v1 h_v2
theorem VQ : Has Tryd.prog 37 := ⟨fun args w => An Tryd.func37 rfl (by decide) args w⟩
noncomputable def C6 (fRec : Tr37 → Option Int) (p0 : Tr37) : (Int × Int) → Option ((Int × Int) ⊕ Int)
  | (x4, x5) => (if x5 < (p0.un.2.2.2.2.length : Int) then (ix p0.un.2.2.2.2 x5).bind fun x6 => (fRec (Tr37.of (x6.un.1, Tr34.of (x6.un.2.1.un.1, x6.un.2.1.un.2.1, x6.un.2.1.un.2.2.1, x6.un.2.1.un.2.2.2), x6.un.2.2.1, x6.un.2.2.2.1, x6.un.2.2.2.2))).bind fun x7 => some (.inl (DP (x4 + x7), DP (x5 + 1))) else some (.inr x4))
noncomputable def En (fRec : Tr37 → Option Int) (p0 : Tr37) : Option Int := (if (decide (p0.un.1 < 2) || decide (4 < p0.un.1)) = true then (IY (Tr34.of (p0.un.2.1.un.1, p0.un.2.1.un.2.1, p0.un.2.1.un.2.2.1, p0.un.2.1.un.2.2.2))).bind fun x2 => some (DP (1 + x2)) else some 1).bind fun x1 => (Br (C6 fRec p0) (x1, 0)).bind fun x3 => some x3
noncomputable def Dt : Nat → Tr37 → Option Int
  | 0 => fun _ => none
  | n + 1 => En (Dt n)
noncomputable def LD (p0 : Tr37) : Option Int := FY fun n => Dt n p0
theorem Oa (fRec : Tr37 → Option Int) (ih : ∀ (Y : Nat → Prop) (w0 : World) (v1 : Value) (v2 : Value) (p0 : Tr37) (r : Int) (H : fRec p0 = some r) (h_v1 : Sl w0 (NX []) CS v1 p0.un.2.1.un.2.2.2) (h_v2 : Sl w0 (NX []) Ff v2 p0.un.2.2.2.2), Calls Tryd.prog 37 #[.agg #[.int .i64 p0.un.1, .int .i64 p0.un.2.1.un.1, .int .i64 p0.un.2.1.un.2.1, .int .i64 p0.un.2.1.un.2.2.1, v1, .int .i64 p0.un.2.2.1, .int .i64 p0.un.2.2.2.1, v2]] w0 fun e w' => e = .returned (.int .i64 r) ∧ Below w0.heap.size w0 w') (Y : Nat → Prop) (w0 : World) (v1 : Value) (v2 : Value) (p0 : Tr37) (r : Int) (H : En fRec p0 = some r) (h_v1 : Sl w0 (NX []) CS v1 p0.un.2.1.un.2.2.2) (h_v2 : Sl w0 (NX []) Ff v2 p0.un.2.2.2.2) :
    Calls Tryd.prog 37 #[.agg #[.int .i64 p0.un.1, .int .i64 p0.un.2.1.un.1, .int .i64 p0.un.2.1.un.2.1, .int .i64 p0.un.2.1.un.2.2.1, v1, .int .i64 p0.un.2.2.1, .int .i64 p0.un.2.2.2.1, v2]] w0 fun e w' => e = .returned (.int .i64 r) ∧ Below w0.heap.size w0 w' := by
 refine enter Tryd.func37 Aa Tryd.ntmps37 Aa fun a F => ?_
 have W := Stw.start Y w0
 obtain ⟨v3, h1, h_v1⟩ := h_v1.ex CL
 obtain ⟨v4, h2, h_v2⟩ := h_v2.ex Fx
 unfold En at H
 refine Ak (Ab ?_)
 refine D6 (cs := (Ce p0 v1 v2)) F W Aa Aa Aa fun b1 a w F W => ?_
 refine ls F W Aa (Ag F Aa).q fun a w F W => ?_
 refine Ae (Ac (Ak (Ab ?_)))
 refine ls F W Aa (Ag F Aa).q fun a w F W => ?_
 refine Ae (Ac ?_)
 obtain ⟨o1, G1, K1⟩ := Aq H
 refine A1 (fun a w => ∃ x1 : Int, some (x1) = some o1 ∧ Fr 34 [] [(1, .pointer (some ⟨b1, 0, none⟩)), (2, .int .i64 0), (3, .int .i64 x1)] a ∧ Stw ⟨Y, [], w0⟩ (Ch b1 p0 v1 v2) [] w) ?_ ?_
 ·
  have H := G1
  clear G1 K1
  refine A1 (fun a w => Fr 34 [] [(1, .pointer (some ⟨b1, 0, none⟩)), (2, .int .i64 0), (3, .int .i64 1), (12, .bool (decide (p0.un.1 < 2) || decide (4 < p0.un.1)))] a ∧ Stw ⟨Y, [], w0⟩ (Ch b1 p0 v1 v2) [] w) ?_ ?_
  ·
   refine Ab ?_
   refine ls F W Aa (Aj BX Aa Aa Aa T3 F Aa 0 Aa).q fun a w F W => ?_
   refine ls F W Aa (Av (v := Value.int .i64 p0.un.1) 0 F Aa Aa T3 Aa).q fun a w F W => ?_
   refine ls F W Aa (Co F Aa Aa).q fun a w F W => ?_
   refine ls F W Aa (Ah F Aa).q fun a w F W => ?_
   rcases Bool.eq_false_or_eq_true (decide (p0.un.1 < 2)) with hb0 | hb0
   ·
    rw [hb0] at F
    iterate 3 refine Cd F Aa Aa Aa Aa Aa Aa Aa fun a F => ?_
    refine ls F W Aa (As F Aa Aa Aa).q fun a w F W => ?_
    refine Ae (Ac ?_)
    exact ⟨F.re ⟨rfl, Aa, Aa, (Dq (by try rw [hb0]; all_goals simp only [Dr])), trivial⟩, W⟩
   rw [hb0] at F
   refine Au F W (Ad F Aa Aa Aa Aa) Aa (Al Aa) (Aj BX Aa Aa Aa T3 F Aa 0 Aa).q fun a w F W => ?_
   refine Au F W (Ad F Aa Aa Aa Aa) Aa (Al Aa) (Av (v := Value.int .i64 p0.un.1) 0 F Aa Aa T3 Aa).q fun a w F W => ?_
   refine Au F W (Ad F Aa Aa Aa Aa) Aa (Al Aa) (C2 F Aa Aa).q fun a w F W => ?_
   refine ls F W Aa (Ap F Aa Aa Aa).q fun a w F W => ?_
   refine Ae (Ac ?_)
   exact ⟨F.re ⟨rfl, Aa, Aa, (Dq (by try rw [hb0]; all_goals simp only [Dr])), trivial⟩, W⟩
  rintro a w ⟨F, W⟩
  refine Az F Aa (fun hb => ?_) fun hb => ?_
  ·
   have H := AW hb H
   rw [hb] at F
   clear hb
   refine Ab ?_
   refine ls F W Aa (Ah F Aa).q fun a w F W => ?_
   refine ls F W Aa (Aj BX Aa Aa Aa IA F Aa 1 Aa).q fun a w F W => ?_
   refine ls F W Aa (Av (v := Value.agg #[.int .i64 p0.un.2.1.un.1, .int .i64 p0.un.2.1.un.2.1, .int .i64 p0.un.2.1.un.2.2.1, v1]) 0 F Aa Aa IA Aa).q fun a w F W => ?_
   obtain ⟨x2, h3, H⟩ := Aq H
   refine ls F W Aa (A0 (v := Value.int .i64 x2) F Vv Aa (fun w W => LH any w (v1) (Tr34.of (p0.un.2.1.un.1, p0.un.2.1.un.2.1, p0.un.2.1.un.2.2.1, p0.un.2.1.un.2.2.2)) _ h3 (((AM CL h1 (Ay h_v1)) : DZ _ _ _ _ _ _) w W).nx)) fun a w F W => ?_
   refine ls F W Aa (C5 F Aa Aa Aa).q fun a w F W => ?_
   refine ls F W Aa (Ag F Aa).q fun a w F W => ?_
   refine Ae (Ac ?_)
   exact ⟨_, H, F.re ⟨rfl, Aa, Aa, trivial⟩, W⟩
  have H := AY (by rw [hb]; decide) H
  rw [hb] at F
  clear hb
  refine AA (Ac ?_)
  exact ⟨_, H, F.re ⟨rfl, Aa, Aa, trivial⟩, W⟩
 rintro a w ⟨x1, hj, F, W⟩
 have hj := AK hj
 subst hj
 have H := K1
 clear G1 K1
 obtain ⟨o2, G2, K2⟩ := Aq H
 refine A1 (fun a w => ∃ x3 : Int, some (x3) = some o2 ∧ Fr 34 [] [(2, .int .i64 0), (3, .int .i64 x3)] a ∧ Stw ⟨Y, [], w0⟩ (Ch b1 p0 v1 v2) [] w) ?_ ?_
 ·
  have H := G2
  clear G2 K2
  refine Ak (Ab ?_)
  refine ls F W Aa (Ag F Aa).q fun a w F W => ?_
  refine Ae (Ac (AP ?_))
  refine Cx H (fun s a w => Fr 34 [] [(1, .pointer (some ⟨b1, 0, none⟩)), (2, .int .i64 0), (3, .int .i64 s.1), (4, .int .i64 s.2)] a ∧ Stw ⟨Y, [], w0⟩ (Ch b1 p0 v1 v2) [] w) ⟨F.re ⟨rfl, Aa, Aa, Aa, trivial⟩, W⟩ fun s o a w H L3 hR => ?_
  obtain ⟨x4, x5⟩ := s
  obtain ⟨F, W⟩ := hR
  have F : Fr 34 [] [(1, .pointer (some ⟨b1, 0, none⟩)), (2, .int .i64 0), (3, .int .i64 x4), (4, .int .i64 x5)] a := F
  have W : Stw ⟨Y, [], w0⟩ (Ch b1 p0 v1 v2) [] w := W
  rw [C6] at H
  refine Ak (Ak (Ab ?_))
  refine ls F W Aa (Ah F Aa).q fun a w F W => ?_
  refine ls F W Aa (Aj BX Aa Aa Aa HK F Aa 7 Aa).q fun a w F W => ?_
  refine ls F W Aa (Av (v := v2) 0 F Aa Aa HK Aa).q fun a w F W => ?_
  refine ls F W Aa (D7 (r := Ff) (l := p0.un.2.2.2.2) Nb Aa F Aa (AM Fx h2 (Ay h_v2))).q fun a w F W => ?_
  refine ls F W Aa (Co F Aa Aa).q fun a w F W => ?_
  refine Ae (Ac ?_)
  refine Az F Aa (fun hb => ?_) fun hb => ?_
  ·
   have H := AW (Bw hb) H
   rw [hb] at F
   clear hb
   refine AA (Ac (Ak (AP (Ab ?_))))
   refine ls F W Aa (Ah F Aa).q fun a w F W => ?_
   refine ls F W Aa (Aj BX Aa Aa Aa HK F Aa 7 Aa).q fun a w F W => ?_
   refine ls F W Aa (Av (v := v2) 0 F Aa Aa HK Aa).q fun a w F W => ?_
   refine ls F W Aa (Ah F Aa).q fun a w F W => ?_
   obtain ⟨x6, h4, H⟩ := Aq H
   obtain ⟨v5, h5, h6⟩ := D5 h2 h4
   have h7 : HI v5 = [.int .i64 x6.un.1, .int .i64 x6.un.2.1.un.1, .int .i64 x6.un.2.1.un.2.1, .int .i64 x6.un.2.1.un.2.2.1, (v5.2.1.2.2.2.1), .int .i64 x6.un.2.2.1, .int .i64 x6.un.2.2.2.1, (v5.2.2.2.2.1)] := congrArg (fun q : Tr37 => ([.int .i64 q.un.1, .int .i64 q.un.2.1.un.1, .int .i64 q.un.2.1.un.2.1, .int .i64 q.un.2.1.un.2.2.1, (v5.2.1.2.2.2.1), .int .i64 q.un.2.2.1, .int .i64 q.un.2.2.2.1, (v5.2.2.2.2.1)] : List Value)) h6
   refine ls F W Aa (Cg (r := Kr) RC F Aa Aa (Ay h_v2) h5).q fun a w F W => ?_
   refine ls F W Aa (BC (y := Value.agg #[.int .i64 x6.un.1, .int .i64 x6.un.2.1.un.1, .int .i64 x6.un.2.1.un.2.1, .int .i64 x6.un.2.1.un.2.2.1, (v5.2.1.2.2.2.1), .int .i64 x6.un.2.2.1, .int .i64 x6.un.2.2.2.1, (v5.2.2.2.2.1)]) (j := 0) (i := x5) (enc := HI) F Aa Aa (Ay h_v2) h5 M9 MR (by rw [h7]; rfl)).q fun a w F W => ?_
   obtain ⟨x7, h8, H⟩ := Aq H
   refine ls F W Aa (A0 (v := Value.int .i64 x7) F VQ Aa (fun w W => ih any w ((v5.2.1.2.2.2.1)) ((v5.2.2.2.2.1)) (Tr37.of (x6.un.1, Tr34.of (x6.un.2.1.un.1, x6.un.2.1.un.2.1, x6.un.2.1.un.2.2.1, x6.un.2.1.un.2.2.2), x6.un.2.2.1, x6.un.2.2.2.1, x6.un.2.2.2.2)) _ h8 (((Ci (Ay h_v2) h5 (AE.snd (AE.fst (AE.snd (AE.snd (AE.snd AE.here))))) (congrArg (fun q : Tr37 => q.un.2.1.un.2.2.2) h6)) : DZ _ _ _ _ _ _) w W).nx (((Ci (Ay h_v2) h5 (AE.snd (AE.snd (AE.snd (AE.snd AE.here)))) (congrArg (fun q : Tr37 => q.un.2.2.2.2) h6)) : DZ _ _ _ _ _ _) w W).nx)) fun a w F W => ?_
   refine ls F W Aa (C5 F Aa Aa Aa).q fun a w F W => ?_
   refine ls F W Aa (Ag F Aa).q fun a w F W => ?_
   refine Ae (Bn (Ac (Ab ?_)))
   refine ls F W Aa (Ah F Aa).q fun a w F W => ?_
   refine ls F W Aa (C5 F Aa Aa Aa).q fun a w F W => ?_
   refine ls F W Aa (Ag F Aa).q fun a w F W => ?_
   refine Ae (Ac ?_)
   exact ⟨_, H, F.re ⟨rfl, Aa, Aa, Aa, trivial⟩, W⟩
  have H := AY (Bx hb) H
  rw [hb] at F
  clear hb
  refine Cz ?_
  iterate 2 refine C8 ?_
  refine Cy (Ac ?_)
  have H := L3 _ H
  exact ⟨_, H, F.re ⟨rfl, Aa, trivial⟩, W⟩
 rintro a w ⟨x3, hj, F, W⟩
 have hj := AK hj
 subst hj
 have H := K2
 clear G2 K2
 refine Ak (Ab ?_)
 refine ls F W Aa (Ah F Aa).q fun a w F W => ?_
 refine ls F W Aa (Ag F Aa).q fun a w F W => ?_
 refine Ae (Ac (Ax ?_))
 have H := AK H
 subst H
 refine AG (.inl Aa) F W Aa (AD F Aa) ?_
 exact ⟨rfl, W.done⟩
theorem Po : ∀ (n : Nat) (Y : Nat → Prop) (w0 : World) (v1 : Value) (v2 : Value) (p0 : Tr37) (r : Int) (H : Dt n p0 = some r) (h_v1 : Sl w0 (NX []) CS v1 p0.un.2.1.un.2.2.2) (h_v2 : Sl w0 (NX []) Ff v2 p0.un.2.2.2.2), Calls Tryd.prog 37 #[.agg #[.int .i64 p0.un.1, .int .i64 p0.un.2.1.un.1, .int .i64 p0.un.2.1.un.2.1, .int .i64 p0.un.2.1.un.2.2.1, v1, .int .i64 p0.un.2.2.1, .int .i64 p0.un.2.2.2.1, v2]] w0 fun e w' => e = .returned (.int .i64 r) ∧ Below w0.heap.size w0 w' := by
  intro n
  induction n with
  | zero => intro Y w0 v1 v2 p0 r H; exact nomatch H
  | succ n ih => intro Y w0 v1 v2 p0 r H h_v1 h_v2; exact Oa (Dt n) ih Y w0 v1 v2 p0 r H h_v1 h_v2
theorem P6 (Y : Nat → Prop) (w0 : World) (v1 : Value) (v2 : Value) (p0 : Tr37) (r : Int) (H : LD p0 = some r) (h_v1 : Sl w0 (NX []) CS v1 p0.un.2.1.un.2.2.2) (h_v2 : Sl w0 (NX []) Ff v2 p0.un.2.2.2.2) :
    Calls Tryd.prog 37 #[.agg #[.int .i64 p0.un.1, .int .i64 p0.un.2.1.un.1, .int .i64 p0.un.2.1.un.2.1, .int .i64 p0.un.2.1.un.2.2.1, v1, .int .i64 p0.un.2.2.1, .int .i64 p0.un.2.2.2.1, v2]] w0 fun e w' => e = .returned (.int .i64 r) ∧ Below w0.heap.size w0 w' := by
  obtain ⟨n, H⟩ := BR H
  exact Po n Y w0 v1 v2 p0 r H h_v1 h_v2
theorem VI : Has Tryd.prog 38 := ⟨fun args w => An Tryd.func38 rfl (by decide) args w⟩
def Hw (p0 : Int) : Int := (if 1000 < p0 then 1000 else p0)
theorem NC (Y : Nat → Prop) (w0 : World)  (p0 : Int) (r : Int) (H : Hw p0 = r)  :
    Calls Tryd.prog 72 #[.int .i64 p0] w0 fun e w' => e = .returned (.int .i64 r) ∧ Below w0.heap.size w0 w' := by
 refine enter Tryd.func72 Aa Tryd.ntmps72 Aa fun a F => ?_
 have W := Stw.start Y w0
 unfold Hw at H
 refine Ak (Ab ?_)
 refine ls F W Aa (Ag F Aa).q fun a w F W => ?_
 refine Ae (Ac (Ak (Ak (Ab ?_))))
 refine ls F W Aa (Ah F Aa).q fun a w F W => ?_
 refine ls F W Aa (C2 F Aa Aa).q fun a w F W => ?_
 refine Ae (Ac ?_)
 refine Az F Aa (fun hb => ?_) fun hb => ?_
 ·
  have H := AW (Bw hb) H
  rw [hb] at F
  clear hb
  refine Ak (Ab ?_)
  refine ls F W Aa (Ag F Aa).q fun a w F W => ?_
  refine Ae (Ac (Ax (AO ?_)))
  subst H
  refine AG (.inl Aa) F W Aa (AD F Aa) ?_
  exact ⟨rfl, W.done⟩
 have H := AY (Bx hb) H
 rw [hb] at F
 clear hb
 refine AA (Ac (Ak (Ab ?_)))
 refine ls F W Aa (Ah F Aa).q fun a w F W => ?_
 refine ls F W Aa (Ag F Aa).q fun a w F W => ?_
 refine Ae (Ac (Ax ?_))
 subst H
 refine AG (.inl Aa) F W Aa (AD F Aa) ?_
 exact ⟨rfl, W.done⟩
theorem VC : Has Tryd.prog 72 := ⟨fun args w => An Tryd.func72 rfl (by decide) args w⟩
noncomputable def Da (fRec : Tr37 → Option Int) (p0 : Tr37) : (Int × Int) → Option ((Int × Int) ⊕ Int)
  | (x3, x4) => (if x4 < (p0.un.2.2.2.2.length : Int) then ((ix p0.un.2.2.2.2 x4).bind fun x6 => (fRec (Tr37.of (x6.un.1, Tr34.of (x6.un.2.1.un.1, x6.un.2.1.un.2.1, x6.un.2.1.un.2.2.1, x6.un.2.1.un.2.2.2), x6.un.2.2.1, x6.un.2.2.2.1, x6.un.2.2.2.2))).bind fun x7 => (if p0.un.1 = 3 then some (Hw (DP (x3 * x7))) else some x3).bind fun x8 => (if p0.un.1 = 4 then some (Hw (DP (x8 + x7))) else some x8).bind fun x9 => (if (decide (p0.un.1 = 5) && decide (x9 < x7)) = true then some x7 else some x9)).bind fun x5 => some (.inl (x5, DP (x4 + 1))) else some (.inr x3))
noncomputable def Ek (fRec : Tr37 → Option Int) (p0 : Tr37) : Option Int := (if (decide (p0.un.1 < 3) || decide (5 < p0.un.1)) = true then some 1 else (if p0.un.1 = 3 then some 1 else some 0).bind fun x1 => (Br (Da fRec p0) (x1, 0)).bind fun x2 => some x2)
noncomputable def De : Nat → Tr37 → Option Int
  | 0 => fun _ => none
  | n + 1 => Ek (De n)
noncomputable def LL (p0 : Tr37) : Option Int := FY fun n => De n p0
theorem NW (fRec : Tr37 → Option Int) (ih : ∀ (Y : Nat → Prop) (w0 : World) (v1 : Value) (v2 : Value) (p0 : Tr37) (r : Int) (H : fRec p0 = some r) (h_v1 : Sl w0 (NX []) CS v1 p0.un.2.1.un.2.2.2) (h_v2 : Sl w0 (NX []) Ff v2 p0.un.2.2.2.2), Calls Tryd.prog 38 #[.agg #[.int .i64 p0.un.1, .int .i64 p0.un.2.1.un.1, .int .i64 p0.un.2.1.un.2.1, .int .i64 p0.un.2.1.un.2.2.1, v1, .int .i64 p0.un.2.2.1, .int .i64 p0.un.2.2.2.1, v2]] w0 fun e w' => e = .returned (.int .i64 r) ∧ Below w0.heap.size w0 w') (Y : Nat → Prop) (w0 : World) (v1 : Value) (v2 : Value) (p0 : Tr37) (r : Int) (H : Ek fRec p0 = some r) (h_v1 : Sl w0 (NX []) CS v1 p0.un.2.1.un.2.2.2) (h_v2 : Sl w0 (NX []) Ff v2 p0.un.2.2.2.2) :
    Calls Tryd.prog 38 #[.agg #[.int .i64 p0.un.1, .int .i64 p0.un.2.1.un.1, .int .i64 p0.un.2.1.un.2.1, .int .i64 p0.un.2.1.un.2.2.1, v1, .int .i64 p0.un.2.2.1, .int .i64 p0.un.2.2.2.1, v2]] w0 fun e w' => e = .returned (.int .i64 r) ∧ Below w0.heap.size w0 w' := by
 refine enter Tryd.func38 Aa Tryd.ntmps38 Aa fun a F => ?_
 have W := Stw.start Y w0
 obtain ⟨v3, h1, h_v1⟩ := h_v1.ex CL
 obtain ⟨v4, h2, h_v2⟩ := h_v2.ex Fx
 unfold Ek at H
 refine Ak (Ab ?_)
 refine D6 (cs := (Ce p0 v1 v2)) F W Aa Aa Aa fun b1 a w F W => ?_
 refine ls F W Aa (Ag F Aa).q fun a w F W => ?_
 refine Ae (Ac (Ak ?_))
 refine A1 (fun a w => Fr 54 [] [(1, .pointer (some ⟨b1, 0, none⟩)), (2, .int .i64 0), (13, .bool (decide (p0.un.1 < 3) || decide (5 < p0.un.1)))] a ∧ Stw ⟨Y, [], w0⟩ (Ch b1 p0 v1 v2) [] w) ?_ ?_
 ·
  refine Ab ?_
  refine ls F W Aa (Aj BX Aa Aa Aa T3 F Aa 0 Aa).q fun a w F W => ?_
  refine ls F W Aa (Av (v := Value.int .i64 p0.un.1) 0 F Aa Aa T3 Aa).q fun a w F W => ?_
  refine ls F W Aa (Co F Aa Aa).q fun a w F W => ?_
  refine ls F W Aa (Ah F Aa).q fun a w F W => ?_
  rcases Bool.eq_false_or_eq_true (decide (p0.un.1 < 3)) with hb0 | hb0
  ·
   rw [hb0] at F
   iterate 3 refine Cd F Aa Aa Aa Aa Aa Aa Aa fun a F => ?_
   refine ls F W Aa (As F Aa Aa Aa).q fun a w F W => ?_
   refine Ae (Ac ?_)
   exact ⟨F.re ⟨rfl, Aa, (Dq (by try rw [hb0]; all_goals simp only [Dr])), trivial⟩, W⟩
  rw [hb0] at F
  refine Au F W (Ad F Aa Aa Aa Aa) Aa (Al Aa) (Aj BX Aa Aa Aa T3 F Aa 0 Aa).q fun a w F W => ?_
  refine Au F W (Ad F Aa Aa Aa Aa) Aa (Al Aa) (Av (v := Value.int .i64 p0.un.1) 0 F Aa Aa T3 Aa).q fun a w F W => ?_
  refine Au F W (Ad F Aa Aa Aa Aa) Aa (Al Aa) (C2 F Aa Aa).q fun a w F W => ?_
  refine ls F W Aa (Ap F Aa Aa Aa).q fun a w F W => ?_
  refine Ae (Ac ?_)
  exact ⟨F.re ⟨rfl, Aa, (Dq (by try rw [hb0]; all_goals simp only [Dr])), trivial⟩, W⟩
 rintro a w ⟨F, W⟩
 refine Az F Aa (fun hb => ?_) fun hb => ?_
 ·
  have H := AW hb H
  rw [hb] at F
  clear hb
  refine Ak (Ab ?_)
  refine ls F W Aa (Ag F Aa).q fun a w F W => ?_
  refine Ae (Ac (Ax (AO ?_)))
  have H := AK H
  subst H
  refine AG (.inl Aa) F W Aa (AD F Aa) ?_
  exact ⟨rfl, W.done⟩
 have H := AY (by rw [hb]; decide) H
 rw [hb] at F
 clear hb
 refine AA (Ac (Ak (Ab ?_)))
 refine ls F W Aa (Ag F Aa).q fun a w F W => ?_
 refine Ae (Ac ?_)
 obtain ⟨o1, G1, K1⟩ := Aq H
 refine A1 (fun a w => ∃ x1 : Int, some (x1) = some o1 ∧ Fr 54 [] [(1, .pointer (some ⟨b1, 0, none⟩)), (2, .int .i64 0), (3, .int .i64 x1)] a ∧ Stw ⟨Y, [], w0⟩ (Ch b1 p0 v1 v2) [] w) ?_ ?_
 ·
  have H := G1
  clear G1 K1
  refine Ak (Ab ?_)
  refine ls F W Aa (Aj BX Aa Aa Aa T3 F Aa 0 Aa).q fun a w F W => ?_
  refine ls F W Aa (Av (v := Value.int .i64 p0.un.1) 0 F Aa Aa T3 Aa).q fun a w F W => ?_
  refine ls F W Aa (Bd F Aa Aa).q fun a w F W => ?_
  refine Ae (Ac ?_)
  refine Az F Aa (fun hb => ?_) fun hb => ?_
  ·
   have H := AW (Bw hb) H
   rw [hb] at F
   clear hb
   refine Ab ?_
   refine ls F W Aa (Ag F Aa).q fun a w F W => ?_
   refine Ae (Ac ?_)
   exact ⟨_, H, F.re ⟨rfl, Aa, Aa, trivial⟩, W⟩
  have H := AY (Bx hb) H
  rw [hb] at F
  clear hb
  refine AA (Ac ?_)
  exact ⟨_, H, F.re ⟨rfl, Aa, Aa, trivial⟩, W⟩
 rintro a w ⟨x1, hj, F, W⟩
 have hj := AK hj
 subst hj
 have H := K1
 clear G1 K1
 obtain ⟨o2, G2, K2⟩ := Aq H
 refine A1 (fun a w => ∃ x2 : Int, some (x2) = some o2 ∧ Fr 54 [] [(2, .int .i64 0), (3, .int .i64 x2)] a ∧ Stw ⟨Y, [], w0⟩ (Ch b1 p0 v1 v2) [] w) ?_ ?_
 ·
  have H := G2
  clear G2 K2
  refine Ak (Ab ?_)
  refine ls F W Aa (Ag F Aa).q fun a w F W => ?_
  refine Ae (Ac (AP ?_))
  refine Cx H (fun s a w => Fr 54 [] [(1, .pointer (some ⟨b1, 0, none⟩)), (2, .int .i64 0), (3, .int .i64 s.1), (4, .int .i64 s.2)] a ∧ Stw ⟨Y, [], w0⟩ (Ch b1 p0 v1 v2) [] w) ⟨F.re ⟨rfl, Aa, Aa, Aa, trivial⟩, W⟩ fun s o a w H L3 hR => ?_
  obtain ⟨x3, x4⟩ := s
  obtain ⟨F, W⟩ := hR
  have F : Fr 54 [] [(1, .pointer (some ⟨b1, 0, none⟩)), (2, .int .i64 0), (3, .int .i64 x3), (4, .int .i64 x4)] a := F
  have W : Stw ⟨Y, [], w0⟩ (Ch b1 p0 v1 v2) [] w := W
  rw [Da] at H
  refine Ak (Ak (Ab ?_))
  refine ls F W Aa (Ah F Aa).q fun a w F W => ?_
  refine ls F W Aa (Aj BX Aa Aa Aa HK F Aa 7 Aa).q fun a w F W => ?_
  refine ls F W Aa (Av (v := v2) 0 F Aa Aa HK Aa).q fun a w F W => ?_
  refine ls F W Aa (D7 (r := Ff) (l := p0.un.2.2.2.2) Nb Aa F Aa (AM Fx h2 (Ay h_v2))).q fun a w F W => ?_
  refine ls F W Aa (Co F Aa Aa).q fun a w F W => ?_
  refine Ae (Ac ?_)
  refine Az F Aa (fun hb => ?_) fun hb => ?_
  ·
   have H := AW (Bw hb) H
   rw [hb] at F
   clear hb
   refine AA (Ac ?_)
   obtain ⟨o4, G4, K4⟩ := Aq H
   refine A1 (fun a w => ∃ x5 : Int, some (x5) = some o4 ∧ Fr 54 [] [(1, .pointer (some ⟨b1, 0, none⟩)), (2, .int .i64 0), (3, .int .i64 x5), (4, .int .i64 x4)] a ∧ Stw ⟨Y, [], w0⟩ (Ch b1 p0 v1 v2) [] w) ?_ ?_
   ·
    have H := G4
    clear G4 K4
    refine AP (Ak (Ab ?_))
    refine ls F W Aa (Aj BX Aa Aa Aa HK F Aa 7 Aa).q fun a w F W => ?_
    refine ls F W Aa (Av (v := v2) 0 F Aa Aa HK Aa).q fun a w F W => ?_
    refine ls F W Aa (Ah F Aa).q fun a w F W => ?_
    obtain ⟨x6, h3, H⟩ := Aq H
    obtain ⟨v5, h4, h5⟩ := D5 h2 h3
    have h6 : HI v5 = [.int .i64 x6.un.1, .int .i64 x6.un.2.1.un.1, .int .i64 x6.un.2.1.un.2.1, .int .i64 x6.un.2.1.un.2.2.1, (v5.2.1.2.2.2.1), .int .i64 x6.un.2.2.1, .int .i64 x6.un.2.2.2.1, (v5.2.2.2.2.1)] := congrArg (fun q : Tr37 => ([.int .i64 q.un.1, .int .i64 q.un.2.1.un.1, .int .i64 q.un.2.1.un.2.1, .int .i64 q.un.2.1.un.2.2.1, (v5.2.1.2.2.2.1), .int .i64 q.un.2.2.1, .int .i64 q.un.2.2.2.1, (v5.2.2.2.2.1)] : List Value)) h5
    refine ls F W Aa (Cg (r := Kr) RC F Aa Aa (Ay h_v2) h4).q fun a w F W => ?_
    refine ls F W Aa (BC (y := Value.agg #[.int .i64 x6.un.1, .int .i64 x6.un.2.1.un.1, .int .i64 x6.un.2.1.un.2.1, .int .i64 x6.un.2.1.un.2.2.1, (v5.2.1.2.2.2.1), .int .i64 x6.un.2.2.1, .int .i64 x6.un.2.2.2.1, (v5.2.2.2.2.1)]) (j := 0) (i := x4) (enc := HI) F Aa Aa (Ay h_v2) h4 M9 MR (by rw [h6]; rfl)).q fun a w F W => ?_
    obtain ⟨x7, h7, H⟩ := Aq H
    refine ls F W Aa (A0 (v := Value.int .i64 x7) F VI Aa (fun w W => ih any w ((v5.2.1.2.2.2.1)) ((v5.2.2.2.2.1)) (Tr37.of (x6.un.1, Tr34.of (x6.un.2.1.un.1, x6.un.2.1.un.2.1, x6.un.2.1.un.2.2.1, x6.un.2.1.un.2.2.2), x6.un.2.2.1, x6.un.2.2.2.1, x6.un.2.2.2.2)) _ h7 (((Ci (Ay h_v2) h4 (AE.snd (AE.fst (AE.snd (AE.snd (AE.snd AE.here))))) (congrArg (fun q : Tr37 => q.un.2.1.un.2.2.2) h5)) : DZ _ _ _ _ _ _) w W).nx (((Ci (Ay h_v2) h4 (AE.snd (AE.snd (AE.snd (AE.snd AE.here)))) (congrArg (fun q : Tr37 => q.un.2.2.2.2) h5)) : DZ _ _ _ _ _ _) w W).nx)) fun a w F W => ?_
    refine ls F W Aa (Ag F Aa).q fun a w F W => ?_
    refine Ae (Ac ?_)
    obtain ⟨o5, G5, K5⟩ := Aq H
    refine A1 (fun a w => ∃ x8 : Int, some (x8) = some o5 ∧ Fr 54 [] [(1, .pointer (some ⟨b1, 0, none⟩)), (2, .int .i64 0), (3, .int .i64 x8), (4, .int .i64 x4), (5, .int .i64 x7)] a ∧ Stw ⟨Y, [], w0⟩ (Ch b1 p0 v1 v2) [] w) ?_ ?_
    ·
     have H := G5
     clear G5 K5
     refine Ak (Ab ?_)
     refine ls F W Aa (Aj BX Aa Aa Aa T3 F Aa 0 Aa).q fun a w F W => ?_
     refine ls F W Aa (Av (v := Value.int .i64 p0.un.1) 0 F Aa Aa T3 Aa).q fun a w F W => ?_
     refine ls F W Aa (Bd F Aa Aa).q fun a w F W => ?_
     refine Ae (Ac ?_)
     refine Az F Aa (fun hb => ?_) fun hb => ?_
     ·
      have H := AW (Bw hb) H
      rw [hb] at F
      clear hb
      refine Ab ?_
      iterate 2 refine ls F W Aa (Ah F Aa).q fun a w F W => ?_
      refine ls F W Aa (TU F Aa Aa Aa).q fun a w F W => ?_
      refine ls F W Aa (A0 (v := Value.int .i64 (Hw (DP (x3 * x7)))) F VC Aa (fun w W => NC any w (DP (x3 * x7)) _ Aa)) fun a w F W => ?_
      refine ls F W Aa (Ag F Aa).q fun a w F W => ?_
      refine Ae (Ac ?_)
      exact ⟨_, H, F.re ⟨rfl, Aa, Aa, Aa, Aa, trivial⟩, W⟩
     have H := AY (Bx hb) H
     rw [hb] at F
     clear hb
     refine AA (Ac ?_)
     exact ⟨_, H, F.re ⟨rfl, Aa, Aa, Aa, Aa, trivial⟩, W⟩
    rintro a w ⟨x8, hj, F, W⟩
    have hj := AK hj
    subst hj
    have H := K5
    clear G5 K5
    obtain ⟨o6, G6, K6⟩ := Aq H
    refine A1 (fun a w => ∃ x9 : Int, some (x9) = some o6 ∧ Fr 54 [] [(1, .pointer (some ⟨b1, 0, none⟩)), (2, .int .i64 0), (3, .int .i64 x9), (4, .int .i64 x4), (5, .int .i64 x7)] a ∧ Stw ⟨Y, [], w0⟩ (Ch b1 p0 v1 v2) [] w) ?_ ?_
    ·
     have H := G6
     clear G6 K6
     refine Ak (Ab ?_)
     refine ls F W Aa (Aj BX Aa Aa Aa T3 F Aa 0 Aa).q fun a w F W => ?_
     refine ls F W Aa (Av (v := Value.int .i64 p0.un.1) 0 F Aa Aa T3 Aa).q fun a w F W => ?_
     refine ls F W Aa (Bd F Aa Aa).q fun a w F W => ?_
     refine Ae (Ac ?_)
     refine Az F Aa (fun hb => ?_) fun hb => ?_
     ·
      have H := AW (Bw hb) H
      rw [hb] at F
      clear hb
      refine Ab ?_
      iterate 2 refine ls F W Aa (Ah F Aa).q fun a w F W => ?_
      refine ls F W Aa (C5 F Aa Aa Aa).q fun a w F W => ?_
      refine ls F W Aa (A0 (v := Value.int .i64 (Hw (DP (x8 + x7)))) F VC Aa (fun w W => NC any w (DP (x8 + x7)) _ Aa)) fun a w F W => ?_
      refine ls F W Aa (Ag F Aa).q fun a w F W => ?_
      refine Ae (Ac ?_)
      exact ⟨_, H, F.re ⟨rfl, Aa, Aa, Aa, Aa, trivial⟩, W⟩
     have H := AY (Bx hb) H
     rw [hb] at F
     clear hb
     refine AA (Ac ?_)
     exact ⟨_, H, F.re ⟨rfl, Aa, Aa, Aa, Aa, trivial⟩, W⟩
    rintro a w ⟨x9, hj, F, W⟩
    have hj := AK hj
    subst hj
    have H := K6
    clear G6 K6
    refine A1 (fun a w => Fr 54 [] [(1, .pointer (some ⟨b1, 0, none⟩)), (2, .int .i64 0), (3, .int .i64 x9), (4, .int .i64 x4), (5, .int .i64 x7), (51, .bool (decide (p0.un.1 = 5) && decide (x9 < x7)))] a ∧ Stw ⟨Y, [], w0⟩ (Ch b1 p0 v1 v2) [] w) ?_ ?_
    ·
     refine Ab ?_
     refine ls F W Aa (Aj BX Aa Aa Aa T3 F Aa 0 Aa).q fun a w F W => ?_
     refine ls F W Aa (Av (v := Value.int .i64 p0.un.1) 0 F Aa Aa T3 Aa).q fun a w F W => ?_
     refine ls F W Aa (Bd F Aa Aa).q fun a w F W => ?_
     refine ls F W Aa (Ah F Aa).q fun a w F W => ?_
     rcases Bool.eq_false_or_eq_true (decide (p0.un.1 = 5)) with hb0 | hb0
     ·
      rw [hb0] at F
      iterate 2 refine Au F W (Ad F Aa Aa Aa Aa) Aa (Al Aa) (Ah F Aa).q fun a w F W => ?_
      refine Au F W (Ad F Aa Aa Aa Aa) Aa (Al Aa) (C2 F Aa Aa).q fun a w F W => ?_
      refine ls F W Aa (As F Aa Aa Aa).q fun a w F W => ?_
      refine Ae (Ac ?_)
      exact ⟨F.re ⟨rfl, Aa, Aa, Aa, Aa, (Dq (by try rw [hb0]; all_goals simp only [Dr])), trivial⟩, W⟩
     rw [hb0] at F
     iterate 3 refine Cd F Aa Aa Aa Aa Aa Aa Aa fun a F => ?_
     refine ls F W Aa (Ap F Aa Aa Aa).q fun a w F W => ?_
     refine Ae (Ac ?_)
     exact ⟨F.re ⟨rfl, Aa, Aa, Aa, Aa, (Dq (by try rw [hb0]; all_goals simp only [Dr])), trivial⟩, W⟩
    rintro a w ⟨F, W⟩
    refine Az F Aa (fun hb => ?_) fun hb => ?_
    ·
     have H := AW hb H
     rw [hb] at F
     clear hb
     refine Ab ?_
     refine ls F W Aa (Ah F Aa).q fun a w F W => ?_
     refine ls F W Aa (Ag F Aa).q fun a w F W => ?_
     refine Ae (Bn (Ac ?_))
     exact ⟨_, H, F.re ⟨rfl, Aa, Aa, Aa, trivial⟩, W⟩
    have H := AY (by rw [hb]; decide) H
    rw [hb] at F
    clear hb
    refine AA (Bn (Ac ?_))
    exact ⟨_, H, F.re ⟨rfl, Aa, Aa, Aa, trivial⟩, W⟩
   rintro a w ⟨x5, hj, F, W⟩
   have hj := AK hj
   subst hj
   have H := K4
   clear G4 K4
   refine Ab ?_
   refine ls F W Aa (Ah F Aa).q fun a w F W => ?_
   refine ls F W Aa (C5 F Aa Aa Aa).q fun a w F W => ?_
   refine ls F W Aa (Ag F Aa).q fun a w F W => ?_
   refine Ae (Ac ?_)
   exact ⟨_, H, F.re ⟨rfl, Aa, Aa, Aa, trivial⟩, W⟩
  have H := AY (Bx hb) H
  rw [hb] at F
  clear hb
  refine Cz ?_
  iterate 2 refine C8 ?_
  refine Cy (Ac ?_)
  have H := L3 _ H
  exact ⟨_, H, F.re ⟨rfl, Aa, trivial⟩, W⟩
 rintro a w ⟨x2, hj, F, W⟩
 have hj := AK hj
 subst hj
 have H := K2
 clear G2 K2
 refine Ak (Ab ?_)
 refine ls F W Aa (Ah F Aa).q fun a w F W => ?_
 refine ls F W Aa (Ag F Aa).q fun a w F W => ?_
 refine Ae (Ac (Ax ?_))
 have H := AK H
 subst H
 refine AG (.inl Aa) F W Aa (AD F Aa) ?_
 exact ⟨rfl, W.done⟩
theorem OU : ∀ (n : Nat) (Y : Nat → Prop) (w0 : World) (v1 : Value) (v2 : Value) (p0 : Tr37) (r : Int) (H : De n p0 = some r) (h_v1 : Sl w0 (NX []) CS v1 p0.un.2.1.un.2.2.2) (h_v2 : Sl w0 (NX []) Ff v2 p0.un.2.2.2.2), Calls Tryd.prog 38 #[.agg #[.int .i64 p0.un.1, .int .i64 p0.un.2.1.un.1, .int .i64 p0.un.2.1.un.2.1, .int .i64 p0.un.2.1.un.2.2.1, v1, .int .i64 p0.un.2.2.1, .int .i64 p0.un.2.2.2.1, v2]] w0 fun e w' => e = .returned (.int .i64 r) ∧ Below w0.heap.size w0 w' := by
  intro n
  induction n with
  | zero => intro Y w0 v1 v2 p0 r H; exact nomatch H
  | succ n ih => intro Y w0 v1 v2 p0 r H h_v1 h_v2; exact NW (De n) ih Y w0 v1 v2 p0 r H h_v1 h_v2
theorem PR (Y : Nat → Prop) (w0 : World) (v1 : Value) (v2 : Value) (p0 : Tr37) (r : Int) (H : LL p0 = some r) (h_v1 : Sl w0 (NX []) CS v1 p0.un.2.1.un.2.2.2) (h_v2 : Sl w0 (NX []) Ff v2 p0.un.2.2.2.2) :
    Calls Tryd.prog 38 #[.agg #[.int .i64 p0.un.1, .int .i64 p0.un.2.1.un.1, .int .i64 p0.un.2.1.un.2.1, .int .i64 p0.un.2.1.un.2.2.1, v1, .int .i64 p0.un.2.2.1, .int .i64 p0.un.2.2.2.1, v2]] w0 fun e w' => e = .returned (.int .i64 r) ∧ Below w0.heap.size w0 w' := by
  obtain ⟨n, H⟩ := BR H
  exact OU n Y w0 v1 v2 p0 r H h_v1 h_v2
end Go.Proofs.YtlgjpoapclifbaaDoor
