/- The functions of layer 39, D9. Conditions: none. -/
import Derived.Test.YtkmacelfldeenaaDoorcA0
namespace Go.Proofs.YtkmacelfldeenaaDoor
open Go Go.RowKit
set_option linter.unusedVariables false
set_option linter.unusedSimpArgs false
set_option maxRecDepth 20000
theorem I6 : Has Tryd.prog 22 := ⟨fun args w => Ak Tryd.func22 rfl (by decide) args w⟩
def Co (p0 : Int × Int × Int) : Bool := (if (decide (p0.1 < 1) || (decide (11 < p0.1) || (decide (p0.2.1 < (-1)) || (decide (15 < p0.2.1) || (decide (p0.2.2 < (-1000)) || decide (1048576 < p0.2.2)))))) = true then false else (if (!(Bq p0.1) && decide (p0.2.1 ≠ 0)) = true then false else ((Bw p0.1) || decide (p0.2.2 = 0))))
theorem Gu (Y : Nat → Prop) (w0 : World)  (p0 : Int × Int × Int) (r : Bool) (H : Co p0 = r)  :
    Calls Tryd.prog 10 #[.agg #[.int .i64 p0.1, .int .i64 p0.2.1, .int .i64 p0.2.2]] w0 fun e w' => e = .returned (.bool r) ∧ Below w0.heap.size w0 w' := by
 refine enter Tryd.func10 Aa Tryd.ntmps10 Aa fun a F => ?_
 have W := Stw.start Y w0
 unfold Co at H
 refine Ah (Ac ?_)
 refine FX (cs := [.int .i64 p0.1, .int .i64 p0.2.1, .int .i64 p0.2.2]) F W Aa Aa Aa fun b1 a w F W => ?_
 refine ls F W Aa (Ad F Aa).q fun a w F W => ?_
 refine Ae (Ab (Ah ?_))
 refine AX (fun a w => Fr 48 [] [(1, .pointer (some ⟨b1, 0, none⟩)), (2, .bool false), (30, .bool (decide (p0.1 < 1) || (decide (11 < p0.1) || (decide (p0.2.1 < (-1)) || (decide (15 < p0.2.1) || (decide (p0.2.2 < (-1000)) || decide (1048576 < p0.2.2)))))))] a ∧ Stw ⟨Y, [], w0⟩ [(b1, [.int .i64 p0.1, .int .i64 p0.2.1, .int .i64 p0.2.2])] [] w) ?_ ?_
 ·
  refine Ac ?_
  refine ls F W Aa (Ao DI Aa Aa Aa T3 F Aa 0 Aa).q fun a w F W => ?_
  refine ls F W Aa (AE (v := Value.int .i64 p0.1) 0 F Aa Aa T3 Aa).q fun a w F W => ?_
  refine ls F W Aa (CO F Aa Aa).q fun a w F W => ?_
  refine ls F W Aa (Af F Aa).q fun a w F W => ?_
  rcases Bool.eq_false_or_eq_true (decide (p0.1 < 1)) with hb0 | hb0
  ·
   rw [hb0] at F
   iterate 3 refine Bd F Aa Aa Aa Aa Aa Aa Aa fun a F => ?_
   refine ls F W Aa (Al F Aa Aa Aa).q fun a w F W => ?_
   refine ls F W Aa (Af F Aa).q fun a w F W => ?_
   iterate 3 refine Bd F Aa Aa Aa Aa Aa Aa Aa fun a F => ?_
   refine ls F W Aa (Al F Aa Aa Aa).q fun a w F W => ?_
   refine ls F W Aa (Af F Aa).q fun a w F W => ?_
   iterate 3 refine Bd F Aa Aa Aa Aa Aa Aa Aa fun a F => ?_
   refine ls F W Aa (Al F Aa Aa Aa).q fun a w F W => ?_
   refine ls F W Aa (Af F Aa).q fun a w F W => ?_
   iterate 3 refine Bd F Aa Aa Aa Aa Aa Aa Aa fun a F => ?_
   refine ls F W Aa (Al F Aa Aa Aa).q fun a w F W => ?_
   refine ls F W Aa (Af F Aa).q fun a w F W => ?_
   iterate 3 refine Bd F Aa Aa Aa Aa Aa Aa Aa fun a F => ?_
   refine ls F W Aa (Al F Aa Aa Aa).q fun a w F W => ?_
   refine Ae (Ab ?_)
   exact ⟨F.re ⟨rfl, Aa, (by show some (Value.bool true) = some (Value.bool (decide (p0.1 < 1) || (decide (11 < p0.1) || (decide (p0.2.1 < (-1)) || (decide (15 < p0.2.1) || (decide (p0.2.2 < (-1000)) || decide (1048576 < p0.2.2))))))); try rw [hb0]; all_goals simp only [Bool.not_true, Bool.not_false, Bool.true_and, Bool.false_and, Bool.true_or, Bool.false_or, Bool.and_true, Bool.or_false, cond_true, cond_false]), trivial⟩, W⟩
  rw [hb0] at F
  refine As F W (Ag F Aa Aa Aa Aa) Aa (An Aa) (Ao DI Aa Aa Aa T3 F Aa 0 Aa).q fun a w F W => ?_
  refine As F W (Ag F Aa Aa Aa Aa) Aa (An Aa) (AE (v := Value.int .i64 p0.1) 0 F Aa Aa T3 Aa).q fun a w F W => ?_
  refine As F W (Ag F Aa Aa Aa Aa) Aa (An Aa) (EI F Aa Aa).q fun a w F W => ?_
  refine ls F W Aa (Aj F Aa Aa Aa).q fun a w F W => ?_
  refine ls F W Aa (Af F Aa).q fun a w F W => ?_
  rcases Bool.eq_false_or_eq_true (decide (11 < p0.1)) with hb1 | hb1
  ·
   rw [hb1] at F
   iterate 3 refine Bd F Aa Aa Aa Aa Aa Aa Aa fun a F => ?_
   refine ls F W Aa (Al F Aa Aa Aa).q fun a w F W => ?_
   refine ls F W Aa (Af F Aa).q fun a w F W => ?_
   iterate 3 refine Bd F Aa Aa Aa Aa Aa Aa Aa fun a F => ?_
   refine ls F W Aa (Al F Aa Aa Aa).q fun a w F W => ?_
   refine ls F W Aa (Af F Aa).q fun a w F W => ?_
   iterate 3 refine Bd F Aa Aa Aa Aa Aa Aa Aa fun a F => ?_
   refine ls F W Aa (Al F Aa Aa Aa).q fun a w F W => ?_
   refine ls F W Aa (Af F Aa).q fun a w F W => ?_
   iterate 3 refine Bd F Aa Aa Aa Aa Aa Aa Aa fun a F => ?_
   refine ls F W Aa (Al F Aa Aa Aa).q fun a w F W => ?_
   refine Ae (Ab ?_)
   exact ⟨F.re ⟨rfl, Aa, (by show some (Value.bool true) = some (Value.bool (decide (p0.1 < 1) || (decide (11 < p0.1) || (decide (p0.2.1 < (-1)) || (decide (15 < p0.2.1) || (decide (p0.2.2 < (-1000)) || decide (1048576 < p0.2.2))))))); try rw [hb1]; try rw [hb0]; all_goals simp only [Bool.not_true, Bool.not_false, Bool.true_and, Bool.false_and, Bool.true_or, Bool.false_or, Bool.and_true, Bool.or_false, cond_true, cond_false]), trivial⟩, W⟩
  rw [hb1] at F
  refine As F W (Ag F Aa Aa Aa Aa) Aa (An Aa) (Ao DI Aa Aa Aa T3 F Aa 1 Aa).q fun a w F W => ?_
  refine As F W (Ag F Aa Aa Aa Aa) Aa (An Aa) (AE (v := Value.int .i64 p0.2.1) 0 F Aa Aa T3 Aa).q fun a w F W => ?_
  refine As F W (Ag F Aa Aa Aa Aa) Aa (An Aa) (CO F Aa Aa).q fun a w F W => ?_
  refine ls F W Aa (Aj F Aa Aa Aa).q fun a w F W => ?_
  refine ls F W Aa (Af F Aa).q fun a w F W => ?_
  rcases Bool.eq_false_or_eq_true (decide (p0.2.1 < (-1))) with hb2 | hb2
  ·
   rw [hb2] at F
   iterate 3 refine Bd F Aa Aa Aa Aa Aa Aa Aa fun a F => ?_
   refine ls F W Aa (Al F Aa Aa Aa).q fun a w F W => ?_
   refine ls F W Aa (Af F Aa).q fun a w F W => ?_
   iterate 3 refine Bd F Aa Aa Aa Aa Aa Aa Aa fun a F => ?_
   refine ls F W Aa (Al F Aa Aa Aa).q fun a w F W => ?_
   refine ls F W Aa (Af F Aa).q fun a w F W => ?_
   iterate 3 refine Bd F Aa Aa Aa Aa Aa Aa Aa fun a F => ?_
   refine ls F W Aa (Al F Aa Aa Aa).q fun a w F W => ?_
   refine Ae (Ab ?_)
   exact ⟨F.re ⟨rfl, Aa, (by show some (Value.bool true) = some (Value.bool (decide (p0.1 < 1) || (decide (11 < p0.1) || (decide (p0.2.1 < (-1)) || (decide (15 < p0.2.1) || (decide (p0.2.2 < (-1000)) || decide (1048576 < p0.2.2))))))); try rw [hb2]; try rw [hb1]; try rw [hb0]; all_goals simp only [Bool.not_true, Bool.not_false, Bool.true_and, Bool.false_and, Bool.true_or, Bool.false_or, Bool.and_true, Bool.or_false, cond_true, cond_false]), trivial⟩, W⟩
  rw [hb2] at F
  refine As F W (Ag F Aa Aa Aa Aa) Aa (An Aa) (Ao DI Aa Aa Aa T3 F Aa 1 Aa).q fun a w F W => ?_
  refine As F W (Ag F Aa Aa Aa Aa) Aa (An Aa) (AE (v := Value.int .i64 p0.2.1) 0 F Aa Aa T3 Aa).q fun a w F W => ?_
  refine As F W (Ag F Aa Aa Aa Aa) Aa (An Aa) (EI F Aa Aa).q fun a w F W => ?_
  refine ls F W Aa (Aj F Aa Aa Aa).q fun a w F W => ?_
  refine ls F W Aa (Af F Aa).q fun a w F W => ?_
  rcases Bool.eq_false_or_eq_true (decide (15 < p0.2.1)) with hb3 | hb3
  ·
   rw [hb3] at F
   iterate 3 refine Bd F Aa Aa Aa Aa Aa Aa Aa fun a F => ?_
   refine ls F W Aa (Al F Aa Aa Aa).q fun a w F W => ?_
   refine ls F W Aa (Af F Aa).q fun a w F W => ?_
   iterate 3 refine Bd F Aa Aa Aa Aa Aa Aa Aa fun a F => ?_
   refine ls F W Aa (Al F Aa Aa Aa).q fun a w F W => ?_
   refine Ae (Ab ?_)
   exact ⟨F.re ⟨rfl, Aa, (by show some (Value.bool true) = some (Value.bool (decide (p0.1 < 1) || (decide (11 < p0.1) || (decide (p0.2.1 < (-1)) || (decide (15 < p0.2.1) || (decide (p0.2.2 < (-1000)) || decide (1048576 < p0.2.2))))))); try rw [hb2]; try rw [hb3]; try rw [hb1]; try rw [hb0]; all_goals simp only [Bool.not_true, Bool.not_false, Bool.true_and, Bool.false_and, Bool.true_or, Bool.false_or, Bool.and_true, Bool.or_false, cond_true, cond_false]), trivial⟩, W⟩
  rw [hb3] at F
  refine As F W (Ag F Aa Aa Aa Aa) Aa (An Aa) (Ao DI Aa Aa Aa T3 F Aa 2 Aa).q fun a w F W => ?_
  refine As F W (Ag F Aa Aa Aa Aa) Aa (An Aa) (AE (v := Value.int .i64 p0.2.2) 0 F Aa Aa T3 Aa).q fun a w F W => ?_
  refine As F W (Ag F Aa Aa Aa Aa) Aa (An Aa) (CO F Aa Aa).q fun a w F W => ?_
  refine ls F W Aa (Aj F Aa Aa Aa).q fun a w F W => ?_
  refine ls F W Aa (Af F Aa).q fun a w F W => ?_
  rcases Bool.eq_false_or_eq_true (decide (p0.2.2 < (-1000))) with hb4 | hb4
  ·
   rw [hb4] at F
   iterate 3 refine Bd F Aa Aa Aa Aa Aa Aa Aa fun a F => ?_
   refine ls F W Aa (Al F Aa Aa Aa).q fun a w F W => ?_
   refine Ae (Ab ?_)
   exact ⟨F.re ⟨rfl, Aa, (by show some (Value.bool true) = some (Value.bool (decide (p0.1 < 1) || (decide (11 < p0.1) || (decide (p0.2.1 < (-1)) || (decide (15 < p0.2.1) || (decide (p0.2.2 < (-1000)) || decide (1048576 < p0.2.2))))))); try rw [hb4]; try rw [hb2]; try rw [hb3]; try rw [hb1]; try rw [hb0]; all_goals simp only [Bool.not_true, Bool.not_false, Bool.true_and, Bool.false_and, Bool.true_or, Bool.false_or, Bool.and_true, Bool.or_false, cond_true, cond_false]), trivial⟩, W⟩
  rw [hb4] at F
  refine As F W (Ag F Aa Aa Aa Aa) Aa (An Aa) (Ao DI Aa Aa Aa T3 F Aa 2 Aa).q fun a w F W => ?_
  refine As F W (Ag F Aa Aa Aa Aa) Aa (An Aa) (AE (v := Value.int .i64 p0.2.2) 0 F Aa Aa T3 Aa).q fun a w F W => ?_
  refine As F W (Ag F Aa Aa Aa Aa) Aa (An Aa) (EI F Aa Aa).q fun a w F W => ?_
  refine ls F W Aa (Aj F Aa Aa Aa).q fun a w F W => ?_
  refine Ae (Ab ?_)
  exact ⟨F.re ⟨rfl, Aa, (by show some (Value.bool (decide (1048576 < p0.2.2))) = some (Value.bool (decide (p0.1 < 1) || (decide (11 < p0.1) || (decide (p0.2.1 < (-1)) || (decide (15 < p0.2.1) || (decide (p0.2.2 < (-1000)) || decide (1048576 < p0.2.2))))))); try rw [hb4]; try rw [hb2]; try rw [hb3]; try rw [hb1]; try rw [hb0]; all_goals simp only [Bool.not_true, Bool.not_false, Bool.true_and, Bool.false_and, Bool.true_or, Bool.false_or, Bool.and_true, Bool.or_false, cond_true, cond_false]), trivial⟩, W⟩
 rintro a w ⟨F, W⟩
 refine Av F Aa (fun hb => ?_) fun hb => ?_
 ·
  have H := AF hb H
  rw [hb] at F
  clear hb
  refine Ah (Ac ?_)
  refine ls F W Aa (Ad F Aa).q fun a w F W => ?_
  refine Ae (Ab (Aw (AA ?_)))
  subst H
  refine AO (.inl Aa) F W Aa (Au F Aa) ?_
  exact ⟨rfl, W.done⟩
 have H := AG (by rw [hb]; decide) H
 rw [hb] at F
 clear hb
 refine Ay (Ab (Ah ?_))
 refine AX (fun a w => Fr 48 [] [(1, .pointer (some ⟨b1, 0, none⟩)), (2, .bool false), (39, .bool (!(Bq p0.1) && decide (p0.2.1 ≠ 0)))] a ∧ Stw ⟨Y, [], w0⟩ [(b1, [.int .i64 p0.1, .int .i64 p0.2.1, .int .i64 p0.2.2])] [] w) ?_ ?_
 ·
  refine Ac ?_
  refine ls F W Aa (Ao DI Aa Aa Aa T3 F Aa 0 Aa).q fun a w F W => ?_
  refine ls F W Aa (AE (v := Value.int .i64 p0.1) 0 F Aa Aa T3 Aa).q fun a w F W => ?_
  refine ls F W Aa (AM (v := Value.bool (Bq p0.1)) F IW Aa (fun w W => FN any w p0.1 _ Aa)) fun a w F W => ?_
  refine ls F W Aa (Fc F Aa).q fun a w F W => ?_
  refine ls F W Aa (Af F Aa).q fun a w F W => ?_
  rcases Bool.eq_false_or_eq_true (!(Bq p0.1)) with hb0 | hb0
  ·
   rw [hb0] at F
   refine As F W (Ag F Aa Aa Aa Aa) Aa (An Aa) (Ao DI Aa Aa Aa T3 F Aa 1 Aa).q fun a w F W => ?_
   refine As F W (Ag F Aa Aa Aa Aa) Aa (An Aa) (AE (v := Value.int .i64 p0.2.1) 0 F Aa Aa T3 Aa).q fun a w F W => ?_
   refine As F W (Ag F Aa Aa Aa Aa) Aa (An Aa) (EJ F Aa Aa).q fun a w F W => ?_
   refine ls F W Aa (Al F Aa Aa Aa).q fun a w F W => ?_
   refine Ae (Ab ?_)
   exact ⟨F.re ⟨rfl, Aa, (by show some (Value.bool (decide (p0.2.1 ≠ 0))) = some (Value.bool (!(Bq p0.1) && decide (p0.2.1 ≠ 0))); try rw [hb0]; all_goals simp only [Bool.not_true, Bool.not_false, Bool.true_and, Bool.false_and, Bool.true_or, Bool.false_or, Bool.and_true, Bool.or_false, cond_true, cond_false]), trivial⟩, W⟩
  rw [hb0] at F
  iterate 3 refine Bd F Aa Aa Aa Aa Aa Aa Aa fun a F => ?_
  refine ls F W Aa (Aj F Aa Aa Aa).q fun a w F W => ?_
  refine Ae (Ab ?_)
  exact ⟨F.re ⟨rfl, Aa, (by show some (Value.bool false) = some (Value.bool (!(Bq p0.1) && decide (p0.2.1 ≠ 0))); try rw [hb0]; all_goals simp only [Bool.not_true, Bool.not_false, Bool.true_and, Bool.false_and, Bool.true_or, Bool.false_or, Bool.and_true, Bool.or_false, cond_true, cond_false]), trivial⟩, W⟩
 rintro a w ⟨F, W⟩
 refine Av F Aa (fun hb => ?_) fun hb => ?_
 ·
  have H := AF hb H
  rw [hb] at F
  clear hb
  refine Ah (Ac ?_)
  refine ls F W Aa (Ad F Aa).q fun a w F W => ?_
  refine Ae (Ab (Aw (AA ?_)))
  subst H
  refine AO (.inl Aa) F W Aa (Au F Aa) ?_
  exact ⟨rfl, W.done⟩
 have H := AG (by rw [hb]; decide) H
 rw [hb] at F
 clear hb
 refine Ay (Ab ?_)
 refine AX (fun a w => Fr 48 [] [(2, .bool ((Bw p0.1) || decide (p0.2.2 = 0)))] a ∧ Stw ⟨Y, [], w0⟩ [(b1, [.int .i64 p0.1, .int .i64 p0.2.1, .int .i64 p0.2.2])] [] w) ?_ ?_
 ·
  refine Ac ?_
  refine ls F W Aa (Ao DI Aa Aa Aa T3 F Aa 0 Aa).q fun a w F W => ?_
  refine ls F W Aa (AE (v := Value.int .i64 p0.1) 0 F Aa Aa T3 Aa).q fun a w F W => ?_
  refine ls F W Aa (AM (v := Value.bool (Bw p0.1)) F I6 Aa (fun w W => FA any w p0.1 _ Aa)) fun a w F W => ?_
  refine ls F W Aa (Af F Aa).q fun a w F W => ?_
  rcases Bool.eq_false_or_eq_true (Bw p0.1) with hb0 | hb0
  ·
   rw [hb0] at F
   iterate 3 refine Bd F Aa Aa Aa Aa Aa Aa Aa fun a F => ?_
   refine ls F W Aa (Al F Aa Aa Aa).q fun a w F W => ?_
   refine ls F W Aa (Ad F Aa).q fun a w F W => ?_
   refine Ae (Ab ?_)
   exact ⟨F.re ⟨(by show some (Value.bool true) = some (Value.bool ((Bw p0.1) || decide (p0.2.2 = 0))); try rw [hb0]; all_goals simp only [Bool.not_true, Bool.not_false, Bool.true_and, Bool.false_and, Bool.true_or, Bool.false_or, Bool.and_true, Bool.or_false, cond_true, cond_false]), trivial⟩, W⟩
  rw [hb0] at F
  refine As F W (Ag F Aa Aa Aa Aa) Aa (An Aa) (Ao DI Aa Aa Aa T3 F Aa 2 Aa).q fun a w F W => ?_
  refine As F W (Ag F Aa Aa Aa Aa) Aa (An Aa) (AE (v := Value.int .i64 p0.2.2) 0 F Aa Aa T3 Aa).q fun a w F W => ?_
  refine As F W (Ag F Aa Aa Aa Aa) Aa (An Aa) (AP F Aa Aa).q fun a w F W => ?_
  refine ls F W Aa (Aj F Aa Aa Aa).q fun a w F W => ?_
  refine ls F W Aa (Ad F Aa).q fun a w F W => ?_
  refine Ae (Ab ?_)
  exact ⟨F.re ⟨(by show some (Value.bool (decide (p0.2.2 = 0))) = some (Value.bool ((Bw p0.1) || decide (p0.2.2 = 0))); try rw [hb0]; all_goals simp only [Bool.not_true, Bool.not_false, Bool.true_and, Bool.false_and, Bool.true_or, Bool.false_or, Bool.and_true, Bool.or_false, cond_true, cond_false]), trivial⟩, W⟩
 rintro a w ⟨F, W⟩
 refine Aw ?_
 subst H
 refine AO (.inl Aa) F W Aa (Au F Aa) ?_
 exact ⟨rfl, W.done⟩
theorem Ja : Has Tryd.prog 10 := ⟨fun args w => Ak Tryd.func10 rfl (by decide) args w⟩
noncomputable def Dd (fRec : Int → Option (List UInt8)) (p0 : Int) : Option (List UInt8) := (if p0 < 0 then (if (-10) < p0 then (fRec (CF (0 - p0))).bind fun x1 => (CR ([45] : List UInt8) x1).bind fun x2 => some x2 else (fRec (CF (0 - (CF (Int.tdiv p0 10))))).bind fun x3 => (CR ([45] : List UInt8) x3).bind fun x4 => (fRec (CF (0 - (Int.tmod p0 10)))).bind fun x5 => (CR x4 x5).bind fun x6 => some x6) else (if p0 < 10 then (CP ([48, 49, 50, 51, 52, 53, 54, 55, 56, 57] : List UInt8) p0 (CF (p0 + 1))).bind fun x7 => some x7 else (fRec (CF (Int.tdiv p0 10))).bind fun x8 => (CP ([48, 49, 50, 51, 52, 53, 54, 55, 56, 57] : List UInt8) (Int.tmod p0 10) (CF ((Int.tmod p0 10) + 1))).bind fun x9 => (CR x8 x9).bind fun x10 => some x10))
noncomputable def CH : Nat → Int → Option (List UInt8)
  | 0 => fun _ => none
  | n + 1 => Dd (CH n)
noncomputable def Do (p0 : Int) : Option (List UInt8) := HJ fun n => CH n p0
noncomputable def D6 (p0 : Int × Int × Int) : Option (List UInt8) := (if (!(Co p0)) = true then some ([] : List UInt8) else (D1 p0.1).bind fun x1 => (if (Bq p0.1) = true then (CR x1 ([32] : List UInt8)).bind fun x3 => (Do p0.2.1).bind fun x4 => (CR x3 x4).bind fun x5 => some x5 else some x1).bind fun x2 => (if (Bw p0.1) = true then (CR x2 ([32] : List UInt8)).bind fun x7 => (Do p0.2.2).bind fun x8 => (CR x7 x8).bind fun x9 => some x9 else some x2).bind fun x6 => some x6)
noncomputable def B3 (p0 : List (Int × Int × Int)) : ((List (Int × Int × Int)) × Int) → Option (((List (Int × Int × Int)) × Int) ⊕ (List (Int × Int × Int)))
  | (x2, x3) => (if x3 < (p0.length : Int) then (ix p0 x3).bind fun x4 => (CR x2 ([(Bl x4)] : List (Int × Int × Int))).bind fun x5 => some (.inl (x5, CF (x3 + 1))) else some (.inr x2))
noncomputable def Cf (p0 : List (Int × Int × Int)) : Option (List (Int × Int × Int)) := (AD (B3 p0) ([], 0)).bind fun x1 => some x1
theorem Dk (Y : Nat → Prop) (w0 : World) (v1 : Value) (p0 : List (Int × Int × Int)) (r : (List (Int × Int × Int))) (H : Cf p0 = some r) (h_v1 : Sl w0 (NX []) F9 v1 p0) :
    Calls Tryd.prog 16 #[v1] w0 fun e w' => ∃ x : Value, e = .returned (x) ∧ Stw ⟨Y, [], w0⟩ [] [row (x) 26 BD r] w' := by
 refine enter Tryd.func16 Aa Tryd.ntmps16 Aa fun a F => ?_
 have W := Stw.start Y w0
 unfold Cf at H
 refine Ah (Ac ?_)
 refine ls F W Aa (Ad F Aa).q fun a w F W => ?_
 refine Ae (Ab (Ah (Ac ?_)))
 refine ls F W Aa (Ad F Aa).q fun a w F W => ?_
 refine Ae (Ab ?_)
 obtain ⟨o1, G1, K1⟩ := Ap H
 refine AX (fun a w => ∃ x1 : List (Int × Int × Int), ∃ v2 : Value, some (x1) = some o1 ∧ Fr 20 [] [(2, .slice none 0 0), (3, v2)] a ∧ Stw ⟨Y, [], w0⟩ [] [row v2 26 BD x1] w) ?_ ?_
 ·
  have H := G1
  clear G1 K1
  refine Ah (Ac ?_)
  refine ls F W Aa (Ad F Aa).q fun a w F W => ?_
  refine Ae (Ab (AK ?_))
  have W := W.nilRow 26 BD
  refine B8 H (fun s a w => ∃ v3 : Value, Fr 20 [] [(0, v1), (2, .slice none 0 0), (3, v3), (4, .int .i64 s.2)] a ∧ Stw ⟨Y, [], w0⟩ [] [row v3 26 BD s.1] w) ⟨(Value.slice none 0 0), F.re ⟨rfl, Aa, Aa, Aa, trivial⟩, W⟩ fun s o a w H L2 hR => ?_
  obtain ⟨x2, x3⟩ := s
  obtain ⟨v3, F, W⟩ := hR
  have F : Fr 20 [] [(0, v1), (2, .slice none 0 0), (3, v3), (4, .int .i64 x3)] a := F
  have W : Stw ⟨Y, [], w0⟩ [] [row v3 26 BD x2] w := W
  rw [B3] at H
  refine Ah (Ah (Ac ?_))
  iterate 2 refine ls F W Aa (Af F Aa).q fun a w F W => ?_
  refine ls F W Aa (CV (r := F9) (l := p0) GT Aa F Aa (A6 h_v1)).q fun a w F W => ?_
  refine ls F W Aa (CO F Aa Aa).q fun a w F W => ?_
  refine Ae (Ab ?_)
  refine Av F Aa (fun hb => ?_) fun hb => ?_
  ·
   have H := AF (A3 hb) H
   rw [hb] at F
   clear hb
   refine Ay (Ab (Ah (AK (Ac ?_))))
   iterate 3 refine ls F W Aa (Af F Aa).q fun a w F W => ?_
   obtain ⟨x4, h1, H⟩ := Ap H
   refine ls F W Aa (BZ (r := F9) Ip F Aa Aa (A6 h_v1) h1).q fun a w F W => ?_
   refine ls F W Aa (Bo (y := Value.agg #[.int .i64 x4.1, .int .i64 x4.2.1, .int .i64 x4.2.2]) (j := 0) (i := x3) F Aa Aa (A6 h_v1) h1 IJ.to IK Aa).q fun a w F W => ?_
   refine ls F W Aa (AM (v := Value.agg #[.int .i64 ((Bl x4).1), .int .i64 ((Bl x4).2.1), .int .i64 ((Bl x4).2.2)]) F H8 Aa (fun w W => FE any w x4 _ Aa)) fun a w F W => ?_
   refine HM (z := Value.agg #[.int .i64 0, .int .i64 0, .int .i64 0]) (cs := [.int .i64 ((Bl x4).1), .int .i64 ((Bl x4).2.1), .int .i64 ((Bl x4).2.2)]) BD ([(Bl x4)] : List (Int × Int × Int)) F W Aa HK HQ Aa Aa Aa Aa Aa Aa (H0.repL _ _ ([(Bl x4)] : List (Int × Int × Int))) fun v4 a w F W => ?_
   obtain ⟨x5, h2, H⟩ := Ap H
   refine Fp (r := BD) (i := 1) F W Aa HK Aa Aa Aa Aa (FS W 0 Aa) h2 Aa fun v5 a w F W => ?_
   have W : Stw ⟨Y, [], w0⟩ [] [row v5 26 BD x5, row v4 26 BD ([(Bl x4)] : List (Int × Int × Int))] w := W
   refine ls F W Aa (Ad F Aa).q fun a w F W => ?_
   refine Ae (Bm (Ab (Ac ?_)))
   refine ls F W Aa (Af F Aa).q fun a w F W => ?_
   refine ls F W Aa (CL F Aa Aa Aa).q fun a w F W => ?_
   refine ls F W Aa (Ad F Aa).q fun a w F W => ?_
   refine Ae (Ab ?_)
   have W := W.sub (M' := []) (Z' := [row v5 26 BD x5]) (List.Sublist.refl _) (List.Sublist.cons_cons _ (List.nil_sublist _))
   exact ⟨_, H, (v5), F.re ⟨rfl, Aa, Aa, Aa, trivial⟩, W⟩
  have H := AG (A2 hb) H
  rw [hb] at F
  clear hb
  refine BU ?_
  iterate 2 refine Cq ?_
  refine BW (Ab ?_)
  have H := L2 _ H
  exact ⟨_, (v3), H, F.re ⟨rfl, Aa, trivial⟩, W⟩
 rintro a w ⟨x1, v2, hj, F, W⟩
 have hj := Bv hj
 subst hj
 have H := K1
 clear G1 K1
 refine Ah (Ac ?_)
 refine ls F W Aa (Af F Aa).q fun a w F W => ?_
 refine ls F W Aa (Ad F Aa).q fun a w F W => ?_
 refine Ae (Ab (Aw ?_))
 have H := Bv H
 subst H
 refine AO (.inl Aa) F W Aa (Au F Aa) ?_
 exact ⟨(v2), Aa, W⟩
theorem Iv : Has Tryd.prog 16 := ⟨fun args w => Ak Tryd.func16 rfl (by decide) args w⟩
theorem IX : Has Tryd.prog 28 := ⟨fun args w => Ak Tryd.func28 rfl (by decide) args w⟩
theorem I4 : Has Tryd.prog 29 := ⟨fun args w => Ak Tryd.func29 rfl (by decide) args w⟩
noncomputable def A5 (p0 : List (Int × Int × Int)) : (Int × List UInt8) → Option ((Int × List UInt8) ⊕ ((List UInt8) ⊕ (List UInt8)))
  | (x2, x3) => (if x2 < (p0.length : Int) then (ix p0 x2).bind fun x4 => (Bu x4).bind fun x5 => (if (!x5) = true then some (.inr (.inr ([] : List UInt8))) else (AY x4).bind fun x6 => (CR x6 ([10] : List UInt8)).bind fun x7 => (CR x3 x7).bind fun x8 => some (.inl (CF (x2 + 1), x8))) else some (.inr (.inl x3)))
noncomputable def BI (p0 : List (Int × Int × Int)) : Option (List UInt8) := Ez (AD (A5 p0) (0, ([] : List UInt8))) fun x1 => (Gj x1).bind fun x9 => some x9
theorem Dc (Y : Nat → Prop) (w0 : World) (v1 : Value) (p0 : List (Int × Int × Int)) (r : List UInt8) (H : BI p0 = some r) (h_v1 : Sl w0 (NX []) BD v1 p0) (hG : Gk [] w0) :
    Calls Tryd.prog 15 #[v1] w0 fun e w' => e = .returned (.string (bs r)) ∧ Below w0.heap.size w0 w' := by
 refine enter Tryd.func15 Aa Tryd.ntmps15 Aa fun a F => ?_
 have W := Stw.start Y w0
 unfold BI at H
 refine Ah (Ac ?_)
 refine ls F W Aa (Ad (v := Value.string (bs ([] : List UInt8))) F Aa).q fun a w F W => ?_
 refine Ae (Ab (Ah (Ac ?_)))
 refine Hi F W Aa fun b1 a w F W => ?_
 have W : Stw ⟨Y, [], w0⟩ [] [Cy 56 5 b1 (Value.slice none 0 0) ([] : List UInt8)] w := W
 refine Ae (Ab ?_)
 obtain ⟨o1, G1, K1, L1⟩ := Hq H
 refine AX (fun a w => ∃ x1 : List UInt8, ∃ v2 : Value, some (Sum.inl x1) = some o1 ∧ Fr 21 [] [(2, .string (bs ([] : List UInt8))), (3, .pointer (some ⟨b1, 0, none⟩))] a ∧ Stw ⟨Y, [], w0⟩ [] [Cy 56 5 b1 v2 x1] w) ?_ ?_
 ·
  have H := G1
  clear G1 K1
  refine Ah (Ac ?_)
  refine ls F W Aa (Af F Aa).q fun a w F W => ?_
  refine ls F W Aa (CV (r := BD) (l := p0) Gz Aa F Aa (A6 h_v1)).q fun a w F W => ?_
  refine ls F W Aa (Af F Aa).q fun a w F W => ?_
  refine Ae (Ab (AK ?_))
  refine B8 H (fun s a w => ∃ v3 : Value, Fr 21 [] [(2, .string (bs ([] : List UInt8))), (3, .pointer (some ⟨b1, 0, none⟩)), (6, v1), (7, .int .i64 (p0.length : Int)), (8, .int .i64 s.1)] a ∧ Stw ⟨Y, [], w0⟩ [] [Cy 56 5 b1 v3 s.2] w) ⟨(Value.slice none 0 0), F.re ⟨rfl, Aa, Aa, Aa, Aa, trivial⟩, W⟩ fun s o a w H L2 hR => ?_
  obtain ⟨x2, x3⟩ := s
  obtain ⟨v3, F, W⟩ := hR
  have F : Fr 21 [] [(2, .string (bs ([] : List UInt8))), (3, .pointer (some ⟨b1, 0, none⟩)), (6, v1), (7, .int .i64 (p0.length : Int)), (8, .int .i64 x2)] a := F
  have W : Stw ⟨Y, [], w0⟩ [] [Cy 56 5 b1 v3 x3] w := W
  rw [A5] at H
  refine Ah (Ac ?_)
  refine ls F W Aa (CO F Aa Aa).q fun a w F W => ?_
  refine Ae (Ab (Ah ?_))
  refine Av F Aa (fun hb => ?_) fun hb => ?_
  ·
   have H := AF (A3 hb) H
   rw [hb] at F
   clear hb
   refine Ay (Ab (Ah (AK (Ah (Ac ?_)))))
   obtain ⟨x4, h1, H⟩ := Ap H
   refine ls F W Aa (BZ (r := BD) HK F Aa Aa (A6 h_v1) h1).q fun a w F W => ?_
   refine ls F W Aa (Bo (y := Value.agg #[.int .i64 x4.1, .int .i64 x4.2.1, .int .i64 x4.2.2]) (j := 0) (i := x2) F Aa Aa (A6 h_v1) h1 H0.to Ev Aa).q fun a w F W => ?_
   refine Dx (cs := [.int .i64 0, .int .i64 0, .int .i64 0]) F W Aa HQ Aa fun b2 a w F W => ?_
   refine Cc (vs := [.int .i64 x4.1, .int .i64 x4.2.1, .int .i64 x4.2.2]) (M' := [(b2, [.int .i64 x4.1, .int .i64 x4.2.1, .int .i64 x4.2.2])]) 0 F W Aa Aa Aa Ev Aa Aa Aa Aa Aa fun w W => ?_
   refine Ae (Ab (Ah (Ah (Ac ?_))))
   refine ls F W Aa (AE (v := Value.agg #[.int .i64 x4.1, .int .i64 x4.2.1, .int .i64 x4.2.2]) 0 F Aa Aa Ev Aa).q fun a w F W => ?_
   obtain ⟨x5, h2, H⟩ := Ap H
   refine ls F W Aa (AM (v := Value.bool x5) F H9 Aa (fun w W => Dq any w x4 _ h2)) fun a w F W => ?_
   refine ls F W Aa (Fc F Aa).q fun a w F W => ?_
   refine Ae (Ab ?_)
   refine Av F Aa (fun hb => ?_) fun hb => ?_
   ·
    have H := AF hb H
    rw [hb] at F
    clear hb
    refine Ah (Ac ?_)
    refine ls F W Aa (Ad (v := Value.string (bs ([] : List UInt8))) F Aa).q fun a w F W => ?_
    refine Ae (Ab (Aw (AA (AB ?_))))
    iterate 2 refine AA ?_
    refine AB (AA ?_)
    have H := L2 _ H
    have H := L1 _ H
    have H := Bv H
    subst H
    refine AO (.inl Aa) F W Aa (Au F Aa) ?_
    exact ⟨rfl, W.done⟩
   have H := AG (by rw [hb]; decide) H
   rw [hb] at F
   clear hb
   refine Ay (Ab (Ac ?_))
   refine ls F W Aa (AE (v := Value.agg #[.int .i64 x4.1, .int .i64 x4.2.1, .int .i64 x4.2.2]) 0 F Aa Aa Ev Aa).q fun a w F W => ?_
   obtain ⟨x6, h3, H⟩ := Ap H
   refine ls F W Aa (AM (v := Value.string (bs x6)) F IH Aa (fun w W => Ct any w x4 _ h3 (hG.go0 W))) fun a w F W => ?_
   obtain ⟨x7, h4, H⟩ := Ap H
   refine ls F W Aa (C0 (l := x6) (m := ([10] : List UInt8)) F Aa Aa h4).q fun a w F W => ?_
   obtain ⟨x8, h5, H⟩ := Ap H
   refine BC (Ml := []) (Zl := [Cy 56 5 b1 v3 x3]) (M := [(b2, [.int .i64 x4.1, .int .i64 x4.2.1, .int .i64 x4.2.2])]) (Z := []) (β := Value) (rv := fun x => .tuple #[.int .i64 (x7.length : Int), .nilIface]) (MM := fun x => []) (ZZ := fun x => [Cy 56 5 b1 x x8]) F W IX Aa Aa (fun hL => Is _ _ w b1 v3 x3 x7 _ h5 hL) fun v4 a w F W => ?_
   have W : Stw ⟨Y, [], w0⟩ [(b2, [.int .i64 x4.1, .int .i64 x4.2.1, .int .i64 x4.2.2])] [Cy 56 5 b1 v4 x8] w := W
   refine Ae (Bm (Ab (Ac ?_)))
   refine ls F W Aa (CL F Aa Aa Aa).q fun a w F W => ?_
   refine ls F W Aa (Af F Aa).q fun a w F W => ?_
   refine Ae (Ab ?_)
   have W := W.sub (M' := []) (Z' := [Cy 56 5 b1 v4 x8]) (List.nil_sublist _) (List.Sublist.refl _)
   exact ⟨_, H, v4, F.re ⟨rfl, Aa, Aa, Aa, Aa, trivial⟩, W⟩
  have H := AG (A2 hb) H
  rw [hb] at F
  clear hb
  refine BU ?_
  iterate 2 refine Cq ?_
  refine BW (Ab ?_)
  have H := L2 _ H
  exact ⟨_, v3, H, F.re ⟨rfl, Aa, trivial⟩, W⟩
 rintro a w ⟨x1, v2, hj, F, W⟩
 have H := K1 _ hj
 clear hj G1 K1 L1
 refine Ah (Ac ?_)
 obtain ⟨x9, h6, H⟩ := Ap H
 refine BC (Ml := []) (Zl := [Cy 56 5 b1 v2 x1]) (M := []) (Z := []) (β := Unit) (rv := fun x => .string (bs x9)) (MM := fun x => []) (ZZ := fun x => [Cy 56 5 b1 v2 x1]) F W I4 Aa Aa (fun hL => Iy _ _ w b1 v2 x1 _ h6 hL) fun _ a w F W => ?_
 have W : Stw ⟨Y, [], w0⟩ [] [Cy 56 5 b1 v2 x1] w := W
 refine ls F W Aa (Ad F Aa).q fun a w F W => ?_
 refine Ae (Ab (Aw ?_))
 have H := Bv H
 subst H
 refine AO (.inl Aa) F W Aa (Au F Aa) ?_
 exact ⟨rfl, W.done⟩
theorem IU : Has Tryd.prog 15 := ⟨fun args w => Ak Tryd.func15 rfl (by decide) args w⟩
noncomputable def BH (p0 : List (Int × Int × Int)) : (List UInt8 × Int) → Option ((List UInt8 × Int) ⊕ ((List UInt8) ⊕ (List UInt8)))
  | (x2, x3) => (if x3 < (p0.length : Int) then (ix p0 x3).bind fun x4 => (if (!(Co x4)) = true then some (.inr (.inr ([] : List UInt8))) else (ix p0 x3).bind fun x5 => (D6 x5).bind fun x6 => (CR x2 x6).bind fun x7 => (CR x7 ([10] : List UInt8)).bind fun x8 => some (.inl (x8, CF (x3 + 1)))) else some (.inr (.inl x2)))
noncomputable def Fn (p0 : List (Int × Int × Int)) : Option (List UInt8) := Ez (AD (BH p0) (([] : List UInt8), 0)) fun x1 => some x1
noncomputable def B2 (p0 : List (Int × Int × Int)) (x1 : (List (Int × Int × Int))) : Int → Option (Int ⊕ (Unit ⊕ Bool))
  | x2 => (if x2 < (p0.length : Int) then (ix p0 x2).bind fun x3 => (ix x1 x2).bind fun x4 => (if (!(decide (x3.1 = x4.1 ∧ x3.2.1 = x4.2.1 ∧ x3.2.2 = x4.2.2))) = true then some (.inr (.inr false)) else some (.inl (CF (x2 + 1)))) else some (.inr (.inl ())))
noncomputable def CB (p0 : List (Int × Int × Int)) (p1 : List (Int × Int × Int)) : Option Bool := (Cf p1).bind fun x1 => (if (p0.length : Int) ≠ (x1.length : Int) then some false else Ez (AD (B2 p0 x1) 0) fun _ => some true)
theorem D7 (Y : Nat → Prop) (w0 : World) (v1 : Value) (v2 : Value) (p0 : List (Int × Int × Int)) (p1 : List (Int × Int × Int)) (r : Bool) (H : CB p0 p1 = some r) (h_v1 : Sl w0 (NX []) BD v1 p0) (h_v2 : Sl w0 (NX []) F9 v2 p1) :
    Calls Tryd.prog 18 #[v1, v2] w0 fun e w' => e = .returned (.bool r) ∧ Below w0.heap.size w0 w' := by
 refine enter Tryd.func18 Aa Tryd.ntmps18 Aa fun a F => ?_
 have W := Stw.start Y w0
 unfold CB at H
 refine Ah (Ac ?_)
 refine ls F W Aa (Ad F Aa).q fun a w F W => ?_
 refine Ae (Ab (Ah (Ac ?_)))
 refine ls F W Aa (Af F Aa).q fun a w F W => ?_
 obtain ⟨x1, h1, H⟩ := Ap H
 refine BC (Ml := []) (Zl := []) (M := []) (Z := []) (β := Value) (rv := fun x => x) (MM := fun x => []) (ZZ := fun x => [row x 26 BD x1]) F W Iv Aa Aa (fun hL => Dk _ w (v2) p1 _ h1 ((A6 h_v2) w W).nx) fun x a w F W => ?_
 obtain ⟨v3, rfl⟩ : ∃ y, y = x := ⟨x, rfl⟩
 have W : Stw ⟨Y, [], w0⟩ [] [row v3 26 BD x1] w := W
 refine ls F W Aa (Ad F Aa).q fun a w F W => ?_
 refine Ae (Ab (Ah (Ah (Ac ?_))))
 refine ls F W Aa (Af F Aa).q fun a w F W => ?_
 refine ls F W Aa (CV (r := BD) (l := p0) Gz Aa F Aa (A6 h_v1)).q fun a w F W => ?_
 refine ls F W Aa (Af F Aa).q fun a w F W => ?_
 refine ls F W Aa (CV (r := BD) (l := x1) Gz Aa F Aa (AV 0 Aa)).q fun a w F W => ?_
 refine ls F W Aa (EJ F Aa Aa).q fun a w F W => ?_
 refine Ae (Ab ?_)
 refine Av F Aa (fun hb => ?_) fun hb => ?_
 ·
  have H := AF (A3 hb) H
  rw [hb] at F
  clear hb
  refine Ah (Ac ?_)
  refine ls F W Aa (Ad F Aa).q fun a w F W => ?_
  refine Ae (Ab (Aw (AA ?_)))
  have H := Bv H
  subst H
  refine AO (.inl Aa) F W Aa (Au F Aa) ?_
  exact ⟨rfl, W.done⟩
 have H := AG (A2 hb) H
 rw [hb] at F
 clear hb
 refine Ay (Ab ?_)
 obtain ⟨o1, G1, K1, L1⟩ := Hq H
 refine AX (fun a w => some (Sum.inl ()) = some o1 ∧ Fr 29 [] [(4, .bool false)] a ∧ Stw ⟨Y, [], w0⟩ [] [] w) ?_ ?_
 ·
  have H := G1
  clear G1 K1
  refine Ah (Ac ?_)
  refine ls F W Aa (Ad F Aa).q fun a w F W => ?_
  refine Ae (Ab (AK ?_))
  refine B8 H (fun s a w => Fr 29 [] [(0, v1), (4, .bool false), (5, v3), (6, .int .i64 s)] a ∧ Stw ⟨Y, [], w0⟩ [] [row v3 26 BD x1] w) ⟨F.re ⟨rfl, Aa, Aa, Aa, trivial⟩, W⟩ fun s o a w H L2 hR => ?_
  obtain ⟨x2, rfl⟩ : ∃ x, x = s := ⟨s, rfl⟩
  obtain ⟨F, W⟩ := hR
  have F : Fr 29 [] [(0, v1), (4, .bool false), (5, v3), (6, .int .i64 x2)] a := F
  have W : Stw ⟨Y, [], w0⟩ [] [row v3 26 BD x1] w := W
  rw [B2] at H
  refine Ah (Ah (Ac ?_))
  iterate 2 refine ls F W Aa (Af F Aa).q fun a w F W => ?_
  refine ls F W Aa (CV (r := BD) (l := p0) Gz Aa F Aa (A6 h_v1)).q fun a w F W => ?_
  refine ls F W Aa (CO F Aa Aa).q fun a w F W => ?_
  refine Ae (Ab ?_)
  refine Av F Aa (fun hb => ?_) fun hb => ?_
  ·
   have H := AF (A3 hb) H
   rw [hb] at F
   clear hb
   refine Ay (Ab (Ah (AK (Ah ?_))))
   refine Gr W MO (by kernel_rfl) ?_
   iterate 2 refine qs F Aa (Af F Aa).q fun a F => ?_
   obtain ⟨x3, h2, H⟩ := Ap H
   refine qs F Aa (BZ (r := BD) HK F Aa Aa (A6 h_v1) h2).q fun a F => ?_
   refine qs F Aa (Bo (y := Value.agg #[.int .i64 x3.1, .int .i64 x3.2.1, .int .i64 x3.2.2]) (j := 0) (i := x2) F Aa Aa (A6 h_v1) h2 H0.to Ev Aa).q fun a F => ?_
   iterate 2 refine qs F Aa (Af F Aa).q fun a F => ?_
   obtain ⟨x4, h3, H⟩ := Ap H
   refine qs F Aa (BZ (r := BD) HK F Aa Aa (AV 0 Aa) h3).q fun a F => ?_
   refine qs F Aa (Bo (y := Value.agg #[.int .i64 x4.1, .int .i64 x4.2.1, .int .i64 x4.2.2]) (j := 0) (i := x2) F Aa Aa (AV 0 Aa) h3 H0.to Ev Aa).q fun a F => ?_
   refine qs F Aa (Ih (t := decide (x3.1 = x4.1 ∧ x3.2.1 = x4.2.1 ∧ x3.2.2 = x4.2.2)) IP (II _ _ _ _ _ _) F Aa Aa).q fun a F => ?_
   refine Gf fun w W => ?_
   refine Ab ?_
   refine Av F Aa (fun hb => ?_) fun hb => ?_
   ·
    have H := AF hb H
    rw [hb] at F
    clear hb
    refine Ah (Ac ?_)
    refine ls F W Aa (Ad F Aa).q fun a w F W => ?_
    refine Ae (Ab (Aw (AB ?_)))
    iterate 2 refine AA ?_
    refine AB (AA ?_)
    have H := L2 _ H
    have H := L1 _ H
    have H := Bv H
    subst H
    refine AO (.inl Aa) F W Aa (Au F Aa) ?_
    exact ⟨rfl, W.done⟩
   have H := AG (by rw [hb]; decide) H
   rw [hb] at F
   clear hb
   refine Ay (Bm (Ab (Ac ?_)))
   refine ls F W Aa (Af F Aa).q fun a w F W => ?_
   refine ls F W Aa (CL F Aa Aa Aa).q fun a w F W => ?_
   refine ls F W Aa (Ad F Aa).q fun a w F W => ?_
   refine Ae (Ab ?_)
   exact ⟨_, H, F.re ⟨rfl, Aa, Aa, Aa, trivial⟩, W⟩
  have H := AG (A2 hb) H
  rw [hb] at F
  clear hb
  refine BU ?_
  iterate 2 refine Cq ?_
  refine BW (Ab ?_)
  have W := W.sub (M' := []) (Z' := []) (List.Sublist.refl _) (List.nil_sublist _)
  have H := L2 _ H
  exact ⟨H, F.re ⟨rfl, trivial⟩, W⟩
 rintro a w ⟨hj, F, W⟩
 have H := K1 _ hj
 clear hj G1 K1 L1
 refine Ah (Ac ?_)
 refine ls F W Aa (Ad F Aa).q fun a w F W => ?_
 refine Ae (Ab (Aw ?_))
 have H := Bv H
 subst H
 refine AO (.inl Aa) F W Aa (Au F Aa) ?_
 exact ⟨rfl, W.done⟩
end Go.Proofs.YtkmacelfldeenaaDoor
