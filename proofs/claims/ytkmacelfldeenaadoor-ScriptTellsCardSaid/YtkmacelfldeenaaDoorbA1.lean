/- The functions of layer 39, E6. Conditions: none. -/
import Derived.Test.YtkmacelfldeenaaDoorbA0
namespace Go.Proofs.YtkmacelfldeenaaDoor
open Go Go.RowKit
set_option linter.unusedVariables false
set_option linter.unusedSimpArgs false
set_option maxRecDepth 20000
theorem Jr : Has Tryd.prog 22 := ⟨fun args w => Ak Tryd.func22 rfl (by decide) args w⟩
def Bx (p0 : Int × Int × Int) : Bool := (if (decide (p0.1 < 1) || (decide (11 < p0.1) || (decide (p0.2.1 < (-1)) || (decide (15 < p0.2.1) || (decide (p0.2.2 < (-1000)) || decide (1048576 < p0.2.2)))))) = true then false else (if (!(Bk p0.1) && decide (p0.2.1 ≠ 0)) = true then false else ((Bl p0.1) || decide (p0.2.2 = 0))))
theorem Dv (Y : Nat → Prop) (w0 : World)  (p0 : Int × Int × Int) (r : Bool) (H : Bx p0 = r)  :
    Calls Tryd.prog 10 #[.agg #[.int .i64 p0.1, .int .i64 p0.2.1, .int .i64 p0.2.2]] w0 fun e w' => e = .returned (.bool r) ∧ Below w0.heap.size w0 w' := by
 refine enter Tryd.func10 Aa Tryd.ntmps10 Aa fun a F => ?_
 have W := Stw.start Y w0
 unfold Bx at H
 refine Ah (Ac ?_)
 refine Gr (cs := [.int .i64 p0.1, .int .i64 p0.2.1, .int .i64 p0.2.2]) F W Aa Aa Aa fun b1 a w F W => ?_
 refine ls F W Aa (Ad F Aa).q fun a w F W => ?_
 refine Ae (Ab (Ah ?_))
 refine AJ (fun a w => Fr 48 [] [(1, .pointer (some ⟨b1, 0, none⟩)), (2, .bool false), (30, .bool (decide (p0.1 < 1) || (decide (11 < p0.1) || (decide (p0.2.1 < (-1)) || (decide (15 < p0.2.1) || (decide (p0.2.2 < (-1000)) || decide (1048576 < p0.2.2)))))))] a ∧ Stw ⟨Y, [], w0⟩ [(b1, [.int .i64 p0.1, .int .i64 p0.2.1, .int .i64 p0.2.2])] [] w) ?_ ?_
 ·
  refine Ac ?_
  refine ls F W Aa (Am Cr Aa Aa Aa T3 F Aa 0 Aa).q fun a w F W => ?_
  refine ls F W Aa (AG (v := Value.int .i64 p0.1) 0 F Aa Aa T3 Aa).q fun a w F W => ?_
  refine ls F W Aa (BV F Aa Aa).q fun a w F W => ?_
  refine ls F W Aa (Af F Aa).q fun a w F W => ?_
  rcases Bool.eq_false_or_eq_true (decide (p0.1 < 1)) with hb0 | hb0
  ·
   rw [hb0] at F
   iterate 3 refine Bf F Aa Aa Aa Aa Aa Aa Aa fun a F => ?_
   refine ls F W Aa (Ao F Aa Aa Aa).q fun a w F W => ?_
   refine ls F W Aa (Af F Aa).q fun a w F W => ?_
   iterate 3 refine Bf F Aa Aa Aa Aa Aa Aa Aa fun a F => ?_
   refine ls F W Aa (Ao F Aa Aa Aa).q fun a w F W => ?_
   refine ls F W Aa (Af F Aa).q fun a w F W => ?_
   iterate 3 refine Bf F Aa Aa Aa Aa Aa Aa Aa fun a F => ?_
   refine ls F W Aa (Ao F Aa Aa Aa).q fun a w F W => ?_
   refine ls F W Aa (Af F Aa).q fun a w F W => ?_
   iterate 3 refine Bf F Aa Aa Aa Aa Aa Aa Aa fun a F => ?_
   refine ls F W Aa (Ao F Aa Aa Aa).q fun a w F W => ?_
   refine ls F W Aa (Af F Aa).q fun a w F W => ?_
   iterate 3 refine Bf F Aa Aa Aa Aa Aa Aa Aa fun a F => ?_
   refine ls F W Aa (Ao F Aa Aa Aa).q fun a w F W => ?_
   refine Ae (Ab ?_)
   exact ⟨F.re ⟨rfl, Aa, (by show some (Value.bool true) = some (Value.bool (decide (p0.1 < 1) || (decide (11 < p0.1) || (decide (p0.2.1 < (-1)) || (decide (15 < p0.2.1) || (decide (p0.2.2 < (-1000)) || decide (1048576 < p0.2.2))))))); try rw [hb0]; all_goals simp only [Bool.not_true, Bool.not_false, Bool.true_and, Bool.false_and, Bool.true_or, Bool.false_or, Bool.and_true, Bool.or_false, cond_true, cond_false]), trivial⟩, W⟩
  rw [hb0] at F
  refine Ax F W (Ag F Aa Aa Aa Aa) Aa (An Aa) (Am Cr Aa Aa Aa T3 F Aa 0 Aa).q fun a w F W => ?_
  refine Ax F W (Ag F Aa Aa Aa Aa) Aa (An Aa) (AG (v := Value.int .i64 p0.1) 0 F Aa Aa T3 Aa).q fun a w F W => ?_
  refine Ax F W (Ag F Aa Aa Aa Aa) Aa (An Aa) (EM F Aa Aa).q fun a w F W => ?_
  refine ls F W Aa (Aj F Aa Aa Aa).q fun a w F W => ?_
  refine ls F W Aa (Af F Aa).q fun a w F W => ?_
  rcases Bool.eq_false_or_eq_true (decide (11 < p0.1)) with hb1 | hb1
  ·
   rw [hb1] at F
   iterate 3 refine Bf F Aa Aa Aa Aa Aa Aa Aa fun a F => ?_
   refine ls F W Aa (Ao F Aa Aa Aa).q fun a w F W => ?_
   refine ls F W Aa (Af F Aa).q fun a w F W => ?_
   iterate 3 refine Bf F Aa Aa Aa Aa Aa Aa Aa fun a F => ?_
   refine ls F W Aa (Ao F Aa Aa Aa).q fun a w F W => ?_
   refine ls F W Aa (Af F Aa).q fun a w F W => ?_
   iterate 3 refine Bf F Aa Aa Aa Aa Aa Aa Aa fun a F => ?_
   refine ls F W Aa (Ao F Aa Aa Aa).q fun a w F W => ?_
   refine ls F W Aa (Af F Aa).q fun a w F W => ?_
   iterate 3 refine Bf F Aa Aa Aa Aa Aa Aa Aa fun a F => ?_
   refine ls F W Aa (Ao F Aa Aa Aa).q fun a w F W => ?_
   refine Ae (Ab ?_)
   exact ⟨F.re ⟨rfl, Aa, (by show some (Value.bool true) = some (Value.bool (decide (p0.1 < 1) || (decide (11 < p0.1) || (decide (p0.2.1 < (-1)) || (decide (15 < p0.2.1) || (decide (p0.2.2 < (-1000)) || decide (1048576 < p0.2.2))))))); try rw [hb1]; try rw [hb0]; all_goals simp only [Bool.not_true, Bool.not_false, Bool.true_and, Bool.false_and, Bool.true_or, Bool.false_or, Bool.and_true, Bool.or_false, cond_true, cond_false]), trivial⟩, W⟩
  rw [hb1] at F
  refine Ax F W (Ag F Aa Aa Aa Aa) Aa (An Aa) (Am Cr Aa Aa Aa T3 F Aa 1 Aa).q fun a w F W => ?_
  refine Ax F W (Ag F Aa Aa Aa Aa) Aa (An Aa) (AG (v := Value.int .i64 p0.2.1) 0 F Aa Aa T3 Aa).q fun a w F W => ?_
  refine Ax F W (Ag F Aa Aa Aa Aa) Aa (An Aa) (BV F Aa Aa).q fun a w F W => ?_
  refine ls F W Aa (Aj F Aa Aa Aa).q fun a w F W => ?_
  refine ls F W Aa (Af F Aa).q fun a w F W => ?_
  rcases Bool.eq_false_or_eq_true (decide (p0.2.1 < (-1))) with hb2 | hb2
  ·
   rw [hb2] at F
   iterate 3 refine Bf F Aa Aa Aa Aa Aa Aa Aa fun a F => ?_
   refine ls F W Aa (Ao F Aa Aa Aa).q fun a w F W => ?_
   refine ls F W Aa (Af F Aa).q fun a w F W => ?_
   iterate 3 refine Bf F Aa Aa Aa Aa Aa Aa Aa fun a F => ?_
   refine ls F W Aa (Ao F Aa Aa Aa).q fun a w F W => ?_
   refine ls F W Aa (Af F Aa).q fun a w F W => ?_
   iterate 3 refine Bf F Aa Aa Aa Aa Aa Aa Aa fun a F => ?_
   refine ls F W Aa (Ao F Aa Aa Aa).q fun a w F W => ?_
   refine Ae (Ab ?_)
   exact ⟨F.re ⟨rfl, Aa, (by show some (Value.bool true) = some (Value.bool (decide (p0.1 < 1) || (decide (11 < p0.1) || (decide (p0.2.1 < (-1)) || (decide (15 < p0.2.1) || (decide (p0.2.2 < (-1000)) || decide (1048576 < p0.2.2))))))); try rw [hb2]; try rw [hb1]; try rw [hb0]; all_goals simp only [Bool.not_true, Bool.not_false, Bool.true_and, Bool.false_and, Bool.true_or, Bool.false_or, Bool.and_true, Bool.or_false, cond_true, cond_false]), trivial⟩, W⟩
  rw [hb2] at F
  refine Ax F W (Ag F Aa Aa Aa Aa) Aa (An Aa) (Am Cr Aa Aa Aa T3 F Aa 1 Aa).q fun a w F W => ?_
  refine Ax F W (Ag F Aa Aa Aa Aa) Aa (An Aa) (AG (v := Value.int .i64 p0.2.1) 0 F Aa Aa T3 Aa).q fun a w F W => ?_
  refine Ax F W (Ag F Aa Aa Aa Aa) Aa (An Aa) (EM F Aa Aa).q fun a w F W => ?_
  refine ls F W Aa (Aj F Aa Aa Aa).q fun a w F W => ?_
  refine ls F W Aa (Af F Aa).q fun a w F W => ?_
  rcases Bool.eq_false_or_eq_true (decide (15 < p0.2.1)) with hb3 | hb3
  ·
   rw [hb3] at F
   iterate 3 refine Bf F Aa Aa Aa Aa Aa Aa Aa fun a F => ?_
   refine ls F W Aa (Ao F Aa Aa Aa).q fun a w F W => ?_
   refine ls F W Aa (Af F Aa).q fun a w F W => ?_
   iterate 3 refine Bf F Aa Aa Aa Aa Aa Aa Aa fun a F => ?_
   refine ls F W Aa (Ao F Aa Aa Aa).q fun a w F W => ?_
   refine Ae (Ab ?_)
   exact ⟨F.re ⟨rfl, Aa, (by show some (Value.bool true) = some (Value.bool (decide (p0.1 < 1) || (decide (11 < p0.1) || (decide (p0.2.1 < (-1)) || (decide (15 < p0.2.1) || (decide (p0.2.2 < (-1000)) || decide (1048576 < p0.2.2))))))); try rw [hb2]; try rw [hb3]; try rw [hb1]; try rw [hb0]; all_goals simp only [Bool.not_true, Bool.not_false, Bool.true_and, Bool.false_and, Bool.true_or, Bool.false_or, Bool.and_true, Bool.or_false, cond_true, cond_false]), trivial⟩, W⟩
  rw [hb3] at F
  refine Ax F W (Ag F Aa Aa Aa Aa) Aa (An Aa) (Am Cr Aa Aa Aa T3 F Aa 2 Aa).q fun a w F W => ?_
  refine Ax F W (Ag F Aa Aa Aa Aa) Aa (An Aa) (AG (v := Value.int .i64 p0.2.2) 0 F Aa Aa T3 Aa).q fun a w F W => ?_
  refine Ax F W (Ag F Aa Aa Aa Aa) Aa (An Aa) (BV F Aa Aa).q fun a w F W => ?_
  refine ls F W Aa (Aj F Aa Aa Aa).q fun a w F W => ?_
  refine ls F W Aa (Af F Aa).q fun a w F W => ?_
  rcases Bool.eq_false_or_eq_true (decide (p0.2.2 < (-1000))) with hb4 | hb4
  ·
   rw [hb4] at F
   iterate 3 refine Bf F Aa Aa Aa Aa Aa Aa Aa fun a F => ?_
   refine ls F W Aa (Ao F Aa Aa Aa).q fun a w F W => ?_
   refine Ae (Ab ?_)
   exact ⟨F.re ⟨rfl, Aa, (by show some (Value.bool true) = some (Value.bool (decide (p0.1 < 1) || (decide (11 < p0.1) || (decide (p0.2.1 < (-1)) || (decide (15 < p0.2.1) || (decide (p0.2.2 < (-1000)) || decide (1048576 < p0.2.2))))))); try rw [hb4]; try rw [hb2]; try rw [hb3]; try rw [hb1]; try rw [hb0]; all_goals simp only [Bool.not_true, Bool.not_false, Bool.true_and, Bool.false_and, Bool.true_or, Bool.false_or, Bool.and_true, Bool.or_false, cond_true, cond_false]), trivial⟩, W⟩
  rw [hb4] at F
  refine Ax F W (Ag F Aa Aa Aa Aa) Aa (An Aa) (Am Cr Aa Aa Aa T3 F Aa 2 Aa).q fun a w F W => ?_
  refine Ax F W (Ag F Aa Aa Aa Aa) Aa (An Aa) (AG (v := Value.int .i64 p0.2.2) 0 F Aa Aa T3 Aa).q fun a w F W => ?_
  refine Ax F W (Ag F Aa Aa Aa Aa) Aa (An Aa) (EM F Aa Aa).q fun a w F W => ?_
  refine ls F W Aa (Aj F Aa Aa Aa).q fun a w F W => ?_
  refine Ae (Ab ?_)
  exact ⟨F.re ⟨rfl, Aa, (by show some (Value.bool (decide (1048576 < p0.2.2))) = some (Value.bool (decide (p0.1 < 1) || (decide (11 < p0.1) || (decide (p0.2.1 < (-1)) || (decide (15 < p0.2.1) || (decide (p0.2.2 < (-1000)) || decide (1048576 < p0.2.2))))))); try rw [hb4]; try rw [hb2]; try rw [hb3]; try rw [hb1]; try rw [hb0]; all_goals simp only [Bool.not_true, Bool.not_false, Bool.true_and, Bool.false_and, Bool.true_or, Bool.false_or, Bool.and_true, Bool.or_false, cond_true, cond_false]), trivial⟩, W⟩
 rintro a w ⟨F, W⟩
 refine Av F Aa (fun hb => ?_) fun hb => ?_
 ·
  have H := AF hb H
  rw [hb] at F
  clear hb
  refine Ah (Ac ?_)
  refine ls F W Aa (Ad F Aa).q fun a w F W => ?_
  refine Ae (Ab (Aw (AB ?_)))
  subst H
  refine AR (.inl Aa) F W Aa (Au F Aa) ?_
  exact ⟨rfl, W.done⟩
 have H := AE (by rw [hb]; decide) H
 rw [hb] at F
 clear hb
 refine As (Ab (Ah ?_))
 refine AJ (fun a w => Fr 48 [] [(1, .pointer (some ⟨b1, 0, none⟩)), (2, .bool false), (39, .bool (!(Bk p0.1) && decide (p0.2.1 ≠ 0)))] a ∧ Stw ⟨Y, [], w0⟩ [(b1, [.int .i64 p0.1, .int .i64 p0.2.1, .int .i64 p0.2.2])] [] w) ?_ ?_
 ·
  refine Ac ?_
  refine ls F W Aa (Am Cr Aa Aa Aa T3 F Aa 0 Aa).q fun a w F W => ?_
  refine ls F W Aa (AG (v := Value.int .i64 p0.1) 0 F Aa Aa T3 Aa).q fun a w F W => ?_
  refine ls F W Aa (AA (v := Value.bool (Bk p0.1)) F Jt Aa (fun w W => DO any w p0.1 _ Aa)) fun a w F W => ?_
  refine ls F W Aa (EP F Aa).q fun a w F W => ?_
  refine ls F W Aa (Af F Aa).q fun a w F W => ?_
  rcases Bool.eq_false_or_eq_true (!(Bk p0.1)) with hb0 | hb0
  ·
   rw [hb0] at F
   refine Ax F W (Ag F Aa Aa Aa Aa) Aa (An Aa) (Am Cr Aa Aa Aa T3 F Aa 1 Aa).q fun a w F W => ?_
   refine Ax F W (Ag F Aa Aa Aa Aa) Aa (An Aa) (AG (v := Value.int .i64 p0.2.1) 0 F Aa Aa T3 Aa).q fun a w F W => ?_
   refine Ax F W (Ag F Aa Aa Aa Aa) Aa (An Aa) (En F Aa Aa).q fun a w F W => ?_
   refine ls F W Aa (Ao F Aa Aa Aa).q fun a w F W => ?_
   refine Ae (Ab ?_)
   exact ⟨F.re ⟨rfl, Aa, (by show some (Value.bool (decide (p0.2.1 ≠ 0))) = some (Value.bool (!(Bk p0.1) && decide (p0.2.1 ≠ 0))); try rw [hb0]; all_goals simp only [Bool.not_true, Bool.not_false, Bool.true_and, Bool.false_and, Bool.true_or, Bool.false_or, Bool.and_true, Bool.or_false, cond_true, cond_false]), trivial⟩, W⟩
  rw [hb0] at F
  iterate 3 refine Bf F Aa Aa Aa Aa Aa Aa Aa fun a F => ?_
  refine ls F W Aa (Aj F Aa Aa Aa).q fun a w F W => ?_
  refine Ae (Ab ?_)
  exact ⟨F.re ⟨rfl, Aa, (by show some (Value.bool false) = some (Value.bool (!(Bk p0.1) && decide (p0.2.1 ≠ 0))); try rw [hb0]; all_goals simp only [Bool.not_true, Bool.not_false, Bool.true_and, Bool.false_and, Bool.true_or, Bool.false_or, Bool.and_true, Bool.or_false, cond_true, cond_false]), trivial⟩, W⟩
 rintro a w ⟨F, W⟩
 refine Av F Aa (fun hb => ?_) fun hb => ?_
 ·
  have H := AF hb H
  rw [hb] at F
  clear hb
  refine Ah (Ac ?_)
  refine ls F W Aa (Ad F Aa).q fun a w F W => ?_
  refine Ae (Ab (Aw (AB ?_)))
  subst H
  refine AR (.inl Aa) F W Aa (Au F Aa) ?_
  exact ⟨rfl, W.done⟩
 have H := AE (by rw [hb]; decide) H
 rw [hb] at F
 clear hb
 refine As (Ab ?_)
 refine AJ (fun a w => Fr 48 [] [(2, .bool ((Bl p0.1) || decide (p0.2.2 = 0)))] a ∧ Stw ⟨Y, [], w0⟩ [(b1, [.int .i64 p0.1, .int .i64 p0.2.1, .int .i64 p0.2.2])] [] w) ?_ ?_
 ·
  refine Ac ?_
  refine ls F W Aa (Am Cr Aa Aa Aa T3 F Aa 0 Aa).q fun a w F W => ?_
  refine ls F W Aa (AG (v := Value.int .i64 p0.1) 0 F Aa Aa T3 Aa).q fun a w F W => ?_
  refine ls F W Aa (AA (v := Value.bool (Bl p0.1)) F Jr Aa (fun w W => DI any w p0.1 _ Aa)) fun a w F W => ?_
  refine ls F W Aa (Af F Aa).q fun a w F W => ?_
  rcases Bool.eq_false_or_eq_true (Bl p0.1) with hb0 | hb0
  ·
   rw [hb0] at F
   iterate 3 refine Bf F Aa Aa Aa Aa Aa Aa Aa fun a F => ?_
   refine ls F W Aa (Ao F Aa Aa Aa).q fun a w F W => ?_
   refine ls F W Aa (Ad F Aa).q fun a w F W => ?_
   refine Ae (Ab ?_)
   exact ⟨F.re ⟨(by show some (Value.bool true) = some (Value.bool ((Bl p0.1) || decide (p0.2.2 = 0))); try rw [hb0]; all_goals simp only [Bool.not_true, Bool.not_false, Bool.true_and, Bool.false_and, Bool.true_or, Bool.false_or, Bool.and_true, Bool.or_false, cond_true, cond_false]), trivial⟩, W⟩
  rw [hb0] at F
  refine Ax F W (Ag F Aa Aa Aa Aa) Aa (An Aa) (Am Cr Aa Aa Aa T3 F Aa 2 Aa).q fun a w F W => ?_
  refine Ax F W (Ag F Aa Aa Aa Aa) Aa (An Aa) (AG (v := Value.int .i64 p0.2.2) 0 F Aa Aa T3 Aa).q fun a w F W => ?_
  refine Ax F W (Ag F Aa Aa Aa Aa) Aa (An Aa) (A2 F Aa Aa).q fun a w F W => ?_
  refine ls F W Aa (Aj F Aa Aa Aa).q fun a w F W => ?_
  refine ls F W Aa (Ad F Aa).q fun a w F W => ?_
  refine Ae (Ab ?_)
  exact ⟨F.re ⟨(by show some (Value.bool (decide (p0.2.2 = 0))) = some (Value.bool ((Bl p0.1) || decide (p0.2.2 = 0))); try rw [hb0]; all_goals simp only [Bool.not_true, Bool.not_false, Bool.true_and, Bool.false_and, Bool.true_or, Bool.false_or, Bool.and_true, Bool.or_false, cond_true, cond_false]), trivial⟩, W⟩
 rintro a w ⟨F, W⟩
 refine Aw ?_
 subst H
 refine AR (.inl Aa) F W Aa (Au F Aa) ?_
 exact ⟨rfl, W.done⟩
theorem Jk : Has Tryd.prog 10 := ⟨fun args w => Ak Tryd.func10 rfl (by decide) args w⟩
theorem I4 : Has Tryd.prog 24 := ⟨fun args w => Ak Tryd.func24 rfl (by decide) args w⟩
noncomputable def Ch (fRec : Int → Option (List UInt8)) (p0 : Int) : Option (List UInt8) := (if p0 < 0 then (if (-10) < p0 then (fRec (BE (0 - p0))).bind fun x1 => (DB ([45] : List UInt8) x1).bind fun x2 => some x2 else (fRec (BE (0 - (BE (Int.tdiv p0 10))))).bind fun x3 => (DB ([45] : List UInt8) x3).bind fun x4 => (fRec (BE (0 - (Int.tmod p0 10)))).bind fun x5 => (DB x4 x5).bind fun x6 => some x6) else (if p0 < 10 then (CK ([48, 49, 50, 51, 52, 53, 54, 55, 56, 57] : List UInt8) p0 (BE (p0 + 1))).bind fun x7 => some x7 else (fRec (BE (Int.tdiv p0 10))).bind fun x8 => (CK ([48, 49, 50, 51, 52, 53, 54, 55, 56, 57] : List UInt8) (Int.tmod p0 10) (BE ((Int.tmod p0 10) + 1))).bind fun x9 => (DB x8 x9).bind fun x10 => some x10))
noncomputable def B3 : Nat → Int → Option (List UInt8)
  | 0 => fun _ => none
  | n + 1 => Ch (B3 n)
noncomputable def C2 (p0 : Int) : Option (List UInt8) := G0 fun n => B3 n p0
theorem E8 (fRec : Int → Option (List UInt8)) (ih : ∀ (Y : Nat → Prop) (w0 : World)  (p0 : Int) (r : List UInt8) (H : fRec p0 = some r) , Calls Tryd.prog 24 #[.int .i64 p0] w0 fun e w' => e = .returned (.string (bs r)) ∧ Below w0.heap.size w0 w') (Y : Nat → Prop) (w0 : World)  (p0 : Int) (r : List UInt8) (H : Ch fRec p0 = some r)  :
    Calls Tryd.prog 24 #[.int .i64 p0] w0 fun e w' => e = .returned (.string (bs r)) ∧ Below w0.heap.size w0 w' := by
 refine enter Tryd.func24 Aa Tryd.ntmps24 Aa fun a F => ?_
 have W := Stw.start Y w0
 unfold Ch at H
 refine Ah (Ac ?_)
 refine ls F W Aa (Ad (v := Value.string (bs ([] : List UInt8))) F Aa).q fun a w F W => ?_
 refine Ae (Ab (Ah (Ah (Ac ?_))))
 refine ls F W Aa (Af F Aa).q fun a w F W => ?_
 refine ls F W Aa (BV F Aa Aa).q fun a w F W => ?_
 refine Ae (Ab ?_)
 refine Av F Aa (fun hb => ?_) fun hb => ?_
 ·
  have H := AF (AX hb) H
  rw [hb] at F
  clear hb
  refine Ah (Ah (Ac ?_))
  refine ls F W Aa (Af F Aa).q fun a w F W => ?_
  refine ls F W Aa (EM F Aa Aa).q fun a w F W => ?_
  refine Ae (Ab ?_)
  refine Av F Aa (fun hb => ?_) fun hb => ?_
  ·
   have H := AF (AX hb) H
   rw [hb] at F
   clear hb
   refine Ah (Ac ?_)
   refine ls F W Aa (Af F Aa).q fun a w F W => ?_
   refine ls F W Aa (F2 F Aa Aa Aa).q fun a w F W => ?_
   obtain ⟨x1, h1, H⟩ := Al H
   refine ls F W Aa (AA (v := Value.string (bs x1)) F I4 Aa (fun w W => ih any w (BE (0 - p0)) _ h1)) fun a w F W => ?_
   obtain ⟨x2, h2, H⟩ := Al H
   refine ls F W Aa (B5 (l := ([45] : List UInt8)) (m := x1) F Aa Aa h2).q fun a w F W => ?_
   refine ls F W Aa (Ad F Aa).q fun a w F W => ?_
   refine Ae (Ab (Aw ?_))
   iterate 2 refine AB ?_
   have H := AW H
   subst H
   refine AR (.inl Aa) F W Aa (Au F Aa) ?_
   exact ⟨rfl, W.done⟩
  have H := AE (AY hb) H
  rw [hb] at F
  clear hb
  refine As (Ab (Ah (Ac ?_)))
  refine ls F W Aa (Af F Aa).q fun a w F W => ?_
  refine ls F W Aa (IH F Aa Aa (by decide) Aa).q fun a w F W => ?_
  refine ls F W Aa (F2 F Aa Aa Aa).q fun a w F W => ?_
  obtain ⟨x3, h3, H⟩ := Al H
  refine ls F W Aa (AA (v := Value.string (bs x3)) F I4 Aa (fun w W => ih any w (BE (0 - (BE (Int.tdiv p0 10)))) _ h3)) fun a w F W => ?_
  obtain ⟨x4, h4, H⟩ := Al H
  refine ls F W Aa (B5 (l := ([45] : List UInt8)) (m := x3) F Aa Aa h4).q fun a w F W => ?_
  refine ls F W Aa (Af F Aa).q fun a w F W => ?_
  refine ls F W Aa (HS F Aa Aa (by decide) Aa).q fun a w F W => ?_
  refine ls F W Aa (F2 F Aa Aa Aa).q fun a w F W => ?_
  obtain ⟨x5, h5, H⟩ := Al H
  refine ls F W Aa (AA (v := Value.string (bs x5)) F I4 Aa (fun w W => ih any w (BE (0 - (Int.tmod p0 10))) _ h5)) fun a w F W => ?_
  obtain ⟨x6, h6, H⟩ := Al H
  refine ls F W Aa (B5 (l := x4) (m := x5) F Aa Aa h6).q fun a w F W => ?_
  refine ls F W Aa (Ad F Aa).q fun a w F W => ?_
  refine Ae (Ab (Aw (AB ?_)))
  have H := AW H
  subst H
  refine AR (.inl Aa) F W Aa (Au F Aa) ?_
  exact ⟨rfl, W.done⟩
 have H := AE (AY hb) H
 rw [hb] at F
 clear hb
 refine As (Ab (Ah (Ah (Ac ?_))))
 refine ls F W Aa (Af F Aa).q fun a w F W => ?_
 refine ls F W Aa (BV F Aa Aa).q fun a w F W => ?_
 refine Ae (Ab ?_)
 refine Av F Aa (fun hb => ?_) fun hb => ?_
 ·
  have H := AF (AX hb) H
  rw [hb] at F
  clear hb
  refine Ah (Ac ?_)
  iterate 2 refine ls F W Aa (Af F Aa).q fun a w F W => ?_
  refine ls F W Aa (BC F Aa Aa Aa).q fun a w F W => ?_
  obtain ⟨x7, h7, H⟩ := Al H
  refine ls F W Aa (D4 (l := ([48, 49, 50, 51, 52, 53, 54, 55, 56, 57] : List UInt8)) E3 F Aa Aa Aa h7).q fun a w F W => ?_
  refine ls F W Aa (Ad F Aa).q fun a w F W => ?_
  refine Ae (Ab (Aw (AB ?_)))
  have H := AW H
  subst H
  refine AR (.inl Aa) F W Aa (Au F Aa) ?_
  exact ⟨rfl, W.done⟩
 have H := AE (AY hb) H
 rw [hb] at F
 clear hb
 refine As (Ab (Ah ?_))
 refine Ds W MO (by kernel_rfl) ?_
 refine qs F Aa (Af F Aa).q fun a F => ?_
 refine qs F Aa (IH F Aa Aa (by decide) Aa).q fun a F => ?_
 obtain ⟨x8, h8, H⟩ := Al H
 refine qs F Aa (AA (v := Value.string (bs x8)) F I4 Aa (fun w W => ih any w (BE (Int.tdiv p0 10)) _ h8)) fun a F => ?_
 refine qs F Aa (Af F Aa).q fun a F => ?_
 refine qs F Aa (HS F Aa Aa (by decide) Aa).q fun a F => ?_
 refine qs F Aa (Af F Aa).q fun a F => ?_
 refine qs F Aa (HS F Aa Aa (by decide) Aa).q fun a F => ?_
 refine qs F Aa (BC F Aa Aa Aa).q fun a F => ?_
 obtain ⟨x9, h9, H⟩ := Al H
 refine qs F Aa (D4 (l := ([48, 49, 50, 51, 52, 53, 54, 55, 56, 57] : List UInt8)) E3 F Aa Aa Aa h9).q fun a F => ?_
 obtain ⟨x10, h10, H⟩ := Al H
 refine qs F Aa (B5 (l := x8) (m := x9) F Aa Aa h10).q fun a F => ?_
 refine qs F Aa (Ad F Aa).q fun a F => ?_
 refine CP fun w W => ?_
 refine Ab (Aw ?_)
 have H := AW H
 subst H
 refine AR (.inl Aa) F W Aa (Au F Aa) ?_
 exact ⟨rfl, W.done⟩
theorem Fj : ∀ (n : Nat) (Y : Nat → Prop) (w0 : World)  (p0 : Int) (r : List UInt8) (H : B3 n p0 = some r) , Calls Tryd.prog 24 #[.int .i64 p0] w0 fun e w' => e = .returned (.string (bs r)) ∧ Below w0.heap.size w0 w' := by
  intro n
  induction n with
  | zero => intro Y w0  p0 r H; exact nomatch H
  | succ n ih => intro Y w0  p0 r H ; exact E8 (B3 n) ih Y w0  p0 r H 
theorem DX (Y : Nat → Prop) (w0 : World)  (p0 : Int) (r : List UInt8) (H : C2 p0 = some r)  :
    Calls Tryd.prog 24 #[.int .i64 p0] w0 fun e w' => e = .returned (.string (bs r)) ∧ Below w0.heap.size w0 w' := by
  obtain ⟨n, H⟩ := Hg H
  exact Fj n Y w0  p0 r H 
noncomputable def Cl (p0 : Int × Int × Int) : Option (List UInt8) := (if (!(Bx p0)) = true then some ([] : List UInt8) else (CA p0.1).bind fun x1 => (if (Bk p0.1) = true then (DB x1 ([32] : List UInt8)).bind fun x3 => (C2 p0.2.1).bind fun x4 => (DB x3 x4).bind fun x5 => some x5 else some x1).bind fun x2 => (if (Bl p0.1) = true then (DB x2 ([32] : List UInt8)).bind fun x7 => (C2 p0.2.2).bind fun x8 => (DB x7 x8).bind fun x9 => some x9 else some x2).bind fun x6 => some x6)
theorem DJ (Y : Nat → Prop) (w0 : World)  (p0 : Int × Int × Int) (r : List UInt8) (H : Cl p0 = some r)  :
    Calls Tryd.prog 12 #[.agg #[.int .i64 p0.1, .int .i64 p0.2.1, .int .i64 p0.2.2]] w0 fun e w' => e = .returned (.string (bs r)) ∧ Below w0.heap.size w0 w' := by
 refine enter Tryd.func12 Aa Tryd.ntmps12 Aa fun a F => ?_
 have W := Stw.start Y w0
 unfold Cl at H
 refine Ah (Ac ?_)
 refine Gr (cs := [.int .i64 p0.1, .int .i64 p0.2.1, .int .i64 p0.2.2]) F W Aa Aa Aa fun b1 a w F W => ?_
 refine ls F W Aa (Ad (v := Value.string (bs ([] : List UInt8))) F Aa).q fun a w F W => ?_
 refine Ae (Ab (Ah (Ah (Ac ?_))))
 refine ls F W Aa (AG (v := Value.agg #[.int .i64 p0.1, .int .i64 p0.2.1, .int .i64 p0.2.2]) 0 F Aa Aa FV Aa).q fun a w F W => ?_
 refine ls F W Aa (AA (v := Value.bool (Bx p0)) F Jk Aa (fun w W => Dv any w p0 _ Aa)) fun a w F W => ?_
 refine ls F W Aa (EP F Aa).q fun a w F W => ?_
 refine Ae (Ab ?_)
 refine Av F Aa (fun hb => ?_) fun hb => ?_
 ·
  have H := AF hb H
  rw [hb] at F
  clear hb
  refine Ah (Ac ?_)
  refine ls F W Aa (Ad (v := Value.string (bs ([] : List UInt8))) F Aa).q fun a w F W => ?_
  refine Ae (Ab (Aw (AB ?_)))
  have H := AW H
  subst H
  refine AR (.inl Aa) F W Aa (Au F Aa) ?_
  exact ⟨rfl, W.done⟩
 have H := AE (by rw [hb]; decide) H
 rw [hb] at F
 clear hb
 refine As (Ab (Ah (Ac ?_)))
 refine ls F W Aa (Am Cr Aa Aa Aa T3 F Aa 0 Aa).q fun a w F W => ?_
 refine ls F W Aa (AG (v := Value.int .i64 p0.1) 0 F Aa Aa T3 Aa).q fun a w F W => ?_
 obtain ⟨x1, h1, H⟩ := Al H
 refine ls F W Aa (AA (v := Value.string (bs x1)) F H7 Aa (fun w W => DG any w p0.1 _ h1)) fun a w F W => ?_
 refine ls F W Aa (Ad F Aa).q fun a w F W => ?_
 refine Ae (Ab ?_)
 obtain ⟨o1, G1, K1⟩ := Al H
 refine AJ (fun a w => ∃ x2 : List UInt8, some (x2) = some o1 ∧ Fr 29 [] [(1, .pointer (some ⟨b1, 0, none⟩)), (2, .string (bs ([] : List UInt8))), (3, .string (bs x2))] a ∧ Stw ⟨Y, [], w0⟩ [(b1, [.int .i64 p0.1, .int .i64 p0.2.1, .int .i64 p0.2.2])] [] w) ?_ ?_
 ·
  have H := G1
  clear G1 K1
  refine Ah (Ac ?_)
  refine ls F W Aa (Am Cr Aa Aa Aa T3 F Aa 0 Aa).q fun a w F W => ?_
  refine ls F W Aa (AG (v := Value.int .i64 p0.1) 0 F Aa Aa T3 Aa).q fun a w F W => ?_
  refine ls F W Aa (AA (v := Value.bool (Bk p0.1)) F Jt Aa (fun w W => DO any w p0.1 _ Aa)) fun a w F W => ?_
  refine Ae (Ab ?_)
  refine Av F Aa (fun hb => ?_) fun hb => ?_
  ·
   have H := AF hb H
   rw [hb] at F
   clear hb
   refine Ac ?_
   refine ls F W Aa (Af F Aa).q fun a w F W => ?_
   obtain ⟨x3, h2, H⟩ := Al H
   refine ls F W Aa (B5 (l := x1) (m := ([32] : List UInt8)) F Aa Aa h2).q fun a w F W => ?_
   refine ls F W Aa (Am Cr Aa Aa Aa T3 F Aa 1 Aa).q fun a w F W => ?_
   refine ls F W Aa (AG (v := Value.int .i64 p0.2.1) 0 F Aa Aa T3 Aa).q fun a w F W => ?_
   obtain ⟨x4, h3, H⟩ := Al H
   refine ls F W Aa (AA (v := Value.string (bs x4)) F I4 Aa (fun w W => DX any w p0.2.1 _ h3)) fun a w F W => ?_
   obtain ⟨x5, h4, H⟩ := Al H
   refine ls F W Aa (B5 (l := x3) (m := x4) F Aa Aa h4).q fun a w F W => ?_
   refine ls F W Aa (Ad F Aa).q fun a w F W => ?_
   refine Ae (Ab ?_)
   exact ⟨_, H, F.re ⟨rfl, Aa, Aa, trivial⟩, W⟩
  have H := AE (by rw [hb]; decide) H
  rw [hb] at F
  clear hb
  refine As (Ab ?_)
  exact ⟨_, H, F.re ⟨rfl, Aa, Aa, trivial⟩, W⟩
 rintro a w ⟨x2, hj, F, W⟩
 have hj := AW hj
 subst hj
 have H := K1
 clear G1 K1
 obtain ⟨o2, G2, K2⟩ := Al H
 refine AJ (fun a w => ∃ x6 : List UInt8, some (x6) = some o2 ∧ Fr 29 [] [(2, .string (bs ([] : List UInt8))), (3, .string (bs x6))] a ∧ Stw ⟨Y, [], w0⟩ [(b1, [.int .i64 p0.1, .int .i64 p0.2.1, .int .i64 p0.2.2])] [] w) ?_ ?_
 ·
  have H := G2
  clear G2 K2
  refine Ah (Ac ?_)
  refine ls F W Aa (Am Cr Aa Aa Aa T3 F Aa 0 Aa).q fun a w F W => ?_
  refine ls F W Aa (AG (v := Value.int .i64 p0.1) 0 F Aa Aa T3 Aa).q fun a w F W => ?_
  refine ls F W Aa (AA (v := Value.bool (Bl p0.1)) F Jr Aa (fun w W => DI any w p0.1 _ Aa)) fun a w F W => ?_
  refine Ae (Ab ?_)
  refine Av F Aa (fun hb => ?_) fun hb => ?_
  ·
   have H := AF hb H
   rw [hb] at F
   clear hb
   refine Ac ?_
   refine ls F W Aa (Af F Aa).q fun a w F W => ?_
   obtain ⟨x7, h5, H⟩ := Al H
   refine ls F W Aa (B5 (l := x2) (m := ([32] : List UInt8)) F Aa Aa h5).q fun a w F W => ?_
   refine ls F W Aa (Am Cr Aa Aa Aa T3 F Aa 2 Aa).q fun a w F W => ?_
   refine ls F W Aa (AG (v := Value.int .i64 p0.2.2) 0 F Aa Aa T3 Aa).q fun a w F W => ?_
   obtain ⟨x8, h6, H⟩ := Al H
   refine ls F W Aa (AA (v := Value.string (bs x8)) F I4 Aa (fun w W => DX any w p0.2.2 _ h6)) fun a w F W => ?_
   obtain ⟨x9, h7, H⟩ := Al H
   refine ls F W Aa (B5 (l := x7) (m := x8) F Aa Aa h7).q fun a w F W => ?_
   refine ls F W Aa (Ad F Aa).q fun a w F W => ?_
   refine Ae (Ab ?_)
   exact ⟨_, H, F.re ⟨rfl, Aa, trivial⟩, W⟩
  have H := AE (by rw [hb]; decide) H
  rw [hb] at F
  clear hb
  refine As (Ab ?_)
  exact ⟨_, H, F.re ⟨rfl, Aa, trivial⟩, W⟩
 rintro a w ⟨x6, hj, F, W⟩
 have hj := AW hj
 subst hj
 have H := K2
 clear G2 K2
 refine Ah (Ac ?_)
 refine ls F W Aa (Af F Aa).q fun a w F W => ?_
 refine ls F W Aa (Ad F Aa).q fun a w F W => ?_
 refine Ae (Ab (Aw ?_))
 have H := AW H
 subst H
 refine AR (.inl Aa) F W Aa (Au F Aa) ?_
 exact ⟨rfl, W.done⟩
theorem JZ : type_of% Tryd.underlying5 := Tryd.underlying5
theorem Jv : Has Tryd.prog 12 := ⟨fun args w => Ak Tryd.func12 rfl (by decide) args w⟩
theorem Jj : (Tryd.prog.info? 28).bind (·.zero) = some (.agg #[.int .i64 0, .int .i64 0, .int .i64 0]) := by kernel_rfl
theorem J0 : Bt Tryd.prog 28 [.int .i64 0, .int .i64 0, .int .i64 0] [(0, 1), (1, 1), (2, 1)] := ⟨⟨.agg #[.int .i64 0, .int .i64 0, .int .i64 0], by kernel_rfl, rfl⟩, ⟨_, Cr, fun w => by kernel_rfl⟩⟩
noncomputable def A7 (p0 : List UInt8) : (Int × Int × Int) → Option ((Int × Int × Int) ⊕ (Int × Int))
  | (x7, x8, x9) => (if x9 < 7 then (if x7 < (p0.length : Int) then (ix p0 x7).bind fun x11 => (if 48 ≤ (x11.toNat : Int) then (ix p0 x7).bind fun x12 => some (decide ((x12.toNat : Int) ≤ 57)) else some false) else some false) else some false).bind fun x10 => (if x10 = true then (ix p0 x7).bind fun x13 => some (.inl (BE (x7 + 1), BE ((BE ((BE (10 * x8)) + (BE (x13.toNat : Int)))) - 48), BE (x9 + 1))) else some (.inr (x7, x8)))
noncomputable def B6 (p0 : List UInt8) (p1 : Int) : Option (Int × Int) := ((if p1 < (p0.length : Int) then (ix p0 p1).bind fun x4 => some (decide ((x4.toNat : Int) = 45)) else some false).bind fun x3 => (if x3 = true then some (BE (p1 + 1), (-1)) else some (p1, 1))).bind fun (x1, x2) => (AH (A7 p0) (x1, 0, 0)).bind fun (x5, x6) => some (BE (x2 * x6), x5)
theorem D0 (Y : Nat → Prop) (w0 : World)  (p0 : List UInt8) (p1 : Int) (r : Int × Int) (H : B6 p0 p1 = some r)  :
    Calls Tryd.prog 35 #[.string (bs p0), .int .i64 p1] w0 fun e w' => e = .returned (.tuple #[.int .i64 r.1, .int .i64 r.2]) ∧ Below w0.heap.size w0 w' := by
 refine enter Tryd.func35 Aa Tryd.ntmps35 Aa fun a F => ?_
 have W := Stw.start Y w0
 unfold B6 at H
 refine Ah (Ac ?_)
 iterate 2 refine ls F W Aa (Ad F Aa).q fun a w F W => ?_
 refine Ae (Ab (Ah (Ac ?_)))
 refine ls F W Aa (Ad F Aa).q fun a w F W => ?_
 refine Ae (Ab ?_)
 obtain ⟨o1, G1, K1⟩ := Al H
 refine AJ (fun a w => ∃ x1 : Int, ∃ x2 : Int, some ((x1, x2)) = some o1 ∧ Fr 57 [] [(0, .string (bs p0)), (1, .int .i64 x1), (4, .int .i64 0), (5, .int .i64 0), (6, .int .i64 x2)] a ∧ Stw ⟨Y, [], w0⟩ [] [] w) ?_ ?_
 ·
  have H := G1
  clear G1 K1
  obtain ⟨o2, G2, K2⟩ := Al H
  refine AJ (fun a w => ∃ x3 : Bool, some (x3) = some o2 ∧ Fr 57 [] [(0, .string (bs p0)), (1, .int .i64 p1), (4, .int .i64 0), (5, .int .i64 0), (6, .int .i64 1), (18, .bool x3)] a ∧ Stw ⟨Y, [], w0⟩ [] [] w) ?_ ?_
  ·
   have H := G2
   clear G2 K2
   refine Ac ?_
   iterate 2 refine ls F W Aa (Af F Aa).q fun a w F W => ?_
   refine ls F W Aa (CX (l := p0) E3 Aa F Aa).q fun a w F W => ?_
   refine ls F W Aa (BV F Aa Aa).q fun a w F W => ?_
   refine ls F W Aa (Af F Aa).q fun a w F W => ?_
   rcases Bool.eq_false_or_eq_true (decide (p1 < (p0.length : Int))) with hb | hb
   ·
    have H := AF (AX hb) H
    rw [hb] at F
    clear hb
    iterate 2 refine Ax F W (Ag F Aa Aa Aa Aa) Aa (An Aa) (Af F Aa).q fun a w F W => ?_
    obtain ⟨x4, h1, H⟩ := Al H
    refine Ax F W (Ag F Aa Aa Aa Aa) Aa (An Aa) (BQ (l := p0) E3 F Aa Aa h1).q fun a w F W => ?_
    refine Ax F W (Ag F Aa Aa Aa Aa) Aa (An Aa) (A2 F Aa Aa).q fun a w F W => ?_
    refine ls F W Aa (Ao F Aa Aa Aa).q fun a w F W => ?_
    refine Ae (Ab ?_)
    exact ⟨_, H, F.re ⟨rfl, Aa, Aa, Aa, Aa, Aa, trivial⟩, W⟩
   have H := AE (AY hb) H
   rw [hb] at F
   clear hb
   iterate 4 refine Bf F Aa Aa Aa Aa Aa Aa Aa fun a F => ?_
   refine ls F W Aa (Aj F Aa Aa Aa).q fun a w F W => ?_
   refine Ae (Ab ?_)
   exact ⟨_, H, F.re ⟨rfl, Aa, Aa, Aa, Aa, Aa, trivial⟩, W⟩
  rintro a w ⟨x3, hj, F, W⟩
  have hj := AW hj
  subst hj
  have H := K2
  clear G2 K2
  refine Av F Aa (fun hb => ?_) fun hb => ?_
  ·
   have H := AF hb H
   rw [hb] at F
   clear hb
   refine Ah (Ac ?_)
   refine ls F W Aa (Ad F Aa).q fun a w F W => ?_
   refine Ae (Ab (Ac ?_))
   refine ls F W Aa (Af F Aa).q fun a w F W => ?_
   refine ls F W Aa (BC F Aa Aa Aa).q fun a w F W => ?_
   refine ls F W Aa (Ad F Aa).q fun a w F W => ?_
   refine Ae (Ab ?_)
   exact ⟨_, _, H, F.re ⟨rfl, Aa, Aa, Aa, Aa, trivial⟩, W⟩
  have H := AE (by rw [hb]; decide) H
  rw [hb] at F
  clear hb
  refine As (Ab ?_)
  exact ⟨_, _, H, F.re ⟨rfl, Aa, Aa, Aa, Aa, trivial⟩, W⟩
 rintro a w ⟨x1, x2, hj, F, W⟩
 have hj := AW hj
 subst hj
 have H := K1
 clear G1 K1
 refine Ah (Ac ?_)
 refine ls F W Aa (Ad F Aa).q fun a w F W => ?_
 refine Ae (Ab ?_)
 obtain ⟨o3, G3, K3⟩ := Al H
 refine AJ (fun a w => ∃ x5 : Int, ∃ x6 : Int, some ((x5, x6)) = some o3 ∧ Fr 57 [] [(1, .int .i64 x5), (4, .int .i64 0), (5, .int .i64 0), (6, .int .i64 x2), (7, .int .i64 x6)] a ∧ Stw ⟨Y, [], w0⟩ [] [] w) ?_ ?_
 ·
  have H := G3
  clear G3 K3
  refine Ah (Ac ?_)
  refine ls F W Aa (Ad F Aa).q fun a w F W => ?_
  refine Ae (Ab (AD ?_))
  refine BG H (fun s a w => Fr 57 [] [(0, .string (bs p0)), (1, .int .i64 s.1), (4, .int .i64 0), (5, .int .i64 0), (6, .int .i64 x2), (7, .int .i64 s.2.1), (8, .int .i64 s.2.2)] a ∧ Stw ⟨Y, [], w0⟩ [] [] w) ⟨F.re ⟨rfl, Aa, Aa, Aa, Aa, Aa, Aa, trivial⟩, W⟩ fun s o a w H L4 hR => ?_
  obtain ⟨x7, x8, x9⟩ := s
  obtain ⟨F, W⟩ := hR
  have F : Fr 57 [] [(0, .string (bs p0)), (1, .int .i64 x7), (4, .int .i64 0), (5, .int .i64 0), (6, .int .i64 x2), (7, .int .i64 x8), (8, .int .i64 x9)] a := F
  have W : Stw ⟨Y, [], w0⟩ [] [] w := W
  rw [A7] at H
  refine Ah ?_
  obtain ⟨o5, G5, K5⟩ := Al H
  refine AJ (fun a w => ∃ x10 : Bool, some (x10) = some o5 ∧ Fr 57 [] [(0, .string (bs p0)), (1, .int .i64 x7), (4, .int .i64 0), (5, .int .i64 0), (6, .int .i64 x2), (7, .int .i64 x8), (8, .int .i64 x9), (40, .bool x10)] a ∧ Stw ⟨Y, [], w0⟩ [] [] w) ?_ ?_
  ·
   have H := G5
   clear G5 K5
   refine Ac ?_
   refine ls F W Aa (Af F Aa).q fun a w F W => ?_
   refine ls F W Aa (BV F Aa Aa).q fun a w F W => ?_
   refine ls F W Aa (Af F Aa).q fun a w F W => ?_
   rcases Bool.eq_false_or_eq_true (decide (x9 < 7)) with hb | hb
   ·
    have H := AF (AX hb) H
    rw [hb] at F
    clear hb
    iterate 2 refine Ax F W (Ag F Aa Aa Aa Aa) Aa (An Aa) (Af F Aa).q fun a w F W => ?_
    refine Ax F W (Ag F Aa Aa Aa Aa) Aa (An Aa) (CX (l := p0) E3 Aa F Aa).q fun a w F W => ?_
    refine Ax F W (Ag F Aa Aa Aa Aa) Aa (An Aa) (BV F Aa Aa).q fun a w F W => ?_
    refine ls F W Aa (Ao F Aa Aa Aa).q fun a w F W => ?_
    refine ls F W Aa (Af F Aa).q fun a w F W => ?_
    rcases Bool.eq_false_or_eq_true (decide (x7 < (p0.length : Int))) with hb | hb
    ·
     have H := AF (AX hb) H
     rw [hb] at F
     clear hb
     iterate 2 refine Ax F W (Ag F Aa Aa Aa Aa) Aa (An Aa) (Af F Aa).q fun a w F W => ?_
     obtain ⟨x11, h2, H⟩ := Al H
     refine Ax F W (Ag F Aa Aa Aa Aa) Aa (An Aa) (BQ (l := p0) E3 F Aa Aa h2).q fun a w F W => ?_
     refine Ax F W (Ag F Aa Aa Aa Aa) Aa (An Aa) (Hz F Aa Aa).q fun a w F W => ?_
     refine ls F W Aa (Ao F Aa Aa Aa).q fun a w F W => ?_
     refine ls F W Aa (Af F Aa).q fun a w F W => ?_
     rcases Bool.eq_false_or_eq_true (decide (48 ≤ (x11.toNat : Int))) with hb | hb
     ·
      have H := AF (AX hb) H
      rw [hb] at F
      clear hb
      iterate 2 refine Ax F W (Ag F Aa Aa Aa Aa) Aa (An Aa) (Af F Aa).q fun a w F W => ?_
      obtain ⟨x12, h3, H⟩ := Al H
      refine Ax F W (Ag F Aa Aa Aa Aa) Aa (An Aa) (BQ (l := p0) E3 F Aa Aa h3).q fun a w F W => ?_
      refine Ax F W (Ag F Aa Aa Aa Aa) Aa (An Aa) (Gn F Aa Aa).q fun a w F W => ?_
      refine ls F W Aa (Ao F Aa Aa Aa).q fun a w F W => ?_
      refine Ae (Ab ?_)
      exact ⟨_, H, F.re ⟨rfl, Aa, Aa, Aa, Aa, Aa, Aa, Aa, trivial⟩, W⟩
     have H := AE (AY hb) H
     rw [hb] at F
     clear hb
     iterate 4 refine Bf F Aa Aa Aa Aa Aa Aa Aa fun a F => ?_
     refine ls F W Aa (Aj F Aa Aa Aa).q fun a w F W => ?_
     refine Ae (Ab ?_)
     exact ⟨_, H, F.re ⟨rfl, Aa, Aa, Aa, Aa, Aa, Aa, Aa, trivial⟩, W⟩
    have H := AE (AY hb) H
    rw [hb] at F
    clear hb
    iterate 4 refine Bf F Aa Aa Aa Aa Aa Aa Aa fun a F => ?_
    refine ls F W Aa (Aj F Aa Aa Aa).q fun a w F W => ?_
    refine ls F W Aa (Af F Aa).q fun a w F W => ?_
    iterate 4 refine Bf F Aa Aa Aa Aa Aa Aa Aa fun a F => ?_
    refine ls F W Aa (Aj F Aa Aa Aa).q fun a w F W => ?_
    refine Ae (Ab ?_)
    exact ⟨_, H, F.re ⟨rfl, Aa, Aa, Aa, Aa, Aa, Aa, Aa, trivial⟩, W⟩
   have H := AE (AY hb) H
   rw [hb] at F
   clear hb
   iterate 4 refine Bf F Aa Aa Aa Aa Aa Aa Aa fun a F => ?_
   refine ls F W Aa (Aj F Aa Aa Aa).q fun a w F W => ?_
   refine ls F W Aa (Af F Aa).q fun a w F W => ?_
   iterate 4 refine Bf F Aa Aa Aa Aa Aa Aa Aa fun a F => ?_
   refine ls F W Aa (Aj F Aa Aa Aa).q fun a w F W => ?_
   refine ls F W Aa (Af F Aa).q fun a w F W => ?_
   iterate 4 refine Bf F Aa Aa Aa Aa Aa Aa Aa fun a F => ?_
   refine ls F W Aa (Aj F Aa Aa Aa).q fun a w F W => ?_
   refine Ae (Ab ?_)
   exact ⟨_, H, F.re ⟨rfl, Aa, Aa, Aa, Aa, Aa, Aa, Aa, trivial⟩, W⟩
  rintro a w ⟨x10, hj, F, W⟩
  have hj := AW hj
  subst hj
  have H := K5
  clear G5 K5
  refine Av F Aa (fun hb => ?_) fun hb => ?_
  ·
   have H := AF hb H
   rw [hb] at F
   clear hb
   refine As (Ab (Ah (AD (Ah (Ac ?_)))))
   refine ls F W Aa (Af F Aa).q fun a w F W => ?_
   refine ls F W Aa (IF F Aa Aa Aa).q fun a w F W => ?_
   iterate 2 refine ls F W Aa (Af F Aa).q fun a w F W => ?_
   obtain ⟨x13, h4, H⟩ := Al H
   refine ls F W Aa (BQ (l := p0) E3 F Aa Aa h4).q fun a w F W => ?_
   refine ls F W Aa (Ih JZ Jh F Aa).q fun a w F W => ?_
   refine ls F W Aa (BC F Aa Aa Aa).q fun a w F W => ?_
   refine ls F W Aa (F2 F Aa Aa Aa).q fun a w F W => ?_
   refine ls F W Aa (Ad F Aa).q fun a w F W => ?_
   refine Ae (Ab (Ac ?_))
   refine ls F W Aa (Af F Aa).q fun a w F W => ?_
   refine ls F W Aa (BC F Aa Aa Aa).q fun a w F W => ?_
   refine ls F W Aa (Ad F Aa).q fun a w F W => ?_
   refine Ae (A4 (Ab (Ac ?_)))
   refine ls F W Aa (Af F Aa).q fun a w F W => ?_
   refine ls F W Aa (BC F Aa Aa Aa).q fun a w F W => ?_
   refine ls F W Aa (Ad F Aa).q fun a w F W => ?_
   refine Ae (Ab ?_)
   exact ⟨_, H, F.re ⟨rfl, Aa, Aa, Aa, Aa, Aa, Aa, trivial⟩, W⟩
  have H := AE (by rw [hb]; decide) H
  rw [hb] at F
  clear hb
  refine Bo ?_
  iterate 2 refine BN ?_
  refine Bp (Ab ?_)
  have H := L4 _ H
  exact ⟨_, _, H, F.re ⟨rfl, Aa, Aa, Aa, Aa, trivial⟩, W⟩
 rintro a w ⟨x5, x6, hj, F, W⟩
 have hj := AW hj
 subst hj
 have H := K3
 clear G3 K3
 refine Ah (Ac ?_)
 iterate 2 refine ls F W Aa (Af F Aa).q fun a w F W => ?_
 refine ls F W Aa (IF F Aa Aa Aa).q fun a w F W => ?_
 refine ls F W Aa (Af F Aa).q fun a w F W => ?_
 iterate 2 refine ls F W Aa (Ad F Aa).q fun a w F W => ?_
 refine Ae (Ab (Aw ?_))
 have H := AW H
 subst H
 refine FB (.inl Aa) F W Aa (Au F Aa) (Au F Aa) ?_
 exact ⟨rfl, W.done⟩
theorem JH : Has Tryd.prog 35 := ⟨fun args w => Ak Tryd.func35 rfl (by decide) args w⟩
noncomputable def CC (p0 : List UInt8) : Int → Option (Int ⊕ Int)
  | x2 => (if x2 < (p0.length : Int) then (ix p0 x2).bind fun x4 => some (decide ((x4.toNat : Int) ≠ 32)) else some false).bind fun x3 => (if x3 = true then some (.inl (BE (x2 + 1))) else some (.inr x2))
noncomputable def BJ (p0 : List UInt8) (x1 : Int) : (Int × Int) → Option ((Int × Int) ⊕ Int)
  | (x6, x7) => (if x6 ≤ 11 then ((CA x6).bind fun x9 => (CK p0 0 x1).bind fun x10 => (if x9 = x10 then some x6 else some x7)).bind fun x8 => some (.inl (BE (x6 + 1), x8)) else some (.inr x7))
noncomputable def Co (p0 : List UInt8) : Option ((Int × Int × Int) × Bool) := (AH (CC p0) 0).bind fun x1 => (AH (BJ p0 x1) (1, 0)).bind fun x5 => (if x5 = 0 then some ((x5, 0, 0), false) else (if (Bk x5) = true then (B6 p0 (BE (x1 + 1))).bind fun x13 => some (x13.2, x13.1) else some (x1, 0)).bind fun (x11, x12) => (if (Bl x5) = true then (B6 p0 (BE (x11 + 1))).bind fun x15 => some x15.1 else some 0).bind fun x14 => (if (Bx (x5, x12, x14)) = true then (Cl (x5, x12, x14)).bind fun x17 => some (decide (x17 = p0)) else some false).bind fun x16 => some ((x5, x12, x14), x16))
theorem GG (Y : Nat → Prop) (w0 : World)  (p0 : List UInt8) (r : (Int × Int × Int) × Bool) (H : Co p0 = some r)  :
    Calls Tryd.prog 27 #[.string (bs p0)] w0 fun e w' => e = .returned (.tuple #[.agg #[.int .i64 r.1.1, .int .i64 r.1.2.1, .int .i64 r.1.2.2], .bool r.2]) ∧ Below w0.heap.size w0 w' := by
 refine enter Tryd.func27 Aa Tryd.ntmps27 Aa fun a F => ?_
 have W := Stw.start Y w0
 unfold Co at H
 refine Ah (Ac ?_)
 refine Cu (cs := [.int .i64 0, .int .i64 0, .int .i64 0]) F W Aa Jj Aa fun b1 a w F W => ?_
 refine ls F W Aa (Ad F Aa).q fun a w F W => ?_
 refine Ae (Ab (Ah (Ac ?_)))
 refine ls F W Aa (Ad F Aa).q fun a w F W => ?_
 refine Ae (Ab ?_)
 obtain ⟨o1, G1, K1⟩ := Al H
 refine AJ (fun a w => ∃ x1 : Int, some (x1) = some o1 ∧ Fr 67 [] [(0, .string (bs p0)), (2, .pointer (some ⟨b1, 0, none⟩)), (3, .bool false), (4, .int .i64 x1)] a ∧ Stw ⟨Y, [], w0⟩ [(b1, [.int .i64 0, .int .i64 0, .int .i64 0])] [] w) ?_ ?_
 ·
  have H := G1
  clear G1 K1
  refine AD ?_
  refine BG H (fun s a w => Fr 67 [] [(0, .string (bs p0)), (2, .pointer (some ⟨b1, 0, none⟩)), (3, .bool false), (4, .int .i64 s)] a ∧ Stw ⟨Y, [], w0⟩ [(b1, [.int .i64 0, .int .i64 0, .int .i64 0])] [] w) ⟨F.re ⟨rfl, Aa, Aa, Aa, trivial⟩, W⟩ fun s o a w H L2 hR => ?_
  obtain ⟨x2, rfl⟩ : ∃ x, x = s := ⟨s, rfl⟩
  obtain ⟨F, W⟩ := hR
  have F : Fr 67 [] [(0, .string (bs p0)), (2, .pointer (some ⟨b1, 0, none⟩)), (3, .bool false), (4, .int .i64 x2)] a := F
  have W : Stw ⟨Y, [], w0⟩ [(b1, [.int .i64 0, .int .i64 0, .int .i64 0])] [] w := W
  rw [CC] at H
  refine Ah ?_
  obtain ⟨o3, G3, K3⟩ := Al H
  refine AJ (fun a w => ∃ x3 : Bool, some (x3) = some o3 ∧ Fr 67 [] [(0, .string (bs p0)), (2, .pointer (some ⟨b1, 0, none⟩)), (3, .bool false), (4, .int .i64 x2), (16, .bool x3)] a ∧ Stw ⟨Y, [], w0⟩ [(b1, [.int .i64 0, .int .i64 0, .int .i64 0])] [] w) ?_ ?_
  ·
   have H := G3
   clear G3 K3
   refine Ac ?_
   iterate 2 refine ls F W Aa (Af F Aa).q fun a w F W => ?_
   refine ls F W Aa (CX (l := p0) E3 Aa F Aa).q fun a w F W => ?_
   refine ls F W Aa (BV F Aa Aa).q fun a w F W => ?_
   refine ls F W Aa (Af F Aa).q fun a w F W => ?_
   rcases Bool.eq_false_or_eq_true (decide (x2 < (p0.length : Int))) with hb | hb
   ·
    have H := AF (AX hb) H
    rw [hb] at F
    clear hb
    iterate 2 refine Ax F W (Ag F Aa Aa Aa Aa) Aa (An Aa) (Af F Aa).q fun a w F W => ?_
    obtain ⟨x4, h1, H⟩ := Al H
    refine Ax F W (Ag F Aa Aa Aa Aa) Aa (An Aa) (BQ (l := p0) E3 F Aa Aa h1).q fun a w F W => ?_
    refine Ax F W (Ag F Aa Aa Aa Aa) Aa (An Aa) (En F Aa Aa).q fun a w F W => ?_
    refine ls F W Aa (Ao F Aa Aa Aa).q fun a w F W => ?_
    refine Ae (Ab ?_)
    exact ⟨_, H, F.re ⟨rfl, Aa, Aa, Aa, Aa, trivial⟩, W⟩
   have H := AE (AY hb) H
   rw [hb] at F
   clear hb
   iterate 4 refine Bf F Aa Aa Aa Aa Aa Aa Aa fun a F => ?_
   refine ls F W Aa (Aj F Aa Aa Aa).q fun a w F W => ?_
   refine Ae (Ab ?_)
   exact ⟨_, H, F.re ⟨rfl, Aa, Aa, Aa, Aa, trivial⟩, W⟩
  rintro a w ⟨x3, hj, F, W⟩
  have hj := AW hj
  subst hj
  have H := K3
  clear G3 K3
  refine Av F Aa (fun hb => ?_) fun hb => ?_
  ·
   have H := AF hb H
   rw [hb] at F
   clear hb
   refine As (Ab (AD (Ac ?_)))
   refine ls F W Aa (Af F Aa).q fun a w F W => ?_
   refine ls F W Aa (BC F Aa Aa Aa).q fun a w F W => ?_
   refine ls F W Aa (Ad F Aa).q fun a w F W => ?_
   refine Ae (A4 (Ab ?_))
   exact ⟨_, H, F.re ⟨rfl, Aa, Aa, Aa, trivial⟩, W⟩
  have H := AE (by rw [hb]; decide) H
  rw [hb] at F
  clear hb
  refine Bo ?_
  iterate 2 refine BN ?_
  refine Bp (Ab ?_)
  have H := L2 _ H
  exact ⟨_, H, F.re ⟨rfl, Aa, Aa, Aa, trivial⟩, W⟩
 rintro a w ⟨x1, hj, F, W⟩
 have hj := AW hj
 subst hj
 have H := K1
 clear G1 K1
 refine Ah (Ac ?_)
 refine ls F W Aa (Dl (v := Value.agg #[.int .i64 0, .int .i64 0, .int .i64 0]) J0 F Aa Aa Aa).q fun a w F W => ?_
 refine Cu (cs := [.int .i64 0, .int .i64 0, .int .i64 0]) F W Aa Jj Aa fun b2 a w F W => ?_
 refine Bh (vs := [.int .i64 0, .int .i64 0, .int .i64 0]) (M' := [(b2, [.int .i64 0, .int .i64 0, .int .i64 0]), (b1, [.int .i64 0, .int .i64 0, .int .i64 0])]) 0 F W Aa Aa Aa FV Aa Aa Aa Aa Aa fun w W => ?_
 refine Ae (Ab ?_)
 obtain ⟨o4, G4, K4⟩ := Al H
 refine AJ (fun a w => ∃ x5 : Int, some (x5) = some o4 ∧ Fr 67 [] [(0, .string (bs p0)), (2, .pointer (some ⟨b1, 0, none⟩)), (3, .bool false), (4, .int .i64 x1), (5, .pointer (some ⟨b2, 0, none⟩))] a ∧ Stw ⟨Y, [], w0⟩ [(b2, [.int .i64 x5, .int .i64 0, .int .i64 0]), (b1, [.int .i64 0, .int .i64 0, .int .i64 0])] [] w) ?_ ?_
 ·
  have H := G4
  clear G4 K4
  refine Ah (Ac ?_)
  refine ls F W Aa (Ad F Aa).q fun a w F W => ?_
  refine Ae (Ab (AD ?_))
  have W := W.frontM (i := 1) Aa Aa
  have W := W.frontM (i := 1) Aa Aa
  refine BG H (fun s a w => Fr 67 [] [(0, .string (bs p0)), (2, .pointer (some ⟨b1, 0, none⟩)), (3, .bool false), (4, .int .i64 x1), (5, .pointer (some ⟨b2, 0, none⟩)), (6, .int .i64 s.1)] a ∧ Stw ⟨Y, [], w0⟩ [(b2, [.int .i64 s.2, .int .i64 0, .int .i64 0]), (b1, [.int .i64 0, .int .i64 0, .int .i64 0])] [] w) ⟨F.re ⟨rfl, Aa, Aa, Aa, Aa, Aa, trivial⟩, W⟩ fun s o a w H L5 hR => ?_
  obtain ⟨x6, x7⟩ := s
  obtain ⟨F, W⟩ := hR
  have F : Fr 67 [] [(0, .string (bs p0)), (2, .pointer (some ⟨b1, 0, none⟩)), (3, .bool false), (4, .int .i64 x1), (5, .pointer (some ⟨b2, 0, none⟩)), (6, .int .i64 x6)] a := F
  have W : Stw ⟨Y, [], w0⟩ [(b2, [.int .i64 x7, .int .i64 0, .int .i64 0]), (b1, [.int .i64 0, .int .i64 0, .int .i64 0])] [] w := W
  rw [BJ] at H
  refine Ah (Ah (Ac ?_))
  refine ls F W Aa (Af F Aa).q fun a w F W => ?_
  refine ls F W Aa (Gn F Aa Aa).q fun a w F W => ?_
  refine Ae (Ab ?_)
  refine Av F Aa (fun hb => ?_) fun hb => ?_
  ·
   have H := AF (AX hb) H
   rw [hb] at F
   clear hb
   refine As (Ab ?_)
   obtain ⟨o6, G6, K6⟩ := Al H
   refine AJ (fun a w => ∃ x8 : Int, some (x8) = some o6 ∧ Fr 67 [] [(0, .string (bs p0)), (2, .pointer (some ⟨b1, 0, none⟩)), (3, .bool false), (4, .int .i64 x1), (5, .pointer (some ⟨b2, 0, none⟩)), (6, .int .i64 x6)] a ∧ Stw ⟨Y, [], w0⟩ [(b2, [.int .i64 x8, .int .i64 0, .int .i64 0]), (b1, [.int .i64 0, .int .i64 0, .int .i64 0])] [] w) ?_ ?_
   ·
    have H := G6
    clear G6 K6
    refine AD (Ah ?_)
    refine Ds W MO (by kernel_rfl) ?_
    refine qs F Aa (Af F Aa).q fun a F => ?_
    obtain ⟨x9, h2, H⟩ := Al H
    refine qs F Aa (AA (v := Value.string (bs x9)) F H7 Aa (fun w W => DG any w x6 _ h2)) fun a F => ?_
    iterate 2 refine qs F Aa (Af F Aa).q fun a F => ?_
    obtain ⟨x10, h3, H⟩ := Al H
    refine qs F Aa (D4 (l := p0) E3 F Aa Aa Aa h3).q fun a F => ?_
    refine qs F Aa (El (l := x9) (m := x10) F Aa Aa).q fun a F => ?_
    refine CP fun w W => ?_
    refine Ab ?_
    refine Av F Aa (fun hb => ?_) fun hb => ?_
    ·
     have H := AF (AX hb) H
     rw [hb] at F
     clear hb
     refine Ac ?_
     refine ls F W Aa (Af F Aa).q fun a w F W => ?_
     refine ls F W Aa (Am Cr Aa Aa Aa T3 F Aa 0 Aa).q fun a w F W => ?_
     refine Bh (vs := [.int .i64 x6]) (M' := [(b2, [.int .i64 x6, .int .i64 0, .int .i64 0]), (b1, [.int .i64 0, .int .i64 0, .int .i64 0])]) 0 F W Aa Aa Aa T3 Aa Aa Aa Aa Aa fun w W => ?_
     refine Ae (A4 (Ab ?_))
     have W := W.frontM (i := 1) Aa Aa
     have W := W.frontM (i := 1) Aa Aa
     exact ⟨_, H, F.re ⟨rfl, Aa, Aa, Aa, Aa, Aa, trivial⟩, W⟩
    have H := AE (AY hb) H
    rw [hb] at F
    clear hb
    refine As (A4 (Ab ?_))
    have W := W.frontM (i := 1) Aa Aa
    have W := W.frontM (i := 1) Aa Aa
    exact ⟨_, H, F.re ⟨rfl, Aa, Aa, Aa, Aa, Aa, trivial⟩, W⟩
   rintro a w ⟨x8, hj, F, W⟩
   have hj := AW hj
   subst hj
   have H := K6
   clear G6 K6
   refine Ac ?_
   refine ls F W Aa (Af F Aa).q fun a w F W => ?_
   refine ls F W Aa (BC F Aa Aa Aa).q fun a w F W => ?_
   refine ls F W Aa (Ad F Aa).q fun a w F W => ?_
   refine Ae (Ab ?_)
   have W := W.frontM (i := 1) Aa Aa
   have W := W.frontM (i := 1) Aa Aa
   exact ⟨_, H, F.re ⟨rfl, Aa, Aa, Aa, Aa, Aa, trivial⟩, W⟩
  have H := AE (AY hb) H
  rw [hb] at F
  clear hb
  refine Bo ?_
  iterate 2 refine BN ?_
  refine Bp (Ab ?_)
  have W := W.frontM (i := 1) Aa Aa
  have W := W.frontM (i := 1) Aa Aa
  have H := L5 _ H
  exact ⟨_, H, F.re ⟨rfl, Aa, Aa, Aa, Aa, trivial⟩, W⟩
 rintro a w ⟨x5, hj, F, W⟩
 have hj := AW hj
 subst hj
 have H := K4
 clear G4 K4
 refine Ah (Ah (Ac ?_))
 refine ls F W Aa (Am Cr Aa Aa Aa T3 F Aa 0 Aa).q fun a w F W => ?_
 refine ls F W Aa (AG (v := Value.int .i64 x5) 0 F Aa Aa T3 Aa).q fun a w F W => ?_
 refine ls F W Aa (A2 F Aa Aa).q fun a w F W => ?_
 refine Ae (Ab ?_)
 refine Av F Aa (fun hb => ?_) fun hb => ?_
 ·
  have H := AF (AX hb) H
  rw [hb] at F
  clear hb
  refine Ah (Ac ?_)
  refine ls F W Aa (AG (v := Value.agg #[.int .i64 x5, .int .i64 0, .int .i64 0]) 0 F Aa Aa FV Aa).q fun a w F W => ?_
  refine Bh (vs := [.int .i64 x5, .int .i64 0, .int .i64 0]) (M' := [(b2, [.int .i64 x5, .int .i64 0, .int .i64 0]), (b1, [.int .i64 x5, .int .i64 0, .int .i64 0])]) 1 F W Aa Aa Aa FV Aa Aa Aa Aa Aa fun w W => ?_
  refine ls F W Aa (Ad F Aa).q fun a w F W => ?_
  refine Ae (Ab (Aw (AB ?_)))
  have H := AW H
  subst H
  refine FB (.inl Aa) F W Aa (Dt 1 F Aa Aa FV Aa) (Au F Aa) ?_
  exact ⟨rfl, W.done⟩
 have H := AE (AY hb) H
 rw [hb] at F
 clear hb
 refine As (Ab ?_)
 obtain ⟨o7, G7, K7⟩ := Al H
 refine AJ (fun a w => ∃ x11 : Int, ∃ x12 : Int, some ((x11, x12)) = some o7 ∧ Fr 67 [] [(0, .string (bs p0)), (2, .pointer (some ⟨b1, 0, none⟩)), (3, .bool false), (4, .int .i64 x11), (5, .pointer (some ⟨b2, 0, none⟩))] a ∧ Stw ⟨Y, [], w0⟩ [(b2, [.int .i64 x5, .int .i64 x12, .int .i64 0]), (b1, [.int .i64 0, .int .i64 0, .int .i64 0])] [] w) ?_ ?_
 ·
  have H := G7
  clear G7 K7
  refine Ah (Ac ?_)
  refine ls F W Aa (Am Cr Aa Aa Aa T3 F Aa 0 Aa).q fun a w F W => ?_
  refine ls F W Aa (AG (v := Value.int .i64 x5) 0 F Aa Aa T3 Aa).q fun a w F W => ?_
  refine ls F W Aa (AA (v := Value.bool (Bk x5)) F Jt Aa (fun w W => DO any w x5 _ Aa)) fun a w F W => ?_
  refine Ae (Ab ?_)
  refine Av F Aa (fun hb => ?_) fun hb => ?_
  ·
   have H := AF hb H
   rw [hb] at F
   clear hb
   refine Ac ?_
   iterate 2 refine ls F W Aa (Af F Aa).q fun a w F W => ?_
   refine ls F W Aa (BC F Aa Aa Aa).q fun a w F W => ?_
   obtain ⟨x13, h4, H⟩ := Al H
   refine ls F W Aa (AA (v := Value.tuple #[.int .i64 x13.1, .int .i64 x13.2]) F JH Aa (fun w W => D0 any w p0 (BE (x1 + 1)) _ h4)) fun a w F W => ?_
   refine ls F W Aa (Af F Aa).q fun a w F W => ?_
   refine ls F W Aa (AO (v := Value.int .i64 x13.1) F Aa Aa).q fun a w F W => ?_
   refine ls F W Aa (AO (v := Value.int .i64 x13.2) F Aa Aa).q fun a w F W => ?_
   refine ls F W Aa (Am Cr Aa Aa Aa T3 F Aa 1 Aa).q fun a w F W => ?_
   refine Bh (vs := [.int .i64 x13.1]) (M' := [(b2, [.int .i64 x5, .int .i64 x13.1, .int .i64 0]), (b1, [.int .i64 0, .int .i64 0, .int .i64 0])]) 0 F W Aa Aa Aa T3 Aa Aa Aa Aa Aa fun w W => ?_
   refine ls F W Aa (Ad F Aa).q fun a w F W => ?_
   refine Ae (Ab ?_)
   have W := W.frontM (i := 1) Aa Aa
   have W := W.frontM (i := 1) Aa Aa
   exact ⟨_, _, H, F.re ⟨rfl, Aa, Aa, Aa, Aa, trivial⟩, W⟩
  have H := AE (by rw [hb]; decide) H
  rw [hb] at F
  clear hb
  refine As (Ab ?_)
  have W := W.frontM (i := 1) Aa Aa
  have W := W.frontM (i := 1) Aa Aa
  exact ⟨_, _, H, F.re ⟨rfl, Aa, Aa, Aa, Aa, trivial⟩, W⟩
 rintro a w ⟨x11, x12, hj, F, W⟩
 have hj := AW hj
 subst hj
 have H := K7
 clear G7 K7
 obtain ⟨o8, G8, K8⟩ := Al H
 refine AJ (fun a w => ∃ x14 : Int, some (x14) = some o8 ∧ Fr 67 [] [(0, .string (bs p0)), (2, .pointer (some ⟨b1, 0, none⟩)), (3, .bool false), (5, .pointer (some ⟨b2, 0, none⟩))] a ∧ Stw ⟨Y, [], w0⟩ [(b2, [.int .i64 x5, .int .i64 x12, .int .i64 x14]), (b1, [.int .i64 0, .int .i64 0, .int .i64 0])] [] w) ?_ ?_
 ·
  have H := G8
  clear G8 K8
  refine Ah (Ac ?_)
  refine ls F W Aa (Am Cr Aa Aa Aa T3 F Aa 0 Aa).q fun a w F W => ?_
  refine ls F W Aa (AG (v := Value.int .i64 x5) 0 F Aa Aa T3 Aa).q fun a w F W => ?_
  refine ls F W Aa (AA (v := Value.bool (Bl x5)) F Jr Aa (fun w W => DI any w x5 _ Aa)) fun a w F W => ?_
  refine Ae (Ab ?_)
  refine Av F Aa (fun hb => ?_) fun hb => ?_
  ·
   have H := AF hb H
   rw [hb] at F
   clear hb
   refine Ac ?_
   iterate 2 refine ls F W Aa (Af F Aa).q fun a w F W => ?_
   refine ls F W Aa (BC F Aa Aa Aa).q fun a w F W => ?_
   obtain ⟨x15, h5, H⟩ := Al H
   refine ls F W Aa (AA (v := Value.tuple #[.int .i64 x15.1, .int .i64 x15.2]) F JH Aa (fun w W => D0 any w p0 (BE (x11 + 1)) _ h5)) fun a w F W => ?_
   refine ls F W Aa (Af F Aa).q fun a w F W => ?_
   refine ls F W Aa (AO (v := Value.int .i64 x15.1) F Aa Aa).q fun a w F W => ?_
   refine ls F W Aa (AO (v := Value.int .i64 x15.2) F Aa Aa).q fun a w F W => ?_
   refine ls F W Aa (Am Cr Aa Aa Aa T3 F Aa 2 Aa).q fun a w F W => ?_
   refine Bh (vs := [.int .i64 x15.1]) (M' := [(b2, [.int .i64 x5, .int .i64 x12, .int .i64 x15.1]), (b1, [.int .i64 0, .int .i64 0, .int .i64 0])]) 0 F W Aa Aa Aa T3 Aa Aa Aa Aa Aa fun w W => ?_
   refine ls F W Aa (Ad F Aa).q fun a w F W => ?_
   refine Ae (Ab ?_)
   have W := W.frontM (i := 1) Aa Aa
   have W := W.frontM (i := 1) Aa Aa
   exact ⟨_, H, F.re ⟨rfl, Aa, Aa, Aa, trivial⟩, W⟩
  have H := AE (by rw [hb]; decide) H
  rw [hb] at F
  clear hb
  refine As (Ab ?_)
  have W := W.frontM (i := 1) Aa Aa
  have W := W.frontM (i := 1) Aa Aa
  exact ⟨_, H, F.re ⟨rfl, Aa, Aa, Aa, trivial⟩, W⟩
 rintro a w ⟨x14, hj, F, W⟩
 have hj := AW hj
 subst hj
 have H := K8
 clear G8 K8
 obtain ⟨o9, G9, K9⟩ := Al H
 refine AJ (fun a w => ∃ x16 : Bool, some (x16) = some o9 ∧ Fr 67 [] [(2, .pointer (some ⟨b1, 0, none⟩)), (3, .bool x16)] a ∧ Stw ⟨Y, [], w0⟩ [(b2, [.int .i64 x5, .int .i64 x12, .int .i64 x14]), (b1, [.int .i64 x5, .int .i64 x12, .int .i64 x14])] [] w) ?_ ?_
 ·
  have H := G9
  clear G9 K9
  refine Gj [(true, 0), (true, 1), (false, 2), (true, 3), (true, 4), (true, 6), (false, 5), (true, 7), (true, 8), (false, 9), (false, 10)] (CN ⟨Y, [], w0⟩ [(some 9, b2, [.int .i64 x5, .int .i64 x12, .int .i64 x14]), (some 2, b2, [.int .i64 x5, .int .i64 x12, .int .i64 x14])] []) (fun ch a d v w h => by cases d <;> exact h) MO (by kernel_rfl) W (fun w W => ⟨_, _, W, (AC (fun _ => (.head _)) (AC (fun _ => (.head _)) A1)), A1⟩) fun w W => ?_
  refine FX (R := [9]) F Aa Aa (yC fun M Z hN hZ => De (cs := [.int .i64 x5, .int .i64 x12, .int .i64 x14]) (v := Value.agg #[.int .i64 x5, .int .i64 x12, .int .i64 x14]) F Aa (hN ((some 9), b2, [.int .i64 x5, .int .i64 x12, .int .i64 x14]) (.head _) Aa) FV Aa) (by kernel_rfl) Aa fun a F => ?_
  refine FX (R := [2]) F Aa Aa (yC fun M Z hN hZ => De (cs := [.int .i64 x5, .int .i64 x12, .int .i64 x14]) (v := Value.agg #[.int .i64 x5, .int .i64 x12, .int .i64 x14]) F Aa (hN ((some 2), b2, [.int .i64 x5, .int .i64 x12, .int .i64 x14]) (.tail _ (.head _)) Aa) FV Aa) (by kernel_rfl) Aa fun a F => ?_
  refine Fi Aa ?_
  refine ls F W Aa (AA (v := Value.bool (Bx (x5, x12, x14))) F Jk Aa (fun w W => Dv any w (x5, x12, x14) _ Aa)) fun a w F W => ?_
  refine Cc (N2 := [(some 5, b2, [.int .i64 x5, .int .i64 x12, .int .i64 x14])]) (NZ2 := []) (N3 := [(some 9, b2, [.int .i64 x5, .int .i64 x12, .int .i64 x14]), (some 2, b2, [.int .i64 x5, .int .i64 x12, .int .i64 x14]), (some 5, b2, [.int .i64 x5, .int .i64 x12, .int .i64 x14])]) (NZ3 := []) W Aa Aa (AC (fun _ => (.head _)) (AC (fun h => AV (by kernel_rfl) h) (AC (fun _ => (.head _)) A1))) A1 ?_
  refine FX (R := []) F Aa Aa (yC fun M Z hN hZ => Af F Aa) Aa Aa fun a F => ?_
  rcases Bool.eq_false_or_eq_true (Bx (x5, x12, x14)) with hb | hb
  ·
   have H := AF hb H
   rw [hb] at F
   clear hb
   refine I1 (R := [5]) F Aa (Ag F Aa Aa Aa Aa) Aa Aa (yC fun M Z hN hZ => De (cs := [.int .i64 x5, .int .i64 x12, .int .i64 x14]) (v := Value.agg #[.int .i64 x5, .int .i64 x12, .int .i64 x14]) F Aa (hN ((some 5), b2, [.int .i64 x5, .int .i64 x12, .int .i64 x14]) (.tail _ (.tail _ (.head _))) Aa) FV Aa) (by kernel_rfl) Aa fun a F => ?_
   refine I1 (R := []) F Aa (Ag F Aa Aa Aa Aa) Aa Aa (yC fun M Z hN hZ => Af F Aa) Aa Aa fun a F => ?_
   refine Fi Aa ?_
   refine Gs (Ag F Aa Aa Aa Aa) ?_
   obtain ⟨x17, h6, H⟩ := Al H
   refine ls F W Aa (AA (v := Value.string (bs x17)) F Jv Aa (fun w W => DJ any w (x5, x12, x14) _ h6)) fun a w F W => ?_
   refine Cc (N2 := []) (NZ2 := []) (N3 := [(some 9, b2, [.int .i64 x5, .int .i64 x12, .int .i64 x14]), (some 2, b2, [.int .i64 x5, .int .i64 x12, .int .i64 x14]), (some 5, b2, [.int .i64 x5, .int .i64 x12, .int .i64 x14])]) (NZ3 := []) W Aa Aa (AC (fun _ => (.head _)) (AC (fun h => AV (by kernel_rfl) h) (AC (fun h => AV (by kernel_rfl) h) A1))) A1 ?_
   refine I1 (R := []) F Aa (Ag F Aa Aa Aa Aa) Aa Aa (yC fun M Z hN hZ => El (l := x17) (m := p0) F Aa Aa) Aa Aa fun a F => ?_
   refine FX (R := []) F Aa Aa (yC fun M Z hN hZ => Ao F Aa Aa Aa) Aa Aa fun a F => ?_
   refine Fi Aa ?_
   refine Bh (vs := [.int .i64 x5, .int .i64 x12, .int .i64 x14]) (M' := [(b2, [.int .i64 x5, .int .i64 x12, .int .i64 x14]), (b1, [.int .i64 x5, .int .i64 x12, .int .i64 x14])]) 1 F W Aa Aa Aa FV Aa Aa Aa Aa Aa fun w W => ?_
   refine Cc (N2 := []) (NZ2 := []) (N3 := [(some 9, b2, [.int .i64 x5, .int .i64 x12, .int .i64 x14]), (some 2, b2, [.int .i64 x5, .int .i64 x12, .int .i64 x14]), (some 5, b2, [.int .i64 x5, .int .i64 x12, .int .i64 x14])]) (NZ3 := []) W Aa Aa (AC (fun h => AV (by kernel_rfl) h) (AC (fun h => AV (by kernel_rfl) h) (AC (fun h => AV (by kernel_rfl) h) A1))) A1 ?_
   refine Fi Aa ?_
   refine ls F W Aa (Ad F Aa).q fun a w F W => ?_
   refine Cc (N2 := []) (NZ2 := []) (N3 := [(some 9, b2, [.int .i64 x5, .int .i64 x12, .int .i64 x14]), (some 2, b2, [.int .i64 x5, .int .i64 x12, .int .i64 x14]), (some 5, b2, [.int .i64 x5, .int .i64 x12, .int .i64 x14])]) (NZ3 := []) W Aa Aa (AC (fun h => AV (by kernel_rfl) h) (AC (fun h => AV (by kernel_rfl) h) (AC (fun h => AV (by kernel_rfl) h) A1))) A1 ?_
   refine GB (Ab ?_)
   have W := W.frontM (i := 1) Aa Aa
   have W := W.frontM (i := 1) Aa Aa
   exact ⟨_, H, F.re ⟨rfl, Aa, trivial⟩, W⟩
  have H := AE (by rw [hb]; decide) H
  rw [hb] at F
  clear hb
  iterate 2 refine GV F Aa (DU F Aa Aa Aa Aa Aa) Aa Aa Aa fun a F => ?_
  refine Fi Aa ?_
  refine Bf F Aa Aa Aa Aa Aa Aa Aa fun a F => ?_
  refine Cc (N2 := []) (NZ2 := []) (N3 := [(some 9, b2, [.int .i64 x5, .int .i64 x12, .int .i64 x14]), (some 2, b2, [.int .i64 x5, .int .i64 x12, .int .i64 x14]), (some 5, b2, [.int .i64 x5, .int .i64 x12, .int .i64 x14])]) (NZ3 := []) W Aa Aa (AC (fun _ => (.head _)) (AC (fun h => AV (by kernel_rfl) h) (AC (fun h => AV (by kernel_rfl) h) A1))) A1 ?_
  refine GV F Aa (DU F Aa Aa Aa Aa Aa) Aa Aa Aa fun a F => ?_
  refine FX (R := []) F Aa Aa (yC fun M Z hN hZ => Aj F Aa Aa Aa) Aa Aa fun a F => ?_
  refine Fi Aa ?_
  refine Bh (vs := [.int .i64 x5, .int .i64 x12, .int .i64 x14]) (M' := [(b2, [.int .i64 x5, .int .i64 x12, .int .i64 x14]), (b1, [.int .i64 x5, .int .i64 x12, .int .i64 x14])]) 1 F W Aa Aa Aa FV Aa Aa Aa Aa Aa fun w W => ?_
  refine Cc (N2 := []) (NZ2 := []) (N3 := [(some 9, b2, [.int .i64 x5, .int .i64 x12, .int .i64 x14]), (some 2, b2, [.int .i64 x5, .int .i64 x12, .int .i64 x14]), (some 5, b2, [.int .i64 x5, .int .i64 x12, .int .i64 x14])]) (NZ3 := []) W Aa Aa (AC (fun h => AV (by kernel_rfl) h) (AC (fun h => AV (by kernel_rfl) h) (AC (fun h => AV (by kernel_rfl) h) A1))) A1 ?_
  refine Fi Aa ?_
  refine ls F W Aa (Ad F Aa).q fun a w F W => ?_
  refine Cc (N2 := []) (NZ2 := []) (N3 := [(some 9, b2, [.int .i64 x5, .int .i64 x12, .int .i64 x14]), (some 2, b2, [.int .i64 x5, .int .i64 x12, .int .i64 x14]), (some 5, b2, [.int .i64 x5, .int .i64 x12, .int .i64 x14])]) (NZ3 := []) W Aa Aa (AC (fun h => AV (by kernel_rfl) h) (AC (fun h => AV (by kernel_rfl) h) (AC (fun h => AV (by kernel_rfl) h) A1))) A1 ?_
  refine GB (Ab ?_)
  have W := W.frontM (i := 1) Aa Aa
  have W := W.frontM (i := 1) Aa Aa
  exact ⟨_, H, F.re ⟨rfl, Aa, trivial⟩, W⟩
 rintro a w ⟨x16, hj, F, W⟩
 have hj := AW hj
 subst hj
 have H := K9
 clear G9 K9
 refine Aw ?_
 have H := AW H
 subst H
 refine FB (.inl Aa) F W Aa (Dt 1 F Aa Aa FV Aa) (Au F Aa) ?_
 exact ⟨rfl, W.done⟩
theorem J1 : Has Tryd.prog 27 := ⟨fun args w => Ak Tryd.func27 rfl (by decide) args w⟩
noncomputable def BX (p0 : List UInt8) : Int → Option (Int ⊕ Int)
  | x6 => (if x6 < (p0.length : Int) then (ix p0 x6).bind fun x8 => some (decide ((x8.toNat : Int) ≠ 10)) else some false).bind fun x7 => (if x7 = true then some (.inl (BE (x6 + 1))) else some (.inr x6))
noncomputable def A6 (p0 : List UInt8) : ((List (Int × Int × Int)) × Int × Int) → Option (((List (Int × Int × Int)) × Int × Int) ⊕ ((List (Int × Int × Int)) ⊕ ((List (Int × Int × Int)) × Int × Int)))
  | (x2, x3, x4) => (if x3 < (p0.length : Int) then (AH (BX p0) x3).bind fun x5 => (CK p0 x3 x5).bind fun x9 => (if x9 = ([] : List UInt8) then some true else (ix x9 0).bind fun x11 => some (decide ((x11.toNat : Int) = 35))).bind fun x10 => (if x10 = true then some (.inl (x2, BE (x5 + 1), BE (x4 + 1))) else (Co x9).bind fun x12 => (if (!x12.2) = true then some (.inr (.inr (([] : List (Int × Int × Int)), BE (x4 + 1), 10))) else (DB x2 ([x12.1] : List (Int × Int × Int))).bind fun x13 => some (.inl (x13, BE (x5 + 1), BE (x4 + 1))))) else some (.inr (.inl x2)))
noncomputable def CS (p0 : List UInt8) : Option ((List (Int × Int × Int)) × Int × Int) := Fh (AH (A6 p0) ([], 0, 0)) fun x1 => some (x1, 0, 0)
theorem F0 (Y : Nat → Prop) (w0 : World)  (p0 : List UInt8) (r : (List (Int × Int × Int)) × Int × Int) (H : CS p0 = some r)  :
    Calls Tryd.prog 14 #[.string (bs p0)] w0 fun e w' => ∃ x : Value, e = .returned (.tuple #[x, .int .i64 r.2.1, .int .i64 r.2.2]) ∧ Stw ⟨Y, [], w0⟩ [] [row (x) 28 C5 r.1] w' := by
 refine enter Tryd.func14 Aa Tryd.ntmps14 Aa fun a F => ?_
 have W := Stw.start Y w0
 unfold CS at H
 refine Ah (Ac ?_)
 iterate 3 refine ls F W Aa (Ad F Aa).q fun a w F W => ?_
 refine Ae (Ab (Ah (Ac ?_)))
 refine ls F W Aa (Ad F Aa).q fun a w F W => ?_
 refine Ae (Ab (Ah (Ac ?_)))
 iterate 2 refine ls F W Aa (Ad F Aa).q fun a w F W => ?_
 refine Ae (Ab ?_)
 obtain ⟨o1, G1, K1, L1⟩ := Ie H
 refine AJ (fun a w => ∃ x1 : List (Int × Int × Int), ∃ v1 : Value, some (Sum.inl x1) = some o1 ∧ Fr 57 [] [(2, .slice none 0 0), (3, .int .i64 0), (4, .int .i64 0), (5, v1)] a ∧ Stw ⟨Y, [], w0⟩ [] [row v1 28 C5 x1] w) ?_ ?_
 ·
  have H := G1
  clear G1 K1
  refine AD ?_
  have W := W.nilRow 28 C5
  refine BG H (fun s a w => ∃ v2 : Value, Fr 57 [] [(0, .string (bs p0)), (2, .slice none 0 0), (3, .int .i64 0), (4, .int .i64 0), (5, v2), (6, .int .i64 s.2.1), (7, .int .i64 s.2.2)] a ∧ Stw ⟨Y, [], w0⟩ [] [row v2 28 C5 s.1] w) ⟨(Value.slice none 0 0), F.re ⟨rfl, Aa, Aa, Aa, Aa, Aa, Aa, trivial⟩, W⟩ fun s o a w H L2 hR => ?_
  obtain ⟨x2, x3, x4⟩ := s
  obtain ⟨v2, F, W⟩ := hR
  have F : Fr 57 [] [(0, .string (bs p0)), (2, .slice none 0 0), (3, .int .i64 0), (4, .int .i64 0), (5, v2), (6, .int .i64 x3), (7, .int .i64 x4)] a := F
  have W : Stw ⟨Y, [], w0⟩ [] [row v2 28 C5 x2] w := W
  rw [A6] at H
  refine Ah (Ah (Ac ?_))
  iterate 2 refine ls F W Aa (Af F Aa).q fun a w F W => ?_
  refine ls F W Aa (CX (l := p0) E3 Aa F Aa).q fun a w F W => ?_
  refine ls F W Aa (BV F Aa Aa).q fun a w F W => ?_
  refine Ae (Ab ?_)
  refine Av F Aa (fun hb => ?_) fun hb => ?_
  ·
   have H := AF (AX hb) H
   rw [hb] at F
   clear hb
   refine As (Ab (AD (Ah (Ac ?_))))
   refine ls F W Aa (Af F Aa).q fun a w F W => ?_
   refine ls F W Aa (Ad F Aa).q fun a w F W => ?_
   refine Ae (Ab ?_)
   obtain ⟨o3, G3, K3⟩ := Al H
   refine AJ (fun a w => ∃ x5 : Int, some (x5) = some o3 ∧ Fr 57 [] [(0, .string (bs p0)), (2, .slice none 0 0), (3, .int .i64 0), (4, .int .i64 0), (5, v2), (6, .int .i64 x3), (7, .int .i64 x4), (8, .int .i64 x5)] a ∧ Stw ⟨Y, [], w0⟩ [] [row v2 28 C5 x2] w) ?_ ?_
   ·
    have H := G3
    clear G3 K3
    refine AD ?_
    refine BG H (fun s a w => Fr 57 [] [(0, .string (bs p0)), (2, .slice none 0 0), (3, .int .i64 0), (4, .int .i64 0), (5, v2), (6, .int .i64 x3), (7, .int .i64 x4), (8, .int .i64 s)] a ∧ Stw ⟨Y, [], w0⟩ [] [row v2 28 C5 x2] w) ⟨F.re ⟨rfl, Aa, Aa, Aa, Aa, Aa, Aa, Aa, trivial⟩, W⟩ fun s o a w H L4 hR => ?_
    obtain ⟨x6, rfl⟩ : ∃ x, x = s := ⟨s, rfl⟩
    obtain ⟨F, W⟩ := hR
    have F : Fr 57 [] [(0, .string (bs p0)), (2, .slice none 0 0), (3, .int .i64 0), (4, .int .i64 0), (5, v2), (6, .int .i64 x3), (7, .int .i64 x4), (8, .int .i64 x6)] a := F
    have W : Stw ⟨Y, [], w0⟩ [] [row v2 28 C5 x2] w := W
    rw [BX] at H
    refine Ah ?_
    obtain ⟨o5, G5, K5⟩ := Al H
    refine AJ (fun a w => ∃ x7 : Bool, some (x7) = some o5 ∧ Fr 57 [] [(0, .string (bs p0)), (2, .slice none 0 0), (3, .int .i64 0), (4, .int .i64 0), (5, v2), (6, .int .i64 x3), (7, .int .i64 x4), (8, .int .i64 x6), (26, .bool x7)] a ∧ Stw ⟨Y, [], w0⟩ [] [row v2 28 C5 x2] w) ?_ ?_
    ·
     have H := G5
     clear G5 K5
     refine Ac ?_
     iterate 2 refine ls F W Aa (Af F Aa).q fun a w F W => ?_
     refine ls F W Aa (CX (l := p0) E3 Aa F Aa).q fun a w F W => ?_
     refine ls F W Aa (BV F Aa Aa).q fun a w F W => ?_
     refine ls F W Aa (Af F Aa).q fun a w F W => ?_
     rcases Bool.eq_false_or_eq_true (decide (x6 < (p0.length : Int))) with hb | hb
     ·
      have H := AF (AX hb) H
      rw [hb] at F
      clear hb
      iterate 2 refine Ax F W (Ag F Aa Aa Aa Aa) Aa (An Aa) (Af F Aa).q fun a w F W => ?_
      obtain ⟨x8, h1, H⟩ := Al H
      refine Ax F W (Ag F Aa Aa Aa Aa) Aa (An Aa) (BQ (l := p0) E3 F Aa Aa h1).q fun a w F W => ?_
      refine Ax F W (Ag F Aa Aa Aa Aa) Aa (An Aa) (En F Aa Aa).q fun a w F W => ?_
      refine ls F W Aa (Ao F Aa Aa Aa).q fun a w F W => ?_
      refine Ae (Ab ?_)
      exact ⟨_, H, F.re ⟨rfl, Aa, Aa, Aa, Aa, Aa, Aa, Aa, Aa, trivial⟩, W⟩
     have H := AE (AY hb) H
     rw [hb] at F
     clear hb
     iterate 4 refine Bf F Aa Aa Aa Aa Aa Aa Aa fun a F => ?_
     refine ls F W Aa (Aj F Aa Aa Aa).q fun a w F W => ?_
     refine Ae (Ab ?_)
     exact ⟨_, H, F.re ⟨rfl, Aa, Aa, Aa, Aa, Aa, Aa, Aa, Aa, trivial⟩, W⟩
    rintro a w ⟨x7, hj, F, W⟩
    have hj := AW hj
    subst hj
    have H := K5
    clear G5 K5
    refine Av F Aa (fun hb => ?_) fun hb => ?_
    ·
     have H := AF hb H
     rw [hb] at F
     clear hb
     refine As (Ab (AD (Ac ?_)))
     refine ls F W Aa (Af F Aa).q fun a w F W => ?_
     refine ls F W Aa (BC F Aa Aa Aa).q fun a w F W => ?_
     refine ls F W Aa (Ad F Aa).q fun a w F W => ?_
     refine Ae (A4 (Ab ?_))
     exact ⟨_, H, F.re ⟨rfl, Aa, Aa, Aa, Aa, Aa, Aa, Aa, trivial⟩, W⟩
    have H := AE (by rw [hb]; decide) H
    rw [hb] at F
    clear hb
    refine Bo ?_
    iterate 2 refine BN ?_
    refine Bp (Ab ?_)
    have H := L4 _ H
    exact ⟨_, H, F.re ⟨rfl, Aa, Aa, Aa, Aa, Aa, Aa, Aa, trivial⟩, W⟩
   rintro a w ⟨x5, hj, F, W⟩
   have hj := AW hj
   subst hj
   have H := K3
   clear G3 K3
   refine Ah (Ac ?_)
   iterate 3 refine ls F W Aa (Af F Aa).q fun a w F W => ?_
   obtain ⟨x9, h2, H⟩ := Al H
   refine ls F W Aa (D4 (l := p0) E3 F Aa Aa Aa h2).q fun a w F W => ?_
   refine ls F W Aa (Ad F Aa).q fun a w F W => ?_
   refine Ae (Ab (Ah (Ac ?_)))
   refine ls F W Aa (Af F Aa).q fun a w F W => ?_
   refine ls F W Aa (BC F Aa Aa Aa).q fun a w F W => ?_
   refine ls F W Aa (Ad F Aa).q fun a w F W => ?_
   refine Ae (Ab (Ah (Ac ?_)))
   refine ls F W Aa (Af F Aa).q fun a w F W => ?_
   refine ls F W Aa (BC F Aa Aa Aa).q fun a w F W => ?_
   refine ls F W Aa (Ad F Aa).q fun a w F W => ?_
   refine Ae (Ab (Ah ?_))
   obtain ⟨o6, G6, K6⟩ := Al H
   refine AJ (fun a w => ∃ x10 : Bool, some (x10) = some o6 ∧ Fr 57 [] [(0, .string (bs p0)), (2, .slice none 0 0), (3, .int .i64 0), (4, .int .i64 0), (5, v2), (6, .int .i64 (BE (x5 + 1))), (7, .int .i64 (BE (x4 + 1))), (9, .string (bs x9)), (43, .bool x10)] a ∧ Stw ⟨Y, [], w0⟩ [] [row v2 28 C5 x2] w) ?_ ?_
   ·
    have H := G6
    clear G6 K6
    refine Ac ?_
    refine ls F W Aa (Af F Aa).q fun a w F W => ?_
    refine ls F W Aa (El (l := x9) (m := ([] : List UInt8)) F Aa Aa).q fun a w F W => ?_
    refine ls F W Aa (Af F Aa).q fun a w F W => ?_
    rcases Bool.eq_false_or_eq_true (decide (x9 = ([] : List UInt8))) with hb | hb
    ·
     have H := AF (AX hb) H
     rw [hb] at F
     clear hb
     iterate 3 refine Bf F Aa Aa Aa Aa Aa Aa Aa fun a F => ?_
     refine ls F W Aa (Ao F Aa Aa Aa).q fun a w F W => ?_
     refine Ae (Ab ?_)
     exact ⟨_, H, F.re ⟨rfl, Aa, Aa, Aa, Aa, Aa, Aa, Aa, Aa, trivial⟩, W⟩
    have H := AE (AY hb) H
    rw [hb] at F
    clear hb
    refine Ax F W (Ag F Aa Aa Aa Aa) Aa (An Aa) (Af F Aa).q fun a w F W => ?_
    obtain ⟨x11, h3, H⟩ := Al H
    refine Ax F W (Ag F Aa Aa Aa Aa) Aa (An Aa) (BQ (l := x9) E3 F Aa Aa h3).q fun a w F W => ?_
    refine Ax F W (Ag F Aa Aa Aa Aa) Aa (An Aa) (A2 F Aa Aa).q fun a w F W => ?_
    refine ls F W Aa (Aj F Aa Aa Aa).q fun a w F W => ?_
    refine Ae (Ab ?_)
    exact ⟨_, H, F.re ⟨rfl, Aa, Aa, Aa, Aa, Aa, Aa, Aa, Aa, trivial⟩, W⟩
   rintro a w ⟨x10, hj, F, W⟩
   have hj := AW hj
   subst hj
   have H := K6
   clear G6 K6
   refine Av F Aa (fun hb => ?_) fun hb => ?_
   ·
    have H := AF hb H
    rw [hb] at F
    clear hb
    refine Bo (BN (Bp (Ab ?_)))
    exact ⟨_, H, (v2), F.re ⟨rfl, Aa, Aa, Aa, Aa, Aa, Aa, trivial⟩, W⟩
   have H := AE (by rw [hb]; decide) H
   rw [hb] at F
   clear hb
   refine As (Ab (Ah (Ac ?_)))
   refine ls F W Aa (Af F Aa).q fun a w F W => ?_
   obtain ⟨x12, h4, H⟩ := Al H
   refine ls F W Aa (AA (v := Value.tuple #[.agg #[.int .i64 x12.1.1, .int .i64 x12.1.2.1, .int .i64 x12.1.2.2], .bool x12.2]) F J1 Aa (fun w W => GG any w x9 _ h4)) fun a w F W => ?_
   refine ls F W Aa (Af F Aa).q fun a w F W => ?_
   refine ls F W Aa (AO (v := Value.agg #[.int .i64 x12.1.1, .int .i64 x12.1.2.1, .int .i64 x12.1.2.2]) F Aa Aa).q fun a w F W => ?_
   refine ls F W Aa (AO (v := Value.bool x12.2) F Aa Aa).q fun a w F W => ?_
   refine Cu (cs := [.int .i64 0, .int .i64 0, .int .i64 0]) F W Aa Jj Aa fun b1 a w F W => ?_
   refine Bh (vs := [.int .i64 x12.1.1, .int .i64 x12.1.2.1, .int .i64 x12.1.2.2]) (M' := [(b1, [.int .i64 x12.1.1, .int .i64 x12.1.2.1, .int .i64 x12.1.2.2])]) 0 F W Aa Aa Aa FV Aa Aa Aa Aa Aa fun w W => ?_
   refine ls F W Aa (Ad F Aa).q fun a w F W => ?_
   refine Ae (Ab (Ah (Ah (Ac ?_))))
   refine ls F W Aa (Af F Aa).q fun a w F W => ?_
   refine ls F W Aa (EP F Aa).q fun a w F W => ?_
   refine Ae (Ab ?_)
   refine Av F Aa (fun hb => ?_) fun hb => ?_
   ·
    have H := AF hb H
    rw [hb] at F
    clear hb
    refine Ah (Ac ?_)
    refine ls F W Aa (Af F Aa).q fun a w F W => ?_
    iterate 3 refine ls F W Aa (Ad F Aa).q fun a w F W => ?_
    refine Ae (Ab (Aw (AB (AM (AB (AM (AB ?_)))))))
    have H := L2 _ H
    have H := L1 _ H
    have H := AW H
    subst H
    refine GR (.inl Aa) F W Aa (Au F Aa) (Au F Aa) (Au F Aa) ?_
    have W := W.nilRow 28 C5
    have W := W.sub (M' := []) (Z' := [row (Value.slice none 0 0) 28 C5 ([])]) (List.nil_sublist _) (List.Sublist.cons_cons _ (List.nil_sublist _))
    exact ⟨(Value.slice none 0 0), Aa, W⟩
   have H := AE (by rw [hb]; decide) H
   rw [hb] at F
   clear hb
   refine As (Ab (Ac ?_))
   refine ls F W Aa (Af F Aa).q fun a w F W => ?_
   refine ls F W Aa (AG (v := Value.agg #[.int .i64 x12.1.1, .int .i64 x12.1.2.1, .int .i64 x12.1.2.2]) 0 F Aa Aa FV Aa).q fun a w F W => ?_
   refine GS (z := Value.agg #[.int .i64 0, .int .i64 0, .int .i64 0]) (cs := [.int .i64 x12.1.1, .int .i64 x12.1.2.1, .int .i64 x12.1.2.2]) C5 ([x12.1] : List (Int × Int × Int)) F W Aa ID Jj Aa Aa Aa Aa Aa Aa (IM.repL _ _ ([x12.1] : List (Int × Int × Int))) fun v3 a w F W => ?_
   obtain ⟨x13, h5, H⟩ := Al H
   refine E1 (r := C5) (i := 1) F W Aa ID Aa Aa Aa Aa (FR W 0 Aa) h5 Aa fun v4 a w F W => ?_
   have W : Stw ⟨Y, [], w0⟩ [(b1, [.int .i64 x12.1.1, .int .i64 x12.1.2.1, .int .i64 x12.1.2.2])] [row v4 28 C5 x13, row v3 28 C5 ([x12.1] : List (Int × Int × Int))] w := W
   refine ls F W Aa (Ad F Aa).q fun a w F W => ?_
   refine Ae (A4 (Ab ?_))
   have W := W.sub (M' := []) (Z' := [row v4 28 C5 x13]) (List.nil_sublist _) (List.Sublist.cons_cons _ (List.nil_sublist _))
   exact ⟨_, H, (v4), F.re ⟨rfl, Aa, Aa, Aa, Aa, Aa, Aa, trivial⟩, W⟩
  have H := AE (AY hb) H
  rw [hb] at F
  clear hb
  refine Bo ?_
  iterate 2 refine BN ?_
  refine Bp (Ab ?_)
  have H := L2 _ H
  exact ⟨_, (v2), H, F.re ⟨rfl, Aa, Aa, Aa, trivial⟩, W⟩
 rintro a w ⟨x1, v1, hj, F, W⟩
 have H := K1 _ hj
 clear hj G1 K1 L1
 refine Ah (Ac ?_)
 refine ls F W Aa (Af F Aa).q fun a w F W => ?_
 iterate 3 refine ls F W Aa (Ad F Aa).q fun a w F W => ?_
 refine Ae (Ab (Aw ?_))
 have H := AW H
 subst H
 refine GR (.inl Aa) F W Aa (Au F Aa) (Au F Aa) (Au F Aa) ?_
 exact ⟨(v1), Aa, W⟩
theorem JQ : Has Tryd.prog 14 := ⟨fun args w => Ak Tryd.func14 rfl (by decide) args w⟩
noncomputable def Cj (p0 : List (Int × Int × Int)) : ((List (Int × Int × Int)) × Int) → Option (((List (Int × Int × Int)) × Int) ⊕ (List (Int × Int × Int)))
  | (x2, x3) => (if x3 < (p0.length : Int) then (ix p0 x3).bind fun x4 => (DB x2 ([(Az x4)] : List (Int × Int × Int))).bind fun x5 => some (.inl (x5, BE (x3 + 1))) else some (.inr x2))
noncomputable def CV (p0 : List (Int × Int × Int)) : Option (List (Int × Int × Int)) := (AH (Cj p0) ([], 0)).bind fun x1 => some x1
theorem E9 (Y : Nat → Prop) (w0 : World) (v1 : Value) (p0 : List (Int × Int × Int)) (r : (List (Int × Int × Int))) (H : CV p0 = some r) (h_v1 : Sl w0 (NX []) C5 v1 p0) :
    Calls Tryd.prog 16 #[v1] w0 fun e w' => ∃ x : Value, e = .returned (x) ∧ Stw ⟨Y, [], w0⟩ [] [row (x) 26 Cp r] w' := by
 refine enter Tryd.func16 Aa Tryd.ntmps16 Aa fun a F => ?_
 have W := Stw.start Y w0
 unfold CV at H
 refine Ah (Ac ?_)
 refine ls F W Aa (Ad F Aa).q fun a w F W => ?_
 refine Ae (Ab (Ah (Ac ?_)))
 refine ls F W Aa (Ad F Aa).q fun a w F W => ?_
 refine Ae (Ab ?_)
 obtain ⟨o1, G1, K1⟩ := Al H
 refine AJ (fun a w => ∃ x1 : List (Int × Int × Int), ∃ v2 : Value, some (x1) = some o1 ∧ Fr 20 [] [(2, .slice none 0 0), (3, v2)] a ∧ Stw ⟨Y, [], w0⟩ [] [row v2 26 Cp x1] w) ?_ ?_
 ·
  have H := G1
  clear G1 K1
  refine Ah (Ac ?_)
  refine ls F W Aa (Ad F Aa).q fun a w F W => ?_
  refine Ae (Ab (AD ?_))
  have W := W.nilRow 26 Cp
  refine BG H (fun s a w => ∃ v3 : Value, Fr 20 [] [(0, v1), (2, .slice none 0 0), (3, v3), (4, .int .i64 s.2)] a ∧ Stw ⟨Y, [], w0⟩ [] [row v3 26 Cp s.1] w) ⟨(Value.slice none 0 0), F.re ⟨rfl, Aa, Aa, Aa, trivial⟩, W⟩ fun s o a w H L2 hR => ?_
  obtain ⟨x2, x3⟩ := s
  obtain ⟨v3, F, W⟩ := hR
  have F : Fr 20 [] [(0, v1), (2, .slice none 0 0), (3, v3), (4, .int .i64 x3)] a := F
  have W : Stw ⟨Y, [], w0⟩ [] [row v3 26 Cp x2] w := W
  rw [Cj] at H
  refine Ah (Ah (Ac ?_))
  iterate 2 refine ls F W Aa (Af F Aa).q fun a w F W => ?_
  refine ls F W Aa (Da (r := C5) (l := p0) HC Aa F Aa (Bb h_v1)).q fun a w F W => ?_
  refine ls F W Aa (BV F Aa Aa).q fun a w F W => ?_
  refine Ae (Ab ?_)
  refine Av F Aa (fun hb => ?_) fun hb => ?_
  ·
   have H := AF (AX hb) H
   rw [hb] at F
   clear hb
   refine As (Ab (Ah (AD (Ac ?_))))
   iterate 3 refine ls F W Aa (Af F Aa).q fun a w F W => ?_
   obtain ⟨x4, h1, H⟩ := Al H
   refine ls F W Aa (Bz (r := C5) ID F Aa Aa (Bb h_v1) h1).q fun a w F W => ?_
   refine ls F W Aa (A5 (y := Value.agg #[.int .i64 x4.1, .int .i64 x4.2.1, .int .i64 x4.2.2]) (j := 0) (i := x3) F Aa Aa (Bb h_v1) h1 IM.to FV Aa).q fun a w F W => ?_
   refine ls F W Aa (AA (v := Value.agg #[.int .i64 ((Az x4).1), .int .i64 ((Az x4).2.1), .int .i64 ((Az x4).2.2)]) F H8 Aa (fun w W => E2 any w x4 _ Aa)) fun a w F W => ?_
   refine GS (z := Value.agg #[.int .i64 0, .int .i64 0, .int .i64 0]) (cs := [.int .i64 ((Az x4).1), .int .i64 ((Az x4).2.1), .int .i64 ((Az x4).2.2)]) Cp ([(Az x4)] : List (Int × Int × Int)) F W Aa Im IE Aa Aa Aa Aa Aa Aa (IV.repL _ _ ([(Az x4)] : List (Int × Int × Int))) fun v4 a w F W => ?_
   obtain ⟨x5, h2, H⟩ := Al H
   refine E1 (r := Cp) (i := 1) F W Aa Im Aa Aa Aa Aa (FR W 0 Aa) h2 Aa fun v5 a w F W => ?_
   have W : Stw ⟨Y, [], w0⟩ [] [row v5 26 Cp x5, row v4 26 Cp ([(Az x4)] : List (Int × Int × Int))] w := W
   refine ls F W Aa (Ad F Aa).q fun a w F W => ?_
   refine Ae (A4 (Ab (Ac ?_)))
   refine ls F W Aa (Af F Aa).q fun a w F W => ?_
   refine ls F W Aa (BC F Aa Aa Aa).q fun a w F W => ?_
   refine ls F W Aa (Ad F Aa).q fun a w F W => ?_
   refine Ae (Ab ?_)
   have W := W.sub (M' := []) (Z' := [row v5 26 Cp x5]) (List.Sublist.refl _) (List.Sublist.cons_cons _ (List.nil_sublist _))
   exact ⟨_, H, (v5), F.re ⟨rfl, Aa, Aa, Aa, trivial⟩, W⟩
  have H := AE (AY hb) H
  rw [hb] at F
  clear hb
  refine Bo ?_
  iterate 2 refine BN ?_
  refine Bp (Ab ?_)
  have H := L2 _ H
  exact ⟨_, (v3), H, F.re ⟨rfl, Aa, trivial⟩, W⟩
 rintro a w ⟨x1, v2, hj, F, W⟩
 have hj := AW hj
 subst hj
 have H := K1
 clear G1 K1
 refine Ah (Ac ?_)
 refine ls F W Aa (Af F Aa).q fun a w F W => ?_
 refine ls F W Aa (Ad F Aa).q fun a w F W => ?_
 refine Ae (Ab (Aw ?_))
 have H := AW H
 subst H
 refine AR (.inl Aa) F W Aa (Au F Aa) ?_
 exact ⟨(v2), Aa, W⟩
theorem JD : Has Tryd.prog 16 := ⟨fun args w => Ak Tryd.func16 rfl (by decide) args w⟩
theorem JT : Has Tryd.prog 28 := ⟨fun args w => Ak Tryd.func28 rfl (by decide) args w⟩
theorem JR : Has Tryd.prog 29 := ⟨fun args w => Ak Tryd.func29 rfl (by decide) args w⟩
noncomputable def Bg (p0 : List (Int × Int × Int)) : (Int × List UInt8) → Option ((Int × List UInt8) ⊕ ((List UInt8) ⊕ (List UInt8)))
  | (x2, x3) => (if x2 < (p0.length : Int) then (ix p0 x2).bind fun x4 => (BA x4).bind fun x5 => (if (!x5) = true then some (.inr (.inr ([] : List UInt8))) else (Ba x4).bind fun x6 => (DB x6 ([10] : List UInt8)).bind fun x7 => (DB x3 x7).bind fun x8 => some (.inl (BE (x2 + 1), x8))) else some (.inr (.inl x3)))
noncomputable def Cn (p0 : List (Int × Int × Int)) : Option (List UInt8) := Fh (AH (Bg p0) (0, ([] : List UInt8))) fun x1 => (Hr x1).bind fun x9 => some x9
theorem Fg (Y : Nat → Prop) (w0 : World) (v1 : Value) (p0 : List (Int × Int × Int)) (r : List UInt8) (H : Cn p0 = some r) (h_v1 : Sl w0 (NX []) Cp v1 p0) (hG : Gk [] w0) :
    Calls Tryd.prog 15 #[v1] w0 fun e w' => e = .returned (.string (bs r)) ∧ Below w0.heap.size w0 w' := by
 refine enter Tryd.func15 Aa Tryd.ntmps15 Aa fun a F => ?_
 have W := Stw.start Y w0
 unfold Cn at H
 refine Ah (Ac ?_)
 refine ls F W Aa (Ad (v := Value.string (bs ([] : List UInt8))) F Aa).q fun a w F W => ?_
 refine Ae (Ab (Ah (Ac ?_)))
 refine HW F W Aa fun b1 a w F W => ?_
 have W : Stw ⟨Y, [], w0⟩ [] [CR 56 5 b1 (Value.slice none 0 0) ([] : List UInt8)] w := W
 refine Ae (Ab ?_)
 obtain ⟨o1, G1, K1, L1⟩ := Ie H
 refine AJ (fun a w => ∃ x1 : List UInt8, ∃ v2 : Value, some (Sum.inl x1) = some o1 ∧ Fr 21 [] [(2, .string (bs ([] : List UInt8))), (3, .pointer (some ⟨b1, 0, none⟩))] a ∧ Stw ⟨Y, [], w0⟩ [] [CR 56 5 b1 v2 x1] w) ?_ ?_
 ·
  have H := G1
  clear G1 K1
  refine Ah (Ac ?_)
  refine ls F W Aa (Af F Aa).q fun a w F W => ?_
  refine ls F W Aa (Da (r := Cp) (l := p0) Hq Aa F Aa (Bb h_v1)).q fun a w F W => ?_
  refine ls F W Aa (Af F Aa).q fun a w F W => ?_
  refine Ae (Ab (AD ?_))
  refine BG H (fun s a w => ∃ v3 : Value, Fr 21 [] [(2, .string (bs ([] : List UInt8))), (3, .pointer (some ⟨b1, 0, none⟩)), (6, v1), (7, .int .i64 (p0.length : Int)), (8, .int .i64 s.1)] a ∧ Stw ⟨Y, [], w0⟩ [] [CR 56 5 b1 v3 s.2] w) ⟨(Value.slice none 0 0), F.re ⟨rfl, Aa, Aa, Aa, Aa, trivial⟩, W⟩ fun s o a w H L2 hR => ?_
  obtain ⟨x2, x3⟩ := s
  obtain ⟨v3, F, W⟩ := hR
  have F : Fr 21 [] [(2, .string (bs ([] : List UInt8))), (3, .pointer (some ⟨b1, 0, none⟩)), (6, v1), (7, .int .i64 (p0.length : Int)), (8, .int .i64 x2)] a := F
  have W : Stw ⟨Y, [], w0⟩ [] [CR 56 5 b1 v3 x3] w := W
  rw [Bg] at H
  refine Ah (Ac ?_)
  refine ls F W Aa (BV F Aa Aa).q fun a w F W => ?_
  refine Ae (Ab (Ah ?_))
  refine Av F Aa (fun hb => ?_) fun hb => ?_
  ·
   have H := AF (AX hb) H
   rw [hb] at F
   clear hb
   refine As (Ab (Ah (AD (Ah (Ac ?_)))))
   obtain ⟨x4, h1, H⟩ := Al H
   refine ls F W Aa (Bz (r := Cp) Im F Aa Aa (Bb h_v1) h1).q fun a w F W => ?_
   refine ls F W Aa (A5 (y := Value.agg #[.int .i64 x4.1, .int .i64 x4.2.1, .int .i64 x4.2.2]) (j := 0) (i := x2) F Aa Aa (Bb h_v1) h1 IV.to EB Aa).q fun a w F W => ?_
   refine Cu (cs := [.int .i64 0, .int .i64 0, .int .i64 0]) F W Aa IE Aa fun b2 a w F W => ?_
   refine Bh (vs := [.int .i64 x4.1, .int .i64 x4.2.1, .int .i64 x4.2.2]) (M' := [(b2, [.int .i64 x4.1, .int .i64 x4.2.1, .int .i64 x4.2.2])]) 0 F W Aa Aa Aa EB Aa Aa Aa Aa Aa fun w W => ?_
   refine Ae (Ab (Ah (Ah (Ac ?_))))
   refine ls F W Aa (AG (v := Value.agg #[.int .i64 x4.1, .int .i64 x4.2.1, .int .i64 x4.2.2]) 0 F Aa Aa EB Aa).q fun a w F W => ?_
   obtain ⟨x5, h2, H⟩ := Al H
   refine ls F W Aa (AA (v := Value.bool x5) F H9 Aa (fun w W => CY any w x4 _ h2)) fun a w F W => ?_
   refine ls F W Aa (EP F Aa).q fun a w F W => ?_
   refine Ae (Ab ?_)
   refine Av F Aa (fun hb => ?_) fun hb => ?_
   ·
    have H := AF hb H
    rw [hb] at F
    clear hb
    refine Ah (Ac ?_)
    refine ls F W Aa (Ad (v := Value.string (bs ([] : List UInt8))) F Aa).q fun a w F W => ?_
    refine Ae (Ab (Aw (AB (AM ?_))))
    iterate 2 refine AB ?_
    refine AM (AB ?_)
    have H := L2 _ H
    have H := L1 _ H
    have H := AW H
    subst H
    refine AR (.inl Aa) F W Aa (Au F Aa) ?_
    exact ⟨rfl, W.done⟩
   have H := AE (by rw [hb]; decide) H
   rw [hb] at F
   clear hb
   refine As (Ab (Ac ?_))
   refine ls F W Aa (AG (v := Value.agg #[.int .i64 x4.1, .int .i64 x4.2.1, .int .i64 x4.2.2]) 0 F Aa Aa EB Aa).q fun a w F W => ?_
   obtain ⟨x6, h3, H⟩ := Al H
   refine ls F W Aa (AA (v := Value.string (bs x6)) F Jl Aa (fun w W => Cf any w x4 _ h3 (hG.go0 W))) fun a w F W => ?_
   obtain ⟨x7, h4, H⟩ := Al H
   refine ls F W Aa (B5 (l := x6) (m := ([10] : List UInt8)) F Aa Aa h4).q fun a w F W => ?_
   obtain ⟨x8, h5, H⟩ := Al H
   refine B1 (Ml := []) (Zl := [CR 56 5 b1 v3 x3]) (M := [(b2, [.int .i64 x4.1, .int .i64 x4.2.1, .int .i64 x4.2.2])]) (Z := []) (β := Value) (rv := fun x => .tuple #[.int .i64 (x7.length : Int), .nilIface]) (MM := fun x => []) (ZZ := fun x => [CR 56 5 b1 x x8]) F W JT Aa Aa (fun hL => Jz _ _ w b1 v3 x3 x7 _ h5 hL) fun v4 a w F W => ?_
   have W : Stw ⟨Y, [], w0⟩ [(b2, [.int .i64 x4.1, .int .i64 x4.2.1, .int .i64 x4.2.2])] [CR 56 5 b1 v4 x8] w := W
   refine Ae (A4 (Ab (Ac ?_)))
   refine ls F W Aa (BC F Aa Aa Aa).q fun a w F W => ?_
   refine ls F W Aa (Af F Aa).q fun a w F W => ?_
   refine Ae (Ab ?_)
   have W := W.sub (M' := []) (Z' := [CR 56 5 b1 v4 x8]) (List.nil_sublist _) (List.Sublist.refl _)
   exact ⟨_, H, v4, F.re ⟨rfl, Aa, Aa, Aa, Aa, trivial⟩, W⟩
  have H := AE (AY hb) H
  rw [hb] at F
  clear hb
  refine Bo ?_
  iterate 2 refine BN ?_
  refine Bp (Ab ?_)
  have H := L2 _ H
  exact ⟨_, v3, H, F.re ⟨rfl, Aa, trivial⟩, W⟩
 rintro a w ⟨x1, v2, hj, F, W⟩
 have H := K1 _ hj
 clear hj G1 K1 L1
 refine Ah (Ac ?_)
 obtain ⟨x9, h6, H⟩ := Al H
 refine B1 (Ml := []) (Zl := [CR 56 5 b1 v2 x1]) (M := []) (Z := []) (β := Unit) (rv := fun x => .string (bs x9)) (MM := fun x => []) (ZZ := fun x => [CR 56 5 b1 v2 x1]) F W JR Aa Aa (fun hL => Jn _ _ w b1 v2 x1 _ h6 hL) fun _ a w F W => ?_
 have W : Stw ⟨Y, [], w0⟩ [] [CR 56 5 b1 v2 x1] w := W
 refine ls F W Aa (Ad F Aa).q fun a w F W => ?_
 refine Ae (Ab (Aw ?_))
 have H := AW H
 subst H
 refine AR (.inl Aa) F W Aa (Au F Aa) ?_
 exact ⟨rfl, W.done⟩
theorem JO : Has Tryd.prog 15 := ⟨fun args w => Ak Tryd.func15 rfl (by decide) args w⟩
noncomputable def BH (p0 : List (Int × Int × Int)) : (List UInt8 × Int) → Option ((List UInt8 × Int) ⊕ ((List UInt8) ⊕ (List UInt8)))
  | (x2, x3) => (if x3 < (p0.length : Int) then (ix p0 x3).bind fun x4 => (if (!(Bx x4)) = true then some (.inr (.inr ([] : List UInt8))) else (ix p0 x3).bind fun x5 => (Cl x5).bind fun x6 => (DB x2 x6).bind fun x7 => (DB x7 ([10] : List UInt8)).bind fun x8 => some (.inl (x8, BE (x3 + 1)))) else some (.inr (.inl x2)))
noncomputable def Dc (p0 : List (Int × Int × Int)) : Option (List UInt8) := Fh (AH (BH p0) (([] : List UInt8), 0)) fun x1 => some x1
theorem GC (Y : Nat → Prop) (w0 : World) (v1 : Value) (p0 : List (Int × Int × Int)) (r : List UInt8) (H : Dc p0 = some r) (h_v1 : Sl w0 (NX []) C5 v1 p0) :
    Calls Tryd.prog 17 #[v1] w0 fun e w' => e = .returned (.string (bs r)) ∧ Below w0.heap.size w0 w' := by
 refine enter Tryd.func17 Aa Tryd.ntmps17 Aa fun a F => ?_
 have W := Stw.start Y w0
 unfold Dc at H
 refine Ah (Ac ?_)
 refine ls F W Aa (Ad (v := Value.string (bs ([] : List UInt8))) F Aa).q fun a w F W => ?_
 refine Ae (Ab (Ah (Ac ?_)))
 refine ls F W Aa (Ad (v := Value.string (bs ([] : List UInt8))) F Aa).q fun a w F W => ?_
 refine Ae (Ab ?_)
 obtain ⟨o1, G1, K1, L1⟩ := Ie H
 refine AJ (fun a w => ∃ x1 : List UInt8, some (Sum.inl x1) = some o1 ∧ Fr 26 [] [(2, .string (bs ([] : List UInt8))), (3, .string (bs x1))] a ∧ Stw ⟨Y, [], w0⟩ [] [] w) ?_ ?_
 ·
  have H := G1
  clear G1 K1
  refine Ah (Ac ?_)
  refine ls F W Aa (Ad F Aa).q fun a w F W => ?_
  refine Ae (Ab (AD ?_))
  refine BG H (fun s a w => Fr 26 [] [(0, v1), (2, .string (bs ([] : List UInt8))), (3, .string (bs s.1)), (4, .int .i64 s.2)] a ∧ Stw ⟨Y, [], w0⟩ [] [] w) ⟨F.re ⟨rfl, Aa, Aa, Aa, trivial⟩, W⟩ fun s o a w H L2 hR => ?_
  obtain ⟨x2, x3⟩ := s
  obtain ⟨F, W⟩ := hR
  have F : Fr 26 [] [(0, v1), (2, .string (bs ([] : List UInt8))), (3, .string (bs x2)), (4, .int .i64 x3)] a := F
  have W : Stw ⟨Y, [], w0⟩ [] [] w := W
  rw [BH] at H
  refine Ah (Ah (Ac ?_))
  iterate 2 refine ls F W Aa (Af F Aa).q fun a w F W => ?_
  refine ls F W Aa (Da (r := C5) (l := p0) HC Aa F Aa (Bb h_v1)).q fun a w F W => ?_
  refine ls F W Aa (BV F Aa Aa).q fun a w F W => ?_
  refine Ae (Ab ?_)
  refine Av F Aa (fun hb => ?_) fun hb => ?_
  ·
   have H := AF (AX hb) H
   rw [hb] at F
   clear hb
   refine As (Ab (Ah (AD (Ah (Ah (Ac ?_))))))
   iterate 2 refine ls F W Aa (Af F Aa).q fun a w F W => ?_
   obtain ⟨x4, h1, H⟩ := Al H
   refine ls F W Aa (Bz (r := C5) ID F Aa Aa (Bb h_v1) h1).q fun a w F W => ?_
   refine ls F W Aa (A5 (y := Value.agg #[.int .i64 x4.1, .int .i64 x4.2.1, .int .i64 x4.2.2]) (j := 0) (i := x3) F Aa Aa (Bb h_v1) h1 IM.to FV Aa).q fun a w F W => ?_
   refine ls F W Aa (AA (v := Value.bool (Bx x4)) F Jk Aa (fun w W => Dv any w x4 _ Aa)) fun a w F W => ?_
   refine ls F W Aa (EP F Aa).q fun a w F W => ?_
   refine Ae (Ab ?_)
   refine Av F Aa (fun hb => ?_) fun hb => ?_
   ·
    have H := AF hb H
    rw [hb] at F
    clear hb
    refine Ah (Ac ?_)
    refine ls F W Aa (Ad (v := Value.string (bs ([] : List UInt8))) F Aa).q fun a w F W => ?_
    refine Ae (Ab (Aw (AB (AM ?_))))
    iterate 2 refine AB ?_
    refine AM (AB ?_)
    have H := L2 _ H
    have H := L1 _ H
    have H := AW H
    subst H
    refine AR (.inl Aa) F W Aa (Au F Aa) ?_
    exact ⟨rfl, W.done⟩
   have H := AE (by rw [hb]; decide) H
   rw [hb] at F
   clear hb
   refine As (Ab (Ac ?_))
   iterate 3 refine ls F W Aa (Af F Aa).q fun a w F W => ?_
   obtain ⟨x5, h2, H⟩ := Al H
   refine ls F W Aa (Bz (r := C5) ID F Aa Aa (Bb h_v1) h2).q fun a w F W => ?_
   refine ls F W Aa (A5 (y := Value.agg #[.int .i64 x5.1, .int .i64 x5.2.1, .int .i64 x5.2.2]) (j := 0) (i := x3) F Aa Aa (Bb h_v1) h2 IM.to FV Aa).q fun a w F W => ?_
   obtain ⟨x6, h3, H⟩ := Al H
   refine ls F W Aa (AA (v := Value.string (bs x6)) F Jv Aa (fun w W => DJ any w x5 _ h3)) fun a w F W => ?_
   obtain ⟨x7, h4, H⟩ := Al H
   refine ls F W Aa (B5 (l := x2) (m := x6) F Aa Aa h4).q fun a w F W => ?_
   obtain ⟨x8, h5, H⟩ := Al H
   refine ls F W Aa (B5 (l := x7) (m := ([10] : List UInt8)) F Aa Aa h5).q fun a w F W => ?_
   refine ls F W Aa (Ad F Aa).q fun a w F W => ?_
   refine Ae (A4 (Ab (Ac ?_)))
   refine ls F W Aa (Af F Aa).q fun a w F W => ?_
   refine ls F W Aa (BC F Aa Aa Aa).q fun a w F W => ?_
   refine ls F W Aa (Ad F Aa).q fun a w F W => ?_
   refine Ae (Ab ?_)
   exact ⟨_, H, F.re ⟨rfl, Aa, Aa, Aa, trivial⟩, W⟩
  have H := AE (AY hb) H
  rw [hb] at F
  clear hb
  refine Bo ?_
  iterate 2 refine BN ?_
  refine Bp (Ab ?_)
  have H := L2 _ H
  exact ⟨_, H, F.re ⟨rfl, Aa, trivial⟩, W⟩
 rintro a w ⟨x1, hj, F, W⟩
 have H := K1 _ hj
 clear hj G1 K1 L1
 refine Ah (Ac ?_)
 refine ls F W Aa (Af F Aa).q fun a w F W => ?_
 refine ls F W Aa (Ad F Aa).q fun a w F W => ?_
 refine Ae (Ab (Aw ?_))
 have H := AW H
 subst H
 refine AR (.inl Aa) F W Aa (Au F Aa) ?_
 exact ⟨rfl, W.done⟩
theorem JP : Has Tryd.prog 17 := ⟨fun args w => Ak Tryd.func17 rfl (by decide) args w⟩
noncomputable def Cm (p0 : List (Int × Int × Int)) (x1 : (List (Int × Int × Int))) : Int → Option (Int ⊕ (Unit ⊕ Bool))
  | x2 => (if x2 < (p0.length : Int) then (ix p0 x2).bind fun x3 => (ix x1 x2).bind fun x4 => (if (!(decide (x3.1 = x4.1 ∧ x3.2.1 = x4.2.1 ∧ x3.2.2 = x4.2.2))) = true then some (.inr (.inr false)) else some (.inl (BE (x2 + 1)))) else some (.inr (.inl ())))
noncomputable def C8 (p0 : List (Int × Int × Int)) (p1 : List (Int × Int × Int)) : Option Bool := (CV p1).bind fun x1 => (if (p0.length : Int) ≠ (x1.length : Int) then some false else Fh (AH (Cm p0 x1) 0) fun _ => some true)
theorem GE (Y : Nat → Prop) (w0 : World) (v1 : Value) (v2 : Value) (p0 : List (Int × Int × Int)) (p1 : List (Int × Int × Int)) (r : Bool) (H : C8 p0 p1 = some r) (h_v1 : Sl w0 (NX []) Cp v1 p0) (h_v2 : Sl w0 (NX []) C5 v2 p1) :
    Calls Tryd.prog 18 #[v1, v2] w0 fun e w' => e = .returned (.bool r) ∧ Below w0.heap.size w0 w' := by
 refine enter Tryd.func18 Aa Tryd.ntmps18 Aa fun a F => ?_
 have W := Stw.start Y w0
 unfold C8 at H
 refine Ah (Ac ?_)
 refine ls F W Aa (Ad F Aa).q fun a w F W => ?_
 refine Ae (Ab (Ah (Ac ?_)))
 refine ls F W Aa (Af F Aa).q fun a w F W => ?_
 obtain ⟨x1, h1, H⟩ := Al H
 refine B1 (Ml := []) (Zl := []) (M := []) (Z := []) (β := Value) (rv := fun x => x) (MM := fun x => []) (ZZ := fun x => [row x 26 Cp x1]) F W JD Aa Aa (fun hL => E9 _ w (v2) p1 _ h1 ((Bb h_v2) w W).nx) fun x a w F W => ?_
 obtain ⟨v3, rfl⟩ : ∃ y, y = x := ⟨x, rfl⟩
 have W : Stw ⟨Y, [], w0⟩ [] [row v3 26 Cp x1] w := W
 refine ls F W Aa (Ad F Aa).q fun a w F W => ?_
 refine Ae (Ab (Ah (Ah (Ac ?_))))
 refine ls F W Aa (Af F Aa).q fun a w F W => ?_
 refine ls F W Aa (Da (r := Cp) (l := p0) Hq Aa F Aa (Bb h_v1)).q fun a w F W => ?_
 refine ls F W Aa (Af F Aa).q fun a w F W => ?_
 refine ls F W Aa (Da (r := Cp) (l := x1) Hq Aa F Aa (A8 0 Aa)).q fun a w F W => ?_
 refine ls F W Aa (En F Aa Aa).q fun a w F W => ?_
 refine Ae (Ab ?_)
 refine Av F Aa (fun hb => ?_) fun hb => ?_
 ·
  have H := AF (AX hb) H
  rw [hb] at F
  clear hb
  refine Ah (Ac ?_)
  refine ls F W Aa (Ad F Aa).q fun a w F W => ?_
  refine Ae (Ab (Aw (AB ?_)))
  have H := AW H
  subst H
  refine AR (.inl Aa) F W Aa (Au F Aa) ?_
  exact ⟨rfl, W.done⟩
 have H := AE (AY hb) H
 rw [hb] at F
 clear hb
 refine As (Ab ?_)
 obtain ⟨o1, G1, K1, L1⟩ := Ie H
 refine AJ (fun a w => some (Sum.inl ()) = some o1 ∧ Fr 29 [] [(4, .bool false)] a ∧ Stw ⟨Y, [], w0⟩ [] [] w) ?_ ?_
 ·
  have H := G1
  clear G1 K1
  refine Ah (Ac ?_)
  refine ls F W Aa (Ad F Aa).q fun a w F W => ?_
  refine Ae (Ab (AD ?_))
  refine BG H (fun s a w => Fr 29 [] [(0, v1), (4, .bool false), (5, v3), (6, .int .i64 s)] a ∧ Stw ⟨Y, [], w0⟩ [] [row v3 26 Cp x1] w) ⟨F.re ⟨rfl, Aa, Aa, Aa, trivial⟩, W⟩ fun s o a w H L2 hR => ?_
  obtain ⟨x2, rfl⟩ : ∃ x, x = s := ⟨s, rfl⟩
  obtain ⟨F, W⟩ := hR
  have F : Fr 29 [] [(0, v1), (4, .bool false), (5, v3), (6, .int .i64 x2)] a := F
  have W : Stw ⟨Y, [], w0⟩ [] [row v3 26 Cp x1] w := W
  rw [Cm] at H
  refine Ah (Ah (Ac ?_))
  iterate 2 refine ls F W Aa (Af F Aa).q fun a w F W => ?_
  refine ls F W Aa (Da (r := Cp) (l := p0) Hq Aa F Aa (Bb h_v1)).q fun a w F W => ?_
  refine ls F W Aa (BV F Aa Aa).q fun a w F W => ?_
  refine Ae (Ab ?_)
  refine Av F Aa (fun hb => ?_) fun hb => ?_
  ·
   have H := AF (AX hb) H
   rw [hb] at F
   clear hb
   refine As (Ab (Ah (AD (Ah ?_))))
   refine Ds W MO (by kernel_rfl) ?_
   iterate 2 refine qs F Aa (Af F Aa).q fun a F => ?_
   obtain ⟨x3, h2, H⟩ := Al H
   refine qs F Aa (Bz (r := Cp) Im F Aa Aa (Bb h_v1) h2).q fun a F => ?_
   refine qs F Aa (A5 (y := Value.agg #[.int .i64 x3.1, .int .i64 x3.2.1, .int .i64 x3.2.2]) (j := 0) (i := x2) F Aa Aa (Bb h_v1) h2 IV.to EB Aa).q fun a F => ?_
   iterate 2 refine qs F Aa (Af F Aa).q fun a F => ?_
   obtain ⟨x4, h3, H⟩ := Al H
   refine qs F Aa (Bz (r := Cp) Im F Aa Aa (A8 0 Aa) h3).q fun a F => ?_
   refine qs F Aa (A5 (y := Value.agg #[.int .i64 x4.1, .int .i64 x4.2.1, .int .i64 x4.2.2]) (j := 0) (i := x2) F Aa Aa (A8 0 Aa) h3 IV.to EB Aa).q fun a F => ?_
   refine qs F Aa (Je (t := decide (x3.1 = x4.1 ∧ x3.2.1 = x4.2.1 ∧ x3.2.2 = x4.2.2)) JI (JE _ _ _ _ _ _) F Aa Aa).q fun a F => ?_
   refine CP fun w W => ?_
   refine Ab ?_
   refine Av F Aa (fun hb => ?_) fun hb => ?_
   ·
    have H := AF hb H
    rw [hb] at F
    clear hb
    refine Ah (Ac ?_)
    refine ls F W Aa (Ad F Aa).q fun a w F W => ?_
    refine Ae (Ab (Aw (AM ?_)))
    iterate 2 refine AB ?_
    refine AM (AB ?_)
    have H := L2 _ H
    have H := L1 _ H
    have H := AW H
    subst H
    refine AR (.inl Aa) F W Aa (Au F Aa) ?_
    exact ⟨rfl, W.done⟩
   have H := AE (by rw [hb]; decide) H
   rw [hb] at F
   clear hb
   refine As (A4 (Ab (Ac ?_)))
   refine ls F W Aa (Af F Aa).q fun a w F W => ?_
   refine ls F W Aa (BC F Aa Aa Aa).q fun a w F W => ?_
   refine ls F W Aa (Ad F Aa).q fun a w F W => ?_
   refine Ae (Ab ?_)
   exact ⟨_, H, F.re ⟨rfl, Aa, Aa, Aa, trivial⟩, W⟩
  have H := AE (AY hb) H
  rw [hb] at F
  clear hb
  refine Bo ?_
  iterate 2 refine BN ?_
  refine Bp (Ab ?_)
  have W := W.sub (M' := []) (Z' := []) (List.Sublist.refl _) (List.nil_sublist _)
  have H := L2 _ H
  exact ⟨H, F.re ⟨rfl, trivial⟩, W⟩
 rintro a w ⟨hj, F, W⟩
 have H := K1 _ hj
 clear hj G1 K1 L1
 refine Ah (Ac ?_)
 refine ls F W Aa (Ad F Aa).q fun a w F W => ?_
 refine Ae (Ab (Aw ?_))
 have H := AW H
 subst H
 refine AR (.inl Aa) F W Aa (Au F Aa) ?_
 exact ⟨rfl, W.done⟩
end Go.Proofs.YtkmacelfldeenaaDoor
