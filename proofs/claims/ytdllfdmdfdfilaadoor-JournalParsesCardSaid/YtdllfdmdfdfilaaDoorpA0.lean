/- The functions of layer 36, ES. Conditions: none. -/
import Derived.Test.YtdllfdmdfdfilaaDoorRows
import Derived.Test.YtdllfdmdfdfilaaDoorpOB
import Derived.Test.YtdllfdmdfdfilaaDoorpOG
import Derived.Test.YtdllfdmdfdfilaaDoorpOT
import Derived.Test.YtdllfdmdfdfilaaDoorpOD
import Derived.Test.YtdllfdmdfdfilaaDoorpOC
namespace Go.Proofs.YtdllfdmdfdfilaaDoor
open Go Go.RowKit
set_option linter.unusedVariables false
set_option linter.unusedSimpArgs false
set_option maxRecDepth 20000
theorem FF : type_of% Tryd.underlying24 := Tryd.underlying24
theorem Cg : type_of% Tryd.underlying28 := Tryd.underlying28
theorem BQ : type_of% Tryd.underlying34 := Tryd.underlying34
abbrev CU : Rp (Int × Int × Int × Int) := (Rp.pair (Rp.int .i64) (Rp.pair (Rp.int .i64) (Rp.pair (Rp.int .i64) (Rp.int .i64))))
theorem IB : Bt Tryd.prog 34 [.int .i64 0, .int .i64 0, .int .i64 0, .int .i64 0] [(0, 1), (1, 1), (2, 1), (3, 1)] := ⟨⟨.agg #[.int .i64 0, .int .i64 0, .int .i64 0, .int .i64 0], by kernel_rfl, rfl⟩, ⟨_, BQ, fun w => by kernel_rfl⟩⟩
theorem IG : (Tryd.prog.info? 34).bind (·.zero) = some (.agg #[.int .i64 0, .int .i64 0, .int .i64 0, .int .i64 0]) := by kernel_rfl
abbrev B2 : Rp (Int × Int × Int × Int) := (Rp.pair (Rp.int .i64) (Rp.pair (Rp.int .i64) (Rp.pair (Rp.int .i64) (Rp.int .i64))))
def Ke (a : Int × Int × Int × Int) : List Value := [.int .i64 a.1, .int .i64 a.2.1, .int .i64 a.2.2.1, .int .i64 a.2.2.2]
theorem IP : Fl B2 Ke := (Fl.pair Fl.int (Fl.pair Fl.int (Fl.pair Fl.int Fl.int)))
theorem H2 : Et Tryd.prog 24 34 4 32 := Et.of FF (by kernel_rfl) (by kernel_rfl) (by kernel_rfl) (by decide)
theorem Jq : (Tryd.prog.info? 28).bind (·.zero) = some (.agg #[.int .i64 0, .int .i64 0, .bool false, .int .i64 0, .int .i64 0, .int .i64 0, .bool false, .bool false, .int .i64 0]) := by kernel_rfl
theorem Js : Bt Tryd.prog 28 [.int .i64 0, .int .i64 0, .bool false, .int .i64 0, .int .i64 0, .int .i64 0, .bool false, .bool false, .int .i64 0] [(0, 1), (1, 1), (2, 1), (3, 1), (4, 1), (5, 1), (6, 1), (7, 1), (8, 1)] := ⟨⟨.agg #[.int .i64 0, .int .i64 0, .bool false, .int .i64 0, .int .i64 0, .int .i64 0, .bool false, .bool false, .int .i64 0], by kernel_rfl, rfl⟩, ⟨_, Cg, fun w => by kernel_rfl⟩⟩
theorem El : Ty Tryd.prog 28 true 9 := ⟨by kernel_rfl, by kernel_rfl⟩
theorem EE : Ty Tryd.prog 34 true 4 := ⟨by kernel_rfl, by kernel_rfl⟩
theorem T3 : Ty Tryd.prog 3 false 1 := ⟨by kernel_rfl, by kernel_rfl⟩
theorem T4 : Ty Tryd.prog 4 false 1 := ⟨by kernel_rfl, by kernel_rfl⟩
def Al (p0 : Int) (p1 : Int) : Bool := (decide (0 ≤ p0) && decide (p0 ≤ p1))
theorem Bu (Y : Nat → Prop) (w0 : World)  (p0 : Int) (p1 : Int) (r : Bool) (H : Al p0 p1 = r)  :
    Calls Tryd.prog 31 #[.int .i64 p0, .int .i64 p1] w0 fun e w' => e = .returned (.bool r) ∧ Below w0.heap.size w0 w' := by
 refine enter Tryd.func31 Aa Tryd.ntmps31 Aa fun a F => ?_
 have W := Stw.start Y w0
 unfold Al at H
 refine Ai (Ac ?_)
 refine ls F W Aa (Ad F Aa).q fun a w F W => ?_
 refine Ae (Ab ?_)
 refine AL (fun a w => Fr 12 [] [(4, .bool (decide (0 ≤ p0) && decide (p0 ≤ p1)))] a ∧ Stw ⟨Y, [], w0⟩ [] [] w) ?_ ?_
 ·
  refine Ac ?_
  refine ls F W Aa (Af F Aa).q fun a w F W => ?_
  refine ls F W Aa (HO F Aa Aa).q fun a w F W => ?_
  refine ls F W Aa (Af F Aa).q fun a w F W => ?_
  rcases Bool.eq_false_or_eq_true (decide (0 ≤ p0)) with hb0 | hb0
  ·
   rw [hb0] at F
   iterate 2 refine Av F W (Ag F Aa Aa Aa Aa) Aa (Ao Aa) (Af F Aa).q fun a w F W => ?_
   refine Av F W (Ag F Aa Aa Aa Aa) Aa (Ao Aa) (Ep F Aa Aa).q fun a w F W => ?_
   refine ls F W Aa (Am F Aa Aa Aa).q fun a w F W => ?_
   refine ls F W Aa (Ad F Aa).q fun a w F W => ?_
   refine Ae (Ab ?_)
   exact ⟨F.re ⟨(by show some (Value.bool (decide (p0 ≤ p1))) = some (Value.bool (decide (0 ≤ p0) && decide (p0 ≤ p1))); try rw [hb0]; all_goals simp only [Bool.not_true, Bool.not_false, Bool.true_and, Bool.false_and, Bool.true_or, Bool.false_or, Bool.and_true, Bool.or_false, cond_true, cond_false]), trivial⟩, W⟩
  rw [hb0] at F
  iterate 3 refine Bg F Aa Aa Aa Aa Aa Aa Aa fun a F => ?_
  refine ls F W Aa (Ak F Aa Aa Aa).q fun a w F W => ?_
  refine ls F W Aa (Ad F Aa).q fun a w F W => ?_
  refine Ae (Ab ?_)
  exact ⟨F.re ⟨(by show some (Value.bool false) = some (Value.bool (decide (0 ≤ p0) && decide (p0 ≤ p1))); try rw [hb0]; all_goals simp only [Bool.not_true, Bool.not_false, Bool.true_and, Bool.false_and, Bool.true_or, Bool.false_or, Bool.and_true, Bool.or_false, cond_true, cond_false]), trivial⟩, W⟩
 rintro a w ⟨F, W⟩
 refine Aw ?_
 subst H
 refine AY (.inl Aa) F W Aa (As F Aa) ?_
 exact ⟨rfl, W.done⟩
theorem JD : type_of% Tryd.underlying4 := Tryd.underlying4
theorem Jm : Has Tryd.prog 31 := ⟨fun args w => An Tryd.func31 rfl (by decide) args w⟩
noncomputable def BE (p0 : Int × Int × Bool × Int × Int × Int × Bool × Bool × Int) (p1 : Int × Int × Int × Int) : Option Bool := (if p1.1 = 1 then some (!p0.2.2.1 && (decide (p0.2.2.2.2.2.2.2.2 = 0) && (decide (p1.2.1 = (Bn (p0.1 + 1))) && ((Al p1.2.2.1 15) && (Al p1.2.2.2 1125899906842624))))) else (if (decide (p1.2.1 ≠ p0.1) || (decide (p1.2.2.2 ≠ 0) || decide (p0.2.2.1 = (decide (p1.1 = 7))))) = true then some false else (if p1.1 = 2 then some ((!p0.2.2.2.2.2.2.1 && !p0.2.2.2.2.2.2.2.1) && (decide (p1.2.2.1 = p0.2.2.2.2.2.1) && decide (p1.2.2.1 < 8))) else (if p1.1 = 3 then some ((!p0.2.2.2.2.2.2.1 && !p0.2.2.2.2.2.2.2.1) && (decide (0 < p0.2.2.2.2.2.1) && decide (p1.2.2.1 = 0))) else (if p1.1 = 4 then some (!p0.2.2.2.2.2.2.2.1 && decide (p1.2.2.1 = 0)) else (if p1.1 = 5 then some (p0.2.2.2.2.2.2.1 && (!p0.2.2.2.2.2.2.2.1 && decide (p1.2.2.1 = 0))) else (if p1.1 = 6 then some (p0.2.2.2.2.2.2.2.1 && (Al p1.2.2.1 255)) else (if p1.1 = 7 then (if (Al p1.2.2.1 7) = true then (Jh (Ii .i64 p0.2.2.2.2.2.2.2.2 p1.2.2.1) p1.2.2.1).bind fun x2 => some (decide ((IK .i64 x2 1) = 1)) else some false).bind fun x1 => some x1 else some false))))))))
theorem D0 (Y : Nat → Prop) (w0 : World)  (p0 : Int × Int × Bool × Int × Int × Int × Bool × Bool × Int) (p1 : Int × Int × Int × Int) (r : Bool) (H : BE p0 p1 = some r)  :
    Calls Tryd.prog 21 #[.agg #[.int .i64 p0.1, .int .i64 p0.2.1, .bool p0.2.2.1, .int .i64 p0.2.2.2.1, .int .i64 p0.2.2.2.2.1, .int .i64 p0.2.2.2.2.2.1, .bool p0.2.2.2.2.2.2.1, .bool p0.2.2.2.2.2.2.2.1, .int .i64 p0.2.2.2.2.2.2.2.2], .agg #[.int .i64 p1.1, .int .i64 p1.2.1, .int .i64 p1.2.2.1, .int .i64 p1.2.2.2]] w0 fun e w' => e = .returned (.bool r) ∧ Below w0.heap.size w0 w' := by
 refine enter Tryd.func21 Aa Tryd.ntmps21 Aa fun a F => ?_
 have W := Stw.start Y w0
 unfold BE at H
 refine Ai (Ac ?_)
 refine Fy (cs := [.int .i64 p0.1, .int .i64 p0.2.1, .bool p0.2.2.1, .int .i64 p0.2.2.2.1, .int .i64 p0.2.2.2.2.1, .int .i64 p0.2.2.2.2.2.1, .bool p0.2.2.2.2.2.2.1, .bool p0.2.2.2.2.2.2.2.1, .int .i64 p0.2.2.2.2.2.2.2.2]) F W Aa Aa Aa fun b1 a w F W => ?_
 refine Fy (cs := [.int .i64 p1.1, .int .i64 p1.2.1, .int .i64 p1.2.2.1, .int .i64 p1.2.2.2]) F W Aa Aa Aa fun b2 a w F W => ?_
 refine ls F W Aa (Ad F Aa).q fun a w F W => ?_
 refine Ae (Ab (Ai (Ai (Ac ?_))))
 refine ls F W Aa (Ah BQ Aa Aa Aa T3 F Aa 0 Aa).q fun a w F W => ?_
 refine ls F W Aa (Aq (v := Value.int .i64 p1.1) 0 F Aa Aa T3 Aa).q fun a w F W => ?_
 refine ls F W Aa (A7 F Aa Aa).q fun a w F W => ?_
 refine Ae (Ab ?_)
 refine Ax F Aa (fun hb => ?_) fun hb => ?_
 ·
  have H := AN (A1 hb) H
  rw [hb] at F
  clear hb
  refine AL (fun a w => Fr 138 [] [(2, .pointer (some ⟨b1, 0, none⟩)), (3, .pointer (some ⟨b2, 0, none⟩)), (4, .bool (!p0.2.2.1 && (decide (p0.2.2.2.2.2.2.2.2 = 0) && (decide (p1.2.1 = (Bn (p0.1 + 1))) && ((Al p1.2.2.1 15) && (Al p1.2.2.2 1125899906842624))))))] a ∧ Stw ⟨Y, [], w0⟩ [(b2, [.int .i64 p1.1, .int .i64 p1.2.1, .int .i64 p1.2.2.1, .int .i64 p1.2.2.2]), (b1, [.int .i64 p0.1, .int .i64 p0.2.1, .bool p0.2.2.1, .int .i64 p0.2.2.2.1, .int .i64 p0.2.2.2.2.1, .int .i64 p0.2.2.2.2.2.1, .bool p0.2.2.2.2.2.2.1, .bool p0.2.2.2.2.2.2.2.1, .int .i64 p0.2.2.2.2.2.2.2.2])] [] w) ?_ ?_
  ·
   refine Ac ?_
   refine ls F W Aa (Ah Cg Aa Aa Aa T4 F Aa 2 Aa).q fun a w F W => ?_
   refine ls F W Aa (Aq (v := Value.bool p0.2.2.1) 1 F Aa Aa T4 Aa).q fun a w F W => ?_
   refine ls F W Aa (Db F Aa).q fun a w F W => ?_
   refine ls F W Aa (Af F Aa).q fun a w F W => ?_
   rcases Bool.eq_false_or_eq_true (!p0.2.2.1) with hb0 | hb0
   ·
    rw [hb0] at F
    refine Av F W (Ag F Aa Aa Aa Aa) Aa (Ao Aa) (Ah Cg Aa Aa Aa T3 F Aa 8 Aa).q fun a w F W => ?_
    refine Av F W (Ag F Aa Aa Aa Aa) Aa (Ao Aa) (Aq (v := Value.int .i64 p0.2.2.2.2.2.2.2.2) 1 F Aa Aa T3 Aa).q fun a w F W => ?_
    refine Av F W (Ag F Aa Aa Aa Aa) Aa (Ao Aa) (A7 F Aa Aa).q fun a w F W => ?_
    refine ls F W Aa (Am F Aa Aa Aa).q fun a w F W => ?_
    refine ls F W Aa (Af F Aa).q fun a w F W => ?_
    rcases Bool.eq_false_or_eq_true (decide (p0.2.2.2.2.2.2.2.2 = 0)) with hb1 | hb1
    ·
     rw [hb1] at F
     refine Av F W (Ag F Aa Aa Aa Aa) Aa (Ao Aa) (Ah BQ Aa Aa Aa T3 F Aa 1 Aa).q fun a w F W => ?_
     refine Av F W (Ag F Aa Aa Aa Aa) Aa (Ao Aa) (Aq (v := Value.int .i64 p1.2.1) 0 F Aa Aa T3 Aa).q fun a w F W => ?_
     refine Av F W (Ag F Aa Aa Aa Aa) Aa (Ao Aa) (Ah Cg Aa Aa Aa T3 F Aa 0 Aa).q fun a w F W => ?_
     refine Av F W (Ag F Aa Aa Aa Aa) Aa (Ao Aa) (Aq (v := Value.int .i64 p0.1) 1 F Aa Aa T3 Aa).q fun a w F W => ?_
     refine Av F W (Ag F Aa Aa Aa Aa) Aa (Ao Aa) (Bo F Aa Aa Aa).q fun a w F W => ?_
     refine Av F W (Ag F Aa Aa Aa Aa) Aa (Ao Aa) (A7 F Aa Aa).q fun a w F W => ?_
     refine ls F W Aa (Am F Aa Aa Aa).q fun a w F W => ?_
     refine ls F W Aa (Af F Aa).q fun a w F W => ?_
     rcases Bool.eq_false_or_eq_true (decide (p1.2.1 = (Bn (p0.1 + 1)))) with hb2 | hb2
     ·
      rw [hb2] at F
      refine Av F W (Ag F Aa Aa Aa Aa) Aa (Ao Aa) (Ah BQ Aa Aa Aa T3 F Aa 2 Aa).q fun a w F W => ?_
      refine Av F W (Ag F Aa Aa Aa Aa) Aa (Ao Aa) (Aq (v := Value.int .i64 p1.2.2.1) 0 F Aa Aa T3 Aa).q fun a w F W => ?_
      refine Ed (Ag F Aa Aa Aa Aa) ?_
      refine ls F W Aa (AK (v := Value.bool (Al p1.2.2.1 15)) F Jm Aa (fun w W => Bu any w p1.2.2.1 15 _ Aa)) fun a w F W => ?_
      refine ls F W Aa (Am F Aa Aa Aa).q fun a w F W => ?_
      refine ls F W Aa (Af F Aa).q fun a w F W => ?_
      rcases Bool.eq_false_or_eq_true (Al p1.2.2.1 15) with hb3 | hb3
      ·
       rw [hb3] at F
       refine Av F W (Ag F Aa Aa Aa Aa) Aa (Ao Aa) (Ah BQ Aa Aa Aa T3 F Aa 3 Aa).q fun a w F W => ?_
       refine Av F W (Ag F Aa Aa Aa Aa) Aa (Ao Aa) (Aq (v := Value.int .i64 p1.2.2.2) 0 F Aa Aa T3 Aa).q fun a w F W => ?_
       refine Ed (Ag F Aa Aa Aa Aa) ?_
       refine ls F W Aa (AK (v := Value.bool (Al p1.2.2.2 1125899906842624)) F Jm Aa (fun w W => Bu any w p1.2.2.2 1125899906842624 _ Aa)) fun a w F W => ?_
       refine ls F W Aa (Am F Aa Aa Aa).q fun a w F W => ?_
       refine ls F W Aa (Ad F Aa).q fun a w F W => ?_
       refine Ae (Ab ?_)
       exact ⟨F.re ⟨rfl, Aa, (by show some (Value.bool (Al p1.2.2.2 1125899906842624)) = some (Value.bool (!p0.2.2.1 && (decide (p0.2.2.2.2.2.2.2.2 = 0) && (decide (p1.2.1 = (Bn (p0.1 + 1))) && ((Al p1.2.2.1 15) && (Al p1.2.2.2 1125899906842624)))))); try rw [hb2]; try rw [hb1]; try rw [hb3]; try rw [hb0]; all_goals simp only [Bool.not_true, Bool.not_false, Bool.true_and, Bool.false_and, Bool.true_or, Bool.false_or, Bool.and_true, Bool.or_false, cond_true, cond_false]), trivial⟩, W⟩
      rw [hb3] at F
      iterate 3 refine Bg F Aa Aa Aa Aa Aa Aa Aa fun a F => ?_
      refine ls F W Aa (Ak F Aa Aa Aa).q fun a w F W => ?_
      refine ls F W Aa (Ad F Aa).q fun a w F W => ?_
      refine Ae (Ab ?_)
      exact ⟨F.re ⟨rfl, Aa, (by show some (Value.bool false) = some (Value.bool (!p0.2.2.1 && (decide (p0.2.2.2.2.2.2.2.2 = 0) && (decide (p1.2.1 = (Bn (p0.1 + 1))) && ((Al p1.2.2.1 15) && (Al p1.2.2.2 1125899906842624)))))); try rw [hb2]; try rw [hb1]; try rw [hb3]; try rw [hb0]; all_goals simp only [Bool.not_true, Bool.not_false, Bool.true_and, Bool.false_and, Bool.true_or, Bool.false_or, Bool.and_true, Bool.or_false, cond_true, cond_false]), trivial⟩, W⟩
     rw [hb2] at F
     iterate 3 refine Bg F Aa Aa Aa Aa Aa Aa Aa fun a F => ?_
     refine ls F W Aa (Ak F Aa Aa Aa).q fun a w F W => ?_
     refine ls F W Aa (Af F Aa).q fun a w F W => ?_
     iterate 3 refine Bg F Aa Aa Aa Aa Aa Aa Aa fun a F => ?_
     refine ls F W Aa (Ak F Aa Aa Aa).q fun a w F W => ?_
     refine ls F W Aa (Ad F Aa).q fun a w F W => ?_
     refine Ae (Ab ?_)
     exact ⟨F.re ⟨rfl, Aa, (by show some (Value.bool false) = some (Value.bool (!p0.2.2.1 && (decide (p0.2.2.2.2.2.2.2.2 = 0) && (decide (p1.2.1 = (Bn (p0.1 + 1))) && ((Al p1.2.2.1 15) && (Al p1.2.2.2 1125899906842624)))))); try rw [hb2]; try rw [hb1]; try rw [hb0]; all_goals simp only [Bool.not_true, Bool.not_false, Bool.true_and, Bool.false_and, Bool.true_or, Bool.false_or, Bool.and_true, Bool.or_false, cond_true, cond_false]), trivial⟩, W⟩
    rw [hb1] at F
    iterate 6 refine Bg F Aa Aa Aa Aa Aa Aa Aa fun a F => ?_
    refine ls F W Aa (Ak F Aa Aa Aa).q fun a w F W => ?_
    refine ls F W Aa (Af F Aa).q fun a w F W => ?_
    iterate 3 refine Bg F Aa Aa Aa Aa Aa Aa Aa fun a F => ?_
    refine ls F W Aa (Ak F Aa Aa Aa).q fun a w F W => ?_
    refine ls F W Aa (Af F Aa).q fun a w F W => ?_
    iterate 3 refine Bg F Aa Aa Aa Aa Aa Aa Aa fun a F => ?_
    refine ls F W Aa (Ak F Aa Aa Aa).q fun a w F W => ?_
    refine ls F W Aa (Ad F Aa).q fun a w F W => ?_
    refine Ae (Ab ?_)
    exact ⟨F.re ⟨rfl, Aa, (by show some (Value.bool false) = some (Value.bool (!p0.2.2.1 && (decide (p0.2.2.2.2.2.2.2.2 = 0) && (decide (p1.2.1 = (Bn (p0.1 + 1))) && ((Al p1.2.2.1 15) && (Al p1.2.2.2 1125899906842624)))))); try rw [hb1]; try rw [hb0]; all_goals simp only [Bool.not_true, Bool.not_false, Bool.true_and, Bool.false_and, Bool.true_or, Bool.false_or, Bool.and_true, Bool.or_false, cond_true, cond_false]), trivial⟩, W⟩
   rw [hb0] at F
   iterate 3 refine Bg F Aa Aa Aa Aa Aa Aa Aa fun a F => ?_
   refine ls F W Aa (Ak F Aa Aa Aa).q fun a w F W => ?_
   refine ls F W Aa (Af F Aa).q fun a w F W => ?_
   iterate 6 refine Bg F Aa Aa Aa Aa Aa Aa Aa fun a F => ?_
   refine ls F W Aa (Ak F Aa Aa Aa).q fun a w F W => ?_
   refine ls F W Aa (Af F Aa).q fun a w F W => ?_
   iterate 3 refine Bg F Aa Aa Aa Aa Aa Aa Aa fun a F => ?_
   refine ls F W Aa (Ak F Aa Aa Aa).q fun a w F W => ?_
   refine ls F W Aa (Af F Aa).q fun a w F W => ?_
   iterate 3 refine Bg F Aa Aa Aa Aa Aa Aa Aa fun a F => ?_
   refine ls F W Aa (Ak F Aa Aa Aa).q fun a w F W => ?_
   refine ls F W Aa (Ad F Aa).q fun a w F W => ?_
   refine Ae (Ab ?_)
   exact ⟨F.re ⟨rfl, Aa, (by show some (Value.bool false) = some (Value.bool (!p0.2.2.1 && (decide (p0.2.2.2.2.2.2.2.2 = 0) && (decide (p1.2.1 = (Bn (p0.1 + 1))) && ((Al p1.2.2.1 15) && (Al p1.2.2.2 1125899906842624)))))); try rw [hb0]; all_goals simp only [Bool.not_true, Bool.not_false, Bool.true_and, Bool.false_and, Bool.true_or, Bool.false_or, Bool.and_true, Bool.or_false, cond_true, cond_false]), trivial⟩, W⟩
  rintro a w ⟨F, W⟩
  refine Aw (AA ?_)
  have H := AR H
  subst H
  refine AY (.inl Aa) F W Aa (As F Aa) ?_
  exact ⟨rfl, W.done⟩
 have H := AO (A0 hb) H
 rw [hb] at F
 clear hb
 refine AE (Ab (Ai ?_))
 refine AL (fun a w => Fr 138 [] [(2, .pointer (some ⟨b1, 0, none⟩)), (3, .pointer (some ⟨b2, 0, none⟩)), (4, .bool false), (52, .bool (decide (p1.2.1 ≠ p0.1) || (decide (p1.2.2.2 ≠ 0) || decide (p0.2.2.1 = (decide (p1.1 = 7))))))] a ∧ Stw ⟨Y, [], w0⟩ [(b2, [.int .i64 p1.1, .int .i64 p1.2.1, .int .i64 p1.2.2.1, .int .i64 p1.2.2.2]), (b1, [.int .i64 p0.1, .int .i64 p0.2.1, .bool p0.2.2.1, .int .i64 p0.2.2.2.1, .int .i64 p0.2.2.2.2.1, .int .i64 p0.2.2.2.2.2.1, .bool p0.2.2.2.2.2.2.1, .bool p0.2.2.2.2.2.2.2.1, .int .i64 p0.2.2.2.2.2.2.2.2])] [] w) ?_ ?_
 ·
  refine Ac ?_
  refine ls F W Aa (Ah BQ Aa Aa Aa T3 F Aa 1 Aa).q fun a w F W => ?_
  refine ls F W Aa (Aq (v := Value.int .i64 p1.2.1) 0 F Aa Aa T3 Aa).q fun a w F W => ?_
  refine ls F W Aa (Ah Cg Aa Aa Aa T3 F Aa 0 Aa).q fun a w F W => ?_
  refine ls F W Aa (Aq (v := Value.int .i64 p0.1) 1 F Aa Aa T3 Aa).q fun a w F W => ?_
  refine ls F W Aa (DE F Aa Aa).q fun a w F W => ?_
  refine ls F W Aa (Af F Aa).q fun a w F W => ?_
  rcases Bool.eq_false_or_eq_true (decide (p1.2.1 ≠ p0.1)) with hb0 | hb0
  ·
   rw [hb0] at F
   iterate 3 refine Bg F Aa Aa Aa Aa Aa Aa Aa fun a F => ?_
   refine ls F W Aa (Am F Aa Aa Aa).q fun a w F W => ?_
   refine ls F W Aa (Af F Aa).q fun a w F W => ?_
   iterate 6 refine Bg F Aa Aa Aa Aa Aa Aa Aa fun a F => ?_
   refine ls F W Aa (Am F Aa Aa Aa).q fun a w F W => ?_
   refine Ae (Ab ?_)
   exact ⟨F.re ⟨rfl, Aa, Aa, (by show some (Value.bool true) = some (Value.bool (decide (p1.2.1 ≠ p0.1) || (decide (p1.2.2.2 ≠ 0) || decide (p0.2.2.1 = (decide (p1.1 = 7)))))); try rw [hb0]; all_goals simp only [Bool.not_true, Bool.not_false, Bool.true_and, Bool.false_and, Bool.true_or, Bool.false_or, Bool.and_true, Bool.or_false, cond_true, cond_false]), trivial⟩, W⟩
  rw [hb0] at F
  refine Av F W (Ag F Aa Aa Aa Aa) Aa (Ao Aa) (Ah BQ Aa Aa Aa T3 F Aa 3 Aa).q fun a w F W => ?_
  refine Av F W (Ag F Aa Aa Aa Aa) Aa (Ao Aa) (Aq (v := Value.int .i64 p1.2.2.2) 0 F Aa Aa T3 Aa).q fun a w F W => ?_
  refine Av F W (Ag F Aa Aa Aa Aa) Aa (Ao Aa) (DE F Aa Aa).q fun a w F W => ?_
  refine ls F W Aa (Ak F Aa Aa Aa).q fun a w F W => ?_
  refine ls F W Aa (Af F Aa).q fun a w F W => ?_
  rcases Bool.eq_false_or_eq_true (decide (p1.2.2.2 ≠ 0)) with hb1 | hb1
  ·
   rw [hb1] at F
   iterate 6 refine Bg F Aa Aa Aa Aa Aa Aa Aa fun a F => ?_
   refine ls F W Aa (Am F Aa Aa Aa).q fun a w F W => ?_
   refine Ae (Ab ?_)
   exact ⟨F.re ⟨rfl, Aa, Aa, (by show some (Value.bool true) = some (Value.bool (decide (p1.2.1 ≠ p0.1) || (decide (p1.2.2.2 ≠ 0) || decide (p0.2.2.1 = (decide (p1.1 = 7)))))); try rw [hb0]; try rw [hb1]; all_goals simp only [Bool.not_true, Bool.not_false, Bool.true_and, Bool.false_and, Bool.true_or, Bool.false_or, Bool.and_true, Bool.or_false, cond_true, cond_false]), trivial⟩, W⟩
  rw [hb1] at F
  refine Av F W (Ag F Aa Aa Aa Aa) Aa (Ao Aa) (Ah Cg Aa Aa Aa T4 F Aa 2 Aa).q fun a w F W => ?_
  refine Av F W (Ag F Aa Aa Aa Aa) Aa (Ao Aa) (Aq (v := Value.bool p0.2.2.1) 1 F Aa Aa T4 Aa).q fun a w F W => ?_
  refine Av F W (Ag F Aa Aa Aa Aa) Aa (Ao Aa) (Ah BQ Aa Aa Aa T3 F Aa 0 Aa).q fun a w F W => ?_
  refine Av F W (Ag F Aa Aa Aa Aa) Aa (Ao Aa) (Aq (v := Value.int .i64 p1.1) 0 F Aa Aa T3 Aa).q fun a w F W => ?_
  refine Av F W (Ag F Aa Aa Aa Aa) Aa (Ao Aa) (A7 F Aa Aa).q fun a w F W => ?_
  refine Av F W (Ag F Aa Aa Aa Aa) Aa (Ao Aa) (Ji JD F Aa Aa).q fun a w F W => ?_
  refine ls F W Aa (Ak F Aa Aa Aa).q fun a w F W => ?_
  refine Ae (Ab ?_)
  exact ⟨F.re ⟨rfl, Aa, Aa, (by show some (Value.bool (decide (p0.2.2.1 = (decide (p1.1 = 7))))) = some (Value.bool (decide (p1.2.1 ≠ p0.1) || (decide (p1.2.2.2 ≠ 0) || decide (p0.2.2.1 = (decide (p1.1 = 7)))))); try rw [hb0]; try rw [hb1]; all_goals simp only [Bool.not_true, Bool.not_false, Bool.true_and, Bool.false_and, Bool.true_or, Bool.false_or, Bool.and_true, Bool.or_false, cond_true, cond_false]), trivial⟩, W⟩
 rintro a w ⟨F, W⟩
 refine Ax F Aa (fun hb => ?_) fun hb => ?_
 ·
  have H := AN hb H
  rw [hb] at F
  clear hb
  refine Ai (Ac ?_)
  refine ls F W Aa (Ad F Aa).q fun a w F W => ?_
  refine Ae (Ab (Aw (AA ?_)))
  have H := AR H
  subst H
  refine AY (.inl Aa) F W Aa (As F Aa) ?_
  exact ⟨rfl, W.done⟩
 have H := AO (by rw [hb]; decide) H
 rw [hb] at F
 clear hb
 refine AE (Ab ?_)
 refine AL (fun a w => Fr 138 [] [(2, .pointer (some ⟨b1, 0, none⟩)), (3, .pointer (some ⟨b2, 0, none⟩)), (4, .bool false), (5, .bool (!p0.2.2.2.2.2.2.1 && !p0.2.2.2.2.2.2.2.1))] a ∧ Stw ⟨Y, [], w0⟩ [(b2, [.int .i64 p1.1, .int .i64 p1.2.1, .int .i64 p1.2.2.1, .int .i64 p1.2.2.2]), (b1, [.int .i64 p0.1, .int .i64 p0.2.1, .bool p0.2.2.1, .int .i64 p0.2.2.2.1, .int .i64 p0.2.2.2.2.1, .int .i64 p0.2.2.2.2.2.1, .bool p0.2.2.2.2.2.2.1, .bool p0.2.2.2.2.2.2.2.1, .int .i64 p0.2.2.2.2.2.2.2.2])] [] w) ?_ ?_
 ·
  refine Ac ?_
  refine ls F W Aa (Ah Cg Aa Aa Aa T4 F Aa 6 Aa).q fun a w F W => ?_
  refine ls F W Aa (Aq (v := Value.bool p0.2.2.2.2.2.2.1) 1 F Aa Aa T4 Aa).q fun a w F W => ?_
  refine ls F W Aa (Db F Aa).q fun a w F W => ?_
  refine ls F W Aa (Af F Aa).q fun a w F W => ?_
  rcases Bool.eq_false_or_eq_true (!p0.2.2.2.2.2.2.1) with hb0 | hb0
  ·
   rw [hb0] at F
   refine Av F W (Ag F Aa Aa Aa Aa) Aa (Ao Aa) (Ah Cg Aa Aa Aa T4 F Aa 7 Aa).q fun a w F W => ?_
   refine Av F W (Ag F Aa Aa Aa Aa) Aa (Ao Aa) (Aq (v := Value.bool p0.2.2.2.2.2.2.2.1) 1 F Aa Aa T4 Aa).q fun a w F W => ?_
   refine Av F W (Ag F Aa Aa Aa Aa) Aa (Ao Aa) (Db F Aa).q fun a w F W => ?_
   refine ls F W Aa (Am F Aa Aa Aa).q fun a w F W => ?_
   refine ls F W Aa (Ad F Aa).q fun a w F W => ?_
   refine Ae (Ab ?_)
   exact ⟨F.re ⟨rfl, Aa, Aa, (by show some (Value.bool (!p0.2.2.2.2.2.2.2.1)) = some (Value.bool (!p0.2.2.2.2.2.2.1 && !p0.2.2.2.2.2.2.2.1)); try rw [hb0]; all_goals simp only [Bool.not_true, Bool.not_false, Bool.true_and, Bool.false_and, Bool.true_or, Bool.false_or, Bool.and_true, Bool.or_false, cond_true, cond_false]), trivial⟩, W⟩
  rw [hb0] at F
  iterate 3 refine Bg F Aa Aa Aa Aa Aa Aa Aa fun a F => ?_
  refine ls F W Aa (Ak F Aa Aa Aa).q fun a w F W => ?_
  refine ls F W Aa (Ad F Aa).q fun a w F W => ?_
  refine Ae (Ab ?_)
  exact ⟨F.re ⟨rfl, Aa, Aa, (by show some (Value.bool false) = some (Value.bool (!p0.2.2.2.2.2.2.1 && !p0.2.2.2.2.2.2.2.1)); try rw [hb0]; all_goals simp only [Bool.not_true, Bool.not_false, Bool.true_and, Bool.false_and, Bool.true_or, Bool.false_or, Bool.and_true, Bool.or_false, cond_true, cond_false]), trivial⟩, W⟩
 rintro a w ⟨F, W⟩
 refine Ai (Ai (Ac ?_))
 refine ls F W Aa (Ah BQ Aa Aa Aa T3 F Aa 0 Aa).q fun a w F W => ?_
 refine ls F W Aa (Aq (v := Value.int .i64 p1.1) 0 F Aa Aa T3 Aa).q fun a w F W => ?_
 refine Ae (Ab (AC (Ai (Ac ?_))))
 refine ls F W Aa (A7 F Aa Aa).q fun a w F W => ?_
 refine ls F W Aa (Ad F Aa).q fun a w F W => ?_
 refine Ae (Ab ?_)
 refine Ax F Aa (fun hb => ?_) fun hb => ?_
 ·
  have H := AN (A1 hb) H
  rw [hb] at F
  clear hb
  refine AL (fun a w => Fr 138 [] [(4, .bool ((!p0.2.2.2.2.2.2.1 && !p0.2.2.2.2.2.2.2.1) && (decide (p1.2.2.1 = p0.2.2.2.2.2.1) && decide (p1.2.2.1 < 8))))] a ∧ Stw ⟨Y, [], w0⟩ [(b2, [.int .i64 p1.1, .int .i64 p1.2.1, .int .i64 p1.2.2.1, .int .i64 p1.2.2.2]), (b1, [.int .i64 p0.1, .int .i64 p0.2.1, .bool p0.2.2.1, .int .i64 p0.2.2.2.1, .int .i64 p0.2.2.2.2.1, .int .i64 p0.2.2.2.2.2.1, .bool p0.2.2.2.2.2.2.1, .bool p0.2.2.2.2.2.2.2.1, .int .i64 p0.2.2.2.2.2.2.2.2])] [] w) ?_ ?_
  ·
   refine Ac ?_
   iterate 2 refine ls F W Aa (Af F Aa).q fun a w F W => ?_
   rcases Bool.eq_false_or_eq_true (!p0.2.2.2.2.2.2.1 && !p0.2.2.2.2.2.2.2.1) with hb0 | hb0
   ·
    rw [hb0] at F
    refine Av F W (Ag F Aa Aa Aa Aa) Aa (Ao Aa) (Ah BQ Aa Aa Aa T3 F Aa 2 Aa).q fun a w F W => ?_
    refine Av F W (Ag F Aa Aa Aa Aa) Aa (Ao Aa) (Aq (v := Value.int .i64 p1.2.2.1) 0 F Aa Aa T3 Aa).q fun a w F W => ?_
    refine Av F W (Ag F Aa Aa Aa Aa) Aa (Ao Aa) (Ah Cg Aa Aa Aa T3 F Aa 5 Aa).q fun a w F W => ?_
    refine Av F W (Ag F Aa Aa Aa Aa) Aa (Ao Aa) (Aq (v := Value.int .i64 p0.2.2.2.2.2.1) 1 F Aa Aa T3 Aa).q fun a w F W => ?_
    refine Av F W (Ag F Aa Aa Aa Aa) Aa (Ao Aa) (A7 F Aa Aa).q fun a w F W => ?_
    refine ls F W Aa (Am F Aa Aa Aa).q fun a w F W => ?_
    refine ls F W Aa (Af F Aa).q fun a w F W => ?_
    rcases Bool.eq_false_or_eq_true (decide (p1.2.2.1 = p0.2.2.2.2.2.1)) with hb1 | hb1
    ·
     rw [hb1] at F
     refine Av F W (Ag F Aa Aa Aa Aa) Aa (Ao Aa) (Ah BQ Aa Aa Aa T3 F Aa 2 Aa).q fun a w F W => ?_
     refine Av F W (Ag F Aa Aa Aa Aa) Aa (Ao Aa) (Aq (v := Value.int .i64 p1.2.2.1) 0 F Aa Aa T3 Aa).q fun a w F W => ?_
     refine Av F W (Ag F Aa Aa Aa Aa) Aa (Ao Aa) (BR F Aa Aa).q fun a w F W => ?_
     refine ls F W Aa (Am F Aa Aa Aa).q fun a w F W => ?_
     refine ls F W Aa (Ad F Aa).q fun a w F W => ?_
     refine Ae (Ab ?_)
     exact ⟨F.re ⟨(by show some (Value.bool (decide (p1.2.2.1 < 8))) = some (Value.bool ((!p0.2.2.2.2.2.2.1 && !p0.2.2.2.2.2.2.2.1) && (decide (p1.2.2.1 = p0.2.2.2.2.2.1) && decide (p1.2.2.1 < 8)))); try rw [hb0]; try rw [hb1]; all_goals simp only [Bool.not_true, Bool.not_false, Bool.true_and, Bool.false_and, Bool.true_or, Bool.false_or, Bool.and_true, Bool.or_false, cond_true, cond_false]), trivial⟩, W⟩
    rw [hb1] at F
    iterate 3 refine Bg F Aa Aa Aa Aa Aa Aa Aa fun a F => ?_
    refine ls F W Aa (Ak F Aa Aa Aa).q fun a w F W => ?_
    refine ls F W Aa (Ad F Aa).q fun a w F W => ?_
    refine Ae (Ab ?_)
    exact ⟨F.re ⟨(by show some (Value.bool false) = some (Value.bool ((!p0.2.2.2.2.2.2.1 && !p0.2.2.2.2.2.2.2.1) && (decide (p1.2.2.1 = p0.2.2.2.2.2.1) && decide (p1.2.2.1 < 8)))); try rw [hb0]; try rw [hb1]; all_goals simp only [Bool.not_true, Bool.not_false, Bool.true_and, Bool.false_and, Bool.true_or, Bool.false_or, Bool.and_true, Bool.or_false, cond_true, cond_false]), trivial⟩, W⟩
   rw [hb0] at F
   iterate 5 refine Bg F Aa Aa Aa Aa Aa Aa Aa fun a F => ?_
   refine ls F W Aa (Ak F Aa Aa Aa).q fun a w F W => ?_
   refine ls F W Aa (Af F Aa).q fun a w F W => ?_
   iterate 3 refine Bg F Aa Aa Aa Aa Aa Aa Aa fun a F => ?_
   refine ls F W Aa (Ak F Aa Aa Aa).q fun a w F W => ?_
   refine ls F W Aa (Ad F Aa).q fun a w F W => ?_
   refine Ae (Ab ?_)
   exact ⟨F.re ⟨(by show some (Value.bool false) = some (Value.bool ((!p0.2.2.2.2.2.2.1 && !p0.2.2.2.2.2.2.2.1) && (decide (p1.2.2.1 = p0.2.2.2.2.2.1) && decide (p1.2.2.1 < 8)))); try rw [hb0]; all_goals simp only [Bool.not_true, Bool.not_false, Bool.true_and, Bool.false_and, Bool.true_or, Bool.false_or, Bool.and_true, Bool.or_false, cond_true, cond_false]), trivial⟩, W⟩
  rintro a w ⟨F, W⟩
  refine Aw (AH (AA ?_))
  have H := AR H
  subst H
  refine AY (.inl Aa) F W Aa (As F Aa) ?_
  exact ⟨rfl, W.done⟩
 have H := AO (A0 hb) H
 rw [hb] at F
 clear hb
 refine Ai (Ac ?_)
 refine ls F W Aa (A7 F Aa Aa).q fun a w F W => ?_
 refine ls F W Aa (Ad F Aa).q fun a w F W => ?_
 refine Ae (Ab ?_)
 refine Ax F Aa (fun hb => ?_) fun hb => ?_
 ·
  have H := AN (A1 hb) H
  rw [hb] at F
  clear hb
  refine AL (fun a w => Fr 138 [] [(4, .bool ((!p0.2.2.2.2.2.2.1 && !p0.2.2.2.2.2.2.2.1) && (decide (0 < p0.2.2.2.2.2.1) && decide (p1.2.2.1 = 0))))] a ∧ Stw ⟨Y, [], w0⟩ [(b2, [.int .i64 p1.1, .int .i64 p1.2.1, .int .i64 p1.2.2.1, .int .i64 p1.2.2.2]), (b1, [.int .i64 p0.1, .int .i64 p0.2.1, .bool p0.2.2.1, .int .i64 p0.2.2.2.1, .int .i64 p0.2.2.2.2.1, .int .i64 p0.2.2.2.2.2.1, .bool p0.2.2.2.2.2.2.1, .bool p0.2.2.2.2.2.2.2.1, .int .i64 p0.2.2.2.2.2.2.2.2])] [] w) ?_ ?_
  ·
   refine Ac ?_
   iterate 2 refine ls F W Aa (Af F Aa).q fun a w F W => ?_
   rcases Bool.eq_false_or_eq_true (!p0.2.2.2.2.2.2.1 && !p0.2.2.2.2.2.2.2.1) with hb0 | hb0
   ·
    rw [hb0] at F
    refine Av F W (Ag F Aa Aa Aa Aa) Aa (Ao Aa) (Ah Cg Aa Aa Aa T3 F Aa 5 Aa).q fun a w F W => ?_
    refine Av F W (Ag F Aa Aa Aa Aa) Aa (Ao Aa) (Aq (v := Value.int .i64 p0.2.2.2.2.2.1) 1 F Aa Aa T3 Aa).q fun a w F W => ?_
    refine Av F W (Ag F Aa Aa Aa Aa) Aa (Ao Aa) (DF F Aa Aa).q fun a w F W => ?_
    refine ls F W Aa (Am F Aa Aa Aa).q fun a w F W => ?_
    refine ls F W Aa (Af F Aa).q fun a w F W => ?_
    rcases Bool.eq_false_or_eq_true (decide (0 < p0.2.2.2.2.2.1)) with hb1 | hb1
    ·
     rw [hb1] at F
     refine Av F W (Ag F Aa Aa Aa Aa) Aa (Ao Aa) (Ah BQ Aa Aa Aa T3 F Aa 2 Aa).q fun a w F W => ?_
     refine Av F W (Ag F Aa Aa Aa Aa) Aa (Ao Aa) (Aq (v := Value.int .i64 p1.2.2.1) 0 F Aa Aa T3 Aa).q fun a w F W => ?_
     refine Av F W (Ag F Aa Aa Aa Aa) Aa (Ao Aa) (A7 F Aa Aa).q fun a w F W => ?_
     refine ls F W Aa (Am F Aa Aa Aa).q fun a w F W => ?_
     refine ls F W Aa (Ad F Aa).q fun a w F W => ?_
     refine Ae (Ab ?_)
     exact ⟨F.re ⟨(by show some (Value.bool (decide (p1.2.2.1 = 0))) = some (Value.bool ((!p0.2.2.2.2.2.2.1 && !p0.2.2.2.2.2.2.2.1) && (decide (0 < p0.2.2.2.2.2.1) && decide (p1.2.2.1 = 0)))); try rw [hb0]; try rw [hb1]; all_goals simp only [Bool.not_true, Bool.not_false, Bool.true_and, Bool.false_and, Bool.true_or, Bool.false_or, Bool.and_true, Bool.or_false, cond_true, cond_false]), trivial⟩, W⟩
    rw [hb1] at F
    iterate 3 refine Bg F Aa Aa Aa Aa Aa Aa Aa fun a F => ?_
    refine ls F W Aa (Ak F Aa Aa Aa).q fun a w F W => ?_
    refine ls F W Aa (Ad F Aa).q fun a w F W => ?_
    refine Ae (Ab ?_)
    exact ⟨F.re ⟨(by show some (Value.bool false) = some (Value.bool ((!p0.2.2.2.2.2.2.1 && !p0.2.2.2.2.2.2.2.1) && (decide (0 < p0.2.2.2.2.2.1) && decide (p1.2.2.1 = 0)))); try rw [hb0]; try rw [hb1]; all_goals simp only [Bool.not_true, Bool.not_false, Bool.true_and, Bool.false_and, Bool.true_or, Bool.false_or, Bool.and_true, Bool.or_false, cond_true, cond_false]), trivial⟩, W⟩
   rw [hb0] at F
   iterate 3 refine Bg F Aa Aa Aa Aa Aa Aa Aa fun a F => ?_
   refine ls F W Aa (Ak F Aa Aa Aa).q fun a w F W => ?_
   refine ls F W Aa (Af F Aa).q fun a w F W => ?_
   iterate 3 refine Bg F Aa Aa Aa Aa Aa Aa Aa fun a F => ?_
   refine ls F W Aa (Ak F Aa Aa Aa).q fun a w F W => ?_
   refine ls F W Aa (Ad F Aa).q fun a w F W => ?_
   refine Ae (Ab ?_)
   exact ⟨F.re ⟨(by show some (Value.bool false) = some (Value.bool ((!p0.2.2.2.2.2.2.1 && !p0.2.2.2.2.2.2.2.1) && (decide (0 < p0.2.2.2.2.2.1) && decide (p1.2.2.1 = 0)))); try rw [hb0]; all_goals simp only [Bool.not_true, Bool.not_false, Bool.true_and, Bool.false_and, Bool.true_or, Bool.false_or, Bool.and_true, Bool.or_false, cond_true, cond_false]), trivial⟩, W⟩
  rintro a w ⟨F, W⟩
  refine Aw (AH (AA ?_))
  have H := AR H
  subst H
  refine AY (.inl Aa) F W Aa (As F Aa) ?_
  exact ⟨rfl, W.done⟩
 have H := AO (A0 hb) H
 rw [hb] at F
 clear hb
 refine Ai (Ac ?_)
 refine ls F W Aa (A7 F Aa Aa).q fun a w F W => ?_
 refine ls F W Aa (Ad F Aa).q fun a w F W => ?_
 refine Ae (Ab ?_)
 refine Ax F Aa (fun hb => ?_) fun hb => ?_
 ·
  have H := AN (A1 hb) H
  rw [hb] at F
  clear hb
  refine AL (fun a w => Fr 138 [] [(4, .bool (!p0.2.2.2.2.2.2.2.1 && decide (p1.2.2.1 = 0)))] a ∧ Stw ⟨Y, [], w0⟩ [(b2, [.int .i64 p1.1, .int .i64 p1.2.1, .int .i64 p1.2.2.1, .int .i64 p1.2.2.2]), (b1, [.int .i64 p0.1, .int .i64 p0.2.1, .bool p0.2.2.1, .int .i64 p0.2.2.2.1, .int .i64 p0.2.2.2.2.1, .int .i64 p0.2.2.2.2.2.1, .bool p0.2.2.2.2.2.2.1, .bool p0.2.2.2.2.2.2.2.1, .int .i64 p0.2.2.2.2.2.2.2.2])] [] w) ?_ ?_
  ·
   refine Ac ?_
   refine ls F W Aa (Ah Cg Aa Aa Aa T4 F Aa 7 Aa).q fun a w F W => ?_
   refine ls F W Aa (Aq (v := Value.bool p0.2.2.2.2.2.2.2.1) 1 F Aa Aa T4 Aa).q fun a w F W => ?_
   refine ls F W Aa (Db F Aa).q fun a w F W => ?_
   refine ls F W Aa (Af F Aa).q fun a w F W => ?_
   rcases Bool.eq_false_or_eq_true (!p0.2.2.2.2.2.2.2.1) with hb0 | hb0
   ·
    rw [hb0] at F
    refine Av F W (Ag F Aa Aa Aa Aa) Aa (Ao Aa) (Ah BQ Aa Aa Aa T3 F Aa 2 Aa).q fun a w F W => ?_
    refine Av F W (Ag F Aa Aa Aa Aa) Aa (Ao Aa) (Aq (v := Value.int .i64 p1.2.2.1) 0 F Aa Aa T3 Aa).q fun a w F W => ?_
    refine Av F W (Ag F Aa Aa Aa Aa) Aa (Ao Aa) (A7 F Aa Aa).q fun a w F W => ?_
    refine ls F W Aa (Am F Aa Aa Aa).q fun a w F W => ?_
    refine ls F W Aa (Ad F Aa).q fun a w F W => ?_
    refine Ae (Ab ?_)
    exact ⟨F.re ⟨(by show some (Value.bool (decide (p1.2.2.1 = 0))) = some (Value.bool (!p0.2.2.2.2.2.2.2.1 && decide (p1.2.2.1 = 0))); try rw [hb0]; all_goals simp only [Bool.not_true, Bool.not_false, Bool.true_and, Bool.false_and, Bool.true_or, Bool.false_or, Bool.and_true, Bool.or_false, cond_true, cond_false]), trivial⟩, W⟩
   rw [hb0] at F
   iterate 3 refine Bg F Aa Aa Aa Aa Aa Aa Aa fun a F => ?_
   refine ls F W Aa (Ak F Aa Aa Aa).q fun a w F W => ?_
   refine ls F W Aa (Ad F Aa).q fun a w F W => ?_
   refine Ae (Ab ?_)
   exact ⟨F.re ⟨(by show some (Value.bool false) = some (Value.bool (!p0.2.2.2.2.2.2.2.1 && decide (p1.2.2.1 = 0))); try rw [hb0]; all_goals simp only [Bool.not_true, Bool.not_false, Bool.true_and, Bool.false_and, Bool.true_or, Bool.false_or, Bool.and_true, Bool.or_false, cond_true, cond_false]), trivial⟩, W⟩
  rintro a w ⟨F, W⟩
  refine Aw (AH (AA ?_))
  have H := AR H
  subst H
  refine AY (.inl Aa) F W Aa (As F Aa) ?_
  exact ⟨rfl, W.done⟩
 have H := AO (A0 hb) H
 rw [hb] at F
 clear hb
 refine Ai (Ac ?_)
 refine ls F W Aa (A7 F Aa Aa).q fun a w F W => ?_
 refine ls F W Aa (Ad F Aa).q fun a w F W => ?_
 refine Ae (Ab ?_)
 refine Ax F Aa (fun hb => ?_) fun hb => ?_
 ·
  have H := AN (A1 hb) H
  rw [hb] at F
  clear hb
  refine AL (fun a w => Fr 138 [] [(4, .bool (p0.2.2.2.2.2.2.1 && (!p0.2.2.2.2.2.2.2.1 && decide (p1.2.2.1 = 0))))] a ∧ Stw ⟨Y, [], w0⟩ [(b2, [.int .i64 p1.1, .int .i64 p1.2.1, .int .i64 p1.2.2.1, .int .i64 p1.2.2.2]), (b1, [.int .i64 p0.1, .int .i64 p0.2.1, .bool p0.2.2.1, .int .i64 p0.2.2.2.1, .int .i64 p0.2.2.2.2.1, .int .i64 p0.2.2.2.2.2.1, .bool p0.2.2.2.2.2.2.1, .bool p0.2.2.2.2.2.2.2.1, .int .i64 p0.2.2.2.2.2.2.2.2])] [] w) ?_ ?_
  ·
   refine Ac ?_
   refine ls F W Aa (Ah Cg Aa Aa Aa T4 F Aa 6 Aa).q fun a w F W => ?_
   refine ls F W Aa (Aq (v := Value.bool p0.2.2.2.2.2.2.1) 1 F Aa Aa T4 Aa).q fun a w F W => ?_
   refine ls F W Aa (Af F Aa).q fun a w F W => ?_
   rcases Bool.eq_false_or_eq_true p0.2.2.2.2.2.2.1 with hb0 | hb0
   ·
    rw [hb0] at F
    refine Av F W (Ag F Aa Aa Aa Aa) Aa (Ao Aa) (Ah Cg Aa Aa Aa T4 F Aa 7 Aa).q fun a w F W => ?_
    refine Av F W (Ag F Aa Aa Aa Aa) Aa (Ao Aa) (Aq (v := Value.bool p0.2.2.2.2.2.2.2.1) 1 F Aa Aa T4 Aa).q fun a w F W => ?_
    refine Av F W (Ag F Aa Aa Aa Aa) Aa (Ao Aa) (Db F Aa).q fun a w F W => ?_
    refine ls F W Aa (Am F Aa Aa Aa).q fun a w F W => ?_
    refine ls F W Aa (Af F Aa).q fun a w F W => ?_
    rcases Bool.eq_false_or_eq_true (!p0.2.2.2.2.2.2.2.1) with hb1 | hb1
    ·
     rw [hb1] at F
     refine Av F W (Ag F Aa Aa Aa Aa) Aa (Ao Aa) (Ah BQ Aa Aa Aa T3 F Aa 2 Aa).q fun a w F W => ?_
     refine Av F W (Ag F Aa Aa Aa Aa) Aa (Ao Aa) (Aq (v := Value.int .i64 p1.2.2.1) 0 F Aa Aa T3 Aa).q fun a w F W => ?_
     refine Av F W (Ag F Aa Aa Aa Aa) Aa (Ao Aa) (A7 F Aa Aa).q fun a w F W => ?_
     refine ls F W Aa (Am F Aa Aa Aa).q fun a w F W => ?_
     refine ls F W Aa (Ad F Aa).q fun a w F W => ?_
     refine Ae (Ab ?_)
     exact ⟨F.re ⟨(by show some (Value.bool (decide (p1.2.2.1 = 0))) = some (Value.bool (p0.2.2.2.2.2.2.1 && (!p0.2.2.2.2.2.2.2.1 && decide (p1.2.2.1 = 0)))); try rw [hb1]; try rw [hb0]; all_goals simp only [Bool.not_true, Bool.not_false, Bool.true_and, Bool.false_and, Bool.true_or, Bool.false_or, Bool.and_true, Bool.or_false, cond_true, cond_false]), trivial⟩, W⟩
    rw [hb1] at F
    iterate 3 refine Bg F Aa Aa Aa Aa Aa Aa Aa fun a F => ?_
    refine ls F W Aa (Ak F Aa Aa Aa).q fun a w F W => ?_
    refine ls F W Aa (Ad F Aa).q fun a w F W => ?_
    refine Ae (Ab ?_)
    exact ⟨F.re ⟨(by show some (Value.bool false) = some (Value.bool (p0.2.2.2.2.2.2.1 && (!p0.2.2.2.2.2.2.2.1 && decide (p1.2.2.1 = 0)))); try rw [hb1]; try rw [hb0]; all_goals simp only [Bool.not_true, Bool.not_false, Bool.true_and, Bool.false_and, Bool.true_or, Bool.false_or, Bool.and_true, Bool.or_false, cond_true, cond_false]), trivial⟩, W⟩
   rw [hb0] at F
   iterate 3 refine Bg F Aa Aa Aa Aa Aa Aa Aa fun a F => ?_
   refine ls F W Aa (Ak F Aa Aa Aa).q fun a w F W => ?_
   refine ls F W Aa (Af F Aa).q fun a w F W => ?_
   iterate 3 refine Bg F Aa Aa Aa Aa Aa Aa Aa fun a F => ?_
   refine ls F W Aa (Ak F Aa Aa Aa).q fun a w F W => ?_
   refine ls F W Aa (Ad F Aa).q fun a w F W => ?_
   refine Ae (Ab ?_)
   exact ⟨F.re ⟨(by show some (Value.bool false) = some (Value.bool (p0.2.2.2.2.2.2.1 && (!p0.2.2.2.2.2.2.2.1 && decide (p1.2.2.1 = 0)))); try rw [hb0]; all_goals simp only [Bool.not_true, Bool.not_false, Bool.true_and, Bool.false_and, Bool.true_or, Bool.false_or, Bool.and_true, Bool.or_false, cond_true, cond_false]), trivial⟩, W⟩
  rintro a w ⟨F, W⟩
  refine Aw (AH (AA ?_))
  have H := AR H
  subst H
  refine AY (.inl Aa) F W Aa (As F Aa) ?_
  exact ⟨rfl, W.done⟩
 have H := AO (A0 hb) H
 rw [hb] at F
 clear hb
 refine Ai (Ac ?_)
 refine ls F W Aa (A7 F Aa Aa).q fun a w F W => ?_
 refine ls F W Aa (Ad F Aa).q fun a w F W => ?_
 refine Ae (Ab ?_)
 refine Ax F Aa (fun hb => ?_) fun hb => ?_
 ·
  have H := AN (A1 hb) H
  rw [hb] at F
  clear hb
  refine AL (fun a w => Fr 138 [] [(4, .bool (p0.2.2.2.2.2.2.2.1 && (Al p1.2.2.1 255)))] a ∧ Stw ⟨Y, [], w0⟩ [(b2, [.int .i64 p1.1, .int .i64 p1.2.1, .int .i64 p1.2.2.1, .int .i64 p1.2.2.2]), (b1, [.int .i64 p0.1, .int .i64 p0.2.1, .bool p0.2.2.1, .int .i64 p0.2.2.2.1, .int .i64 p0.2.2.2.2.1, .int .i64 p0.2.2.2.2.2.1, .bool p0.2.2.2.2.2.2.1, .bool p0.2.2.2.2.2.2.2.1, .int .i64 p0.2.2.2.2.2.2.2.2])] [] w) ?_ ?_
  ·
   refine Ac ?_
   refine ls F W Aa (Ah Cg Aa Aa Aa T4 F Aa 7 Aa).q fun a w F W => ?_
   refine ls F W Aa (Aq (v := Value.bool p0.2.2.2.2.2.2.2.1) 1 F Aa Aa T4 Aa).q fun a w F W => ?_
   refine ls F W Aa (Af F Aa).q fun a w F W => ?_
   rcases Bool.eq_false_or_eq_true p0.2.2.2.2.2.2.2.1 with hb0 | hb0
   ·
    rw [hb0] at F
    refine Av F W (Ag F Aa Aa Aa Aa) Aa (Ao Aa) (Ah BQ Aa Aa Aa T3 F Aa 2 Aa).q fun a w F W => ?_
    refine Av F W (Ag F Aa Aa Aa Aa) Aa (Ao Aa) (Aq (v := Value.int .i64 p1.2.2.1) 0 F Aa Aa T3 Aa).q fun a w F W => ?_
    refine Ed (Ag F Aa Aa Aa Aa) ?_
    refine ls F W Aa (AK (v := Value.bool (Al p1.2.2.1 255)) F Jm Aa (fun w W => Bu any w p1.2.2.1 255 _ Aa)) fun a w F W => ?_
    refine ls F W Aa (Am F Aa Aa Aa).q fun a w F W => ?_
    refine ls F W Aa (Ad F Aa).q fun a w F W => ?_
    refine Ae (Ab ?_)
    exact ⟨F.re ⟨(by show some (Value.bool (Al p1.2.2.1 255)) = some (Value.bool (p0.2.2.2.2.2.2.2.1 && (Al p1.2.2.1 255))); try rw [hb0]; all_goals simp only [Bool.not_true, Bool.not_false, Bool.true_and, Bool.false_and, Bool.true_or, Bool.false_or, Bool.and_true, Bool.or_false, cond_true, cond_false]), trivial⟩, W⟩
   rw [hb0] at F
   iterate 3 refine Bg F Aa Aa Aa Aa Aa Aa Aa fun a F => ?_
   refine ls F W Aa (Ak F Aa Aa Aa).q fun a w F W => ?_
   refine ls F W Aa (Ad F Aa).q fun a w F W => ?_
   refine Ae (Ab ?_)
   exact ⟨F.re ⟨(by show some (Value.bool false) = some (Value.bool (p0.2.2.2.2.2.2.2.1 && (Al p1.2.2.1 255))); try rw [hb0]; all_goals simp only [Bool.not_true, Bool.not_false, Bool.true_and, Bool.false_and, Bool.true_or, Bool.false_or, Bool.and_true, Bool.or_false, cond_true, cond_false]), trivial⟩, W⟩
  rintro a w ⟨F, W⟩
  refine Aw (AH (AA ?_))
  have H := AR H
  subst H
  refine AY (.inl Aa) F W Aa (As F Aa) ?_
  exact ⟨rfl, W.done⟩
 have H := AO (A0 hb) H
 rw [hb] at F
 clear hb
 refine Ai (Ac ?_)
 refine ls F W Aa (A7 F Aa Aa).q fun a w F W => ?_
 refine ls F W Aa (Ad F Aa).q fun a w F W => ?_
 refine Ae (Ab ?_)
 refine Ax F Aa (fun hb => ?_) fun hb => ?_
 ·
  have H := AN (A1 hb) H
  rw [hb] at F
  clear hb
  obtain ⟨o1, G1, K1⟩ := Ap H
  refine AL (fun a w => ∃ x1 : Bool, some (x1) = some o1 ∧ Fr 138 [] [(4, .bool x1)] a ∧ Stw ⟨Y, [], w0⟩ [(b2, [.int .i64 p1.1, .int .i64 p1.2.1, .int .i64 p1.2.2.1, .int .i64 p1.2.2.2]), (b1, [.int .i64 p0.1, .int .i64 p0.2.1, .bool p0.2.2.1, .int .i64 p0.2.2.2.1, .int .i64 p0.2.2.2.2.1, .int .i64 p0.2.2.2.2.2.1, .bool p0.2.2.2.2.2.2.1, .bool p0.2.2.2.2.2.2.2.1, .int .i64 p0.2.2.2.2.2.2.2.2])] [] w) ?_ ?_
  ·
   have H := G1
   clear G1 K1
   refine Ac ?_
   refine ls F W Aa (Ah BQ Aa Aa Aa T3 F Aa 2 Aa).q fun a w F W => ?_
   refine ls F W Aa (Aq (v := Value.int .i64 p1.2.2.1) 0 F Aa Aa T3 Aa).q fun a w F W => ?_
   refine ls F W Aa (AK (v := Value.bool (Al p1.2.2.1 7)) F Jm Aa (fun w W => Bu any w p1.2.2.1 7 _ Aa)) fun a w F W => ?_
   refine ls F W Aa (Af F Aa).q fun a w F W => ?_
   rcases Bool.eq_false_or_eq_true (Al p1.2.2.1 7) with hb | hb
   ·
    have H := AN hb H
    rw [hb] at F
    clear hb
    refine Av F W (Ag F Aa Aa Aa Aa) Aa (Ao Aa) (Ah Cg Aa Aa Aa T3 F Aa 8 Aa).q fun a w F W => ?_
    refine Av F W (Ag F Aa Aa Aa Aa) Aa (Ao Aa) (Aq (v := Value.int .i64 p0.2.2.2.2.2.2.2.2) 1 F Aa Aa T3 Aa).q fun a w F W => ?_
    refine Av F W (Ag F Aa Aa Aa Aa) Aa (Ao Aa) (Ah BQ Aa Aa Aa T3 F Aa 2 Aa).q fun a w F W => ?_
    refine Av F W (Ag F Aa Aa Aa Aa) Aa (Ao Aa) (Aq (v := Value.int .i64 p1.2.2.1) 0 F Aa Aa T3 Aa).q fun a w F W => ?_
    obtain ⟨x2, h1, H⟩ := Ap H
    refine Av F W (Ag F Aa Aa Aa Aa) Aa (Ao Aa) (IL (DS h1).2 (Jt F Aa Aa (DS h1).1)).q fun a w F W => ?_
    refine Av F W (Ag F Aa Aa Aa Aa) Aa (Ao Aa) (Jv F Aa Aa).q fun a w F W => ?_
    refine Av F W (Ag F Aa Aa Aa Aa) Aa (Ao Aa) (A7 F Aa Aa).q fun a w F W => ?_
    refine ls F W Aa (Am F Aa Aa Aa).q fun a w F W => ?_
    refine ls F W Aa (Ad F Aa).q fun a w F W => ?_
    refine Ae (Ab ?_)
    have W := W.frontM (i := 1) Aa Aa
    have W := W.frontM (i := 1) Aa Aa
    exact ⟨_, H, F.re ⟨rfl, trivial⟩, W⟩
   have H := AO (by rw [hb]; decide) H
   rw [hb] at F
   clear hb
   iterate 7 refine Bg F Aa Aa Aa Aa Aa Aa Aa fun a F => ?_
   refine ls F W Aa (Ak F Aa Aa Aa).q fun a w F W => ?_
   refine ls F W Aa (Ad F Aa).q fun a w F W => ?_
   refine Ae (Ab ?_)
   have W := W.frontM (i := 1) Aa Aa
   have W := W.frontM (i := 1) Aa Aa
   exact ⟨_, H, F.re ⟨rfl, trivial⟩, W⟩
  rintro a w ⟨x1, hj, F, W⟩
  have hj := AR hj
  subst hj
  have H := K1
  clear G1 K1
  refine Aw (AH (AA ?_))
  have H := AR H
  subst H
  refine AY (.inl Aa) F W Aa (As F Aa) ?_
  exact ⟨rfl, W.done⟩
 have H := AO (A0 hb) H
 rw [hb] at F
 clear hb
 refine AE (AQ (Ab (Ai (Ac ?_))))
 refine ls F W Aa (Ad F Aa).q fun a w F W => ?_
 refine Ae (Ab (Aw ?_))
 have H := AR H
 subst H
 refine AY (.inl Aa) F W Aa (As F Aa) ?_
 exact ⟨rfl, W.done⟩
theorem Kd : Has Tryd.prog 21 := ⟨fun args w => An Tryd.func21 rfl (by decide) args w⟩
theorem MO : Tryd.prog.follows .mixedOrders = true := by kernel_rfl
noncomputable def Cd (p0 : Int × Int × Bool × Int × Int × Int × Bool × Bool × Int) (p1 : Int × Int × Int × Int) : Option ((Int × Int × Bool × Int × Int × Int × Bool × Bool × Int) × Int) := (BE p0 p1).bind fun x1 => (if (!x1) = true then some (p0, 5) else Gz (if p1.1 = 1 then some (.inr ((p1.2.1, p0.2.1, true, p1.2.2.1, p1.2.2.2, 0, false, false, 0), 0)) else (if p1.1 = 2 then some (.inl (Bn (p0.2.2.2.2.2.1 + 1), p0.2.2.2.2.2.2.1, p0.2.2.2.2.2.2.2.1, p0.2.2.2.2.2.2.2.2)) else (if p1.1 = 3 then some (.inl (p0.2.2.2.2.2.1, true, p0.2.2.2.2.2.2.2.1, p0.2.2.2.2.2.2.2.2)) else (if p1.1 = 4 then some (.inl (p0.2.2.2.2.2.1, p0.2.2.2.2.2.2.1, true, p0.2.2.2.2.2.2.2.2)) else (if p1.1 = 5 then some (.inr ((p0.1, p0.2.2.2.1, false, 0, 0, 0, false, false, 0), 0)) else (if p1.1 = 6 then some (.inr ((p0.1, p0.2.1, false, 0, 0, 0, false, false, p1.2.2.1), 0)) else (if p1.1 = 7 then (Jh (IF .i64 1 p1.2.2.1) p1.2.2.1).bind fun x6 => some (.inl (p0.2.2.2.2.2.1, p0.2.2.2.2.2.2.1, p0.2.2.2.2.2.2.2.1, Dy .i64 p0.2.2.2.2.2.2.2.2 x6)) else some (.inl (p0.2.2.2.2.2.1, p0.2.2.2.2.2.2.1, p0.2.2.2.2.2.2.2.1, p0.2.2.2.2.2.2.2.2))))))))) fun (x2, x3, x4, x5) => some ((p0.1, p0.2.1, p0.2.2.1, p0.2.2.2.1, p0.2.2.2.2.1, x2, x3, x4, x5), 0))
theorem E8 (Y : Nat → Prop) (w0 : World)  (p0 : Int × Int × Bool × Int × Int × Int × Bool × Bool × Int) (p1 : Int × Int × Int × Int) (r : (Int × Int × Bool × Int × Int × Int × Bool × Bool × Int) × Int) (H : Cd p0 p1 = some r)  :
    Calls Tryd.prog 8 #[.agg #[.int .i64 p0.1, .int .i64 p0.2.1, .bool p0.2.2.1, .int .i64 p0.2.2.2.1, .int .i64 p0.2.2.2.2.1, .int .i64 p0.2.2.2.2.2.1, .bool p0.2.2.2.2.2.2.1, .bool p0.2.2.2.2.2.2.2.1, .int .i64 p0.2.2.2.2.2.2.2.2], .agg #[.int .i64 p1.1, .int .i64 p1.2.1, .int .i64 p1.2.2.1, .int .i64 p1.2.2.2]] w0 fun e w' => e = .returned (.tuple #[.agg #[.int .i64 r.1.1, .int .i64 r.1.2.1, .bool r.1.2.2.1, .int .i64 r.1.2.2.2.1, .int .i64 r.1.2.2.2.2.1, .int .i64 r.1.2.2.2.2.2.1, .bool r.1.2.2.2.2.2.2.1, .bool r.1.2.2.2.2.2.2.2.1, .int .i64 r.1.2.2.2.2.2.2.2.2], .int .i64 r.2]) ∧ Below w0.heap.size w0 w' := by
 refine enter Tryd.func8 Aa Tryd.ntmps8 Aa fun a F => ?_
 have W := Stw.start Y w0
 unfold Cd at H
 refine Ai (Ac ?_)
 refine Fy (cs := [.int .i64 p0.1, .int .i64 p0.2.1, .bool p0.2.2.1, .int .i64 p0.2.2.2.1, .int .i64 p0.2.2.2.2.1, .int .i64 p0.2.2.2.2.2.1, .bool p0.2.2.2.2.2.2.1, .bool p0.2.2.2.2.2.2.2.1, .int .i64 p0.2.2.2.2.2.2.2.2]) F W Aa Aa Aa fun b1 a w F W => ?_
 refine Fy (cs := [.int .i64 p1.1, .int .i64 p1.2.1, .int .i64 p1.2.2.1, .int .i64 p1.2.2.2]) F W Aa Aa Aa fun b2 a w F W => ?_
 refine Bp (cs := [.int .i64 0, .int .i64 0, .bool false, .int .i64 0, .int .i64 0, .int .i64 0, .bool false, .bool false, .int .i64 0]) F W Aa Jq Aa fun b3 a w F W => ?_
 refine ls F W Aa (Ad F Aa).q fun a w F W => ?_
 refine Ae (Ab (Ai (Ai (Ac ?_))))
 refine ls F W Aa (Aq (v := Value.agg #[.int .i64 p0.1, .int .i64 p0.2.1, .bool p0.2.2.1, .int .i64 p0.2.2.2.1, .int .i64 p0.2.2.2.2.1, .int .i64 p0.2.2.2.2.2.1, .bool p0.2.2.2.2.2.2.1, .bool p0.2.2.2.2.2.2.2.1, .int .i64 p0.2.2.2.2.2.2.2.2]) 2 F Aa Aa El Aa).q fun a w F W => ?_
 refine ls F W Aa (Aq (v := Value.agg #[.int .i64 p1.1, .int .i64 p1.2.1, .int .i64 p1.2.2.1, .int .i64 p1.2.2.2]) 1 F Aa Aa EE Aa).q fun a w F W => ?_
 obtain ⟨x1, h1, H⟩ := Ap H
 refine ls F W Aa (AK (v := Value.bool x1) F Kd Aa (fun w W => D0 any w p0 p1 _ h1)) fun a w F W => ?_
 refine ls F W Aa (Db F Aa).q fun a w F W => ?_
 refine Ae (Ab ?_)
 refine Ax F Aa (fun hb => ?_) fun hb => ?_
 ·
  have H := AN hb H
  rw [hb] at F
  clear hb
  refine Ai (Ac ?_)
  refine ls F W Aa (Aq (v := Value.agg #[.int .i64 p0.1, .int .i64 p0.2.1, .bool p0.2.2.1, .int .i64 p0.2.2.2.1, .int .i64 p0.2.2.2.2.1, .int .i64 p0.2.2.2.2.2.1, .bool p0.2.2.2.2.2.2.1, .bool p0.2.2.2.2.2.2.2.1, .int .i64 p0.2.2.2.2.2.2.2.2]) 2 F Aa Aa El Aa).q fun a w F W => ?_
  refine AG (vs := [.int .i64 p0.1, .int .i64 p0.2.1, .bool p0.2.2.1, .int .i64 p0.2.2.2.1, .int .i64 p0.2.2.2.2.1, .int .i64 p0.2.2.2.2.2.1, .bool p0.2.2.2.2.2.2.1, .bool p0.2.2.2.2.2.2.2.1, .int .i64 p0.2.2.2.2.2.2.2.2]) (M' := [(b3, [.int .i64 p0.1, .int .i64 p0.2.1, .bool p0.2.2.1, .int .i64 p0.2.2.2.1, .int .i64 p0.2.2.2.2.1, .int .i64 p0.2.2.2.2.2.1, .bool p0.2.2.2.2.2.2.1, .bool p0.2.2.2.2.2.2.2.1, .int .i64 p0.2.2.2.2.2.2.2.2]), (b2, [.int .i64 p1.1, .int .i64 p1.2.1, .int .i64 p1.2.2.1, .int .i64 p1.2.2.2]), (b1, [.int .i64 p0.1, .int .i64 p0.2.1, .bool p0.2.2.1, .int .i64 p0.2.2.2.1, .int .i64 p0.2.2.2.2.1, .int .i64 p0.2.2.2.2.2.1, .bool p0.2.2.2.2.2.2.1, .bool p0.2.2.2.2.2.2.2.1, .int .i64 p0.2.2.2.2.2.2.2.2])]) 0 F W Aa Aa Aa El Aa Aa Aa Aa Aa fun w W => ?_
  refine ls F W Aa (Ad F Aa).q fun a w F W => ?_
  refine Ae (Ab (Aw (AA ?_)))
  have H := AR H
  subst H
  refine Dj (.inl Aa) F W Aa (BZ 0 F Aa Aa El Aa) (As F Aa) ?_
  exact ⟨rfl, W.done⟩
 have H := AO (by rw [hb]; decide) H
 rw [hb] at F
 clear hb
 refine AE (Ab ?_)
 obtain ⟨o1, G1, K1, L1⟩ := IQ H
 refine AL (fun a w => ∃ x2 : Int, ∃ x3 : Bool, ∃ x4 : Bool, ∃ x5 : Int, some (Sum.inl (x2, x3, x4, x5)) = some o1 ∧ Fr 62 [] [(2, .pointer (some ⟨b1, 0, none⟩)), (4, .pointer (some ⟨b3, 0, none⟩)), (5, .int .i64 0)] a ∧ Stw ⟨Y, [], w0⟩ [(b3, [.int .i64 0, .int .i64 0, .bool false, .int .i64 0, .int .i64 0, .int .i64 0, .bool false, .bool false, .int .i64 0]), (b2, [.int .i64 p1.1, .int .i64 p1.2.1, .int .i64 p1.2.2.1, .int .i64 p1.2.2.2]), (b1, [.int .i64 p0.1, .int .i64 p0.2.1, .bool p0.2.2.1, .int .i64 p0.2.2.2.1, .int .i64 p0.2.2.2.2.1, .int .i64 x2, .bool x3, .bool x4, .int .i64 x5])] [] w) ?_ ?_
 ·
  have H := G1
  clear G1 K1
  refine Ai (Ac ?_)
  refine ls F W Aa (Ah BQ Aa Aa Aa T3 F Aa 0 Aa).q fun a w F W => ?_
  refine ls F W Aa (Aq (v := Value.int .i64 p1.1) 1 F Aa Aa T3 Aa).q fun a w F W => ?_
  refine Ae (Ab (AC (Ai (Ac ?_))))
  refine ls F W Aa (A7 F Aa Aa).q fun a w F W => ?_
  refine ls F W Aa (Ad F Aa).q fun a w F W => ?_
  refine Ae (Ab ?_)
  refine Ax F Aa (fun hb => ?_) fun hb => ?_
  ·
   have H := AN (A1 hb) H
   rw [hb] at F
   clear hb
   refine Ai (Ac ?_)
   refine ls F W Aa (Ah BQ Aa Aa Aa T3 F Aa 1 Aa).q fun a w F W => ?_
   refine ls F W Aa (Aq (v := Value.int .i64 p1.2.1) 1 F Aa Aa T3 Aa).q fun a w F W => ?_
   refine ls F W Aa (Ah Cg Aa Aa Aa T3 F Aa 1 Aa).q fun a w F W => ?_
   refine ls F W Aa (Aq (v := Value.int .i64 p0.2.1) 2 F Aa Aa T3 Aa).q fun a w F W => ?_
   refine ls F W Aa (Ah BQ Aa Aa Aa T3 F Aa 2 Aa).q fun a w F W => ?_
   refine ls F W Aa (Aq (v := Value.int .i64 p1.2.2.1) 1 F Aa Aa T3 Aa).q fun a w F W => ?_
   refine ls F W Aa (Ah BQ Aa Aa Aa T3 F Aa 3 Aa).q fun a w F W => ?_
   refine ls F W Aa (Aq (v := Value.int .i64 p1.2.2.2) 1 F Aa Aa T3 Aa).q fun a w F W => ?_
   refine ls F W Aa (Bx (v := Value.agg #[.int .i64 p1.2.1, .int .i64 p0.2.1, .bool true, .int .i64 p1.2.2.1, .int .i64 p1.2.2.2, .int .i64 0, .bool false, .bool false, .int .i64 0]) Js F Aa Aa Aa).q fun a w F W => ?_
   refine AG (vs := [.int .i64 p1.2.1, .int .i64 p0.2.1, .bool true, .int .i64 p1.2.2.1, .int .i64 p1.2.2.2, .int .i64 0, .bool false, .bool false, .int .i64 0]) (M' := [(b3, [.int .i64 p1.2.1, .int .i64 p0.2.1, .bool true, .int .i64 p1.2.2.1, .int .i64 p1.2.2.2, .int .i64 0, .bool false, .bool false, .int .i64 0]), (b2, [.int .i64 p1.1, .int .i64 p1.2.1, .int .i64 p1.2.2.1, .int .i64 p1.2.2.2]), (b1, [.int .i64 p0.1, .int .i64 p0.2.1, .bool p0.2.2.1, .int .i64 p0.2.2.2.1, .int .i64 p0.2.2.2.2.1, .int .i64 p0.2.2.2.2.2.1, .bool p0.2.2.2.2.2.2.1, .bool p0.2.2.2.2.2.2.2.1, .int .i64 p0.2.2.2.2.2.2.2.2])]) 0 F W Aa Aa Aa El Aa Aa Aa Aa Aa fun w W => ?_
   refine ls F W Aa (Ad F Aa).q fun a w F W => ?_
   refine Ae (Ab (Aw (AH (AA ?_))))
   have H := L1 _ H
   have H := AR H
   subst H
   refine Dj (.inl Aa) F W Aa (BZ 0 F Aa Aa El Aa) (As F Aa) ?_
   exact ⟨rfl, W.done⟩
  have H := AO (A0 hb) H
  rw [hb] at F
  clear hb
  refine Ai (Ac ?_)
  refine ls F W Aa (A7 F Aa Aa).q fun a w F W => ?_
  refine ls F W Aa (Ad F Aa).q fun a w F W => ?_
  refine Ae (Ab ?_)
  refine Ax F Aa (fun hb => ?_) fun hb => ?_
  ·
   have H := AN (A1 hb) H
   rw [hb] at F
   clear hb
   refine Ac ?_
   refine ls F W Aa (Ah Cg Aa Aa Aa T3 F Aa 5 Aa).q fun a w F W => ?_
   refine ls F W Aa (Aq (v := Value.int .i64 p0.2.2.2.2.2.1) 2 F Aa Aa T3 Aa).q fun a w F W => ?_
   refine ls F W Aa (Bo F Aa Aa Aa).q fun a w F W => ?_
   refine ls F W Aa (Ah Cg Aa Aa Aa T3 F Aa 5 Aa).q fun a w F W => ?_
   refine AG (vs := [.int .i64 (Bn (p0.2.2.2.2.2.1 + 1))]) (M' := [(b3, [.int .i64 0, .int .i64 0, .bool false, .int .i64 0, .int .i64 0, .int .i64 0, .bool false, .bool false, .int .i64 0]), (b2, [.int .i64 p1.1, .int .i64 p1.2.1, .int .i64 p1.2.2.1, .int .i64 p1.2.2.2]), (b1, [.int .i64 p0.1, .int .i64 p0.2.1, .bool p0.2.2.1, .int .i64 p0.2.2.2.1, .int .i64 p0.2.2.2.2.1, .int .i64 (Bn (p0.2.2.2.2.2.1 + 1)), .bool p0.2.2.2.2.2.2.1, .bool p0.2.2.2.2.2.2.2.1, .int .i64 p0.2.2.2.2.2.2.2.2])]) 2 F W Aa Aa Aa T3 Aa Aa Aa Aa Aa fun w W => ?_
   refine Ae (AQ (Ab ?_))
   have W := W.frontM (i := 2) Aa Aa
   have W := W.frontM (i := 2) Aa Aa
   have W := W.frontM (i := 2) Aa Aa
   exact ⟨_, _, _, _, H, F.re ⟨rfl, Aa, Aa, trivial⟩, W⟩
  have H := AO (A0 hb) H
  rw [hb] at F
  clear hb
  refine Ai (Ac ?_)
  refine ls F W Aa (A7 F Aa Aa).q fun a w F W => ?_
  refine ls F W Aa (Ad F Aa).q fun a w F W => ?_
  refine Ae (Ab ?_)
  refine Ax F Aa (fun hb => ?_) fun hb => ?_
  ·
   have H := AN (A1 hb) H
   rw [hb] at F
   clear hb
   refine Ac ?_
   refine ls F W Aa (Ah Cg Aa Aa Aa T4 F Aa 6 Aa).q fun a w F W => ?_
   refine AG (vs := [.bool true]) (M' := [(b3, [.int .i64 0, .int .i64 0, .bool false, .int .i64 0, .int .i64 0, .int .i64 0, .bool false, .bool false, .int .i64 0]), (b2, [.int .i64 p1.1, .int .i64 p1.2.1, .int .i64 p1.2.2.1, .int .i64 p1.2.2.2]), (b1, [.int .i64 p0.1, .int .i64 p0.2.1, .bool p0.2.2.1, .int .i64 p0.2.2.2.1, .int .i64 p0.2.2.2.2.1, .int .i64 p0.2.2.2.2.2.1, .bool true, .bool p0.2.2.2.2.2.2.2.1, .int .i64 p0.2.2.2.2.2.2.2.2])]) 2 F W Aa Aa Aa T4 Aa Aa Aa Aa Aa fun w W => ?_
   refine Ae (AQ (Ab ?_))
   have W := W.frontM (i := 2) Aa Aa
   have W := W.frontM (i := 2) Aa Aa
   have W := W.frontM (i := 2) Aa Aa
   exact ⟨_, _, _, _, H, F.re ⟨rfl, Aa, Aa, trivial⟩, W⟩
  have H := AO (A0 hb) H
  rw [hb] at F
  clear hb
  refine Ai (Ac ?_)
  refine ls F W Aa (A7 F Aa Aa).q fun a w F W => ?_
  refine ls F W Aa (Ad F Aa).q fun a w F W => ?_
  refine Ae (Ab ?_)
  refine Ax F Aa (fun hb => ?_) fun hb => ?_
  ·
   have H := AN (A1 hb) H
   rw [hb] at F
   clear hb
   refine Ac ?_
   refine ls F W Aa (Ah Cg Aa Aa Aa T4 F Aa 7 Aa).q fun a w F W => ?_
   refine AG (vs := [.bool true]) (M' := [(b3, [.int .i64 0, .int .i64 0, .bool false, .int .i64 0, .int .i64 0, .int .i64 0, .bool false, .bool false, .int .i64 0]), (b2, [.int .i64 p1.1, .int .i64 p1.2.1, .int .i64 p1.2.2.1, .int .i64 p1.2.2.2]), (b1, [.int .i64 p0.1, .int .i64 p0.2.1, .bool p0.2.2.1, .int .i64 p0.2.2.2.1, .int .i64 p0.2.2.2.2.1, .int .i64 p0.2.2.2.2.2.1, .bool p0.2.2.2.2.2.2.1, .bool true, .int .i64 p0.2.2.2.2.2.2.2.2])]) 2 F W Aa Aa Aa T4 Aa Aa Aa Aa Aa fun w W => ?_
   refine Ae (AQ (Ab ?_))
   have W := W.frontM (i := 2) Aa Aa
   have W := W.frontM (i := 2) Aa Aa
   have W := W.frontM (i := 2) Aa Aa
   exact ⟨_, _, _, _, H, F.re ⟨rfl, Aa, Aa, trivial⟩, W⟩
  have H := AO (A0 hb) H
  rw [hb] at F
  clear hb
  refine Ai (Ac ?_)
  refine ls F W Aa (A7 F Aa Aa).q fun a w F W => ?_
  refine ls F W Aa (Ad F Aa).q fun a w F W => ?_
  refine Ae (Ab ?_)
  refine Ax F Aa (fun hb => ?_) fun hb => ?_
  ·
   have H := AN (A1 hb) H
   rw [hb] at F
   clear hb
   refine Ai (Ac ?_)
   refine ls F W Aa (Ah Cg Aa Aa Aa T3 F Aa 0 Aa).q fun a w F W => ?_
   refine ls F W Aa (Aq (v := Value.int .i64 p0.1) 2 F Aa Aa T3 Aa).q fun a w F W => ?_
   refine ls F W Aa (Ah Cg Aa Aa Aa T3 F Aa 3 Aa).q fun a w F W => ?_
   refine ls F W Aa (Aq (v := Value.int .i64 p0.2.2.2.1) 2 F Aa Aa T3 Aa).q fun a w F W => ?_
   refine ls F W Aa (Bx (v := Value.agg #[.int .i64 p0.1, .int .i64 p0.2.2.2.1, .bool false, .int .i64 0, .int .i64 0, .int .i64 0, .bool false, .bool false, .int .i64 0]) Js F Aa Aa Aa).q fun a w F W => ?_
   refine AG (vs := [.int .i64 p0.1, .int .i64 p0.2.2.2.1, .bool false, .int .i64 0, .int .i64 0, .int .i64 0, .bool false, .bool false, .int .i64 0]) (M' := [(b3, [.int .i64 p0.1, .int .i64 p0.2.2.2.1, .bool false, .int .i64 0, .int .i64 0, .int .i64 0, .bool false, .bool false, .int .i64 0]), (b2, [.int .i64 p1.1, .int .i64 p1.2.1, .int .i64 p1.2.2.1, .int .i64 p1.2.2.2]), (b1, [.int .i64 p0.1, .int .i64 p0.2.1, .bool p0.2.2.1, .int .i64 p0.2.2.2.1, .int .i64 p0.2.2.2.2.1, .int .i64 p0.2.2.2.2.2.1, .bool p0.2.2.2.2.2.2.1, .bool p0.2.2.2.2.2.2.2.1, .int .i64 p0.2.2.2.2.2.2.2.2])]) 0 F W Aa Aa Aa El Aa Aa Aa Aa Aa fun w W => ?_
   refine ls F W Aa (Ad F Aa).q fun a w F W => ?_
   refine Ae (Ab (Aw (AH (AA ?_))))
   have H := L1 _ H
   have H := AR H
   subst H
   refine Dj (.inl Aa) F W Aa (BZ 0 F Aa Aa El Aa) (As F Aa) ?_
   exact ⟨rfl, W.done⟩
  have H := AO (A0 hb) H
  rw [hb] at F
  clear hb
  refine Ai (Ac ?_)
  refine ls F W Aa (A7 F Aa Aa).q fun a w F W => ?_
  refine ls F W Aa (Ad F Aa).q fun a w F W => ?_
  refine Ae (Ab ?_)
  refine Ax F Aa (fun hb => ?_) fun hb => ?_
  ·
   have H := AN (A1 hb) H
   rw [hb] at F
   clear hb
   refine Ai (Ac ?_)
   refine ls F W Aa (Ah Cg Aa Aa Aa T3 F Aa 0 Aa).q fun a w F W => ?_
   refine ls F W Aa (Aq (v := Value.int .i64 p0.1) 2 F Aa Aa T3 Aa).q fun a w F W => ?_
   refine ls F W Aa (Ah Cg Aa Aa Aa T3 F Aa 1 Aa).q fun a w F W => ?_
   refine ls F W Aa (Aq (v := Value.int .i64 p0.2.1) 2 F Aa Aa T3 Aa).q fun a w F W => ?_
   refine ls F W Aa (Ah BQ Aa Aa Aa T3 F Aa 2 Aa).q fun a w F W => ?_
   refine ls F W Aa (Aq (v := Value.int .i64 p1.2.2.1) 1 F Aa Aa T3 Aa).q fun a w F W => ?_
   refine ls F W Aa (Bx (v := Value.agg #[.int .i64 p0.1, .int .i64 p0.2.1, .bool false, .int .i64 0, .int .i64 0, .int .i64 0, .bool false, .bool false, .int .i64 p1.2.2.1]) Js F Aa Aa Aa).q fun a w F W => ?_
   refine AG (vs := [.int .i64 p0.1, .int .i64 p0.2.1, .bool false, .int .i64 0, .int .i64 0, .int .i64 0, .bool false, .bool false, .int .i64 p1.2.2.1]) (M' := [(b3, [.int .i64 p0.1, .int .i64 p0.2.1, .bool false, .int .i64 0, .int .i64 0, .int .i64 0, .bool false, .bool false, .int .i64 p1.2.2.1]), (b2, [.int .i64 p1.1, .int .i64 p1.2.1, .int .i64 p1.2.2.1, .int .i64 p1.2.2.2]), (b1, [.int .i64 p0.1, .int .i64 p0.2.1, .bool p0.2.2.1, .int .i64 p0.2.2.2.1, .int .i64 p0.2.2.2.2.1, .int .i64 p0.2.2.2.2.2.1, .bool p0.2.2.2.2.2.2.1, .bool p0.2.2.2.2.2.2.2.1, .int .i64 p0.2.2.2.2.2.2.2.2])]) 0 F W Aa Aa Aa El Aa Aa Aa Aa Aa fun w W => ?_
   refine ls F W Aa (Ad F Aa).q fun a w F W => ?_
   refine Ae (Ab (Aw (AH (AA ?_))))
   have H := L1 _ H
   have H := AR H
   subst H
   refine Dj (.inl Aa) F W Aa (BZ 0 F Aa Aa El Aa) (As F Aa) ?_
   exact ⟨rfl, W.done⟩
  have H := AO (A0 hb) H
  rw [hb] at F
  clear hb
  refine Ai (Ac ?_)
  refine ls F W Aa (A7 F Aa Aa).q fun a w F W => ?_
  refine ls F W Aa (Ad F Aa).q fun a w F W => ?_
  refine Ae (Ab ?_)
  refine Ax F Aa (fun hb => ?_) fun hb => ?_
  ·
   have H := AN (A1 hb) H
   rw [hb] at F
   clear hb
   refine HM 7 W MO (by kernel_rfl) ?_
   refine qs F Aa (Ah Cg Aa Aa Aa T3 F Aa 8 Aa).q fun a F => ?_
   refine qs F Aa (Aq (v := Value.int .i64 p0.2.2.2.2.2.2.2.2) 2 F Aa Aa T3 Aa).q fun a F => ?_
   refine qs F Aa (Ah BQ Aa Aa Aa T3 F Aa 2 Aa).q fun a F => ?_
   refine qs F Aa (Aq (v := Value.int .i64 p1.2.2.1) 1 F Aa Aa T3 Aa).q fun a F => ?_
   obtain ⟨x6, h2, H⟩ := Ap H
   refine qs F Aa (IL (DS h2).2 (Jp F Aa Aa (DS h2).1)).q fun a F => ?_
   refine qs F Aa (Ie F Aa Aa).q fun a F => ?_
   refine qs F Aa (Ah Cg Aa Aa Aa T3 F Aa 8 Aa).q fun a F => ?_
   refine Cv fun w W => ?_
   refine AG (vs := [.int .i64 (Dy .i64 p0.2.2.2.2.2.2.2.2 x6)]) (M' := [(b3, [.int .i64 0, .int .i64 0, .bool false, .int .i64 0, .int .i64 0, .int .i64 0, .bool false, .bool false, .int .i64 0]), (b2, [.int .i64 p1.1, .int .i64 p1.2.1, .int .i64 p1.2.2.1, .int .i64 p1.2.2.2]), (b1, [.int .i64 p0.1, .int .i64 p0.2.1, .bool p0.2.2.1, .int .i64 p0.2.2.2.1, .int .i64 p0.2.2.2.2.1, .int .i64 p0.2.2.2.2.2.1, .bool p0.2.2.2.2.2.2.1, .bool p0.2.2.2.2.2.2.2.1, .int .i64 (Dy .i64 p0.2.2.2.2.2.2.2.2 x6)])]) 2 F W Aa Aa Aa T3 Aa Aa Aa Aa Aa fun w W => ?_
   refine Ae (AQ (Ab ?_))
   have W := W.frontM (i := 2) Aa Aa
   have W := W.frontM (i := 2) Aa Aa
   have W := W.frontM (i := 2) Aa Aa
   exact ⟨_, _, _, _, H, F.re ⟨rfl, Aa, Aa, trivial⟩, W⟩
  have H := AO (A0 hb) H
  rw [hb] at F
  clear hb
  refine AE (AQ (Ab ?_))
  have W := W.frontM (i := 2) Aa Aa
  have W := W.frontM (i := 2) Aa Aa
  have W := W.frontM (i := 2) Aa Aa
  exact ⟨_, _, _, _, H, F.re ⟨rfl, Aa, Aa, trivial⟩, W⟩
 rintro a w ⟨x2, x3, x4, x5, hj, F, W⟩
 have H := K1 _ hj
 clear hj G1 K1 L1
 refine Ai (Ac ?_)
 refine ls F W Aa (Aq (v := Value.agg #[.int .i64 p0.1, .int .i64 p0.2.1, .bool p0.2.2.1, .int .i64 p0.2.2.2.1, .int .i64 p0.2.2.2.2.1, .int .i64 x2, .bool x3, .bool x4, .int .i64 x5]) 2 F Aa Aa El Aa).q fun a w F W => ?_
 refine AG (vs := [.int .i64 p0.1, .int .i64 p0.2.1, .bool p0.2.2.1, .int .i64 p0.2.2.2.1, .int .i64 p0.2.2.2.2.1, .int .i64 x2, .bool x3, .bool x4, .int .i64 x5]) (M' := [(b3, [.int .i64 p0.1, .int .i64 p0.2.1, .bool p0.2.2.1, .int .i64 p0.2.2.2.1, .int .i64 p0.2.2.2.2.1, .int .i64 x2, .bool x3, .bool x4, .int .i64 x5]), (b2, [.int .i64 p1.1, .int .i64 p1.2.1, .int .i64 p1.2.2.1, .int .i64 p1.2.2.2]), (b1, [.int .i64 p0.1, .int .i64 p0.2.1, .bool p0.2.2.1, .int .i64 p0.2.2.2.1, .int .i64 p0.2.2.2.2.1, .int .i64 x2, .bool x3, .bool x4, .int .i64 x5])]) 0 F W Aa Aa Aa El Aa Aa Aa Aa Aa fun w W => ?_
 refine ls F W Aa (Ad F Aa).q fun a w F W => ?_
 refine Ae (Ab (Aw ?_))
 have H := AR H
 subst H
 refine Dj (.inl Aa) F W Aa (BZ 0 F Aa Aa El Aa) (As F Aa) ?_
 exact ⟨rfl, W.done⟩
theorem H8 : Has Tryd.prog 8 := ⟨fun args w => An Tryd.func8 rfl (by decide) args w⟩
noncomputable def BF (p0 : List (Int × Int × Int × Int)) : (Int × Int × Int × Bool × Int × Int × Int × Bool × Bool × Int) → Option ((Int × Int × Int × Bool × Int × Int × Int × Bool × Bool × Int) ⊕ ((Int × Int × Bool × Int × Int × Int × Bool × Bool × Int) ⊕ ((Int × Int × Bool × Int × Int × Int × Bool × Bool × Int) × Int × Int)))
  | (x10, x11, x12, x13, x14, x15, x16, x17, x18, x19) => (if x10 < (p0.length : Int) then (ix p0 x10).bind fun x20 => (Cd (x11, x12, x13, x14, x15, x16, x17, x18, x19) x20).bind fun x21 => (if x21.2 ≠ 0 then some (.inr (.inr ((x11, x12, x13, x14, x15, x16, x17, x18, x19), x10, x21.2))) else some (.inl (Bn (x10 + 1), x21.1.1, x21.1.2.1, x21.1.2.2.1, x21.1.2.2.2.1, x21.1.2.2.2.2.1, x21.1.2.2.2.2.2.1, x21.1.2.2.2.2.2.2.1, x21.1.2.2.2.2.2.2.2.1, x21.1.2.2.2.2.2.2.2.2))) else some (.inr (.inl (x11, x12, x13, x14, x15, x16, x17, x18, x19))))
noncomputable def BL (p0 : List (Int × Int × Int × Int)) : Option ((Int × Int × Bool × Int × Int × Int × Bool × Bool × Int) × Int × Int) := Gz (AP (BF p0) (0, 0, 0, false, 0, 0, 0, false, false, 0)) fun (x1, x2, x3, x4, x5, x6, x7, x8, x9) => some ((x1, x2, x3, x4, x5, x6, x7, x8, x9), (p0.length : Int), 0)
theorem Ec (Y : Nat → Prop) (w0 : World) (v1 : Value) (p0 : List (Int × Int × Int × Int)) (r : (Int × Int × Bool × Int × Int × Int × Bool × Bool × Int) × Int × Int) (H : BL p0 = some r) (h_v1 : Sl w0 (NX []) B2 v1 p0) :
    Calls Tryd.prog 11 #[v1] w0 fun e w' => e = .returned (.tuple #[.agg #[.int .i64 r.1.1, .int .i64 r.1.2.1, .bool r.1.2.2.1, .int .i64 r.1.2.2.2.1, .int .i64 r.1.2.2.2.2.1, .int .i64 r.1.2.2.2.2.2.1, .bool r.1.2.2.2.2.2.2.1, .bool r.1.2.2.2.2.2.2.2.1, .int .i64 r.1.2.2.2.2.2.2.2.2], .int .i64 r.2.1, .int .i64 r.2.2]) ∧ Below w0.heap.size w0 w' := by
 refine enter Tryd.func11 Aa Tryd.ntmps11 Aa fun a F => ?_
 have W := Stw.start Y w0
 unfold BL at H
 refine Ai (Ac ?_)
 refine Bp (cs := [.int .i64 0, .int .i64 0, .bool false, .int .i64 0, .int .i64 0, .int .i64 0, .bool false, .bool false, .int .i64 0]) F W Aa Jq Aa fun b1 a w F W => ?_
 iterate 2 refine ls F W Aa (Ad F Aa).q fun a w F W => ?_
 refine Ae (Ab (Ai (Ac ?_)))
 refine ls F W Aa (Bx (v := Value.agg #[.int .i64 0, .int .i64 0, .bool false, .int .i64 0, .int .i64 0, .int .i64 0, .bool false, .bool false, .int .i64 0]) Js F Aa Aa Aa).q fun a w F W => ?_
 refine Bp (cs := [.int .i64 0, .int .i64 0, .bool false, .int .i64 0, .int .i64 0, .int .i64 0, .bool false, .bool false, .int .i64 0]) F W Aa Jq Aa fun b2 a w F W => ?_
 refine AG (vs := [.int .i64 0, .int .i64 0, .bool false, .int .i64 0, .int .i64 0, .int .i64 0, .bool false, .bool false, .int .i64 0]) (M' := [(b2, [.int .i64 0, .int .i64 0, .bool false, .int .i64 0, .int .i64 0, .int .i64 0, .bool false, .bool false, .int .i64 0]), (b1, [.int .i64 0, .int .i64 0, .bool false, .int .i64 0, .int .i64 0, .int .i64 0, .bool false, .bool false, .int .i64 0])]) 0 F W Aa Aa Aa El Aa Aa Aa Aa Aa fun w W => ?_
 refine Ae (Ab ?_)
 obtain ⟨o1, G1, K1, L1⟩ := IQ H
 refine AL (fun a w => ∃ x1 : Int, ∃ x2 : Int, ∃ x3 : Bool, ∃ x4 : Int, ∃ x5 : Int, ∃ x6 : Int, ∃ x7 : Bool, ∃ x8 : Bool, ∃ x9 : Int, some (Sum.inl (x1, x2, x3, x4, x5, x6, x7, x8, x9)) = some o1 ∧ Fr 34 [] [(0, v1), (2, .pointer (some ⟨b1, 0, none⟩)), (3, .int .i64 0), (4, .int .i64 0), (5, .pointer (some ⟨b2, 0, none⟩))] a ∧ Stw ⟨Y, [], w0⟩ [(b2, [.int .i64 x1, .int .i64 x2, .bool x3, .int .i64 x4, .int .i64 x5, .int .i64 x6, .bool x7, .bool x8, .int .i64 x9]), (b1, [.int .i64 0, .int .i64 0, .bool false, .int .i64 0, .int .i64 0, .int .i64 0, .bool false, .bool false, .int .i64 0])] [] w) ?_ ?_
 ·
  have H := G1
  clear G1 K1
  refine Ai (Ac ?_)
  refine ls F W Aa (Af F Aa).q fun a w F W => ?_
  refine ls F W Aa (CB (r := B2) (l := p0) FF Aa F Aa (AU h_v1)).q fun a w F W => ?_
  refine ls F W Aa (Af F Aa).q fun a w F W => ?_
  refine Ae (Ab (AC ?_))
  have W := W.frontM (i := 1) Aa Aa
  have W := W.frontM (i := 1) Aa Aa
  refine Bz H (fun s a w => Fr 34 [] [(0, v1), (2, .pointer (some ⟨b1, 0, none⟩)), (3, .int .i64 0), (4, .int .i64 0), (5, .pointer (some ⟨b2, 0, none⟩)), (11, v1), (12, .int .i64 (p0.length : Int)), (13, .int .i64 s.1)] a ∧ Stw ⟨Y, [], w0⟩ [(b2, [.int .i64 s.2.1, .int .i64 s.2.2.1, .bool s.2.2.2.1, .int .i64 s.2.2.2.2.1, .int .i64 s.2.2.2.2.2.1, .int .i64 s.2.2.2.2.2.2.1, .bool s.2.2.2.2.2.2.2.1, .bool s.2.2.2.2.2.2.2.2.1, .int .i64 s.2.2.2.2.2.2.2.2.2]), (b1, [.int .i64 0, .int .i64 0, .bool false, .int .i64 0, .int .i64 0, .int .i64 0, .bool false, .bool false, .int .i64 0])] [] w) ⟨F.re ⟨rfl, Aa, Aa, Aa, Aa, Aa, Aa, Aa, trivial⟩, W⟩ fun s o a w H L2 hR => ?_
  obtain ⟨x10, x11, x12, x13, x14, x15, x16, x17, x18, x19⟩ := s
  obtain ⟨F, W⟩ := hR
  have F : Fr 34 [] [(0, v1), (2, .pointer (some ⟨b1, 0, none⟩)), (3, .int .i64 0), (4, .int .i64 0), (5, .pointer (some ⟨b2, 0, none⟩)), (11, v1), (12, .int .i64 (p0.length : Int)), (13, .int .i64 x10)] a := F
  have W : Stw ⟨Y, [], w0⟩ [(b2, [.int .i64 x11, .int .i64 x12, .bool x13, .int .i64 x14, .int .i64 x15, .int .i64 x16, .bool x17, .bool x18, .int .i64 x19]), (b1, [.int .i64 0, .int .i64 0, .bool false, .int .i64 0, .int .i64 0, .int .i64 0, .bool false, .bool false, .int .i64 0])] [] w := W
  rw [BF] at H
  refine Ai (Ac ?_)
  refine ls F W Aa (BR F Aa Aa).q fun a w F W => ?_
  refine Ae (Ab (Ai ?_))
  refine Ax F Aa (fun hb => ?_) fun hb => ?_
  ·
   have H := AN (A1 hb) H
   rw [hb] at F
   clear hb
   refine AE (Ab (Ai (AC (Ai (Ac ?_)))))
   refine ls F W Aa (Af F Aa).q fun a w F W => ?_
   obtain ⟨x20, h1, H⟩ := Ap H
   refine ls F W Aa (BH (r := B2) H2 F Aa Aa (AU h_v1) h1).q fun a w F W => ?_
   refine ls F W Aa (A9 (y := Value.agg #[.int .i64 x20.1, .int .i64 x20.2.1, .int .i64 x20.2.2.1, .int .i64 x20.2.2.2]) (j := 0) (i := x10) F Aa Aa (AU h_v1) h1 IP.to EE Aa).q fun a w F W => ?_
   refine Bp (cs := [.int .i64 0, .int .i64 0, .int .i64 0, .int .i64 0]) F W Aa IG Aa fun b3 a w F W => ?_
   refine ls F W Aa (Ad F Aa).q fun a w F W => ?_
   refine AG (vs := [.int .i64 x20.1, .int .i64 x20.2.1, .int .i64 x20.2.2.1, .int .i64 x20.2.2.2]) (M' := [(b3, [.int .i64 x20.1, .int .i64 x20.2.1, .int .i64 x20.2.2.1, .int .i64 x20.2.2.2]), (b2, [.int .i64 x11, .int .i64 x12, .bool x13, .int .i64 x14, .int .i64 x15, .int .i64 x16, .bool x17, .bool x18, .int .i64 x19]), (b1, [.int .i64 0, .int .i64 0, .bool false, .int .i64 0, .int .i64 0, .int .i64 0, .bool false, .bool false, .int .i64 0])]) 0 F W Aa Aa Aa EE Aa Aa Aa Aa Aa fun w W => ?_
   refine Ae (Ab (Ai (Ac ?_)))
   refine ls F W Aa (Aq (v := Value.agg #[.int .i64 x11, .int .i64 x12, .bool x13, .int .i64 x14, .int .i64 x15, .int .i64 x16, .bool x17, .bool x18, .int .i64 x19]) 1 F Aa Aa El Aa).q fun a w F W => ?_
   refine ls F W Aa (Aq (v := Value.agg #[.int .i64 x20.1, .int .i64 x20.2.1, .int .i64 x20.2.2.1, .int .i64 x20.2.2.2]) 0 F Aa Aa EE Aa).q fun a w F W => ?_
   obtain ⟨x21, h2, H⟩ := Ap H
   refine ls F W Aa (AK (v := Value.tuple #[.agg #[.int .i64 x21.1.1, .int .i64 x21.1.2.1, .bool x21.1.2.2.1, .int .i64 x21.1.2.2.2.1, .int .i64 x21.1.2.2.2.2.1, .int .i64 x21.1.2.2.2.2.2.1, .bool x21.1.2.2.2.2.2.2.1, .bool x21.1.2.2.2.2.2.2.2.1, .int .i64 x21.1.2.2.2.2.2.2.2.2], .int .i64 x21.2]) F H8 Aa (fun w W => E8 any w (x11, x12, x13, x14, x15, x16, x17, x18, x19) x20 _ h2)) fun a w F W => ?_
   refine ls F W Aa (Af F Aa).q fun a w F W => ?_
   refine ls F W Aa (Ay (v := Value.agg #[.int .i64 x21.1.1, .int .i64 x21.1.2.1, .bool x21.1.2.2.1, .int .i64 x21.1.2.2.2.1, .int .i64 x21.1.2.2.2.2.1, .int .i64 x21.1.2.2.2.2.2.1, .bool x21.1.2.2.2.2.2.2.1, .bool x21.1.2.2.2.2.2.2.2.1, .int .i64 x21.1.2.2.2.2.2.2.2.2]) F Aa Aa).q fun a w F W => ?_
   refine ls F W Aa (Ay (v := Value.int .i64 x21.2) F Aa Aa).q fun a w F W => ?_
   refine Bp (cs := [.int .i64 0, .int .i64 0, .bool false, .int .i64 0, .int .i64 0, .int .i64 0, .bool false, .bool false, .int .i64 0]) F W Aa Jq Aa fun b4 a w F W => ?_
   refine AG (vs := [.int .i64 x21.1.1, .int .i64 x21.1.2.1, .bool x21.1.2.2.1, .int .i64 x21.1.2.2.2.1, .int .i64 x21.1.2.2.2.2.1, .int .i64 x21.1.2.2.2.2.2.1, .bool x21.1.2.2.2.2.2.2.1, .bool x21.1.2.2.2.2.2.2.2.1, .int .i64 x21.1.2.2.2.2.2.2.2.2]) (M' := [(b4, [.int .i64 x21.1.1, .int .i64 x21.1.2.1, .bool x21.1.2.2.1, .int .i64 x21.1.2.2.2.1, .int .i64 x21.1.2.2.2.2.1, .int .i64 x21.1.2.2.2.2.2.1, .bool x21.1.2.2.2.2.2.2.1, .bool x21.1.2.2.2.2.2.2.2.1, .int .i64 x21.1.2.2.2.2.2.2.2.2]), (b3, [.int .i64 x20.1, .int .i64 x20.2.1, .int .i64 x20.2.2.1, .int .i64 x20.2.2.2]), (b2, [.int .i64 x11, .int .i64 x12, .bool x13, .int .i64 x14, .int .i64 x15, .int .i64 x16, .bool x17, .bool x18, .int .i64 x19]), (b1, [.int .i64 0, .int .i64 0, .bool false, .int .i64 0, .int .i64 0, .int .i64 0, .bool false, .bool false, .int .i64 0])]) 0 F W Aa Aa Aa El Aa Aa Aa Aa Aa fun w W => ?_
   refine ls F W Aa (Ad F Aa).q fun a w F W => ?_
   refine Ae (Ab (Ai (Ai (Ac ?_))))
   refine ls F W Aa (Af F Aa).q fun a w F W => ?_
   refine ls F W Aa (DE F Aa Aa).q fun a w F W => ?_
   refine Ae (Ab ?_)
   refine Ax F Aa (fun hb => ?_) fun hb => ?_
   ·
    have H := AN (A1 hb) H
    rw [hb] at F
    clear hb
    refine Ai (Ac ?_)
    refine ls F W Aa (Aq (v := Value.agg #[.int .i64 x11, .int .i64 x12, .bool x13, .int .i64 x14, .int .i64 x15, .int .i64 x16, .bool x17, .bool x18, .int .i64 x19]) 2 F Aa Aa El Aa).q fun a w F W => ?_
    iterate 2 refine ls F W Aa (Af F Aa).q fun a w F W => ?_
    refine AG (vs := [.int .i64 x11, .int .i64 x12, .bool x13, .int .i64 x14, .int .i64 x15, .int .i64 x16, .bool x17, .bool x18, .int .i64 x19]) (M' := [(b4, [.int .i64 x21.1.1, .int .i64 x21.1.2.1, .bool x21.1.2.2.1, .int .i64 x21.1.2.2.2.1, .int .i64 x21.1.2.2.2.2.1, .int .i64 x21.1.2.2.2.2.2.1, .bool x21.1.2.2.2.2.2.2.1, .bool x21.1.2.2.2.2.2.2.2.1, .int .i64 x21.1.2.2.2.2.2.2.2.2]), (b3, [.int .i64 x20.1, .int .i64 x20.2.1, .int .i64 x20.2.2.1, .int .i64 x20.2.2.2]), (b2, [.int .i64 x11, .int .i64 x12, .bool x13, .int .i64 x14, .int .i64 x15, .int .i64 x16, .bool x17, .bool x18, .int .i64 x19]), (b1, [.int .i64 x11, .int .i64 x12, .bool x13, .int .i64 x14, .int .i64 x15, .int .i64 x16, .bool x17, .bool x18, .int .i64 x19])]) 3 F W Aa Aa Aa El Aa Aa Aa Aa Aa fun w W => ?_
    iterate 2 refine ls F W Aa (Ad F Aa).q fun a w F W => ?_
    refine Ae (Ab (Aw (AA (AH ?_))))
    iterate 2 refine AA ?_
    refine AH (AA ?_)
    have H := L2 _ H
    have H := L1 _ H
    have H := AR H
    subst H
    refine E7 (.inl Aa) F W Aa (BZ 3 F Aa Aa El Aa) (As F Aa) (As F Aa) ?_
    exact ⟨rfl, W.done⟩
   have H := AO (A0 hb) H
   rw [hb] at F
   clear hb
   refine AE (Ab (Ac ?_))
   refine ls F W Aa (Aq (v := Value.agg #[.int .i64 x21.1.1, .int .i64 x21.1.2.1, .bool x21.1.2.2.1, .int .i64 x21.1.2.2.2.1, .int .i64 x21.1.2.2.2.2.1, .int .i64 x21.1.2.2.2.2.2.1, .bool x21.1.2.2.2.2.2.2.1, .bool x21.1.2.2.2.2.2.2.2.1, .int .i64 x21.1.2.2.2.2.2.2.2.2]) 0 F Aa Aa El Aa).q fun a w F W => ?_
   refine AG (vs := [.int .i64 x21.1.1, .int .i64 x21.1.2.1, .bool x21.1.2.2.1, .int .i64 x21.1.2.2.2.1, .int .i64 x21.1.2.2.2.2.1, .int .i64 x21.1.2.2.2.2.2.1, .bool x21.1.2.2.2.2.2.2.1, .bool x21.1.2.2.2.2.2.2.2.1, .int .i64 x21.1.2.2.2.2.2.2.2.2]) (M' := [(b4, [.int .i64 x21.1.1, .int .i64 x21.1.2.1, .bool x21.1.2.2.1, .int .i64 x21.1.2.2.2.1, .int .i64 x21.1.2.2.2.2.1, .int .i64 x21.1.2.2.2.2.2.1, .bool x21.1.2.2.2.2.2.2.1, .bool x21.1.2.2.2.2.2.2.2.1, .int .i64 x21.1.2.2.2.2.2.2.2.2]), (b3, [.int .i64 x20.1, .int .i64 x20.2.1, .int .i64 x20.2.2.1, .int .i64 x20.2.2.2]), (b2, [.int .i64 x21.1.1, .int .i64 x21.1.2.1, .bool x21.1.2.2.1, .int .i64 x21.1.2.2.2.1, .int .i64 x21.1.2.2.2.2.1, .int .i64 x21.1.2.2.2.2.2.1, .bool x21.1.2.2.2.2.2.2.1, .bool x21.1.2.2.2.2.2.2.2.1, .int .i64 x21.1.2.2.2.2.2.2.2.2]), (b1, [.int .i64 0, .int .i64 0, .bool false, .int .i64 0, .int .i64 0, .int .i64 0, .bool false, .bool false, .int .i64 0])]) 2 F W Aa Aa Aa El Aa Aa Aa Aa Aa fun w W => ?_
   refine Ae (AQ (Ab (Ac ?_)))
   refine ls F W Aa (Bo F Aa Aa Aa).q fun a w F W => ?_
   refine ls F W Aa (Af F Aa).q fun a w F W => ?_
   refine Ae (Ab ?_)
   have W := W.frontM (i := 3) Aa Aa
   have W := W.frontM (i := 3) Aa Aa
   have W := W.sub (M' := [(b2, [.int .i64 x21.1.1, .int .i64 x21.1.2.1, .bool x21.1.2.2.1, .int .i64 x21.1.2.2.2.1, .int .i64 x21.1.2.2.2.2.1, .int .i64 x21.1.2.2.2.2.2.1, .bool x21.1.2.2.2.2.2.2.1, .bool x21.1.2.2.2.2.2.2.2.1, .int .i64 x21.1.2.2.2.2.2.2.2.2]), (b1, [.int .i64 0, .int .i64 0, .bool false, .int .i64 0, .int .i64 0, .int .i64 0, .bool false, .bool false, .int .i64 0])]) (Z' := []) (List.Sublist.cons_cons _ (List.Sublist.cons_cons _ (List.nil_sublist _))) (List.Sublist.refl _)
   exact ⟨_, H, F.re ⟨rfl, Aa, Aa, Aa, Aa, Aa, Aa, Aa, trivial⟩, W⟩
  have H := AO (A0 hb) H
  rw [hb] at F
  clear hb
  refine BA ?_
  iterate 2 refine B0 ?_
  refine BB (Ab ?_)
  have W := W.frontM (i := 1) Aa Aa
  have W := W.frontM (i := 1) Aa Aa
  have H := L2 _ H
  exact ⟨_, _, _, _, _, _, _, _, _, H, F.re ⟨rfl, Aa, Aa, Aa, Aa, trivial⟩, W⟩
 rintro a w ⟨x1, x2, x3, x4, x5, x6, x7, x8, x9, hj, F, W⟩
 have H := K1 _ hj
 clear hj G1 K1 L1
 refine Ai (Ac ?_)
 refine ls F W Aa (Aq (v := Value.agg #[.int .i64 x1, .int .i64 x2, .bool x3, .int .i64 x4, .int .i64 x5, .int .i64 x6, .bool x7, .bool x8, .int .i64 x9]) 0 F Aa Aa El Aa).q fun a w F W => ?_
 refine ls F W Aa (Af F Aa).q fun a w F W => ?_
 refine ls F W Aa (CB (r := B2) (l := p0) FF Aa F Aa (AU h_v1)).q fun a w F W => ?_
 refine AG (vs := [.int .i64 x1, .int .i64 x2, .bool x3, .int .i64 x4, .int .i64 x5, .int .i64 x6, .bool x7, .bool x8, .int .i64 x9]) (M' := [(b2, [.int .i64 x1, .int .i64 x2, .bool x3, .int .i64 x4, .int .i64 x5, .int .i64 x6, .bool x7, .bool x8, .int .i64 x9]), (b1, [.int .i64 x1, .int .i64 x2, .bool x3, .int .i64 x4, .int .i64 x5, .int .i64 x6, .bool x7, .bool x8, .int .i64 x9])]) 1 F W Aa Aa Aa El Aa Aa Aa Aa Aa fun w W => ?_
 iterate 2 refine ls F W Aa (Ad F Aa).q fun a w F W => ?_
 refine Ae (Ab (Aw ?_))
 have H := AR H
 subst H
 refine E7 (.inl Aa) F W Aa (BZ 1 F Aa Aa El Aa) (As F Aa) (As F Aa) ?_
 exact ⟨rfl, W.done⟩
theorem HJ : type_of% Tryd.underlying3 := Tryd.underlying3
theorem JT : type_of% Tryd.underlying58 := Tryd.underlying58
theorem Kq : Has Tryd.prog 11 := ⟨fun args w => An Tryd.func11 rfl (by decide) args w⟩
theorem JI (dd : Nat) (x0 : Int) (x1 : Int) (x2 : Bool) (x3 : Int) (x4 : Int) (x5 : Int) (x6 : Bool) (x7 : Bool) (x8 : Int) (y0 : Int) (y1 : Int) (y2 : Bool) (y3 : Int) (y4 : Int) (y5 : Int) (y6 : Bool) (y7 : Bool) (y8 : Int) (w : World) : (Op.equalIn (dd + 2) 28 (.agg #[.int .i64 x0, .int .i64 x1, .bool x2, .int .i64 x3, .int .i64 x4, .int .i64 x5, .bool x6, .bool x7, .int .i64 x8]) (.agg #[.int .i64 y0, .int .i64 y1, .bool y2, .int .i64 y3, .int .i64 y4, .int .i64 y5, .bool y6, .bool y7, .int .i64 y8])).run Tryd.prog w = .ok (decide (x0 = y0 ∧ x1 = y1 ∧ x2 = y2 ∧ x3 = y3 ∧ x4 = y4 ∧ x5 = y5 ∧ x6 = y6 ∧ x7 = y7 ∧ x8 = y8)) w :=
  Fv (d := dd + 1) (rs := [decide (x0 = y0), decide (x1 = y1), decide (x2 = y2), decide (x3 = y3), decide (x4 = y4), decide (x5 = y5), decide (x6 = y6), decide (x7 = y7), decide (x8 = y8)]) Cg (by kernel_rfl) ⟨rfl, Cm (d := dd + 0) rfl rfl HJ T3 rfl rfl, rfl, Cm (d := dd + 0) rfl rfl HJ T3 rfl rfl, rfl, E1 (d := dd + 0) rfl rfl JD T4 rfl rfl, rfl, Cm (d := dd + 0) rfl rfl HJ T3 rfl rfl, rfl, Cm (d := dd + 0) rfl rfl HJ T3 rfl rfl, rfl, Cm (d := dd + 0) rfl rfl HJ T3 rfl rfl, rfl, E1 (d := dd + 0) rfl rfl JD T4 rfl rfl, rfl, E1 (d := dd + 0) rfl rfl JD T4 rfl rfl, rfl, Cm (d := dd + 0) rfl rfl HJ T3 rfl rfl, trivial⟩ (by simp) w
theorem J9 : Tryd.prog.eqGuardType Tryd.prog.depth 28 = false := by kernel_rfl
theorem Kp (x0 : Int) (x1 : Int) (x2 : Bool) (x3 : Int) (x4 : Int) (x5 : Int) (x6 : Bool) (x7 : Bool) (x8 : Int) (y0 : Int) (y1 : Int) (y2 : Bool) (y3 : Int) (y4 : Int) (y5 : Int) (y6 : Bool) (y7 : Bool) (y8 : Int) (w : World) : (Op.equalIn 10000 28 (.agg #[.int .i64 x0, .int .i64 x1, .bool x2, .int .i64 x3, .int .i64 x4, .int .i64 x5, .bool x6, .bool x7, .int .i64 x8]) (.agg #[.int .i64 y0, .int .i64 y1, .bool y2, .int .i64 y3, .int .i64 y4, .int .i64 y5, .bool y6, .bool y7, .int .i64 y8])).run Tryd.prog w = .ok (decide (x0 = y0 ∧ x1 = y1 ∧ x2 = y2 ∧ x3 = y3 ∧ x4 = y4 ∧ x5 = y5 ∧ x6 = y6 ∧ x7 = y7 ∧ x8 = y8)) w := JI 9998 x0 x1 x2 x3 x4 x5 x6 x7 x8 y0 y1 y2 y3 y4 y5 y6 y7 y8 w
theorem Kf : (Tryd.prog.info? 58).bind (·.zero) = some (.agg #[.bool false, .bool false, .bool false, .bool false, .bool false, .bool false, .bool false, .bool false]) := by kernel_rfl
theorem Iq : Ar Tryd.prog 58 8 4 1 := ⟨JT, by kernel_rfl⟩
noncomputable def BV (p0 : List (Int × Int × Int × Int)) (p1 : Int) : (Int × Bool × Bool × Bool × Bool × Bool × Bool × Bool × Bool) → Option ((Int × Bool × Bool × Bool × Bool × Bool × Bool × Bool × Bool) ⊕ (Bool × Bool × Bool × Bool × Bool × Bool × Bool × Bool))
  | (x9, x10, x11, x12, x13, x14, x15, x16, x17) => (if x9 < (p0.length : Int) then ((ix p0 x9).bind fun x26 => (if (decide (x26.2.1 = p1) && (decide (1 ≤ x26.1) && decide (x26.1 ≤ 7))) = true then (ix ([x10, x11, x12, x13, x14, x15, x16, x17] : List Bool) x26.1).bind fun x27 => some ((if x26.1 = 0 then true else x10), (if x26.1 = 1 then true else x11), (if x26.1 = 2 then true else x12), (if x26.1 = 3 then true else x13), (if x26.1 = 4 then true else x14), (if x26.1 = 5 then true else x15), (if x26.1 = 6 then true else x16), (if x26.1 = 7 then true else x17)) else some (x10, x11, x12, x13, x14, x15, x16, x17))).bind fun (x18, x19, x20, x21, x22, x23, x24, x25) => some (.inl (Bn (x9 + 1), x18, x19, x20, x21, x22, x23, x24, x25)) else some (.inr (x10, x11, x12, x13, x14, x15, x16, x17)))
noncomputable def B8 (p0 : List (Int × Int × Int × Int)) (p1 : Int) : Option Int := (AP (BV p0 p1) (0, false, false, false, false, false, false, false, false)).bind fun (x1, x2, x3, x4, x5, x6, x7, x8) => (if (!x2) = true then some 0 else (if x6 = true then some 2 else (if x7 = true then some 3 else some 1)))
theorem EP (Y : Nat → Prop) (w0 : World) (v1 : Value) (p0 : List (Int × Int × Int × Int)) (p1 : Int) (r : Int) (H : B8 p0 p1 = some r) (h_v1 : Sl w0 (NX []) B2 v1 p0) :
    Calls Tryd.prog 13 #[v1, .int .i64 p1] w0 fun e w' => e = .returned (.int .i64 r) ∧ Below w0.heap.size w0 w' := by
 refine enter Tryd.func13 Aa Tryd.ntmps13 Aa fun a F => ?_
 have W := Stw.start Y w0
 unfold B8 at H
 refine Ai (Ac ?_)
 refine ls F W Aa (Ad F Aa).q fun a w F W => ?_
 refine Ae (Ab (Ai (Ac ?_)))
 refine Bp (cs := [.bool false, .bool false, .bool false, .bool false, .bool false, .bool false, .bool false, .bool false]) F W Aa Kf Aa fun b1 a w F W => ?_
 refine Ae (Ab ?_)
 obtain ⟨o1, G1, K1⟩ := Ap H
 refine AL (fun a w => ∃ x1 : Bool, ∃ x2 : Bool, ∃ x3 : Bool, ∃ x4 : Bool, ∃ x5 : Bool, ∃ x6 : Bool, ∃ x7 : Bool, ∃ x8 : Bool, some ((x1, x2, x3, x4, x5, x6, x7, x8)) = some o1 ∧ Fr 42 [] [(4, .int .i64 0), (5, .pointer (some ⟨b1, 0, none⟩))] a ∧ Stw ⟨Y, [], w0⟩ [(b1, [.bool x1, .bool x2, .bool x3, .bool x4, .bool x5, .bool x6, .bool x7, .bool x8])] [] w) ?_ ?_
 ·
  have H := G1
  clear G1 K1
  refine Ai (Ac ?_)
  refine ls F W Aa (Af F Aa).q fun a w F W => ?_
  refine ls F W Aa (CB (r := B2) (l := p0) FF Aa F Aa (AU h_v1)).q fun a w F W => ?_
  refine ls F W Aa (Af F Aa).q fun a w F W => ?_
  refine Ae (Ab (AC ?_))
  refine Bz H (fun s a w => Fr 42 [] [(1, .int .i64 p1), (4, .int .i64 0), (5, .pointer (some ⟨b1, 0, none⟩)), (8, v1), (9, .int .i64 (p0.length : Int)), (10, .int .i64 s.1)] a ∧ Stw ⟨Y, [], w0⟩ [(b1, [.bool s.2.1, .bool s.2.2.1, .bool s.2.2.2.1, .bool s.2.2.2.2.1, .bool s.2.2.2.2.2.1, .bool s.2.2.2.2.2.2.1, .bool s.2.2.2.2.2.2.2.1, .bool s.2.2.2.2.2.2.2.2])] [] w) ⟨F.re ⟨rfl, Aa, Aa, Aa, Aa, Aa, trivial⟩, W⟩ fun s o a w H L2 hR => ?_
  obtain ⟨x9, x10, x11, x12, x13, x14, x15, x16, x17⟩ := s
  obtain ⟨F, W⟩ := hR
  have F : Fr 42 [] [(1, .int .i64 p1), (4, .int .i64 0), (5, .pointer (some ⟨b1, 0, none⟩)), (8, v1), (9, .int .i64 (p0.length : Int)), (10, .int .i64 x9)] a := F
  have W : Stw ⟨Y, [], w0⟩ [(b1, [.bool x10, .bool x11, .bool x12, .bool x13, .bool x14, .bool x15, .bool x16, .bool x17])] [] w := W
  rw [BV] at H
  refine Ai (Ac ?_)
  refine ls F W Aa (BR F Aa Aa).q fun a w F W => ?_
  refine Ae (Ab (Ai ?_))
  refine Ax F Aa (fun hb => ?_) fun hb => ?_
  ·
   have H := AN (A1 hb) H
   rw [hb] at F
   clear hb
   refine AE (Ab ?_)
   obtain ⟨o3, G3, K3⟩ := Ap H
   refine AL (fun a w => ∃ x18 : Bool, ∃ x19 : Bool, ∃ x20 : Bool, ∃ x21 : Bool, ∃ x22 : Bool, ∃ x23 : Bool, ∃ x24 : Bool, ∃ x25 : Bool, some ((x18, x19, x20, x21, x22, x23, x24, x25)) = some o3 ∧ Fr 42 [] [(1, .int .i64 p1), (4, .int .i64 0), (5, .pointer (some ⟨b1, 0, none⟩)), (8, v1), (9, .int .i64 (p0.length : Int)), (10, .int .i64 x9)] a ∧ Stw ⟨Y, [], w0⟩ [(b1, [.bool x18, .bool x19, .bool x20, .bool x21, .bool x22, .bool x23, .bool x24, .bool x25])] [] w) ?_ ?_
   ·
    have H := G3
    clear G3 K3
    refine AC (Ai (Ac ?_))
    obtain ⟨x26, h1, H⟩ := Ap H
    refine ls F W Aa (BH (r := B2) H2 F Aa Aa (AU h_v1) h1).q fun a w F W => ?_
    refine ls F W Aa (A9 (y := Value.agg #[.int .i64 x26.1, .int .i64 x26.2.1, .int .i64 x26.2.2.1, .int .i64 x26.2.2.2]) (j := 0) (i := x9) F Aa Aa (AU h_v1) h1 IP.to EE Aa).q fun a w F W => ?_
    refine Bp (cs := [.int .i64 0, .int .i64 0, .int .i64 0, .int .i64 0]) F W Aa IG Aa fun b2 a w F W => ?_
    refine AG (vs := [.int .i64 x26.1, .int .i64 x26.2.1, .int .i64 x26.2.2.1, .int .i64 x26.2.2.2]) (M' := [(b2, [.int .i64 x26.1, .int .i64 x26.2.1, .int .i64 x26.2.2.1, .int .i64 x26.2.2.2]), (b1, [.bool x10, .bool x11, .bool x12, .bool x13, .bool x14, .bool x15, .bool x16, .bool x17])]) 0 F W Aa Aa Aa EE Aa Aa Aa Aa Aa fun w W => ?_
    refine Ae (Ab ?_)
    refine AL (fun a w => Fr 42 [] [(1, .int .i64 p1), (4, .int .i64 0), (5, .pointer (some ⟨b1, 0, none⟩)), (7, .pointer (some ⟨b2, 0, none⟩)), (8, v1), (9, .int .i64 (p0.length : Int)), (10, .int .i64 x9), (27, .bool (decide (x26.2.1 = p1) && (decide (1 ≤ x26.1) && decide (x26.1 ≤ 7))))] a ∧ Stw ⟨Y, [], w0⟩ [(b2, [.int .i64 x26.1, .int .i64 x26.2.1, .int .i64 x26.2.2.1, .int .i64 x26.2.2.2]), (b1, [.bool x10, .bool x11, .bool x12, .bool x13, .bool x14, .bool x15, .bool x16, .bool x17])] [] w) ?_ ?_
    ·
     refine Ac ?_
     refine ls F W Aa (Ah BQ Aa Aa Aa T3 F Aa 1 Aa).q fun a w F W => ?_
     refine ls F W Aa (Aq (v := Value.int .i64 x26.2.1) 0 F Aa Aa T3 Aa).q fun a w F W => ?_
     refine ls F W Aa (Af F Aa).q fun a w F W => ?_
     refine ls F W Aa (A7 F Aa Aa).q fun a w F W => ?_
     refine ls F W Aa (Af F Aa).q fun a w F W => ?_
     rcases Bool.eq_false_or_eq_true (decide (x26.2.1 = p1)) with hb0 | hb0
     ·
      rw [hb0] at F
      refine Av F W (Ag F Aa Aa Aa Aa) Aa (Ao Aa) (Ah BQ Aa Aa Aa T3 F Aa 0 Aa).q fun a w F W => ?_
      refine Av F W (Ag F Aa Aa Aa Aa) Aa (Ao Aa) (Aq (v := Value.int .i64 x26.1) 0 F Aa Aa T3 Aa).q fun a w F W => ?_
      refine Av F W (Ag F Aa Aa Aa Aa) Aa (Ao Aa) (HO F Aa Aa).q fun a w F W => ?_
      refine ls F W Aa (Am F Aa Aa Aa).q fun a w F W => ?_
      refine ls F W Aa (Af F Aa).q fun a w F W => ?_
      rcases Bool.eq_false_or_eq_true (decide (1 ≤ x26.1)) with hb1 | hb1
      ·
       rw [hb1] at F
       refine Av F W (Ag F Aa Aa Aa Aa) Aa (Ao Aa) (Ah BQ Aa Aa Aa T3 F Aa 0 Aa).q fun a w F W => ?_
       refine Av F W (Ag F Aa Aa Aa Aa) Aa (Ao Aa) (Aq (v := Value.int .i64 x26.1) 0 F Aa Aa T3 Aa).q fun a w F W => ?_
       refine Av F W (Ag F Aa Aa Aa Aa) Aa (Ao Aa) (Ep F Aa Aa).q fun a w F W => ?_
       refine ls F W Aa (Am F Aa Aa Aa).q fun a w F W => ?_
       refine Ae (Ab ?_)
       exact ⟨F.re ⟨rfl, Aa, Aa, Aa, Aa, Aa, Aa, (by show some (Value.bool (decide (x26.1 ≤ 7))) = some (Value.bool (decide (x26.2.1 = p1) && (decide (1 ≤ x26.1) && decide (x26.1 ≤ 7)))); try rw [hb0]; try rw [hb1]; all_goals simp only [Bool.not_true, Bool.not_false, Bool.true_and, Bool.false_and, Bool.true_or, Bool.false_or, Bool.and_true, Bool.or_false, cond_true, cond_false]), trivial⟩, W⟩
      rw [hb1] at F
      iterate 3 refine Bg F Aa Aa Aa Aa Aa Aa Aa fun a F => ?_
      refine ls F W Aa (Ak F Aa Aa Aa).q fun a w F W => ?_
      refine Ae (Ab ?_)
      exact ⟨F.re ⟨rfl, Aa, Aa, Aa, Aa, Aa, Aa, (by show some (Value.bool false) = some (Value.bool (decide (x26.2.1 = p1) && (decide (1 ≤ x26.1) && decide (x26.1 ≤ 7)))); try rw [hb0]; try rw [hb1]; all_goals simp only [Bool.not_true, Bool.not_false, Bool.true_and, Bool.false_and, Bool.true_or, Bool.false_or, Bool.and_true, Bool.or_false, cond_true, cond_false]), trivial⟩, W⟩
     rw [hb0] at F
     iterate 3 refine Bg F Aa Aa Aa Aa Aa Aa Aa fun a F => ?_
     refine ls F W Aa (Ak F Aa Aa Aa).q fun a w F W => ?_
     refine ls F W Aa (Af F Aa).q fun a w F W => ?_
     iterate 3 refine Bg F Aa Aa Aa Aa Aa Aa Aa fun a F => ?_
     refine ls F W Aa (Ak F Aa Aa Aa).q fun a w F W => ?_
     refine Ae (Ab ?_)
     exact ⟨F.re ⟨rfl, Aa, Aa, Aa, Aa, Aa, Aa, (by show some (Value.bool false) = some (Value.bool (decide (x26.2.1 = p1) && (decide (1 ≤ x26.1) && decide (x26.1 ≤ 7)))); try rw [hb0]; all_goals simp only [Bool.not_true, Bool.not_false, Bool.true_and, Bool.false_and, Bool.true_or, Bool.false_or, Bool.and_true, Bool.or_false, cond_true, cond_false]), trivial⟩, W⟩
    rintro a w ⟨F, W⟩
    refine Ax F Aa (fun hb => ?_) fun hb => ?_
    ·
     have H := AN hb H
     rw [hb] at F
     clear hb
     refine Ac ?_
     refine ls F W Aa (Ah BQ Aa Aa Aa T3 F Aa 0 Aa).q fun a w F W => ?_
     refine ls F W Aa (Aq (v := Value.int .i64 x26.1) 0 F Aa Aa T3 Aa).q fun a w F W => ?_
     obtain ⟨x27, h2, H⟩ := Ap H
     refine ls F W Aa (Co (0 + (x26.1).toNat * 1) Iq F Aa Aa Aa h2 Aa).q fun a w F W => ?_
     refine Ej (o := 0) (m := 8) (i := x26.1) (l := ([x10, x11, x12, x13, x14, x15, x16, x17] : List Bool)) (x := x27) (cs := [.bool x10, .bool x11, .bool x12, .bool x13, .bool x14, .bool x15, .bool x16, .bool x17]) (cs' := [.bool (if x26.1 = 0 then true else x10), .bool (if x26.1 = 1 then true else x11), .bool (if x26.1 = 2 then true else x12), .bool (if x26.1 = 3 then true else x13), .bool (if x26.1 = 4 then true else x14), .bool (if x26.1 = 5 then true else x15), .bool (if x26.1 = 6 then true else x16), .bool (if x26.1 = 7 then true else x17)]) 1 F W Aa Aa Aa T4 Aa Aa Aa Aa h2 (by intro k hk hn; rw [hk]; match k, hn with | 0, _ => rfl | 1, _ => rfl | 2, _ => rfl | 3, _ => rfl | 4, _ => rfl | 5, _ => rfl | 6, _ => rfl | 7, _ => rfl | (z + 8), h => exact absurd h (by omega)) fun w W => ?_
     have W : Stw ⟨Y, [], w0⟩ [(b2, [.int .i64 x26.1, .int .i64 x26.2.1, .int .i64 x26.2.2.1, .int .i64 x26.2.2.2]), (b1, [.bool (if x26.1 = 0 then true else x10), .bool (if x26.1 = 1 then true else x11), .bool (if x26.1 = 2 then true else x12), .bool (if x26.1 = 3 then true else x13), .bool (if x26.1 = 4 then true else x14), .bool (if x26.1 = 5 then true else x15), .bool (if x26.1 = 6 then true else x16), .bool (if x26.1 = 7 then true else x17)])] [] w := W
     refine Ae (AQ (Ab ?_))
     have W := W.frontM (i := 1) Aa Aa
     have W := W.sub (M' := [(b1, [.bool (if x26.1 = 0 then true else x10), .bool (if x26.1 = 1 then true else x11), .bool (if x26.1 = 2 then true else x12), .bool (if x26.1 = 3 then true else x13), .bool (if x26.1 = 4 then true else x14), .bool (if x26.1 = 5 then true else x15), .bool (if x26.1 = 6 then true else x16), .bool (if x26.1 = 7 then true else x17)])]) (Z' := []) (List.Sublist.cons_cons _ (List.nil_sublist _)) (List.Sublist.refl _)
     exact ⟨_, _, _, _, _, _, _, _, H, F.re ⟨rfl, Aa, Aa, Aa, Aa, Aa, trivial⟩, W⟩
    have H := AO (by rw [hb]; decide) H
    rw [hb] at F
    clear hb
    refine AE (AQ (Ab ?_))
    have W := W.frontM (i := 1) Aa Aa
    have W := W.sub (M' := [(b1, [.bool x10, .bool x11, .bool x12, .bool x13, .bool x14, .bool x15, .bool x16, .bool x17])]) (Z' := []) (List.Sublist.cons_cons _ (List.nil_sublist _)) (List.Sublist.refl _)
    exact ⟨_, _, _, _, _, _, _, _, H, F.re ⟨rfl, Aa, Aa, Aa, Aa, Aa, trivial⟩, W⟩
   rintro a w ⟨x18, x19, x20, x21, x22, x23, x24, x25, hj, F, W⟩
   have hj := AR hj
   subst hj
   have H := K3
   clear G3 K3
   refine Ac ?_
   refine ls F W Aa (Bo F Aa Aa Aa).q fun a w F W => ?_
   refine ls F W Aa (Af F Aa).q fun a w F W => ?_
   refine Ae (Ab ?_)
   exact ⟨_, H, F.re ⟨rfl, Aa, Aa, Aa, Aa, Aa, trivial⟩, W⟩
  have H := AO (A0 hb) H
  rw [hb] at F
  clear hb
  refine BA ?_
  iterate 2 refine B0 ?_
  refine BB (Ab ?_)
  have H := L2 _ H
  exact ⟨_, _, _, _, _, _, _, _, H, F.re ⟨rfl, Aa, trivial⟩, W⟩
 rintro a w ⟨x1, x2, x3, x4, x5, x6, x7, x8, hj, F, W⟩
 have hj := AR hj
 subst hj
 have H := K1
 clear G1 K1
 refine Ai (AC (Ai (Ac ?_)))
 refine ls F W Aa (Co (l := [(), (), (), (), (), (), (), ()]) (i := 1) 1 Iq F Aa Aa Aa Aa Aa).q fun a w F W => ?_
 refine ls F W Aa (Aq (v := Value.bool x2) 0 F Aa Aa T4 Aa).q fun a w F W => ?_
 refine ls F W Aa (Db F Aa).q fun a w F W => ?_
 refine ls F W Aa (Ad F Aa).q fun a w F W => ?_
 refine Ae (Ab ?_)
 refine Ax F Aa (fun hb => ?_) fun hb => ?_
 ·
  have H := AN hb H
  rw [hb] at F
  clear hb
  refine Ai (Ac ?_)
  refine ls F W Aa (Ad F Aa).q fun a w F W => ?_
  refine Ae (Ab (Aw (AH (AA ?_))))
  have H := AR H
  subst H
  refine AY (.inl Aa) F W Aa (As F Aa) ?_
  exact ⟨rfl, W.done⟩
 have H := AO (by rw [hb]; decide) H
 rw [hb] at F
 clear hb
 refine Ai (Ac ?_)
 refine ls F W Aa (Co (l := [(), (), (), (), (), (), (), ()]) (i := 5) 5 Iq F Aa Aa Aa Aa Aa).q fun a w F W => ?_
 refine ls F W Aa (Aq (v := Value.bool x6) 0 F Aa Aa T4 Aa).q fun a w F W => ?_
 refine ls F W Aa (Ad F Aa).q fun a w F W => ?_
 refine Ae (Ab ?_)
 refine Ax F Aa (fun hb => ?_) fun hb => ?_
 ·
  have H := AN hb H
  rw [hb] at F
  rw [hb] at W
  clear hb
  refine Ai (Ac ?_)
  refine ls F W Aa (Ad F Aa).q fun a w F W => ?_
  refine Ae (Ab (Aw (AH (AA ?_))))
  have H := AR H
  subst H
  refine AY (.inl Aa) F W Aa (As F Aa) ?_
  exact ⟨rfl, W.done⟩
 have H := AO (by rw [hb]; decide) H
 rw [hb] at F
 rw [hb] at W
 clear hb
 refine Ai (Ac ?_)
 refine ls F W Aa (Co (l := [(), (), (), (), (), (), (), ()]) (i := 6) 6 Iq F Aa Aa Aa Aa Aa).q fun a w F W => ?_
 refine ls F W Aa (Aq (v := Value.bool x7) 0 F Aa Aa T4 Aa).q fun a w F W => ?_
 refine ls F W Aa (Ad F Aa).q fun a w F W => ?_
 refine Ae (Ab ?_)
 refine Ax F Aa (fun hb => ?_) fun hb => ?_
 ·
  have H := AN hb H
  rw [hb] at F
  rw [hb] at W
  clear hb
  refine Ai (Ac ?_)
  refine ls F W Aa (Ad F Aa).q fun a w F W => ?_
  refine Ae (Ab (Aw (AH (AA ?_))))
  have H := AR H
  subst H
  refine AY (.inl Aa) F W Aa (As F Aa) ?_
  exact ⟨rfl, W.done⟩
 have H := AO (by rw [hb]; decide) H
 rw [hb] at F
 rw [hb] at W
 clear hb
 refine AE (AQ (Ab (Ai (Ac ?_))))
 refine ls F W Aa (Ad F Aa).q fun a w F W => ?_
 refine Ae (Ab (Aw ?_))
 have H := AR H
 subst H
 refine AY (.inl Aa) F W Aa (As F Aa) ?_
 exact ⟨rfl, W.done⟩
theorem J6 : Has Tryd.prog 13 := ⟨fun args w => An Tryd.func13 rfl (by decide) args w⟩
def Aj (p0 : Int) : List UInt8 := (if p0 = 1 then ([98, 101, 103, 105, 110] : List UInt8) else (if p0 = 2 then ([97, 114, 109] : List UInt8) else (if p0 = 3 then ([115, 117, 114, 101] : List UInt8) else (if p0 = 4 then ([99, 97, 110, 99, 101, 108] : List UInt8) else (if p0 = 5 then ([99, 111, 109, 109, 105, 116] : List UInt8) else (if p0 = 6 then ([99, 108, 111, 115, 101] : List UInt8) else (if p0 = 7 then ([114, 101, 108, 101, 97, 115, 101] : List UInt8) else ([63] : List UInt8))))))))
theorem Ds (Y : Nat → Prop) (w0 : World)  (p0 : Int) (r : List UInt8) (H : Aj p0 = r)  :
    Calls Tryd.prog 40 #[.int .i64 p0] w0 fun e w' => e = .returned (.string (bs r)) ∧ Below w0.heap.size w0 w' := by
 refine enter Tryd.func40 Aa Tryd.ntmps40 Aa fun a F => ?_
 have W := Stw.start Y w0
 unfold Aj at H
 refine Ai (Ac ?_)
 refine ls F W Aa (Ad (v := Value.string (bs ([] : List UInt8))) F Aa).q fun a w F W => ?_
 refine Ae (Ab (Ai (Ai (Ac ?_))))
 refine ls F W Aa (Af F Aa).q fun a w F W => ?_
 refine Ae (Ab (AC (Ai (Ac ?_))))
 refine ls F W Aa (A7 F Aa Aa).q fun a w F W => ?_
 refine ls F W Aa (Ad F Aa).q fun a w F W => ?_
 refine Ae (Ab ?_)
 refine Ax F Aa (fun hb => ?_) fun hb => ?_
 ·
  have H := AN (A1 hb) H
  rw [hb] at F
  clear hb
  refine Ai (Ac ?_)
  refine ls F W Aa (Ad (v := Value.string (bs ([98, 101, 103, 105, 110] : List UInt8))) F Aa).q fun a w F W => ?_
  refine Ae (Ab (Aw (AH (AA ?_))))
  subst H
  refine AY (.inl Aa) F W Aa (As F Aa) ?_
  exact ⟨rfl, W.done⟩
 have H := AO (A0 hb) H
 rw [hb] at F
 clear hb
 refine Ai (Ac ?_)
 refine ls F W Aa (A7 F Aa Aa).q fun a w F W => ?_
 refine ls F W Aa (Ad F Aa).q fun a w F W => ?_
 refine Ae (Ab ?_)
 refine Ax F Aa (fun hb => ?_) fun hb => ?_
 ·
  have H := AN (A1 hb) H
  rw [hb] at F
  clear hb
  refine Ai (Ac ?_)
  refine ls F W Aa (Ad (v := Value.string (bs ([97, 114, 109] : List UInt8))) F Aa).q fun a w F W => ?_
  refine Ae (Ab (Aw (AH (AA ?_))))
  subst H
  refine AY (.inl Aa) F W Aa (As F Aa) ?_
  exact ⟨rfl, W.done⟩
 have H := AO (A0 hb) H
 rw [hb] at F
 clear hb
 refine Ai (Ac ?_)
 refine ls F W Aa (A7 F Aa Aa).q fun a w F W => ?_
 refine ls F W Aa (Ad F Aa).q fun a w F W => ?_
 refine Ae (Ab ?_)
 refine Ax F Aa (fun hb => ?_) fun hb => ?_
 ·
  have H := AN (A1 hb) H
  rw [hb] at F
  clear hb
  refine Ai (Ac ?_)
  refine ls F W Aa (Ad (v := Value.string (bs ([115, 117, 114, 101] : List UInt8))) F Aa).q fun a w F W => ?_
  refine Ae (Ab (Aw (AH (AA ?_))))
  subst H
  refine AY (.inl Aa) F W Aa (As F Aa) ?_
  exact ⟨rfl, W.done⟩
 have H := AO (A0 hb) H
 rw [hb] at F
 clear hb
 refine Ai (Ac ?_)
 refine ls F W Aa (A7 F Aa Aa).q fun a w F W => ?_
 refine ls F W Aa (Ad F Aa).q fun a w F W => ?_
 refine Ae (Ab ?_)
 refine Ax F Aa (fun hb => ?_) fun hb => ?_
 ·
  have H := AN (A1 hb) H
  rw [hb] at F
  clear hb
  refine Ai (Ac ?_)
  refine ls F W Aa (Ad (v := Value.string (bs ([99, 97, 110, 99, 101, 108] : List UInt8))) F Aa).q fun a w F W => ?_
  refine Ae (Ab (Aw (AH (AA ?_))))
  subst H
  refine AY (.inl Aa) F W Aa (As F Aa) ?_
  exact ⟨rfl, W.done⟩
 have H := AO (A0 hb) H
 rw [hb] at F
 clear hb
 refine Ai (Ac ?_)
 refine ls F W Aa (A7 F Aa Aa).q fun a w F W => ?_
 refine ls F W Aa (Ad F Aa).q fun a w F W => ?_
 refine Ae (Ab ?_)
 refine Ax F Aa (fun hb => ?_) fun hb => ?_
 ·
  have H := AN (A1 hb) H
  rw [hb] at F
  clear hb
  refine Ai (Ac ?_)
  refine ls F W Aa (Ad (v := Value.string (bs ([99, 111, 109, 109, 105, 116] : List UInt8))) F Aa).q fun a w F W => ?_
  refine Ae (Ab (Aw (AH (AA ?_))))
  subst H
  refine AY (.inl Aa) F W Aa (As F Aa) ?_
  exact ⟨rfl, W.done⟩
 have H := AO (A0 hb) H
 rw [hb] at F
 clear hb
 refine Ai (Ac ?_)
 refine ls F W Aa (A7 F Aa Aa).q fun a w F W => ?_
 refine ls F W Aa (Ad F Aa).q fun a w F W => ?_
 refine Ae (Ab ?_)
 refine Ax F Aa (fun hb => ?_) fun hb => ?_
 ·
  have H := AN (A1 hb) H
  rw [hb] at F
  clear hb
  refine Ai (Ac ?_)
  refine ls F W Aa (Ad (v := Value.string (bs ([99, 108, 111, 115, 101] : List UInt8))) F Aa).q fun a w F W => ?_
  refine Ae (Ab (Aw (AH (AA ?_))))
  subst H
  refine AY (.inl Aa) F W Aa (As F Aa) ?_
  exact ⟨rfl, W.done⟩
 have H := AO (A0 hb) H
 rw [hb] at F
 clear hb
 refine Ai (Ac ?_)
 refine ls F W Aa (A7 F Aa Aa).q fun a w F W => ?_
 refine ls F W Aa (Ad F Aa).q fun a w F W => ?_
 refine Ae (Ab ?_)
 refine Ax F Aa (fun hb => ?_) fun hb => ?_
 ·
  have H := AN (A1 hb) H
  rw [hb] at F
  clear hb
  refine Ai (Ac ?_)
  refine ls F W Aa (Ad (v := Value.string (bs ([114, 101, 108, 101, 97, 115, 101] : List UInt8))) F Aa).q fun a w F W => ?_
  refine Ae (Ab (Aw (AH (AA ?_))))
  subst H
  refine AY (.inl Aa) F W Aa (As F Aa) ?_
  exact ⟨rfl, W.done⟩
 have H := AO (A0 hb) H
 rw [hb] at F
 clear hb
 refine AE (AQ (Ab (Ai (Ac ?_))))
 refine ls F W Aa (Ad (v := Value.string (bs ([63] : List UInt8))) F Aa).q fun a w F W => ?_
 refine Ae (Ab (Aw ?_))
 subst H
 refine AY (.inl Aa) F W Aa (As F Aa) ?_
 exact ⟨rfl, W.done⟩
theorem JY : Has Tryd.prog 40 := ⟨fun args w => An Tryd.func40 rfl (by decide) args w⟩
theorem JG : Has Tryd.prog 41 := ⟨fun args w => An Tryd.func41 rfl (by decide) args w⟩
noncomputable def Bd (p0 : Int × Int × Int × Int) : Option (List UInt8) := (CL (Aj p0.1) ([32] : List UInt8)).bind fun x1 => (D4 p0.2.1).bind fun x2 => (CL x1 x2).bind fun x3 => (CL x3 ([32] : List UInt8)).bind fun x4 => (D4 p0.2.2.1).bind fun x5 => (CL x4 x5).bind fun x6 => (CL x6 ([32] : List UInt8)).bind fun x7 => (D4 p0.2.2.2).bind fun x8 => (CL x7 x8).bind fun x9 => some x9
theorem Dl (Y : Nat → Prop) (w0 : World)  (p0 : Int × Int × Int × Int) (r : List UInt8) (H : Bd p0 = some r) (hG : Gk [] w0) :
    Calls Tryd.prog 28 #[.agg #[.int .i64 p0.1, .int .i64 p0.2.1, .int .i64 p0.2.2.1, .int .i64 p0.2.2.2]] w0 fun e w' => e = .returned (.string (bs r)) ∧ Below w0.heap.size w0 w' := by
 refine enter Tryd.func28 Aa Tryd.ntmps28 Aa fun a F => ?_
 have W := Stw.start Y w0
 unfold Bd at H
 refine Ai (Ac ?_)
 refine Fy (cs := [.int .i64 p0.1, .int .i64 p0.2.1, .int .i64 p0.2.2.1, .int .i64 p0.2.2.2]) F W Aa Aa Aa fun b1 a w F W => ?_
 refine ls F W Aa (Ad (v := Value.string (bs ([] : List UInt8))) F Aa).q fun a w F W => ?_
 refine Ae (Ab (Ai ?_))
 refine C1 W MO (by kernel_rfl) ?_
 refine qs F Aa (Ah BQ Aa Aa Aa T3 F Aa 0 Aa).q fun a F => ?_
 refine qs F Aa (Aq (v := Value.int .i64 p0.1) 0 F Aa Aa T3 Aa).q fun a F => ?_
 refine qs F Aa (AK (v := Value.string (bs (Aj p0.1))) F JY Aa (fun w W => Ds any w p0.1 _ Aa)) fun a F => ?_
 obtain ⟨x1, h1, H⟩ := Ap H
 refine qs F Aa (BD (l := (Aj p0.1)) (m := ([32] : List UInt8)) F Aa Aa h1).q fun a F => ?_
 refine qs F Aa (Ah BQ Aa Aa Aa T3 F Aa 1 Aa).q fun a F => ?_
 refine qs F Aa (Aq (v := Value.int .i64 p0.2.1) 0 F Aa Aa T3 Aa).q fun a F => ?_
 obtain ⟨x2, h2, H⟩ := Ap H
 refine qs F Aa (AK (v := Value.string (bs x2)) F JG Aa (fun w W => GJ any w p0.2.1 _ h2 (hG.go0 W))) fun a F => ?_
 obtain ⟨x3, h3, H⟩ := Ap H
 refine qs F Aa (BD (l := x1) (m := x2) F Aa Aa h3).q fun a F => ?_
 obtain ⟨x4, h4, H⟩ := Ap H
 refine qs F Aa (BD (l := x3) (m := ([32] : List UInt8)) F Aa Aa h4).q fun a F => ?_
 refine qs F Aa (Ah BQ Aa Aa Aa T3 F Aa 2 Aa).q fun a F => ?_
 refine qs F Aa (Aq (v := Value.int .i64 p0.2.2.1) 0 F Aa Aa T3 Aa).q fun a F => ?_
 obtain ⟨x5, h5, H⟩ := Ap H
 refine qs F Aa (AK (v := Value.string (bs x5)) F JG Aa (fun w W => GJ any w p0.2.2.1 _ h5 (hG.go0 W))) fun a F => ?_
 obtain ⟨x6, h6, H⟩ := Ap H
 refine qs F Aa (BD (l := x4) (m := x5) F Aa Aa h6).q fun a F => ?_
 obtain ⟨x7, h7, H⟩ := Ap H
 refine qs F Aa (BD (l := x6) (m := ([32] : List UInt8)) F Aa Aa h7).q fun a F => ?_
 refine qs F Aa (Ah BQ Aa Aa Aa T3 F Aa 3 Aa).q fun a F => ?_
 refine qs F Aa (Aq (v := Value.int .i64 p0.2.2.2) 0 F Aa Aa T3 Aa).q fun a F => ?_
 obtain ⟨x8, h8, H⟩ := Ap H
 refine qs F Aa (AK (v := Value.string (bs x8)) F JG Aa (fun w W => GJ any w p0.2.2.2 _ h8 (hG.go0 W))) fun a F => ?_
 obtain ⟨x9, h9, H⟩ := Ap H
 refine qs F Aa (BD (l := x7) (m := x8) F Aa Aa h9).q fun a F => ?_
 refine qs F Aa (Ad F Aa).q fun a F => ?_
 refine Cv fun w W => ?_
 refine Ab (Aw ?_)
 have H := AR H
 subst H
 refine AY (.inl Aa) F W Aa (As F Aa) ?_
 exact ⟨rfl, W.done⟩
end Go.Proofs.YtdllfdmdfdfilaaDoor
