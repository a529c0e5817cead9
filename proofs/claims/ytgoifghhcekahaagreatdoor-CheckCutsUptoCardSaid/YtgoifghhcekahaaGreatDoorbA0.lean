/- The functions of layer 30, JA. Conditions: none. -/
import Derived.Test.YtgoifghhcekahaaGreatDoorRows
import Derived.Test.YtgoifghhcekahaaGreatDoorbOT
import Derived.Test.YtgoifghhcekahaaGreatDoorbQT
import Derived.Test.YtgoifghhcekahaaGreatDoorbOD
import Derived.Test.YtgoifghhcekahaaGreatDoorbTR
import Derived.Test.YtgoifghhcekahaaGreatDoorbOG
import Derived.Test.YtgoifghhcekahaaGreatDoorbOC
import Derived.Test.YtgoifghhcekahaaGreatDoorbOM
import Derived.Test.YtgoifghhcekahaaGreatDoorbOX
namespace Go.Proofs.YtgoifghhcekahaaGreatDoor
noncomputable section
open Go Go.RowKit
set_option linter.unusedVariables false
set_option linter.unusedSimpArgs false
set_option maxRecDepth 20000
inductive Tr28 : Type where
  | mk : Int → Int → Int → (List Tr28) → Tr28
def Tr28.un : Tr28 → Int × Int × Int × List Tr28
  | .mk a0 a1 a2 a3 => (a0, a1, a2, a3)
abbrev Tr28.of (p : Int × Int × Int × List Tr28) : Tr28 := .mk p.1 p.2.1 p.2.2.1 p.2.2.2
def Tr28.cnt : Tr28 → Nat
  | .mk _ _ _ a3 => 1 + ((a3.map Tr28.cnt).sum)
abbrev VN (r : Rp Tr28) : Rp (Int × Int × Int × List Tr28) := (Rp.pair (Rp.int .i64) (Rp.pair (Rp.int .i64) (Rp.pair (Rp.int .i64) (Rp.slice r))))
theorem U4 : Kt VN := (Kt.pair (Kt.const _) (Kt.pair (Kt.const _) (Kt.pair (Kt.const _) Kt.hole)))
abbrev EC : Rp Tr28 := Rp.knot VN Tr28.un U4
theorem UW {w : World} {A : Nat → Prop} {cs : List Value} {a : Tr28} : EC.rep w A cs a ↔ (VN EC).rep w A cs a.un := KJ U4
abbrev Mz : Rp (Int × Int × Int × (Value × List Tr28)) := (Rp.pair (Rp.int .i64) (Rp.pair (Rp.int .i64) (Rp.pair (Rp.int .i64) (Rp.vsl EC))))
abbrev Xa (p : Int × Int × Int × (Value × List Tr28)) : Tr28 := (Tr28.of (p.1, p.2.1, p.2.2.1, p.2.2.2.2))
theorem HJ : Ex EC Mz Xa := (Ex.knot U4 (of := Tr28.of) (fun _ => rfl) (fun x => by cases x; rfl) (Ex.pair Ex.rfl' (Ex.pair Ex.rfl' (Ex.pair Ex.rfl' Ex.sliceF))))
theorem Kh : Ty Tryz.prog 28 true 4 := ⟨by kernel_rfl, by kernel_rfl⟩
theorem LB : Ty Tryz.prog 26 false 1 := ⟨by kernel_rfl, by kernel_rfl⟩
theorem T3 : Ty Tryz.prog 3 false 1 := ⟨by kernel_rfl, by kernel_rfl⟩
theorem MO : Tryz.prog.follows .mixedOrders = true := by kernel_rfl
def Mr (p0 : Int) : Int := (if p0 = 2 then 15 else (if (decide (p0 = 0) || (decide (p0 = 1) || decide (p0 = 3))) = true then 255 else 0))
theorem Tr (Y : Nat → Prop) (w0 : World)  (p0 : Int) (r : Int) (H : Mr p0 = r)  :
    Calls Tryz.prog 109 #[.int .i64 p0] w0 fun e w' => e = .returned (.int .i64 r) ∧ Below w0.heap.size w0 w' := by
 refine enter Tryz.func109 Aa Tryz.ntmps109 Aa fun a F => ?_
 have W := Stw.start Y w0
 unfold Mr at H
 refine Ah (Ab ?_)
 refine ls F W Aa (Ae F Aa).q fun a w F W => ?_
 refine Ad (Ac (Ah (Ah (Ab ?_))))
 refine ls F W Aa (Ag F Aa).q fun a w F W => ?_
 refine ls F W Aa (A7 F Aa Aa).q fun a w F W => ?_
 refine Ad (Ac ?_)
 refine Aw F Aa (fun hb => ?_) fun hb => ?_
 ·
  have H := AV (Bg hb) H
  rw [hb] at F
  refine Ah (Ab ?_)
  refine ls F W Aa (Ae F Aa).q fun a w F W => ?_
  refine Ad (Ac (Av (AN ?_)))
  subst H
  refine AJ (.inl Aa) F W Aa (AB F Aa) ?_
  exact ⟨rfl, W.done⟩
 have H := AR (Bf hb) H
 rw [hb] at F
 refine Ay (Ac (Ah ?_))
 refine AO (fun a w => Fr 15 [] [(2, .int .i64 0), (14, .bool (decide (p0 = 0) || (decide (p0 = 1) || decide (p0 = 3))))] a ∧ Stw ⟨Y, [], w0⟩ [] [] w) ?_ ?_
 ·
  refine Ab ?_
  refine ls F W Aa (Ag F Aa).q fun a w F W => ?_
  refine ls F W Aa (A7 F Aa Aa).q fun a w F W => ?_
  refine ls F W Aa (Ag F Aa).q fun a w F W => ?_
  rcases bxq (decide (p0 = 0)) with hb0 | hb0
  ·
   rw [hb0] at F
   iterate 2 refine Dz F Aa Aa Aa Aa Aa Aa Aa fun a F => ?_
   refine ls F W Aa (Ax F Aa Aa Aa).q fun a w F W => ?_
   refine ls F W Aa (Ag F Aa).q fun a w F W => ?_
   iterate 2 refine Dz F Aa Aa Aa Aa Aa Aa Aa fun a F => ?_
   refine ls F W Aa (Ax F Aa Aa Aa).q fun a w F W => ?_
   refine Ad (Ac ?_)
   exact ⟨F.re ⟨rfl, (by show some (Value.bool true) = some (Value.bool (decide (p0 = 0) || (decide (p0 = 1) || decide (p0 = 3)))); try rw [hb0]; all_goals simp only [Bool.not_true, Bool.not_false, Bool.true_and, Bool.false_and, Bool.true_or, Bool.false_or, Bool.and_true, Bool.or_false, cond_true, cond_false]), trivial⟩, W⟩
  rw [hb0] at F
  refine AK F W (Af F Aa Aa Aa Aa) Aa (Ak Aa) (Ag F Aa).q fun a w F W => ?_
  refine AK F W (Af F Aa Aa Aa Aa) Aa (Ak Aa) (A7 F Aa Aa).q fun a w F W => ?_
  refine ls F W Aa (As F Aa Aa Aa).q fun a w F W => ?_
  refine ls F W Aa (Ag F Aa).q fun a w F W => ?_
  rcases bxq (decide (p0 = 1)) with hb1 | hb1
  ·
   rw [hb1] at F
   iterate 2 refine Dz F Aa Aa Aa Aa Aa Aa Aa fun a F => ?_
   refine ls F W Aa (Ax F Aa Aa Aa).q fun a w F W => ?_
   refine Ad (Ac ?_)
   exact ⟨F.re ⟨rfl, (by show some (Value.bool true) = some (Value.bool (decide (p0 = 0) || (decide (p0 = 1) || decide (p0 = 3)))); try rw [hb0]; try rw [hb1]; all_goals simp only [Bool.not_true, Bool.not_false, Bool.true_and, Bool.false_and, Bool.true_or, Bool.false_or, Bool.and_true, Bool.or_false, cond_true, cond_false]), trivial⟩, W⟩
  rw [hb1] at F
  refine AK F W (Af F Aa Aa Aa Aa) Aa (Ak Aa) (Ag F Aa).q fun a w F W => ?_
  refine AK F W (Af F Aa Aa Aa Aa) Aa (Ak Aa) (A7 F Aa Aa).q fun a w F W => ?_
  refine ls F W Aa (As F Aa Aa Aa).q fun a w F W => ?_
  refine Ad (Ac ?_)
  exact ⟨F.re ⟨rfl, (by show some (Value.bool (decide (p0 = 3))) = some (Value.bool (decide (p0 = 0) || (decide (p0 = 1) || decide (p0 = 3)))); try rw [hb0]; try rw [hb1]; all_goals simp only [Bool.not_true, Bool.not_false, Bool.true_and, Bool.false_and, Bool.true_or, Bool.false_or, Bool.and_true, Bool.or_false, cond_true, cond_false]), trivial⟩, W⟩
 rintro a w ⟨F, W⟩
 refine Aw F Aa (fun hb => ?_) fun hb => ?_
 ·
  have H := AV hb H
  rw [hb] at F
  refine Ah (Ab ?_)
  refine ls F W Aa (Ae F Aa).q fun a w F W => ?_
  refine Ad (Ac (Av (AN ?_)))
  subst H
  refine AJ (.inl Aa) F W Aa (AB F Aa) ?_
  exact ⟨rfl, W.done⟩
 have H := AR (by rw [hb]; decide) H
 rw [hb] at F
 refine Ay (Ac (Ah (Ab ?_)))
 refine ls F W Aa (Ae F Aa).q fun a w F W => ?_
 refine Ad (Ac (Av ?_))
 subst H
 refine AJ (.inl Aa) F W Aa (AB F Aa) ?_
 exact ⟨rfl, W.done⟩
theorem Xb : Has Tryz.prog 109 := ⟨fun args w => Aj Tryz.func109 rfl (by decide) args w⟩
def EQ (p0 : Int) : Int := (if (decide (p0 = 4) || decide (p0 = 5)) = true then 7 else (Mr p0))
theorem Tk (Y : Nat → Prop) (w0 : World)  (p0 : Int) (r : Int) (H : EQ p0 = r)  :
    Calls Tryz.prog 82 #[.int .i64 p0] w0 fun e w' => e = .returned (.int .i64 r) ∧ Below w0.heap.size w0 w' := by
 refine enter Tryz.func82 Aa Tryz.ntmps82 Aa fun a F => ?_
 have W := Stw.start Y w0
 unfold EQ at H
 refine Ah (Ab ?_)
 refine ls F W Aa (Ae F Aa).q fun a w F W => ?_
 refine Ad (Ac (Ah ?_))
 refine AO (fun a w => Fr 11 [] [(0, .int .i64 p0), (2, .int .i64 0), (8, .bool (decide (p0 = 4) || decide (p0 = 5)))] a ∧ Stw ⟨Y, [], w0⟩ [] [] w) ?_ ?_
 ·
  refine Ab ?_
  refine ls F W Aa (Ag F Aa).q fun a w F W => ?_
  refine ls F W Aa (A7 F Aa Aa).q fun a w F W => ?_
  refine ls F W Aa (Ag F Aa).q fun a w F W => ?_
  rcases bxq (decide (p0 = 4)) with hb0 | hb0
  ·
   rw [hb0] at F
   iterate 2 refine Dz F Aa Aa Aa Aa Aa Aa Aa fun a F => ?_
   refine ls F W Aa (Ax F Aa Aa Aa).q fun a w F W => ?_
   refine Ad (Ac ?_)
   exact ⟨F.re ⟨rfl, Aa, (by show some (Value.bool true) = some (Value.bool (decide (p0 = 4) || decide (p0 = 5))); try rw [hb0]; all_goals simp only [Bool.not_true, Bool.not_false, Bool.true_and, Bool.false_and, Bool.true_or, Bool.false_or, Bool.and_true, Bool.or_false, cond_true, cond_false]), trivial⟩, W⟩
  rw [hb0] at F
  refine AK F W (Af F Aa Aa Aa Aa) Aa (Ak Aa) (Ag F Aa).q fun a w F W => ?_
  refine AK F W (Af F Aa Aa Aa Aa) Aa (Ak Aa) (A7 F Aa Aa).q fun a w F W => ?_
  refine ls F W Aa (As F Aa Aa Aa).q fun a w F W => ?_
  refine Ad (Ac ?_)
  exact ⟨F.re ⟨rfl, Aa, (by show some (Value.bool (decide (p0 = 5))) = some (Value.bool (decide (p0 = 4) || decide (p0 = 5))); try rw [hb0]; all_goals simp only [Bool.not_true, Bool.not_false, Bool.true_and, Bool.false_and, Bool.true_or, Bool.false_or, Bool.and_true, Bool.or_false, cond_true, cond_false]), trivial⟩, W⟩
 rintro a w ⟨F, W⟩
 refine Aw F Aa (fun hb => ?_) fun hb => ?_
 ·
  have H := AV hb H
  rw [hb] at F
  refine Ah (Ab ?_)
  refine ls F W Aa (Ae F Aa).q fun a w F W => ?_
  refine Ad (Ac (Av (AN ?_)))
  subst H
  refine AJ (.inl Aa) F W Aa (AB F Aa) ?_
  exact ⟨rfl, W.done⟩
 have H := AR (by rw [hb]; decide) H
 rw [hb] at F
 refine Ay (Ac (Ah (Ab ?_)))
 refine ls F W Aa (Ag F Aa).q fun a w F W => ?_
 refine ls F W Aa (A3 (v := Value.int .i64 (Mr p0)) F Xb Aa (fun w W => Tr any w p0 _ Aa)) fun a w F W => ?_
 refine ls F W Aa (Ae F Aa).q fun a w F W => ?_
 refine Ad (Ac (Av ?_))
 subst H
 refine AJ (.inl Aa) F W Aa (AB F Aa) ?_
 exact ⟨rfl, W.done⟩
theorem PI : type_of% Tryz.underlying26 := Tryz.underlying26
theorem DN : type_of% Tryz.underlying28 := Tryz.underlying28
theorem Yd : Has Tryz.prog 82 := ⟨fun args w => Aj Tryz.func82 rfl (by decide) args w⟩
abbrev Kk (a : Int × Int × Int × (Value × List Tr28)) : List Value := [.int .i64 a.1, .int .i64 a.2.1, .int .i64 a.2.2.1, a.2.2.2.1]
theorem QD : Iv Mz Kk := (Iv.pair Fl.int.to (Iv.pair Fl.int.to (Iv.pair Fl.int.to Iv.vsl)))
theorem SH : Et Tryz.prog 26 28 4 48 := Et.of PI (by kernel_rfl) (by kernel_rfl) (by kernel_rfl) (by decide)
theorem X3 : Has Tryz.prog 47 := ⟨fun args w => Aj Tryz.func47 rfl (by decide) args w⟩
def F2 (fRec : Tr28 → Option Bool) (p0 : Tr28) : Int → Option (Int ⊕ (Unit ⊕ Bool))
  | x1 => (if x1 < (p0.un.2.2.2.length : Int) then (ix p0.un.2.2.2 x1).bind fun x2 => (fRec x2).bind fun x3 => (if (!x3) = true then some (.inr (.inr false)) else some (.inl (AG (x1 + 1)))) else some (.inr (.inl ())))
def F5 (fRec : Tr28 → Option Bool) (p0 : Tr28) : Option Bool := (if (bif decide (p0.un.1 ≠ 3) then (decide (p0.un.2.1 ≠ 0) || (decide (p0.un.2.2.1 ≠ 0) || (decide (p0.un.1 < 1) || decide (6 < p0.un.1)))) else (decide (p0.un.1 < 1) || decide (6 < p0.un.1))) = true then some false else (if (decide (p0.un.1 = 3) && (decide (p0.un.2.1 < 0) || (decide (5 < p0.un.2.1) || (decide (p0.un.2.2.1 < 0) || decide ((EQ p0.un.2.1) < p0.un.2.2.1))))) = true then some false else (if (bif decide (p0.un.1 ≤ 3) then (decide ((p0.un.2.2.2.length : Int) ≠ 0) || (bif decide (p0.un.1 = 4) then (decide ((p0.un.2.2.2.length : Int) ≠ 1) || (decide (5 ≤ p0.un.1) && (decide ((p0.un.2.2.2.length : Int) < 2) || decide (8 < (p0.un.2.2.2.length : Int))))) else (decide (5 ≤ p0.un.1) && (decide ((p0.un.2.2.2.length : Int) < 2) || decide (8 < (p0.un.2.2.2.length : Int)))))) else (bif decide (p0.un.1 = 4) then (decide ((p0.un.2.2.2.length : Int) ≠ 1) || (decide (5 ≤ p0.un.1) && (decide ((p0.un.2.2.2.length : Int) < 2) || decide (8 < (p0.un.2.2.2.length : Int))))) else (decide (5 ≤ p0.un.1) && (decide ((p0.un.2.2.2.length : Int) < 2) || decide (8 < (p0.un.2.2.2.length : Int)))))) = true then some false else Je (A6 (F2 fRec p0) 0) fun _ => some true)))
def E3 : Nat → Tr28 → Option Bool
  | 0 => fun _ => none
  | n + 1 => F5 (E3 n)
def Pv (p0 : Tr28) : Option Bool := Jl fun n => E3 n p0
theorem RL (fRec : Tr28 → Option Bool) (ih : ∀ (Y : Nat → Prop) (w0 : World) (v1 : Value) (p0 : Tr28) (r : Bool) (H : fRec p0 = some r) (h_v1 : Sl w0 (NX []) EC v1 p0.un.2.2.2), Calls Tryz.prog 47 #[.agg #[.int .i64 p0.un.1, .int .i64 p0.un.2.1, .int .i64 p0.un.2.2.1, v1]] w0 fun e w' => e = .returned (.bool r) ∧ Below w0.heap.size w0 w') (Y : Nat → Prop) (w0 : World) (v1 : Value) (p0 : Tr28) (r : Bool) (H : F5 fRec p0 = some r) (h_v1 : Sl w0 (NX []) EC v1 p0.un.2.2.2) :
    Calls Tryz.prog 47 #[.agg #[.int .i64 p0.un.1, .int .i64 p0.un.2.1, .int .i64 p0.un.2.2.1, v1]] w0 fun e w' => e = .returned (.bool r) ∧ Below w0.heap.size w0 w' := by
 refine enter Tryz.func47 Aa Tryz.ntmps47 Aa fun a F => ?_
 have W := Stw.start Y w0
 obtain ⟨v2, h1, h_v1⟩ := h_v1.ex HJ
 unfold F5 at H
 refine Ah (Ab ?_)
 refine CS (cs := [.int .i64 p0.un.1, .int .i64 p0.un.2.1, .int .i64 p0.un.2.2.1, v1]) F W Aa Aa Aa fun b1 a w F W => ?_
 refine ls F W Aa (Ae F Aa).q fun a w F W => ?_
 refine Ad (Ac (Ah (Ab ?_)))
 refine ls F W Aa (Ai DN Aa Aa Aa LB F Aa 3 Aa).q fun a w F W => ?_
 refine ls F W Aa (Ao (v := v1) 0 F Aa Aa LB Aa).q fun a w F W => ?_
 refine ls F W Aa (CA (r := EC) (l := p0.un.2.2.2) PI Aa F Aa (AH HJ h1 (Aq h_v1))).q fun a w F W => ?_
 refine ls F W Aa (Ae F Aa).q fun a w F W => ?_
 refine Ad (Ac (Ah ?_))
 refine AO (fun a w => Fr 98 [] [(1, .pointer (some ⟨b1, 0, none⟩)), (2, .bool false), (3, .int .i64 (p0.un.2.2.2.length : Int)), (30, .bool (bif decide (p0.un.1 ≠ 3) then (decide (p0.un.2.1 ≠ 0) || (decide (p0.un.2.2.1 ≠ 0) || (decide (p0.un.1 < 1) || decide (6 < p0.un.1)))) else (decide (p0.un.1 < 1) || decide (6 < p0.un.1))))] a ∧ Stw ⟨Y, [], w0⟩ [(b1, [.int .i64 p0.un.1, .int .i64 p0.un.2.1, .int .i64 p0.un.2.2.1, v1])] [] w) ?_ ?_
 ·
  refine Ab ?_
  refine ls F W Aa (Ai DN Aa Aa Aa T3 F Aa 0 Aa).q fun a w F W => ?_
  refine ls F W Aa (Ao (v := Value.int .i64 p0.un.1) 0 F Aa Aa T3 Aa).q fun a w F W => ?_
  refine ls F W Aa (Ip F Aa Aa).q fun a w F W => ?_
  refine ls F W Aa (Ag F Aa).q fun a w F W => ?_
  rcases bxq (decide (p0.un.1 ≠ 3)) with hb0 | hb0
  ·
   rw [hb0] at F
   refine AK F W (Af F Aa Aa Aa Aa) Aa (Ak Aa) (Ai DN Aa Aa Aa T3 F Aa 1 Aa).q fun a w F W => ?_
   refine AK F W (Af F Aa Aa Aa Aa) Aa (Ak Aa) (Ao (v := Value.int .i64 p0.un.2.1) 0 F Aa Aa T3 Aa).q fun a w F W => ?_
   refine AK F W (Af F Aa Aa Aa Aa) Aa (Ak Aa) (Ip F Aa Aa).q fun a w F W => ?_
   refine AK F W (Af F Aa Aa Aa Aa) Aa (Ak Aa) (Ag F Aa).q fun a w F W => ?_
   rcases bxq (decide (p0.un.2.1 ≠ 0)) with hb1 | hb1
   ·
    rw [hb1] at F
    iterate 3 refine Dz F Aa Aa Aa Aa Aa Aa Aa fun a F => ?_
    refine AK F W (Af F Aa Aa Aa Aa) Aa (Ak Aa) (Ax F Aa Aa Aa).q fun a w F W => ?_
    refine ls F W Aa (Ax F Aa Aa Aa).q fun a w F W => ?_
    refine ls F W Aa (Ag F Aa).q fun a w F W => ?_
    iterate 3 refine Dz F Aa Aa Aa Aa Aa Aa Aa fun a F => ?_
    refine ls F W Aa (Ax F Aa Aa Aa).q fun a w F W => ?_
    refine ls F W Aa (Ag F Aa).q fun a w F W => ?_
    iterate 3 refine Dz F Aa Aa Aa Aa Aa Aa Aa fun a F => ?_
    refine ls F W Aa (Ax F Aa Aa Aa).q fun a w F W => ?_
    refine Ad (Ac ?_)
    exact ⟨F.re ⟨rfl, Aa, Aa, (by show some (Value.bool true) = some (Value.bool (bif decide (p0.un.1 ≠ 3) then (decide (p0.un.2.1 ≠ 0) || (decide (p0.un.2.2.1 ≠ 0) || (decide (p0.un.1 < 1) || decide (6 < p0.un.1)))) else (decide (p0.un.1 < 1) || decide (6 < p0.un.1)))); try rw [hb1]; try rw [hb0]; all_goals simp only [Bool.not_true, Bool.not_false, Bool.true_and, Bool.false_and, Bool.true_or, Bool.false_or, Bool.and_true, Bool.or_false, cond_true, cond_false]), trivial⟩, W⟩
   rw [hb1] at F
   refine AK F W (Af F Aa Aa Aa Aa) Aa (Ak Aa) (Ai DN Aa Aa Aa T3 F Aa 2 Aa).q fun a w F W => ?_
   refine AK F W (Af F Aa Aa Aa Aa) Aa (Ak Aa) (Ao (v := Value.int .i64 p0.un.2.2.1) 0 F Aa Aa T3 Aa).q fun a w F W => ?_
   refine AK F W (Af F Aa Aa Aa Aa) Aa (Ak Aa) (Ip F Aa Aa).q fun a w F W => ?_
   refine AK F W (Af F Aa Aa Aa Aa) Aa (Ak Aa) (As F Aa Aa Aa).q fun a w F W => ?_
   refine ls F W Aa (Ax F Aa Aa Aa).q fun a w F W => ?_
   refine ls F W Aa (Ag F Aa).q fun a w F W => ?_
   rcases bxq (decide (p0.un.2.2.1 ≠ 0)) with hb2 | hb2
   ·
    rw [hb2] at F
    iterate 3 refine Dz F Aa Aa Aa Aa Aa Aa Aa fun a F => ?_
    refine ls F W Aa (Ax F Aa Aa Aa).q fun a w F W => ?_
    refine ls F W Aa (Ag F Aa).q fun a w F W => ?_
    iterate 3 refine Dz F Aa Aa Aa Aa Aa Aa Aa fun a F => ?_
    refine ls F W Aa (Ax F Aa Aa Aa).q fun a w F W => ?_
    refine Ad (Ac ?_)
    exact ⟨F.re ⟨rfl, Aa, Aa, (by show some (Value.bool true) = some (Value.bool (bif decide (p0.un.1 ≠ 3) then (decide (p0.un.2.1 ≠ 0) || (decide (p0.un.2.2.1 ≠ 0) || (decide (p0.un.1 < 1) || decide (6 < p0.un.1)))) else (decide (p0.un.1 < 1) || decide (6 < p0.un.1)))); try rw [hb2]; try rw [hb1]; try rw [hb0]; all_goals simp only [Bool.not_true, Bool.not_false, Bool.true_and, Bool.false_and, Bool.true_or, Bool.false_or, Bool.and_true, Bool.or_false, cond_true, cond_false]), trivial⟩, W⟩
   rw [hb2] at F
   refine AK F W (Af F Aa Aa Aa Aa) Aa (Ak Aa) (Ai DN Aa Aa Aa T3 F Aa 0 Aa).q fun a w F W => ?_
   refine AK F W (Af F Aa Aa Aa Aa) Aa (Ak Aa) (Ao (v := Value.int .i64 p0.un.1) 0 F Aa Aa T3 Aa).q fun a w F W => ?_
   refine AK F W (Af F Aa Aa Aa Aa) Aa (Ak Aa) (Cu F Aa Aa).q fun a w F W => ?_
   refine ls F W Aa (As F Aa Aa Aa).q fun a w F W => ?_
   refine ls F W Aa (Ag F Aa).q fun a w F W => ?_
   rcases bxq (decide (p0.un.1 < 1)) with hb3 | hb3
   ·
    rw [hb3] at F
    iterate 3 refine Dz F Aa Aa Aa Aa Aa Aa Aa fun a F => ?_
    refine ls F W Aa (Ax F Aa Aa Aa).q fun a w F W => ?_
    refine Ad (Ac ?_)
    exact ⟨F.re ⟨rfl, Aa, Aa, (by show some (Value.bool true) = some (Value.bool (bif decide (p0.un.1 ≠ 3) then (decide (p0.un.2.1 ≠ 0) || (decide (p0.un.2.2.1 ≠ 0) || (decide (p0.un.1 < 1) || decide (6 < p0.un.1)))) else (decide (p0.un.1 < 1) || decide (6 < p0.un.1)))); try rw [hb2]; try rw [hb1]; try rw [hb0]; try rw [hb3]; all_goals simp only [Bool.not_true, Bool.not_false, Bool.true_and, Bool.false_and, Bool.true_or, Bool.false_or, Bool.and_true, Bool.or_false, cond_true, cond_false]), trivial⟩, W⟩
   rw [hb3] at F
   refine AK F W (Af F Aa Aa Aa Aa) Aa (Ak Aa) (Ai DN Aa Aa Aa T3 F Aa 0 Aa).q fun a w F W => ?_
   refine AK F W (Af F Aa Aa Aa Aa) Aa (Ak Aa) (Ao (v := Value.int .i64 p0.un.1) 0 F Aa Aa T3 Aa).q fun a w F W => ?_
   refine AK F W (Af F Aa Aa Aa Aa) Aa (Ak Aa) (HL F Aa Aa).q fun a w F W => ?_
   refine ls F W Aa (As F Aa Aa Aa).q fun a w F W => ?_
   refine Ad (Ac ?_)
   exact ⟨F.re ⟨rfl, Aa, Aa, (by show some (Value.bool (decide (6 < p0.un.1))) = some (Value.bool (bif decide (p0.un.1 ≠ 3) then (decide (p0.un.2.1 ≠ 0) || (decide (p0.un.2.2.1 ≠ 0) || (decide (p0.un.1 < 1) || decide (6 < p0.un.1)))) else (decide (p0.un.1 < 1) || decide (6 < p0.un.1)))); try rw [hb2]; try rw [hb1]; try rw [hb0]; try rw [hb3]; all_goals simp only [Bool.not_true, Bool.not_false, Bool.true_and, Bool.false_and, Bool.true_or, Bool.false_or, Bool.and_true, Bool.or_false, cond_true, cond_false]), trivial⟩, W⟩
  rw [hb0] at F
  iterate 4 refine Dz F Aa Aa Aa Aa Aa Aa Aa fun a F => ?_
  iterate 3 refine U1 F Aa Aa Aa Aa Aa Aa fun a F => ?_
  refine Dz F Aa Aa Aa Aa Aa Aa Aa fun a F => ?_
  refine ls F W Aa (As F Aa Aa Aa).q fun a w F W => ?_
  refine ls F W Aa (Ag F Aa).q fun a w F W => ?_
  refine AK F W (Af F Aa Aa Aa Aa) Aa (Ak Aa) (Ai DN Aa Aa Aa T3 F Aa 0 Aa).q fun a w F W => ?_
  refine AK F W (Af F Aa Aa Aa Aa) Aa (Ak Aa) (Ao (v := Value.int .i64 p0.un.1) 0 F Aa Aa T3 Aa).q fun a w F W => ?_
  refine AK F W (Af F Aa Aa Aa Aa) Aa (Ak Aa) (Cu F Aa Aa).q fun a w F W => ?_
  refine ls F W Aa (As F Aa Aa Aa).q fun a w F W => ?_
  refine ls F W Aa (Ag F Aa).q fun a w F W => ?_
  rcases bxq (decide (p0.un.1 < 1)) with hb1 | hb1
  ·
   rw [hb1] at F
   iterate 3 refine Dz F Aa Aa Aa Aa Aa Aa Aa fun a F => ?_
   refine ls F W Aa (Ax F Aa Aa Aa).q fun a w F W => ?_
   refine Ad (Ac ?_)
   exact ⟨F.re ⟨rfl, Aa, Aa, (by show some (Value.bool true) = some (Value.bool (bif decide (p0.un.1 ≠ 3) then (decide (p0.un.2.1 ≠ 0) || (decide (p0.un.2.2.1 ≠ 0) || (decide (p0.un.1 < 1) || decide (6 < p0.un.1)))) else (decide (p0.un.1 < 1) || decide (6 < p0.un.1)))); try rw [hb0]; try rw [hb1]; all_goals simp only [Bool.not_true, Bool.not_false, Bool.true_and, Bool.false_and, Bool.true_or, Bool.false_or, Bool.and_true, Bool.or_false, cond_true, cond_false]), trivial⟩, W⟩
  rw [hb1] at F
  refine AK F W (Af F Aa Aa Aa Aa) Aa (Ak Aa) (Ai DN Aa Aa Aa T3 F Aa 0 Aa).q fun a w F W => ?_
  refine AK F W (Af F Aa Aa Aa Aa) Aa (Ak Aa) (Ao (v := Value.int .i64 p0.un.1) 0 F Aa Aa T3 Aa).q fun a w F W => ?_
  refine AK F W (Af F Aa Aa Aa Aa) Aa (Ak Aa) (HL F Aa Aa).q fun a w F W => ?_
  refine ls F W Aa (As F Aa Aa Aa).q fun a w F W => ?_
  refine Ad (Ac ?_)
  exact ⟨F.re ⟨rfl, Aa, Aa, (by show some (Value.bool (decide (6 < p0.un.1))) = some (Value.bool (bif decide (p0.un.1 ≠ 3) then (decide (p0.un.2.1 ≠ 0) || (decide (p0.un.2.2.1 ≠ 0) || (decide (p0.un.1 < 1) || decide (6 < p0.un.1)))) else (decide (p0.un.1 < 1) || decide (6 < p0.un.1)))); try rw [hb0]; try rw [hb1]; all_goals simp only [Bool.not_true, Bool.not_false, Bool.true_and, Bool.false_and, Bool.true_or, Bool.false_or, Bool.and_true, Bool.or_false, cond_true, cond_false]), trivial⟩, W⟩
 rintro a w ⟨F, W⟩
 refine Aw F Aa (fun hb => ?_) fun hb => ?_
 ·
  have H := AV hb H
  rw [hb] at F
  refine Ah (Ab ?_)
  refine ls F W Aa (Ae F Aa).q fun a w F W => ?_
  refine Ad (Ac (Av (AN ?_)))
  have H := AP H
  subst H
  refine AJ (.inl Aa) F W Aa (AB F Aa) ?_
  exact ⟨rfl, W.done⟩
 have H := AR (by rw [hb]; decide) H
 rw [hb] at F
 refine Ay (Ac (Ah ?_))
 refine AO (fun a w => Fr 98 [] [(1, .pointer (some ⟨b1, 0, none⟩)), (2, .bool false), (3, .int .i64 (p0.un.2.2.2.length : Int)), (56, .bool (decide (p0.un.1 = 3) && (decide (p0.un.2.1 < 0) || (decide (5 < p0.un.2.1) || (decide (p0.un.2.2.1 < 0) || decide ((EQ p0.un.2.1) < p0.un.2.2.1))))))] a ∧ Stw ⟨Y, [], w0⟩ [(b1, [.int .i64 p0.un.1, .int .i64 p0.un.2.1, .int .i64 p0.un.2.2.1, v1])] [] w) ?_ ?_
 ·
  refine CK W MO (by kernel_rfl) ?_
  refine qs F Aa (Ai DN Aa Aa Aa T3 F Aa 0 Aa).q fun a F => ?_
  refine qs F Aa (Ao (v := Value.int .i64 p0.un.1) 0 F Aa Aa T3 Aa).q fun a F => ?_
  refine qs F Aa (A7 F Aa Aa).q fun a F => ?_
  refine qs F Aa (Ag F Aa).q fun a F => ?_
  rcases bxq (decide (p0.un.1 = 3)) with hb0 | hb0
  ·
   rw [hb0] at F
   refine Bk F (Af F Aa Aa Aa Aa) Aa (Ak Aa) (Ai DN Aa Aa Aa T3 F Aa 1 Aa).q fun a F => ?_
   refine Bk F (Af F Aa Aa Aa Aa) Aa (Ak Aa) (Ao (v := Value.int .i64 p0.un.2.1) 0 F Aa Aa T3 Aa).q fun a F => ?_
   refine Bk F (Af F Aa Aa Aa Aa) Aa (Ak Aa) (Cu F Aa Aa).q fun a F => ?_
   refine Bk F (Af F Aa Aa Aa Aa) Aa (Ak Aa) (Ag F Aa).q fun a F => ?_
   rcases bxq (decide (p0.un.2.1 < 0)) with hb1 | hb1
   ·
    rw [hb1] at F
    iterate 3 refine B4 F (Bi F Aa Aa Aa Aa Aa) Aa Aa fun a F => ?_
    refine Bk F (Af F Aa Aa Aa Aa) Aa (Ak Aa) (Ax F Aa Aa Aa).q fun a F => ?_
    refine Bk F (Af F Aa Aa Aa Aa) Aa (Ak Aa) (Ag F Aa).q fun a F => ?_
    iterate 3 refine B4 F (Bi F Aa Aa Aa Aa Aa) Aa Aa fun a F => ?_
    refine Bk F (Af F Aa Aa Aa Aa) Aa (Ak Aa) (Ax F Aa Aa Aa).q fun a F => ?_
    refine Bk F (Af F Aa Aa Aa Aa) Aa (Ak Aa) (Ag F Aa).q fun a F => ?_
    iterate 6 refine B4 F (Bi F Aa Aa Aa Aa Aa) Aa Aa fun a F => ?_
    refine Bk F (Af F Aa Aa Aa Aa) Aa (Ak Aa) (Ax F Aa Aa Aa).q fun a F => ?_
    refine qs F Aa (Ax F Aa Aa Aa).q fun a F => ?_
    refine A9 fun w W => ?_
    refine Ac ?_
    exact ⟨F.re ⟨rfl, Aa, Aa, (by show some (Value.bool true) = some (Value.bool (decide (p0.un.1 = 3) && (decide (p0.un.2.1 < 0) || (decide (5 < p0.un.2.1) || (decide (p0.un.2.2.1 < 0) || decide ((EQ p0.un.2.1) < p0.un.2.2.1)))))); try rw [hb1]; try rw [hb0]; all_goals simp only [Bool.not_true, Bool.not_false, Bool.true_and, Bool.false_and, Bool.true_or, Bool.false_or, Bool.and_true, Bool.or_false, cond_true, cond_false]), trivial⟩, W⟩
   rw [hb1] at F
   refine Bk F (Af F Aa Aa Aa Aa) Aa (Ak Aa) (Ai DN Aa Aa Aa T3 F Aa 1 Aa).q fun a F => ?_
   refine Bk F (Af F Aa Aa Aa Aa) Aa (Ak Aa) (Ao (v := Value.int .i64 p0.un.2.1) 0 F Aa Aa T3 Aa).q fun a F => ?_
   refine Bk F (Af F Aa Aa Aa Aa) Aa (Ak Aa) (HL F Aa Aa).q fun a F => ?_
   refine Bk F (Af F Aa Aa Aa Aa) Aa (Ak Aa) (As F Aa Aa Aa).q fun a F => ?_
   refine Bk F (Af F Aa Aa Aa Aa) Aa (Ak Aa) (Ag F Aa).q fun a F => ?_
   rcases bxq (decide (5 < p0.un.2.1)) with hb2 | hb2
   ·
    rw [hb2] at F
    iterate 3 refine B4 F (Bi F Aa Aa Aa Aa Aa) Aa Aa fun a F => ?_
    refine Bk F (Af F Aa Aa Aa Aa) Aa (Ak Aa) (Ax F Aa Aa Aa).q fun a F => ?_
    refine Bk F (Af F Aa Aa Aa Aa) Aa (Ak Aa) (Ag F Aa).q fun a F => ?_
    iterate 6 refine B4 F (Bi F Aa Aa Aa Aa Aa) Aa Aa fun a F => ?_
    refine Bk F (Af F Aa Aa Aa Aa) Aa (Ak Aa) (Ax F Aa Aa Aa).q fun a F => ?_
    refine qs F Aa (Ax F Aa Aa Aa).q fun a F => ?_
    refine A9 fun w W => ?_
    refine Ac ?_
    exact ⟨F.re ⟨rfl, Aa, Aa, (by show some (Value.bool true) = some (Value.bool (decide (p0.un.1 = 3) && (decide (p0.un.2.1 < 0) || (decide (5 < p0.un.2.1) || (decide (p0.un.2.2.1 < 0) || decide ((EQ p0.un.2.1) < p0.un.2.2.1)))))); try rw [hb1]; try rw [hb2]; try rw [hb0]; all_goals simp only [Bool.not_true, Bool.not_false, Bool.true_and, Bool.false_and, Bool.true_or, Bool.false_or, Bool.and_true, Bool.or_false, cond_true, cond_false]), trivial⟩, W⟩
   rw [hb2] at F
   refine Bk F (Af F Aa Aa Aa Aa) Aa (Ak Aa) (Ai DN Aa Aa Aa T3 F Aa 2 Aa).q fun a F => ?_
   refine Bk F (Af F Aa Aa Aa Aa) Aa (Ak Aa) (Ao (v := Value.int .i64 p0.un.2.2.1) 0 F Aa Aa T3 Aa).q fun a F => ?_
   refine Bk F (Af F Aa Aa Aa Aa) Aa (Ak Aa) (Cu F Aa Aa).q fun a F => ?_
   refine Bk F (Af F Aa Aa Aa Aa) Aa (Ak Aa) (As F Aa Aa Aa).q fun a F => ?_
   refine Bk F (Af F Aa Aa Aa Aa) Aa (Ak Aa) (Ag F Aa).q fun a F => ?_
   rcases bxq (decide (p0.un.2.2.1 < 0)) with hb3 | hb3
   ·
    rw [hb3] at F
    iterate 6 refine B4 F (Bi F Aa Aa Aa Aa Aa) Aa Aa fun a F => ?_
    refine Bk F (Af F Aa Aa Aa Aa) Aa (Ak Aa) (Ax F Aa Aa Aa).q fun a F => ?_
    refine qs F Aa (Ax F Aa Aa Aa).q fun a F => ?_
    refine A9 fun w W => ?_
    refine Ac ?_
    exact ⟨F.re ⟨rfl, Aa, Aa, (by show some (Value.bool true) = some (Value.bool (decide (p0.un.1 = 3) && (decide (p0.un.2.1 < 0) || (decide (5 < p0.un.2.1) || (decide (p0.un.2.2.1 < 0) || decide ((EQ p0.un.2.1) < p0.un.2.2.1)))))); try rw [hb3]; try rw [hb1]; try rw [hb2]; try rw [hb0]; all_goals simp only [Bool.not_true, Bool.not_false, Bool.true_and, Bool.false_and, Bool.true_or, Bool.false_or, Bool.and_true, Bool.or_false, cond_true, cond_false]), trivial⟩, W⟩
   rw [hb3] at F
   refine Bk F (Af F Aa Aa Aa Aa) Aa (Ak Aa) (Ai DN Aa Aa Aa T3 F Aa 2 Aa).q fun a F => ?_
   refine Bk F (Af F Aa Aa Aa Aa) Aa (Ak Aa) (Ao (v := Value.int .i64 p0.un.2.2.1) 0 F Aa Aa T3 Aa).q fun a F => ?_
   refine Bk F (Af F Aa Aa Aa Aa) Aa (Ak Aa) (Ai DN Aa Aa Aa T3 F Aa 1 Aa).q fun a F => ?_
   refine Bk F (Af F Aa Aa Aa Aa) Aa (Ak Aa) (Ao (v := Value.int .i64 p0.un.2.1) 0 F Aa Aa T3 Aa).q fun a F => ?_
   refine Bk F (Af F Aa Aa Aa Aa) Aa (Ak Aa) (A3 (v := Value.int .i64 (EQ p0.un.2.1)) F Yd Aa (fun w W => Tk any w p0.un.2.1 _ Aa)) fun a F => ?_
   refine Bk F (Af F Aa Aa Aa Aa) Aa (Ak Aa) (HL F Aa Aa).q fun a F => ?_
   refine Bk F (Af F Aa Aa Aa Aa) Aa (Ak Aa) (As F Aa Aa Aa).q fun a F => ?_
   refine qs F Aa (Ax F Aa Aa Aa).q fun a F => ?_
   refine A9 fun w W => ?_
   refine Ac ?_
   exact ⟨F.re ⟨rfl, Aa, Aa, (by show some (Value.bool (decide ((EQ p0.un.2.1) < p0.un.2.2.1))) = some (Value.bool (decide (p0.un.1 = 3) && (decide (p0.un.2.1 < 0) || (decide (5 < p0.un.2.1) || (decide (p0.un.2.2.1 < 0) || decide ((EQ p0.un.2.1) < p0.un.2.2.1)))))); try rw [hb3]; try rw [hb1]; try rw [hb2]; try rw [hb0]; all_goals simp only [Bool.not_true, Bool.not_false, Bool.true_and, Bool.false_and, Bool.true_or, Bool.false_or, Bool.and_true, Bool.or_false, cond_true, cond_false]), trivial⟩, W⟩
  rw [hb0] at F
  iterate 4 refine B4 F (Bi F Aa Aa Aa Aa Aa) Aa Aa fun a F => ?_
  iterate 3 refine B4 F (JF F Aa Aa Aa Aa) Aa Aa fun a F => ?_
  iterate 2 refine B4 F (Bi F Aa Aa Aa Aa Aa) Aa Aa fun a F => ?_
  iterate 3 refine B4 F (JF F Aa Aa Aa Aa) Aa Aa fun a F => ?_
  iterate 2 refine B4 F (Bi F Aa Aa Aa Aa Aa) Aa Aa fun a F => ?_
  iterate 6 refine B4 F (JF F Aa Aa Aa Aa) Aa Aa fun a F => ?_
  refine B4 F (Bi F Aa Aa Aa Aa Aa) Aa Aa fun a F => ?_
  refine qs F Aa (As F Aa Aa Aa).q fun a F => ?_
  refine A9 fun w W => ?_
  refine Ac ?_
  exact ⟨F.re ⟨rfl, Aa, Aa, (by show some (Value.bool false) = some (Value.bool (decide (p0.un.1 = 3) && (decide (p0.un.2.1 < 0) || (decide (5 < p0.un.2.1) || (decide (p0.un.2.2.1 < 0) || decide ((EQ p0.un.2.1) < p0.un.2.2.1)))))); try rw [hb0]; all_goals simp only [Bool.not_true, Bool.not_false, Bool.true_and, Bool.false_and, Bool.true_or, Bool.false_or, Bool.and_true, Bool.or_false, cond_true, cond_false]), trivial⟩, W⟩
 rintro a w ⟨F, W⟩
 refine Aw F Aa (fun hb => ?_) fun hb => ?_
 ·
  have H := AV hb H
  rw [hb] at F
  refine Ah (Ab ?_)
  refine ls F W Aa (Ae F Aa).q fun a w F W => ?_
  refine Ad (Ac (Av (AN ?_)))
  have H := AP H
  subst H
  refine AJ (.inl Aa) F W Aa (AB F Aa) ?_
  exact ⟨rfl, W.done⟩
 have H := AR (by rw [hb]; decide) H
 rw [hb] at F
 refine Ay (Ac (Ah ?_))
 refine AO (fun a w => Fr 98 [] [(1, .pointer (some ⟨b1, 0, none⟩)), (2, .bool false), (3, .int .i64 (p0.un.2.2.2.length : Int)), (85, .bool (bif decide (p0.un.1 ≤ 3) then (decide ((p0.un.2.2.2.length : Int) ≠ 0) || (bif decide (p0.un.1 = 4) then (decide ((p0.un.2.2.2.length : Int) ≠ 1) || (decide (5 ≤ p0.un.1) && (decide ((p0.un.2.2.2.length : Int) < 2) || decide (8 < (p0.un.2.2.2.length : Int))))) else (decide (5 ≤ p0.un.1) && (decide ((p0.un.2.2.2.length : Int) < 2) || decide (8 < (p0.un.2.2.2.length : Int)))))) else (bif decide (p0.un.1 = 4) then (decide ((p0.un.2.2.2.length : Int) ≠ 1) || (decide (5 ≤ p0.un.1) && (decide ((p0.un.2.2.2.length : Int) < 2) || decide (8 < (p0.un.2.2.2.length : Int))))) else (decide (5 ≤ p0.un.1) && (decide ((p0.un.2.2.2.length : Int) < 2) || decide (8 < (p0.un.2.2.2.length : Int)))))))] a ∧ Stw ⟨Y, [], w0⟩ [(b1, [.int .i64 p0.un.1, .int .i64 p0.un.2.1, .int .i64 p0.un.2.2.1, v1])] [] w) ?_ ?_
 ·
  refine Ab ?_
  refine ls F W Aa (Ai DN Aa Aa Aa T3 F Aa 0 Aa).q fun a w F W => ?_
  refine ls F W Aa (Ao (v := Value.int .i64 p0.un.1) 0 F Aa Aa T3 Aa).q fun a w F W => ?_
  refine ls F W Aa (H4 F Aa Aa).q fun a w F W => ?_
  refine ls F W Aa (Ag F Aa).q fun a w F W => ?_
  rcases bxq (decide (p0.un.1 ≤ 3)) with hb0 | hb0
  ·
   rw [hb0] at F
   refine AK F W (Af F Aa Aa Aa Aa) Aa (Ak Aa) (Ag F Aa).q fun a w F W => ?_
   refine AK F W (Af F Aa Aa Aa Aa) Aa (Ak Aa) (Ip F Aa Aa).q fun a w F W => ?_
   refine ls F W Aa (Ax F Aa Aa Aa).q fun a w F W => ?_
   refine ls F W Aa (Ag F Aa).q fun a w F W => ?_
   rcases bxq (decide ((p0.un.2.2.2.length : Int) ≠ 0)) with hb1 | hb1
   ·
    rw [hb1] at F
    iterate 4 refine Dz F Aa Aa Aa Aa Aa Aa Aa fun a F => ?_
    iterate 2 refine U1 F Aa Aa Aa Aa Aa Aa fun a F => ?_
    refine Dz F Aa Aa Aa Aa Aa Aa Aa fun a F => ?_
    refine ls F W Aa (Ax F Aa Aa Aa).q fun a w F W => ?_
    refine ls F W Aa (Ag F Aa).q fun a w F W => ?_
    iterate 4 refine Dz F Aa Aa Aa Aa Aa Aa Aa fun a F => ?_
    iterate 6 refine U1 F Aa Aa Aa Aa Aa Aa fun a F => ?_
    refine Dz F Aa Aa Aa Aa Aa Aa Aa fun a F => ?_
    refine ls F W Aa (Ax F Aa Aa Aa).q fun a w F W => ?_
    refine Ad (Ac ?_)
    exact ⟨F.re ⟨rfl, Aa, Aa, (by show some (Value.bool true) = some (Value.bool (bif decide (p0.un.1 ≤ 3) then (decide ((p0.un.2.2.2.length : Int) ≠ 0) || (bif decide (p0.un.1 = 4) then (decide ((p0.un.2.2.2.length : Int) ≠ 1) || (decide (5 ≤ p0.un.1) && (decide ((p0.un.2.2.2.length : Int) < 2) || decide (8 < (p0.un.2.2.2.length : Int))))) else (decide (5 ≤ p0.un.1) && (decide ((p0.un.2.2.2.length : Int) < 2) || decide (8 < (p0.un.2.2.2.length : Int)))))) else (bif decide (p0.un.1 = 4) then (decide ((p0.un.2.2.2.length : Int) ≠ 1) || (decide (5 ≤ p0.un.1) && (decide ((p0.un.2.2.2.length : Int) < 2) || decide (8 < (p0.un.2.2.2.length : Int))))) else (decide (5 ≤ p0.un.1) && (decide ((p0.un.2.2.2.length : Int) < 2) || decide (8 < (p0.un.2.2.2.length : Int))))))); try rw [hb1]; try rw [hb0]; all_goals simp only [Bool.not_true, Bool.not_false, Bool.true_and, Bool.false_and, Bool.true_or, Bool.false_or, Bool.and_true, Bool.or_false, cond_true, cond_false]), trivial⟩, W⟩
   rw [hb1] at F
   refine AK F W (Af F Aa Aa Aa Aa) Aa (Ak Aa) (Ai DN Aa Aa Aa T3 F Aa 0 Aa).q fun a w F W => ?_
   refine AK F W (Af F Aa Aa Aa Aa) Aa (Ak Aa) (Ao (v := Value.int .i64 p0.un.1) 0 F Aa Aa T3 Aa).q fun a w F W => ?_
   refine AK F W (Af F Aa Aa Aa Aa) Aa (Ak Aa) (A7 F Aa Aa).q fun a w F W => ?_
   refine AK F W (Af F Aa Aa Aa Aa) Aa (Ak Aa) (Ag F Aa).q fun a w F W => ?_
   rcases bxq (decide (p0.un.1 = 4)) with hb2 | hb2
   ·
    rw [hb2] at F
    refine AK F W (Af F Aa Aa Aa Aa) Aa (Ak Aa) (Ag F Aa).q fun a w F W => ?_
    refine AK F W (Af F Aa Aa Aa Aa) Aa (Ak Aa) (Ip F Aa Aa).q fun a w F W => ?_
    refine AK F W (Af F Aa Aa Aa Aa) Aa (Ak Aa) (Ax F Aa Aa Aa).q fun a w F W => ?_
    refine ls F W Aa (As F Aa Aa Aa).q fun a w F W => ?_
    refine ls F W Aa (Ag F Aa).q fun a w F W => ?_
    rcases bxq (decide ((p0.un.2.2.2.length : Int) ≠ 1)) with hb3 | hb3
    ·
     rw [hb3] at F
     iterate 4 refine Dz F Aa Aa Aa Aa Aa Aa Aa fun a F => ?_
     iterate 6 refine U1 F Aa Aa Aa Aa Aa Aa fun a F => ?_
     refine Dz F Aa Aa Aa Aa Aa Aa Aa fun a F => ?_
     refine ls F W Aa (Ax F Aa Aa Aa).q fun a w F W => ?_
     refine Ad (Ac ?_)
     exact ⟨F.re ⟨rfl, Aa, Aa, (by show some (Value.bool true) = some (Value.bool (bif decide (p0.un.1 ≤ 3) then (decide ((p0.un.2.2.2.length : Int) ≠ 0) || (bif decide (p0.un.1 = 4) then (decide ((p0.un.2.2.2.length : Int) ≠ 1) || (decide (5 ≤ p0.un.1) && (decide ((p0.un.2.2.2.length : Int) < 2) || decide (8 < (p0.un.2.2.2.length : Int))))) else (decide (5 ≤ p0.un.1) && (decide ((p0.un.2.2.2.length : Int) < 2) || decide (8 < (p0.un.2.2.2.length : Int)))))) else (bif decide (p0.un.1 = 4) then (decide ((p0.un.2.2.2.length : Int) ≠ 1) || (decide (5 ≤ p0.un.1) && (decide ((p0.un.2.2.2.length : Int) < 2) || decide (8 < (p0.un.2.2.2.length : Int))))) else (decide (5 ≤ p0.un.1) && (decide ((p0.un.2.2.2.length : Int) < 2) || decide (8 < (p0.un.2.2.2.length : Int))))))); try rw [hb1]; try rw [hb3]; try rw [hb0]; try rw [hb2]; all_goals simp only [Bool.not_true, Bool.not_false, Bool.true_and, Bool.false_and, Bool.true_or, Bool.false_or, Bool.and_true, Bool.or_false, cond_true, cond_false]), trivial⟩, W⟩
    rw [hb3] at F
    refine AK F W (Af F Aa Aa Aa Aa) Aa (Ak Aa) (Ai DN Aa Aa Aa T3 F Aa 0 Aa).q fun a w F W => ?_
    refine AK F W (Af F Aa Aa Aa Aa) Aa (Ak Aa) (Ao (v := Value.int .i64 p0.un.1) 0 F Aa Aa T3 Aa).q fun a w F W => ?_
    refine AK F W (Af F Aa Aa Aa Aa) Aa (Ak Aa) (D4 F Aa Aa).q fun a w F W => ?_
    refine AK F W (Af F Aa Aa Aa Aa) Aa (Ak Aa) (Ag F Aa).q fun a w F W => ?_
    rcases bxq (decide (5 ≤ p0.un.1)) with hb4 | hb4
    ·
     rw [hb4] at F
     refine AK F W (Af F Aa Aa Aa Aa) Aa (Ak Aa) (Ag F Aa).q fun a w F W => ?_
     refine AK F W (Af F Aa Aa Aa Aa) Aa (Ak Aa) (Cu F Aa Aa).q fun a w F W => ?_
     refine AK F W (Af F Aa Aa Aa Aa) Aa (Ak Aa) (Ag F Aa).q fun a w F W => ?_
     rcases bxq (decide ((p0.un.2.2.2.length : Int) < 2)) with hb5 | hb5
     ·
      rw [hb5] at F
      iterate 2 refine Dz F Aa Aa Aa Aa Aa Aa Aa fun a F => ?_
      iterate 2 refine AK F W (Af F Aa Aa Aa Aa) Aa (Ak Aa) (Ax F Aa Aa Aa).q fun a w F W => ?_
      refine ls F W Aa (As F Aa Aa Aa).q fun a w F W => ?_
      refine Ad (Ac ?_)
      exact ⟨F.re ⟨rfl, Aa, Aa, (by show some (Value.bool true) = some (Value.bool (bif decide (p0.un.1 ≤ 3) then (decide ((p0.un.2.2.2.length : Int) ≠ 0) || (bif decide (p0.un.1 = 4) then (decide ((p0.un.2.2.2.length : Int) ≠ 1) || (decide (5 ≤ p0.un.1) && (decide ((p0.un.2.2.2.length : Int) < 2) || decide (8 < (p0.un.2.2.2.length : Int))))) else (decide (5 ≤ p0.un.1) && (decide ((p0.un.2.2.2.length : Int) < 2) || decide (8 < (p0.un.2.2.2.length : Int)))))) else (bif decide (p0.un.1 = 4) then (decide ((p0.un.2.2.2.length : Int) ≠ 1) || (decide (5 ≤ p0.un.1) && (decide ((p0.un.2.2.2.length : Int) < 2) || decide (8 < (p0.un.2.2.2.length : Int))))) else (decide (5 ≤ p0.un.1) && (decide ((p0.un.2.2.2.length : Int) < 2) || decide (8 < (p0.un.2.2.2.length : Int))))))); try rw [hb1]; try rw [hb3]; try rw [hb5]; try rw [hb0]; try rw [hb2]; try rw [hb4]; all_goals simp only [Bool.not_true, Bool.not_false, Bool.true_and, Bool.false_and, Bool.true_or, Bool.false_or, Bool.and_true, Bool.or_false, cond_true, cond_false]), trivial⟩, W⟩
     rw [hb5] at F
     refine AK F W (Af F Aa Aa Aa Aa) Aa (Ak Aa) (Ag F Aa).q fun a w F W => ?_
     refine AK F W (Af F Aa Aa Aa Aa) Aa (Ak Aa) (HL F Aa Aa).q fun a w F W => ?_
     refine AK F W (Af F Aa Aa Aa Aa) Aa (Ak Aa) (As F Aa Aa Aa).q fun a w F W => ?_
     refine AK F W (Af F Aa Aa Aa Aa) Aa (Ak Aa) (Ax F Aa Aa Aa).q fun a w F W => ?_
     refine ls F W Aa (As F Aa Aa Aa).q fun a w F W => ?_
     refine Ad (Ac ?_)
     exact ⟨F.re ⟨rfl, Aa, Aa, (by show some (Value.bool (decide (8 < (p0.un.2.2.2.length : Int)))) = some (Value.bool (bif decide (p0.un.1 ≤ 3) then (decide ((p0.un.2.2.2.length : Int) ≠ 0) || (bif decide (p0.un.1 = 4) then (decide ((p0.un.2.2.2.length : Int) ≠ 1) || (decide (5 ≤ p0.un.1) && (decide ((p0.un.2.2.2.length : Int) < 2) || decide (8 < (p0.un.2.2.2.length : Int))))) else (decide (5 ≤ p0.un.1) && (decide ((p0.un.2.2.2.length : Int) < 2) || decide (8 < (p0.un.2.2.2.length : Int)))))) else (bif decide (p0.un.1 = 4) then (decide ((p0.un.2.2.2.length : Int) ≠ 1) || (decide (5 ≤ p0.un.1) && (decide ((p0.un.2.2.2.length : Int) < 2) || decide (8 < (p0.un.2.2.2.length : Int))))) else (decide (5 ≤ p0.un.1) && (decide ((p0.un.2.2.2.length : Int) < 2) || decide (8 < (p0.un.2.2.2.length : Int))))))); try rw [hb1]; try rw [hb3]; try rw [hb5]; try rw [hb0]; try rw [hb2]; try rw [hb4]; all_goals simp only [Bool.not_true, Bool.not_false, Bool.true_and, Bool.false_and, Bool.true_or, Bool.false_or, Bool.and_true, Bool.or_false, cond_true, cond_false]), trivial⟩, W⟩
    rw [hb4] at F
    iterate 3 refine Dz F Aa Aa Aa Aa Aa Aa Aa fun a F => ?_
    iterate 2 refine U1 F Aa Aa Aa Aa Aa Aa fun a F => ?_
    refine Dz F Aa Aa Aa Aa Aa Aa Aa fun a F => ?_
    refine AK F W (Af F Aa Aa Aa Aa) Aa (Ak Aa) (As F Aa Aa Aa).q fun a w F W => ?_
    refine ls F W Aa (As F Aa Aa Aa).q fun a w F W => ?_
    refine Ad (Ac ?_)
    exact ⟨F.re ⟨rfl, Aa, Aa, (by show some (Value.bool false) = some (Value.bool (bif decide (p0.un.1 ≤ 3) then (decide ((p0.un.2.2.2.length : Int) ≠ 0) || (bif decide (p0.un.1 = 4) then (decide ((p0.un.2.2.2.length : Int) ≠ 1) || (decide (5 ≤ p0.un.1) && (decide ((p0.un.2.2.2.length : Int) < 2) || decide (8 < (p0.un.2.2.2.length : Int))))) else (decide (5 ≤ p0.un.1) && (decide ((p0.un.2.2.2.length : Int) < 2) || decide (8 < (p0.un.2.2.2.length : Int)))))) else (bif decide (p0.un.1 = 4) then (decide ((p0.un.2.2.2.length : Int) ≠ 1) || (decide (5 ≤ p0.un.1) && (decide ((p0.un.2.2.2.length : Int) < 2) || decide (8 < (p0.un.2.2.2.length : Int))))) else (decide (5 ≤ p0.un.1) && (decide ((p0.un.2.2.2.length : Int) < 2) || decide (8 < (p0.un.2.2.2.length : Int))))))); try rw [hb1]; try rw [hb3]; try rw [hb0]; try rw [hb2]; try rw [hb4]; all_goals simp only [Bool.not_true, Bool.not_false, Bool.true_and, Bool.false_and, Bool.true_or, Bool.false_or, Bool.and_true, Bool.or_false, cond_true, cond_false]), trivial⟩, W⟩
   rw [hb2] at F
   iterate 2 refine Dz F Aa Aa Aa Aa Aa Aa Aa fun a F => ?_
   refine AK F W (Af F Aa Aa Aa Aa) Aa (Ak Aa) (As F Aa Aa Aa).q fun a w F W => ?_
   refine ls F W Aa (As F Aa Aa Aa).q fun a w F W => ?_
   refine ls F W Aa (Ag F Aa).q fun a w F W => ?_
   refine AK F W (Af F Aa Aa Aa Aa) Aa (Ak Aa) (Ai DN Aa Aa Aa T3 F Aa 0 Aa).q fun a w F W => ?_
   refine AK F W (Af F Aa Aa Aa Aa) Aa (Ak Aa) (Ao (v := Value.int .i64 p0.un.1) 0 F Aa Aa T3 Aa).q fun a w F W => ?_
   refine AK F W (Af F Aa Aa Aa Aa) Aa (Ak Aa) (D4 F Aa Aa).q fun a w F W => ?_
   refine AK F W (Af F Aa Aa Aa Aa) Aa (Ak Aa) (Ag F Aa).q fun a w F W => ?_
   rcases bxq (decide (5 ≤ p0.un.1)) with hb3 | hb3
   ·
    rw [hb3] at F
    refine AK F W (Af F Aa Aa Aa Aa) Aa (Ak Aa) (Ag F Aa).q fun a w F W => ?_
    refine AK F W (Af F Aa Aa Aa Aa) Aa (Ak Aa) (Cu F Aa Aa).q fun a w F W => ?_
    refine AK F W (Af F Aa Aa Aa Aa) Aa (Ak Aa) (Ag F Aa).q fun a w F W => ?_
    rcases bxq (decide ((p0.un.2.2.2.length : Int) < 2)) with hb4 | hb4
    ·
     rw [hb4] at F
     iterate 2 refine Dz F Aa Aa Aa Aa Aa Aa Aa fun a F => ?_
     iterate 2 refine AK F W (Af F Aa Aa Aa Aa) Aa (Ak Aa) (Ax F Aa Aa Aa).q fun a w F W => ?_
     refine ls F W Aa (As F Aa Aa Aa).q fun a w F W => ?_
     refine Ad (Ac ?_)
     exact ⟨F.re ⟨rfl, Aa, Aa, (by show some (Value.bool true) = some (Value.bool (bif decide (p0.un.1 ≤ 3) then (decide ((p0.un.2.2.2.length : Int) ≠ 0) || (bif decide (p0.un.1 = 4) then (decide ((p0.un.2.2.2.length : Int) ≠ 1) || (decide (5 ≤ p0.un.1) && (decide ((p0.un.2.2.2.length : Int) < 2) || decide (8 < (p0.un.2.2.2.length : Int))))) else (decide (5 ≤ p0.un.1) && (decide ((p0.un.2.2.2.length : Int) < 2) || decide (8 < (p0.un.2.2.2.length : Int)))))) else (bif decide (p0.un.1 = 4) then (decide ((p0.un.2.2.2.length : Int) ≠ 1) || (decide (5 ≤ p0.un.1) && (decide ((p0.un.2.2.2.length : Int) < 2) || decide (8 < (p0.un.2.2.2.length : Int))))) else (decide (5 ≤ p0.un.1) && (decide ((p0.un.2.2.2.length : Int) < 2) || decide (8 < (p0.un.2.2.2.length : Int))))))); try rw [hb1]; try rw [hb4]; try rw [hb0]; try rw [hb2]; try rw [hb3]; all_goals simp only [Bool.not_true, Bool.not_false, Bool.true_and, Bool.false_and, Bool.true_or, Bool.false_or, Bool.and_true, Bool.or_false, cond_true, cond_false]), trivial⟩, W⟩
    rw [hb4] at F
    refine AK F W (Af F Aa Aa Aa Aa) Aa (Ak Aa) (Ag F Aa).q fun a w F W => ?_
    refine AK F W (Af F Aa Aa Aa Aa) Aa (Ak Aa) (HL F Aa Aa).q fun a w F W => ?_
    refine AK F W (Af F Aa Aa Aa Aa) Aa (Ak Aa) (As F Aa Aa Aa).q fun a w F W => ?_
    refine AK F W (Af F Aa Aa Aa Aa) Aa (Ak Aa) (Ax F Aa Aa Aa).q fun a w F W => ?_
    refine ls F W Aa (As F Aa Aa Aa).q fun a w F W => ?_
    refine Ad (Ac ?_)
    exact ⟨F.re ⟨rfl, Aa, Aa, (by show some (Value.bool (decide (8 < (p0.un.2.2.2.length : Int)))) = some (Value.bool (bif decide (p0.un.1 ≤ 3) then (decide ((p0.un.2.2.2.length : Int) ≠ 0) || (bif decide (p0.un.1 = 4) then (decide ((p0.un.2.2.2.length : Int) ≠ 1) || (decide (5 ≤ p0.un.1) && (decide ((p0.un.2.2.2.length : Int) < 2) || decide (8 < (p0.un.2.2.2.length : Int))))) else (decide (5 ≤ p0.un.1) && (decide ((p0.un.2.2.2.length : Int) < 2) || decide (8 < (p0.un.2.2.2.length : Int)))))) else (bif decide (p0.un.1 = 4) then (decide ((p0.un.2.2.2.length : Int) ≠ 1) || (decide (5 ≤ p0.un.1) && (decide ((p0.un.2.2.2.length : Int) < 2) || decide (8 < (p0.un.2.2.2.length : Int))))) else (decide (5 ≤ p0.un.1) && (decide ((p0.un.2.2.2.length : Int) < 2) || decide (8 < (p0.un.2.2.2.length : Int))))))); try rw [hb1]; try rw [hb4]; try rw [hb0]; try rw [hb2]; try rw [hb3]; all_goals simp only [Bool.not_true, Bool.not_false, Bool.true_and, Bool.false_and, Bool.true_or, Bool.false_or, Bool.and_true, Bool.or_false, cond_true, cond_false]), trivial⟩, W⟩
   rw [hb3] at F
   iterate 3 refine Dz F Aa Aa Aa Aa Aa Aa Aa fun a F => ?_
   iterate 2 refine U1 F Aa Aa Aa Aa Aa Aa fun a F => ?_
   refine Dz F Aa Aa Aa Aa Aa Aa Aa fun a F => ?_
   refine AK F W (Af F Aa Aa Aa Aa) Aa (Ak Aa) (As F Aa Aa Aa).q fun a w F W => ?_
   refine ls F W Aa (As F Aa Aa Aa).q fun a w F W => ?_
   refine Ad (Ac ?_)
   exact ⟨F.re ⟨rfl, Aa, Aa, (by show some (Value.bool false) = some (Value.bool (bif decide (p0.un.1 ≤ 3) then (decide ((p0.un.2.2.2.length : Int) ≠ 0) || (bif decide (p0.un.1 = 4) then (decide ((p0.un.2.2.2.length : Int) ≠ 1) || (decide (5 ≤ p0.un.1) && (decide ((p0.un.2.2.2.length : Int) < 2) || decide (8 < (p0.un.2.2.2.length : Int))))) else (decide (5 ≤ p0.un.1) && (decide ((p0.un.2.2.2.length : Int) < 2) || decide (8 < (p0.un.2.2.2.length : Int)))))) else (bif decide (p0.un.1 = 4) then (decide ((p0.un.2.2.2.length : Int) ≠ 1) || (decide (5 ≤ p0.un.1) && (decide ((p0.un.2.2.2.length : Int) < 2) || decide (8 < (p0.un.2.2.2.length : Int))))) else (decide (5 ≤ p0.un.1) && (decide ((p0.un.2.2.2.length : Int) < 2) || decide (8 < (p0.un.2.2.2.length : Int))))))); try rw [hb1]; try rw [hb0]; try rw [hb2]; try rw [hb3]; all_goals simp only [Bool.not_true, Bool.not_false, Bool.true_and, Bool.false_and, Bool.true_or, Bool.false_or, Bool.and_true, Bool.or_false, cond_true, cond_false]), trivial⟩, W⟩
  rw [hb0] at F
  iterate 2 refine Dz F Aa Aa Aa Aa Aa Aa Aa fun a F => ?_
  refine ls F W Aa (As F Aa Aa Aa).q fun a w F W => ?_
  refine ls F W Aa (Ag F Aa).q fun a w F W => ?_
  refine AK F W (Af F Aa Aa Aa Aa) Aa (Ak Aa) (Ai DN Aa Aa Aa T3 F Aa 0 Aa).q fun a w F W => ?_
  refine AK F W (Af F Aa Aa Aa Aa) Aa (Ak Aa) (Ao (v := Value.int .i64 p0.un.1) 0 F Aa Aa T3 Aa).q fun a w F W => ?_
  refine AK F W (Af F Aa Aa Aa Aa) Aa (Ak Aa) (A7 F Aa Aa).q fun a w F W => ?_
  refine AK F W (Af F Aa Aa Aa Aa) Aa (Ak Aa) (Ag F Aa).q fun a w F W => ?_
  rcases bxq (decide (p0.un.1 = 4)) with hb1 | hb1
  ·
   rw [hb1] at F
   refine AK F W (Af F Aa Aa Aa Aa) Aa (Ak Aa) (Ag F Aa).q fun a w F W => ?_
   refine AK F W (Af F Aa Aa Aa Aa) Aa (Ak Aa) (Ip F Aa Aa).q fun a w F W => ?_
   refine AK F W (Af F Aa Aa Aa Aa) Aa (Ak Aa) (Ax F Aa Aa Aa).q fun a w F W => ?_
   refine ls F W Aa (As F Aa Aa Aa).q fun a w F W => ?_
   refine ls F W Aa (Ag F Aa).q fun a w F W => ?_
   rcases bxq (decide ((p0.un.2.2.2.length : Int) ≠ 1)) with hb2 | hb2
   ·
    rw [hb2] at F
    iterate 4 refine Dz F Aa Aa Aa Aa Aa Aa Aa fun a F => ?_
    iterate 6 refine U1 F Aa Aa Aa Aa Aa Aa fun a F => ?_
    refine Dz F Aa Aa Aa Aa Aa Aa Aa fun a F => ?_
    refine ls F W Aa (Ax F Aa Aa Aa).q fun a w F W => ?_
    refine Ad (Ac ?_)
    exact ⟨F.re ⟨rfl, Aa, Aa, (by show some (Value.bool true) = some (Value.bool (bif decide (p0.un.1 ≤ 3) then (decide ((p0.un.2.2.2.length : Int) ≠ 0) || (bif decide (p0.un.1 = 4) then (decide ((p0.un.2.2.2.length : Int) ≠ 1) || (decide (5 ≤ p0.un.1) && (decide ((p0.un.2.2.2.length : Int) < 2) || decide (8 < (p0.un.2.2.2.length : Int))))) else (decide (5 ≤ p0.un.1) && (decide ((p0.un.2.2.2.length : Int) < 2) || decide (8 < (p0.un.2.2.2.length : Int)))))) else (bif decide (p0.un.1 = 4) then (decide ((p0.un.2.2.2.length : Int) ≠ 1) || (decide (5 ≤ p0.un.1) && (decide ((p0.un.2.2.2.length : Int) < 2) || decide (8 < (p0.un.2.2.2.length : Int))))) else (decide (5 ≤ p0.un.1) && (decide ((p0.un.2.2.2.length : Int) < 2) || decide (8 < (p0.un.2.2.2.length : Int))))))); try rw [hb2]; try rw [hb0]; try rw [hb1]; all_goals simp only [Bool.not_true, Bool.not_false, Bool.true_and, Bool.false_and, Bool.true_or, Bool.false_or, Bool.and_true, Bool.or_false, cond_true, cond_false]), trivial⟩, W⟩
   rw [hb2] at F
   refine AK F W (Af F Aa Aa Aa Aa) Aa (Ak Aa) (Ai DN Aa Aa Aa T3 F Aa 0 Aa).q fun a w F W => ?_
   refine AK F W (Af F Aa Aa Aa Aa) Aa (Ak Aa) (Ao (v := Value.int .i64 p0.un.1) 0 F Aa Aa T3 Aa).q fun a w F W => ?_
   refine AK F W (Af F Aa Aa Aa Aa) Aa (Ak Aa) (D4 F Aa Aa).q fun a w F W => ?_
   refine AK F W (Af F Aa Aa Aa Aa) Aa (Ak Aa) (Ag F Aa).q fun a w F W => ?_
   rcases bxq (decide (5 ≤ p0.un.1)) with hb3 | hb3
   ·
    rw [hb3] at F
    refine AK F W (Af F Aa Aa Aa Aa) Aa (Ak Aa) (Ag F Aa).q fun a w F W => ?_
    refine AK F W (Af F Aa Aa Aa Aa) Aa (Ak Aa) (Cu F Aa Aa).q fun a w F W => ?_
    refine AK F W (Af F Aa Aa Aa Aa) Aa (Ak Aa) (Ag F Aa).q fun a w F W => ?_
    rcases bxq (decide ((p0.un.2.2.2.length : Int) < 2)) with hb4 | hb4
    ·
     rw [hb4] at F
     iterate 2 refine Dz F Aa Aa Aa Aa Aa Aa Aa fun a F => ?_
     iterate 2 refine AK F W (Af F Aa Aa Aa Aa) Aa (Ak Aa) (Ax F Aa Aa Aa).q fun a w F W => ?_
     refine ls F W Aa (As F Aa Aa Aa).q fun a w F W => ?_
     refine Ad (Ac ?_)
     exact ⟨F.re ⟨rfl, Aa, Aa, (by show some (Value.bool true) = some (Value.bool (bif decide (p0.un.1 ≤ 3) then (decide ((p0.un.2.2.2.length : Int) ≠ 0) || (bif decide (p0.un.1 = 4) then (decide ((p0.un.2.2.2.length : Int) ≠ 1) || (decide (5 ≤ p0.un.1) && (decide ((p0.un.2.2.2.length : Int) < 2) || decide (8 < (p0.un.2.2.2.length : Int))))) else (decide (5 ≤ p0.un.1) && (decide ((p0.un.2.2.2.length : Int) < 2) || decide (8 < (p0.un.2.2.2.length : Int)))))) else (bif decide (p0.un.1 = 4) then (decide ((p0.un.2.2.2.length : Int) ≠ 1) || (decide (5 ≤ p0.un.1) && (decide ((p0.un.2.2.2.length : Int) < 2) || decide (8 < (p0.un.2.2.2.length : Int))))) else (decide (5 ≤ p0.un.1) && (decide ((p0.un.2.2.2.length : Int) < 2) || decide (8 < (p0.un.2.2.2.length : Int))))))); try rw [hb2]; try rw [hb4]; try rw [hb0]; try rw [hb1]; try rw [hb3]; all_goals simp only [Bool.not_true, Bool.not_false, Bool.true_and, Bool.false_and, Bool.true_or, Bool.false_or, Bool.and_true, Bool.or_false, cond_true, cond_false]), trivial⟩, W⟩
    rw [hb4] at F
    refine AK F W (Af F Aa Aa Aa Aa) Aa (Ak Aa) (Ag F Aa).q fun a w F W => ?_
    refine AK F W (Af F Aa Aa Aa Aa) Aa (Ak Aa) (HL F Aa Aa).q fun a w F W => ?_
    refine AK F W (Af F Aa Aa Aa Aa) Aa (Ak Aa) (As F Aa Aa Aa).q fun a w F W => ?_
    refine AK F W (Af F Aa Aa Aa Aa) Aa (Ak Aa) (Ax F Aa Aa Aa).q fun a w F W => ?_
    refine ls F W Aa (As F Aa Aa Aa).q fun a w F W => ?_
    refine Ad (Ac ?_)
    exact ⟨F.re ⟨rfl, Aa, Aa, (by show some (Value.bool (decide (8 < (p0.un.2.2.2.length : Int)))) = some (Value.bool (bif decide (p0.un.1 ≤ 3) then (decide ((p0.un.2.2.2.length : Int) ≠ 0) || (bif decide (p0.un.1 = 4) then (decide ((p0.un.2.2.2.length : Int) ≠ 1) || (decide (5 ≤ p0.un.1) && (decide ((p0.un.2.2.2.length : Int) < 2) || decide (8 < (p0.un.2.2.2.length : Int))))) else (decide (5 ≤ p0.un.1) && (decide ((p0.un.2.2.2.length : Int) < 2) || decide (8 < (p0.un.2.2.2.length : Int)))))) else (bif decide (p0.un.1 = 4) then (decide ((p0.un.2.2.2.length : Int) ≠ 1) || (decide (5 ≤ p0.un.1) && (decide ((p0.un.2.2.2.length : Int) < 2) || decide (8 < (p0.un.2.2.2.length : Int))))) else (decide (5 ≤ p0.un.1) && (decide ((p0.un.2.2.2.length : Int) < 2) || decide (8 < (p0.un.2.2.2.length : Int))))))); try rw [hb2]; try rw [hb4]; try rw [hb0]; try rw [hb1]; try rw [hb3]; all_goals simp only [Bool.not_true, Bool.not_false, Bool.true_and, Bool.false_and, Bool.true_or, Bool.false_or, Bool.and_true, Bool.or_false, cond_true, cond_false]), trivial⟩, W⟩
   rw [hb3] at F
   iterate 3 refine Dz F Aa Aa Aa Aa Aa Aa Aa fun a F => ?_
   iterate 2 refine U1 F Aa Aa Aa Aa Aa Aa fun a F => ?_
   refine Dz F Aa Aa Aa Aa Aa Aa Aa fun a F => ?_
   refine AK F W (Af F Aa Aa Aa Aa) Aa (Ak Aa) (As F Aa Aa Aa).q fun a w F W => ?_
   refine ls F W Aa (As F Aa Aa Aa).q fun a w F W => ?_
   refine Ad (Ac ?_)
   exact ⟨F.re ⟨rfl, Aa, Aa, (by show some (Value.bool false) = some (Value.bool (bif decide (p0.un.1 ≤ 3) then (decide ((p0.un.2.2.2.length : Int) ≠ 0) || (bif decide (p0.un.1 = 4) then (decide ((p0.un.2.2.2.length : Int) ≠ 1) || (decide (5 ≤ p0.un.1) && (decide ((p0.un.2.2.2.length : Int) < 2) || decide (8 < (p0.un.2.2.2.length : Int))))) else (decide (5 ≤ p0.un.1) && (decide ((p0.un.2.2.2.length : Int) < 2) || decide (8 < (p0.un.2.2.2.length : Int)))))) else (bif decide (p0.un.1 = 4) then (decide ((p0.un.2.2.2.length : Int) ≠ 1) || (decide (5 ≤ p0.un.1) && (decide ((p0.un.2.2.2.length : Int) < 2) || decide (8 < (p0.un.2.2.2.length : Int))))) else (decide (5 ≤ p0.un.1) && (decide ((p0.un.2.2.2.length : Int) < 2) || decide (8 < (p0.un.2.2.2.length : Int))))))); try rw [hb2]; try rw [hb0]; try rw [hb1]; try rw [hb3]; all_goals simp only [Bool.not_true, Bool.not_false, Bool.true_and, Bool.false_and, Bool.true_or, Bool.false_or, Bool.and_true, Bool.or_false, cond_true, cond_false]), trivial⟩, W⟩
  rw [hb1] at F
  iterate 2 refine Dz F Aa Aa Aa Aa Aa Aa Aa fun a F => ?_
  refine AK F W (Af F Aa Aa Aa Aa) Aa (Ak Aa) (As F Aa Aa Aa).q fun a w F W => ?_
  refine ls F W Aa (As F Aa Aa Aa).q fun a w F W => ?_
  refine ls F W Aa (Ag F Aa).q fun a w F W => ?_
  refine AK F W (Af F Aa Aa Aa Aa) Aa (Ak Aa) (Ai DN Aa Aa Aa T3 F Aa 0 Aa).q fun a w F W => ?_
  refine AK F W (Af F Aa Aa Aa Aa) Aa (Ak Aa) (Ao (v := Value.int .i64 p0.un.1) 0 F Aa Aa T3 Aa).q fun a w F W => ?_
  refine AK F W (Af F Aa Aa Aa Aa) Aa (Ak Aa) (D4 F Aa Aa).q fun a w F W => ?_
  refine AK F W (Af F Aa Aa Aa Aa) Aa (Ak Aa) (Ag F Aa).q fun a w F W => ?_
  rcases bxq (decide (5 ≤ p0.un.1)) with hb2 | hb2
  ·
   rw [hb2] at F
   refine AK F W (Af F Aa Aa Aa Aa) Aa (Ak Aa) (Ag F Aa).q fun a w F W => ?_
   refine AK F W (Af F Aa Aa Aa Aa) Aa (Ak Aa) (Cu F Aa Aa).q fun a w F W => ?_
   refine AK F W (Af F Aa Aa Aa Aa) Aa (Ak Aa) (Ag F Aa).q fun a w F W => ?_
   rcases bxq (decide ((p0.un.2.2.2.length : Int) < 2)) with hb3 | hb3
   ·
    rw [hb3] at F
    iterate 2 refine Dz F Aa Aa Aa Aa Aa Aa Aa fun a F => ?_
    iterate 2 refine AK F W (Af F Aa Aa Aa Aa) Aa (Ak Aa) (Ax F Aa Aa Aa).q fun a w F W => ?_
    refine ls F W Aa (As F Aa Aa Aa).q fun a w F W => ?_
    refine Ad (Ac ?_)
    exact ⟨F.re ⟨rfl, Aa, Aa, (by show some (Value.bool true) = some (Value.bool (bif decide (p0.un.1 ≤ 3) then (decide ((p0.un.2.2.2.length : Int) ≠ 0) || (bif decide (p0.un.1 = 4) then (decide ((p0.un.2.2.2.length : Int) ≠ 1) || (decide (5 ≤ p0.un.1) && (decide ((p0.un.2.2.2.length : Int) < 2) || decide (8 < (p0.un.2.2.2.length : Int))))) else (decide (5 ≤ p0.un.1) && (decide ((p0.un.2.2.2.length : Int) < 2) || decide (8 < (p0.un.2.2.2.length : Int)))))) else (bif decide (p0.un.1 = 4) then (decide ((p0.un.2.2.2.length : Int) ≠ 1) || (decide (5 ≤ p0.un.1) && (decide ((p0.un.2.2.2.length : Int) < 2) || decide (8 < (p0.un.2.2.2.length : Int))))) else (decide (5 ≤ p0.un.1) && (decide ((p0.un.2.2.2.length : Int) < 2) || decide (8 < (p0.un.2.2.2.length : Int))))))); try rw [hb3]; try rw [hb0]; try rw [hb1]; try rw [hb2]; all_goals simp only [Bool.not_true, Bool.not_false, Bool.true_and, Bool.false_and, Bool.true_or, Bool.false_or, Bool.and_true, Bool.or_false, cond_true, cond_false]), trivial⟩, W⟩
   rw [hb3] at F
   refine AK F W (Af F Aa Aa Aa Aa) Aa (Ak Aa) (Ag F Aa).q fun a w F W => ?_
   refine AK F W (Af F Aa Aa Aa Aa) Aa (Ak Aa) (HL F Aa Aa).q fun a w F W => ?_
   refine AK F W (Af F Aa Aa Aa Aa) Aa (Ak Aa) (As F Aa Aa Aa).q fun a w F W => ?_
   refine AK F W (Af F Aa Aa Aa Aa) Aa (Ak Aa) (Ax F Aa Aa Aa).q fun a w F W => ?_
   refine ls F W Aa (As F Aa Aa Aa).q fun a w F W => ?_
   refine Ad (Ac ?_)
   exact ⟨F.re ⟨rfl, Aa, Aa, (by show some (Value.bool (decide (8 < (p0.un.2.2.2.length : Int)))) = some (Value.bool (bif decide (p0.un.1 ≤ 3) then (decide ((p0.un.2.2.2.length : Int) ≠ 0) || (bif decide (p0.un.1 = 4) then (decide ((p0.un.2.2.2.length : Int) ≠ 1) || (decide (5 ≤ p0.un.1) && (decide ((p0.un.2.2.2.length : Int) < 2) || decide (8 < (p0.un.2.2.2.length : Int))))) else (decide (5 ≤ p0.un.1) && (decide ((p0.un.2.2.2.length : Int) < 2) || decide (8 < (p0.un.2.2.2.length : Int)))))) else (bif decide (p0.un.1 = 4) then (decide ((p0.un.2.2.2.length : Int) ≠ 1) || (decide (5 ≤ p0.un.1) && (decide ((p0.un.2.2.2.length : Int) < 2) || decide (8 < (p0.un.2.2.2.length : Int))))) else (decide (5 ≤ p0.un.1) && (decide ((p0.un.2.2.2.length : Int) < 2) || decide (8 < (p0.un.2.2.2.length : Int))))))); try rw [hb3]; try rw [hb0]; try rw [hb1]; try rw [hb2]; all_goals simp only [Bool.not_true, Bool.not_false, Bool.true_and, Bool.false_and, Bool.true_or, Bool.false_or, Bool.and_true, Bool.or_false, cond_true, cond_false]), trivial⟩, W⟩
  rw [hb2] at F
  iterate 3 refine Dz F Aa Aa Aa Aa Aa Aa Aa fun a F => ?_
  iterate 2 refine U1 F Aa Aa Aa Aa Aa Aa fun a F => ?_
  refine Dz F Aa Aa Aa Aa Aa Aa Aa fun a F => ?_
  refine AK F W (Af F Aa Aa Aa Aa) Aa (Ak Aa) (As F Aa Aa Aa).q fun a w F W => ?_
  refine ls F W Aa (As F Aa Aa Aa).q fun a w F W => ?_
  refine Ad (Ac ?_)
  exact ⟨F.re ⟨rfl, Aa, Aa, (by show some (Value.bool false) = some (Value.bool (bif decide (p0.un.1 ≤ 3) then (decide ((p0.un.2.2.2.length : Int) ≠ 0) || (bif decide (p0.un.1 = 4) then (decide ((p0.un.2.2.2.length : Int) ≠ 1) || (decide (5 ≤ p0.un.1) && (decide ((p0.un.2.2.2.length : Int) < 2) || decide (8 < (p0.un.2.2.2.length : Int))))) else (decide (5 ≤ p0.un.1) && (decide ((p0.un.2.2.2.length : Int) < 2) || decide (8 < (p0.un.2.2.2.length : Int)))))) else (bif decide (p0.un.1 = 4) then (decide ((p0.un.2.2.2.length : Int) ≠ 1) || (decide (5 ≤ p0.un.1) && (decide ((p0.un.2.2.2.length : Int) < 2) || decide (8 < (p0.un.2.2.2.length : Int))))) else (decide (5 ≤ p0.un.1) && (decide ((p0.un.2.2.2.length : Int) < 2) || decide (8 < (p0.un.2.2.2.length : Int))))))); try rw [hb0]; try rw [hb1]; try rw [hb2]; all_goals simp only [Bool.not_true, Bool.not_false, Bool.true_and, Bool.false_and, Bool.true_or, Bool.false_or, Bool.and_true, Bool.or_false, cond_true, cond_false]), trivial⟩, W⟩
 rintro a w ⟨F, W⟩
 refine Aw F Aa (fun hb => ?_) fun hb => ?_
 ·
  have H := AV hb H
  rw [hb] at F
  refine Ah (Ab ?_)
  refine ls F W Aa (Ae F Aa).q fun a w F W => ?_
  refine Ad (Ac (Av (AN ?_)))
  have H := AP H
  subst H
  refine AJ (.inl Aa) F W Aa (AB F Aa) ?_
  exact ⟨rfl, W.done⟩
 have H := AR (by rw [hb]; decide) H
 rw [hb] at F
 refine Ay (Ac ?_)
 obtain ⟨o1, G1, K1, L1⟩ := PQ H
 refine AO (fun a w => some (Sum.inl ()) = some o1 ∧ Fr 98 [] [(2, .bool false)] a ∧ Stw ⟨Y, [], w0⟩ [(b1, [.int .i64 p0.un.1, .int .i64 p0.un.2.1, .int .i64 p0.un.2.2.1, v1])] [] w) ?_ ?_
 ·
  have H := G1
  refine Ah (Ab ?_)
  refine ls F W Aa (Ae F Aa).q fun a w F W => ?_
  refine Ad (Ac (Az ?_))
  refine BG H (fun s a w => Fr 98 [] [(1, .pointer (some ⟨b1, 0, none⟩)), (2, .bool false), (3, .int .i64 (p0.un.2.2.2.length : Int)), (4, .int .i64 s)] a ∧ Stw ⟨Y, [], w0⟩ [(b1, [.int .i64 p0.un.1, .int .i64 p0.un.2.1, .int .i64 p0.un.2.2.1, v1])] [] w) ⟨F.re ⟨rfl, Aa, Aa, Aa, trivial⟩, W⟩ fun s o a w H L2 hR => ?_
  obtain ⟨x1, rfl⟩ : ∃ x, x = s := ⟨s, rfl⟩
  obtain ⟨F, W⟩ := hR
  have F : Fr 98 [] [(1, .pointer (some ⟨b1, 0, none⟩)), (2, .bool false), (3, .int .i64 (p0.un.2.2.2.length : Int)), (4, .int .i64 x1)] a := F
  have W : Stw ⟨Y, [], w0⟩ [(b1, [.int .i64 p0.un.1, .int .i64 p0.un.2.1, .int .i64 p0.un.2.2.1, v1])] [] w := W
  rw [F2] at H
  refine Ah (Ah (Ab ?_))
  iterate 2 refine ls F W Aa (Ag F Aa).q fun a w F W => ?_
  refine ls F W Aa (Cu F Aa Aa).q fun a w F W => ?_
  refine Ad (Ac ?_)
  refine Aw F Aa (fun hb => ?_) fun hb => ?_
  ·
   have H := AV (Bg hb) H
   rw [hb] at F
   refine Ay (Ac (Ah (Az (Ah (Ab ?_)))))
   refine ls F W Aa (Ai DN Aa Aa Aa LB F Aa 3 Aa).q fun a w F W => ?_
   refine ls F W Aa (Ao (v := v1) 0 F Aa Aa LB Aa).q fun a w F W => ?_
   refine ls F W Aa (Ag F Aa).q fun a w F W => ?_
   obtain ⟨x2, h2, H⟩ := Am H
   obtain ⟨v3, h3, h4⟩ := Ez h1 h2
   have h5 : Kk v3 = [.int .i64 x2.un.1, .int .i64 x2.un.2.1, .int .i64 x2.un.2.2.1, (v3.2.2.2.1)] := congrArg (fun q : Tr28 => ([.int .i64 q.un.1, .int .i64 q.un.2.1, .int .i64 q.un.2.2.1, (v3.2.2.2.1)] : List Value)) h4
   refine ls F W Aa (AM (r := Mz) SH F Aa Aa (Aq h_v1) h3).q fun a w F W => ?_
   refine ls F W Aa (AA (y := Value.agg #[.int .i64 x2.un.1, .int .i64 x2.un.2.1, .int .i64 x2.un.2.2.1, (v3.2.2.2.1)]) (j := 0) (i := x1) (enc := Kk) F Aa Aa (Aq h_v1) h3 QD Kh (by rw [h5]; rfl)).q fun a w F W => ?_
   obtain ⟨x3, h6, H⟩ := Am H
   refine ls F W Aa (A3 (v := Value.bool x3) F X3 Aa (fun w W => ih any w ((v3.2.2.2.1)) x2 _ h6 (((Cn (Aq h_v1) h3 (AC.snd (AC.snd (AC.snd AC.here))) (congrArg (fun q : Tr28 => q.un.2.2.2) h4)) : D1 _ _ _ _ _ _) w W).nx)) fun a w F W => ?_
   refine ls F W Aa (F4 F Aa).q fun a w F W => ?_
   refine Ad (Ac ?_)
   refine Aw F Aa (fun hb => ?_) fun hb => ?_
   ·
    have H := AV hb H
    rw [hb] at F
    refine Ah (Ab ?_)
    refine ls F W Aa (Ae F Aa).q fun a w F W => ?_
    refine Ad (Ac (Av (AQ ?_)))
    iterate 2 refine AN ?_
    refine AQ (AN ?_)
    have H := L2 _ H
    have H := L1 _ H
    have H := AP H
    subst H
    refine AJ (.inl Aa) F W Aa (AB F Aa) ?_
    exact ⟨rfl, W.done⟩
   have H := AR (by rw [hb]; decide) H
   rw [hb] at F
   refine Ay (AU (Ac (Ab ?_)))
   refine ls F W Aa (Ag F Aa).q fun a w F W => ?_
   refine ls F W Aa (BL F Aa Aa Aa).q fun a w F W => ?_
   refine ls F W Aa (Ae F Aa).q fun a w F W => ?_
   refine Ad (Ac ?_)
   exact ⟨_, H, F.re ⟨rfl, Aa, Aa, Aa, trivial⟩, W⟩
  have H := AR (Bf hb) H
  rw [hb] at F
  refine Bz ?_
  iterate 2 refine BS ?_
  refine Bx (Ac ?_)
  have H := L2 _ H
  exact ⟨H, F.re ⟨rfl, trivial⟩, W⟩
 rintro a w ⟨hj, F, W⟩
 have H := K1 _ hj
 refine Ah (Ab ?_)
 refine ls F W Aa (Ae F Aa).q fun a w F W => ?_
 refine Ad (Ac (Av ?_))
 have H := AP H
 subst H
 refine AJ (.inl Aa) F W Aa (AB F Aa) ?_
 exact ⟨rfl, W.done⟩
theorem St : ∀ (n : Nat) (Y : Nat → Prop) (w0 : World) (v1 : Value) (p0 : Tr28) (r : Bool) (H : E3 n p0 = some r) (h_v1 : Sl w0 (NX []) EC v1 p0.un.2.2.2), Calls Tryz.prog 47 #[.agg #[.int .i64 p0.un.1, .int .i64 p0.un.2.1, .int .i64 p0.un.2.2.1, v1]] w0 fun e w' => e = .returned (.bool r) ∧ Below w0.heap.size w0 w' := by
  intro n
  induction n with
  | zero => intro Y w0 v1 p0 r H; exact nomatch H
  | succ n ih => intro Y w0 v1 p0 r H h_v1; exact RL (E3 n) ih Y w0 v1 p0 r H h_v1
theorem SM (Y : Nat → Prop) (w0 : World) (v1 : Value) (p0 : Tr28) (r : Bool) (H : Pv p0 = some r) (h_v1 : Sl w0 (NX []) EC v1 p0.un.2.2.2) :
    Calls Tryz.prog 47 #[.agg #[.int .i64 p0.un.1, .int .i64 p0.un.2.1, .int .i64 p0.un.2.2.1, v1]] w0 fun e w' => e = .returned (.bool r) ∧ Below w0.heap.size w0 w' := by
  obtain ⟨n, H⟩ := Dd H
  exact St n Y w0 v1 p0 r H h_v1
theorem Yb : Has Tryz.prog 48 := ⟨fun args w => Aj Tryz.func48 rfl (by decide) args w⟩
def Ey (fRec : Tr28 → Option Int) (p0 : Tr28) : (Int × Int) → Option ((Int × Int) ⊕ Int)
  | (x2, x3) => (if x3 < (p0.un.2.2.2.length : Int) then (ix p0.un.2.2.2 x3).bind fun x4 => (fRec x4).bind fun x5 => some (.inl (AG (x2 + x5), AG (x3 + 1))) else some (.inr x2))
def FU (fRec : Tr28 → Option Int) (p0 : Tr28) : Option Int := (A6 (Ey fRec p0) (1, 0)).bind fun x1 => some x1
def E7 : Nat → Tr28 → Option Int
  | 0 => fun _ => none
  | n + 1 => FU (E7 n)
def P5 (p0 : Tr28) : Option Int := Jl fun n => E7 n p0
theorem RO (fRec : Tr28 → Option Int) (ih : ∀ (Y : Nat → Prop) (w0 : World) (v1 : Value) (p0 : Tr28) (r : Int) (H : fRec p0 = some r) (h_v1 : Sl w0 (NX []) EC v1 p0.un.2.2.2), Calls Tryz.prog 48 #[.agg #[.int .i64 p0.un.1, .int .i64 p0.un.2.1, .int .i64 p0.un.2.2.1, v1]] w0 fun e w' => e = .returned (.int .i64 r) ∧ Below w0.heap.size w0 w') (Y : Nat → Prop) (w0 : World) (v1 : Value) (p0 : Tr28) (r : Int) (H : FU fRec p0 = some r) (h_v1 : Sl w0 (NX []) EC v1 p0.un.2.2.2) :
    Calls Tryz.prog 48 #[.agg #[.int .i64 p0.un.1, .int .i64 p0.un.2.1, .int .i64 p0.un.2.2.1, v1]] w0 fun e w' => e = .returned (.int .i64 r) ∧ Below w0.heap.size w0 w' := by
 refine enter Tryz.func48 Aa Tryz.ntmps48 Aa fun a F => ?_
 have W := Stw.start Y w0
 obtain ⟨v2, h1, h_v1⟩ := h_v1.ex HJ
 unfold FU at H
 refine Ah (Ab ?_)
 refine CS (cs := [.int .i64 p0.un.1, .int .i64 p0.un.2.1, .int .i64 p0.un.2.2.1, v1]) F W Aa Aa Aa fun b1 a w F W => ?_
 refine ls F W Aa (Ae F Aa).q fun a w F W => ?_
 refine Ad (Ac (Ah (Ab ?_)))
 refine ls F W Aa (Ae F Aa).q fun a w F W => ?_
 refine Ad (Ac ?_)
 obtain ⟨o1, G1, K1⟩ := Am H
 refine AO (fun a w => ∃ x1 : Int, some (x1) = some o1 ∧ Fr 21 [] [(2, .int .i64 0), (3, .int .i64 x1)] a ∧ Stw ⟨Y, [], w0⟩ [(b1, [.int .i64 p0.un.1, .int .i64 p0.un.2.1, .int .i64 p0.un.2.2.1, v1])] [] w) ?_ ?_
 ·
  have H := G1
  refine Ah (Ab ?_)
  refine ls F W Aa (Ae F Aa).q fun a w F W => ?_
  refine Ad (Ac (Az ?_))
  refine BG H (fun s a w => Fr 21 [] [(1, .pointer (some ⟨b1, 0, none⟩)), (2, .int .i64 0), (3, .int .i64 s.1), (4, .int .i64 s.2)] a ∧ Stw ⟨Y, [], w0⟩ [(b1, [.int .i64 p0.un.1, .int .i64 p0.un.2.1, .int .i64 p0.un.2.2.1, v1])] [] w) ⟨F.re ⟨rfl, Aa, Aa, Aa, trivial⟩, W⟩ fun s o a w H L2 hR => ?_
  obtain ⟨x2, x3⟩ := s
  obtain ⟨F, W⟩ := hR
  have F : Fr 21 [] [(1, .pointer (some ⟨b1, 0, none⟩)), (2, .int .i64 0), (3, .int .i64 x2), (4, .int .i64 x3)] a := F
  have W : Stw ⟨Y, [], w0⟩ [(b1, [.int .i64 p0.un.1, .int .i64 p0.un.2.1, .int .i64 p0.un.2.2.1, v1])] [] w := W
  rw [Ey] at H
  refine Ah (Ah (Ab ?_))
  refine ls F W Aa (Ag F Aa).q fun a w F W => ?_
  refine ls F W Aa (Ai DN Aa Aa Aa LB F Aa 3 Aa).q fun a w F W => ?_
  refine ls F W Aa (Ao (v := v1) 0 F Aa Aa LB Aa).q fun a w F W => ?_
  refine ls F W Aa (CA (r := EC) (l := p0.un.2.2.2) PI Aa F Aa (AH HJ h1 (Aq h_v1))).q fun a w F W => ?_
  refine ls F W Aa (Cu F Aa Aa).q fun a w F W => ?_
  refine Ad (Ac ?_)
  refine Aw F Aa (fun hb => ?_) fun hb => ?_
  ·
   have H := AV (Bg hb) H
   rw [hb] at F
   refine Ay (Ac (Ah (Az (Ab ?_))))
   refine ls F W Aa (Ag F Aa).q fun a w F W => ?_
   refine ls F W Aa (Ai DN Aa Aa Aa LB F Aa 3 Aa).q fun a w F W => ?_
   refine ls F W Aa (Ao (v := v1) 0 F Aa Aa LB Aa).q fun a w F W => ?_
   refine ls F W Aa (Ag F Aa).q fun a w F W => ?_
   obtain ⟨x4, h2, H⟩ := Am H
   obtain ⟨v3, h3, h4⟩ := Ez h1 h2
   have h5 : Kk v3 = [.int .i64 x4.un.1, .int .i64 x4.un.2.1, .int .i64 x4.un.2.2.1, (v3.2.2.2.1)] := congrArg (fun q : Tr28 => ([.int .i64 q.un.1, .int .i64 q.un.2.1, .int .i64 q.un.2.2.1, (v3.2.2.2.1)] : List Value)) h4
   refine ls F W Aa (AM (r := Mz) SH F Aa Aa (Aq h_v1) h3).q fun a w F W => ?_
   refine ls F W Aa (AA (y := Value.agg #[.int .i64 x4.un.1, .int .i64 x4.un.2.1, .int .i64 x4.un.2.2.1, (v3.2.2.2.1)]) (j := 0) (i := x3) (enc := Kk) F Aa Aa (Aq h_v1) h3 QD Kh (by rw [h5]; rfl)).q fun a w F W => ?_
   obtain ⟨x5, h6, H⟩ := Am H
   refine ls F W Aa (A3 (v := Value.int .i64 x5) F Yb Aa (fun w W => ih any w ((v3.2.2.2.1)) x4 _ h6 (((Cn (Aq h_v1) h3 (AC.snd (AC.snd (AC.snd AC.here))) (congrArg (fun q : Tr28 => q.un.2.2.2) h4)) : D1 _ _ _ _ _ _) w W).nx)) fun a w F W => ?_
   refine ls F W Aa (BL F Aa Aa Aa).q fun a w F W => ?_
   refine ls F W Aa (Ae F Aa).q fun a w F W => ?_
   refine Ad (AU (Ac (Ab ?_)))
   refine ls F W Aa (Ag F Aa).q fun a w F W => ?_
   refine ls F W Aa (BL F Aa Aa Aa).q fun a w F W => ?_
   refine ls F W Aa (Ae F Aa).q fun a w F W => ?_
   refine Ad (Ac ?_)
   exact ⟨_, H, F.re ⟨rfl, Aa, Aa, Aa, trivial⟩, W⟩
  have H := AR (Bf hb) H
  rw [hb] at F
  refine Bz ?_
  iterate 2 refine BS ?_
  refine Bx (Ac ?_)
  have H := L2 _ H
  exact ⟨_, H, F.re ⟨rfl, Aa, trivial⟩, W⟩
 rintro a w ⟨x1, hj, F, W⟩
 have hj := AP hj
 subst hj
 have H := K1
 refine Ah (Ab ?_)
 refine ls F W Aa (Ag F Aa).q fun a w F W => ?_
 refine ls F W Aa (Ae F Aa).q fun a w F W => ?_
 refine Ad (Ac (Av ?_))
 have H := AP H
 subst H
 refine AJ (.inl Aa) F W Aa (AB F Aa) ?_
 exact ⟨rfl, W.done⟩
theorem Sk : ∀ (n : Nat) (Y : Nat → Prop) (w0 : World) (v1 : Value) (p0 : Tr28) (r : Int) (H : E7 n p0 = some r) (h_v1 : Sl w0 (NX []) EC v1 p0.un.2.2.2), Calls Tryz.prog 48 #[.agg #[.int .i64 p0.un.1, .int .i64 p0.un.2.1, .int .i64 p0.un.2.2.1, v1]] w0 fun e w' => e = .returned (.int .i64 r) ∧ Below w0.heap.size w0 w' := by
  intro n
  induction n with
  | zero => intro Y w0 v1 p0 r H; exact nomatch H
  | succ n ih => intro Y w0 v1 p0 r H h_v1; exact RO (E7 n) ih Y w0 v1 p0 r H h_v1
theorem SG (Y : Nat → Prop) (w0 : World) (v1 : Value) (p0 : Tr28) (r : Int) (H : P5 p0 = some r) (h_v1 : Sl w0 (NX []) EC v1 p0.un.2.2.2) :
    Calls Tryz.prog 48 #[.agg #[.int .i64 p0.un.1, .int .i64 p0.un.2.1, .int .i64 p0.un.2.2.1, v1]] w0 fun e w' => e = .returned (.int .i64 r) ∧ Below w0.heap.size w0 w' := by
  obtain ⟨n, H⟩ := Dd H
  exact Sk n Y w0 v1 p0 r H h_v1
theorem Xq : Has Tryz.prog 49 := ⟨fun args w => Aj Tryz.func49 rfl (by decide) args w⟩
def Er (fRec : Tr28 → Option Int) (p0 : Tr28) : (Int × Int) → Option ((Int × Int) ⊕ Int)
  | (x2, x3) => (if x3 < (p0.un.2.2.2.length : Int) then ((ix p0.un.2.2.2 x3).bind fun x5 => (fRec x5).bind fun x6 => (if x2 < (AG (x6 + 1)) then (ix p0.un.2.2.2 x3).bind fun x7 => (fRec x7).bind fun x8 => some (AG (x8 + 1)) else some x2)).bind fun x4 => some (.inl (x4, AG (x3 + 1))) else some (.inr x2))
def F1 (fRec : Tr28 → Option Int) (p0 : Tr28) : Option Int := (A6 (Er fRec p0) (1, 0)).bind fun x1 => some x1
def E0 : Nat → Tr28 → Option Int
  | 0 => fun _ => none
  | n + 1 => F1 (E0 n)
def PU (p0 : Tr28) : Option Int := Jl fun n => E0 n p0
theorem RE (fRec : Tr28 → Option Int) (ih : ∀ (Y : Nat → Prop) (w0 : World) (v1 : Value) (p0 : Tr28) (r : Int) (H : fRec p0 = some r) (h_v1 : Sl w0 (NX []) EC v1 p0.un.2.2.2), Calls Tryz.prog 49 #[.agg #[.int .i64 p0.un.1, .int .i64 p0.un.2.1, .int .i64 p0.un.2.2.1, v1]] w0 fun e w' => e = .returned (.int .i64 r) ∧ Below w0.heap.size w0 w') (Y : Nat → Prop) (w0 : World) (v1 : Value) (p0 : Tr28) (r : Int) (H : F1 fRec p0 = some r) (h_v1 : Sl w0 (NX []) EC v1 p0.un.2.2.2) :
    Calls Tryz.prog 49 #[.agg #[.int .i64 p0.un.1, .int .i64 p0.un.2.1, .int .i64 p0.un.2.2.1, v1]] w0 fun e w' => e = .returned (.int .i64 r) ∧ Below w0.heap.size w0 w' := by
 refine enter Tryz.func49 Aa Tryz.ntmps49 Aa fun a F => ?_
 have W := Stw.start Y w0
 obtain ⟨v2, h1, h_v1⟩ := h_v1.ex HJ
 unfold F1 at H
 refine Ah (Ab ?_)
 refine CS (cs := [.int .i64 p0.un.1, .int .i64 p0.un.2.1, .int .i64 p0.un.2.2.1, v1]) F W Aa Aa Aa fun b1 a w F W => ?_
 refine ls F W Aa (Ae F Aa).q fun a w F W => ?_
 refine Ad (Ac (Ah (Ab ?_)))
 refine ls F W Aa (Ae F Aa).q fun a w F W => ?_
 refine Ad (Ac ?_)
 obtain ⟨o1, G1, K1⟩ := Am H
 refine AO (fun a w => ∃ x1 : Int, some (x1) = some o1 ∧ Fr 29 [] [(2, .int .i64 0), (3, .int .i64 x1)] a ∧ Stw ⟨Y, [], w0⟩ [(b1, [.int .i64 p0.un.1, .int .i64 p0.un.2.1, .int .i64 p0.un.2.2.1, v1])] [] w) ?_ ?_
 ·
  have H := G1
  refine Ah (Ab ?_)
  refine ls F W Aa (Ae F Aa).q fun a w F W => ?_
  refine Ad (Ac (Az ?_))
  refine BG H (fun s a w => Fr 29 [] [(1, .pointer (some ⟨b1, 0, none⟩)), (2, .int .i64 0), (3, .int .i64 s.1), (4, .int .i64 s.2)] a ∧ Stw ⟨Y, [], w0⟩ [(b1, [.int .i64 p0.un.1, .int .i64 p0.un.2.1, .int .i64 p0.un.2.2.1, v1])] [] w) ⟨F.re ⟨rfl, Aa, Aa, Aa, trivial⟩, W⟩ fun s o a w H L2 hR => ?_
  obtain ⟨x2, x3⟩ := s
  obtain ⟨F, W⟩ := hR
  have F : Fr 29 [] [(1, .pointer (some ⟨b1, 0, none⟩)), (2, .int .i64 0), (3, .int .i64 x2), (4, .int .i64 x3)] a := F
  have W : Stw ⟨Y, [], w0⟩ [(b1, [.int .i64 p0.un.1, .int .i64 p0.un.2.1, .int .i64 p0.un.2.2.1, v1])] [] w := W
  rw [Er] at H
  refine Ah (Ah (Ab ?_))
  refine ls F W Aa (Ag F Aa).q fun a w F W => ?_
  refine ls F W Aa (Ai DN Aa Aa Aa LB F Aa 3 Aa).q fun a w F W => ?_
  refine ls F W Aa (Ao (v := v1) 0 F Aa Aa LB Aa).q fun a w F W => ?_
  refine ls F W Aa (CA (r := EC) (l := p0.un.2.2.2) PI Aa F Aa (AH HJ h1 (Aq h_v1))).q fun a w F W => ?_
  refine ls F W Aa (Cu F Aa Aa).q fun a w F W => ?_
  refine Ad (Ac ?_)
  refine Aw F Aa (fun hb => ?_) fun hb => ?_
  ·
   have H := AV (Bg hb) H
   rw [hb] at F
   refine Ay (Ac ?_)
   obtain ⟨o3, G3, K3⟩ := Am H
   refine AO (fun a w => ∃ x4 : Int, some (x4) = some o3 ∧ Fr 29 [] [(1, .pointer (some ⟨b1, 0, none⟩)), (2, .int .i64 0), (3, .int .i64 x4), (4, .int .i64 x3)] a ∧ Stw ⟨Y, [], w0⟩ [(b1, [.int .i64 p0.un.1, .int .i64 p0.un.2.1, .int .i64 p0.un.2.2.1, v1])] [] w) ?_ ?_
   ·
    have H := G3
    refine Az (Ah (Ab ?_))
    refine ls F W Aa (Ai DN Aa Aa Aa LB F Aa 3 Aa).q fun a w F W => ?_
    refine ls F W Aa (Ao (v := v1) 0 F Aa Aa LB Aa).q fun a w F W => ?_
    refine ls F W Aa (Ag F Aa).q fun a w F W => ?_
    obtain ⟨x5, h2, H⟩ := Am H
    obtain ⟨v3, h3, h4⟩ := Ez h1 h2
    have h5 : Kk v3 = [.int .i64 x5.un.1, .int .i64 x5.un.2.1, .int .i64 x5.un.2.2.1, (v3.2.2.2.1)] := congrArg (fun q : Tr28 => ([.int .i64 q.un.1, .int .i64 q.un.2.1, .int .i64 q.un.2.2.1, (v3.2.2.2.1)] : List Value)) h4
    refine ls F W Aa (AM (r := Mz) SH F Aa Aa (Aq h_v1) h3).q fun a w F W => ?_
    refine ls F W Aa (AA (y := Value.agg #[.int .i64 x5.un.1, .int .i64 x5.un.2.1, .int .i64 x5.un.2.2.1, (v3.2.2.2.1)]) (j := 0) (i := x3) (enc := Kk) F Aa Aa (Aq h_v1) h3 QD Kh (by rw [h5]; rfl)).q fun a w F W => ?_
    obtain ⟨x6, h6, H⟩ := Am H
    refine ls F W Aa (A3 (v := Value.int .i64 x6) F Xq Aa (fun w W => ih any w ((v3.2.2.2.1)) x5 _ h6 (((Cn (Aq h_v1) h3 (AC.snd (AC.snd (AC.snd AC.here))) (congrArg (fun q : Tr28 => q.un.2.2.2) h4)) : D1 _ _ _ _ _ _) w W).nx)) fun a w F W => ?_
    refine ls F W Aa (BL F Aa Aa Aa).q fun a w F W => ?_
    refine ls F W Aa (Ag F Aa).q fun a w F W => ?_
    refine ls F W Aa (HL F Aa Aa).q fun a w F W => ?_
    refine Ad (Ac ?_)
    refine Aw F Aa (fun hb => ?_) fun hb => ?_
    ·
     have H := AV (Bg hb) H
     rw [hb] at F
     obtain ⟨v4, h7, h8⟩ := Sl.ex HJ (Sl.at_ h_v1 h3 (AC.snd (AC.snd (AC.snd AC.here))) (congrArg (fun q : Tr28 => q.un.2.2.2) h4))
     refine Ab ?_
     refine ls F W Aa (Ai DN Aa Aa Aa LB F Aa 3 Aa).q fun a w F W => ?_
     refine ls F W Aa (Ao (v := v1) 0 F Aa Aa LB Aa).q fun a w F W => ?_
     refine ls F W Aa (Ag F Aa).q fun a w F W => ?_
     obtain ⟨x7, h9, H⟩ := Am H
     obtain ⟨v5, h10, h11⟩ := Ez h1 h9
     have h12 : Kk v5 = [.int .i64 x7.un.1, .int .i64 x7.un.2.1, .int .i64 x7.un.2.2.1, (v5.2.2.2.1)] := congrArg (fun q : Tr28 => ([.int .i64 q.un.1, .int .i64 q.un.2.1, .int .i64 q.un.2.2.1, (v5.2.2.2.1)] : List Value)) h11
     refine ls F W Aa (AM (r := Mz) SH F Aa Aa (Aq h_v1) h10).q fun a w F W => ?_
     refine ls F W Aa (AA (y := Value.agg #[.int .i64 x7.un.1, .int .i64 x7.un.2.1, .int .i64 x7.un.2.2.1, (v5.2.2.2.1)]) (j := 0) (i := x3) (enc := Kk) F Aa Aa (Aq h_v1) h10 QD Kh (by rw [h12]; rfl)).q fun a w F W => ?_
     obtain ⟨x8, h13, H⟩ := Am H
     refine ls F W Aa (A3 (v := Value.int .i64 x8) F Xq Aa (fun w W => ih any w ((v5.2.2.2.1)) x7 _ h13 (((Cn (Aq h_v1) h10 (AC.snd (AC.snd (AC.snd AC.here))) (congrArg (fun q : Tr28 => q.un.2.2.2) h11)) : D1 _ _ _ _ _ _) w W).nx)) fun a w F W => ?_
     refine ls F W Aa (BL F Aa Aa Aa).q fun a w F W => ?_
     refine ls F W Aa (Ae F Aa).q fun a w F W => ?_
     refine Ad (AU (Ac ?_))
     exact ⟨_, H, F.re ⟨rfl, Aa, Aa, Aa, trivial⟩, W⟩
    have H := AR (Bf hb) H
    rw [hb] at F
    refine Ay (AU (Ac ?_))
    exact ⟨_, H, F.re ⟨rfl, Aa, Aa, Aa, trivial⟩, W⟩
   rintro a w ⟨x4, hj, F, W⟩
   have hj := AP hj
   subst hj
   have H := K3
   refine Ab ?_
   refine ls F W Aa (Ag F Aa).q fun a w F W => ?_
   refine ls F W Aa (BL F Aa Aa Aa).q fun a w F W => ?_
   refine ls F W Aa (Ae F Aa).q fun a w F W => ?_
   refine Ad (Ac ?_)
   exact ⟨_, H, F.re ⟨rfl, Aa, Aa, Aa, trivial⟩, W⟩
  have H := AR (Bf hb) H
  rw [hb] at F
  refine Bz ?_
  iterate 2 refine BS ?_
  refine Bx (Ac ?_)
  have H := L2 _ H
  exact ⟨_, H, F.re ⟨rfl, Aa, trivial⟩, W⟩
 rintro a w ⟨x1, hj, F, W⟩
 have hj := AP hj
 subst hj
 have H := K1
 refine Ah (Ab ?_)
 refine ls F W Aa (Ag F Aa).q fun a w F W => ?_
 refine ls F W Aa (Ae F Aa).q fun a w F W => ?_
 refine Ad (Ac (Av ?_))
 have H := AP H
 subst H
 refine AJ (.inl Aa) F W Aa (AB F Aa) ?_
 exact ⟨rfl, W.done⟩
theorem Sg : ∀ (n : Nat) (Y : Nat → Prop) (w0 : World) (v1 : Value) (p0 : Tr28) (r : Int) (H : E0 n p0 = some r) (h_v1 : Sl w0 (NX []) EC v1 p0.un.2.2.2), Calls Tryz.prog 49 #[.agg #[.int .i64 p0.un.1, .int .i64 p0.un.2.1, .int .i64 p0.un.2.2.1, v1]] w0 fun e w' => e = .returned (.int .i64 r) ∧ Below w0.heap.size w0 w' := by
  intro n
  induction n with
  | zero => intro Y w0 v1 p0 r H; exact nomatch H
  | succ n ih => intro Y w0 v1 p0 r H h_v1; exact RE (E0 n) ih Y w0 v1 p0 r H h_v1
theorem Sx (Y : Nat → Prop) (w0 : World) (v1 : Value) (p0 : Tr28) (r : Int) (H : PU p0 = some r) (h_v1 : Sl w0 (NX []) EC v1 p0.un.2.2.2) :
    Calls Tryz.prog 49 #[.agg #[.int .i64 p0.un.1, .int .i64 p0.un.2.1, .int .i64 p0.un.2.2.1, v1]] w0 fun e w' => e = .returned (.int .i64 r) ∧ Below w0.heap.size w0 w' := by
  obtain ⟨n, H⟩ := Dd H
  exact Sg n Y w0 v1 p0 r H h_v1
def KP (p0 : Tr28) : Option Bool := ((Pv p0).bind fun x2 => (if x2 = true then (P5 p0).bind fun x3 => (if x3 ≤ 64 then (PU p0).bind fun x4 => some (decide (x4 ≤ 8)) else some false) else some false)).bind fun x1 => some x1
theorem R3 (Y : Nat → Prop) (w0 : World) (v1 : Value) (p0 : Tr28) (r : Bool) (H : KP p0 = some r) (h_v1 : Sl w0 (NX []) EC v1 p0.un.2.2.2) :
    Calls Tryz.prog 20 #[.agg #[.int .i64 p0.un.1, .int .i64 p0.un.2.1, .int .i64 p0.un.2.2.1, v1]] w0 fun e w' => e = .returned (.bool r) ∧ Below w0.heap.size w0 w' := by
 refine enter Tryz.func20 Aa Tryz.ntmps20 Aa fun a F => ?_
 have W := Stw.start Y w0
 obtain ⟨v2, h1, h_v1⟩ := h_v1.ex HJ
 unfold KP at H
 refine Ah (Ab ?_)
 refine CS (cs := [.int .i64 p0.un.1, .int .i64 p0.un.2.1, .int .i64 p0.un.2.2.1, v1]) F W Aa Aa Aa fun b1 a w F W => ?_
 refine ls F W Aa (Ae F Aa).q fun a w F W => ?_
 refine Ad (Ac ?_)
 obtain ⟨o1, G1, K1⟩ := Am H
 refine AO (fun a w => ∃ x1 : Bool, some (x1) = some o1 ∧ Fr 15 [] [(2, .bool x1)] a ∧ Stw ⟨Y, [], w0⟩ [(b1, [.int .i64 p0.un.1, .int .i64 p0.un.2.1, .int .i64 p0.un.2.2.1, v1])] [] w) ?_ ?_
 ·
  have H := G1
  refine Ab ?_
  refine ls F W Aa (Ao (v := Value.agg #[.int .i64 p0.un.1, .int .i64 p0.un.2.1, .int .i64 p0.un.2.2.1, v1]) 0 F Aa Aa Kh Aa).q fun a w F W => ?_
  obtain ⟨x2, h2, H⟩ := Am H
  refine ls F W Aa (A3 (v := Value.bool x2) F X3 Aa (fun w W => SM any w (v1) p0 _ h2 (((AH HJ h1 (Aq h_v1)) : D1 _ _ _ _ _ _) w W).nx)) fun a w F W => ?_
  refine ls F W Aa (Ag F Aa).q fun a w F W => ?_
  rcases bxq x2 with hb | hb
  ·
   have H := AV hb H
   rw [hb] at F
   refine AK F W (Af F Aa Aa Aa Aa) Aa (Ak Aa) (Ao (v := Value.agg #[.int .i64 p0.un.1, .int .i64 p0.un.2.1, .int .i64 p0.un.2.2.1, v1]) 0 F Aa Aa Kh Aa).q fun a w F W => ?_
   refine KH (Af F Aa Aa Aa Aa) ?_
   obtain ⟨x3, h3, H⟩ := Am H
   refine ls F W Aa (A3 (v := Value.int .i64 x3) F Yb Aa (fun w W => SG any w (v1) p0 _ h3 (((AH HJ h1 (Aq h_v1)) : D1 _ _ _ _ _ _) w W).nx)) fun a w F W => ?_
   refine AK F W (Af F Aa Aa Aa Aa) Aa (Ak Aa) (H4 F Aa Aa).q fun a w F W => ?_
   refine ls F W Aa (Ax F Aa Aa Aa).q fun a w F W => ?_
   refine ls F W Aa (Ag F Aa).q fun a w F W => ?_
   rcases bxq (decide (x3 ≤ 64)) with hb | hb
   ·
    have H := AV (Bg hb) H
    rw [hb] at F
    refine AK F W (Af F Aa Aa Aa Aa) Aa (Ak Aa) (Ao (v := Value.agg #[.int .i64 p0.un.1, .int .i64 p0.un.2.1, .int .i64 p0.un.2.2.1, v1]) 0 F Aa Aa Kh Aa).q fun a w F W => ?_
    refine KH (Af F Aa Aa Aa Aa) ?_
    obtain ⟨x4, h4, H⟩ := Am H
    refine ls F W Aa (A3 (v := Value.int .i64 x4) F Xq Aa (fun w W => Sx any w (v1) p0 _ h4 (((AH HJ h1 (Aq h_v1)) : D1 _ _ _ _ _ _) w W).nx)) fun a w F W => ?_
    refine AK F W (Af F Aa Aa Aa Aa) Aa (Ak Aa) (H4 F Aa Aa).q fun a w F W => ?_
    refine ls F W Aa (Ax F Aa Aa Aa).q fun a w F W => ?_
    refine ls F W Aa (Ae F Aa).q fun a w F W => ?_
    refine Ad (Ac ?_)
    exact ⟨_, H, F.re ⟨rfl, trivial⟩, W⟩
   have H := AR (Bf hb) H
   rw [hb] at F
   iterate 3 refine Dz F Aa Aa Aa Aa Aa Aa Aa fun a F => ?_
   refine ls F W Aa (As F Aa Aa Aa).q fun a w F W => ?_
   refine ls F W Aa (Ae F Aa).q fun a w F W => ?_
   refine Ad (Ac ?_)
   exact ⟨_, H, F.re ⟨rfl, trivial⟩, W⟩
  have H := AR (by rw [hb]; decide) H
  rw [hb] at F
  iterate 3 refine Dz F Aa Aa Aa Aa Aa Aa Aa fun a F => ?_
  refine ls F W Aa (As F Aa Aa Aa).q fun a w F W => ?_
  refine ls F W Aa (Ag F Aa).q fun a w F W => ?_
  iterate 3 refine Dz F Aa Aa Aa Aa Aa Aa Aa fun a F => ?_
  refine ls F W Aa (As F Aa Aa Aa).q fun a w F W => ?_
  refine ls F W Aa (Ae F Aa).q fun a w F W => ?_
  refine Ad (Ac ?_)
  exact ⟨_, H, F.re ⟨rfl, trivial⟩, W⟩
 rintro a w ⟨x1, hj, F, W⟩
 have hj := AP hj
 subst hj
 have H := K1
 refine Av ?_
 have H := AP H
 subst H
 refine AJ (.inl Aa) F W Aa (AB F Aa) ?_
 exact ⟨rfl, W.done⟩
theorem JW : type_of% Tryz.underlying34 := Tryz.underlying34
theorem Dt : type_of% Tryz.underlying36 := Tryz.underlying36
theorem Ed : type_of% Tryz.underlying39 := Tryz.underlying39
theorem YD : Has Tryz.prog 20 := ⟨fun args w => Aj Tryz.func20 rfl (by decide) args w⟩
theorem UB : Bt Tryz.prog 36 [.int .i64 0, .int .i64 0, .int .i64 0, .slice none 0 0] [(0, 1), (1, 1), (2, 1), (3, 1)] := ⟨⟨.agg #[.int .i64 0, .int .i64 0, .int .i64 0, .slice none 0 0], by kernel_rfl, rfl⟩, ⟨_, Dt, fun w => by kernel_rfl⟩⟩
theorem QT : (Tryz.prog.info? 36).bind (·.zero) = some (.agg #[.int .i64 0, .int .i64 0, .int .i64 0, .slice none 0 0]) := by kernel_rfl
theorem ER : Ty Tryz.prog 36 true 4 := ⟨by kernel_rfl, by kernel_rfl⟩
inductive Tr36 : Type where
  | mk : Int → Int → Int → (List Tr36) → Tr36
def Tr36.un : Tr36 → Int × Int × Int × List Tr36
  | .mk a0 a1 a2 a3 => (a0, a1, a2, a3)
abbrev Tr36.of (p : Int × Int × Int × List Tr36) : Tr36 := .mk p.1 p.2.1 p.2.2.1 p.2.2.2
def Tr36.cnt : Tr36 → Nat
  | .mk _ _ _ a3 => 1 + ((a3.map Tr36.cnt).sum)
abbrev VQ (r : Rp Tr36) : Rp (Int × Int × Int × List Tr36) := (Rp.pair (Rp.int .i64) (Rp.pair (Rp.int .i64) (Rp.pair (Rp.int .i64) (Rp.slice r))))
theorem UQ : Kt VQ := (Kt.pair (Kt.const _) (Kt.pair (Kt.const _) (Kt.pair (Kt.const _) Kt.hole)))
abbrev BF : Rp Tr36 := Rp.knot VQ Tr36.un UQ
theorem Tp {w : World} {A : Nat → Prop} {cs : List Value} {a : Tr36} : BF.rep w A cs a ↔ (VQ BF).rep w A cs a.un := KJ UQ
theorem Ps : Et Tryz.prog 34 36 4 48 := Et.of JW (by kernel_rfl) (by kernel_rfl) (by kernel_rfl) (by decide)
theorem Yc : Bt Tryz.prog 39 [.int .i64 0, .int .i64 0, .int .i64 0, .int .i64 0, .slice none 0 0, .int .i64 0, .int .i64 0, .slice none 0 0] [(0, 1), (1, 4), (5, 1), (6, 1), (7, 1)] := ⟨⟨.agg #[.int .i64 0, .int .i64 0, .int .i64 0, .int .i64 0, .slice none 0 0, .int .i64 0, .int .i64 0, .slice none 0 0], by kernel_rfl, rfl⟩, ⟨_, Ed, fun w => by kernel_rfl⟩⟩
theorem UK : (Tryz.prog.info? 39).bind (·.zero) = some (.agg #[.int .i64 0, .int .i64 0, .int .i64 0, .int .i64 0, .slice none 0 0, .int .i64 0, .int .i64 0, .slice none 0 0]) := by kernel_rfl
theorem Ka : Ty Tryz.prog 39 true 8 := ⟨by kernel_rfl, by kernel_rfl⟩
inductive Tr39 : Type where
  | mk : Int → Tr36 → Int → Int → (List Tr39) → Tr39
def Tr39.un : Tr39 → Int × Tr36 × Int × Int × List Tr39
  | .mk a0 a1 a2 a3 a4 => (a0, a1, a2, a3, a4)
abbrev Tr39.of (p : Int × Tr36 × Int × Int × List Tr39) : Tr39 := .mk p.1 p.2.1 p.2.2.1 p.2.2.2.1 p.2.2.2.2
def Tr39.cnt : Tr39 → Nat
  | .mk _ a1 _ _ a4 => 1 + (a1.cnt + (a4.map Tr39.cnt).sum)
abbrev VV (r : Rp Tr39) : Rp (Int × Tr36 × Int × Int × List Tr39) := (Rp.pair (Rp.int .i64) (Rp.pair BF (Rp.pair (Rp.int .i64) (Rp.pair (Rp.int .i64) (Rp.slice r)))))
theorem Vu : Kt VV := (Kt.pair (Kt.const _) (Kt.pair (Kt.const _) (Kt.pair (Kt.const _) (Kt.pair (Kt.const _) Kt.hole))))
abbrev Gy : Rp Tr39 := Rp.knot VV Tr39.un Vu
theorem WW {w : World} {A : Nat → Prop} {cs : List Value} {a : Tr39} : Gy.rep w A cs a ↔ (VV Gy).rep w A cs a.un := KJ Vu
abbrev HW : Rp (Int × Int × Int × (Value × List Tr36)) := (Rp.pair (Rp.int .i64) (Rp.pair (Rp.int .i64) (Rp.pair (Rp.int .i64) (Rp.vsl BF))))
abbrev WR (p : Int × Int × Int × (Value × List Tr36)) : Tr36 := (Tr36.of (p.1, p.2.1, p.2.2.1, p.2.2.2.2))
theorem BV : Ex BF HW WR := (Ex.knot UQ (of := Tr36.of) (fun _ => rfl) (fun x => by cases x; rfl) (Ex.pair Ex.rfl' (Ex.pair Ex.rfl' (Ex.pair Ex.rfl' Ex.sliceF))))
abbrev Of : Rp (Int × (Int × Int × Int × (Value × List Tr36)) × Int × Int × (Value × List Tr39)) := (Rp.pair (Rp.int .i64) (Rp.pair HW (Rp.pair (Rp.int .i64) (Rp.pair (Rp.int .i64) (Rp.vsl Gy)))))
abbrev WO (p : Int × (Int × Int × Int × (Value × List Tr36)) × Int × Int × (Value × List Tr39)) : Tr39 := (Tr39.of (p.1, (Tr36.of (p.2.1.1, p.2.1.2.1, p.2.1.2.2.1, p.2.1.2.2.2.2)), p.2.2.1, p.2.2.2.1, p.2.2.2.2.2))
theorem FD : Ex Gy Of WO := (Ex.knot Vu (of := Tr39.of) (fun _ => rfl) (fun x => by cases x; rfl) (Ex.pair Ex.rfl' (Ex.pair (Ex.knot UQ (of := Tr36.of) (fun _ => rfl) (fun x => by cases x; rfl) (Ex.pair Ex.rfl' (Ex.pair Ex.rfl' (Ex.pair Ex.rfl' Ex.sliceF)))) (Ex.pair Ex.rfl' (Ex.pair Ex.rfl' Ex.sliceF)))))
theorem Kg : Ty Tryz.prog 34 false 1 := ⟨by kernel_rfl, by kernel_rfl⟩
abbrev Hl (a : Int × Int × Int × (Value × List Tr36)) : List Value := [.int .i64 a.1, .int .i64 a.2.1, .int .i64 a.2.2.1, a.2.2.2.1]
theorem MD : Iv HW Hl := (Iv.pair Fl.int.to (Iv.pair Fl.int.to (Iv.pair Fl.int.to Iv.vsl)))
theorem W9 : Has Tryz.prog 22 := ⟨fun args w => Aj Tryz.func22 rfl (by decide) args w⟩
def CP (fRec_check_Cut : Tr36 → Int → Option Tr36) (p0 : List Tr36) (p1 : Int) : (List Tr36 × Int) → Option ((List Tr36 × Int) ⊕ (List Tr36))
  | (x2, x3) => (if x3 < (p0.length : Int) then (ix p0 x3).bind fun x4 => (fRec_check_Cut x4 p1).bind fun x5 => (Ig x2 ([x5] : List Tr36)).bind fun x6 => some (.inl (x6, AG (x3 + 1))) else some (.inr x2))
def Ep (fRec_check_Cut : Tr36 → Int → Option Tr36) (p0 : List Tr36) (p1 : Int) : Option (List Tr36) := (A6 (CP fRec_check_Cut p0 p1) ([], 0)).bind fun x1 => some x1
theorem PP (fRec_check_Cut : Tr36 → Int → Option Tr36) (ih_check_Cut : ∀ (Y : Nat → Prop) (w0 : World) (v1 : Value) (p0 : Tr36) (p1 : Int) (r : Tr36) (H : fRec_check_Cut p0 p1 = some r) (h_v1 : Sl w0 (NX []) BF v1 p0.un.2.2.2), Calls Tryz.prog 22 #[.agg #[.int .i64 p0.un.1, .int .i64 p0.un.2.1, .int .i64 p0.un.2.2.1, v1], .int .i64 p1] w0 fun e w' => ∃ x : Value, e = .returned (.agg #[.int .i64 r.un.1, .int .i64 r.un.2.1, .int .i64 r.un.2.2.1, x]) ∧ Stw ⟨Y, [], w0⟩ [] [DE (x) BF r.un.2.2.2] w') (Y : Nat → Prop) (w0 : World) (v1 : Value) (p0 : List Tr36) (p1 : Int) (r : List Tr36) (H : Ep fRec_check_Cut p0 p1 = some r) (h_v1 : Sl w0 (NX []) BF v1 p0) :
    Calls Tryz.prog 50 #[v1, .int .i64 p1] w0 fun e w' => ∃ x : Value, e = .returned (x) ∧ Stw ⟨Y, [], w0⟩ [] [row (x) 36 BF r] w' := by
 refine enter Tryz.func50 Aa Tryz.ntmps50 Aa fun a F => ?_
 have W := Stw.start Y w0
 obtain ⟨v2, h1, h_v1⟩ := h_v1.ex BV
 unfold Ep at H
 refine Ah (Ab ?_)
 refine ls F W Aa (Ae F Aa).q fun a w F W => ?_
 refine Ad (Ac (Ah (Ab ?_)))
 refine ls F W Aa (Ae F Aa).q fun a w F W => ?_
 refine Ad (Ac ?_)
 obtain ⟨o1, G1, K1⟩ := Am H
 refine AO (fun a w => ∃ x1 : List Tr36, ∃ v3 : Value, some (x1) = some o1 ∧ Fr 22 [] [(4, .slice none 0 0), (5, v3)] a ∧ Stw ⟨Y, [], w0⟩ [] [row v3 36 BF x1] w) ?_ ?_
 ·
  have H := G1
  refine Ah (Ab ?_)
  refine ls F W Aa (Ag F Aa).q fun a w F W => ?_
  refine ls F W Aa (CA (r := BF) (l := p0) JW Aa F Aa (AH BV h1 (Aq h_v1))).q fun a w F W => ?_
  refine ls F W Aa (Ag F Aa).q fun a w F W => ?_
  refine Ad (Ac (Az ?_))
  have W := W.nilRow 36 BF
  refine BG H (fun s a w => ∃ v4 : Value, Fr 22 [] [(1, .int .i64 p1), (4, .slice none 0 0), (5, v4), (8, v1), (9, .int .i64 (p0.length : Int)), (10, .int .i64 s.2)] a ∧ Stw ⟨Y, [], w0⟩ [] [row v4 36 BF s.1] w) ⟨(Value.slice none 0 0), F.re ⟨rfl, Aa, Aa, Aa, Aa, Aa, trivial⟩, W⟩ fun s o a w H L2 hR => ?_
  obtain ⟨x2, x3⟩ := s
  obtain ⟨v4, F, W⟩ := hR
  have F : Fr 22 [] [(1, .int .i64 p1), (4, .slice none 0 0), (5, v4), (8, v1), (9, .int .i64 (p0.length : Int)), (10, .int .i64 x3)] a := F
  have W : Stw ⟨Y, [], w0⟩ [] [row v4 36 BF x2] w := W
  rw [CP] at H
  refine Ah (Ab ?_)
  refine ls F W Aa (Cu F Aa Aa).q fun a w F W => ?_
  refine Ad (Ac (Ah ?_))
  refine Aw F Aa (fun hb => ?_) fun hb => ?_
  ·
   have H := AV (Bg hb) H
   rw [hb] at F
   refine Ay (Ac (Ah (Az (Ah ?_))))
   obtain ⟨v5, h2, W⟩ := W.exR BV
   refine Ab ?_
   obtain ⟨x4, h3, H⟩ := Am H
   obtain ⟨v6, h4, h5⟩ := Ez h1 h3
   have h6 : Hl v6 = [.int .i64 x4.un.1, .int .i64 x4.un.2.1, .int .i64 x4.un.2.2.1, (v6.2.2.2.1)] := congrArg (fun q : Tr36 => ([.int .i64 q.un.1, .int .i64 q.un.2.1, .int .i64 q.un.2.2.1, (v6.2.2.2.1)] : List Value)) h5
   refine ls F W Aa (AM (r := HW) Ps F Aa Aa (Aq h_v1) h4).q fun a w F W => ?_
   refine ls F W Aa (AA (y := Value.agg #[.int .i64 x4.un.1, .int .i64 x4.un.2.1, .int .i64 x4.un.2.2.1, (v6.2.2.2.1)]) (j := 0) (i := x3) (enc := Hl) F Aa Aa (Aq h_v1) h4 MD ER (by rw [h6]; rfl)).q fun a w F W => ?_
   refine Co (cs := [.int .i64 0, .int .i64 0, .int .i64 0, .slice none 0 0]) F W Aa QT Aa fun b1 a w F W => ?_
   refine Be (vs := [.int .i64 x4.un.1, .int .i64 x4.un.2.1, .int .i64 x4.un.2.2.1, (v6.2.2.2.1)]) (M' := [(b1, [.int .i64 x4.un.1, .int .i64 x4.un.2.1, .int .i64 x4.un.2.2.1, (v6.2.2.2.1)])]) 0 F W Aa Aa Aa ER Aa Aa Aa (An Aa (An Aa (An Aa (An ((Cn (Aq h_v1) h4 (AC.snd (AC.snd (AC.snd AC.here))) (congrArg (fun q : Tr36 => q.un.2.2.2) h5)) _ W).one Cq)))) Aa fun w W => ?_
   refine Ad (Ac (Ab ?_))
   refine ls F W Aa (Ag F Aa).q fun a w F W => ?_
   refine ls F W Aa (Ao (v := Value.agg #[.int .i64 x4.un.1, .int .i64 x4.un.2.1, .int .i64 x4.un.2.2.1, (v6.2.2.2.1)]) 0 F Aa Aa ER Aa).q fun a w F W => ?_
   refine ls F W Aa (Ag F Aa).q fun a w F W => ?_
   obtain ⟨x5, h7, H⟩ := Am H
   refine Bj (Ml := []) (Zl := []) (M := [(b1, [.int .i64 x4.un.1, .int .i64 x4.un.2.1, .int .i64 x4.un.2.2.1, (v6.2.2.2.1)])]) (Z := [row v4 36 HW v5]) (β := Value) (rv := fun x => .agg #[.int .i64 x5.un.1, .int .i64 x5.un.2.1, .int .i64 x5.un.2.2.1, x]) (MM := fun x => []) (ZZ := fun x => [DE x BF x5.un.2.2.2]) F W W9 Aa Aa (fun hL => ih_check_Cut _ w ((v6.2.2.2.1)) x4 p1 _ h7 ((Cn (Aq h_v1) h4 (AC.snd (AC.snd (AC.snd AC.here))) (congrArg (fun q : Tr36 => q.un.2.2.2) h5)) w W).nx) fun x a w F W => ?_
   obtain ⟨v7, rfl⟩ : ∃ y, y = x := ⟨x, rfl⟩
   have W : Stw ⟨Y, [], w0⟩ [(b1, [.int .i64 x4.un.1, .int .i64 x4.un.2.1, .int .i64 x4.un.2.2.1, (v6.2.2.2.1)])] [DE v7 BF x5.un.2.2.2, row v4 36 HW v5] w := W
   refine Ke (z := Value.agg #[.int .i64 0, .int .i64 0, .int .i64 0, .slice none 0 0]) (cs := [.int .i64 x5.un.1, .int .i64 x5.un.2.1, .int .i64 x5.un.2.2.1, v7]) BF ([x5] : List Tr36) F W Aa Ps QT Aa Aa Aa (CR Aa Aa Aa Fp) Aa Aa ⟨[Value.int .i64 x5.un.1, Value.int .i64 x5.un.2.1, Value.int .i64 x5.un.2.2.1, v7], _, Aa, (Tp.2 ⟨[Value.int .i64 x5.un.1], [Value.int .i64 x5.un.2.1, Value.int .i64 x5.un.2.2.1, v7], Aa, Aa, ⟨[Value.int .i64 x5.un.2.1], [Value.int .i64 x5.un.2.2.1, v7], Aa, Aa, ⟨[Value.int .i64 x5.un.2.2.1], [v7], Aa, Aa, ⟨_, Aa, (W.item (i := 0) Aa)⟩⟩⟩⟩), Aa⟩ fun v8 a w F W => ?_
   have W := W.frontZ (i := 2) Aa Aa
   have W := W.hideR BV h2
   obtain ⟨x6, h8, H⟩ := Am H
   refine Fm (r := BF) (i := 0) F W Aa Ps Aa Aa Aa Aa (GC W 1 Aa) h8 Aa fun v9 a w F W => ?_
   have W : Stw ⟨Y, [], w0⟩ [(b1, [.int .i64 x4.un.1, .int .i64 x4.un.2.1, .int .i64 x4.un.2.2.1, (v6.2.2.2.1)])] [row v9 36 BF x6, row v8 36 BF ([x5] : List Tr36), DE v7 BF x5.un.2.2.2] w := W
   refine ls F W Aa (Ae F Aa).q fun a w F W => ?_
   refine Ad (AU (Ac (Ab ?_)))
   refine ls F W Aa (BL F Aa Aa Aa).q fun a w F W => ?_
   refine ls F W Aa (Ag F Aa).q fun a w F W => ?_
   refine Ad (Ac ?_)
   have W := W.sub (M' := []) (Z' := [row v9 36 BF x6]) (List.nil_sublist _) (List.Sublist.cons_cons _ (List.nil_sublist _))
   exact ⟨_, H, (v9), F.re ⟨rfl, Aa, Aa, Aa, Aa, Aa, trivial⟩, W⟩
  have H := AR (Bf hb) H
  rw [hb] at F
  refine Bz ?_
  iterate 2 refine BS ?_
  refine Bx (Ac ?_)
  have H := L2 _ H
  exact ⟨_, (v4), H, F.re ⟨rfl, Aa, trivial⟩, W⟩
 rintro a w ⟨x1, v3, hj, F, W⟩
 have hj := AP hj
 subst hj
 have H := K1
 refine Ah (Ab ?_)
 refine ls F W Aa (Ag F Aa).q fun a w F W => ?_
 refine ls F W Aa (Ae F Aa).q fun a w F W => ?_
 refine Ad (Ac (Av ?_))
 have H := AP H
 subst H
 refine AJ (.inl Aa) F W Aa (AB F Aa) ?_
 exact ⟨(v3), Aa, W⟩
theorem YO : Has Tryz.prog 50 := ⟨fun args w => Aj Tryz.func50 rfl (by decide) args w⟩
def AF (p0 : Bool) : Tr36 := (if p0 = true then Tr36.of (1, 0, 0, ([] : List Tr36)) else Tr36.of (2, 0, 0, ([] : List Tr36)))
theorem Kn (Y : Nat → Prop) (w0 : World)  (p0 : Bool) (r : Tr36) (H : AF p0 = r)  :
    Calls Tryz.prog 51 #[.bool p0] w0 fun e w' => ∃ x : Value, e = .returned (.agg #[.int .i64 r.un.1, .int .i64 r.un.2.1, .int .i64 r.un.2.2.1, x]) ∧ Stw ⟨Y, [], w0⟩ [] [row (x) 36 BF r.un.2.2.2] w' := by
 refine enter Tryz.func51 Aa Tryz.ntmps51 Aa fun a F => ?_
 have W := Stw.start Y w0
 unfold AF at H
 refine Ah (Ab ?_)
 refine Co (cs := [.int .i64 0, .int .i64 0, .int .i64 0, .slice none 0 0]) F W Aa QT Aa fun b1 a w F W => ?_
 refine Ad (Ac (Ah (Ah (Ab ?_))))
 refine ls F W Aa (Ag F Aa).q fun a w F W => ?_
 refine Ad (Ac ?_)
 refine Aw F Aa (fun hb => ?_) fun hb => ?_
 ·
  have H := AV hb H
  rw [hb] at F
  refine Ah (Ab ?_)
  refine ls F W Aa (De (v := Value.agg #[.int .i64 1, .int .i64 0, .int .i64 0, .slice none 0 0]) UB F Aa Aa Aa).q fun a w F W => ?_
  refine Be (vs := [.int .i64 1, .int .i64 0, .int .i64 0, .slice none 0 0]) (M' := [(b1, [.int .i64 1, .int .i64 0, .int .i64 0, .slice none 0 0])]) 0 F W Aa Aa Aa ER Aa Aa Aa Aa Aa fun w W => ?_
  refine Ad (Ac (Av (AN ?_)))
  subst H
  refine AJ (.inl Aa) F W Aa (Dy 0 F Aa Aa ER Aa) ?_
  have W := W.nilRow 36 BF
  have W := W.sub (M' := []) (Z' := [row (Value.slice none 0 0) 36 BF ([])]) (List.nil_sublist _) (List.Sublist.refl _)
  exact ⟨(Value.slice none 0 0), Aa, W⟩
 have H := AR (by rw [hb]; decide) H
 rw [hb] at F
 refine Ay (Ac (Ah (Ab ?_)))
 refine ls F W Aa (De (v := Value.agg #[.int .i64 2, .int .i64 0, .int .i64 0, .slice none 0 0]) UB F Aa Aa Aa).q fun a w F W => ?_
 refine Be (vs := [.int .i64 2, .int .i64 0, .int .i64 0, .slice none 0 0]) (M' := [(b1, [.int .i64 2, .int .i64 0, .int .i64 0, .slice none 0 0])]) 0 F W Aa Aa Aa ER Aa Aa Aa Aa Aa fun w W => ?_
 refine Ad (Ac (Av ?_))
 subst H
 refine AJ (.inl Aa) F W Aa (Dy 0 F Aa Aa ER Aa) ?_
 have W := W.nilRow 36 BF
 have W := W.sub (M' := []) (Z' := [row (Value.slice none 0 0) 36 BF ([])]) (List.nil_sublist _) (List.Sublist.refl _)
 exact ⟨(Value.slice none 0 0), Aa, W⟩
theorem W6 : Has Tryz.prog 51 := ⟨fun args w => Aj Tryz.func51 rfl (by decide) args w⟩
def E4 (p0 : Tr36) (p1 : Int) : Bool := decide (p0.un.1 = p1)
theorem LT (Y : Nat → Prop) (w0 : World) (v1 : Value) (q_p1 : Nat) (p0 : Tr36) (p1 : Int) (r : Bool) (H : E4 p0 p1 = r) (h_v1 : Sl w0 (NX []) BF v1 p0.un.2.2.2) (a_q_p1 : At ⟨Y, [], w0⟩ q_p1 0 [.int .i64 p1]) :
    Calls Tryz.prog 85 #[.agg #[.int .i64 p0.un.1, .int .i64 p0.un.2.1, .int .i64 p0.un.2.2.1, v1], .pointer (some ⟨q_p1, 0, none⟩)] w0 fun e w' => e = .returned (.bool r) ∧ Below w0.heap.size w0 w' := by
 refine enter Tryz.func85 Aa Tryz.ntmps85 Aa fun a F => ?_
 have W := Stw.start Y w0
 obtain ⟨v2, h1, h_v1⟩ := h_v1.ex BV
 unfold E4 at H
 refine Ah (Ab ?_)
 refine CS (cs := [.int .i64 p0.un.1, .int .i64 p0.un.2.1, .int .i64 p0.un.2.2.1, v1]) F W Aa Aa Aa fun b1 a w F W => ?_
 refine ls F W Aa (Ae F Aa).q fun a w F W => ?_
 refine Ad (Ac (Ah (Ab ?_)))
 refine ls F W Aa (Ai Dt Aa Aa Aa T3 F Aa 0 Aa).q fun a w F W => ?_
 refine ls F W Aa (Ao (v := Value.int .i64 p0.un.1) 0 F Aa Aa T3 Aa).q fun a w F W => ?_
 refine ls F W Aa (IR (y := Value.int .i64 p1) (j := 0) F Aa (Nat.zero_add _).symm a_q_p1 T3 Aa).q fun a w F W => ?_
 refine ls F W Aa (A7 F Aa Aa).q fun a w F W => ?_
 refine ls F W Aa (Ae F Aa).q fun a w F W => ?_
 refine Ad (Ac (Av ?_))
 subst H
 refine AJ (.inl Aa) F W Aa (AB F Aa) ?_
 exact ⟨rfl, W.done⟩
end
end Go.Proofs.YtgoifghhcekahaaGreatDoor
