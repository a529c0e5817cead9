/- The functions of layer 27, Ix. Conditions: none. -/
import Derived.Test.YtpckgggmgijiiaaGreatDoorRows
import Derived.Test.YtpckgggmgijiiaaGreatDoorbOT
import Derived.Test.YtpckgggmgijiiaaGreatDoorbQT
import Derived.Test.YtpckgggmgijiiaaGreatDoorbOD
import Derived.Test.YtpckgggmgijiiaaGreatDoorbTR
import Derived.Test.YtpckgggmgijiiaaGreatDoorbOG
import Derived.Test.YtpckgggmgijiiaaGreatDoorbMS
import Derived.Test.YtpckgggmgijiiaaGreatDoorbOC
import Derived.Test.YtpckgggmgijiiaaGreatDoorbVC
import Derived.Test.YtpckgggmgijiiaaGreatDoorbOM
import Derived.Test.YtpckgggmgijiiaaGreatDoorbOX
namespace Go.Proofs.YtpckgggmgijiiaaGreatDoor
open Go Go.RowKit
set_option linter.unusedVariables false
set_option linter.unusedSimpArgs false
set_option maxRecDepth 20000
def YI : Tt := ([(24, [(0, false, 1), (1, false, 1), (2, false, 1), (3, false, 1)]), (27, [(0, false, 1), (1, true, 4), (5, false, 1), (6, false, 1), (7, false, 1)]), (34, [(0, false, 1), (1, false, 1), (2, false, 1), (3, false, 1)]), (37, [(0, false, 1), (1, true, 4), (5, false, 1), (6, false, 1), (7, false, 1)]), (63, [(0, false, 1), (1, true, 4)]), (65, [(0, false, 1)]), (123, [(0, false, 1)])], [(3, false, 1), (22, false, 1), (24, true, 4), (25, false, 1), (27, true, 8), (29, true, 4), (32, false, 1), (34, true, 4), (35, false, 1), (37, true, 8), (63, true, 5), (126, true, 6), (150, false, 1)])
theorem tk : TtOk Tryz.prog YI := ⟨by kernel_rfl, by kernel_rfl⟩
inductive Tr24 : Type where
  | mk : Int → Int → Int → (List Tr24) → Tr24
def Tr24.un : Tr24 → Int × Int × Int × List Tr24
  | .mk a0 a1 a2 a3 => (a0, a1, a2, a3)
abbrev Tr24.of (p : Int × Int × Int × List Tr24) : Tr24 := .mk p.1 p.2.1 p.2.2.1 p.2.2.2
def Tr24.cnt : Tr24 → Nat
  | .mk _ _ _ a3 => 1 + ((a3.map Tr24.cnt).sum)
inductive Tr27 : Type where
  | mk : Int → Tr24 → Int → Int → (List Tr27) → Tr27
def Tr27.un : Tr27 → Int × Tr24 × Int × Int × List Tr27
  | .mk a0 a1 a2 a3 a4 => (a0, a1, a2, a3, a4)
abbrev Tr27.of (p : Int × Tr24 × Int × Int × List Tr27) : Tr27 := .mk p.1 p.2.1 p.2.2.1 p.2.2.2.1 p.2.2.2.2
def Tr27.cnt : Tr27 → Nat
  | .mk _ a1 _ _ a4 => 1 + (a1.cnt + (a4.map Tr27.cnt).sum)
abbrev VL (r : Rp Tr24) : Rp (Int × Int × Int × List Tr24) := (Rp.pair (Rp.int .i64) (Rp.pair (Rp.int .i64) (Rp.pair (Rp.int .i64) (Rp.slice r))))
theorem TF : Kt VL := (Kt.pair (Kt.const _) (Kt.pair (Kt.const _) (Kt.pair (Kt.const _) Kt.hole)))
abbrev DO : Rp Tr24 := Rp.knot VL Tr24.un TF
theorem VC {w : World} {A : Nat → Prop} {cs : List Value} {a : Tr24} : DO.rep w A cs a ↔ (VL DO).rep w A cs a.un := HD TF
abbrev VD (r : Rp Tr27) : Rp (Int × Tr24 × Int × Int × List Tr27) := (Rp.pair (Rp.int .i64) (Rp.pair DO (Rp.pair (Rp.int .i64) (Rp.pair (Rp.int .i64) (Rp.slice r)))))
theorem Uz : Kt VD := (Kt.pair (Kt.const _) (Kt.pair (Kt.const _) (Kt.pair (Kt.const _) (Kt.pair (Kt.const _) Kt.hole))))
abbrev GN : Rp Tr27 := Rp.knot VD Tr27.un Uz
theorem WI {w : World} {A : Nat → Prop} {cs : List Value} {a : Tr27} : GN.rep w A cs a ↔ (VD GN).rep w A cs a.un := HD Uz
abbrev Mi : Rp (Int × Int × Int × (Value × List Tr24)) := (Rp.pair (Rp.int .i64) (Rp.pair (Rp.int .i64) (Rp.pair (Rp.int .i64) (Rp.vsl DO))))
abbrev Xx (p : Int × Int × Int × (Value × List Tr24)) : Tr24 := (Tr24.of (p.1, p.2.1, p.2.2.1, p.2.2.2.2))
theorem EJ : Ex DO Mi Xx := (Ex.knot TF (of := Tr24.of) (fun _ => rfl) (fun x => by cases x; rfl) (Ex.pair Ex.rfl' (Ex.pair Ex.rfl' (Ex.pair Ex.rfl' Ex.sliceF))))
abbrev PA : Rp (Int × (Int × Int × Int × (Value × List Tr24)) × Int × Int × (Value × List Tr27)) := (Rp.pair (Rp.int .i64) (Rp.pair Mi (Rp.pair (Rp.int .i64) (Rp.pair (Rp.int .i64) (Rp.vsl GN)))))
abbrev W5 (p : Int × (Int × Int × Int × (Value × List Tr24)) × Int × Int × (Value × List Tr27)) : Tr27 := (Tr27.of (p.1, (Tr24.of (p.2.1.1, p.2.1.2.1, p.2.1.2.2.1, p.2.1.2.2.2.2)), p.2.2.1, p.2.2.2.1, p.2.2.2.2.2))
theorem Is : Ex GN PA W5 := (Ex.knot Uz (of := Tr27.of) (fun _ => rfl) (fun x => by cases x; rfl) (Ex.pair Ex.rfl' (Ex.pair (Ex.knot TF (of := Tr24.of) (fun _ => rfl) (fun x => by cases x; rfl) (Ex.pair Ex.rfl' (Ex.pair Ex.rfl' (Ex.pair Ex.rfl' Ex.sliceF)))) (Ex.pair Ex.rfl' (Ex.pair Ex.rfl' Ex.sliceF)))))
theorem Sk : Ty Tryz.prog 27 true 8 := ⟨by kernel_rfl, by kernel_rfl⟩
theorem VT : Ty Tryz.prog 25 false 1 := ⟨by kernel_rfl, by kernel_rfl⟩
theorem T3 : Ty Tryz.prog 3 false 1 := ⟨by kernel_rfl, by kernel_rfl⟩
theorem RP : Ty Tryz.prog 24 true 4 := ⟨by kernel_rfl, by kernel_rfl⟩
theorem T9 : Ty Tryz.prog 22 false 1 := ⟨by kernel_rfl, by kernel_rfl⟩
theorem MO : Tryz.prog.follows .mixedOrders = true := by kernel_rfl
def Lk (p0 : Int) : Int := (if p0 = 2 then 15 else (if (decide (p0 = 0) || (decide (p0 = 1) || decide (p0 = 3))) = true then 255 else 0))
theorem SC (Y : Nat → Prop) (w0 : World)  (p0 : Int) (r : Int) (H : Lk p0 = r)  :
    Calls Tryz.prog 77 #[.int .i64 p0] w0 fun e w' => e = .returned (.int .i64 r) ∧ Below w0.heap.size w0 w' := by
 refine enter Tryz.func77 Aa Tryz.ntmps77 Aa fun a F => ?_
 have W := Stw.start Y w0
 unfold Lk at H
 refine vc tk 12 F W fun a w F W => ?_
 refine BJ F Aa H (fun F H => ?_) fun F H => ?_
 ·
  refine vc tk 5 F W fun a w F W => ?_
  refine Ak (Ay ?_)
  subst H
  refine Au (.inl Aa) F W Aa (Am F Aa) ?_
  exact ⟨rfl, W.done⟩
 refine FL tk 3 F W fun a w F W => ?_
 refine Ax (fun a w => Fr 15 [] [(2, .int .i64 0), (14, .bool (decide (p0 = 0) || (decide (p0 = 1) || decide (p0 = 3))))] a ∧ Stw ⟨Y, [], w0⟩ [] [] w) ?_ ?_
 ·
  refine vc tk 4 F W fun a w F W => ?_
  rcases Bool.eq_false_or_eq_true (decide (p0 = 0)) with hb0 | hb0
  ·
   rw [hb0] at F
   refine vl tk 8 F W fun a w F W => ?_
   refine Ac ?_
   exact ⟨F.re ⟨rfl, (DH (by try rw [hb0]; all_goals simp only [DI])), trivial⟩, W⟩
  rw [hb0] at F
  refine vl tk 4 F W fun a w F W => ?_
  rcases Bool.eq_false_or_eq_true (decide (p0 = 1)) with hb1 | hb1
  ·
   rw [hb1] at F
   refine vl tk 4 F W fun a w F W => ?_
   refine Ac ?_
   exact ⟨F.re ⟨rfl, (DH (by try rw [hb0]; try rw [hb1]; all_goals simp only [DI])), trivial⟩, W⟩
  rw [hb1] at F
  refine vl tk 4 F W fun a w F W => ?_
  refine Ac ?_
  exact ⟨F.re ⟨rfl, (DH (by try rw [hb0]; try rw [hb1]; all_goals simp only [DI])), trivial⟩, W⟩
 rintro a w ⟨F, W⟩
 refine Cz F Aa H (fun F H => ?_) fun F H => ?_
 ·
  refine vc tk 5 F W fun a w F W => ?_
  refine Ak (Ay ?_)
  subst H
  refine Au (.inl Aa) F W Aa (Am F Aa) ?_
  exact ⟨rfl, W.done⟩
 refine FL tk 7 F W fun a w F W => ?_
 refine Ak ?_
 subst H
 refine Au (.inl Aa) F W Aa (Am F Aa) ?_
 exact ⟨rfl, W.done⟩
theorem YW : Has Tryz.prog 77 := CJ Tryz.func77
def DQ (p0 : Int) : Int := (if (decide (p0 = 4) || decide (p0 = 5)) = true then 7 else (Lk p0))
theorem Pk (Y : Nat → Prop) (w0 : World)  (p0 : Int) (r : Int) (H : DQ p0 = r)  :
    Calls Tryz.prog 51 #[.int .i64 p0] w0 fun e w' => e = .returned (.int .i64 r) ∧ Below w0.heap.size w0 w' := by
 refine enter Tryz.func51 Aa Tryz.ntmps51 Aa fun a F => ?_
 have W := Stw.start Y w0
 unfold DQ at H
 refine vc tk 6 F W fun a w F W => ?_
 refine Ax (fun a w => Fr 11 [] [(0, .int .i64 p0), (2, .int .i64 0), (8, .bool (decide (p0 = 4) || decide (p0 = 5)))] a ∧ Stw ⟨Y, [], w0⟩ [] [] w) ?_ ?_
 ·
  refine vc tk 4 F W fun a w F W => ?_
  rcases Bool.eq_false_or_eq_true (decide (p0 = 4)) with hb0 | hb0
  ·
   rw [hb0] at F
   refine vl tk 4 F W fun a w F W => ?_
   refine Ac ?_
   exact ⟨F.re ⟨rfl, Aa, (DH (by try rw [hb0]; all_goals simp only [DI])), trivial⟩, W⟩
  rw [hb0] at F
  refine vl tk 4 F W fun a w F W => ?_
  refine Ac ?_
  exact ⟨F.re ⟨rfl, Aa, (DH (by try rw [hb0]; all_goals simp only [DI])), trivial⟩, W⟩
 rintro a w ⟨F, W⟩
 refine Cz F Aa H (fun F H => ?_) fun F H => ?_
 ·
  refine vc tk 5 F W fun a w F W => ?_
  refine Ak (Ay ?_)
  subst H
  refine Au (.inl Aa) F W Aa (Am F Aa) ?_
  exact ⟨rfl, W.done⟩
 refine FL tk 5 F W fun a w F W => ?_
 refine ls F W Aa (AK (v := Value.int .i64 (Lk p0)) F YW Aa (fun w W => SC any w p0 _ Aa)) fun a w F W => ?_
 refine Cl tk 3 F W fun a w F W => ?_
 refine Ak ?_
 subst H
 refine Au (.inl Aa) F W Aa (Am F Aa) ?_
 exact ⟨rfl, W.done⟩
theorem Ql : type_of% Tryz.underlying22 := Tryz.underlying22
theorem M9 : type_of% Tryz.underlying24 := Tryz.underlying24
theorem Yi : Has Tryz.prog 51 := CJ Tryz.func51
abbrev KX (a : Int × Int × Int × (Value × List Tr24)) : List Value := [.int .i64 a.1, .int .i64 a.2.1, .int .i64 a.2.2.1, a.2.2.2.1]
theorem Rs : Fj Mi KX := (Fj.pair Fl.int.to (Fj.pair Fl.int.to (Fj.pair Fl.int.to Fj.vsl)))
theorem Ub : Et Tryz.prog 22 24 4 48 := Et.of Ql (by kernel_rfl) (by kernel_rfl) (by kernel_rfl) (by decide)
theorem Yh : Has Tryz.prog 62 := CJ Tryz.func62
abbrev M6 (a0 : Tr24) (a1 : Value) : List Value := [.int .i64 a0.un.1, .int .i64 a0.un.2.1, .int .i64 a0.un.2.2.1, a1]
abbrev Lj (a0 : Nat) (a1 : Tr24) (a2 : Value) : List (Nat × List Value) := [(a0, [.int .i64 a1.un.1, .int .i64 a1.un.2.1, .int .i64 a1.un.2.2.1, a2])]
noncomputable def E0 (fRec : Tr24 → Option Bool) (p0 : Tr24) : Int → Option (Int ⊕ (Unit ⊕ Bool))
  | x1 => (if x1 < (p0.un.2.2.2.length : Int) then (ix p0.un.2.2.2 x1).bind fun x2 => (fRec x2).bind fun x3 => (if (!x3) = true then some (.inr (.inr false)) else some (.inl (AO (x1 + 1)))) else some (.inr (.inl ())))
noncomputable def EW (fRec : Tr24 → Option Bool) (p0 : Tr24) : Option Bool := (if (bif decide (p0.un.1 ≠ 3) then (decide (p0.un.2.1 ≠ 0) || (decide (p0.un.2.2.1 ≠ 0) || (decide (p0.un.1 < 1) || decide (6 < p0.un.1)))) else (decide (p0.un.1 < 1) || decide (6 < p0.un.1))) = true then some false else (if (decide (p0.un.1 = 3) && (decide (p0.un.2.1 < 0) || (decide (5 < p0.un.2.1) || (decide (p0.un.2.2.1 < 0) || decide ((DQ p0.un.2.1) < p0.un.2.2.1))))) = true then some false else (if (bif decide (p0.un.1 ≤ 3) then (decide ((p0.un.2.2.2.length : Int) ≠ 0) || (bif decide (p0.un.1 = 4) then (decide ((p0.un.2.2.2.length : Int) ≠ 1) || (decide (5 ≤ p0.un.1) && (decide ((p0.un.2.2.2.length : Int) < 2) || decide (8 < (p0.un.2.2.2.length : Int))))) else (decide (5 ≤ p0.un.1) && (decide ((p0.un.2.2.2.length : Int) < 2) || decide (8 < (p0.un.2.2.2.length : Int)))))) else (bif decide (p0.un.1 = 4) then (decide ((p0.un.2.2.2.length : Int) ≠ 1) || (decide (5 ≤ p0.un.1) && (decide ((p0.un.2.2.2.length : Int) < 2) || decide (8 < (p0.un.2.2.2.length : Int))))) else (decide (5 ≤ p0.un.1) && (decide ((p0.un.2.2.2.length : Int) < 2) || decide (8 < (p0.un.2.2.2.length : Int)))))) = true then some false else Ko (AW (E0 fRec p0) 0) fun _ => some true)))
noncomputable def D2 : Nat → Tr24 → Option Bool
  | 0 => fun _ => none
  | n + 1 => EW (D2 n)
noncomputable def Nq (p0 : Tr24) : Option Bool := GL fun n => D2 n p0
theorem PW (fRec : Tr24 → Option Bool) (ih : ∀ (Y : Nat → Prop) (w0 : World) (v1 : Value) (p0 : Tr24) (r : Bool) (H : fRec p0 = some r) (h_v1 : Sl w0 (NX []) DO v1 p0.un.2.2.2), Calls Tryz.prog 62 #[.agg #[.int .i64 p0.un.1, .int .i64 p0.un.2.1, .int .i64 p0.un.2.2.1, v1]] w0 fun e w' => e = .returned (.bool r) ∧ Below w0.heap.size w0 w') (Y : Nat → Prop) (w0 : World) (v1 : Value) (p0 : Tr24) (r : Bool) (H : EW fRec p0 = some r) (h_v1 : Sl w0 (NX []) DO v1 p0.un.2.2.2) :
    Calls Tryz.prog 62 #[.agg #[.int .i64 p0.un.1, .int .i64 p0.un.2.1, .int .i64 p0.un.2.2.1, v1]] w0 fun e w' => e = .returned (.bool r) ∧ Below w0.heap.size w0 w' := by
 refine enter Tryz.func62 Aa Tryz.ntmps62 Aa fun a F => ?_
 have W := Stw.start Y w0
 obtain ⟨v2, h1, h_v1⟩ := h_v1.ex EJ
 unfold EW at H
 refine vc tk 2 F W fun a w F W => ?_
 refine CY (cs := (M6 p0 v1)) F W Aa Aa Aa fun b1 a w F W => ?_
 refine FC tk 7 [0] F W (ai fun a w F W => ?_)
 refine ls F W Aa (CS (r := DO) (l := p0.un.2.2.2) Ql Aa F Aa (Aq EJ h1 (Af h_v1))).q fun a w F W => ?_
 refine Cl tk 4 F W fun a w F W => ?_
 refine Ax (fun a w => Fr 98 [] [(1, .pointer (some ⟨b1, 0, none⟩)), (2, .bool false), (3, .int .i64 (p0.un.2.2.2.length : Int)), (30, .bool (bif decide (p0.un.1 ≠ 3) then (decide (p0.un.2.1 ≠ 0) || (decide (p0.un.2.2.1 ≠ 0) || (decide (p0.un.1 < 1) || decide (6 < p0.un.1)))) else (decide (p0.un.1 < 1) || decide (6 < p0.un.1))))] a ∧ Stw ⟨Y, [], w0⟩ (Lj b1 p0 v1) [] w) ?_ ?_
 ·
  refine Fo tk 5 [0] F W (ai fun a w F W => ?_)
  rcases Bool.eq_false_or_eq_true (decide (p0.un.1 ≠ 3)) with hb0 | hb0
  ·
   rw [hb0] at F
   refine GD tk 4 [0] F W (ai fun a w F W => ?_)
   rcases Bool.eq_false_or_eq_true (decide (p0.un.2.1 ≠ 0)) with hb1 | hb1
   ·
    rw [hb1] at F
    refine vl tk 16 F W fun a w F W => ?_
    refine Ac ?_
    exact ⟨F.re ⟨rfl, Aa, Aa, (DH (by try rw [hb1]; try rw [hb0]; all_goals simp only [DI])), trivial⟩, W⟩
   rw [hb1] at F
   refine GD tk 6 [0] F W (ai fun a w F W => ?_)
   rcases Bool.eq_false_or_eq_true (decide (p0.un.2.2.1 ≠ 0)) with hb2 | hb2
   ·
    rw [hb2] at F
    refine vl tk 10 F W fun a w F W => ?_
    refine Ac ?_
    exact ⟨F.re ⟨rfl, Aa, Aa, (DH (by try rw [hb2]; try rw [hb1]; try rw [hb0]; all_goals simp only [DI])), trivial⟩, W⟩
   rw [hb2] at F
   refine GD tk 5 [0] F W (ai fun a w F W => ?_)
   rcases Bool.eq_false_or_eq_true (decide (p0.un.1 < 1)) with hb3 | hb3
   ·
    rw [hb3] at F
    refine vl tk 5 F W fun a w F W => ?_
    refine Ac ?_
    exact ⟨F.re ⟨rfl, Aa, Aa, (DH (by try rw [hb2]; try rw [hb1]; try rw [hb0]; try rw [hb3]; all_goals simp only [DI])), trivial⟩, W⟩
   rw [hb3] at F
   refine GD tk 5 [0] F W (ai fun a w F W => ?_)
   refine Ac ?_
   exact ⟨F.re ⟨rfl, Aa, Aa, (DH (by try rw [hb2]; try rw [hb1]; try rw [hb0]; try rw [hb3]; all_goals simp only [DI])), trivial⟩, W⟩
  rw [hb0] at F
  refine GD tk 15 [0] F W (ai fun a w F W => ?_)
  rcases Bool.eq_false_or_eq_true (decide (p0.un.1 < 1)) with hb1 | hb1
  ·
   rw [hb1] at F
   refine vl tk 5 F W fun a w F W => ?_
   refine Ac ?_
   exact ⟨F.re ⟨rfl, Aa, Aa, (DH (by try rw [hb0]; try rw [hb1]; all_goals simp only [DI])), trivial⟩, W⟩
  rw [hb1] at F
  refine GD tk 5 [0] F W (ai fun a w F W => ?_)
  refine Ac ?_
  exact ⟨F.re ⟨rfl, Aa, Aa, (DH (by try rw [hb0]; try rw [hb1]; all_goals simp only [DI])), trivial⟩, W⟩
 rintro a w ⟨F, W⟩
 refine Cz F Aa H (fun F H => ?_) fun F H => ?_
 ·
  refine vc tk 5 F W fun a w F W => ?_
  refine Ak (Ay ?_)
  have H := AA H
  subst H
  refine Au (.inl Aa) F W Aa (Am F Aa) ?_
  exact ⟨rfl, W.done⟩
 refine FL tk 3 F W fun a w F W => ?_
 refine Ax (fun a w => Fr 98 [] [(1, .pointer (some ⟨b1, 0, none⟩)), (2, .bool false), (3, .int .i64 (p0.un.2.2.2.length : Int)), (56, .bool (decide (p0.un.1 = 3) && (decide (p0.un.2.1 < 0) || (decide (5 < p0.un.2.1) || (decide (p0.un.2.2.1 < 0) || decide ((DQ p0.un.2.1) < p0.un.2.2.1))))))] a ∧ Stw ⟨Y, [], w0⟩ (Lj b1 p0 v1) [] w) ?_ ?_
 ·
  refine Cw W MO (by kernel_rfl) ?_
  refine qs F Aa (Ap M9 Aa Aa Aa T3 F Aa 0 Aa).q fun a F => ?_
  refine qs F Aa (Bw (v := Value.int .i64 p0.un.1) 0 F Aa Aa T3 Aa).q fun a F => ?_
  refine qs F Aa (Pj F Aa Aa).q fun a F => ?_
  refine qs F Aa (An F Aa).q fun a F => ?_
  rcases Bool.eq_false_or_eq_true (decide (p0.un.1 = 3)) with hb0 | hb0
  ·
   rw [hb0] at F
   refine AL F (Ab F Aa Aa Aa Aa) Aa (Ao Aa) (Ap M9 Aa Aa Aa T3 F Aa 1 Aa).q fun a F => ?_
   refine AL F (Ab F Aa Aa Aa Aa) Aa (Ao Aa) (Bw (v := Value.int .i64 p0.un.2.1) 0 F Aa Aa T3 Aa).q fun a F => ?_
   refine AL F (Ab F Aa Aa Aa Aa) Aa (Ao Aa) (F7 F Aa Aa).q fun a F => ?_
   refine AL F (Ab F Aa Aa Aa Aa) Aa (Ao Aa) (An F Aa).q fun a F => ?_
   rcases Bool.eq_false_or_eq_true (decide (p0.un.2.1 < 0)) with hb1 | hb1
   ·
    rw [hb1] at F
    iterate 3 refine Bj F (A7 F Aa Aa Aa Aa Aa) Aa Aa fun a F => ?_
    refine AL F (Ab F Aa Aa Aa Aa) Aa (Ao Aa) (Bq F Aa Aa Aa).q fun a F => ?_
    refine AL F (Ab F Aa Aa Aa Aa) Aa (Ao Aa) (An F Aa).q fun a F => ?_
    iterate 3 refine Bj F (A7 F Aa Aa Aa Aa Aa) Aa Aa fun a F => ?_
    refine AL F (Ab F Aa Aa Aa Aa) Aa (Ao Aa) (Bq F Aa Aa Aa).q fun a F => ?_
    refine AL F (Ab F Aa Aa Aa Aa) Aa (Ao Aa) (An F Aa).q fun a F => ?_
    iterate 6 refine Bj F (A7 F Aa Aa Aa Aa Aa) Aa Aa fun a F => ?_
    refine AL F (Ab F Aa Aa Aa Aa) Aa (Ao Aa) (Bq F Aa Aa Aa).q fun a F => ?_
    refine qs F Aa (Bq F Aa Aa Aa).q fun a F => ?_
    refine AJ fun w W => ?_
    refine Ac ?_
    exact ⟨F.re ⟨rfl, Aa, Aa, (DH (by try rw [hb1]; try rw [hb0]; all_goals simp only [DI])), trivial⟩, W⟩
   rw [hb1] at F
   refine AL F (Ab F Aa Aa Aa Aa) Aa (Ao Aa) (Ap M9 Aa Aa Aa T3 F Aa 1 Aa).q fun a F => ?_
   refine AL F (Ab F Aa Aa Aa Aa) Aa (Ao Aa) (Bw (v := Value.int .i64 p0.un.2.1) 0 F Aa Aa T3 Aa).q fun a F => ?_
   refine AL F (Ab F Aa Aa Aa Aa) Aa (Ao Aa) (MD F Aa Aa).q fun a F => ?_
   refine AL F (Ab F Aa Aa Aa Aa) Aa (Ao Aa) (Br F Aa Aa Aa).q fun a F => ?_
   refine AL F (Ab F Aa Aa Aa Aa) Aa (Ao Aa) (An F Aa).q fun a F => ?_
   rcases Bool.eq_false_or_eq_true (decide (5 < p0.un.2.1)) with hb2 | hb2
   ·
    rw [hb2] at F
    iterate 3 refine Bj F (A7 F Aa Aa Aa Aa Aa) Aa Aa fun a F => ?_
    refine AL F (Ab F Aa Aa Aa Aa) Aa (Ao Aa) (Bq F Aa Aa Aa).q fun a F => ?_
    refine AL F (Ab F Aa Aa Aa Aa) Aa (Ao Aa) (An F Aa).q fun a F => ?_
    iterate 6 refine Bj F (A7 F Aa Aa Aa Aa Aa) Aa Aa fun a F => ?_
    refine AL F (Ab F Aa Aa Aa Aa) Aa (Ao Aa) (Bq F Aa Aa Aa).q fun a F => ?_
    refine qs F Aa (Bq F Aa Aa Aa).q fun a F => ?_
    refine AJ fun w W => ?_
    refine Ac ?_
    exact ⟨F.re ⟨rfl, Aa, Aa, (DH (by try rw [hb1]; try rw [hb2]; try rw [hb0]; all_goals simp only [DI])), trivial⟩, W⟩
   rw [hb2] at F
   refine AL F (Ab F Aa Aa Aa Aa) Aa (Ao Aa) (Ap M9 Aa Aa Aa T3 F Aa 2 Aa).q fun a F => ?_
   refine AL F (Ab F Aa Aa Aa Aa) Aa (Ao Aa) (Bw (v := Value.int .i64 p0.un.2.2.1) 0 F Aa Aa T3 Aa).q fun a F => ?_
   refine AL F (Ab F Aa Aa Aa Aa) Aa (Ao Aa) (F7 F Aa Aa).q fun a F => ?_
   refine AL F (Ab F Aa Aa Aa Aa) Aa (Ao Aa) (Br F Aa Aa Aa).q fun a F => ?_
   refine AL F (Ab F Aa Aa Aa Aa) Aa (Ao Aa) (An F Aa).q fun a F => ?_
   rcases Bool.eq_false_or_eq_true (decide (p0.un.2.2.1 < 0)) with hb3 | hb3
   ·
    rw [hb3] at F
    iterate 6 refine Bj F (A7 F Aa Aa Aa Aa Aa) Aa Aa fun a F => ?_
    refine AL F (Ab F Aa Aa Aa Aa) Aa (Ao Aa) (Bq F Aa Aa Aa).q fun a F => ?_
    refine qs F Aa (Bq F Aa Aa Aa).q fun a F => ?_
    refine AJ fun w W => ?_
    refine Ac ?_
    exact ⟨F.re ⟨rfl, Aa, Aa, (DH (by try rw [hb3]; try rw [hb1]; try rw [hb2]; try rw [hb0]; all_goals simp only [DI])), trivial⟩, W⟩
   rw [hb3] at F
   refine AL F (Ab F Aa Aa Aa Aa) Aa (Ao Aa) (Ap M9 Aa Aa Aa T3 F Aa 2 Aa).q fun a F => ?_
   refine AL F (Ab F Aa Aa Aa Aa) Aa (Ao Aa) (Bw (v := Value.int .i64 p0.un.2.2.1) 0 F Aa Aa T3 Aa).q fun a F => ?_
   refine AL F (Ab F Aa Aa Aa Aa) Aa (Ao Aa) (Ap M9 Aa Aa Aa T3 F Aa 1 Aa).q fun a F => ?_
   refine AL F (Ab F Aa Aa Aa Aa) Aa (Ao Aa) (Bw (v := Value.int .i64 p0.un.2.1) 0 F Aa Aa T3 Aa).q fun a F => ?_
   refine AL F (Ab F Aa Aa Aa Aa) Aa (Ao Aa) (AK (v := Value.int .i64 (DQ p0.un.2.1)) F Yi Aa (fun w W => Pk any w p0.un.2.1 _ Aa)) fun a F => ?_
   refine AL F (Ab F Aa Aa Aa Aa) Aa (Ao Aa) (MD F Aa Aa).q fun a F => ?_
   refine AL F (Ab F Aa Aa Aa Aa) Aa (Ao Aa) (Br F Aa Aa Aa).q fun a F => ?_
   refine qs F Aa (Bq F Aa Aa Aa).q fun a F => ?_
   refine AJ fun w W => ?_
   refine Ac ?_
   exact ⟨F.re ⟨rfl, Aa, Aa, (DH (by try rw [hb3]; try rw [hb1]; try rw [hb2]; try rw [hb0]; all_goals simp only [DI])), trivial⟩, W⟩
  rw [hb0] at F
  iterate 4 refine Bj F (A7 F Aa Aa Aa Aa Aa) Aa Aa fun a F => ?_
  iterate 3 refine Bj F (E5 F Aa Aa Aa Aa) Aa Aa fun a F => ?_
  iterate 2 refine Bj F (A7 F Aa Aa Aa Aa Aa) Aa Aa fun a F => ?_
  iterate 3 refine Bj F (E5 F Aa Aa Aa Aa) Aa Aa fun a F => ?_
  iterate 2 refine Bj F (A7 F Aa Aa Aa Aa Aa) Aa Aa fun a F => ?_
  iterate 6 refine Bj F (E5 F Aa Aa Aa Aa) Aa Aa fun a F => ?_
  refine Bj F (A7 F Aa Aa Aa Aa Aa) Aa Aa fun a F => ?_
  refine qs F Aa (Br F Aa Aa Aa).q fun a F => ?_
  refine AJ fun w W => ?_
  refine Ac ?_
  exact ⟨F.re ⟨rfl, Aa, Aa, (DH (by try rw [hb0]; all_goals simp only [DI])), trivial⟩, W⟩
 rintro a w ⟨F, W⟩
 refine Cz F Aa H (fun F H => ?_) fun F H => ?_
 ·
  refine vc tk 5 F W fun a w F W => ?_
  refine Ak (Ay ?_)
  have H := AA H
  subst H
  refine Au (.inl Aa) F W Aa (Am F Aa) ?_
  exact ⟨rfl, W.done⟩
 refine FL tk 3 F W fun a w F W => ?_
 refine Ax (fun a w => Fr 98 [] [(1, .pointer (some ⟨b1, 0, none⟩)), (2, .bool false), (3, .int .i64 (p0.un.2.2.2.length : Int)), (85, .bool (bif decide (p0.un.1 ≤ 3) then (decide ((p0.un.2.2.2.length : Int) ≠ 0) || (bif decide (p0.un.1 = 4) then (decide ((p0.un.2.2.2.length : Int) ≠ 1) || (decide (5 ≤ p0.un.1) && (decide ((p0.un.2.2.2.length : Int) < 2) || decide (8 < (p0.un.2.2.2.length : Int))))) else (decide (5 ≤ p0.un.1) && (decide ((p0.un.2.2.2.length : Int) < 2) || decide (8 < (p0.un.2.2.2.length : Int)))))) else (bif decide (p0.un.1 = 4) then (decide ((p0.un.2.2.2.length : Int) ≠ 1) || (decide (5 ≤ p0.un.1) && (decide ((p0.un.2.2.2.length : Int) < 2) || decide (8 < (p0.un.2.2.2.length : Int))))) else (decide (5 ≤ p0.un.1) && (decide ((p0.un.2.2.2.length : Int) < 2) || decide (8 < (p0.un.2.2.2.length : Int)))))))] a ∧ Stw ⟨Y, [], w0⟩ (Lj b1 p0 v1) [] w) ?_ ?_
 ·
  refine Fo tk 5 [0] F W (ai fun a w F W => ?_)
  rcases Bool.eq_false_or_eq_true (decide (p0.un.1 ≤ 3)) with hb0 | hb0
  ·
   rw [hb0] at F
   refine vl tk 4 F W fun a w F W => ?_
   rcases Bool.eq_false_or_eq_true (decide ((p0.un.2.2.2.length : Int) ≠ 0)) with hb1 | hb1
   ·
    rw [hb1] at F
    refine vl tk 22 F W fun a w F W => ?_
    refine Ac ?_
    exact ⟨F.re ⟨rfl, Aa, Aa, (DH (by try rw [hb1]; try rw [hb0]; all_goals simp only [DI])), trivial⟩, W⟩
   rw [hb1] at F
   refine GD tk 4 [0] F W (ai fun a w F W => ?_)
   rcases Bool.eq_false_or_eq_true (decide (p0.un.1 = 4)) with hb2 | hb2
   ·
    rw [hb2] at F
    refine vl tk 5 F W fun a w F W => ?_
    rcases Bool.eq_false_or_eq_true (decide ((p0.un.2.2.2.length : Int) ≠ 1)) with hb3 | hb3
    ·
     rw [hb3] at F
     refine vl tk 13 F W fun a w F W => ?_
     refine Ac ?_
     exact ⟨F.re ⟨rfl, Aa, Aa, (DH (by try rw [hb1]; try rw [hb3]; try rw [hb0]; try rw [hb2]; all_goals simp only [DI])), trivial⟩, W⟩
    rw [hb3] at F
    refine GD tk 4 [0] F W (ai fun a w F W => ?_)
    rcases Bool.eq_false_or_eq_true (decide (5 ≤ p0.un.1)) with hb4 | hb4
    ·
     rw [hb4] at F
     refine vl tk 3 F W fun a w F W => ?_
     rcases Bool.eq_false_or_eq_true (decide ((p0.un.2.2.2.length : Int) < 2)) with hb5 | hb5
     ·
      rw [hb5] at F
      refine vl tk 6 F W fun a w F W => ?_
      refine Ac ?_
      exact ⟨F.re ⟨rfl, Aa, Aa, (DH (by try rw [hb1]; try rw [hb3]; try rw [hb5]; try rw [hb0]; try rw [hb2]; try rw [hb4]; all_goals simp only [DI])), trivial⟩, W⟩
     rw [hb5] at F
     refine vl tk 6 F W fun a w F W => ?_
     refine Ac ?_
     exact ⟨F.re ⟨rfl, Aa, Aa, (DH (by try rw [hb1]; try rw [hb3]; try rw [hb5]; try rw [hb0]; try rw [hb2]; try rw [hb4]; all_goals simp only [DI])), trivial⟩, W⟩
    rw [hb4] at F
    refine vl tk 9 F W fun a w F W => ?_
    refine Ac ?_
    exact ⟨F.re ⟨rfl, Aa, Aa, (DH (by try rw [hb1]; try rw [hb3]; try rw [hb0]; try rw [hb2]; try rw [hb4]; all_goals simp only [DI])), trivial⟩, W⟩
   rw [hb2] at F
   refine GD tk 9 [0] F W (ai fun a w F W => ?_)
   rcases Bool.eq_false_or_eq_true (decide (5 ≤ p0.un.1)) with hb3 | hb3
   ·
    rw [hb3] at F
    refine vl tk 3 F W fun a w F W => ?_
    rcases Bool.eq_false_or_eq_true (decide ((p0.un.2.2.2.length : Int) < 2)) with hb4 | hb4
    ·
     rw [hb4] at F
     refine vl tk 6 F W fun a w F W => ?_
     refine Ac ?_
     exact ⟨F.re ⟨rfl, Aa, Aa, (DH (by try rw [hb1]; try rw [hb4]; try rw [hb0]; try rw [hb2]; try rw [hb3]; all_goals simp only [DI])), trivial⟩, W⟩
    rw [hb4] at F
    refine vl tk 6 F W fun a w F W => ?_
    refine Ac ?_
    exact ⟨F.re ⟨rfl, Aa, Aa, (DH (by try rw [hb1]; try rw [hb4]; try rw [hb0]; try rw [hb2]; try rw [hb3]; all_goals simp only [DI])), trivial⟩, W⟩
   rw [hb3] at F
   refine vl tk 9 F W fun a w F W => ?_
   refine Ac ?_
   exact ⟨F.re ⟨rfl, Aa, Aa, (DH (by try rw [hb1]; try rw [hb0]; try rw [hb2]; try rw [hb3]; all_goals simp only [DI])), trivial⟩, W⟩
  rw [hb0] at F
  refine GD tk 8 [0] F W (ai fun a w F W => ?_)
  rcases Bool.eq_false_or_eq_true (decide (p0.un.1 = 4)) with hb1 | hb1
  ·
   rw [hb1] at F
   refine vl tk 5 F W fun a w F W => ?_
   rcases Bool.eq_false_or_eq_true (decide ((p0.un.2.2.2.length : Int) ≠ 1)) with hb2 | hb2
   ·
    rw [hb2] at F
    refine vl tk 13 F W fun a w F W => ?_
    refine Ac ?_
    exact ⟨F.re ⟨rfl, Aa, Aa, (DH (by try rw [hb2]; try rw [hb0]; try rw [hb1]; all_goals simp only [DI])), trivial⟩, W⟩
   rw [hb2] at F
   refine GD tk 4 [0] F W (ai fun a w F W => ?_)
   rcases Bool.eq_false_or_eq_true (decide (5 ≤ p0.un.1)) with hb3 | hb3
   ·
    rw [hb3] at F
    refine vl tk 3 F W fun a w F W => ?_
    rcases Bool.eq_false_or_eq_true (decide ((p0.un.2.2.2.length : Int) < 2)) with hb4 | hb4
    ·
     rw [hb4] at F
     refine vl tk 6 F W fun a w F W => ?_
     refine Ac ?_
     exact ⟨F.re ⟨rfl, Aa, Aa, (DH (by try rw [hb2]; try rw [hb4]; try rw [hb0]; try rw [hb1]; try rw [hb3]; all_goals simp only [DI])), trivial⟩, W⟩
    rw [hb4] at F
    refine vl tk 6 F W fun a w F W => ?_
    refine Ac ?_
    exact ⟨F.re ⟨rfl, Aa, Aa, (DH (by try rw [hb2]; try rw [hb4]; try rw [hb0]; try rw [hb1]; try rw [hb3]; all_goals simp only [DI])), trivial⟩, W⟩
   rw [hb3] at F
   refine vl tk 9 F W fun a w F W => ?_
   refine Ac ?_
   exact ⟨F.re ⟨rfl, Aa, Aa, (DH (by try rw [hb2]; try rw [hb0]; try rw [hb1]; try rw [hb3]; all_goals simp only [DI])), trivial⟩, W⟩
  rw [hb1] at F
  refine GD tk 9 [0] F W (ai fun a w F W => ?_)
  rcases Bool.eq_false_or_eq_true (decide (5 ≤ p0.un.1)) with hb2 | hb2
  ·
   rw [hb2] at F
   refine vl tk 3 F W fun a w F W => ?_
   rcases Bool.eq_false_or_eq_true (decide ((p0.un.2.2.2.length : Int) < 2)) with hb3 | hb3
   ·
    rw [hb3] at F
    refine vl tk 6 F W fun a w F W => ?_
    refine Ac ?_
    exact ⟨F.re ⟨rfl, Aa, Aa, (DH (by try rw [hb3]; try rw [hb0]; try rw [hb1]; try rw [hb2]; all_goals simp only [DI])), trivial⟩, W⟩
   rw [hb3] at F
   refine vl tk 6 F W fun a w F W => ?_
   refine Ac ?_
   exact ⟨F.re ⟨rfl, Aa, Aa, (DH (by try rw [hb3]; try rw [hb0]; try rw [hb1]; try rw [hb2]; all_goals simp only [DI])), trivial⟩, W⟩
  rw [hb2] at F
  refine vl tk 9 F W fun a w F W => ?_
  refine Ac ?_
  exact ⟨F.re ⟨rfl, Aa, Aa, (DH (by try rw [hb0]; try rw [hb1]; try rw [hb2]; all_goals simp only [DI])), trivial⟩, W⟩
 rintro a w ⟨F, W⟩
 refine Cz F Aa H (fun F H => ?_) fun F H => ?_
 ·
  refine vc tk 5 F W fun a w F W => ?_
  refine Ak (Ay ?_)
  have H := AA H
  subst H
  refine Au (.inl Aa) F W Aa (Am F Aa) ?_
  exact ⟨rfl, W.done⟩
 refine AX (Ac ?_)
 obtain ⟨o1, G1, K1, L1⟩ := QS H
 refine Ax (fun a w => some (Sum.inl ()) = some o1 ∧ Fr 98 [] [(2, .bool false)] a ∧ Stw ⟨Y, [], w0⟩ (Lj b1 p0 v1) [] w) ?_ ?_
 ·
  have H := G1
  clear G1 K1
  refine vc tk 6 F W fun a w F W => ?_
  refine BF H (fun s a w => Fr 98 [] [(1, .pointer (some ⟨b1, 0, none⟩)), (2, .bool false), (3, .int .i64 (p0.un.2.2.2.length : Int)), (4, .int .i64 s)] a ∧ Stw ⟨Y, [], w0⟩ (Lj b1 p0 v1) [] w) ⟨F.ra Aa, W⟩ fun s o a w H L2 hR => ?_
  obtain ⟨x1, rfl⟩ : ∃ x, x = s := ⟨s, rfl⟩
  obtain ⟨F, W⟩ := hR
  have F : Fr 98 [] [(1, .pointer (some ⟨b1, 0, none⟩)), (2, .bool false), (3, .int .i64 (p0.un.2.2.2.length : Int)), (4, .int .i64 x1)] a := F
  have W : Stw ⟨Y, [], w0⟩ (Lj b1 p0 v1) [] w := W
  rw [E0] at H
  refine vc tk 8 F W fun a w F W => ?_
  refine BJ F Aa H (fun F H => ?_) fun F H => ?_
  ·
   refine P6 tk 9 [0] F W (ai fun a w F W => ?_)
   obtain ⟨x2, h2, H⟩ := Ad H
   obtain ⟨v3, h3, h4⟩ := DM h1 h2
   have h5 : KX v3 = [.int .i64 x2.un.1, .int .i64 x2.un.2.1, .int .i64 x2.un.2.2.1, (v3.2.2.2.1)] := congrArg (fun q : Tr24 => ([.int .i64 q.un.1, .int .i64 q.un.2.1, .int .i64 q.un.2.2.1, (v3.2.2.2.1)] : List Value)) h4
   refine ls F W Aa (Av (r := Mi) Ub F Aa Aa (Af h_v1) h3).q fun a w F W => ?_
   refine ls F W Aa (Al (y := Value.agg #[.int .i64 x2.un.1, .int .i64 x2.un.2.1, .int .i64 x2.un.2.2.1, (v3.2.2.2.1)]) (j := 0) (i := x1) (enc := KX) F Aa Aa (Af h_v1) h3 Rs RP (by rw [h5]; rfl)).q fun a w F W => ?_
   obtain ⟨x3, h6, H⟩ := Ad H
   refine ls F W Aa (AK (v := Value.bool x3) F Yh Aa (fun w W => ih any w ((v3.2.2.2.1)) x2 _ h6 (Ek (BE (Af h_v1) h3 (Ai.snd (Ai.snd (Ai.snd Ai.here))) (congrArg (fun q : Tr24 => q.un.2.2.2) h4)) W))) fun a w F W => ?_
   refine Cl tk 3 F W fun a w F W => ?_
   refine Cz F Aa H (fun F H => ?_) fun F H => ?_
   ·
    refine vc tk 5 F W fun a w F W => ?_
    refine Ak (AD ?_)
    iterate 2 refine Ay ?_
    refine AD (Ay ?_)
    have H := L2 _ H
    have H := L1 _ H
    have H := AA H
    subst H
    refine Au (.inl Aa) F W Aa (Am F Aa) ?_
    exact ⟨rfl, W.done⟩
   refine AX (AG ?_)
   refine vn tk 5 F W fun a w F W => ?_
   refine Ac ?_
   exact ⟨_, H, F.ra Aa, W⟩
  refine Bu ?_
  iterate 2 refine BL ?_
  refine Bp (Ac ?_)
  have H := L2 _ H
  exact ⟨H, F.ra Aa, W⟩
 rintro a w ⟨hj, F, W⟩
 have H := K1 _ hj
 clear hj G1 K1 L1
 refine vc tk 5 F W fun a w F W => ?_
 refine Ak ?_
 have H := AA H
 subst H
 refine Au (.inl Aa) F W Aa (Am F Aa) ?_
 exact ⟨rfl, W.done⟩
theorem QF : ∀ (n : Nat) (Y : Nat → Prop) (w0 : World) (v1 : Value) (p0 : Tr24) (r : Bool) (H : D2 n p0 = some r) (h_v1 : Sl w0 (NX []) DO v1 p0.un.2.2.2), Calls Tryz.prog 62 #[.agg #[.int .i64 p0.un.1, .int .i64 p0.un.2.1, .int .i64 p0.un.2.2.1, v1]] w0 fun e w' => e = .returned (.bool r) ∧ Below w0.heap.size w0 w' := by
  intro n
  induction n with
  | zero => intro Y w0 v1 p0 r H; exact nomatch H
  | succ n ih => intro Y w0 v1 p0 r H h_v1; exact PW (D2 n) ih Y w0 v1 p0 r H h_v1
theorem RD (Y : Nat → Prop) (w0 : World) (v1 : Value) (p0 : Tr24) (r : Bool) (H : Nq p0 = some r) (h_v1 : Sl w0 (NX []) DO v1 p0.un.2.2.2) :
    Calls Tryz.prog 62 #[.agg #[.int .i64 p0.un.1, .int .i64 p0.un.2.1, .int .i64 p0.un.2.2.1, v1]] w0 fun e w' => e = .returned (.bool r) ∧ Below w0.heap.size w0 w' := by
  obtain ⟨n, H⟩ := CR H
  exact QF n Y w0 v1 p0 r H h_v1
theorem XN : Has Tryz.prog 30 := CJ Tryz.func30
noncomputable def Dz (fRec : Tr24 → Option Int) (p0 : Tr24) : (Int × Int) → Option ((Int × Int) ⊕ Int)
  | (x2, x3) => (if x3 < (p0.un.2.2.2.length : Int) then (ix p0.un.2.2.2 x3).bind fun x4 => (fRec x4).bind fun x5 => some (.inl (AO (x2 + x5), AO (x3 + 1))) else some (.inr x2))
noncomputable def EY (fRec : Tr24 → Option Int) (p0 : Tr24) : Option Int := (AW (Dz fRec p0) (1, 0)).bind fun x1 => some x1
noncomputable def Ea : Nat → Tr24 → Option Int
  | 0 => fun _ => none
  | n + 1 => EY (Ea n)
noncomputable def Ke (p0 : Tr24) : Option Int := GL fun n => Ea n p0
theorem P2 (fRec : Tr24 → Option Int) (ih : ∀ (Y : Nat → Prop) (w0 : World) (v1 : Value) (p0 : Tr24) (r : Int) (H : fRec p0 = some r) (h_v1 : Sl w0 (NX []) DO v1 p0.un.2.2.2), Calls Tryz.prog 30 #[.agg #[.int .i64 p0.un.1, .int .i64 p0.un.2.1, .int .i64 p0.un.2.2.1, v1]] w0 fun e w' => e = .returned (.int .i64 r) ∧ Below w0.heap.size w0 w') (Y : Nat → Prop) (w0 : World) (v1 : Value) (p0 : Tr24) (r : Int) (H : EY fRec p0 = some r) (h_v1 : Sl w0 (NX []) DO v1 p0.un.2.2.2) :
    Calls Tryz.prog 30 #[.agg #[.int .i64 p0.un.1, .int .i64 p0.un.2.1, .int .i64 p0.un.2.2.1, v1]] w0 fun e w' => e = .returned (.int .i64 r) ∧ Below w0.heap.size w0 w' := by
 refine enter Tryz.func30 Aa Tryz.ntmps30 Aa fun a F => ?_
 have W := Stw.start Y w0
 obtain ⟨v2, h1, h_v1⟩ := h_v1.ex EJ
 unfold EY at H
 refine vc tk 2 F W fun a w F W => ?_
 refine CY (cs := (M6 p0 v1)) F W Aa Aa Aa fun b1 a w F W => ?_
 refine Cl tk 8 F W fun a w F W => ?_
 obtain ⟨o1, G1, K1⟩ := Ad H
 refine Ax (fun a w => ∃ x1 : Int, some (x1) = some o1 ∧ Fr 21 [] [(2, .int .i64 0), (3, .int .i64 x1)] a ∧ Stw ⟨Y, [], w0⟩ (Lj b1 p0 v1) [] w) ?_ ?_
 ·
  have H := G1
  clear G1 K1
  refine vc tk 6 F W fun a w F W => ?_
  refine BF H (fun s a w => Fr 21 [] [(1, .pointer (some ⟨b1, 0, none⟩)), (2, .int .i64 0), (3, .int .i64 s.1), (4, .int .i64 s.2)] a ∧ Stw ⟨Y, [], w0⟩ (Lj b1 p0 v1) [] w) ⟨F.ra Aa, W⟩ fun s o a w H L2 hR => ?_
  obtain ⟨x2, x3⟩ := s
  obtain ⟨F, W⟩ := hR
  have F : Fr 21 [] [(1, .pointer (some ⟨b1, 0, none⟩)), (2, .int .i64 0), (3, .int .i64 x2), (4, .int .i64 x3)] a := F
  have W : Stw ⟨Y, [], w0⟩ (Lj b1 p0 v1) [] w := W
  rw [Dz] at H
  refine Fo tk 6 [0] F W (ai fun a w F W => ?_)
  refine ls F W Aa (CS (r := DO) (l := p0.un.2.2.2) Ql Aa F Aa (Aq EJ h1 (Af h_v1))).q fun a w F W => ?_
  refine Cl tk 3 F W fun a w F W => ?_
  refine BJ F Aa H (fun F H => ?_) fun F H => ?_
  ·
   refine P6 tk 9 [0] F W (ai fun a w F W => ?_)
   obtain ⟨x4, h2, H⟩ := Ad H
   obtain ⟨v3, h3, h4⟩ := DM h1 h2
   have h5 : KX v3 = [.int .i64 x4.un.1, .int .i64 x4.un.2.1, .int .i64 x4.un.2.2.1, (v3.2.2.2.1)] := congrArg (fun q : Tr24 => ([.int .i64 q.un.1, .int .i64 q.un.2.1, .int .i64 q.un.2.2.1, (v3.2.2.2.1)] : List Value)) h4
   refine ls F W Aa (Av (r := Mi) Ub F Aa Aa (Af h_v1) h3).q fun a w F W => ?_
   refine ls F W Aa (Al (y := Value.agg #[.int .i64 x4.un.1, .int .i64 x4.un.2.1, .int .i64 x4.un.2.2.1, (v3.2.2.2.1)]) (j := 0) (i := x3) (enc := KX) F Aa Aa (Af h_v1) h3 Rs RP (by rw [h5]; rfl)).q fun a w F W => ?_
   obtain ⟨x5, h6, H⟩ := Ad H
   refine ls F W Aa (AK (v := Value.int .i64 x5) F XN Aa (fun w W => ih any w ((v3.2.2.2.1)) x4 _ h6 (Ek (BE (Af h_v1) h3 (Ai.snd (Ai.snd (Ai.snd Ai.here))) (congrArg (fun q : Tr24 => q.un.2.2.2) h4)) W))) fun a w F W => ?_
   refine vl tk 3 F W fun a w F W => ?_
   refine AG ?_
   refine vn tk 5 F W fun a w F W => ?_
   refine Ac ?_
   exact ⟨_, H, F.ra Aa, W⟩
  refine Bu ?_
  iterate 2 refine BL ?_
  refine Bp (Ac ?_)
  have H := L2 _ H
  exact ⟨_, H, F.ra Aa, W⟩
 rintro a w ⟨x1, hj, F, W⟩
 have hj := AA hj
 subst hj
 have H := K1
 clear G1 K1
 refine vc tk 6 F W fun a w F W => ?_
 refine Ak ?_
 have H := AA H
 subst H
 refine Au (.inl Aa) F W Aa (Am F Aa) ?_
 exact ⟨rfl, W.done⟩
theorem Qr : ∀ (n : Nat) (Y : Nat → Prop) (w0 : World) (v1 : Value) (p0 : Tr24) (r : Int) (H : Ea n p0 = some r) (h_v1 : Sl w0 (NX []) DO v1 p0.un.2.2.2), Calls Tryz.prog 30 #[.agg #[.int .i64 p0.un.1, .int .i64 p0.un.2.1, .int .i64 p0.un.2.2.1, v1]] w0 fun e w' => e = .returned (.int .i64 r) ∧ Below w0.heap.size w0 w' := by
  intro n
  induction n with
  | zero => intro Y w0 v1 p0 r H; exact nomatch H
  | succ n ih => intro Y w0 v1 p0 r H h_v1; exact P2 (Ea n) ih Y w0 v1 p0 r H h_v1
theorem N0 (Y : Nat → Prop) (w0 : World) (v1 : Value) (p0 : Tr24) (r : Int) (H : Ke p0 = some r) (h_v1 : Sl w0 (NX []) DO v1 p0.un.2.2.2) :
    Calls Tryz.prog 30 #[.agg #[.int .i64 p0.un.1, .int .i64 p0.un.2.1, .int .i64 p0.un.2.2.1, v1]] w0 fun e w' => e = .returned (.int .i64 r) ∧ Below w0.heap.size w0 w' := by
  obtain ⟨n, H⟩ := CR H
  exact Qr n Y w0 v1 p0 r H h_v1
theorem W8 : Has Tryz.prog 63 := CJ Tryz.func63
noncomputable def DA (fRec : Tr24 → Option Int) (p0 : Tr24) : (Int × Int) → Option ((Int × Int) ⊕ Int)
  | (x2, x3) => (if x3 < (p0.un.2.2.2.length : Int) then ((ix p0.un.2.2.2 x3).bind fun x5 => (fRec x5).bind fun x6 => (if x2 < (AO (x6 + 1)) then (ix p0.un.2.2.2 x3).bind fun x7 => (fRec x7).bind fun x8 => some (AO (x8 + 1)) else some x2)).bind fun x4 => some (.inl (x4, AO (x3 + 1))) else some (.inr x2))
noncomputable def ER (fRec : Tr24 → Option Int) (p0 : Tr24) : Option Int := (AW (DA fRec p0) (1, 0)).bind fun x1 => some x1
noncomputable def D3 : Nat → Tr24 → Option Int
  | 0 => fun _ => none
  | n + 1 => ER (D3 n)
noncomputable def Ox (p0 : Tr24) : Option Int := GL fun n => D3 n p0
theorem PV (fRec : Tr24 → Option Int) (ih : ∀ (Y : Nat → Prop) (w0 : World) (v1 : Value) (p0 : Tr24) (r : Int) (H : fRec p0 = some r) (h_v1 : Sl w0 (NX []) DO v1 p0.un.2.2.2), Calls Tryz.prog 63 #[.agg #[.int .i64 p0.un.1, .int .i64 p0.un.2.1, .int .i64 p0.un.2.2.1, v1]] w0 fun e w' => e = .returned (.int .i64 r) ∧ Below w0.heap.size w0 w') (Y : Nat → Prop) (w0 : World) (v1 : Value) (p0 : Tr24) (r : Int) (H : ER fRec p0 = some r) (h_v1 : Sl w0 (NX []) DO v1 p0.un.2.2.2) :
    Calls Tryz.prog 63 #[.agg #[.int .i64 p0.un.1, .int .i64 p0.un.2.1, .int .i64 p0.un.2.2.1, v1]] w0 fun e w' => e = .returned (.int .i64 r) ∧ Below w0.heap.size w0 w' := by
 refine enter Tryz.func63 Aa Tryz.ntmps63 Aa fun a F => ?_
 have W := Stw.start Y w0
 obtain ⟨v2, h1, h_v1⟩ := h_v1.ex EJ
 unfold ER at H
 refine vc tk 2 F W fun a w F W => ?_
 refine CY (cs := (M6 p0 v1)) F W Aa Aa Aa fun b1 a w F W => ?_
 refine Cl tk 8 F W fun a w F W => ?_
 obtain ⟨o1, G1, K1⟩ := Ad H
 refine Ax (fun a w => ∃ x1 : Int, some (x1) = some o1 ∧ Fr 29 [] [(2, .int .i64 0), (3, .int .i64 x1)] a ∧ Stw ⟨Y, [], w0⟩ (Lj b1 p0 v1) [] w) ?_ ?_
 ·
  have H := G1
  clear G1 K1
  refine vc tk 6 F W fun a w F W => ?_
  refine BF H (fun s a w => Fr 29 [] [(1, .pointer (some ⟨b1, 0, none⟩)), (2, .int .i64 0), (3, .int .i64 s.1), (4, .int .i64 s.2)] a ∧ Stw ⟨Y, [], w0⟩ (Lj b1 p0 v1) [] w) ⟨F.ra Aa, W⟩ fun s o a w H L2 hR => ?_
  obtain ⟨x2, x3⟩ := s
  obtain ⟨F, W⟩ := hR
  have F : Fr 29 [] [(1, .pointer (some ⟨b1, 0, none⟩)), (2, .int .i64 0), (3, .int .i64 x2), (4, .int .i64 x3)] a := F
  have W : Stw ⟨Y, [], w0⟩ (Lj b1 p0 v1) [] w := W
  rw [DA] at H
  refine Fo tk 6 [0] F W (ai fun a w F W => ?_)
  refine ls F W Aa (CS (r := DO) (l := p0.un.2.2.2) Ql Aa F Aa (Aq EJ h1 (Af h_v1))).q fun a w F W => ?_
  refine Cl tk 3 F W fun a w F W => ?_
  refine BJ F Aa H (fun F H => ?_) fun F H => ?_
  ·
   refine AX (Ac ?_)
   obtain ⟨o3, G3, K3⟩ := Ad H
   refine Ax (fun a w => ∃ x4 : Int, some (x4) = some o3 ∧ Fr 29 [] [(1, .pointer (some ⟨b1, 0, none⟩)), (2, .int .i64 0), (3, .int .i64 x4), (4, .int .i64 x3)] a ∧ Stw ⟨Y, [], w0⟩ (Lj b1 p0 v1) [] w) ?_ ?_
   ·
    have H := G3
    clear G3 K3
    refine Fo tk 6 [0] F W (ai fun a w F W => ?_)
    obtain ⟨x5, h2, H⟩ := Ad H
    obtain ⟨v3, h3, h4⟩ := DM h1 h2
    have h5 : KX v3 = [.int .i64 x5.un.1, .int .i64 x5.un.2.1, .int .i64 x5.un.2.2.1, (v3.2.2.2.1)] := congrArg (fun q : Tr24 => ([.int .i64 q.un.1, .int .i64 q.un.2.1, .int .i64 q.un.2.2.1, (v3.2.2.2.1)] : List Value)) h4
    refine ls F W Aa (Av (r := Mi) Ub F Aa Aa (Af h_v1) h3).q fun a w F W => ?_
    refine ls F W Aa (Al (y := Value.agg #[.int .i64 x5.un.1, .int .i64 x5.un.2.1, .int .i64 x5.un.2.2.1, (v3.2.2.2.1)]) (j := 0) (i := x3) (enc := KX) F Aa Aa (Af h_v1) h3 Rs RP (by rw [h5]; rfl)).q fun a w F W => ?_
    obtain ⟨x6, h6, H⟩ := Ad H
    refine ls F W Aa (AK (v := Value.int .i64 x6) F W8 Aa (fun w W => ih any w ((v3.2.2.2.1)) x5 _ h6 (Ek (BE (Af h_v1) h3 (Ai.snd (Ai.snd (Ai.snd Ai.here))) (congrArg (fun q : Tr24 => q.un.2.2.2) h4)) W))) fun a w F W => ?_
    refine Cl tk 5 F W fun a w F W => ?_
    refine BJ F Aa H (fun F H => ?_) fun F H => ?_
    ·
     obtain ⟨v4, h7, h8⟩ := Sl.ex EJ (Sl.at_ h_v1 h3 (Ai.snd (Ai.snd (Ai.snd Ai.here))) (congrArg (fun q : Tr24 => q.un.2.2.2) h4))
     refine Fo tk 4 [0] F W (ai fun a w F W => ?_)
     obtain ⟨x7, h9, H⟩ := Ad H
     obtain ⟨v5, h10, h11⟩ := DM h1 h9
     have h12 : KX v5 = [.int .i64 x7.un.1, .int .i64 x7.un.2.1, .int .i64 x7.un.2.2.1, (v5.2.2.2.1)] := congrArg (fun q : Tr24 => ([.int .i64 q.un.1, .int .i64 q.un.2.1, .int .i64 q.un.2.2.1, (v5.2.2.2.1)] : List Value)) h11
     refine ls F W Aa (Av (r := Mi) Ub F Aa Aa (Af h_v1) h10).q fun a w F W => ?_
     refine ls F W Aa (Al (y := Value.agg #[.int .i64 x7.un.1, .int .i64 x7.un.2.1, .int .i64 x7.un.2.2.1, (v5.2.2.2.1)]) (j := 0) (i := x3) (enc := KX) F Aa Aa (Af h_v1) h10 Rs RP (by rw [h12]; rfl)).q fun a w F W => ?_
     obtain ⟨x8, h13, H⟩ := Ad H
     refine ls F W Aa (AK (v := Value.int .i64 x8) F W8 Aa (fun w W => ih any w ((v5.2.2.2.1)) x7 _ h13 (Ek (BE (Af h_v1) h10 (Ai.snd (Ai.snd (Ai.snd Ai.here))) (congrArg (fun q : Tr24 => q.un.2.2.2) h11)) W))) fun a w F W => ?_
     refine vl tk 3 F W fun a w F W => ?_
     refine AG (Ac ?_)
     exact ⟨_, H, F.ra Aa, W⟩
    refine AX (AG (Ac ?_))
    exact ⟨_, H, F.ra Aa, W⟩
   rintro a w ⟨x4, hj, F, W⟩
   have hj := AA hj
   subst hj
   have H := K3
   clear G3 K3
   refine vc tk 5 F W fun a w F W => ?_
   refine Ac ?_
   exact ⟨_, H, F.ra Aa, W⟩
  refine Bu ?_
  iterate 2 refine BL ?_
  refine Bp (Ac ?_)
  have H := L2 _ H
  exact ⟨_, H, F.ra Aa, W⟩
 rintro a w ⟨x1, hj, F, W⟩
 have hj := AA hj
 subst hj
 have H := K1
 clear G1 K1
 refine vc tk 6 F W fun a w F W => ?_
 refine Ak ?_
 have H := AA H
 subst H
 refine Au (.inl Aa) F W Aa (Am F Aa) ?_
 exact ⟨rfl, W.done⟩
theorem QL : ∀ (n : Nat) (Y : Nat → Prop) (w0 : World) (v1 : Value) (p0 : Tr24) (r : Int) (H : D3 n p0 = some r) (h_v1 : Sl w0 (NX []) DO v1 p0.un.2.2.2), Calls Tryz.prog 63 #[.agg #[.int .i64 p0.un.1, .int .i64 p0.un.2.1, .int .i64 p0.un.2.2.1, v1]] w0 fun e w' => e = .returned (.int .i64 r) ∧ Below w0.heap.size w0 w' := by
  intro n
  induction n with
  | zero => intro Y w0 v1 p0 r H; exact nomatch H
  | succ n ih => intro Y w0 v1 p0 r H h_v1; exact PV (D3 n) ih Y w0 v1 p0 r H h_v1
theorem RG (Y : Nat → Prop) (w0 : World) (v1 : Value) (p0 : Tr24) (r : Int) (H : Ox p0 = some r) (h_v1 : Sl w0 (NX []) DO v1 p0.un.2.2.2) :
    Calls Tryz.prog 63 #[.agg #[.int .i64 p0.un.1, .int .i64 p0.un.2.1, .int .i64 p0.un.2.2.1, v1]] w0 fun e w' => e = .returned (.int .i64 r) ∧ Below w0.heap.size w0 w' := by
  obtain ⟨n, H⟩ := CR H
  exact QL n Y w0 v1 p0 r H h_v1
noncomputable def Hz (p0 : Tr24) : Option Bool := ((Nq p0).bind fun x2 => (if x2 = true then (Ke p0).bind fun x3 => (if x3 ≤ 64 then (Ox p0).bind fun x4 => some (decide (x4 ≤ 8)) else some false) else some false)).bind fun x1 => some x1
theorem Q1 (Y : Nat → Prop) (w0 : World) (v1 : Value) (p0 : Tr24) (r : Bool) (H : Hz p0 = some r) (h_v1 : Sl w0 (NX []) DO v1 p0.un.2.2.2) :
    Calls Tryz.prog 27 #[.agg #[.int .i64 p0.un.1, .int .i64 p0.un.2.1, .int .i64 p0.un.2.2.1, v1]] w0 fun e w' => e = .returned (.bool r) ∧ Below w0.heap.size w0 w' := by
 refine enter Tryz.func27 Aa Tryz.ntmps27 Aa fun a F => ?_
 have W := Stw.start Y w0
 obtain ⟨v2, h1, h_v1⟩ := h_v1.ex EJ
 unfold Hz at H
 refine vc tk 2 F W fun a w F W => ?_
 refine CY (cs := (M6 p0 v1)) F W Aa Aa Aa fun b1 a w F W => ?_
 refine vl tk 2 F W fun a w F W => ?_
 refine Ac ?_
 obtain ⟨o1, G1, K1⟩ := Ad H
 refine Ax (fun a w => ∃ x1 : Bool, some (x1) = some o1 ∧ Fr 15 [] [(2, .bool x1)] a ∧ Stw ⟨Y, [], w0⟩ (Lj b1 p0 v1) [] w) ?_ ?_
 ·
  have H := G1
  clear G1 K1
  refine Fo tk 2 [0] F W (ai fun a w F W => ?_)
  obtain ⟨x2, h2, H⟩ := Ad H
  refine ls F W Aa (AK (v := Value.bool x2) F Yh Aa (fun w W => RD any w (v1) p0 _ h2 (Ek (Aq EJ h1 (Af h_v1)) W))) fun a w F W => ?_
  refine ls F W Aa (An F Aa).q fun a w F W => ?_
  rcases Bool.eq_false_or_eq_true x2 with hb | hb
  ·
   have H := B8 hb H
   rw [hb] at F
   clear hb
   refine GQ F W (Ab F Aa Aa Aa Aa) Aa (Ao Aa) (Bw (v := Value.agg #[.int .i64 p0.un.1, .int .i64 p0.un.2.1, .int .i64 p0.un.2.2.1, v1]) 0 F Aa Aa RP Aa).q fun a w F W => ?_
   refine HB (Ab F Aa Aa Aa Aa) ?_
   obtain ⟨x3, h3, H⟩ := Ad H
   refine ls F W Aa (AK (v := Value.int .i64 x3) F XN Aa (fun w W => N0 any w (v1) p0 _ h3 (Ek (Aq EJ h1 (Af h_v1)) W))) fun a w F W => ?_
   refine vl tk 3 F W fun a w F W => ?_
   rcases Bool.eq_false_or_eq_true (decide (x3 ≤ 64)) with hb | hb
   ·
    have H := B8 (CI hb) H
    rw [hb] at F
    clear hb
    refine GQ F W (Ab F Aa Aa Aa Aa) Aa (Ao Aa) (Bw (v := Value.agg #[.int .i64 p0.un.1, .int .i64 p0.un.2.1, .int .i64 p0.un.2.2.1, v1]) 0 F Aa Aa RP Aa).q fun a w F W => ?_
    refine HB (Ab F Aa Aa Aa Aa) ?_
    obtain ⟨x4, h4, H⟩ := Ad H
    refine ls F W Aa (AK (v := Value.int .i64 x4) F W8 Aa (fun w W => RG any w (v1) p0 _ h4 (Ek (Aq EJ h1 (Af h_v1)) W))) fun a w F W => ?_
    refine vl tk 4 F W fun a w F W => ?_
    refine Ac ?_
    exact ⟨_, H, F.ra Aa, W⟩
   have H := B7 (CH hb) H
   rw [hb] at F
   clear hb
   refine vl tk 6 F W fun a w F W => ?_
   refine Ac ?_
   exact ⟨_, H, F.ra Aa, W⟩
  have H := B7 (by rw [hb]; decide) H
  rw [hb] at F
  clear hb
  refine vl tk 11 F W fun a w F W => ?_
  refine Ac ?_
  exact ⟨_, H, F.ra Aa, W⟩
 rintro a w ⟨x1, hj, F, W⟩
 have hj := AA hj
 subst hj
 have H := K1
 clear G1 K1
 refine Ak ?_
 have H := AA H
 subst H
 refine Au (.inl Aa) F W Aa (Am F Aa) ?_
 exact ⟨rfl, W.done⟩
theorem Y8 : Has Tryz.prog 27 := CJ Tryz.func27
theorem Yp : Bt Tryz.prog 24 [.int .i64 0, .int .i64 0, .int .i64 0, .slice none 0 0] [(0, 1), (1, 1), (2, 1), (3, 1)] := ⟨⟨.agg #[.int .i64 0, .int .i64 0, .int .i64 0, .slice none 0 0], by kernel_rfl, rfl⟩, ⟨_, M9, fun w => by kernel_rfl⟩⟩
theorem X3 : Has Tryz.prog 38 := CJ Tryz.func38
abbrev Ud (a0 : Nat) (a1 : Tr24) (a2 : Value) (a3 : Nat) (a4 : Tr24) (a5 : Value) : List (Nat × List Value) := [(a0, [.int .i64 a1.un.1, .int .i64 a1.un.2.1, .int .i64 a1.un.2.2.1, a2]), (a3, [.int .i64 a4.un.1, .int .i64 a4.un.2.1, .int .i64 a4.un.2.2.1, a5])]
noncomputable def Gz (fRec : Tr24 → Tr24 → Option Bool) (p0 : Tr24) (p1 : Tr24) : Int → Option (Int ⊕ (Unit ⊕ Bool))
  | x1 => (if x1 < (p0.un.2.2.2.length : Int) then (ix p0.un.2.2.2 x1).bind fun x2 => (ix p1.un.2.2.2 x1).bind fun x3 => (fRec x2 x3).bind fun x4 => (if (!x4) = true then some (.inr (.inr false)) else some (.inl (AO (x1 + 1)))) else some (.inr (.inl ())))
noncomputable def ES (fRec : Tr24 → Tr24 → Option Bool) (p0 : Tr24) (p1 : Tr24) : Option Bool := (if (decide (p0.un.1 ≠ p1.un.1) || (decide (p0.un.2.1 ≠ p1.un.2.1) || (decide (p0.un.2.2.1 ≠ p1.un.2.2.1) || decide ((p0.un.2.2.2.length : Int) ≠ (p1.un.2.2.2.length : Int))))) = true then some false else Ko (AW (Gz fRec p0 p1) 0) fun _ => some true)
noncomputable def E9 : Nat → Tr24 → Tr24 → Option Bool
  | 0 => fun _ _ => none
  | n + 1 => ES (E9 n)
noncomputable def JJ (p0 : Tr24) (p1 : Tr24) : Option Bool := GL fun n => E9 n p0 p1
theorem Pv (fRec : Tr24 → Tr24 → Option Bool) (ih : ∀ (Y : Nat → Prop) (w0 : World) (v1 : Value) (v2 : Value) (p0 : Tr24) (p1 : Tr24) (r : Bool) (H : fRec p0 p1 = some r) (h_v1 : Sl w0 (NX []) DO v1 p0.un.2.2.2) (h_v2 : Sl w0 (NX []) DO v2 p1.un.2.2.2), Calls Tryz.prog 38 #[.agg #[.int .i64 p0.un.1, .int .i64 p0.un.2.1, .int .i64 p0.un.2.2.1, v1], .agg #[.int .i64 p1.un.1, .int .i64 p1.un.2.1, .int .i64 p1.un.2.2.1, v2]] w0 fun e w' => e = .returned (.bool r) ∧ Below w0.heap.size w0 w') (Y : Nat → Prop) (w0 : World) (v1 : Value) (v2 : Value) (p0 : Tr24) (p1 : Tr24) (r : Bool) (H : ES fRec p0 p1 = some r) (h_v1 : Sl w0 (NX []) DO v1 p0.un.2.2.2) (h_v2 : Sl w0 (NX []) DO v2 p1.un.2.2.2) :
    Calls Tryz.prog 38 #[.agg #[.int .i64 p0.un.1, .int .i64 p0.un.2.1, .int .i64 p0.un.2.2.1, v1], .agg #[.int .i64 p1.un.1, .int .i64 p1.un.2.1, .int .i64 p1.un.2.2.1, v2]] w0 fun e w' => e = .returned (.bool r) ∧ Below w0.heap.size w0 w' := by
 refine enter Tryz.func38 Aa Tryz.ntmps38 Aa fun a F => ?_
 have W := Stw.start Y w0
 obtain ⟨v3, h1, h_v1⟩ := h_v1.ex EJ
 obtain ⟨v4, h2, h_v2⟩ := h_v2.ex EJ
 unfold ES at H
 refine vc tk 2 F W fun a w F W => ?_
 refine CY (cs := (M6 p0 v1)) F W Aa Aa Aa fun b1 a w F W => ?_
 refine CY (cs := (M6 p1 v2)) F W Aa Aa Aa fun b2 a w F W => ?_
 refine Cl tk 4 F W fun a w F W => ?_
 refine Ax (fun a w => Fr 53 [] [(2, .pointer (some ⟨b1, 0, none⟩)), (3, .pointer (some ⟨b2, 0, none⟩)), (4, .bool false), (33, .bool (decide (p0.un.1 ≠ p1.un.1) || (decide (p0.un.2.1 ≠ p1.un.2.1) || (decide (p0.un.2.2.1 ≠ p1.un.2.2.1) || decide ((p0.un.2.2.2.length : Int) ≠ (p1.un.2.2.2.length : Int))))))] a ∧ Stw ⟨Y, [], w0⟩ (Ud b2 p1 v2 b1 p0 v1) [] w) ?_ ?_
 ·
  refine Fo tk 7 [1, 0] F W (ai (ai fun a w F W => ?_))
  rcases Bool.eq_false_or_eq_true (decide (p0.un.1 ≠ p1.un.1)) with hb0 | hb0
  ·
   rw [hb0] at F
   refine vl tk 23 F W fun a w F W => ?_
   refine Ac ?_
   exact ⟨F.re ⟨rfl, Aa, Aa, (DH (by try rw [hb0]; all_goals simp only [DI])), trivial⟩, W⟩
  rw [hb0] at F
  refine GD tk 7 [1, 0] F W (ai (ai fun a w F W => ?_))
  rcases Bool.eq_false_or_eq_true (decide (p0.un.2.1 ≠ p1.un.2.1)) with hb1 | hb1
  ·
   rw [hb1] at F
   refine vl tk 16 F W fun a w F W => ?_
   refine Ac ?_
   exact ⟨F.re ⟨rfl, Aa, Aa, (DH (by try rw [hb1]; try rw [hb0]; all_goals simp only [DI])), trivial⟩, W⟩
  rw [hb1] at F
  refine GD tk 7 [1, 0] F W (ai (ai fun a w F W => ?_))
  rcases Bool.eq_false_or_eq_true (decide (p0.un.2.2.1 ≠ p1.un.2.2.1)) with hb2 | hb2
  ·
   rw [hb2] at F
   refine vl tk 9 F W fun a w F W => ?_
   refine Ac ?_
   exact ⟨F.re ⟨rfl, Aa, Aa, (DH (by try rw [hb2]; try rw [hb1]; try rw [hb0]; all_goals simp only [DI])), trivial⟩, W⟩
  rw [hb2] at F
  refine GD tk 2 [1] F W (ai fun a w F W => ?_)
  refine GQ F W (Ab F Aa Aa Aa Aa) Aa (Ao Aa) (CS (r := DO) (l := p0.un.2.2.2) Ql Aa F Aa (Aq EJ h1 (Af h_v1))).q fun a w F W => ?_
  refine GD tk 2 [0] F W (ai fun a w F W => ?_)
  refine GQ F W (Ab F Aa Aa Aa Aa) Aa (Ao Aa) (CS (r := DO) (l := p1.un.2.2.2) Ql Aa F Aa (Aq EJ h2 (Af h_v2))).q fun a w F W => ?_
  refine vl tk 3 F W fun a w F W => ?_
  refine Ac ?_
  exact ⟨F.re ⟨rfl, Aa, Aa, (DH (by try rw [hb2]; try rw [hb1]; try rw [hb0]; all_goals simp only [DI])), trivial⟩, W⟩
 rintro a w ⟨F, W⟩
 refine Cz F Aa H (fun F H => ?_) fun F H => ?_
 ·
  refine vc tk 5 F W fun a w F W => ?_
  refine Ak (Ay ?_)
  have H := AA H
  subst H
  refine Au (.inl Aa) F W Aa (Am F Aa) ?_
  exact ⟨rfl, W.done⟩
 refine AX (Ac ?_)
 obtain ⟨o1, G1, K1, L1⟩ := QS H
 refine Ax (fun a w => some (Sum.inl ()) = some o1 ∧ Fr 53 [] [(4, .bool false)] a ∧ Stw ⟨Y, [], w0⟩ (Ud b2 p1 v2 b1 p0 v1) [] w) ?_ ?_
 ·
  have H := G1
  clear G1 K1
  refine vc tk 6 F W fun a w F W => ?_
  have W := W.frontM (i := 1) Aa Aa
  have W := W.frontM (i := 1) Aa Aa
  refine BF H (fun s a w => Fr 53 [] [(2, .pointer (some ⟨b1, 0, none⟩)), (3, .pointer (some ⟨b2, 0, none⟩)), (4, .bool false), (5, .int .i64 s)] a ∧ Stw ⟨Y, [], w0⟩ (Ud b2 p1 v2 b1 p0 v1) [] w) ⟨F.ra Aa, W⟩ fun s o a w H L2 hR => ?_
  obtain ⟨x1, rfl⟩ : ∃ x, x = s := ⟨s, rfl⟩
  obtain ⟨F, W⟩ := hR
  have F : Fr 53 [] [(2, .pointer (some ⟨b1, 0, none⟩)), (3, .pointer (some ⟨b2, 0, none⟩)), (4, .bool false), (5, .int .i64 x1)] a := F
  have W : Stw ⟨Y, [], w0⟩ (Ud b2 p1 v2 b1 p0 v1) [] w := W
  rw [Gz] at H
  refine Fo tk 6 [1] F W (ai fun a w F W => ?_)
  refine ls F W Aa (CS (r := DO) (l := p0.un.2.2.2) Ql Aa F Aa (Aq EJ h1 (Af h_v1))).q fun a w F W => ?_
  refine Cl tk 3 F W fun a w F W => ?_
  refine BJ F Aa H (fun F H => ?_) fun F H => ?_
  ·
   refine FL tk 5 F W fun a w F W => ?_
   refine Cw W MO (by kernel_rfl) ?_
   refine qs F Aa (Ap M9 Aa Aa Aa T9 F Aa 3 Aa).q fun a F => ?_
   refine qs F Aa (Bw (v := v1) 1 F Aa Aa T9 Aa).q fun a F => ?_
   refine qs F Aa (An F Aa).q fun a F => ?_
   obtain ⟨x2, h3, H⟩ := Ad H
   obtain ⟨v5, h4, h5⟩ := DM h1 h3
   have h6 : KX v5 = [.int .i64 x2.un.1, .int .i64 x2.un.2.1, .int .i64 x2.un.2.2.1, (v5.2.2.2.1)] := congrArg (fun q : Tr24 => ([.int .i64 q.un.1, .int .i64 q.un.2.1, .int .i64 q.un.2.2.1, (v5.2.2.2.1)] : List Value)) h5
   refine qs F Aa (Av (r := Mi) Ub F Aa Aa (Af h_v1) h4).q fun a F => ?_
   refine qs F Aa (Al (y := Value.agg #[.int .i64 x2.un.1, .int .i64 x2.un.2.1, .int .i64 x2.un.2.2.1, (v5.2.2.2.1)]) (j := 0) (i := x1) (enc := KX) F Aa Aa (Af h_v1) h4 Rs RP (by rw [h6]; rfl)).q fun a F => ?_
   refine qs F Aa (Ap M9 Aa Aa Aa T9 F Aa 3 Aa).q fun a F => ?_
   refine qs F Aa (Bw (v := v2) 0 F Aa Aa T9 Aa).q fun a F => ?_
   refine qs F Aa (An F Aa).q fun a F => ?_
   obtain ⟨x3, h7, H⟩ := Ad H
   obtain ⟨v6, h8, h9⟩ := DM h2 h7
   have h10 : KX v6 = [.int .i64 x3.un.1, .int .i64 x3.un.2.1, .int .i64 x3.un.2.2.1, (v6.2.2.2.1)] := congrArg (fun q : Tr24 => ([.int .i64 q.un.1, .int .i64 q.un.2.1, .int .i64 q.un.2.2.1, (v6.2.2.2.1)] : List Value)) h9
   refine qs F Aa (Av (r := Mi) Ub F Aa Aa (Af h_v2) h8).q fun a F => ?_
   refine qs F Aa (Al (y := Value.agg #[.int .i64 x3.un.1, .int .i64 x3.un.2.1, .int .i64 x3.un.2.2.1, (v6.2.2.2.1)]) (j := 0) (i := x1) (enc := KX) F Aa Aa (Af h_v2) h8 Rs RP (by rw [h10]; rfl)).q fun a F => ?_
   obtain ⟨x4, h11, H⟩ := Ad H
   refine qs F Aa (AK (v := Value.bool x4) F X3 Aa (fun w W => ih any w ((v5.2.2.2.1)) ((v6.2.2.2.1)) x2 x3 _ h11 (Ek (BE (Af h_v1) h4 (Ai.snd (Ai.snd (Ai.snd Ai.here))) (congrArg (fun q : Tr24 => q.un.2.2.2) h5)) W) (Ek (BE (Af h_v2) h8 (Ai.snd (Ai.snd (Ai.snd Ai.here))) (congrArg (fun q : Tr24 => q.un.2.2.2) h9)) W))) fun a F => ?_
   refine qs F Aa (Js F Aa).q fun a F => ?_
   refine AJ fun w W => ?_
   refine Ac ?_
   refine Cz F Aa H (fun F H => ?_) fun F H => ?_
   ·
    refine vc tk 5 F W fun a w F W => ?_
    refine Ak (AD ?_)
    iterate 2 refine Ay ?_
    refine AD (Ay ?_)
    have H := L2 _ H
    have H := L1 _ H
    have H := AA H
    subst H
    refine Au (.inl Aa) F W Aa (Am F Aa) ?_
    exact ⟨rfl, W.done⟩
   refine AX (AG ?_)
   refine vn tk 5 F W fun a w F W => ?_
   refine Ac ?_
   have W := W.frontM (i := 1) Aa Aa
   have W := W.frontM (i := 1) Aa Aa
   exact ⟨_, H, F.ra Aa, W⟩
  refine Bu ?_
  iterate 2 refine BL ?_
  refine Bp (Ac ?_)
  have W := W.frontM (i := 1) Aa Aa
  have W := W.frontM (i := 1) Aa Aa
  have H := L2 _ H
  exact ⟨H, F.ra Aa, W⟩
 rintro a w ⟨hj, F, W⟩
 have H := K1 _ hj
 clear hj G1 K1 L1
 refine vc tk 5 F W fun a w F W => ?_
 refine Ak ?_
 have H := AA H
 subst H
 refine Au (.inl Aa) F W Aa (Am F Aa) ?_
 exact ⟨rfl, W.done⟩
theorem QE : ∀ (n : Nat) (Y : Nat → Prop) (w0 : World) (v1 : Value) (v2 : Value) (p0 : Tr24) (p1 : Tr24) (r : Bool) (H : E9 n p0 p1 = some r) (h_v1 : Sl w0 (NX []) DO v1 p0.un.2.2.2) (h_v2 : Sl w0 (NX []) DO v2 p1.un.2.2.2), Calls Tryz.prog 38 #[.agg #[.int .i64 p0.un.1, .int .i64 p0.un.2.1, .int .i64 p0.un.2.2.1, v1], .agg #[.int .i64 p1.un.1, .int .i64 p1.un.2.1, .int .i64 p1.un.2.2.1, v2]] w0 fun e w' => e = .returned (.bool r) ∧ Below w0.heap.size w0 w' := by
  intro n
  induction n with
  | zero => intro Y w0 v1 v2 p0 p1 r H; exact nomatch H
  | succ n ih => intro Y w0 v1 v2 p0 p1 r H h_v1 h_v2; exact Pv (E9 n) ih Y w0 v1 v2 p0 p1 r H h_v1 h_v2
theorem RA (Y : Nat → Prop) (w0 : World) (v1 : Value) (v2 : Value) (p0 : Tr24) (p1 : Tr24) (r : Bool) (H : JJ p0 p1 = some r) (h_v1 : Sl w0 (NX []) DO v1 p0.un.2.2.2) (h_v2 : Sl w0 (NX []) DO v2 p1.un.2.2.2) :
    Calls Tryz.prog 38 #[.agg #[.int .i64 p0.un.1, .int .i64 p0.un.2.1, .int .i64 p0.un.2.2.1, v1], .agg #[.int .i64 p1.un.1, .int .i64 p1.un.2.1, .int .i64 p1.un.2.2.1, v2]] w0 fun e w' => e = .returned (.bool r) ∧ Below w0.heap.size w0 w' := by
  obtain ⟨n, H⟩ := CR H
  exact QE n Y w0 v1 v2 p0 p1 r H h_v1 h_v2
theorem SM : type_of% Tryz.underlying25 := Tryz.underlying25
theorem Lu : type_of% Tryz.underlying27 := Tryz.underlying27
abbrev Mj (a : Int × (Int × Int × Int × (Value × List Tr24)) × Int × Int × (Value × List Tr27)) : List Value := [.int .i64 a.1, .int .i64 a.2.1.1, .int .i64 a.2.1.2.1, .int .i64 a.2.1.2.2.1, a.2.1.2.2.2.1, .int .i64 a.2.2.1, .int .i64 a.2.2.2.1, a.2.2.2.2.1]
theorem Su : Fj PA Mj := (Fj.pair Fl.int.to (Fj.pair (Fj.pair Fl.int.to (Fj.pair Fl.int.to (Fj.pair Fl.int.to Fj.vsl))) (Fj.pair Fl.int.to (Fj.pair Fl.int.to Fj.vsl))))
theorem UJ : Et Tryz.prog 25 27 8 96 := Et.of SM (by kernel_rfl) (by kernel_rfl) (by kernel_rfl) (by decide)
theorem XZ : Has Tryz.prog 32 := CJ Tryz.func32
abbrev Fv (a0 : Tr27) (a1 : Value) (a2 : Value) : List Value := [.int .i64 a0.un.1, .int .i64 a0.un.2.1.un.1, .int .i64 a0.un.2.1.un.2.1, .int .i64 a0.un.2.1.un.2.2.1, a1, .int .i64 a0.un.2.2.1, .int .i64 a0.un.2.2.2.1, a2]
abbrev GS (a0 : Nat) (a1 : Tr27) (a2 : Value) (a3 : Value) : List (Nat × List Value) := [(a0, [.int .i64 a1.un.1, .int .i64 a1.un.2.1.un.1, .int .i64 a1.un.2.1.un.2.1, .int .i64 a1.un.2.1.un.2.2.1, a2, .int .i64 a1.un.2.2.1, .int .i64 a1.un.2.2.2.1, a3])]
noncomputable def Eu (fRec : Tr27 → Option Bool) (p0 : Tr27) : Int → Option (Int ⊕ (Unit ⊕ Bool))
  | x4 => (if x4 < (p0.un.2.2.2.2.length : Int) then (ix p0.un.2.2.2.2 x4).bind fun x5 => (fRec (Tr27.of (x5.un.1, Tr24.of (x5.un.2.1.un.1, x5.un.2.1.un.2.1, x5.un.2.1.un.2.2.1, x5.un.2.1.un.2.2.2), x5.un.2.2.1, x5.un.2.2.2.1, x5.un.2.2.2.2))).bind fun x6 => (if (!x6) = true then some (.inr (.inr false)) else some (.inl (AO (x4 + 1)))) else some (.inr (.inl ())))
noncomputable def EP (fRec : Tr27 → Option Bool) (p0 : Tr27) : Option Bool := (if (decide (p0.un.1 < 1) || (decide (5 < p0.un.1) || (decide (p0.un.1 ≠ 2) && (decide (p0.un.2.2.1 ≠ 0) || decide (p0.un.2.2.2.1 ≠ 0))))) = true then some false else (if (decide (p0.un.1 = 1) || decide (p0.un.1 = 5)) = true then (Hz (Tr24.of (p0.un.2.1.un.1, p0.un.2.1.un.2.1, p0.un.2.1.un.2.2.1, p0.un.2.1.un.2.2.2))).bind fun x2 => (if (!x2) = true then some true else some false) else (JJ (Tr24.of (p0.un.2.1.un.1, p0.un.2.1.un.2.1, p0.un.2.1.un.2.2.1, p0.un.2.1.un.2.2.2)) (Tr24.of (0, 0, 0, ([] : List Tr24)))).bind fun x3 => some (!x3)).bind fun x1 => (if x1 = true then some false else (if (decide (p0.un.1 = 2) && (decide (p0.un.2.2.1 < 0) || (decide (4 < p0.un.2.2.1) || (decide (p0.un.2.2.2.1 < 0) || decide ((DQ p0.un.2.2.1) < p0.un.2.2.2.1))))) = true then some false else (if (bif decide (p0.un.1 ≤ 2) then (decide ((p0.un.2.2.2.2.length : Int) ≠ 0) || (bif decide (p0.un.1 = 5) then (decide ((p0.un.2.2.2.2.length : Int) ≠ 2) || (bif decide (p0.un.1 = 3) then (decide ((p0.un.2.2.2.2.length : Int) < 2) || decide (8 < (p0.un.2.2.2.2.length : Int))) else (decide (p0.un.1 = 4) && (decide ((p0.un.2.2.2.2.length : Int) < 2) || decide (8 < (p0.un.2.2.2.2.length : Int)))))) else (bif decide (p0.un.1 = 3) then (decide ((p0.un.2.2.2.2.length : Int) < 2) || decide (8 < (p0.un.2.2.2.2.length : Int))) else (decide (p0.un.1 = 4) && (decide ((p0.un.2.2.2.2.length : Int) < 2) || decide (8 < (p0.un.2.2.2.2.length : Int))))))) else (bif decide (p0.un.1 = 5) then (decide ((p0.un.2.2.2.2.length : Int) ≠ 2) || (bif decide (p0.un.1 = 3) then (decide ((p0.un.2.2.2.2.length : Int) < 2) || decide (8 < (p0.un.2.2.2.2.length : Int))) else (decide (p0.un.1 = 4) && (decide ((p0.un.2.2.2.2.length : Int) < 2) || decide (8 < (p0.un.2.2.2.2.length : Int)))))) else (bif decide (p0.un.1 = 3) then (decide ((p0.un.2.2.2.2.length : Int) < 2) || decide (8 < (p0.un.2.2.2.2.length : Int))) else (decide (p0.un.1 = 4) && (decide ((p0.un.2.2.2.2.length : Int) < 2) || decide (8 < (p0.un.2.2.2.2.length : Int))))))) = true then some false else Ko (AW (Eu fRec p0) 0) fun _ => some true))))
noncomputable def D8 : Nat → Tr27 → Option Bool
  | 0 => fun _ => none
  | n + 1 => EP (D8 n)
noncomputable def OJ (p0 : Tr27) : Option Bool := GL fun n => D8 n p0
theorem Pp (fRec : Tr27 → Option Bool) (ih : ∀ (Y : Nat → Prop) (w0 : World) (v1 : Value) (v2 : Value) (p0 : Tr27) (r : Bool) (H : fRec p0 = some r) (h_v1 : Sl w0 (NX []) DO v1 p0.un.2.1.un.2.2.2) (h_v2 : Sl w0 (NX []) GN v2 p0.un.2.2.2.2), Calls Tryz.prog 32 #[.agg #[.int .i64 p0.un.1, .int .i64 p0.un.2.1.un.1, .int .i64 p0.un.2.1.un.2.1, .int .i64 p0.un.2.1.un.2.2.1, v1, .int .i64 p0.un.2.2.1, .int .i64 p0.un.2.2.2.1, v2]] w0 fun e w' => e = .returned (.bool r) ∧ Below w0.heap.size w0 w') (Y : Nat → Prop) (w0 : World) (v1 : Value) (v2 : Value) (p0 : Tr27) (r : Bool) (H : EP fRec p0 = some r) (h_v1 : Sl w0 (NX []) DO v1 p0.un.2.1.un.2.2.2) (h_v2 : Sl w0 (NX []) GN v2 p0.un.2.2.2.2) :
    Calls Tryz.prog 32 #[.agg #[.int .i64 p0.un.1, .int .i64 p0.un.2.1.un.1, .int .i64 p0.un.2.1.un.2.1, .int .i64 p0.un.2.1.un.2.2.1, v1, .int .i64 p0.un.2.2.1, .int .i64 p0.un.2.2.2.1, v2]] w0 fun e w' => e = .returned (.bool r) ∧ Below w0.heap.size w0 w' := by
 refine enter Tryz.func32 Aa Tryz.ntmps32 Aa fun a F => ?_
 have W := Stw.start Y w0
 obtain ⟨v3, h1, h_v1⟩ := h_v1.ex EJ
 obtain ⟨v4, h2, h_v2⟩ := h_v2.ex Is
 unfold EP at H
 refine vc tk 2 F W fun a w F W => ?_
 refine CY (cs := (Fv p0 v1 v2)) F W Aa Aa Aa fun b1 a w F W => ?_
 refine FC tk 7 [0] F W (ai fun a w F W => ?_)
 refine ls F W Aa (CS (r := GN) (l := p0.un.2.2.2.2) SM Aa F Aa (Aq Is h2 (Af h_v2))).q fun a w F W => ?_
 refine Cl tk 4 F W fun a w F W => ?_
 refine Ax (fun a w => Fr 130 [] [(1, .pointer (some ⟨b1, 0, none⟩)), (2, .bool false), (3, .int .i64 (p0.un.2.2.2.2.length : Int)), (31, .bool (decide (p0.un.1 < 1) || (decide (5 < p0.un.1) || (decide (p0.un.1 ≠ 2) && (decide (p0.un.2.2.1 ≠ 0) || decide (p0.un.2.2.2.1 ≠ 0))))))] a ∧ Stw ⟨Y, [], w0⟩ (GS b1 p0 v1 v2) [] w) ?_ ?_
 ·
  refine Fo tk 5 [0] F W (ai fun a w F W => ?_)
  rcases Bool.eq_false_or_eq_true (decide (p0.un.1 < 1)) with hb0 | hb0
  ·
   rw [hb0] at F
   refine vl tk 20 F W fun a w F W => ?_
   refine Ac ?_
   exact ⟨F.re ⟨rfl, Aa, Aa, (DH (by try rw [hb0]; all_goals simp only [DI])), trivial⟩, W⟩
  rw [hb0] at F
  refine GD tk 5 [0] F W (ai fun a w F W => ?_)
  rcases Bool.eq_false_or_eq_true (decide (5 < p0.un.1)) with hb1 | hb1
  ·
   rw [hb1] at F
   refine vl tk 15 F W fun a w F W => ?_
   refine Ac ?_
   exact ⟨F.re ⟨rfl, Aa, Aa, (DH (by try rw [hb0]; try rw [hb1]; all_goals simp only [DI])), trivial⟩, W⟩
  rw [hb1] at F
  refine GD tk 4 [0] F W (ai fun a w F W => ?_)
  rcases Bool.eq_false_or_eq_true (decide (p0.un.1 ≠ 2)) with hb2 | hb2
  ·
   rw [hb2] at F
   refine GD tk 4 [0] F W (ai fun a w F W => ?_)
   rcases Bool.eq_false_or_eq_true (decide (p0.un.2.2.1 ≠ 0)) with hb3 | hb3
   ·
    rw [hb3] at F
    refine vl tk 7 F W fun a w F W => ?_
    refine Ac ?_
    exact ⟨F.re ⟨rfl, Aa, Aa, (DH (by try rw [hb3]; try rw [hb0]; try rw [hb1]; try rw [hb2]; all_goals simp only [DI])), trivial⟩, W⟩
   rw [hb3] at F
   refine GD tk 7 [0] F W (ai fun a w F W => ?_)
   refine Ac ?_
   exact ⟨F.re ⟨rfl, Aa, Aa, (DH (by try rw [hb3]; try rw [hb0]; try rw [hb1]; try rw [hb2]; all_goals simp only [DI])), trivial⟩, W⟩
  rw [hb2] at F
  refine vl tk 11 F W fun a w F W => ?_
  refine Ac ?_
  exact ⟨F.re ⟨rfl, Aa, Aa, (DH (by try rw [hb0]; try rw [hb1]; try rw [hb2]; all_goals simp only [DI])), trivial⟩, W⟩
 rintro a w ⟨F, W⟩
 refine Cz F Aa H (fun F H => ?_) fun F H => ?_
 ·
  refine vc tk 5 F W fun a w F W => ?_
  refine Ak (Ay ?_)
  have H := AA H
  subst H
  refine Au (.inl Aa) F W Aa (Am F Aa) ?_
  exact ⟨rfl, W.done⟩
 refine FL tk 2 F W fun a w F W => ?_
 refine Ax (fun a w => Fr 130 [] [(1, .pointer (some ⟨b1, 0, none⟩)), (2, .bool false), (3, .int .i64 (p0.un.2.2.2.2.length : Int)), (4, .bool (decide (p0.un.1 = 1) || decide (p0.un.1 = 5)))] a ∧ Stw ⟨Y, [], w0⟩ (GS b1 p0 v1 v2) [] w) ?_ ?_
 ·
  refine Fo tk 5 [0] F W (ai fun a w F W => ?_)
  rcases Bool.eq_false_or_eq_true (decide (p0.un.1 = 1)) with hb0 | hb0
  ·
   rw [hb0] at F
   refine vl tk 6 F W fun a w F W => ?_
   refine Ac ?_
   exact ⟨F.re ⟨rfl, Aa, Aa, (DH (by try rw [hb0]; all_goals simp only [DI])), trivial⟩, W⟩
  rw [hb0] at F
  refine GD tk 6 [0] F W (ai fun a w F W => ?_)
  refine Ac ?_
  exact ⟨F.re ⟨rfl, Aa, Aa, (DH (by try rw [hb0]; all_goals simp only [DI])), trivial⟩, W⟩
 rintro a w ⟨F, W⟩
 refine FS ?_
 obtain ⟨o1, G1, K1⟩ := Ad H
 refine Ax (fun a w => ∃ x1 : Bool, some (x1) = some o1 ∧ Fr 130 [] [(1, .pointer (some ⟨b1, 0, none⟩)), (2, .bool false), (3, .int .i64 (p0.un.2.2.2.2.length : Int)), (57, .bool x1)] a ∧ Stw ⟨Y, [], w0⟩ (GS b1 p0 v1 v2) [] w) ?_ ?_
 ·
  have H := G1
  clear G1 K1
  refine vc tk 3 F W fun a w F W => ?_
  rcases Bool.eq_false_or_eq_true (decide (p0.un.1 = 1) || decide (p0.un.1 = 5)) with hb | hb
  ·
   have H := B8 hb H
   rw [hb] at F
   clear hb
   refine GD tk 2 [0] F W (ai fun a w F W => ?_)
   refine HB (Ab F Aa Aa Aa Aa) ?_
   obtain ⟨x2, h3, H⟩ := Ad H
   refine ls F W Aa (AK (v := Value.bool x2) F Y8 Aa (fun w W => Q1 any w (v1) (Tr24.of (p0.un.2.1.un.1, p0.un.2.1.un.2.1, p0.un.2.1.un.2.2.1, p0.un.2.1.un.2.2.2)) _ h3 (Ek (Aq EJ h1 (Af h_v1)) W))) fun a w F W => ?_
   refine vl tk 3 F W fun a w F W => ?_
   rcases Bool.eq_false_or_eq_true (!x2) with hb | hb
   ·
    have H := B8 hb H
    rw [hb] at F
    clear hb
    refine vl tk 11 F W fun a w F W => ?_
    refine Ac ?_
    exact ⟨_, H, F.ra Aa, W⟩
   have H := B7 (by rw [hb]; decide) H
   rw [hb] at F
   clear hb
   refine vl tk 11 F W fun a w F W => ?_
   refine Ac ?_
   exact ⟨_, H, F.ra Aa, W⟩
  have H := B7 (by rw [hb]; decide) H
  rw [hb] at F
  clear hb
  refine GD tk 11 [0] F W (ai fun a w F W => ?_)
  refine GQ F W (Ab F Aa Aa Aa Aa) Aa (Ao Aa) (CB (v := Value.agg #[.int .i64 0, .int .i64 0, .int .i64 0, .slice none 0 0]) Yp F Aa Aa Aa).q fun a w F W => ?_
  refine HB (Ab F Aa Aa Aa Aa) ?_
  obtain ⟨x3, h4, H⟩ := Ad H
  refine ls F W Aa (AK (v := Value.bool x3) F X3 Aa (fun w W => RA any w (v1) (Value.slice none 0 0) (Tr24.of (p0.un.2.1.un.1, p0.un.2.1.un.2.1, p0.un.2.1.un.2.2.1, p0.un.2.1.un.2.2.2)) (Tr24.of (0, 0, 0, ([] : List Tr24))) _ h4 (Ek (Aq EJ h1 (Af h_v1)) W) Sl.nil)) fun a w F W => ?_
  refine vl tk 4 F W fun a w F W => ?_
  refine Ac ?_
  exact ⟨_, H, F.ra Aa, W⟩
 rintro a w ⟨x1, hj, F, W⟩
 have hj := AA hj
 subst hj
 have H := K1
 clear G1 K1
 refine Cz F Aa H (fun F H => ?_) fun F H => ?_
 ·
  refine vc tk 5 F W fun a w F W => ?_
  refine Ak (Ay ?_)
  have H := AA H
  subst H
  refine Au (.inl Aa) F W Aa (Am F Aa) ?_
  exact ⟨rfl, W.done⟩
 refine FL tk 3 F W fun a w F W => ?_
 refine Ax (fun a w => Fr 130 [] [(1, .pointer (some ⟨b1, 0, none⟩)), (2, .bool false), (3, .int .i64 (p0.un.2.2.2.2.length : Int)), (83, .bool (decide (p0.un.1 = 2) && (decide (p0.un.2.2.1 < 0) || (decide (4 < p0.un.2.2.1) || (decide (p0.un.2.2.2.1 < 0) || decide ((DQ p0.un.2.2.1) < p0.un.2.2.2.1))))))] a ∧ Stw ⟨Y, [], w0⟩ (GS b1 p0 v1 v2) [] w) ?_ ?_
 ·
  refine Cw W MO (by kernel_rfl) ?_
  refine qs F Aa (Ap Lu Aa Aa Aa T3 F Aa 0 Aa).q fun a F => ?_
  refine qs F Aa (Bw (v := Value.int .i64 p0.un.1) 0 F Aa Aa T3 Aa).q fun a F => ?_
  refine qs F Aa (Pj F Aa Aa).q fun a F => ?_
  refine qs F Aa (An F Aa).q fun a F => ?_
  rcases Bool.eq_false_or_eq_true (decide (p0.un.1 = 2)) with hb0 | hb0
  ·
   rw [hb0] at F
   refine AL F (Ab F Aa Aa Aa Aa) Aa (Ao Aa) (Ap Lu Aa Aa Aa T3 F Aa 5 Aa).q fun a F => ?_
   refine AL F (Ab F Aa Aa Aa Aa) Aa (Ao Aa) (Bw (v := Value.int .i64 p0.un.2.2.1) 0 F Aa Aa T3 Aa).q fun a F => ?_
   refine AL F (Ab F Aa Aa Aa Aa) Aa (Ao Aa) (F7 F Aa Aa).q fun a F => ?_
   refine AL F (Ab F Aa Aa Aa Aa) Aa (Ao Aa) (An F Aa).q fun a F => ?_
   rcases Bool.eq_false_or_eq_true (decide (p0.un.2.2.1 < 0)) with hb1 | hb1
   ·
    rw [hb1] at F
    iterate 3 refine Bj F (A7 F Aa Aa Aa Aa Aa) Aa Aa fun a F => ?_
    refine AL F (Ab F Aa Aa Aa Aa) Aa (Ao Aa) (Bq F Aa Aa Aa).q fun a F => ?_
    refine AL F (Ab F Aa Aa Aa Aa) Aa (Ao Aa) (An F Aa).q fun a F => ?_
    iterate 3 refine Bj F (A7 F Aa Aa Aa Aa Aa) Aa Aa fun a F => ?_
    refine AL F (Ab F Aa Aa Aa Aa) Aa (Ao Aa) (Bq F Aa Aa Aa).q fun a F => ?_
    refine AL F (Ab F Aa Aa Aa Aa) Aa (Ao Aa) (An F Aa).q fun a F => ?_
    iterate 6 refine Bj F (A7 F Aa Aa Aa Aa Aa) Aa Aa fun a F => ?_
    refine AL F (Ab F Aa Aa Aa Aa) Aa (Ao Aa) (Bq F Aa Aa Aa).q fun a F => ?_
    refine qs F Aa (Bq F Aa Aa Aa).q fun a F => ?_
    refine AJ fun w W => ?_
    refine Ac ?_
    exact ⟨F.re ⟨rfl, Aa, Aa, (DH (by try rw [hb1]; try rw [hb0]; all_goals simp only [DI])), trivial⟩, W⟩
   rw [hb1] at F
   refine AL F (Ab F Aa Aa Aa Aa) Aa (Ao Aa) (Ap Lu Aa Aa Aa T3 F Aa 5 Aa).q fun a F => ?_
   refine AL F (Ab F Aa Aa Aa Aa) Aa (Ao Aa) (Bw (v := Value.int .i64 p0.un.2.2.1) 0 F Aa Aa T3 Aa).q fun a F => ?_
   refine AL F (Ab F Aa Aa Aa Aa) Aa (Ao Aa) (MD F Aa Aa).q fun a F => ?_
   refine AL F (Ab F Aa Aa Aa Aa) Aa (Ao Aa) (Br F Aa Aa Aa).q fun a F => ?_
   refine AL F (Ab F Aa Aa Aa Aa) Aa (Ao Aa) (An F Aa).q fun a F => ?_
   rcases Bool.eq_false_or_eq_true (decide (4 < p0.un.2.2.1)) with hb2 | hb2
   ·
    rw [hb2] at F
    iterate 3 refine Bj F (A7 F Aa Aa Aa Aa Aa) Aa Aa fun a F => ?_
    refine AL F (Ab F Aa Aa Aa Aa) Aa (Ao Aa) (Bq F Aa Aa Aa).q fun a F => ?_
    refine AL F (Ab F Aa Aa Aa Aa) Aa (Ao Aa) (An F Aa).q fun a F => ?_
    iterate 6 refine Bj F (A7 F Aa Aa Aa Aa Aa) Aa Aa fun a F => ?_
    refine AL F (Ab F Aa Aa Aa Aa) Aa (Ao Aa) (Bq F Aa Aa Aa).q fun a F => ?_
    refine qs F Aa (Bq F Aa Aa Aa).q fun a F => ?_
    refine AJ fun w W => ?_
    refine Ac ?_
    exact ⟨F.re ⟨rfl, Aa, Aa, (DH (by try rw [hb1]; try rw [hb2]; try rw [hb0]; all_goals simp only [DI])), trivial⟩, W⟩
   rw [hb2] at F
   refine AL F (Ab F Aa Aa Aa Aa) Aa (Ao Aa) (Ap Lu Aa Aa Aa T3 F Aa 6 Aa).q fun a F => ?_
   refine AL F (Ab F Aa Aa Aa Aa) Aa (Ao Aa) (Bw (v := Value.int .i64 p0.un.2.2.2.1) 0 F Aa Aa T3 Aa).q fun a F => ?_
   refine AL F (Ab F Aa Aa Aa Aa) Aa (Ao Aa) (F7 F Aa Aa).q fun a F => ?_
   refine AL F (Ab F Aa Aa Aa Aa) Aa (Ao Aa) (Br F Aa Aa Aa).q fun a F => ?_
   refine AL F (Ab F Aa Aa Aa Aa) Aa (Ao Aa) (An F Aa).q fun a F => ?_
   rcases Bool.eq_false_or_eq_true (decide (p0.un.2.2.2.1 < 0)) with hb3 | hb3
   ·
    rw [hb3] at F
    iterate 6 refine Bj F (A7 F Aa Aa Aa Aa Aa) Aa Aa fun a F => ?_
    refine AL F (Ab F Aa Aa Aa Aa) Aa (Ao Aa) (Bq F Aa Aa Aa).q fun a F => ?_
    refine qs F Aa (Bq F Aa Aa Aa).q fun a F => ?_
    refine AJ fun w W => ?_
    refine Ac ?_
    exact ⟨F.re ⟨rfl, Aa, Aa, (DH (by try rw [hb3]; try rw [hb1]; try rw [hb2]; try rw [hb0]; all_goals simp only [DI])), trivial⟩, W⟩
   rw [hb3] at F
   refine AL F (Ab F Aa Aa Aa Aa) Aa (Ao Aa) (Ap Lu Aa Aa Aa T3 F Aa 6 Aa).q fun a F => ?_
   refine AL F (Ab F Aa Aa Aa Aa) Aa (Ao Aa) (Bw (v := Value.int .i64 p0.un.2.2.2.1) 0 F Aa Aa T3 Aa).q fun a F => ?_
   refine AL F (Ab F Aa Aa Aa Aa) Aa (Ao Aa) (Ap Lu Aa Aa Aa T3 F Aa 5 Aa).q fun a F => ?_
   refine AL F (Ab F Aa Aa Aa Aa) Aa (Ao Aa) (Bw (v := Value.int .i64 p0.un.2.2.1) 0 F Aa Aa T3 Aa).q fun a F => ?_
   refine AL F (Ab F Aa Aa Aa Aa) Aa (Ao Aa) (AK (v := Value.int .i64 (DQ p0.un.2.2.1)) F Yi Aa (fun w W => Pk any w p0.un.2.2.1 _ Aa)) fun a F => ?_
   refine AL F (Ab F Aa Aa Aa Aa) Aa (Ao Aa) (MD F Aa Aa).q fun a F => ?_
   refine AL F (Ab F Aa Aa Aa Aa) Aa (Ao Aa) (Br F Aa Aa Aa).q fun a F => ?_
   refine qs F Aa (Bq F Aa Aa Aa).q fun a F => ?_
   refine AJ fun w W => ?_
   refine Ac ?_
   exact ⟨F.re ⟨rfl, Aa, Aa, (DH (by try rw [hb3]; try rw [hb1]; try rw [hb2]; try rw [hb0]; all_goals simp only [DI])), trivial⟩, W⟩
  rw [hb0] at F
  iterate 4 refine Bj F (A7 F Aa Aa Aa Aa Aa) Aa Aa fun a F => ?_
  iterate 3 refine Bj F (E5 F Aa Aa Aa Aa) Aa Aa fun a F => ?_
  iterate 2 refine Bj F (A7 F Aa Aa Aa Aa Aa) Aa Aa fun a F => ?_
  iterate 3 refine Bj F (E5 F Aa Aa Aa Aa) Aa Aa fun a F => ?_
  iterate 2 refine Bj F (A7 F Aa Aa Aa Aa Aa) Aa Aa fun a F => ?_
  iterate 6 refine Bj F (E5 F Aa Aa Aa Aa) Aa Aa fun a F => ?_
  refine Bj F (A7 F Aa Aa Aa Aa Aa) Aa Aa fun a F => ?_
  refine qs F Aa (Br F Aa Aa Aa).q fun a F => ?_
  refine AJ fun w W => ?_
  refine Ac ?_
  exact ⟨F.re ⟨rfl, Aa, Aa, (DH (by try rw [hb0]; all_goals simp only [DI])), trivial⟩, W⟩
 rintro a w ⟨F, W⟩
 refine Cz F Aa H (fun F H => ?_) fun F H => ?_
 ·
  refine vc tk 5 F W fun a w F W => ?_
  refine Ak (Ay ?_)
  have H := AA H
  subst H
  refine Au (.inl Aa) F W Aa (Am F Aa) ?_
  exact ⟨rfl, W.done⟩
 refine FL tk 3 F W fun a w F W => ?_
 refine Ax (fun a w => Fr 130 [] [(1, .pointer (some ⟨b1, 0, none⟩)), (2, .bool false), (3, .int .i64 (p0.un.2.2.2.2.length : Int)), (117, .bool (bif decide (p0.un.1 ≤ 2) then (decide ((p0.un.2.2.2.2.length : Int) ≠ 0) || (bif decide (p0.un.1 = 5) then (decide ((p0.un.2.2.2.2.length : Int) ≠ 2) || (bif decide (p0.un.1 = 3) then (decide ((p0.un.2.2.2.2.length : Int) < 2) || decide (8 < (p0.un.2.2.2.2.length : Int))) else (decide (p0.un.1 = 4) && (decide ((p0.un.2.2.2.2.length : Int) < 2) || decide (8 < (p0.un.2.2.2.2.length : Int)))))) else (bif decide (p0.un.1 = 3) then (decide ((p0.un.2.2.2.2.length : Int) < 2) || decide (8 < (p0.un.2.2.2.2.length : Int))) else (decide (p0.un.1 = 4) && (decide ((p0.un.2.2.2.2.length : Int) < 2) || decide (8 < (p0.un.2.2.2.2.length : Int))))))) else (bif decide (p0.un.1 = 5) then (decide ((p0.un.2.2.2.2.length : Int) ≠ 2) || (bif decide (p0.un.1 = 3) then (decide ((p0.un.2.2.2.2.length : Int) < 2) || decide (8 < (p0.un.2.2.2.2.length : Int))) else (decide (p0.un.1 = 4) && (decide ((p0.un.2.2.2.2.length : Int) < 2) || decide (8 < (p0.un.2.2.2.2.length : Int)))))) else (bif decide (p0.un.1 = 3) then (decide ((p0.un.2.2.2.2.length : Int) < 2) || decide (8 < (p0.un.2.2.2.2.length : Int))) else (decide (p0.un.1 = 4) && (decide ((p0.un.2.2.2.2.length : Int) < 2) || decide (8 < (p0.un.2.2.2.2.length : Int))))))))] a ∧ Stw ⟨Y, [], w0⟩ (GS b1 p0 v1 v2) [] w) ?_ ?_
 ·
  refine Fo tk 5 [0] F W (ai fun a w F W => ?_)
  rcases Bool.eq_false_or_eq_true (decide (p0.un.1 ≤ 2)) with hb0 | hb0
  ·
   rw [hb0] at F
   refine vl tk 4 F W fun a w F W => ?_
   rcases Bool.eq_false_or_eq_true (decide ((p0.un.2.2.2.2.length : Int) ≠ 0)) with hb1 | hb1
   ·
    rw [hb1] at F
    refine vl tk 27 F W fun a w F W => ?_
    refine Ac ?_
    exact ⟨F.re ⟨rfl, Aa, Aa, (DH (by try rw [hb1]; try rw [hb0]; all_goals simp only [DI])), trivial⟩, W⟩
   rw [hb1] at F
   refine GD tk 4 [0] F W (ai fun a w F W => ?_)
   rcases Bool.eq_false_or_eq_true (decide (p0.un.1 = 5)) with hb2 | hb2
   ·
    rw [hb2] at F
    refine vl tk 5 F W fun a w F W => ?_
    rcases Bool.eq_false_or_eq_true (decide ((p0.un.2.2.2.2.length : Int) ≠ 2)) with hb3 | hb3
    ·
     rw [hb3] at F
     refine vl tk 18 F W fun a w F W => ?_
     refine Ac ?_
     exact ⟨F.re ⟨rfl, Aa, Aa, (DH (by try rw [hb1]; try rw [hb3]; try rw [hb0]; try rw [hb2]; all_goals simp only [DI])), trivial⟩, W⟩
    rw [hb3] at F
    refine GD tk 4 [0] F W (ai fun a w F W => ?_)
    rcases Bool.eq_false_or_eq_true (decide (p0.un.1 = 3)) with hb4 | hb4
    ·
     rw [hb4] at F
     refine vl tk 8 F W fun a w F W => ?_
     rcases Bool.eq_false_or_eq_true (decide ((p0.un.2.2.2.2.length : Int) < 2)) with hb5 | hb5
     ·
      rw [hb5] at F
      refine vl tk 6 F W fun a w F W => ?_
      refine Ac ?_
      exact ⟨F.re ⟨rfl, Aa, Aa, (DH (by try rw [hb1]; try rw [hb3]; try rw [hb5]; try rw [hb0]; try rw [hb2]; try rw [hb4]; all_goals simp only [DI])), trivial⟩, W⟩
     rw [hb5] at F
     refine vl tk 6 F W fun a w F W => ?_
     refine Ac ?_
     exact ⟨F.re ⟨rfl, Aa, Aa, (DH (by try rw [hb1]; try rw [hb3]; try rw [hb5]; try rw [hb0]; try rw [hb2]; try rw [hb4]; all_goals simp only [DI])), trivial⟩, W⟩
    rw [hb4] at F
    refine GD tk 5 [0] F W (ai fun a w F W => ?_)
    rcases Bool.eq_false_or_eq_true (decide (p0.un.1 = 4)) with hb5 | hb5
    ·
     rw [hb5] at F
     refine vl tk 3 F W fun a w F W => ?_
     rcases Bool.eq_false_or_eq_true (decide ((p0.un.2.2.2.2.length : Int) < 2)) with hb6 | hb6
     ·
      rw [hb6] at F
      refine vl tk 6 F W fun a w F W => ?_
      refine Ac ?_
      exact ⟨F.re ⟨rfl, Aa, Aa, (DH (by try rw [hb1]; try rw [hb3]; try rw [hb6]; try rw [hb0]; try rw [hb2]; try rw [hb4]; try rw [hb5]; all_goals simp only [DI])), trivial⟩, W⟩
     rw [hb6] at F
     refine vl tk 6 F W fun a w F W => ?_
     refine Ac ?_
     exact ⟨F.re ⟨rfl, Aa, Aa, (DH (by try rw [hb1]; try rw [hb3]; try rw [hb6]; try rw [hb0]; try rw [hb2]; try rw [hb4]; try rw [hb5]; all_goals simp only [DI])), trivial⟩, W⟩
    rw [hb5] at F
    refine vl tk 9 F W fun a w F W => ?_
    refine Ac ?_
    exact ⟨F.re ⟨rfl, Aa, Aa, (DH (by try rw [hb1]; try rw [hb3]; try rw [hb0]; try rw [hb2]; try rw [hb4]; try rw [hb5]; all_goals simp only [DI])), trivial⟩, W⟩
   rw [hb2] at F
   refine GD tk 9 [0] F W (ai fun a w F W => ?_)
   rcases Bool.eq_false_or_eq_true (decide (p0.un.1 = 3)) with hb3 | hb3
   ·
    rw [hb3] at F
    refine vl tk 8 F W fun a w F W => ?_
    rcases Bool.eq_false_or_eq_true (decide ((p0.un.2.2.2.2.length : Int) < 2)) with hb4 | hb4
    ·
     rw [hb4] at F
     refine vl tk 6 F W fun a w F W => ?_
     refine Ac ?_
     exact ⟨F.re ⟨rfl, Aa, Aa, (DH (by try rw [hb1]; try rw [hb4]; try rw [hb0]; try rw [hb2]; try rw [hb3]; all_goals simp only [DI])), trivial⟩, W⟩
    rw [hb4] at F
    refine vl tk 6 F W fun a w F W => ?_
    refine Ac ?_
    exact ⟨F.re ⟨rfl, Aa, Aa, (DH (by try rw [hb1]; try rw [hb4]; try rw [hb0]; try rw [hb2]; try rw [hb3]; all_goals simp only [DI])), trivial⟩, W⟩
   rw [hb3] at F
   refine GD tk 5 [0] F W (ai fun a w F W => ?_)
   rcases Bool.eq_false_or_eq_true (decide (p0.un.1 = 4)) with hb4 | hb4
   ·
    rw [hb4] at F
    refine vl tk 3 F W fun a w F W => ?_
    rcases Bool.eq_false_or_eq_true (decide ((p0.un.2.2.2.2.length : Int) < 2)) with hb5 | hb5
    ·
     rw [hb5] at F
     refine vl tk 6 F W fun a w F W => ?_
     refine Ac ?_
     exact ⟨F.re ⟨rfl, Aa, Aa, (DH (by try rw [hb1]; try rw [hb5]; try rw [hb0]; try rw [hb2]; try rw [hb3]; try rw [hb4]; all_goals simp only [DI])), trivial⟩, W⟩
    rw [hb5] at F
    refine vl tk 6 F W fun a w F W => ?_
    refine Ac ?_
    exact ⟨F.re ⟨rfl, Aa, Aa, (DH (by try rw [hb1]; try rw [hb5]; try rw [hb0]; try rw [hb2]; try rw [hb3]; try rw [hb4]; all_goals simp only [DI])), trivial⟩, W⟩
   rw [hb4] at F
   refine vl tk 9 F W fun a w F W => ?_
   refine Ac ?_
   exact ⟨F.re ⟨rfl, Aa, Aa, (DH (by try rw [hb1]; try rw [hb0]; try rw [hb2]; try rw [hb3]; try rw [hb4]; all_goals simp only [DI])), trivial⟩, W⟩
  rw [hb0] at F
  refine GD tk 8 [0] F W (ai fun a w F W => ?_)
  rcases Bool.eq_false_or_eq_true (decide (p0.un.1 = 5)) with hb1 | hb1
  ·
   rw [hb1] at F
   refine vl tk 5 F W fun a w F W => ?_
   rcases Bool.eq_false_or_eq_true (decide ((p0.un.2.2.2.2.length : Int) ≠ 2)) with hb2 | hb2
   ·
    rw [hb2] at F
    refine vl tk 18 F W fun a w F W => ?_
    refine Ac ?_
    exact ⟨F.re ⟨rfl, Aa, Aa, (DH (by try rw [hb2]; try rw [hb0]; try rw [hb1]; all_goals simp only [DI])), trivial⟩, W⟩
   rw [hb2] at F
   refine GD tk 4 [0] F W (ai fun a w F W => ?_)
   rcases Bool.eq_false_or_eq_true (decide (p0.un.1 = 3)) with hb3 | hb3
   ·
    rw [hb3] at F
    refine vl tk 8 F W fun a w F W => ?_
    rcases Bool.eq_false_or_eq_true (decide ((p0.un.2.2.2.2.length : Int) < 2)) with hb4 | hb4
    ·
     rw [hb4] at F
     refine vl tk 6 F W fun a w F W => ?_
     refine Ac ?_
     exact ⟨F.re ⟨rfl, Aa, Aa, (DH (by try rw [hb2]; try rw [hb4]; try rw [hb0]; try rw [hb1]; try rw [hb3]; all_goals simp only [DI])), trivial⟩, W⟩
    rw [hb4] at F
    refine vl tk 6 F W fun a w F W => ?_
    refine Ac ?_
    exact ⟨F.re ⟨rfl, Aa, Aa, (DH (by try rw [hb2]; try rw [hb4]; try rw [hb0]; try rw [hb1]; try rw [hb3]; all_goals simp only [DI])), trivial⟩, W⟩
   rw [hb3] at F
   refine GD tk 5 [0] F W (ai fun a w F W => ?_)
   rcases Bool.eq_false_or_eq_true (decide (p0.un.1 = 4)) with hb4 | hb4
   ·
    rw [hb4] at F
    refine vl tk 3 F W fun a w F W => ?_
    rcases Bool.eq_false_or_eq_true (decide ((p0.un.2.2.2.2.length : Int) < 2)) with hb5 | hb5
    ·
     rw [hb5] at F
     refine vl tk 6 F W fun a w F W => ?_
     refine Ac ?_
     exact ⟨F.re ⟨rfl, Aa, Aa, (DH (by try rw [hb2]; try rw [hb5]; try rw [hb0]; try rw [hb1]; try rw [hb3]; try rw [hb4]; all_goals simp only [DI])), trivial⟩, W⟩
    rw [hb5] at F
    refine vl tk 6 F W fun a w F W => ?_
    refine Ac ?_
    exact ⟨F.re ⟨rfl, Aa, Aa, (DH (by try rw [hb2]; try rw [hb5]; try rw [hb0]; try rw [hb1]; try rw [hb3]; try rw [hb4]; all_goals simp only [DI])), trivial⟩, W⟩
   rw [hb4] at F
   refine vl tk 9 F W fun a w F W => ?_
   refine Ac ?_
   exact ⟨F.re ⟨rfl, Aa, Aa, (DH (by try rw [hb2]; try rw [hb0]; try rw [hb1]; try rw [hb3]; try rw [hb4]; all_goals simp only [DI])), trivial⟩, W⟩
  rw [hb1] at F
  refine GD tk 9 [0] F W (ai fun a w F W => ?_)
  rcases Bool.eq_false_or_eq_true (decide (p0.un.1 = 3)) with hb2 | hb2
  ·
   rw [hb2] at F
   refine vl tk 8 F W fun a w F W => ?_
   rcases Bool.eq_false_or_eq_true (decide ((p0.un.2.2.2.2.length : Int) < 2)) with hb3 | hb3
   ·
    rw [hb3] at F
    refine vl tk 6 F W fun a w F W => ?_
    refine Ac ?_
    exact ⟨F.re ⟨rfl, Aa, Aa, (DH (by try rw [hb3]; try rw [hb0]; try rw [hb1]; try rw [hb2]; all_goals simp only [DI])), trivial⟩, W⟩
   rw [hb3] at F
   refine vl tk 6 F W fun a w F W => ?_
   refine Ac ?_
   exact ⟨F.re ⟨rfl, Aa, Aa, (DH (by try rw [hb3]; try rw [hb0]; try rw [hb1]; try rw [hb2]; all_goals simp only [DI])), trivial⟩, W⟩
  rw [hb2] at F
  refine GD tk 5 [0] F W (ai fun a w F W => ?_)
  rcases Bool.eq_false_or_eq_true (decide (p0.un.1 = 4)) with hb3 | hb3
  ·
   rw [hb3] at F
   refine vl tk 3 F W fun a w F W => ?_
   rcases Bool.eq_false_or_eq_true (decide ((p0.un.2.2.2.2.length : Int) < 2)) with hb4 | hb4
   ·
    rw [hb4] at F
    refine vl tk 6 F W fun a w F W => ?_
    refine Ac ?_
    exact ⟨F.re ⟨rfl, Aa, Aa, (DH (by try rw [hb4]; try rw [hb0]; try rw [hb1]; try rw [hb2]; try rw [hb3]; all_goals simp only [DI])), trivial⟩, W⟩
   rw [hb4] at F
   refine vl tk 6 F W fun a w F W => ?_
   refine Ac ?_
   exact ⟨F.re ⟨rfl, Aa, Aa, (DH (by try rw [hb4]; try rw [hb0]; try rw [hb1]; try rw [hb2]; try rw [hb3]; all_goals simp only [DI])), trivial⟩, W⟩
  rw [hb3] at F
  refine vl tk 9 F W fun a w F W => ?_
  refine Ac ?_
  exact ⟨F.re ⟨rfl, Aa, Aa, (DH (by try rw [hb0]; try rw [hb1]; try rw [hb2]; try rw [hb3]; all_goals simp only [DI])), trivial⟩, W⟩
 rintro a w ⟨F, W⟩
 refine Cz F Aa H (fun F H => ?_) fun F H => ?_
 ·
  refine vc tk 5 F W fun a w F W => ?_
  refine Ak (Ay ?_)
  have H := AA H
  subst H
  refine Au (.inl Aa) F W Aa (Am F Aa) ?_
  exact ⟨rfl, W.done⟩
 refine AX (Ac ?_)
 obtain ⟨o2, G2, K2, L2⟩ := QS H
 refine Ax (fun a w => some (Sum.inl ()) = some o2 ∧ Fr 130 [] [(2, .bool false)] a ∧ Stw ⟨Y, [], w0⟩ (GS b1 p0 v1 v2) [] w) ?_ ?_
 ·
  have H := G2
  clear G2 K2
  refine vc tk 6 F W fun a w F W => ?_
  refine BF H (fun s a w => Fr 130 [] [(1, .pointer (some ⟨b1, 0, none⟩)), (2, .bool false), (3, .int .i64 (p0.un.2.2.2.2.length : Int)), (5, .int .i64 s)] a ∧ Stw ⟨Y, [], w0⟩ (GS b1 p0 v1 v2) [] w) ⟨F.ra Aa, W⟩ fun s o a w H L3 hR => ?_
  obtain ⟨x4, rfl⟩ : ∃ x, x = s := ⟨s, rfl⟩
  obtain ⟨F, W⟩ := hR
  have F : Fr 130 [] [(1, .pointer (some ⟨b1, 0, none⟩)), (2, .bool false), (3, .int .i64 (p0.un.2.2.2.2.length : Int)), (5, .int .i64 x4)] a := F
  have W : Stw ⟨Y, [], w0⟩ (GS b1 p0 v1 v2) [] w := W
  rw [Eu] at H
  refine vc tk 8 F W fun a w F W => ?_
  refine BJ F Aa H (fun F H => ?_) fun F H => ?_
  ·
   refine P6 tk 9 [0] F W (ai fun a w F W => ?_)
   obtain ⟨x5, h5, H⟩ := Ad H
   obtain ⟨v5, h6, h7⟩ := DM h2 h5
   have h8 : Mj v5 = [.int .i64 x5.un.1, .int .i64 x5.un.2.1.un.1, .int .i64 x5.un.2.1.un.2.1, .int .i64 x5.un.2.1.un.2.2.1, (v5.2.1.2.2.2.1), .int .i64 x5.un.2.2.1, .int .i64 x5.un.2.2.2.1, (v5.2.2.2.2.1)] := congrArg (fun q : Tr27 => ([.int .i64 q.un.1, .int .i64 q.un.2.1.un.1, .int .i64 q.un.2.1.un.2.1, .int .i64 q.un.2.1.un.2.2.1, (v5.2.1.2.2.2.1), .int .i64 q.un.2.2.1, .int .i64 q.un.2.2.2.1, (v5.2.2.2.2.1)] : List Value)) h7
   refine ls F W Aa (Av (r := PA) UJ F Aa Aa (Af h_v2) h6).q fun a w F W => ?_
   refine ls F W Aa (Al (y := Value.agg #[.int .i64 x5.un.1, .int .i64 x5.un.2.1.un.1, .int .i64 x5.un.2.1.un.2.1, .int .i64 x5.un.2.1.un.2.2.1, (v5.2.1.2.2.2.1), .int .i64 x5.un.2.2.1, .int .i64 x5.un.2.2.2.1, (v5.2.2.2.2.1)]) (j := 0) (i := x4) (enc := Mj) F Aa Aa (Af h_v2) h6 Su Sk (by rw [h8]; rfl)).q fun a w F W => ?_
   obtain ⟨x6, h9, H⟩ := Ad H
   refine ls F W Aa (AK (v := Value.bool x6) F XZ Aa (fun w W => ih any w ((v5.2.1.2.2.2.1)) ((v5.2.2.2.2.1)) (Tr27.of (x5.un.1, Tr24.of (x5.un.2.1.un.1, x5.un.2.1.un.2.1, x5.un.2.1.un.2.2.1, x5.un.2.1.un.2.2.2), x5.un.2.2.1, x5.un.2.2.2.1, x5.un.2.2.2.2)) _ h9 (Ek (BE (Af h_v2) h6 (Ai.snd (Ai.fst (Ai.snd (Ai.snd (Ai.snd Ai.here))))) (congrArg (fun q : Tr27 => q.un.2.1.un.2.2.2) h7)) W) (Ek (BE (Af h_v2) h6 (Ai.snd (Ai.snd (Ai.snd (Ai.snd Ai.here)))) (congrArg (fun q : Tr27 => q.un.2.2.2.2) h7)) W))) fun a w F W => ?_
   refine Cl tk 3 F W fun a w F W => ?_
   refine Cz F Aa H (fun F H => ?_) fun F H => ?_
   ·
    refine vc tk 5 F W fun a w F W => ?_
    refine Ak (AD ?_)
    iterate 2 refine Ay ?_
    refine AD (Ay ?_)
    have H := L3 _ H
    have H := L2 _ H
    have H := AA H
    subst H
    refine Au (.inl Aa) F W Aa (Am F Aa) ?_
    exact ⟨rfl, W.done⟩
   refine AX (AG ?_)
   refine vn tk 5 F W fun a w F W => ?_
   refine Ac ?_
   exact ⟨_, H, F.ra Aa, W⟩
  refine Bu ?_
  iterate 2 refine BL ?_
  refine Bp (Ac ?_)
  have H := L3 _ H
  exact ⟨H, F.ra Aa, W⟩
 rintro a w ⟨hj, F, W⟩
 have H := K2 _ hj
 clear hj G2 K2 L2
 refine vc tk 5 F W fun a w F W => ?_
 refine Ak ?_
 have H := AA H
 subst H
 refine Au (.inl Aa) F W Aa (Am F Aa) ?_
 exact ⟨rfl, W.done⟩
theorem QK : ∀ (n : Nat) (Y : Nat → Prop) (w0 : World) (v1 : Value) (v2 : Value) (p0 : Tr27) (r : Bool) (H : D8 n p0 = some r) (h_v1 : Sl w0 (NX []) DO v1 p0.un.2.1.un.2.2.2) (h_v2 : Sl w0 (NX []) GN v2 p0.un.2.2.2.2), Calls Tryz.prog 32 #[.agg #[.int .i64 p0.un.1, .int .i64 p0.un.2.1.un.1, .int .i64 p0.un.2.1.un.2.1, .int .i64 p0.un.2.1.un.2.2.1, v1, .int .i64 p0.un.2.2.1, .int .i64 p0.un.2.2.2.1, v2]] w0 fun e w' => e = .returned (.bool r) ∧ Below w0.heap.size w0 w' := by
  intro n
  induction n with
  | zero => intro Y w0 v1 v2 p0 r H; exact nomatch H
  | succ n ih => intro Y w0 v1 v2 p0 r H h_v1 h_v2; exact Pp (D8 n) ih Y w0 v1 v2 p0 r H h_v1 h_v2
theorem Ry (Y : Nat → Prop) (w0 : World) (v1 : Value) (v2 : Value) (p0 : Tr27) (r : Bool) (H : OJ p0 = some r) (h_v1 : Sl w0 (NX []) DO v1 p0.un.2.1.un.2.2.2) (h_v2 : Sl w0 (NX []) GN v2 p0.un.2.2.2.2) :
    Calls Tryz.prog 32 #[.agg #[.int .i64 p0.un.1, .int .i64 p0.un.2.1.un.1, .int .i64 p0.un.2.1.un.2.1, .int .i64 p0.un.2.1.un.2.2.1, v1, .int .i64 p0.un.2.2.1, .int .i64 p0.un.2.2.2.1, v2]] w0 fun e w' => e = .returned (.bool r) ∧ Below w0.heap.size w0 w' := by
  obtain ⟨n, H⟩ := CR H
  exact QK n Y w0 v1 v2 p0 r H h_v1 h_v2
theorem W6 : Has Tryz.prog 14 := CJ Tryz.func14
noncomputable def Dx (fRec : Tr27 → Option Int) (p0 : Tr27) : (Int × Int) → Option ((Int × Int) ⊕ Int)
  | (x2, x3) => (if x3 < (p0.un.2.2.2.2.length : Int) then ((ix p0.un.2.2.2.2 x3).bind fun x5 => (fRec (Tr27.of (x5.un.1, Tr24.of (x5.un.2.1.un.1, x5.un.2.1.un.2.1, x5.un.2.1.un.2.2.1, x5.un.2.1.un.2.2.2), x5.un.2.2.1, x5.un.2.2.2.1, x5.un.2.2.2.2))).bind fun x6 => (if x2 ≤ x6 then (ix p0.un.2.2.2.2 x3).bind fun x7 => (fRec (Tr27.of (x7.un.1, Tr24.of (x7.un.2.1.un.1, x7.un.2.1.un.2.1, x7.un.2.1.un.2.2.1, x7.un.2.1.un.2.2.2), x7.un.2.2.1, x7.un.2.2.2.1, x7.un.2.2.2.2))).bind fun x8 => some (AO (x8 + 1)) else some x2)).bind fun x4 => some (.inl (x4, AO (x3 + 1))) else some (.inr x2))
noncomputable def ET (fRec : Tr27 → Option Int) (p0 : Tr27) : Option Int := (AW (Dx fRec p0) (1, 0)).bind fun x1 => some x1
noncomputable def Ec : Nat → Tr27 → Option Int
  | 0 => fun _ => none
  | n + 1 => ET (Ec n)
noncomputable def NM (p0 : Tr27) : Option Int := GL fun n => Ec n p0
theorem P7 (fRec : Tr27 → Option Int) (ih : ∀ (Y : Nat → Prop) (w0 : World) (v1 : Value) (v2 : Value) (p0 : Tr27) (r : Int) (H : fRec p0 = some r) (h_v1 : Sl w0 (NX []) DO v1 p0.un.2.1.un.2.2.2) (h_v2 : Sl w0 (NX []) GN v2 p0.un.2.2.2.2), Calls Tryz.prog 14 #[.agg #[.int .i64 p0.un.1, .int .i64 p0.un.2.1.un.1, .int .i64 p0.un.2.1.un.2.1, .int .i64 p0.un.2.1.un.2.2.1, v1, .int .i64 p0.un.2.2.1, .int .i64 p0.un.2.2.2.1, v2]] w0 fun e w' => e = .returned (.int .i64 r) ∧ Below w0.heap.size w0 w') (Y : Nat → Prop) (w0 : World) (v1 : Value) (v2 : Value) (p0 : Tr27) (r : Int) (H : ET fRec p0 = some r) (h_v1 : Sl w0 (NX []) DO v1 p0.un.2.1.un.2.2.2) (h_v2 : Sl w0 (NX []) GN v2 p0.un.2.2.2.2) :
    Calls Tryz.prog 14 #[.agg #[.int .i64 p0.un.1, .int .i64 p0.un.2.1.un.1, .int .i64 p0.un.2.1.un.2.1, .int .i64 p0.un.2.1.un.2.2.1, v1, .int .i64 p0.un.2.2.1, .int .i64 p0.un.2.2.2.1, v2]] w0 fun e w' => e = .returned (.int .i64 r) ∧ Below w0.heap.size w0 w' := by
 refine enter Tryz.func14 Aa Tryz.ntmps14 Aa fun a F => ?_
 have W := Stw.start Y w0
 obtain ⟨v3, h1, h_v1⟩ := h_v1.ex EJ
 obtain ⟨v4, h2, h_v2⟩ := h_v2.ex Is
 unfold ET at H
 refine vc tk 2 F W fun a w F W => ?_
 refine CY (cs := (Fv p0 v1 v2)) F W Aa Aa Aa fun b1 a w F W => ?_
 refine Cl tk 8 F W fun a w F W => ?_
 obtain ⟨o1, G1, K1⟩ := Ad H
 refine Ax (fun a w => ∃ x1 : Int, some (x1) = some o1 ∧ Fr 28 [] [(2, .int .i64 0), (3, .int .i64 x1)] a ∧ Stw ⟨Y, [], w0⟩ (GS b1 p0 v1 v2) [] w) ?_ ?_
 ·
  have H := G1
  clear G1 K1
  refine vc tk 6 F W fun a w F W => ?_
  refine BF H (fun s a w => Fr 28 [] [(1, .pointer (some ⟨b1, 0, none⟩)), (2, .int .i64 0), (3, .int .i64 s.1), (4, .int .i64 s.2)] a ∧ Stw ⟨Y, [], w0⟩ (GS b1 p0 v1 v2) [] w) ⟨F.ra Aa, W⟩ fun s o a w H L2 hR => ?_
  obtain ⟨x2, x3⟩ := s
  obtain ⟨F, W⟩ := hR
  have F : Fr 28 [] [(1, .pointer (some ⟨b1, 0, none⟩)), (2, .int .i64 0), (3, .int .i64 x2), (4, .int .i64 x3)] a := F
  have W : Stw ⟨Y, [], w0⟩ (GS b1 p0 v1 v2) [] w := W
  rw [Dx] at H
  refine Fo tk 6 [0] F W (ai fun a w F W => ?_)
  refine ls F W Aa (CS (r := GN) (l := p0.un.2.2.2.2) SM Aa F Aa (Aq Is h2 (Af h_v2))).q fun a w F W => ?_
  refine Cl tk 3 F W fun a w F W => ?_
  refine BJ F Aa H (fun F H => ?_) fun F H => ?_
  ·
   refine AX (Ac ?_)
   obtain ⟨o3, G3, K3⟩ := Ad H
   refine Ax (fun a w => ∃ x4 : Int, some (x4) = some o3 ∧ Fr 28 [] [(1, .pointer (some ⟨b1, 0, none⟩)), (2, .int .i64 0), (3, .int .i64 x4), (4, .int .i64 x3)] a ∧ Stw ⟨Y, [], w0⟩ (GS b1 p0 v1 v2) [] w) ?_ ?_
   ·
    have H := G3
    clear G3 K3
    refine Fo tk 6 [0] F W (ai fun a w F W => ?_)
    obtain ⟨x5, h3, H⟩ := Ad H
    obtain ⟨v5, h4, h5⟩ := DM h2 h3
    have h6 : Mj v5 = [.int .i64 x5.un.1, .int .i64 x5.un.2.1.un.1, .int .i64 x5.un.2.1.un.2.1, .int .i64 x5.un.2.1.un.2.2.1, (v5.2.1.2.2.2.1), .int .i64 x5.un.2.2.1, .int .i64 x5.un.2.2.2.1, (v5.2.2.2.2.1)] := congrArg (fun q : Tr27 => ([.int .i64 q.un.1, .int .i64 q.un.2.1.un.1, .int .i64 q.un.2.1.un.2.1, .int .i64 q.un.2.1.un.2.2.1, (v5.2.1.2.2.2.1), .int .i64 q.un.2.2.1, .int .i64 q.un.2.2.2.1, (v5.2.2.2.2.1)] : List Value)) h5
    refine ls F W Aa (Av (r := PA) UJ F Aa Aa (Af h_v2) h4).q fun a w F W => ?_
    refine ls F W Aa (Al (y := Value.agg #[.int .i64 x5.un.1, .int .i64 x5.un.2.1.un.1, .int .i64 x5.un.2.1.un.2.1, .int .i64 x5.un.2.1.un.2.2.1, (v5.2.1.2.2.2.1), .int .i64 x5.un.2.2.1, .int .i64 x5.un.2.2.2.1, (v5.2.2.2.2.1)]) (j := 0) (i := x3) (enc := Mj) F Aa Aa (Af h_v2) h4 Su Sk (by rw [h6]; rfl)).q fun a w F W => ?_
    obtain ⟨x6, h7, H⟩ := Ad H
    refine ls F W Aa (AK (v := Value.int .i64 x6) F W6 Aa (fun w W => ih any w ((v5.2.1.2.2.2.1)) ((v5.2.2.2.2.1)) (Tr27.of (x5.un.1, Tr24.of (x5.un.2.1.un.1, x5.un.2.1.un.2.1, x5.un.2.1.un.2.2.1, x5.un.2.1.un.2.2.2), x5.un.2.2.1, x5.un.2.2.2.1, x5.un.2.2.2.2)) _ h7 (Ek (BE (Af h_v2) h4 (Ai.snd (Ai.fst (Ai.snd (Ai.snd (Ai.snd Ai.here))))) (congrArg (fun q : Tr27 => q.un.2.1.un.2.2.2) h5)) W) (Ek (BE (Af h_v2) h4 (Ai.snd (Ai.snd (Ai.snd (Ai.snd Ai.here)))) (congrArg (fun q : Tr27 => q.un.2.2.2.2) h5)) W))) fun a w F W => ?_
    refine Cl tk 4 F W fun a w F W => ?_
    refine BJ F Aa H (fun F H => ?_) fun F H => ?_
    ·
     obtain ⟨v6, h8, h9⟩ := Sl.ex EJ (Sl.at_ h_v2 h4 (Ai.snd (Ai.fst (Ai.snd (Ai.snd (Ai.snd Ai.here))))) (congrArg (fun q : Tr27 => q.un.2.1.un.2.2.2) h5))
     obtain ⟨v7, h10, h11⟩ := Sl.ex Is (Sl.at_ h_v2 h4 (Ai.snd (Ai.snd (Ai.snd (Ai.snd Ai.here)))) (congrArg (fun q : Tr27 => q.un.2.2.2.2) h5))
     refine Fo tk 4 [0] F W (ai fun a w F W => ?_)
     obtain ⟨x7, h12, H⟩ := Ad H
     obtain ⟨v8, h13, h14⟩ := DM h2 h12
     have h15 : Mj v8 = [.int .i64 x7.un.1, .int .i64 x7.un.2.1.un.1, .int .i64 x7.un.2.1.un.2.1, .int .i64 x7.un.2.1.un.2.2.1, (v8.2.1.2.2.2.1), .int .i64 x7.un.2.2.1, .int .i64 x7.un.2.2.2.1, (v8.2.2.2.2.1)] := congrArg (fun q : Tr27 => ([.int .i64 q.un.1, .int .i64 q.un.2.1.un.1, .int .i64 q.un.2.1.un.2.1, .int .i64 q.un.2.1.un.2.2.1, (v8.2.1.2.2.2.1), .int .i64 q.un.2.2.1, .int .i64 q.un.2.2.2.1, (v8.2.2.2.2.1)] : List Value)) h14
     refine ls F W Aa (Av (r := PA) UJ F Aa Aa (Af h_v2) h13).q fun a w F W => ?_
     refine ls F W Aa (Al (y := Value.agg #[.int .i64 x7.un.1, .int .i64 x7.un.2.1.un.1, .int .i64 x7.un.2.1.un.2.1, .int .i64 x7.un.2.1.un.2.2.1, (v8.2.1.2.2.2.1), .int .i64 x7.un.2.2.1, .int .i64 x7.un.2.2.2.1, (v8.2.2.2.2.1)]) (j := 0) (i := x3) (enc := Mj) F Aa Aa (Af h_v2) h13 Su Sk (by rw [h15]; rfl)).q fun a w F W => ?_
     obtain ⟨x8, h16, H⟩ := Ad H
     refine ls F W Aa (AK (v := Value.int .i64 x8) F W6 Aa (fun w W => ih any w ((v8.2.1.2.2.2.1)) ((v8.2.2.2.2.1)) (Tr27.of (x7.un.1, Tr24.of (x7.un.2.1.un.1, x7.un.2.1.un.2.1, x7.un.2.1.un.2.2.1, x7.un.2.1.un.2.2.2), x7.un.2.2.1, x7.un.2.2.2.1, x7.un.2.2.2.2)) _ h16 (Ek (BE (Af h_v2) h13 (Ai.snd (Ai.fst (Ai.snd (Ai.snd (Ai.snd Ai.here))))) (congrArg (fun q : Tr27 => q.un.2.1.un.2.2.2) h14)) W) (Ek (BE (Af h_v2) h13 (Ai.snd (Ai.snd (Ai.snd (Ai.snd Ai.here)))) (congrArg (fun q : Tr27 => q.un.2.2.2.2) h14)) W))) fun a w F W => ?_
     refine vl tk 3 F W fun a w F W => ?_
     refine AG (Ac ?_)
     exact ⟨_, H, F.ra Aa, W⟩
    refine AX (AG (Ac ?_))
    exact ⟨_, H, F.ra Aa, W⟩
   rintro a w ⟨x4, hj, F, W⟩
   have hj := AA hj
   subst hj
   have H := K3
   clear G3 K3
   refine vc tk 5 F W fun a w F W => ?_
   refine Ac ?_
   exact ⟨_, H, F.ra Aa, W⟩
  refine Bu ?_
  iterate 2 refine BL ?_
  refine Bp (Ac ?_)
  have H := L2 _ H
  exact ⟨_, H, F.ra Aa, W⟩
 rintro a w ⟨x1, hj, F, W⟩
 have hj := AA hj
 subst hj
 have H := K1
 clear G1 K1
 refine vc tk 6 F W fun a w F W => ?_
 refine Ak ?_
 have H := AA H
 subst H
 refine Au (.inl Aa) F W Aa (Am F Aa) ?_
 exact ⟨rfl, W.done⟩
theorem QB : ∀ (n : Nat) (Y : Nat → Prop) (w0 : World) (v1 : Value) (v2 : Value) (p0 : Tr27) (r : Int) (H : Ec n p0 = some r) (h_v1 : Sl w0 (NX []) DO v1 p0.un.2.1.un.2.2.2) (h_v2 : Sl w0 (NX []) GN v2 p0.un.2.2.2.2), Calls Tryz.prog 14 #[.agg #[.int .i64 p0.un.1, .int .i64 p0.un.2.1.un.1, .int .i64 p0.un.2.1.un.2.1, .int .i64 p0.un.2.1.un.2.2.1, v1, .int .i64 p0.un.2.2.1, .int .i64 p0.un.2.2.2.1, v2]] w0 fun e w' => e = .returned (.int .i64 r) ∧ Below w0.heap.size w0 w' := by
  intro n
  induction n with
  | zero => intro Y w0 v1 v2 p0 r H; exact nomatch H
  | succ n ih => intro Y w0 v1 v2 p0 r H h_v1 h_v2; exact P7 (Ec n) ih Y w0 v1 v2 p0 r H h_v1 h_v2
theorem Re (Y : Nat → Prop) (w0 : World) (v1 : Value) (v2 : Value) (p0 : Tr27) (r : Int) (H : NM p0 = some r) (h_v1 : Sl w0 (NX []) DO v1 p0.un.2.1.un.2.2.2) (h_v2 : Sl w0 (NX []) GN v2 p0.un.2.2.2.2) :
    Calls Tryz.prog 14 #[.agg #[.int .i64 p0.un.1, .int .i64 p0.un.2.1.un.1, .int .i64 p0.un.2.1.un.2.1, .int .i64 p0.un.2.1.un.2.2.1, v1, .int .i64 p0.un.2.2.1, .int .i64 p0.un.2.2.2.1, v2]] w0 fun e w' => e = .returned (.int .i64 r) ∧ Below w0.heap.size w0 w' := by
  obtain ⟨n, H⟩ := CR H
  exact QB n Y w0 v1 v2 p0 r H h_v1 h_v2
theorem XY : Has Tryz.prog 12 := CJ Tryz.func12
noncomputable def Dw (fRec : Tr27 → Option Int) (p0 : Tr27) : (Int × Int) → Option ((Int × Int) ⊕ Int)
  | (x4, x5) => (if x5 < (p0.un.2.2.2.2.length : Int) then (ix p0.un.2.2.2.2 x5).bind fun x6 => (fRec (Tr27.of (x6.un.1, Tr24.of (x6.un.2.1.un.1, x6.un.2.1.un.2.1, x6.un.2.1.un.2.2.1, x6.un.2.1.un.2.2.2), x6.un.2.2.1, x6.un.2.2.2.1, x6.un.2.2.2.2))).bind fun x7 => some (.inl (AO (x4 + x7), AO (x5 + 1))) else some (.inr x4))
noncomputable def E2 (fRec : Tr27 → Option Int) (p0 : Tr27) : Option Int := (if (decide (p0.un.1 < 2) || decide (4 < p0.un.1)) = true then (Ke (Tr24.of (p0.un.2.1.un.1, p0.un.2.1.un.2.1, p0.un.2.1.un.2.2.1, p0.un.2.1.un.2.2.2))).bind fun x2 => some (AO (1 + x2)) else some 1).bind fun x1 => (AW (Dw fRec p0) (x1, 0)).bind fun x3 => some x3
noncomputable def D9 : Nat → Tr27 → Option Int
  | 0 => fun _ => none
  | n + 1 => E2 (D9 n)
noncomputable def Nt (p0 : Tr27) : Option Int := GL fun n => D9 n p0
theorem P0 (fRec : Tr27 → Option Int) (ih : ∀ (Y : Nat → Prop) (w0 : World) (v1 : Value) (v2 : Value) (p0 : Tr27) (r : Int) (H : fRec p0 = some r) (h_v1 : Sl w0 (NX []) DO v1 p0.un.2.1.un.2.2.2) (h_v2 : Sl w0 (NX []) GN v2 p0.un.2.2.2.2), Calls Tryz.prog 12 #[.agg #[.int .i64 p0.un.1, .int .i64 p0.un.2.1.un.1, .int .i64 p0.un.2.1.un.2.1, .int .i64 p0.un.2.1.un.2.2.1, v1, .int .i64 p0.un.2.2.1, .int .i64 p0.un.2.2.2.1, v2]] w0 fun e w' => e = .returned (.int .i64 r) ∧ Below w0.heap.size w0 w') (Y : Nat → Prop) (w0 : World) (v1 : Value) (v2 : Value) (p0 : Tr27) (r : Int) (H : E2 fRec p0 = some r) (h_v1 : Sl w0 (NX []) DO v1 p0.un.2.1.un.2.2.2) (h_v2 : Sl w0 (NX []) GN v2 p0.un.2.2.2.2) :
    Calls Tryz.prog 12 #[.agg #[.int .i64 p0.un.1, .int .i64 p0.un.2.1.un.1, .int .i64 p0.un.2.1.un.2.1, .int .i64 p0.un.2.1.un.2.2.1, v1, .int .i64 p0.un.2.2.1, .int .i64 p0.un.2.2.2.1, v2]] w0 fun e w' => e = .returned (.int .i64 r) ∧ Below w0.heap.size w0 w' := by
 refine enter Tryz.func12 Aa Tryz.ntmps12 Aa fun a F => ?_
 have W := Stw.start Y w0
 obtain ⟨v3, h1, h_v1⟩ := h_v1.ex EJ
 obtain ⟨v4, h2, h_v2⟩ := h_v2.ex Is
 unfold E2 at H
 refine vc tk 2 F W fun a w F W => ?_
 refine CY (cs := (Fv p0 v1 v2)) F W Aa Aa Aa fun b1 a w F W => ?_
 refine Cl tk 8 F W fun a w F W => ?_
 obtain ⟨o1, G1, K1⟩ := Ad H
 refine Ax (fun a w => ∃ x1 : Int, some (x1) = some o1 ∧ Fr 34 [] [(1, .pointer (some ⟨b1, 0, none⟩)), (2, .int .i64 0), (3, .int .i64 x1)] a ∧ Stw ⟨Y, [], w0⟩ (GS b1 p0 v1 v2) [] w) ?_ ?_
 ·
  have H := G1
  clear G1 K1
  refine Ax (fun a w => Fr 34 [] [(1, .pointer (some ⟨b1, 0, none⟩)), (2, .int .i64 0), (3, .int .i64 1), (12, .bool (decide (p0.un.1 < 2) || decide (4 < p0.un.1)))] a ∧ Stw ⟨Y, [], w0⟩ (GS b1 p0 v1 v2) [] w) ?_ ?_
  ·
   refine Fo tk 5 [0] F W (ai fun a w F W => ?_)
   rcases Bool.eq_false_or_eq_true (decide (p0.un.1 < 2)) with hb0 | hb0
   ·
    rw [hb0] at F
    refine vl tk 5 F W fun a w F W => ?_
    refine Ac ?_
    exact ⟨F.re ⟨rfl, Aa, Aa, (DH (by try rw [hb0]; all_goals simp only [DI])), trivial⟩, W⟩
   rw [hb0] at F
   refine GD tk 5 [0] F W (ai fun a w F W => ?_)
   refine Ac ?_
   exact ⟨F.re ⟨rfl, Aa, Aa, (DH (by try rw [hb0]; all_goals simp only [DI])), trivial⟩, W⟩
  rintro a w ⟨F, W⟩
  refine Cz F Aa H (fun F H => ?_) fun F H => ?_
  ·
   refine Fo tk 4 [0] F W (ai fun a w F W => ?_)
   obtain ⟨x2, h3, H⟩ := Ad H
   refine ls F W Aa (AK (v := Value.int .i64 x2) F XN Aa (fun w W => N0 any w (v1) (Tr24.of (p0.un.2.1.un.1, p0.un.2.1.un.2.1, p0.un.2.1.un.2.2.1, p0.un.2.1.un.2.2.2)) _ h3 (Ek (Aq EJ h1 (Af h_v1)) W))) fun a w F W => ?_
   refine vl tk 3 F W fun a w F W => ?_
   refine Ac ?_
   exact ⟨_, H, F.ra Aa, W⟩
  refine AX (Ac ?_)
  exact ⟨_, H, F.ra Aa, W⟩
 rintro a w ⟨x1, hj, F, W⟩
 have hj := AA hj
 subst hj
 have H := K1
 clear G1 K1
 obtain ⟨o2, G2, K2⟩ := Ad H
 refine Ax (fun a w => ∃ x3 : Int, some (x3) = some o2 ∧ Fr 34 [] [(2, .int .i64 0), (3, .int .i64 x3)] a ∧ Stw ⟨Y, [], w0⟩ (GS b1 p0 v1 v2) [] w) ?_ ?_
 ·
  have H := G2
  clear G2 K2
  refine vc tk 6 F W fun a w F W => ?_
  refine BF H (fun s a w => Fr 34 [] [(1, .pointer (some ⟨b1, 0, none⟩)), (2, .int .i64 0), (3, .int .i64 s.1), (4, .int .i64 s.2)] a ∧ Stw ⟨Y, [], w0⟩ (GS b1 p0 v1 v2) [] w) ⟨F.ra Aa, W⟩ fun s o a w H L3 hR => ?_
  obtain ⟨x4, x5⟩ := s
  obtain ⟨F, W⟩ := hR
  have F : Fr 34 [] [(1, .pointer (some ⟨b1, 0, none⟩)), (2, .int .i64 0), (3, .int .i64 x4), (4, .int .i64 x5)] a := F
  have W : Stw ⟨Y, [], w0⟩ (GS b1 p0 v1 v2) [] w := W
  rw [Dw] at H
  refine Fo tk 6 [0] F W (ai fun a w F W => ?_)
  refine ls F W Aa (CS (r := GN) (l := p0.un.2.2.2.2) SM Aa F Aa (Aq Is h2 (Af h_v2))).q fun a w F W => ?_
  refine Cl tk 3 F W fun a w F W => ?_
  refine BJ F Aa H (fun F H => ?_) fun F H => ?_
  ·
   refine P6 tk 9 [0] F W (ai fun a w F W => ?_)
   obtain ⟨x6, h4, H⟩ := Ad H
   obtain ⟨v5, h5, h6⟩ := DM h2 h4
   have h7 : Mj v5 = [.int .i64 x6.un.1, .int .i64 x6.un.2.1.un.1, .int .i64 x6.un.2.1.un.2.1, .int .i64 x6.un.2.1.un.2.2.1, (v5.2.1.2.2.2.1), .int .i64 x6.un.2.2.1, .int .i64 x6.un.2.2.2.1, (v5.2.2.2.2.1)] := congrArg (fun q : Tr27 => ([.int .i64 q.un.1, .int .i64 q.un.2.1.un.1, .int .i64 q.un.2.1.un.2.1, .int .i64 q.un.2.1.un.2.2.1, (v5.2.1.2.2.2.1), .int .i64 q.un.2.2.1, .int .i64 q.un.2.2.2.1, (v5.2.2.2.2.1)] : List Value)) h6
   refine ls F W Aa (Av (r := PA) UJ F Aa Aa (Af h_v2) h5).q fun a w F W => ?_
   refine ls F W Aa (Al (y := Value.agg #[.int .i64 x6.un.1, .int .i64 x6.un.2.1.un.1, .int .i64 x6.un.2.1.un.2.1, .int .i64 x6.un.2.1.un.2.2.1, (v5.2.1.2.2.2.1), .int .i64 x6.un.2.2.1, .int .i64 x6.un.2.2.2.1, (v5.2.2.2.2.1)]) (j := 0) (i := x5) (enc := Mj) F Aa Aa (Af h_v2) h5 Su Sk (by rw [h7]; rfl)).q fun a w F W => ?_
   obtain ⟨x7, h8, H⟩ := Ad H
   refine ls F W Aa (AK (v := Value.int .i64 x7) F XY Aa (fun w W => ih any w ((v5.2.1.2.2.2.1)) ((v5.2.2.2.2.1)) (Tr27.of (x6.un.1, Tr24.of (x6.un.2.1.un.1, x6.un.2.1.un.2.1, x6.un.2.1.un.2.2.1, x6.un.2.1.un.2.2.2), x6.un.2.2.1, x6.un.2.2.2.1, x6.un.2.2.2.2)) _ h8 (Ek (BE (Af h_v2) h5 (Ai.snd (Ai.fst (Ai.snd (Ai.snd (Ai.snd Ai.here))))) (congrArg (fun q : Tr27 => q.un.2.1.un.2.2.2) h6)) W) (Ek (BE (Af h_v2) h5 (Ai.snd (Ai.snd (Ai.snd (Ai.snd Ai.here)))) (congrArg (fun q : Tr27 => q.un.2.2.2.2) h6)) W))) fun a w F W => ?_
   refine vl tk 3 F W fun a w F W => ?_
   refine AG ?_
   refine vn tk 5 F W fun a w F W => ?_
   refine Ac ?_
   exact ⟨_, H, F.ra Aa, W⟩
  refine Bu ?_
  iterate 2 refine BL ?_
  refine Bp (Ac ?_)
  have H := L3 _ H
  exact ⟨_, H, F.ra Aa, W⟩
 rintro a w ⟨x3, hj, F, W⟩
 have hj := AA hj
 subst hj
 have H := K2
 clear G2 K2
 refine vc tk 6 F W fun a w F W => ?_
 refine Ak ?_
 have H := AA H
 subst H
 refine Au (.inl Aa) F W Aa (Am F Aa) ?_
 exact ⟨rfl, W.done⟩
theorem QX : ∀ (n : Nat) (Y : Nat → Prop) (w0 : World) (v1 : Value) (v2 : Value) (p0 : Tr27) (r : Int) (H : D9 n p0 = some r) (h_v1 : Sl w0 (NX []) DO v1 p0.un.2.1.un.2.2.2) (h_v2 : Sl w0 (NX []) GN v2 p0.un.2.2.2.2), Calls Tryz.prog 12 #[.agg #[.int .i64 p0.un.1, .int .i64 p0.un.2.1.un.1, .int .i64 p0.un.2.1.un.2.1, .int .i64 p0.un.2.1.un.2.2.1, v1, .int .i64 p0.un.2.2.1, .int .i64 p0.un.2.2.2.1, v2]] w0 fun e w' => e = .returned (.int .i64 r) ∧ Below w0.heap.size w0 w' := by
  intro n
  induction n with
  | zero => intro Y w0 v1 v2 p0 r H; exact nomatch H
  | succ n ih => intro Y w0 v1 v2 p0 r H h_v1 h_v2; exact P0 (D9 n) ih Y w0 v1 v2 p0 r H h_v1 h_v2
theorem Ro (Y : Nat → Prop) (w0 : World) (v1 : Value) (v2 : Value) (p0 : Tr27) (r : Int) (H : Nt p0 = some r) (h_v1 : Sl w0 (NX []) DO v1 p0.un.2.1.un.2.2.2) (h_v2 : Sl w0 (NX []) GN v2 p0.un.2.2.2.2) :
    Calls Tryz.prog 12 #[.agg #[.int .i64 p0.un.1, .int .i64 p0.un.2.1.un.1, .int .i64 p0.un.2.1.un.2.1, .int .i64 p0.un.2.1.un.2.2.1, v1, .int .i64 p0.un.2.2.1, .int .i64 p0.un.2.2.2.1, v2]] w0 fun e w' => e = .returned (.int .i64 r) ∧ Below w0.heap.size w0 w' := by
  obtain ⟨n, H⟩ := CR H
  exact QX n Y w0 v1 v2 p0 r H h_v1 h_v2
theorem X5 : Has Tryz.prog 16 := CJ Tryz.func16
def H6 (p0 : Int) : Int := (if 1000 < p0 then 1000 else p0)
theorem Pd (Y : Nat → Prop) (w0 : World)  (p0 : Int) (r : Int) (H : H6 p0 = r)  :
    Calls Tryz.prog 35 #[.int .i64 p0] w0 fun e w' => e = .returned (.int .i64 r) ∧ Below w0.heap.size w0 w' := by
 refine enter Tryz.func35 Aa Tryz.ntmps35 Aa fun a F => ?_
 have W := Stw.start Y w0
 unfold H6 at H
 refine vc tk 12 F W fun a w F W => ?_
 refine BJ F Aa H (fun F H => ?_) fun F H => ?_
 ·
  refine vc tk 5 F W fun a w F W => ?_
  refine Ak (Ay ?_)
  subst H
  refine Au (.inl Aa) F W Aa (Am F Aa) ?_
  exact ⟨rfl, W.done⟩
 refine FL tk 8 F W fun a w F W => ?_
 refine Ak ?_
 subst H
 refine Au (.inl Aa) F W Aa (Am F Aa) ?_
 exact ⟨rfl, W.done⟩
end Go.Proofs.YtpckgggmgijiiaaGreatDoor
