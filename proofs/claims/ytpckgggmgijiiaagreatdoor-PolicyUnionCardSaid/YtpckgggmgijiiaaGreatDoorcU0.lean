/- The functions of layer 27, Jw. Conditions: none. -/
import Derived.Test.YtpckgggmgijiiaaGreatDoorRows
import Derived.Test.YtpckgggmgijiiaaGreatDoorcOT
import Derived.Test.YtpckgggmgijiiaaGreatDoorcQT
import Derived.Test.YtpckgggmgijiiaaGreatDoorcOD
import Derived.Test.YtpckgggmgijiiaaGreatDoorcTR
import Derived.Test.YtpckgggmgijiiaaGreatDoorcOG
import Derived.Test.YtpckgggmgijiiaaGreatDoorcMS
import Derived.Test.YtpckgggmgijiiaaGreatDoorcQD
import Derived.Test.YtpckgggmgijiiaaGreatDoorcOC
import Derived.Test.YtpckgggmgijiiaaGreatDoorcVC
import Derived.Test.YtpckgggmgijiiaaGreatDoorcOM
import Derived.Test.YtpckgggmgijiiaaGreatDoorcOX
namespace Go.Proofs.YtpckgggmgijiiaaGreatDoor
noncomputable section
open Go Go.RowKit
set_option linter.unusedVariables false
set_option linter.unusedSimpArgs false
set_option maxRecDepth 20000
def Zz : Tt := ([(24, [(0, false, 1), (1, false, 1), (2, false, 1), (3, false, 1)]), (27, [(0, false, 1), (1, true, 4), (5, false, 1), (6, false, 1), (7, false, 1)]), (34, [(0, false, 1), (1, false, 1), (2, false, 1), (3, false, 1)]), (37, [(0, false, 1), (1, true, 4), (5, false, 1), (6, false, 1), (7, false, 1)]), (63, [(0, false, 1), (1, true, 4)]), (65, [(0, false, 1)]), (123, [(0, false, 1)])], [(3, false, 1), (22, false, 1), (24, true, 4), (25, false, 1), (27, true, 8), (29, true, 4), (32, false, 1), (34, true, 4), (35, false, 1), (37, true, 8), (63, true, 5), (126, true, 6), (150, false, 1)])
theorem tk : TtOk Tryz.prog Zz := ⟨by kernel_rfl, by kernel_rfl⟩
inductive Tr24 : Type where
  | mk : Int → Int → Int → (List Tr24) → Tr24
def Tr24.un : Tr24 → Int × Int × Int × List Tr24
  | .mk a0 a1 a2 a3 => (a0, a1, a2, a3)
abbrev Tr24.of (p : Int × Int × Int × List Tr24) : Tr24 := .mk p.1 p.2.1 p.2.2.1 p.2.2.2
def Tr24.cnt : Tr24 → Nat
  | .mk _ _ _ a3 => 1 + ((a3.map Tr24.cnt).sum)
inductive Tr27 : Type where
  | mk : Int → Tr24 → Int → Int → (List Tr27) → Tr27
def Tr27.un : Tr27 → Int × Tr24 × Int × Int × List Tr27
  | .mk a0 a1 a2 a3 a4 => (a0, a1, a2, a3, a4)
abbrev Tr27.of (p : Int × Tr24 × Int × Int × List Tr27) : Tr27 := .mk p.1 p.2.1 p.2.2.1 p.2.2.2.1 p.2.2.2.2
def Tr27.cnt : Tr27 → Nat
  | .mk _ a1 _ _ a4 => 1 + (a1.cnt + (a4.map Tr27.cnt).sum)
abbrev V5 (r : Rp Tr24) : Rp (Int × Int × Int × List Tr24) := (Rp.pair (Rp.int .i64) (Rp.pair (Rp.int .i64) (Rp.pair (Rp.int .i64) (Rp.slice r))))
theorem Tn : Kt V5 := (Kt.pair (Kt.const _) (Kt.pair (Kt.const _) (Kt.pair (Kt.const _) Kt.hole)))
abbrev DT : Rp Tr24 := Rp.knot V5 Tr24.un Tn
theorem SZ {w : World} {A : Nat → Prop} {cs : List Value} {a : Tr24} : DT.rep w A cs a ↔ (V5 DT).rep w A cs a.un := IY Tn
abbrev VG (r : Rp Tr27) : Rp (Int × Tr24 × Int × Int × List Tr27) := (Rp.pair (Rp.int .i64) (Rp.pair DT (Rp.pair (Rp.int .i64) (Rp.pair (Rp.int .i64) (Rp.slice r)))))
theorem UN : Kt VG := (Kt.pair (Kt.const _) (Kt.pair (Kt.const _) (Kt.pair (Kt.const _) (Kt.pair (Kt.const _) Kt.hole))))
abbrev Hx : Rp Tr27 := Rp.knot VG Tr27.un UN
theorem U3 {w : World} {A : Nat → Prop} {cs : List Value} {a : Tr27} : Hx.rep w A cs a ↔ (VG Hx).rep w A cs a.un := IY UN
abbrev M0 : Rp (Int × Int × Int × (Value × List Tr24)) := (Rp.pair (Rp.int .i64) (Rp.pair (Rp.int .i64) (Rp.pair (Rp.int .i64) (Rp.vsl DT))))
abbrev XF (p : Int × Int × Int × (Value × List Tr24)) : Tr24 := (Tr24.of (p.1, p.2.1, p.2.2.1, p.2.2.2.2))
theorem Da : Ex DT M0 XF := (Ex.knot Tn (of := Tr24.of) (fun _ => rfl) (fun x => by cases x; rfl) (Ex.pair Ex.rfl' (Ex.pair Ex.rfl' (Ex.pair Ex.rfl' Ex.sliceF))))
abbrev P1 : Rp (Int × (Int × Int × Int × (Value × List Tr24)) × Int × Int × (Value × List Tr27)) := (Rp.pair (Rp.int .i64) (Rp.pair M0 (Rp.pair (Rp.int .i64) (Rp.pair (Rp.int .i64) (Rp.vsl Hx)))))
abbrev Yl (p : Int × (Int × Int × Int × (Value × List Tr24)) × Int × Int × (Value × List Tr27)) : Tr27 := (Tr27.of (p.1, (Tr24.of (p.2.1.1, p.2.1.2.1, p.2.1.2.2.1, p.2.1.2.2.2.2)), p.2.2.1, p.2.2.2.1, p.2.2.2.2.2))
theorem Ej : Ex Hx P1 Yl := (Ex.knot UN (of := Tr27.of) (fun _ => rfl) (fun x => by cases x; rfl) (Ex.pair Ex.rfl' (Ex.pair (Ex.knot Tn (of := Tr24.of) (fun _ => rfl) (fun x => by cases x; rfl) (Ex.pair Ex.rfl' (Ex.pair Ex.rfl' (Ex.pair Ex.rfl' Ex.sliceF)))) (Ex.pair Ex.rfl' (Ex.pair Ex.rfl' Ex.sliceF)))))
theorem QI : Ty Tryz.prog 27 true 8 := ⟨by kernel_rfl, by kernel_rfl⟩
theorem Wl : Ty Tryz.prog 25 false 1 := ⟨by kernel_rfl, by kernel_rfl⟩
theorem T3 : Ty Tryz.prog 3 false 1 := ⟨by kernel_rfl, by kernel_rfl⟩
theorem RY : Ty Tryz.prog 24 true 4 := ⟨by kernel_rfl, by kernel_rfl⟩
theorem Uz : Ty Tryz.prog 22 false 1 := ⟨by kernel_rfl, by kernel_rfl⟩
theorem MO : Tryz.prog.follows .mixedOrders = true := by kernel_rfl
def Mu (p0 : Int) : Int := (if p0 = 2 then 15 else (if (decide (p0 = 0) || (decide (p0 = 1) || decide (p0 = 3))) = true then 255 else 0))
theorem Tc (Y : Nat → Prop) (w0 : World)  (p0 : Int) (r : Int) (H : Mu p0 = r)  :
    Calls Tryz.prog 77 #[.int .i64 p0] w0 fun e w' => e = .returned (.int .i64 r) ∧ Below w0.heap.size w0 w' := by
 refine enter Tryz.func77 Aa Tryz.ntmps77 Aa fun a F => ?_
 have W := Stw.start Y w0
 unfold Mu at H
 refine vc tk 12 F W fun a w F W => ?_
 refine BU F Aa H (fun F H => ?_) fun F H => ?_
 ·
  refine vc tk 5 F W fun a w F W => ?_
  refine Am (Az ?_)
  subst H
  refine Ax (.inl Aa) F W Aa (Ap F Aa) ?_
  exact ⟨rfl, W.done⟩
 refine Gp tk 3 F W fun a w F W => ?_
 refine AA (fun a w => Fr 15 [] [(2, .int .i64 0), (14, .bool (decide (p0 = 0) || (decide (p0 = 1) || decide (p0 = 3))))] a ∧ Stw ⟨Y, [], w0⟩ [] [] w) ?_ ?_
 ·
  refine vc tk 4 F W fun a w F W => ?_
  rcases bxq (decide (p0 = 0)) with hb0 | hb0
  ·
   rw [hb0] at F
   refine vl tk 8 F W fun a w F W => ?_
   refine Ad ?_
   exact ⟨F.re ⟨rfl, (DX (by try rw [hb0]; all_goals simp only [DW])), trivial⟩, W⟩
  rw [hb0] at F
  refine vl tk 4 F W fun a w F W => ?_
  rcases bxq (decide (p0 = 1)) with hb1 | hb1
  ·
   rw [hb1] at F
   refine vl tk 4 F W fun a w F W => ?_
   refine Ad ?_
   exact ⟨F.re ⟨rfl, (DX (by try rw [hb0]; try rw [hb1]; all_goals simp only [DW])), trivial⟩, W⟩
  rw [hb1] at F
  refine vl tk 4 F W fun a w F W => ?_
  refine Ad ?_
  exact ⟨F.re ⟨rfl, (DX (by try rw [hb0]; try rw [hb1]; all_goals simp only [DW])), trivial⟩, W⟩
 rintro a w ⟨F, W⟩
 refine CK F Aa H (fun F H => ?_) fun F H => ?_
 ·
  refine vc tk 5 F W fun a w F W => ?_
  refine Am (Az ?_)
  subst H
  refine Ax (.inl Aa) F W Aa (Ap F Aa) ?_
  exact ⟨rfl, W.done⟩
 refine Gp tk 7 F W fun a w F W => ?_
 refine Am ?_
 subst H
 refine Ax (.inl Aa) F W Aa (Ap F Aa) ?_
 exact ⟨rfl, W.done⟩
theorem ZH : Has Tryz.prog 77 := CP Tryz.func77
def EY (p0 : Int) : Int := (if (decide (p0 = 4) || decide (p0 = 5)) = true then 7 else (Mu p0))
theorem PS (Y : Nat → Prop) (w0 : World)  (p0 : Int) (r : Int) (H : EY p0 = r)  :
    Calls Tryz.prog 51 #[.int .i64 p0] w0 fun e w' => e = .returned (.int .i64 r) ∧ Below w0.heap.size w0 w' := by
 refine enter Tryz.func51 Aa Tryz.ntmps51 Aa fun a F => ?_
 have W := Stw.start Y w0
 unfold EY at H
 refine vc tk 6 F W fun a w F W => ?_
 refine AA (fun a w => Fr 11 [] [(0, .int .i64 p0), (2, .int .i64 0), (8, .bool (decide (p0 = 4) || decide (p0 = 5)))] a ∧ Stw ⟨Y, [], w0⟩ [] [] w) ?_ ?_
 ·
  refine vc tk 4 F W fun a w F W => ?_
  rcases bxq (decide (p0 = 4)) with hb0 | hb0
  ·
   rw [hb0] at F
   refine vl tk 4 F W fun a w F W => ?_
   refine Ad ?_
   exact ⟨F.re ⟨rfl, Aa, (DX (by try rw [hb0]; all_goals simp only [DW])), trivial⟩, W⟩
  rw [hb0] at F
  refine vl tk 4 F W fun a w F W => ?_
  refine Ad ?_
  exact ⟨F.re ⟨rfl, Aa, (DX (by try rw [hb0]; all_goals simp only [DW])), trivial⟩, W⟩
 rintro a w ⟨F, W⟩
 refine CK F Aa H (fun F H => ?_) fun F H => ?_
 ·
  refine vc tk 5 F W fun a w F W => ?_
  refine Am (Az ?_)
  subst H
  refine Ax (.inl Aa) F W Aa (Ap F Aa) ?_
  exact ⟨rfl, W.done⟩
 refine Gp tk 5 F W fun a w F W => ?_
 refine ls F W Aa (AL (v := Value.int .i64 (Mu p0)) F ZH Aa (fun w W => Tc any w p0 _ Aa)) fun a w F W => ?_
 refine Cv tk 3 F W fun a w F W => ?_
 refine Am ?_
 subst H
 refine Ax (.inl Aa) F W Aa (Ap F Aa) ?_
 exact ⟨rfl, W.done⟩
theorem Rt : type_of% Tryz.underlying22 := Tryz.underlying22
theorem NV : type_of% Tryz.underlying24 := Tryz.underlying24
theorem Yy : Has Tryz.prog 51 := CP Tryz.func51
abbrev LY (a : Int × Int × Int × (Value × List Tr24)) : List Value := [.int .i64 a.1, .int .i64 a.2.1, .int .i64 a.2.2.1, a.2.2.2.1]
theorem Sc : Fj M0 LY := (Fj.pair Fl.int.to (Fj.pair Fl.int.to (Fj.pair Fl.int.to Fj.vsl)))
theorem UE : Et Tryz.prog 22 24 4 48 := Et.of Rt (by kernel_rfl) (by kernel_rfl) (by kernel_rfl) (by decide)
theorem YX : Has Tryz.prog 62 := CP Tryz.func62
abbrev CD (a0 : Tr24) (a1 : Value) : List Value := [.int .i64 a0.un.1, .int .i64 a0.un.2.1, .int .i64 a0.un.2.2.1, a1]
abbrev Mz (a0 : Nat) (a1 : Tr24) (a2 : Value) : List (Nat × List Value) := [(a0, [.int .i64 a1.un.1, .int .i64 a1.un.2.1, .int .i64 a1.un.2.2.1, a2])]
def Fy (fRec : Tr24 → Option Bool) (p0 : Tr24) : Int → Option (Int ⊕ (Unit ⊕ Bool))
  | x1 => (if x1 < (p0.un.2.2.2.length : Int) then (ix p0.un.2.2.2 x1).bind fun x2 => (fRec x2).bind fun x3 => (if (!x3) = true then some (.inr (.inr false)) else some (.inl (AU (x1 + 1)))) else some (.inr (.inl ())))
def Ft (fRec : Tr24 → Option Bool) (p0 : Tr24) : Option Bool := (if (bif decide (p0.un.1 ≠ 3) then (decide (p0.un.2.1 ≠ 0) || (decide (p0.un.2.2.1 ≠ 0) || (decide (p0.un.1 < 1) || decide (6 < p0.un.1)))) else (decide (p0.un.1 < 1) || decide (6 < p0.un.1))) = true then some false else (if (decide (p0.un.1 = 3) && (decide (p0.un.2.1 < 0) || (decide (5 < p0.un.2.1) || (decide (p0.un.2.2.1 < 0) || decide ((EY p0.un.2.1) < p0.un.2.2.1))))) = true then some false else (if (bif decide (p0.un.1 ≤ 3) then (decide ((p0.un.2.2.2.length : Int) ≠ 0) || (bif decide (p0.un.1 = 4) then (decide ((p0.un.2.2.2.length : Int) ≠ 1) || (decide (5 ≤ p0.un.1) && (decide ((p0.un.2.2.2.length : Int) < 2) || decide (8 < (p0.un.2.2.2.length : Int))))) else (decide (5 ≤ p0.un.1) && (decide ((p0.un.2.2.2.length : Int) < 2) || decide (8 < (p0.un.2.2.2.length : Int)))))) else (bif decide (p0.un.1 = 4) then (decide ((p0.un.2.2.2.length : Int) ≠ 1) || (decide (5 ≤ p0.un.1) && (decide ((p0.un.2.2.2.length : Int) < 2) || decide (8 < (p0.un.2.2.2.length : Int))))) else (decide (5 ≤ p0.un.1) && (decide ((p0.un.2.2.2.length : Int) < 2) || decide (8 < (p0.un.2.2.2.length : Int)))))) = true then some false else Ku (Ba (Fy fRec p0) 0) fun _ => some true)))
def Eo : Nat → Tr24 → Option Bool
  | 0 => fun _ => none
  | n + 1 => Ft (Eo n)
def Pj (p0 : Tr24) : Option Bool := HC fun n => Eo n p0
theorem QF (fRec : Tr24 → Option Bool) (ih : ∀ (Y : Nat → Prop) (w0 : World) (v1 : Value) (p0 : Tr24) (r : Bool) (H : fRec p0 = some r) (h_v1 : Sl w0 (NX []) DT v1 p0.un.2.2.2), Calls Tryz.prog 62 #[.agg #[.int .i64 p0.un.1, .int .i64 p0.un.2.1, .int .i64 p0.un.2.2.1, v1]] w0 fun e w' => e = .returned (.bool r) ∧ Below w0.heap.size w0 w') (Y : Nat → Prop) (w0 : World) (v1 : Value) (p0 : Tr24) (r : Bool) (H : Ft fRec p0 = some r) (h_v1 : Sl w0 (NX []) DT v1 p0.un.2.2.2) :
    Calls Tryz.prog 62 #[.agg #[.int .i64 p0.un.1, .int .i64 p0.un.2.1, .int .i64 p0.un.2.2.1, v1]] w0 fun e w' => e = .returned (.bool r) ∧ Below w0.heap.size w0 w' := by
 refine enter Tryz.func62 Aa Tryz.ntmps62 Aa fun a F => ?_
 have W := Stw.start Y w0
 obtain ⟨v2, h1, h_v1⟩ := h_v1.ex Da
 unfold Ft at H
 refine vc tk 2 F W fun a w F W => ?_
 refine CX (cs := (CD p0 v1)) F W Aa Aa Aa fun b1 a w F W => ?_
 refine Gz tk 7 [0] F W (ai fun a w F W => ?_)
 refine ls F W Aa (C2 (r := DT) (l := p0.un.2.2.2) Rt Aa F Aa (Ak Da h1 (Ah h_v1))).q fun a w F W => ?_
 refine Cv tk 4 F W fun a w F W => ?_
 refine AA (fun a w => Fr 98 [] [(1, .pointer (some ⟨b1, 0, none⟩)), (2, .bool false), (3, .int .i64 (p0.un.2.2.2.length : Int)), (30, .bool (bif decide (p0.un.1 ≠ 3) then (decide (p0.un.2.1 ≠ 0) || (decide (p0.un.2.2.1 ≠ 0) || (decide (p0.un.1 < 1) || decide (6 < p0.un.1)))) else (decide (p0.un.1 < 1) || decide (6 < p0.un.1))))] a ∧ Stw ⟨Y, [], w0⟩ (Mz b1 p0 v1) [] w) ?_ ?_
 ·
  refine FR tk 5 [0] F W (ai fun a w F W => ?_)
  rcases bxq (decide (p0.un.1 ≠ 3)) with hb0 | hb0
  ·
   rw [hb0] at F
   refine Hw tk 4 [0] F W (ai fun a w F W => ?_)
   rcases bxq (decide (p0.un.2.1 ≠ 0)) with hb1 | hb1
   ·
    rw [hb1] at F
    refine vl tk 16 F W fun a w F W => ?_
    refine Ad ?_
    exact ⟨F.re ⟨rfl, Aa, Aa, (DX (by try rw [hb1]; try rw [hb0]; all_goals simp only [DW])), trivial⟩, W⟩
   rw [hb1] at F
   refine Hw tk 6 [0] F W (ai fun a w F W => ?_)
   rcases bxq (decide (p0.un.2.2.1 ≠ 0)) with hb2 | hb2
   ·
    rw [hb2] at F
    refine vl tk 10 F W fun a w F W => ?_
    refine Ad ?_
    exact ⟨F.re ⟨rfl, Aa, Aa, (DX (by try rw [hb2]; try rw [hb1]; try rw [hb0]; all_goals simp only [DW])), trivial⟩, W⟩
   rw [hb2] at F
   refine Hw tk 5 [0] F W (ai fun a w F W => ?_)
   rcases bxq (decide (p0.un.1 < 1)) with hb3 | hb3
   ·
    rw [hb3] at F
    refine vl tk 5 F W fun a w F W => ?_
    refine Ad ?_
    exact ⟨F.re ⟨rfl, Aa, Aa, (DX (by try rw [hb2]; try rw [hb1]; try rw [hb0]; try rw [hb3]; all_goals simp only [DW])), trivial⟩, W⟩
   rw [hb3] at F
   refine Hw tk 5 [0] F W (ai fun a w F W => ?_)
   refine Ad ?_
   exact ⟨F.re ⟨rfl, Aa, Aa, (DX (by try rw [hb2]; try rw [hb1]; try rw [hb0]; try rw [hb3]; all_goals simp only [DW])), trivial⟩, W⟩
  rw [hb0] at F
  refine Hw tk 15 [0] F W (ai fun a w F W => ?_)
  rcases bxq (decide (p0.un.1 < 1)) with hb1 | hb1
  ·
   rw [hb1] at F
   refine vl tk 5 F W fun a w F W => ?_
   refine Ad ?_
   exact ⟨F.re ⟨rfl, Aa, Aa, (DX (by try rw [hb0]; try rw [hb1]; all_goals simp only [DW])), trivial⟩, W⟩
  rw [hb1] at F
  refine Hw tk 5 [0] F W (ai fun a w F W => ?_)
  refine Ad ?_
  exact ⟨F.re ⟨rfl, Aa, Aa, (DX (by try rw [hb0]; try rw [hb1]; all_goals simp only [DW])), trivial⟩, W⟩
 rintro a w ⟨F, W⟩
 refine CK F Aa H (fun F H => ?_) fun F H => ?_
 ·
  refine vc tk 5 F W fun a w F W => ?_
  refine Am (Az ?_)
  have H := AC H
  subst H
  refine Ax (.inl Aa) F W Aa (Ap F Aa) ?_
  exact ⟨rfl, W.done⟩
 refine Gp tk 3 F W fun a w F W => ?_
 refine AA (fun a w => Fr 98 [] [(1, .pointer (some ⟨b1, 0, none⟩)), (2, .bool false), (3, .int .i64 (p0.un.2.2.2.length : Int)), (56, .bool (decide (p0.un.1 = 3) && (decide (p0.un.2.1 < 0) || (decide (5 < p0.un.2.1) || (decide (p0.un.2.2.1 < 0) || decide ((EY p0.un.2.1) < p0.un.2.2.1))))))] a ∧ Stw ⟨Y, [], w0⟩ (Mz b1 p0 v1) [] w) ?_ ?_
 ·
  refine CH W MO (by kernel_rfl) ?_
  refine qs F Aa (As NV Aa Aa Aa T3 F Aa 0 Aa).q fun a F => ?_
  refine qs F Aa (Bu (v := Value.int .i64 p0.un.1) 0 F Aa Aa T3 Aa).q fun a F => ?_
  refine qs F Aa (PO F Aa Aa).q fun a F => ?_
  refine qs F Aa (Aq F Aa).q fun a F => ?_
  rcases bxq (decide (p0.un.1 = 3)) with hb0 | hb0
  ·
   rw [hb0] at F
   refine AP F (Ac F Aa Aa Aa Aa) Aa (Ao Aa) (As NV Aa Aa Aa T3 F Aa 1 Aa).q fun a F => ?_
   refine AP F (Ac F Aa Aa Aa Aa) Aa (Ao Aa) (Bu (v := Value.int .i64 p0.un.2.1) 0 F Aa Aa T3 Aa).q fun a F => ?_
   refine AP F (Ac F Aa Aa Aa Aa) Aa (Ao Aa) (GY F Aa Aa).q fun a F => ?_
   refine AP F (Ac F Aa Aa Aa Aa) Aa (Ao Aa) (Aq F Aa).q fun a F => ?_
   rcases bxq (decide (p0.un.2.1 < 0)) with hb1 | hb1
   ·
    rw [hb1] at F
    iterate 3 refine Bp F (Be F Aa Aa Aa Aa Aa) Aa Aa fun a F => ?_
    refine AP F (Ac F Aa Aa Aa Aa) Aa (Ao Aa) (BI F Aa Aa Aa).q fun a F => ?_
    refine AP F (Ac F Aa Aa Aa Aa) Aa (Ao Aa) (Aq F Aa).q fun a F => ?_
    iterate 3 refine Bp F (Be F Aa Aa Aa Aa Aa) Aa Aa fun a F => ?_
    refine AP F (Ac F Aa Aa Aa Aa) Aa (Ao Aa) (BI F Aa Aa Aa).q fun a F => ?_
    refine AP F (Ac F Aa Aa Aa Aa) Aa (Ao Aa) (Aq F Aa).q fun a F => ?_
    iterate 6 refine Bp F (Be F Aa Aa Aa Aa Aa) Aa Aa fun a F => ?_
    refine AP F (Ac F Aa Aa Aa Aa) Aa (Ao Aa) (BI F Aa Aa Aa).q fun a F => ?_
    refine qs F Aa (BI F Aa Aa Aa).q fun a F => ?_
    refine AO fun w W => ?_
    refine Ad ?_
    exact ⟨F.re ⟨rfl, Aa, Aa, (DX (by try rw [hb1]; try rw [hb0]; all_goals simp only [DW])), trivial⟩, W⟩
   rw [hb1] at F
   refine AP F (Ac F Aa Aa Aa Aa) Aa (Ao Aa) (As NV Aa Aa Aa T3 F Aa 1 Aa).q fun a F => ?_
   refine AP F (Ac F Aa Aa Aa Aa) Aa (Ao Aa) (Bu (v := Value.int .i64 p0.un.2.1) 0 F Aa Aa T3 Aa).q fun a F => ?_
   refine AP F (Ac F Aa Aa Aa Aa) Aa (Ao Aa) (Nx F Aa Aa).q fun a F => ?_
   refine AP F (Ac F Aa Aa Aa Aa) Aa (Ao Aa) (BA F Aa Aa Aa).q fun a F => ?_
   refine AP F (Ac F Aa Aa Aa Aa) Aa (Ao Aa) (Aq F Aa).q fun a F => ?_
   rcases bxq (decide (5 < p0.un.2.1)) with hb2 | hb2
   ·
    rw [hb2] at F
    iterate 3 refine Bp F (Be F Aa Aa Aa Aa Aa) Aa Aa fun a F => ?_
    refine AP F (Ac F Aa Aa Aa Aa) Aa (Ao Aa) (BI F Aa Aa Aa).q fun a F => ?_
    refine AP F (Ac F Aa Aa Aa Aa) Aa (Ao Aa) (Aq F Aa).q fun a F => ?_
    iterate 6 refine Bp F (Be F Aa Aa Aa Aa Aa) Aa Aa fun a F => ?_
    refine AP F (Ac F Aa Aa Aa Aa) Aa (Ao Aa) (BI F Aa Aa Aa).q fun a F => ?_
    refine qs F Aa (BI F Aa Aa Aa).q fun a F => ?_
    refine AO fun w W => ?_
    refine Ad ?_
    exact ⟨F.re ⟨rfl, Aa, Aa, (DX (by try rw [hb1]; try rw [hb2]; try rw [hb0]; all_goals simp only [DW])), trivial⟩, W⟩
   rw [hb2] at F
   refine AP F (Ac F Aa Aa Aa Aa) Aa (Ao Aa) (As NV Aa Aa Aa T3 F Aa 2 Aa).q fun a F => ?_
   refine AP F (Ac F Aa Aa Aa Aa) Aa (Ao Aa) (Bu (v := Value.int .i64 p0.un.2.2.1) 0 F Aa Aa T3 Aa).q fun a F => ?_
   refine AP F (Ac F Aa Aa Aa Aa) Aa (Ao Aa) (GY F Aa Aa).q fun a F => ?_
   refine AP F (Ac F Aa Aa Aa Aa) Aa (Ao Aa) (BA F Aa Aa Aa).q fun a F => ?_
   refine AP F (Ac F Aa Aa Aa Aa) Aa (Ao Aa) (Aq F Aa).q fun a F => ?_
   rcases bxq (decide (p0.un.2.2.1 < 0)) with hb3 | hb3
   ·
    rw [hb3] at F
    iterate 6 refine Bp F (Be F Aa Aa Aa Aa Aa) Aa Aa fun a F => ?_
    refine AP F (Ac F Aa Aa Aa Aa) Aa (Ao Aa) (BI F Aa Aa Aa).q fun a F => ?_
    refine qs F Aa (BI F Aa Aa Aa).q fun a F => ?_
    refine AO fun w W => ?_
    refine Ad ?_
    exact ⟨F.re ⟨rfl, Aa, Aa, (DX (by try rw [hb3]; try rw [hb1]; try rw [hb2]; try rw [hb0]; all_goals simp only [DW])), trivial⟩, W⟩
   rw [hb3] at F
   refine AP F (Ac F Aa Aa Aa Aa) Aa (Ao Aa) (As NV Aa Aa Aa T3 F Aa 2 Aa).q fun a F => ?_
   refine AP F (Ac F Aa Aa Aa Aa) Aa (Ao Aa) (Bu (v := Value.int .i64 p0.un.2.2.1) 0 F Aa Aa T3 Aa).q fun a F => ?_
   refine AP F (Ac F Aa Aa Aa Aa) Aa (Ao Aa) (As NV Aa Aa Aa T3 F Aa 1 Aa).q fun a F => ?_
   refine AP F (Ac F Aa Aa Aa Aa) Aa (Ao Aa) (Bu (v := Value.int .i64 p0.un.2.1) 0 F Aa Aa T3 Aa).q fun a F => ?_
   refine AP F (Ac F Aa Aa Aa Aa) Aa (Ao Aa) (AL (v := Value.int .i64 (EY p0.un.2.1)) F Yy Aa (fun w W => PS any w p0.un.2.1 _ Aa)) fun a F => ?_
   refine AP F (Ac F Aa Aa Aa Aa) Aa (Ao Aa) (Nx F Aa Aa).q fun a F => ?_
   refine AP F (Ac F Aa Aa Aa Aa) Aa (Ao Aa) (BA F Aa Aa Aa).q fun a F => ?_
   refine qs F Aa (BI F Aa Aa Aa).q fun a F => ?_
   refine AO fun w W => ?_
   refine Ad ?_
   exact ⟨F.re ⟨rfl, Aa, Aa, (DX (by try rw [hb3]; try rw [hb1]; try rw [hb2]; try rw [hb0]; all_goals simp only [DW])), trivial⟩, W⟩
  rw [hb0] at F
  iterate 4 refine Bp F (Be F Aa Aa Aa Aa Aa) Aa Aa fun a F => ?_
  iterate 3 refine Bp F (FQ F Aa Aa Aa Aa) Aa Aa fun a F => ?_
  iterate 2 refine Bp F (Be F Aa Aa Aa Aa Aa) Aa Aa fun a F => ?_
  iterate 3 refine Bp F (FQ F Aa Aa Aa Aa) Aa Aa fun a F => ?_
  iterate 2 refine Bp F (Be F Aa Aa Aa Aa Aa) Aa Aa fun a F => ?_
  iterate 6 refine Bp F (FQ F Aa Aa Aa Aa) Aa Aa fun a F => ?_
  refine Bp F (Be F Aa Aa Aa Aa Aa) Aa Aa fun a F => ?_
  refine qs F Aa (BA F Aa Aa Aa).q fun a F => ?_
  refine AO fun w W => ?_
  refine Ad ?_
  exact ⟨F.re ⟨rfl, Aa, Aa, (DX (by try rw [hb0]; all_goals simp only [DW])), trivial⟩, W⟩
 rintro a w ⟨F, W⟩
 refine CK F Aa H (fun F H => ?_) fun F H => ?_
 ·
  refine vc tk 5 F W fun a w F W => ?_
  refine Am (Az ?_)
  have H := AC H
  subst H
  refine Ax (.inl Aa) F W Aa (Ap F Aa) ?_
  exact ⟨rfl, W.done⟩
 refine Gp tk 3 F W fun a w F W => ?_
 refine AA (fun a w => Fr 98 [] [(1, .pointer (some ⟨b1, 0, none⟩)), (2, .bool false), (3, .int .i64 (p0.un.2.2.2.length : Int)), (85, .bool (bif decide (p0.un.1 ≤ 3) then (decide ((p0.un.2.2.2.length : Int) ≠ 0) || (bif decide (p0.un.1 = 4) then (decide ((p0.un.2.2.2.length : Int) ≠ 1) || (decide (5 ≤ p0.un.1) && (decide ((p0.un.2.2.2.length : Int) < 2) || decide (8 < (p0.un.2.2.2.length : Int))))) else (decide (5 ≤ p0.un.1) && (decide ((p0.un.2.2.2.length : Int) < 2) || decide (8 < (p0.un.2.2.2.length : Int)))))) else (bif decide (p0.un.1 = 4) then (decide ((p0.un.2.2.2.length : Int) ≠ 1) || (decide (5 ≤ p0.un.1) && (decide ((p0.un.2.2.2.length : Int) < 2) || decide (8 < (p0.un.2.2.2.length : Int))))) else (decide (5 ≤ p0.un.1) && (decide ((p0.un.2.2.2.length : Int) < 2) || decide (8 < (p0.un.2.2.2.length : Int)))))))] a ∧ Stw ⟨Y, [], w0⟩ (Mz b1 p0 v1) [] w) ?_ ?_
 ·
  refine FR tk 5 [0] F W (ai fun a w F W => ?_)
  rcases bxq (decide (p0.un.1 ≤ 3)) with hb0 | hb0
  ·
   rw [hb0] at F
   refine vl tk 4 F W fun a w F W => ?_
   rcases bxq (decide ((p0.un.2.2.2.length : Int) ≠ 0)) with hb1 | hb1
   ·
    rw [hb1] at F
    refine vl tk 22 F W fun a w F W => ?_
    refine Ad ?_
    exact ⟨F.re ⟨rfl, Aa, Aa, (DX (by try rw [hb1]; try rw [hb0]; all_goals simp only [DW])), trivial⟩, W⟩
   rw [hb1] at F
   refine Hw tk 4 [0] F W (ai fun a w F W => ?_)
   rcases bxq (decide (p0.un.1 = 4)) with hb2 | hb2
   ·
    rw [hb2] at F
    refine vl tk 5 F W fun a w F W => ?_
    rcases bxq (decide ((p0.un.2.2.2.length : Int) ≠ 1)) with hb3 | hb3
    ·
     rw [hb3] at F
     refine vl tk 13 F W fun a w F W => ?_
     refine Ad ?_
     exact ⟨F.re ⟨rfl, Aa, Aa, (DX (by try rw [hb1]; try rw [hb3]; try rw [hb0]; try rw [hb2]; all_goals simp only [DW])), trivial⟩, W⟩
    rw [hb3] at F
    refine Hw tk 4 [0] F W (ai fun a w F W => ?_)
    rcases bxq (decide (5 ≤ p0.un.1)) with hb4 | hb4
    ·
     rw [hb4] at F
     refine vl tk 3 F W fun a w F W => ?_
     rcases bxq (decide ((p0.un.2.2.2.length : Int) < 2)) with hb5 | hb5
     ·
      rw [hb5] at F
      refine vl tk 6 F W fun a w F W => ?_
      refine Ad ?_
      exact ⟨F.re ⟨rfl, Aa, Aa, (DX (by try rw [hb1]; try rw [hb3]; try rw [hb5]; try rw [hb0]; try rw [hb2]; try rw [hb4]; all_goals simp only [DW])), trivial⟩, W⟩
     rw [hb5] at F
     refine vl tk 6 F W fun a w F W => ?_
     refine Ad ?_
     exact ⟨F.re ⟨rfl, Aa, Aa, (DX (by try rw [hb1]; try rw [hb3]; try rw [hb5]; try rw [hb0]; try rw [hb2]; try rw [hb4]; all_goals simp only [DW])), trivial⟩, W⟩
    rw [hb4] at F
    refine vl tk 9 F W fun a w F W => ?_
    refine Ad ?_
    exact ⟨F.re ⟨rfl, Aa, Aa, (DX (by try rw [hb1]; try rw [hb3]; try rw [hb0]; try rw [hb2]; try rw [hb4]; all_goals simp only [DW])), trivial⟩, W⟩
   rw [hb2] at F
   refine Hw tk 9 [0] F W (ai fun a w F W => ?_)
   rcases bxq (decide (5 ≤ p0.un.1)) with hb3 | hb3
   ·
    rw [hb3] at F
    refine vl tk 3 F W fun a w F W => ?_
    rcases bxq (decide ((p0.un.2.2.2.length : Int) < 2)) with hb4 | hb4
    ·
     rw [hb4] at F
     refine vl tk 6 F W fun a w F W => ?_
     refine Ad ?_
     exact ⟨F.re ⟨rfl, Aa, Aa, (DX (by try rw [hb1]; try rw [hb4]; try rw [hb0]; try rw [hb2]; try rw [hb3]; all_goals simp only [DW])), trivial⟩, W⟩
    rw [hb4] at F
    refine vl tk 6 F W fun a w F W => ?_
    refine Ad ?_
    exact ⟨F.re ⟨rfl, Aa, Aa, (DX (by try rw [hb1]; try rw [hb4]; try rw [hb0]; try rw [hb2]; try rw [hb3]; all_goals simp only [DW])), trivial⟩, W⟩
   rw [hb3] at F
   refine vl tk 9 F W fun a w F W => ?_
   refine Ad ?_
   exact ⟨F.re ⟨rfl, Aa, Aa, (DX (by try rw [hb1]; try rw [hb0]; try rw [hb2]; try rw [hb3]; all_goals simp only [DW])), trivial⟩, W⟩
  rw [hb0] at F
  refine Hw tk 8 [0] F W (ai fun a w F W => ?_)
  rcases bxq (decide (p0.un.1 = 4)) with hb1 | hb1
  ·
   rw [hb1] at F
   refine vl tk 5 F W fun a w F W => ?_
   rcases bxq (decide ((p0.un.2.2.2.length : Int) ≠ 1)) with hb2 | hb2
   ·
    rw [hb2] at F
    refine vl tk 13 F W fun a w F W => ?_
    refine Ad ?_
    exact ⟨F.re ⟨rfl, Aa, Aa, (DX (by try rw [hb2]; try rw [hb0]; try rw [hb1]; all_goals simp only [DW])), trivial⟩, W⟩
   rw [hb2] at F
   refine Hw tk 4 [0] F W (ai fun a w F W => ?_)
   rcases bxq (decide (5 ≤ p0.un.1)) with hb3 | hb3
   ·
    rw [hb3] at F
    refine vl tk 3 F W fun a w F W => ?_
    rcases bxq (decide ((p0.un.2.2.2.length : Int) < 2)) with hb4 | hb4
    ·
     rw [hb4] at F
     refine vl tk 6 F W fun a w F W => ?_
     refine Ad ?_
     exact ⟨F.re ⟨rfl, Aa, Aa, (DX (by try rw [hb2]; try rw [hb4]; try rw [hb0]; try rw [hb1]; try rw [hb3]; all_goals simp only [DW])), trivial⟩, W⟩
    rw [hb4] at F
    refine vl tk 6 F W fun a w F W => ?_
    refine Ad ?_
    exact ⟨F.re ⟨rfl, Aa, Aa, (DX (by try rw [hb2]; try rw [hb4]; try rw [hb0]; try rw [hb1]; try rw [hb3]; all_goals simp only [DW])), trivial⟩, W⟩
   rw [hb3] at F
   refine vl tk 9 F W fun a w F W => ?_
   refine Ad ?_
   exact ⟨F.re ⟨rfl, Aa, Aa, (DX (by try rw [hb2]; try rw [hb0]; try rw [hb1]; try rw [hb3]; all_goals simp only [DW])), trivial⟩, W⟩
  rw [hb1] at F
  refine Hw tk 9 [0] F W (ai fun a w F W => ?_)
  rcases bxq (decide (5 ≤ p0.un.1)) with hb2 | hb2
  ·
   rw [hb2] at F
   refine vl tk 3 F W fun a w F W => ?_
   rcases bxq (decide ((p0.un.2.2.2.length : Int) < 2)) with hb3 | hb3
   ·
    rw [hb3] at F
    refine vl tk 6 F W fun a w F W => ?_
    refine Ad ?_
    exact ⟨F.re ⟨rfl, Aa, Aa, (DX (by try rw [hb3]; try rw [hb0]; try rw [hb1]; try rw [hb2]; all_goals simp only [DW])), trivial⟩, W⟩
   rw [hb3] at F
   refine vl tk 6 F W fun a w F W => ?_
   refine Ad ?_
   exact ⟨F.re ⟨rfl, Aa, Aa, (DX (by try rw [hb3]; try rw [hb0]; try rw [hb1]; try rw [hb2]; all_goals simp only [DW])), trivial⟩, W⟩
  rw [hb2] at F
  refine vl tk 9 F W fun a w F W => ?_
  refine Ad ?_
  exact ⟨F.re ⟨rfl, Aa, Aa, (DX (by try rw [hb0]; try rw [hb1]; try rw [hb2]; all_goals simp only [DW])), trivial⟩, W⟩
 rintro a w ⟨F, W⟩
 refine CK F Aa H (fun F H => ?_) fun F H => ?_
 ·
  refine vc tk 5 F W fun a w F W => ?_
  refine Am (Az ?_)
  have H := AC H
  subst H
  refine Ax (.inl Aa) F W Aa (Ap F Aa) ?_
  exact ⟨rfl, W.done⟩
 refine Bc (Ad ?_)
 obtain ⟨o1, G1, K1, L1⟩ := RM H
 refine AA (fun a w => some (Sum.inl ()) = some o1 ∧ Fr 98 [] [(2, .bool false)] a ∧ Stw ⟨Y, [], w0⟩ (Mz b1 p0 v1) [] w) ?_ ?_
 ·
  have H := G1
  refine vc tk 6 F W fun a w F W => ?_
  refine BN H (fun s a w => Fr 98 [] [(1, .pointer (some ⟨b1, 0, none⟩)), (2, .bool false), (3, .int .i64 (p0.un.2.2.2.length : Int)), (4, .int .i64 s)] a ∧ Stw ⟨Y, [], w0⟩ (Mz b1 p0 v1) [] w) ⟨F.ra Aa, W⟩ fun s o a w H L2 hR => ?_
  obtain ⟨x1, rfl⟩ : ∃ x, x = s := ⟨s, rfl⟩
  obtain ⟨F, W⟩ := hR
  have F : Fr 98 [] [(1, .pointer (some ⟨b1, 0, none⟩)), (2, .bool false), (3, .int .i64 (p0.un.2.2.2.length : Int)), (4, .int .i64 x1)] a := F
  have W : Stw ⟨Y, [], w0⟩ (Mz b1 p0 v1) [] w := W
  rw [Fy] at H
  refine vc tk 8 F W fun a w F W => ?_
  refine BU F Aa H (fun F H => ?_) fun F H => ?_
  ·
   refine QT tk 9 [0] F W (ai fun a w F W => ?_)
   obtain ⟨x2, h2, H⟩ := Ag H
   obtain ⟨v3, h3, h4⟩ := DQ h1 h2
   have h5 : LY v3 = [.int .i64 x2.un.1, .int .i64 x2.un.2.1, .int .i64 x2.un.2.2.1, (v3.2.2.2.1)] := congrArg (fun q : Tr24 => ([.int .i64 q.un.1, .int .i64 q.un.2.1, .int .i64 q.un.2.2.1, (v3.2.2.2.1)] : List Value)) h4
   refine ls F W Aa (Aw (r := M0) UE F Aa Aa (Ah h_v1) h3).q fun a w F W => ?_
   refine ls F W Aa (An (y := Value.agg #[.int .i64 x2.un.1, .int .i64 x2.un.2.1, .int .i64 x2.un.2.2.1, (v3.2.2.2.1)]) (j := 0) (i := x1) (enc := LY) F Aa Aa (Ah h_v1) h3 Sc RY (by rw [h5]; rfl)).q fun a w F W => ?_
   obtain ⟨x3, h6, H⟩ := Ag H
   refine ls F W Aa (AL (v := Value.bool x3) F YX Aa (fun w W => ih any w ((v3.2.2.2.1)) x2 _ h6 (Er (Br (Ah h_v1) h3 (Ai.snd (Ai.snd (Ai.snd Ai.here))) (congrArg (fun q : Tr24 => q.un.2.2.2) h4)) W))) fun a w F W => ?_
   refine Cv tk 3 F W fun a w F W => ?_
   refine CK F Aa H (fun F H => ?_) fun F H => ?_
   ·
    refine vc tk 5 F W fun a w F W => ?_
    refine Am (AH ?_)
    iterate 2 refine Az ?_
    refine AH (Az ?_)
    have H := L2 _ H
    have H := L1 _ H
    have H := AC H
    subst H
    refine Ax (.inl Aa) F W Aa (Ap F Aa) ?_
    exact ⟨rfl, W.done⟩
   refine Bc (AM ?_)
   refine vn tk 5 F W fun a w F W => ?_
   refine Ad ?_
   exact ⟨_, H, F.ra Aa, W⟩
  refine BB ?_
  iterate 2 refine BR ?_
  refine Bx (Ad ?_)
  have H := L2 _ H
  exact ⟨H, F.ra Aa, W⟩
 rintro a w ⟨hj, F, W⟩
 have H := K1 _ hj
 refine vc tk 5 F W fun a w F W => ?_
 refine Am ?_
 have H := AC H
 subst H
 refine Ax (.inl Aa) F W Aa (Ap F Aa) ?_
 exact ⟨rfl, W.done⟩
theorem QU : ∀ (n : Nat) (Y : Nat → Prop) (w0 : World) (v1 : Value) (p0 : Tr24) (r : Bool) (H : Eo n p0 = some r) (h_v1 : Sl w0 (NX []) DT v1 p0.un.2.2.2), Calls Tryz.prog 62 #[.agg #[.int .i64 p0.un.1, .int .i64 p0.un.2.1, .int .i64 p0.un.2.2.1, v1]] w0 fun e w' => e = .returned (.bool r) ∧ Below w0.heap.size w0 w' := by
  intro n
  induction n with
  | zero => intro Y w0 v1 p0 r H; exact nomatch H
  | succ n ih => intro Y w0 v1 p0 r H h_v1; exact QF (Eo n) ih Y w0 v1 p0 r H h_v1
theorem RU (Y : Nat → Prop) (w0 : World) (v1 : Value) (p0 : Tr24) (r : Bool) (H : Pj p0 = some r) (h_v1 : Sl w0 (NX []) DT v1 p0.un.2.2.2) :
    Calls Tryz.prog 62 #[.agg #[.int .i64 p0.un.1, .int .i64 p0.un.2.1, .int .i64 p0.un.2.2.1, v1]] w0 fun e w' => e = .returned (.bool r) ∧ Below w0.heap.size w0 w' := by
  obtain ⟨n, H⟩ := CZ H
  exact QU n Y w0 v1 p0 r H h_v1
theorem XR : Has Tryz.prog 30 := CP Tryz.func30
def DL (fRec : Tr24 → Option Int) (p0 : Tr24) : (Int × Int) → Option ((Int × Int) ⊕ Int)
  | (x2, x3) => (if x3 < (p0.un.2.2.2.length : Int) then (ix p0.un.2.2.2 x3).bind fun x4 => (fRec x4).bind fun x5 => some (.inl (AU (x2 + x5), AU (x3 + 1))) else some (.inr x2))
def Fm (fRec : Tr24 → Option Int) (p0 : Tr24) : Option Int := (Ba (DL fRec p0) (1, 0)).bind fun x1 => some x1
def Es : Nat → Tr24 → Option Int
  | 0 => fun _ => none
  | n + 1 => Fm (Es n)
def KK (p0 : Tr24) : Option Int := HC fun n => Es n p0
theorem P7 (fRec : Tr24 → Option Int) (ih : ∀ (Y : Nat → Prop) (w0 : World) (v1 : Value) (p0 : Tr24) (r : Int) (H : fRec p0 = some r) (h_v1 : Sl w0 (NX []) DT v1 p0.un.2.2.2), Calls Tryz.prog 30 #[.agg #[.int .i64 p0.un.1, .int .i64 p0.un.2.1, .int .i64 p0.un.2.2.1, v1]] w0 fun e w' => e = .returned (.int .i64 r) ∧ Below w0.heap.size w0 w') (Y : Nat → Prop) (w0 : World) (v1 : Value) (p0 : Tr24) (r : Int) (H : Fm fRec p0 = some r) (h_v1 : Sl w0 (NX []) DT v1 p0.un.2.2.2) :
    Calls Tryz.prog 30 #[.agg #[.int .i64 p0.un.1, .int .i64 p0.un.2.1, .int .i64 p0.un.2.2.1, v1]] w0 fun e w' => e = .returned (.int .i64 r) ∧ Below w0.heap.size w0 w' := by
 refine enter Tryz.func30 Aa Tryz.ntmps30 Aa fun a F => ?_
 have W := Stw.start Y w0
 obtain ⟨v2, h1, h_v1⟩ := h_v1.ex Da
 unfold Fm at H
 refine vc tk 2 F W fun a w F W => ?_
 refine CX (cs := (CD p0 v1)) F W Aa Aa Aa fun b1 a w F W => ?_
 refine Cv tk 8 F W fun a w F W => ?_
 obtain ⟨o1, G1, K1⟩ := Ag H
 refine AA (fun a w => ∃ x1 : Int, some (x1) = some o1 ∧ Fr 21 [] [(2, .int .i64 0), (3, .int .i64 x1)] a ∧ Stw ⟨Y, [], w0⟩ (Mz b1 p0 v1) [] w) ?_ ?_
 ·
  have H := G1
  refine vc tk 6 F W fun a w F W => ?_
  refine BN H (fun s a w => Fr 21 [] [(1, .pointer (some ⟨b1, 0, none⟩)), (2, .int .i64 0), (3, .int .i64 s.1), (4, .int .i64 s.2)] a ∧ Stw ⟨Y, [], w0⟩ (Mz b1 p0 v1) [] w) ⟨F.ra Aa, W⟩ fun s o a w H L2 hR => ?_
  obtain ⟨x2, x3⟩ := s
  obtain ⟨F, W⟩ := hR
  have F : Fr 21 [] [(1, .pointer (some ⟨b1, 0, none⟩)), (2, .int .i64 0), (3, .int .i64 x2), (4, .int .i64 x3)] a := F
  have W : Stw ⟨Y, [], w0⟩ (Mz b1 p0 v1) [] w := W
  rw [DL] at H
  refine FR tk 6 [0] F W (ai fun a w F W => ?_)
  refine ls F W Aa (C2 (r := DT) (l := p0.un.2.2.2) Rt Aa F Aa (Ak Da h1 (Ah h_v1))).q fun a w F W => ?_
  refine Cv tk 3 F W fun a w F W => ?_
  refine BU F Aa H (fun F H => ?_) fun F H => ?_
  ·
   refine QT tk 9 [0] F W (ai fun a w F W => ?_)
   obtain ⟨x4, h2, H⟩ := Ag H
   obtain ⟨v3, h3, h4⟩ := DQ h1 h2
   have h5 : LY v3 = [.int .i64 x4.un.1, .int .i64 x4.un.2.1, .int .i64 x4.un.2.2.1, (v3.2.2.2.1)] := congrArg (fun q : Tr24 => ([.int .i64 q.un.1, .int .i64 q.un.2.1, .int .i64 q.un.2.2.1, (v3.2.2.2.1)] : List Value)) h4
   refine ls F W Aa (Aw (r := M0) UE F Aa Aa (Ah h_v1) h3).q fun a w F W => ?_
   refine ls F W Aa (An (y := Value.agg #[.int .i64 x4.un.1, .int .i64 x4.un.2.1, .int .i64 x4.un.2.2.1, (v3.2.2.2.1)]) (j := 0) (i := x3) (enc := LY) F Aa Aa (Ah h_v1) h3 Sc RY (by rw [h5]; rfl)).q fun a w F W => ?_
   obtain ⟨x5, h6, H⟩ := Ag H
   refine ls F W Aa (AL (v := Value.int .i64 x5) F XR Aa (fun w W => ih any w ((v3.2.2.2.1)) x4 _ h6 (Er (Br (Ah h_v1) h3 (Ai.snd (Ai.snd (Ai.snd Ai.here))) (congrArg (fun q : Tr24 => q.un.2.2.2) h4)) W))) fun a w F W => ?_
   refine vl tk 3 F W fun a w F W => ?_
   refine AM ?_
   refine vn tk 5 F W fun a w F W => ?_
   refine Ad ?_
   exact ⟨_, H, F.ra Aa, W⟩
  refine BB ?_
  iterate 2 refine BR ?_
  refine Bx (Ad ?_)
  have H := L2 _ H
  exact ⟨_, H, F.ra Aa, W⟩
 rintro a w ⟨x1, hj, F, W⟩
 have hj := AC hj
 subst hj
 have H := K1
 refine vc tk 6 F W fun a w F W => ?_
 refine Am ?_
 have H := AC H
 subst H
 refine Ax (.inl Aa) F W Aa (Ap F Aa) ?_
 exact ⟨rfl, W.done⟩
theorem QK : ∀ (n : Nat) (Y : Nat → Prop) (w0 : World) (v1 : Value) (p0 : Tr24) (r : Int) (H : Es n p0 = some r) (h_v1 : Sl w0 (NX []) DT v1 p0.un.2.2.2), Calls Tryz.prog 30 #[.agg #[.int .i64 p0.un.1, .int .i64 p0.un.2.1, .int .i64 p0.un.2.2.1, v1]] w0 fun e w' => e = .returned (.int .i64 r) ∧ Below w0.heap.size w0 w' := by
  intro n
  induction n with
  | zero => intro Y w0 v1 p0 r H; exact nomatch H
  | succ n ih => intro Y w0 v1 p0 r H h_v1; exact P7 (Es n) ih Y w0 v1 p0 r H h_v1
theorem Oc (Y : Nat → Prop) (w0 : World) (v1 : Value) (p0 : Tr24) (r : Int) (H : KK p0 = some r) (h_v1 : Sl w0 (NX []) DT v1 p0.un.2.2.2) :
    Calls Tryz.prog 30 #[.agg #[.int .i64 p0.un.1, .int .i64 p0.un.2.1, .int .i64 p0.un.2.2.1, v1]] w0 fun e w' => e = .returned (.int .i64 r) ∧ Below w0.heap.size w0 w' := by
  obtain ⟨n, H⟩ := CZ H
  exact QK n Y w0 v1 p0 r H h_v1
theorem Yo : Has Tryz.prog 63 := CP Tryz.func63
def DN (fRec : Tr24 → Option Int) (p0 : Tr24) : (Int × Int) → Option ((Int × Int) ⊕ Int)
  | (x2, x3) => (if x3 < (p0.un.2.2.2.length : Int) then ((ix p0.un.2.2.2 x3).bind fun x5 => (fRec x5).bind fun x6 => (if x2 < (AU (x6 + 1)) then (ix p0.un.2.2.2 x3).bind fun x7 => (fRec x7).bind fun x8 => some (AU (x8 + 1)) else some x2)).bind fun x4 => some (.inl (x4, AU (x3 + 1))) else some (.inr x2))
def FB (fRec : Tr24 → Option Int) (p0 : Tr24) : Option Int := (Ba (DN fRec p0) (1, 0)).bind fun x1 => some x1
def En : Nat → Tr24 → Option Int
  | 0 => fun _ => none
  | n + 1 => FB (En n)
def OJ (p0 : Tr24) : Option Int := HC fun n => En n p0
theorem Qi (fRec : Tr24 → Option Int) (ih : ∀ (Y : Nat → Prop) (w0 : World) (v1 : Value) (p0 : Tr24) (r : Int) (H : fRec p0 = some r) (h_v1 : Sl w0 (NX []) DT v1 p0.un.2.2.2), Calls Tryz.prog 63 #[.agg #[.int .i64 p0.un.1, .int .i64 p0.un.2.1, .int .i64 p0.un.2.2.1, v1]] w0 fun e w' => e = .returned (.int .i64 r) ∧ Below w0.heap.size w0 w') (Y : Nat → Prop) (w0 : World) (v1 : Value) (p0 : Tr24) (r : Int) (H : FB fRec p0 = some r) (h_v1 : Sl w0 (NX []) DT v1 p0.un.2.2.2) :
    Calls Tryz.prog 63 #[.agg #[.int .i64 p0.un.1, .int .i64 p0.un.2.1, .int .i64 p0.un.2.2.1, v1]] w0 fun e w' => e = .returned (.int .i64 r) ∧ Below w0.heap.size w0 w' := by
 refine enter Tryz.func63 Aa Tryz.ntmps63 Aa fun a F => ?_
 have W := Stw.start Y w0
 obtain ⟨v2, h1, h_v1⟩ := h_v1.ex Da
 unfold FB at H
 refine vc tk 2 F W fun a w F W => ?_
 refine CX (cs := (CD p0 v1)) F W Aa Aa Aa fun b1 a w F W => ?_
 refine Cv tk 8 F W fun a w F W => ?_
 obtain ⟨o1, G1, K1⟩ := Ag H
 refine AA (fun a w => ∃ x1 : Int, some (x1) = some o1 ∧ Fr 29 [] [(2, .int .i64 0), (3, .int .i64 x1)] a ∧ Stw ⟨Y, [], w0⟩ (Mz b1 p0 v1) [] w) ?_ ?_
 ·
  have H := G1
  refine vc tk 6 F W fun a w F W => ?_
  refine BN H (fun s a w => Fr 29 [] [(1, .pointer (some ⟨b1, 0, none⟩)), (2, .int .i64 0), (3, .int .i64 s.1), (4, .int .i64 s.2)] a ∧ Stw ⟨Y, [], w0⟩ (Mz b1 p0 v1) [] w) ⟨F.ra Aa, W⟩ fun s o a w H L2 hR => ?_
  obtain ⟨x2, x3⟩ := s
  obtain ⟨F, W⟩ := hR
  have F : Fr 29 [] [(1, .pointer (some ⟨b1, 0, none⟩)), (2, .int .i64 0), (3, .int .i64 x2), (4, .int .i64 x3)] a := F
  have W : Stw ⟨Y, [], w0⟩ (Mz b1 p0 v1) [] w := W
  rw [DN] at H
  refine FR tk 6 [0] F W (ai fun a w F W => ?_)
  refine ls F W Aa (C2 (r := DT) (l := p0.un.2.2.2) Rt Aa F Aa (Ak Da h1 (Ah h_v1))).q fun a w F W => ?_
  refine Cv tk 3 F W fun a w F W => ?_
  refine BU F Aa H (fun F H => ?_) fun F H => ?_
  ·
   refine Bc (Ad ?_)
   obtain ⟨o3, G3, K3⟩ := Ag H
   refine AA (fun a w => ∃ x4 : Int, some (x4) = some o3 ∧ Fr 29 [] [(1, .pointer (some ⟨b1, 0, none⟩)), (2, .int .i64 0), (3, .int .i64 x4), (4, .int .i64 x3)] a ∧ Stw ⟨Y, [], w0⟩ (Mz b1 p0 v1) [] w) ?_ ?_
   ·
    have H := G3
    refine FR tk 6 [0] F W (ai fun a w F W => ?_)
    obtain ⟨x5, h2, H⟩ := Ag H
    obtain ⟨v3, h3, h4⟩ := DQ h1 h2
    have h5 : LY v3 = [.int .i64 x5.un.1, .int .i64 x5.un.2.1, .int .i64 x5.un.2.2.1, (v3.2.2.2.1)] := congrArg (fun q : Tr24 => ([.int .i64 q.un.1, .int .i64 q.un.2.1, .int .i64 q.un.2.2.1, (v3.2.2.2.1)] : List Value)) h4
    refine ls F W Aa (Aw (r := M0) UE F Aa Aa (Ah h_v1) h3).q fun a w F W => ?_
    refine ls F W Aa (An (y := Value.agg #[.int .i64 x5.un.1, .int .i64 x5.un.2.1, .int .i64 x5.un.2.2.1, (v3.2.2.2.1)]) (j := 0) (i := x3) (enc := LY) F Aa Aa (Ah h_v1) h3 Sc RY (by rw [h5]; rfl)).q fun a w F W => ?_
    obtain ⟨x6, h6, H⟩ := Ag H
    refine ls F W Aa (AL (v := Value.int .i64 x6) F Yo Aa (fun w W => ih any w ((v3.2.2.2.1)) x5 _ h6 (Er (Br (Ah h_v1) h3 (Ai.snd (Ai.snd (Ai.snd Ai.here))) (congrArg (fun q : Tr24 => q.un.2.2.2) h4)) W))) fun a w F W => ?_
    refine Cv tk 5 F W fun a w F W => ?_
    refine BU F Aa H (fun F H => ?_) fun F H => ?_
    ·
     obtain ⟨v4, h7, h8⟩ := Sl.ex Da (Sl.at_ h_v1 h3 (Ai.snd (Ai.snd (Ai.snd Ai.here))) (congrArg (fun q : Tr24 => q.un.2.2.2) h4))
     refine FR tk 4 [0] F W (ai fun a w F W => ?_)
     obtain ⟨x7, h9, H⟩ := Ag H
     obtain ⟨v5, h10, h11⟩ := DQ h1 h9
     have h12 : LY v5 = [.int .i64 x7.un.1, .int .i64 x7.un.2.1, .int .i64 x7.un.2.2.1, (v5.2.2.2.1)] := congrArg (fun q : Tr24 => ([.int .i64 q.un.1, .int .i64 q.un.2.1, .int .i64 q.un.2.2.1, (v5.2.2.2.1)] : List Value)) h11
     refine ls F W Aa (Aw (r := M0) UE F Aa Aa (Ah h_v1) h10).q fun a w F W => ?_
     refine ls F W Aa (An (y := Value.agg #[.int .i64 x7.un.1, .int .i64 x7.un.2.1, .int .i64 x7.un.2.2.1, (v5.2.2.2.1)]) (j := 0) (i := x3) (enc := LY) F Aa Aa (Ah h_v1) h10 Sc RY (by rw [h12]; rfl)).q fun a w F W => ?_
     obtain ⟨x8, h13, H⟩ := Ag H
     refine ls F W Aa (AL (v := Value.int .i64 x8) F Yo Aa (fun w W => ih any w ((v5.2.2.2.1)) x7 _ h13 (Er (Br (Ah h_v1) h10 (Ai.snd (Ai.snd (Ai.snd Ai.here))) (congrArg (fun q : Tr24 => q.un.2.2.2) h11)) W))) fun a w F W => ?_
     refine vl tk 3 F W fun a w F W => ?_
     refine AM (Ad ?_)
     exact ⟨_, H, F.ra Aa, W⟩
    refine Bc (AM (Ad ?_))
    exact ⟨_, H, F.ra Aa, W⟩
   rintro a w ⟨x4, hj, F, W⟩
   have hj := AC hj
   subst hj
   have H := K3
   refine vc tk 5 F W fun a w F W => ?_
   refine Ad ?_
   exact ⟨_, H, F.ra Aa, W⟩
  refine BB ?_
  iterate 2 refine BR ?_
  refine Bx (Ad ?_)
  have H := L2 _ H
  exact ⟨_, H, F.ra Aa, W⟩
 rintro a w ⟨x1, hj, F, W⟩
 have hj := AC hj
 subst hj
 have H := K1
 refine vc tk 6 F W fun a w F W => ?_
 refine Am ?_
 have H := AC H
 subst H
 refine Ax (.inl Aa) F W Aa (Ap F Aa) ?_
 exact ⟨rfl, W.done⟩
theorem Q2 : ∀ (n : Nat) (Y : Nat → Prop) (w0 : World) (v1 : Value) (p0 : Tr24) (r : Int) (H : En n p0 = some r) (h_v1 : Sl w0 (NX []) DT v1 p0.un.2.2.2), Calls Tryz.prog 63 #[.agg #[.int .i64 p0.un.1, .int .i64 p0.un.2.1, .int .i64 p0.un.2.2.1, v1]] w0 fun e w' => e = .returned (.int .i64 r) ∧ Below w0.heap.size w0 w' := by
  intro n
  induction n with
  | zero => intro Y w0 v1 p0 r H; exact nomatch H
  | succ n ih => intro Y w0 v1 p0 r H h_v1; exact Qi (En n) ih Y w0 v1 p0 r H h_v1
theorem RS (Y : Nat → Prop) (w0 : World) (v1 : Value) (p0 : Tr24) (r : Int) (H : OJ p0 = some r) (h_v1 : Sl w0 (NX []) DT v1 p0.un.2.2.2) :
    Calls Tryz.prog 63 #[.agg #[.int .i64 p0.un.1, .int .i64 p0.un.2.1, .int .i64 p0.un.2.2.1, v1]] w0 fun e w' => e = .returned (.int .i64 r) ∧ Below w0.heap.size w0 w' := by
  obtain ⟨n, H⟩ := CZ H
  exact Q2 n Y w0 v1 p0 r H h_v1
def HQ (p0 : Tr24) : Option Bool := ((Pj p0).bind fun x2 => (if x2 = true then (KK p0).bind fun x3 => (if x3 ≤ 64 then (OJ p0).bind fun x4 => some (decide (x4 ≤ 8)) else some false) else some false)).bind fun x1 => some x1
theorem Nz (Y : Nat → Prop) (w0 : World) (v1 : Value) (p0 : Tr24) (r : Bool) (H : HQ p0 = some r) (h_v1 : Sl w0 (NX []) DT v1 p0.un.2.2.2) :
    Calls Tryz.prog 27 #[.agg #[.int .i64 p0.un.1, .int .i64 p0.un.2.1, .int .i64 p0.un.2.2.1, v1]] w0 fun e w' => e = .returned (.bool r) ∧ Below w0.heap.size w0 w' := by
 refine enter Tryz.func27 Aa Tryz.ntmps27 Aa fun a F => ?_
 have W := Stw.start Y w0
 obtain ⟨v2, h1, h_v1⟩ := h_v1.ex Da
 unfold HQ at H
 refine vc tk 2 F W fun a w F W => ?_
 refine CX (cs := (CD p0 v1)) F W Aa Aa Aa fun b1 a w F W => ?_
 refine vl tk 2 F W fun a w F W => ?_
 refine Ad ?_
 obtain ⟨o1, G1, K1⟩ := Ag H
 refine AA (fun a w => ∃ x1 : Bool, some (x1) = some o1 ∧ Fr 15 [] [(2, .bool x1)] a ∧ Stw ⟨Y, [], w0⟩ (Mz b1 p0 v1) [] w) ?_ ?_
 ·
  have H := G1
  refine FR tk 2 [0] F W (ai fun a w F W => ?_)
  obtain ⟨x2, h2, H⟩ := Ag H
  refine ls F W Aa (AL (v := Value.bool x2) F YX Aa (fun w W => RU any w (v1) p0 _ h2 (Er (Ak Da h1 (Ah h_v1)) W))) fun a w F W => ?_
  refine ls F W Aa (Aq F Aa).q fun a w F W => ?_
  rcases bxq x2 with hb | hb
  ·
   have H := Cg hb H
   rw [hb] at F
   refine Hu F W (Ac F Aa Aa Aa Aa) Aa (Ao Aa) (Bu (v := Value.agg #[.int .i64 p0.un.1, .int .i64 p0.un.2.1, .int .i64 p0.un.2.2.1, v1]) 0 F Aa Aa RY Aa).q fun a w F W => ?_
   refine Iq (Ac F Aa Aa Aa Aa) ?_
   obtain ⟨x3, h3, H⟩ := Ag H
   refine ls F W Aa (AL (v := Value.int .i64 x3) F XR Aa (fun w W => Oc any w (v1) p0 _ h3 (Er (Ak Da h1 (Ah h_v1)) W))) fun a w F W => ?_
   refine vl tk 3 F W fun a w F W => ?_
   rcases bxq (decide (x3 ≤ 64)) with hb | hb
   ·
    have H := Cg (CQ hb) H
    rw [hb] at F
    refine Hu F W (Ac F Aa Aa Aa Aa) Aa (Ao Aa) (Bu (v := Value.agg #[.int .i64 p0.un.1, .int .i64 p0.un.2.1, .int .i64 p0.un.2.2.1, v1]) 0 F Aa Aa RY Aa).q fun a w F W => ?_
    refine Iq (Ac F Aa Aa Aa Aa) ?_
    obtain ⟨x4, h4, H⟩ := Ag H
    refine ls F W Aa (AL (v := Value.int .i64 x4) F Yo Aa (fun w W => RS any w (v1) p0 _ h4 (Er (Ak Da h1 (Ah h_v1)) W))) fun a w F W => ?_
    refine vl tk 4 F W fun a w F W => ?_
    refine Ad ?_
    exact ⟨_, H, F.ra Aa, W⟩
   have H := Cf (CO hb) H
   rw [hb] at F
   refine vl tk 6 F W fun a w F W => ?_
   refine Ad ?_
   exact ⟨_, H, F.ra Aa, W⟩
  have H := Cf (by rw [hb]; decide) H
  rw [hb] at F
  refine vl tk 11 F W fun a w F W => ?_
  refine Ad ?_
  exact ⟨_, H, F.ra Aa, W⟩
 rintro a w ⟨x1, hj, F, W⟩
 have hj := AC hj
 subst hj
 have H := K1
 refine Am ?_
 have H := AC H
 subst H
 refine Ax (.inl Aa) F W Aa (Ap F Aa) ?_
 exact ⟨rfl, W.done⟩
theorem YN : Has Tryz.prog 27 := CP Tryz.func27
theorem YU : Bt Tryz.prog 24 [.int .i64 0, .int .i64 0, .int .i64 0, .slice none 0 0] [(0, 1), (1, 1), (2, 1), (3, 1)] := ⟨⟨.agg #[.int .i64 0, .int .i64 0, .int .i64 0, .slice none 0 0], by kernel_rfl, rfl⟩, ⟨_, NV, fun w => by kernel_rfl⟩⟩
theorem YQ : Has Tryz.prog 38 := CP Tryz.func38
abbrev UM (a0 : Nat) (a1 : Tr24) (a2 : Value) (a3 : Nat) (a4 : Tr24) (a5 : Value) : List (Nat × List Value) := [(a0, [.int .i64 a1.un.1, .int .i64 a1.un.2.1, .int .i64 a1.un.2.2.1, a2]), (a3, [.int .i64 a4.un.1, .int .i64 a4.un.2.1, .int .i64 a4.un.2.2.1, a5])]
def Ho (fRec : Tr24 → Tr24 → Option Bool) (p0 : Tr24) (p1 : Tr24) : Int → Option (Int ⊕ (Unit ⊕ Bool))
  | x1 => (if x1 < (p0.un.2.2.2.length : Int) then (ix p0.un.2.2.2 x1).bind fun x2 => (ix p1.un.2.2.2 x1).bind fun x3 => (fRec x2 x3).bind fun x4 => (if (!x4) = true then some (.inr (.inr false)) else some (.inl (AU (x1 + 1)))) else some (.inr (.inl ())))
def Fq (fRec : Tr24 → Tr24 → Option Bool) (p0 : Tr24) (p1 : Tr24) : Option Bool := (if (decide (p0.un.1 ≠ p1.un.1) || (decide (p0.un.2.1 ≠ p1.un.2.1) || (decide (p0.un.2.2.1 ≠ p1.un.2.2.1) || decide ((p0.un.2.2.2.length : Int) ≠ (p1.un.2.2.2.length : Int))))) = true then some false else Ku (Ba (Ho fRec p0 p1) 0) fun _ => some true)
def FM : Nat → Tr24 → Tr24 → Option Bool
  | 0 => fun _ _ => none
  | n + 1 => Fq (FM n)
def KG (p0 : Tr24) (p1 : Tr24) : Option Bool := HC fun n => FM n p0 p1
theorem Qz (fRec : Tr24 → Tr24 → Option Bool) (ih : ∀ (Y : Nat → Prop) (w0 : World) (v1 : Value) (v2 : Value) (p0 : Tr24) (p1 : Tr24) (r : Bool) (H : fRec p0 p1 = some r) (h_v1 : Sl w0 (NX []) DT v1 p0.un.2.2.2) (h_v2 : Sl w0 (NX []) DT v2 p1.un.2.2.2), Calls Tryz.prog 38 #[.agg #[.int .i64 p0.un.1, .int .i64 p0.un.2.1, .int .i64 p0.un.2.2.1, v1], .agg #[.int .i64 p1.un.1, .int .i64 p1.un.2.1, .int .i64 p1.un.2.2.1, v2]] w0 fun e w' => e = .returned (.bool r) ∧ Below w0.heap.size w0 w') (Y : Nat → Prop) (w0 : World) (v1 : Value) (v2 : Value) (p0 : Tr24) (p1 : Tr24) (r : Bool) (H : Fq fRec p0 p1 = some r) (h_v1 : Sl w0 (NX []) DT v1 p0.un.2.2.2) (h_v2 : Sl w0 (NX []) DT v2 p1.un.2.2.2) :
    Calls Tryz.prog 38 #[.agg #[.int .i64 p0.un.1, .int .i64 p0.un.2.1, .int .i64 p0.un.2.2.1, v1], .agg #[.int .i64 p1.un.1, .int .i64 p1.un.2.1, .int .i64 p1.un.2.2.1, v2]] w0 fun e w' => e = .returned (.bool r) ∧ Below w0.heap.size w0 w' := by
 refine enter Tryz.func38 Aa Tryz.ntmps38 Aa fun a F => ?_
 have W := Stw.start Y w0
 obtain ⟨v3, h1, h_v1⟩ := h_v1.ex Da
 obtain ⟨v4, h2, h_v2⟩ := h_v2.ex Da
 unfold Fq at H
 refine vc tk 2 F W fun a w F W => ?_
 refine CX (cs := (CD p0 v1)) F W Aa Aa Aa fun b1 a w F W => ?_
 refine CX (cs := (CD p1 v2)) F W Aa Aa Aa fun b2 a w F W => ?_
 refine Cv tk 4 F W fun a w F W => ?_
 refine AA (fun a w => Fr 53 [] [(2, .pointer (some ⟨b1, 0, none⟩)), (3, .pointer (some ⟨b2, 0, none⟩)), (4, .bool false), (33, .bool (decide (p0.un.1 ≠ p1.un.1) || (decide (p0.un.2.1 ≠ p1.un.2.1) || (decide (p0.un.2.2.1 ≠ p1.un.2.2.1) || decide ((p0.un.2.2.2.length : Int) ≠ (p1.un.2.2.2.length : Int))))))] a ∧ Stw ⟨Y, [], w0⟩ (UM b2 p1 v2 b1 p0 v1) [] w) ?_ ?_
 ·
  refine FR tk 7 [1, 0] F W (ai (ai fun a w F W => ?_))
  rcases bxq (decide (p0.un.1 ≠ p1.un.1)) with hb0 | hb0
  ·
   rw [hb0] at F
   refine vl tk 23 F W fun a w F W => ?_
   refine Ad ?_
   exact ⟨F.re ⟨rfl, Aa, Aa, (DX (by try rw [hb0]; all_goals simp only [DW])), trivial⟩, W⟩
  rw [hb0] at F
  refine Hw tk 7 [1, 0] F W (ai (ai fun a w F W => ?_))
  rcases bxq (decide (p0.un.2.1 ≠ p1.un.2.1)) with hb1 | hb1
  ·
   rw [hb1] at F
   refine vl tk 16 F W fun a w F W => ?_
   refine Ad ?_
   exact ⟨F.re ⟨rfl, Aa, Aa, (DX (by try rw [hb1]; try rw [hb0]; all_goals simp only [DW])), trivial⟩, W⟩
  rw [hb1] at F
  refine Hw tk 7 [1, 0] F W (ai (ai fun a w F W => ?_))
  rcases bxq (decide (p0.un.2.2.1 ≠ p1.un.2.2.1)) with hb2 | hb2
  ·
   rw [hb2] at F
   refine vl tk 9 F W fun a w F W => ?_
   refine Ad ?_
   exact ⟨F.re ⟨rfl, Aa, Aa, (DX (by try rw [hb2]; try rw [hb1]; try rw [hb0]; all_goals simp only [DW])), trivial⟩, W⟩
  rw [hb2] at F
  refine Hw tk 2 [1] F W (ai fun a w F W => ?_)
  refine Hu F W (Ac F Aa Aa Aa Aa) Aa (Ao Aa) (C2 (r := DT) (l := p0.un.2.2.2) Rt Aa F Aa (Ak Da h1 (Ah h_v1))).q fun a w F W => ?_
  refine Hw tk 2 [0] F W (ai fun a w F W => ?_)
  refine Hu F W (Ac F Aa Aa Aa Aa) Aa (Ao Aa) (C2 (r := DT) (l := p1.un.2.2.2) Rt Aa F Aa (Ak Da h2 (Ah h_v2))).q fun a w F W => ?_
  refine vl tk 3 F W fun a w F W => ?_
  refine Ad ?_
  exact ⟨F.re ⟨rfl, Aa, Aa, (DX (by try rw [hb2]; try rw [hb1]; try rw [hb0]; all_goals simp only [DW])), trivial⟩, W⟩
 rintro a w ⟨F, W⟩
 refine CK F Aa H (fun F H => ?_) fun F H => ?_
 ·
  refine vc tk 5 F W fun a w F W => ?_
  refine Am (Az ?_)
  have H := AC H
  subst H
  refine Ax (.inl Aa) F W Aa (Ap F Aa) ?_
  exact ⟨rfl, W.done⟩
 refine Bc (Ad ?_)
 obtain ⟨o1, G1, K1, L1⟩ := RM H
 refine AA (fun a w => some (Sum.inl ()) = some o1 ∧ Fr 53 [] [(4, .bool false)] a ∧ Stw ⟨Y, [], w0⟩ (UM b2 p1 v2 b1 p0 v1) [] w) ?_ ?_
 ·
  have H := G1
  refine vc tk 6 F W fun a w F W => ?_
  have W := W.frontM (i := 1) Aa Aa
  have W := W.frontM (i := 1) Aa Aa
  refine BN H (fun s a w => Fr 53 [] [(2, .pointer (some ⟨b1, 0, none⟩)), (3, .pointer (some ⟨b2, 0, none⟩)), (4, .bool false), (5, .int .i64 s)] a ∧ Stw ⟨Y, [], w0⟩ (UM b2 p1 v2 b1 p0 v1) [] w) ⟨F.ra Aa, W⟩ fun s o a w H L2 hR => ?_
  obtain ⟨x1, rfl⟩ : ∃ x, x = s := ⟨s, rfl⟩
  obtain ⟨F, W⟩ := hR
  have F : Fr 53 [] [(2, .pointer (some ⟨b1, 0, none⟩)), (3, .pointer (some ⟨b2, 0, none⟩)), (4, .bool false), (5, .int .i64 x1)] a := F
  have W : Stw ⟨Y, [], w0⟩ (UM b2 p1 v2 b1 p0 v1) [] w := W
  rw [Ho] at H
  refine FR tk 6 [1] F W (ai fun a w F W => ?_)
  refine ls F W Aa (C2 (r := DT) (l := p0.un.2.2.2) Rt Aa F Aa (Ak Da h1 (Ah h_v1))).q fun a w F W => ?_
  refine Cv tk 3 F W fun a w F W => ?_
  refine BU F Aa H (fun F H => ?_) fun F H => ?_
  ·
   refine Gp tk 5 F W fun a w F W => ?_
   refine CH W MO (by kernel_rfl) ?_
   refine qs F Aa (As NV Aa Aa Aa Uz F Aa 3 Aa).q fun a F => ?_
   refine qs F Aa (Bu (v := v1) 1 F Aa Aa Uz Aa).q fun a F => ?_
   refine qs F Aa (Aq F Aa).q fun a F => ?_
   obtain ⟨x2, h3, H⟩ := Ag H
   obtain ⟨v5, h4, h5⟩ := DQ h1 h3
   have h6 : LY v5 = [.int .i64 x2.un.1, .int .i64 x2.un.2.1, .int .i64 x2.un.2.2.1, (v5.2.2.2.1)] := congrArg (fun q : Tr24 => ([.int .i64 q.un.1, .int .i64 q.un.2.1, .int .i64 q.un.2.2.1, (v5.2.2.2.1)] : List Value)) h5
   refine qs F Aa (Aw (r := M0) UE F Aa Aa (Ah h_v1) h4).q fun a F => ?_
   refine qs F Aa (An (y := Value.agg #[.int .i64 x2.un.1, .int .i64 x2.un.2.1, .int .i64 x2.un.2.2.1, (v5.2.2.2.1)]) (j := 0) (i := x1) (enc := LY) F Aa Aa (Ah h_v1) h4 Sc RY (by rw [h6]; rfl)).q fun a F => ?_
   refine qs F Aa (As NV Aa Aa Aa Uz F Aa 3 Aa).q fun a F => ?_
   refine qs F Aa (Bu (v := v2) 0 F Aa Aa Uz Aa).q fun a F => ?_
   refine qs F Aa (Aq F Aa).q fun a F => ?_
   obtain ⟨x3, h7, H⟩ := Ag H
   obtain ⟨v6, h8, h9⟩ := DQ h2 h7
   have h10 : LY v6 = [.int .i64 x3.un.1, .int .i64 x3.un.2.1, .int .i64 x3.un.2.2.1, (v6.2.2.2.1)] := congrArg (fun q : Tr24 => ([.int .i64 q.un.1, .int .i64 q.un.2.1, .int .i64 q.un.2.2.1, (v6.2.2.2.1)] : List Value)) h9
   refine qs F Aa (Aw (r := M0) UE F Aa Aa (Ah h_v2) h8).q fun a F => ?_
   refine qs F Aa (An (y := Value.agg #[.int .i64 x3.un.1, .int .i64 x3.un.2.1, .int .i64 x3.un.2.2.1, (v6.2.2.2.1)]) (j := 0) (i := x1) (enc := LY) F Aa Aa (Ah h_v2) h8 Sc RY (by rw [h10]; rfl)).q fun a F => ?_
   obtain ⟨x4, h11, H⟩ := Ag H
   refine qs F Aa (AL (v := Value.bool x4) F YQ Aa (fun w W => ih any w ((v5.2.2.2.1)) ((v6.2.2.2.1)) x2 x3 _ h11 (Er (Br (Ah h_v1) h4 (Ai.snd (Ai.snd (Ai.snd Ai.here))) (congrArg (fun q : Tr24 => q.un.2.2.2) h5)) W) (Er (Br (Ah h_v2) h8 (Ai.snd (Ai.snd (Ai.snd Ai.here))) (congrArg (fun q : Tr24 => q.un.2.2.2) h9)) W))) fun a F => ?_
   refine qs F Aa (Kx F Aa).q fun a F => ?_
   refine AO fun w W => ?_
   refine Ad ?_
   refine CK F Aa H (fun F H => ?_) fun F H => ?_
   ·
    refine vc tk 5 F W fun a w F W => ?_
    refine Am (AH ?_)
    iterate 2 refine Az ?_
    refine AH (Az ?_)
    have H := L2 _ H
    have H := L1 _ H
    have H := AC H
    subst H
    refine Ax (.inl Aa) F W Aa (Ap F Aa) ?_
    exact ⟨rfl, W.done⟩
   refine Bc (AM ?_)
   refine vn tk 5 F W fun a w F W => ?_
   refine Ad ?_
   have W := W.frontM (i := 1) Aa Aa
   have W := W.frontM (i := 1) Aa Aa
   exact ⟨_, H, F.ra Aa, W⟩
  refine BB ?_
  iterate 2 refine BR ?_
  refine Bx (Ad ?_)
  have W := W.frontM (i := 1) Aa Aa
  have W := W.frontM (i := 1) Aa Aa
  have H := L2 _ H
  exact ⟨H, F.ra Aa, W⟩
 rintro a w ⟨hj, F, W⟩
 have H := K1 _ hj
 refine vc tk 5 F W fun a w F W => ?_
 refine Am ?_
 have H := AC H
 subst H
 refine Ax (.inl Aa) F W Aa (Ap F Aa) ?_
 exact ⟨rfl, W.done⟩
theorem Rh : ∀ (n : Nat) (Y : Nat → Prop) (w0 : World) (v1 : Value) (v2 : Value) (p0 : Tr24) (p1 : Tr24) (r : Bool) (H : FM n p0 p1 = some r) (h_v1 : Sl w0 (NX []) DT v1 p0.un.2.2.2) (h_v2 : Sl w0 (NX []) DT v2 p1.un.2.2.2), Calls Tryz.prog 38 #[.agg #[.int .i64 p0.un.1, .int .i64 p0.un.2.1, .int .i64 p0.un.2.2.1, v1], .agg #[.int .i64 p1.un.1, .int .i64 p1.un.2.1, .int .i64 p1.un.2.2.1, v2]] w0 fun e w' => e = .returned (.bool r) ∧ Below w0.heap.size w0 w' := by
  intro n
  induction n with
  | zero => intro Y w0 v1 v2 p0 p1 r H; exact nomatch H
  | succ n ih => intro Y w0 v1 v2 p0 p1 r H h_v1 h_v2; exact Qz (FM n) ih Y w0 v1 v2 p0 p1 r H h_v1 h_v2
theorem Sh (Y : Nat → Prop) (w0 : World) (v1 : Value) (v2 : Value) (p0 : Tr24) (p1 : Tr24) (r : Bool) (H : KG p0 p1 = some r) (h_v1 : Sl w0 (NX []) DT v1 p0.un.2.2.2) (h_v2 : Sl w0 (NX []) DT v2 p1.un.2.2.2) :
    Calls Tryz.prog 38 #[.agg #[.int .i64 p0.un.1, .int .i64 p0.un.2.1, .int .i64 p0.un.2.2.1, v1], .agg #[.int .i64 p1.un.1, .int .i64 p1.un.2.1, .int .i64 p1.un.2.2.1, v2]] w0 fun e w' => e = .returned (.bool r) ∧ Below w0.heap.size w0 w' := by
  obtain ⟨n, H⟩ := CZ H
  exact Rh n Y w0 v1 v2 p0 p1 r H h_v1 h_v2
theorem SR : type_of% Tryz.underlying25 := Tryz.underlying25
theorem Mr : type_of% Tryz.underlying27 := Tryz.underlying27
abbrev MX (a : Int × (Int × Int × Int × (Value × List Tr24)) × Int × Int × (Value × List Tr27)) : List Value := [.int .i64 a.1, .int .i64 a.2.1.1, .int .i64 a.2.1.2.1, .int .i64 a.2.1.2.2.1, a.2.1.2.2.2.1, .int .i64 a.2.2.1, .int .i64 a.2.2.2.1, a.2.2.2.2.1]
theorem Tf : Fj P1 MX := (Fj.pair Fl.int.to (Fj.pair (Fj.pair Fl.int.to (Fj.pair Fl.int.to (Fj.pair Fl.int.to Fj.vsl))) (Fj.pair Fl.int.to (Fj.pair Fl.int.to Fj.vsl))))
theorem U8 : Et Tryz.prog 25 27 8 96 := Et.of SR (by kernel_rfl) (by kernel_rfl) (by kernel_rfl) (by decide)
theorem YV : Has Tryz.prog 32 := CP Tryz.func32
abbrev Av (a0 : Tr27) (a1 : Value) (a2 : Value) : List Value := [.int .i64 a0.un.1, .int .i64 a0.un.2.1.un.1, .int .i64 a0.un.2.1.un.2.1, .int .i64 a0.un.2.1.un.2.2.1, a1, .int .i64 a0.un.2.2.1, .int .i64 a0.un.2.2.2.1, a2]
abbrev HT (a0 : Nat) (a1 : Tr27) (a2 : Value) (a3 : Value) : List (Nat × List Value) := [(a0, [.int .i64 a1.un.1, .int .i64 a1.un.2.1.un.1, .int .i64 a1.un.2.1.un.2.1, .int .i64 a1.un.2.1.un.2.2.1, a2, .int .i64 a1.un.2.2.1, .int .i64 a1.un.2.2.2.1, a3])]
def ER (fRec : Tr27 → Option Bool) (p0 : Tr27) : Int → Option (Int ⊕ (Unit ⊕ Bool))
  | x4 => (if x4 < (p0.un.2.2.2.2.length : Int) then (ix p0.un.2.2.2.2 x4).bind fun x5 => (fRec (Tr27.of (x5.un.1, Tr24.of (x5.un.2.1.un.1, x5.un.2.1.un.2.1, x5.un.2.1.un.2.2.1, x5.un.2.1.un.2.2.2), x5.un.2.2.1, x5.un.2.2.2.1, x5.un.2.2.2.2))).bind fun x6 => (if (!x6) = true then some (.inr (.inr false)) else some (.inl (AU (x4 + 1)))) else some (.inr (.inl ())))
def Fo (fRec : Tr27 → Option Bool) (p0 : Tr27) : Option Bool := (if (decide (p0.un.1 < 1) || (decide (5 < p0.un.1) || (decide (p0.un.1 ≠ 2) && (decide (p0.un.2.2.1 ≠ 0) || decide (p0.un.2.2.2.1 ≠ 0))))) = true then some false else (if (decide (p0.un.1 = 1) || decide (p0.un.1 = 5)) = true then (HQ (Tr24.of (p0.un.2.1.un.1, p0.un.2.1.un.2.1, p0.un.2.1.un.2.2.1, p0.un.2.1.un.2.2.2))).bind fun x2 => (if (!x2) = true then some true else some false) else (KG (Tr24.of (p0.un.2.1.un.1, p0.un.2.1.un.2.1, p0.un.2.1.un.2.2.1, p0.un.2.1.un.2.2.2)) (Tr24.of (0, 0, 0, ([] : List Tr24)))).bind fun x3 => some (!x3)).bind fun x1 => (if x1 = true then some false else (if (decide (p0.un.1 = 2) && (decide (p0.un.2.2.1 < 0) || (decide (4 < p0.un.2.2.1) || (decide (p0.un.2.2.2.1 < 0) || decide ((EY p0.un.2.2.1) < p0.un.2.2.2.1))))) = true then some false else (if (bif decide (p0.un.1 ≤ 2) then (decide ((p0.un.2.2.2.2.length : Int) ≠ 0) || (bif decide (p0.un.1 = 5) then (decide ((p0.un.2.2.2.2.length : Int) ≠ 2) || (bif decide (p0.un.1 = 3) then (decide ((p0.un.2.2.2.2.length : Int) < 2) || decide (8 < (p0.un.2.2.2.2.length : Int))) else (decide (p0.un.1 = 4) && (decide ((p0.un.2.2.2.2.length : Int) < 2) || decide (8 < (p0.un.2.2.2.2.length : Int)))))) else (bif decide (p0.un.1 = 3) then (decide ((p0.un.2.2.2.2.length : Int) < 2) || decide (8 < (p0.un.2.2.2.2.length : Int))) else (decide (p0.un.1 = 4) && (decide ((p0.un.2.2.2.2.length : Int) < 2) || decide (8 < (p0.un.2.2.2.2.length : Int))))))) else (bif decide (p0.un.1 = 5) then (decide ((p0.un.2.2.2.2.length : Int) ≠ 2) || (bif decide (p0.un.1 = 3) then (decide ((p0.un.2.2.2.2.length : Int) < 2) || decide (8 < (p0.un.2.2.2.2.length : Int))) else (decide (p0.un.1 = 4) && (decide ((p0.un.2.2.2.2.length : Int) < 2) || decide (8 < (p0.un.2.2.2.2.length : Int)))))) else (bif decide (p0.un.1 = 3) then (decide ((p0.un.2.2.2.2.length : Int) < 2) || decide (8 < (p0.un.2.2.2.2.length : Int))) else (decide (p0.un.1 = 4) && (decide ((p0.un.2.2.2.2.length : Int) < 2) || decide (8 < (p0.un.2.2.2.2.length : Int))))))) = true then some false else Ku (Ba (ER fRec p0) 0) fun _ => some true))))
def El : Nat → Tr27 → Option Bool
  | 0 => fun _ => none
  | n + 1 => Fo (El n)
def Ob (p0 : Tr27) : Option Bool := HC fun n => El n p0
theorem Qc (fRec : Tr27 → Option Bool) (ih : ∀ (Y : Nat → Prop) (w0 : World) (v1 : Value) (v2 : Value) (p0 : Tr27) (r : Bool) (H : fRec p0 = some r) (h_v1 : Sl w0 (NX []) DT v1 p0.un.2.1.un.2.2.2) (h_v2 : Sl w0 (NX []) Hx v2 p0.un.2.2.2.2), Calls Tryz.prog 32 #[.agg #[.int .i64 p0.un.1, .int .i64 p0.un.2.1.un.1, .int .i64 p0.un.2.1.un.2.1, .int .i64 p0.un.2.1.un.2.2.1, v1, .int .i64 p0.un.2.2.1, .int .i64 p0.un.2.2.2.1, v2]] w0 fun e w' => e = .returned (.bool r) ∧ Below w0.heap.size w0 w') (Y : Nat → Prop) (w0 : World) (v1 : Value) (v2 : Value) (p0 : Tr27) (r : Bool) (H : Fo fRec p0 = some r) (h_v1 : Sl w0 (NX []) DT v1 p0.un.2.1.un.2.2.2) (h_v2 : Sl w0 (NX []) Hx v2 p0.un.2.2.2.2) :
    Calls Tryz.prog 32 #[.agg #[.int .i64 p0.un.1, .int .i64 p0.un.2.1.un.1, .int .i64 p0.un.2.1.un.2.1, .int .i64 p0.un.2.1.un.2.2.1, v1, .int .i64 p0.un.2.2.1, .int .i64 p0.un.2.2.2.1, v2]] w0 fun e w' => e = .returned (.bool r) ∧ Below w0.heap.size w0 w' := by
 refine enter Tryz.func32 Aa Tryz.ntmps32 Aa fun a F => ?_
 have W := Stw.start Y w0
 obtain ⟨v3, h1, h_v1⟩ := h_v1.ex Da
 obtain ⟨v4, h2, h_v2⟩ := h_v2.ex Ej
 unfold Fo at H
 refine vc tk 2 F W fun a w F W => ?_
 refine CX (cs := (Av p0 v1 v2)) F W Aa Aa Aa fun b1 a w F W => ?_
 refine Gz tk 7 [0] F W (ai fun a w F W => ?_)
 refine ls F W Aa (C2 (r := Hx) (l := p0.un.2.2.2.2) SR Aa F Aa (Ak Ej h2 (Ah h_v2))).q fun a w F W => ?_
 refine Cv tk 4 F W fun a w F W => ?_
 refine AA (fun a w => Fr 130 [] [(1, .pointer (some ⟨b1, 0, none⟩)), (2, .bool false), (3, .int .i64 (p0.un.2.2.2.2.length : Int)), (31, .bool (decide (p0.un.1 < 1) || (decide (5 < p0.un.1) || (decide (p0.un.1 ≠ 2) && (decide (p0.un.2.2.1 ≠ 0) || decide (p0.un.2.2.2.1 ≠ 0))))))] a ∧ Stw ⟨Y, [], w0⟩ (HT b1 p0 v1 v2) [] w) ?_ ?_
 ·
  refine FR tk 5 [0] F W (ai fun a w F W => ?_)
  rcases bxq (decide (p0.un.1 < 1)) with hb0 | hb0
  ·
   rw [hb0] at F
   refine vl tk 20 F W fun a w F W => ?_
   refine Ad ?_
   exact ⟨F.re ⟨rfl, Aa, Aa, (DX (by try rw [hb0]; all_goals simp only [DW])), trivial⟩, W⟩
  rw [hb0] at F
  refine Hw tk 5 [0] F W (ai fun a w F W => ?_)
  rcases bxq (decide (5 < p0.un.1)) with hb1 | hb1
  ·
   rw [hb1] at F
   refine vl tk 15 F W fun a w F W => ?_
   refine Ad ?_
   exact ⟨F.re ⟨rfl, Aa, Aa, (DX (by try rw [hb0]; try rw [hb1]; all_goals simp only [DW])), trivial⟩, W⟩
  rw [hb1] at F
  refine Hw tk 4 [0] F W (ai fun a w F W => ?_)
  rcases bxq (decide (p0.un.1 ≠ 2)) with hb2 | hb2
  ·
   rw [hb2] at F
   refine Hw tk 4 [0] F W (ai fun a w F W => ?_)
   rcases bxq (decide (p0.un.2.2.1 ≠ 0)) with hb3 | hb3
   ·
    rw [hb3] at F
    refine vl tk 7 F W fun a w F W => ?_
    refine Ad ?_
    exact ⟨F.re ⟨rfl, Aa, Aa, (DX (by try rw [hb3]; try rw [hb0]; try rw [hb1]; try rw [hb2]; all_goals simp only [DW])), trivial⟩, W⟩
   rw [hb3] at F
   refine Hw tk 7 [0] F W (ai fun a w F W => ?_)
   refine Ad ?_
   exact ⟨F.re ⟨rfl, Aa, Aa, (DX (by try rw [hb3]; try rw [hb0]; try rw [hb1]; try rw [hb2]; all_goals simp only [DW])), trivial⟩, W⟩
  rw [hb2] at F
  refine vl tk 11 F W fun a w F W => ?_
  refine Ad ?_
  exact ⟨F.re ⟨rfl, Aa, Aa, (DX (by try rw [hb0]; try rw [hb1]; try rw [hb2]; all_goals simp only [DW])), trivial⟩, W⟩
 rintro a w ⟨F, W⟩
 refine CK F Aa H (fun F H => ?_) fun F H => ?_
 ·
  refine vc tk 5 F W fun a w F W => ?_
  refine Am (Az ?_)
  have H := AC H
  subst H
  refine Ax (.inl Aa) F W Aa (Ap F Aa) ?_
  exact ⟨rfl, W.done⟩
 refine Gp tk 2 F W fun a w F W => ?_
 refine AA (fun a w => Fr 130 [] [(1, .pointer (some ⟨b1, 0, none⟩)), (2, .bool false), (3, .int .i64 (p0.un.2.2.2.2.length : Int)), (4, .bool (decide (p0.un.1 = 1) || decide (p0.un.1 = 5)))] a ∧ Stw ⟨Y, [], w0⟩ (HT b1 p0 v1 v2) [] w) ?_ ?_
 ·
  refine FR tk 5 [0] F W (ai fun a w F W => ?_)
  rcases bxq (decide (p0.un.1 = 1)) with hb0 | hb0
  ·
   rw [hb0] at F
   refine vl tk 6 F W fun a w F W => ?_
   refine Ad ?_
   exact ⟨F.re ⟨rfl, Aa, Aa, (DX (by try rw [hb0]; all_goals simp only [DW])), trivial⟩, W⟩
  rw [hb0] at F
  refine Hw tk 6 [0] F W (ai fun a w F W => ?_)
  refine Ad ?_
  exact ⟨F.re ⟨rfl, Aa, Aa, (DX (by try rw [hb0]; all_goals simp only [DW])), trivial⟩, W⟩
 rintro a w ⟨F, W⟩
 refine GK ?_
 obtain ⟨o1, G1, K1⟩ := Ag H
 refine AA (fun a w => ∃ x1 : Bool, some (x1) = some o1 ∧ Fr 130 [] [(1, .pointer (some ⟨b1, 0, none⟩)), (2, .bool false), (3, .int .i64 (p0.un.2.2.2.2.length : Int)), (57, .bool x1)] a ∧ Stw ⟨Y, [], w0⟩ (HT b1 p0 v1 v2) [] w) ?_ ?_
 ·
  have H := G1
  refine vc tk 3 F W fun a w F W => ?_
  rcases bxq (decide (p0.un.1 = 1) || decide (p0.un.1 = 5)) with hb | hb
  ·
   have H := Cg hb H
   rw [hb] at F
   refine Hw tk 2 [0] F W (ai fun a w F W => ?_)
   refine Iq (Ac F Aa Aa Aa Aa) ?_
   obtain ⟨x2, h3, H⟩ := Ag H
   refine ls F W Aa (AL (v := Value.bool x2) F YN Aa (fun w W => Nz any w (v1) (Tr24.of (p0.un.2.1.un.1, p0.un.2.1.un.2.1, p0.un.2.1.un.2.2.1, p0.un.2.1.un.2.2.2)) _ h3 (Er (Ak Da h1 (Ah h_v1)) W))) fun a w F W => ?_
   refine vl tk 3 F W fun a w F W => ?_
   rcases bxq (!x2) with hb | hb
   ·
    have H := Cg hb H
    rw [hb] at F
    refine vl tk 11 F W fun a w F W => ?_
    refine Ad ?_
    exact ⟨_, H, F.ra Aa, W⟩
   have H := Cf (by rw [hb]; decide) H
   rw [hb] at F
   refine vl tk 11 F W fun a w F W => ?_
   refine Ad ?_
   exact ⟨_, H, F.ra Aa, W⟩
  have H := Cf (by rw [hb]; decide) H
  rw [hb] at F
  refine Hw tk 11 [0] F W (ai fun a w F W => ?_)
  refine Hu F W (Ac F Aa Aa Aa Aa) Aa (Ao Aa) (CM (v := Value.agg #[.int .i64 0, .int .i64 0, .int .i64 0, .slice none 0 0]) YU F Aa Aa Aa).q fun a w F W => ?_
  refine Iq (Ac F Aa Aa Aa Aa) ?_
  obtain ⟨x3, h4, H⟩ := Ag H
  refine ls F W Aa (AL (v := Value.bool x3) F YQ Aa (fun w W => Sh any w (v1) (Value.slice none 0 0) (Tr24.of (p0.un.2.1.un.1, p0.un.2.1.un.2.1, p0.un.2.1.un.2.2.1, p0.un.2.1.un.2.2.2)) (Tr24.of (0, 0, 0, ([] : List Tr24))) _ h4 (Er (Ak Da h1 (Ah h_v1)) W) Sl.nil)) fun a w F W => ?_
  refine vl tk 4 F W fun a w F W => ?_
  refine Ad ?_
  exact ⟨_, H, F.ra Aa, W⟩
 rintro a w ⟨x1, hj, F, W⟩
 have hj := AC hj
 subst hj
 have H := K1
 refine CK F Aa H (fun F H => ?_) fun F H => ?_
 ·
  refine vc tk 5 F W fun a w F W => ?_
  refine Am (Az ?_)
  have H := AC H
  subst H
  refine Ax (.inl Aa) F W Aa (Ap F Aa) ?_
  exact ⟨rfl, W.done⟩
 refine Gp tk 3 F W fun a w F W => ?_
 refine AA (fun a w => Fr 130 [] [(1, .pointer (some ⟨b1, 0, none⟩)), (2, .bool false), (3, .int .i64 (p0.un.2.2.2.2.length : Int)), (83, .bool (decide (p0.un.1 = 2) && (decide (p0.un.2.2.1 < 0) || (decide (4 < p0.un.2.2.1) || (decide (p0.un.2.2.2.1 < 0) || decide ((EY p0.un.2.2.1) < p0.un.2.2.2.1))))))] a ∧ Stw ⟨Y, [], w0⟩ (HT b1 p0 v1 v2) [] w) ?_ ?_
 ·
  refine CH W MO (by kernel_rfl) ?_
  refine qs F Aa (As Mr Aa Aa Aa T3 F Aa 0 Aa).q fun a F => ?_
  refine qs F Aa (Bu (v := Value.int .i64 p0.un.1) 0 F Aa Aa T3 Aa).q fun a F => ?_
  refine qs F Aa (PO F Aa Aa).q fun a F => ?_
  refine qs F Aa (Aq F Aa).q fun a F => ?_
  rcases bxq (decide (p0.un.1 = 2)) with hb0 | hb0
  ·
   rw [hb0] at F
   refine AP F (Ac F Aa Aa Aa Aa) Aa (Ao Aa) (As Mr Aa Aa Aa T3 F Aa 5 Aa).q fun a F => ?_
   refine AP F (Ac F Aa Aa Aa Aa) Aa (Ao Aa) (Bu (v := Value.int .i64 p0.un.2.2.1) 0 F Aa Aa T3 Aa).q fun a F => ?_
   refine AP F (Ac F Aa Aa Aa Aa) Aa (Ao Aa) (GY F Aa Aa).q fun a F => ?_
   refine AP F (Ac F Aa Aa Aa Aa) Aa (Ao Aa) (Aq F Aa).q fun a F => ?_
   rcases bxq (decide (p0.un.2.2.1 < 0)) with hb1 | hb1
   ·
    rw [hb1] at F
    iterate 3 refine Bp F (Be F Aa Aa Aa Aa Aa) Aa Aa fun a F => ?_
    refine AP F (Ac F Aa Aa Aa Aa) Aa (Ao Aa) (BI F Aa Aa Aa).q fun a F => ?_
    refine AP F (Ac F Aa Aa Aa Aa) Aa (Ao Aa) (Aq F Aa).q fun a F => ?_
    iterate 3 refine Bp F (Be F Aa Aa Aa Aa Aa) Aa Aa fun a F => ?_
    refine AP F (Ac F Aa Aa Aa Aa) Aa (Ao Aa) (BI F Aa Aa Aa).q fun a F => ?_
    refine AP F (Ac F Aa Aa Aa Aa) Aa (Ao Aa) (Aq F Aa).q fun a F => ?_
    iterate 6 refine Bp F (Be F Aa Aa Aa Aa Aa) Aa Aa fun a F => ?_
    refine AP F (Ac F Aa Aa Aa Aa) Aa (Ao Aa) (BI F Aa Aa Aa).q fun a F => ?_
    refine qs F Aa (BI F Aa Aa Aa).q fun a F => ?_
    refine AO fun w W => ?_
    refine Ad ?_
    exact ⟨F.re ⟨rfl, Aa, Aa, (DX (by try rw [hb1]; try rw [hb0]; all_goals simp only [DW])), trivial⟩, W⟩
   rw [hb1] at F
   refine AP F (Ac F Aa Aa Aa Aa) Aa (Ao Aa) (As Mr Aa Aa Aa T3 F Aa 5 Aa).q fun a F => ?_
   refine AP F (Ac F Aa Aa Aa Aa) Aa (Ao Aa) (Bu (v := Value.int .i64 p0.un.2.2.1) 0 F Aa Aa T3 Aa).q fun a F => ?_
   refine AP F (Ac F Aa Aa Aa Aa) Aa (Ao Aa) (Nx F Aa Aa).q fun a F => ?_
   refine AP F (Ac F Aa Aa Aa Aa) Aa (Ao Aa) (BA F Aa Aa Aa).q fun a F => ?_
   refine AP F (Ac F Aa Aa Aa Aa) Aa (Ao Aa) (Aq F Aa).q fun a F => ?_
   rcases bxq (decide (4 < p0.un.2.2.1)) with hb2 | hb2
   ·
    rw [hb2] at F
    iterate 3 refine Bp F (Be F Aa Aa Aa Aa Aa) Aa Aa fun a F => ?_
    refine AP F (Ac F Aa Aa Aa Aa) Aa (Ao Aa) (BI F Aa Aa Aa).q fun a F => ?_
    refine AP F (Ac F Aa Aa Aa Aa) Aa (Ao Aa) (Aq F Aa).q fun a F => ?_
    iterate 6 refine Bp F (Be F Aa Aa Aa Aa Aa) Aa Aa fun a F => ?_
    refine AP F (Ac F Aa Aa Aa Aa) Aa (Ao Aa) (BI F Aa Aa Aa).q fun a F => ?_
    refine qs F Aa (BI F Aa Aa Aa).q fun a F => ?_
    refine AO fun w W => ?_
    refine Ad ?_
    exact ⟨F.re ⟨rfl, Aa, Aa, (DX (by try rw [hb1]; try rw [hb2]; try rw [hb0]; all_goals simp only [DW])), trivial⟩, W⟩
   rw [hb2] at F
   refine AP F (Ac F Aa Aa Aa Aa) Aa (Ao Aa) (As Mr Aa Aa Aa T3 F Aa 6 Aa).q fun a F => ?_
   refine AP F (Ac F Aa Aa Aa Aa) Aa (Ao Aa) (Bu (v := Value.int .i64 p0.un.2.2.2.1) 0 F Aa Aa T3 Aa).q fun a F => ?_
   refine AP F (Ac F Aa Aa Aa Aa) Aa (Ao Aa) (GY F Aa Aa).q fun a F => ?_
   refine AP F (Ac F Aa Aa Aa Aa) Aa (Ao Aa) (BA F Aa Aa Aa).q fun a F => ?_
   refine AP F (Ac F Aa Aa Aa Aa) Aa (Ao Aa) (Aq F Aa).q fun a F => ?_
   rcases bxq (decide (p0.un.2.2.2.1 < 0)) with hb3 | hb3
   ·
    rw [hb3] at F
    iterate 6 refine Bp F (Be F Aa Aa Aa Aa Aa) Aa Aa fun a F => ?_
    refine AP F (Ac F Aa Aa Aa Aa) Aa (Ao Aa) (BI F Aa Aa Aa).q fun a F => ?_
    refine qs F Aa (BI F Aa Aa Aa).q fun a F => ?_
    refine AO fun w W => ?_
    refine Ad ?_
    exact ⟨F.re ⟨rfl, Aa, Aa, (DX (by try rw [hb3]; try rw [hb1]; try rw [hb2]; try rw [hb0]; all_goals simp only [DW])), trivial⟩, W⟩
   rw [hb3] at F
   refine AP F (Ac F Aa Aa Aa Aa) Aa (Ao Aa) (As Mr Aa Aa Aa T3 F Aa 6 Aa).q fun a F => ?_
   refine AP F (Ac F Aa Aa Aa Aa) Aa (Ao Aa) (Bu (v := Value.int .i64 p0.un.2.2.2.1) 0 F Aa Aa T3 Aa).q fun a F => ?_
   refine AP F (Ac F Aa Aa Aa Aa) Aa (Ao Aa) (As Mr Aa Aa Aa T3 F Aa 5 Aa).q fun a F => ?_
   refine AP F (Ac F Aa Aa Aa Aa) Aa (Ao Aa) (Bu (v := Value.int .i64 p0.un.2.2.1) 0 F Aa Aa T3 Aa).q fun a F => ?_
   refine AP F (Ac F Aa Aa Aa Aa) Aa (Ao Aa) (AL (v := Value.int .i64 (EY p0.un.2.2.1)) F Yy Aa (fun w W => PS any w p0.un.2.2.1 _ Aa)) fun a F => ?_
   refine AP F (Ac F Aa Aa Aa Aa) Aa (Ao Aa) (Nx F Aa Aa).q fun a F => ?_
   refine AP F (Ac F Aa Aa Aa Aa) Aa (Ao Aa) (BA F Aa Aa Aa).q fun a F => ?_
   refine qs F Aa (BI F Aa Aa Aa).q fun a F => ?_
   refine AO fun w W => ?_
   refine Ad ?_
   exact ⟨F.re ⟨rfl, Aa, Aa, (DX (by try rw [hb3]; try rw [hb1]; try rw [hb2]; try rw [hb0]; all_goals simp only [DW])), trivial⟩, W⟩
  rw [hb0] at F
  iterate 4 refine Bp F (Be F Aa Aa Aa Aa Aa) Aa Aa fun a F => ?_
  iterate 3 refine Bp F (FQ F Aa Aa Aa Aa) Aa Aa fun a F => ?_
  iterate 2 refine Bp F (Be F Aa Aa Aa Aa Aa) Aa Aa fun a F => ?_
  iterate 3 refine Bp F (FQ F Aa Aa Aa Aa) Aa Aa fun a F => ?_
  iterate 2 refine Bp F (Be F Aa Aa Aa Aa Aa) Aa Aa fun a F => ?_
  iterate 6 refine Bp F (FQ F Aa Aa Aa Aa) Aa Aa fun a F => ?_
  refine Bp F (Be F Aa Aa Aa Aa Aa) Aa Aa fun a F => ?_
  refine qs F Aa (BA F Aa Aa Aa).q fun a F => ?_
  refine AO fun w W => ?_
  refine Ad ?_
  exact ⟨F.re ⟨rfl, Aa, Aa, (DX (by try rw [hb0]; all_goals simp only [DW])), trivial⟩, W⟩
 rintro a w ⟨F, W⟩
 refine CK F Aa H (fun F H => ?_) fun F H => ?_
 ·
  refine vc tk 5 F W fun a w F W => ?_
  refine Am (Az ?_)
  have H := AC H
  subst H
  refine Ax (.inl Aa) F W Aa (Ap F Aa) ?_
  exact ⟨rfl, W.done⟩
 refine Gp tk 3 F W fun a w F W => ?_
 refine AA (fun a w => Fr 130 [] [(1, .pointer (some ⟨b1, 0, none⟩)), (2, .bool false), (3, .int .i64 (p0.un.2.2.2.2.length : Int)), (117, .bool (bif decide (p0.un.1 ≤ 2) then (decide ((p0.un.2.2.2.2.length : Int) ≠ 0) || (bif decide (p0.un.1 = 5) then (decide ((p0.un.2.2.2.2.length : Int) ≠ 2) || (bif decide (p0.un.1 = 3) then (decide ((p0.un.2.2.2.2.length : Int) < 2) || decide (8 < (p0.un.2.2.2.2.length : Int))) else (decide (p0.un.1 = 4) && (decide ((p0.un.2.2.2.2.length : Int) < 2) || decide (8 < (p0.un.2.2.2.2.length : Int)))))) else (bif decide (p0.un.1 = 3) then (decide ((p0.un.2.2.2.2.length : Int) < 2) || decide (8 < (p0.un.2.2.2.2.length : Int))) else (decide (p0.un.1 = 4) && (decide ((p0.un.2.2.2.2.length : Int) < 2) || decide (8 < (p0.un.2.2.2.2.length : Int))))))) else (bif decide (p0.un.1 = 5) then (decide ((p0.un.2.2.2.2.length : Int) ≠ 2) || (bif decide (p0.un.1 = 3) then (decide ((p0.un.2.2.2.2.length : Int) < 2) || decide (8 < (p0.un.2.2.2.2.length : Int))) else (decide (p0.un.1 = 4) && (decide ((p0.un.2.2.2.2.length : Int) < 2) || decide (8 < (p0.un.2.2.2.2.length : Int)))))) else (bif decide (p0.un.1 = 3) then (decide ((p0.un.2.2.2.2.length : Int) < 2) || decide (8 < (p0.un.2.2.2.2.length : Int))) else (decide (p0.un.1 = 4) && (decide ((p0.un.2.2.2.2.length : Int) < 2) || decide (8 < (p0.un.2.2.2.2.length : Int))))))))] a ∧ Stw ⟨Y, [], w0⟩ (HT b1 p0 v1 v2) [] w) ?_ ?_
 ·
  refine FR tk 5 [0] F W (ai fun a w F W => ?_)
  rcases bxq (decide (p0.un.1 ≤ 2)) with hb0 | hb0
  ·
   rw [hb0] at F
   refine vl tk 4 F W fun a w F W => ?_
   rcases bxq (decide ((p0.un.2.2.2.2.length : Int) ≠ 0)) with hb1 | hb1
   ·
    rw [hb1] at F
    refine vl tk 27 F W fun a w F W => ?_
    refine Ad ?_
    exact ⟨F.re ⟨rfl, Aa, Aa, (DX (by try rw [hb1]; try rw [hb0]; all_goals simp only [DW])), trivial⟩, W⟩
   rw [hb1] at F
   refine Hw tk 4 [0] F W (ai fun a w F W => ?_)
   rcases bxq (decide (p0.un.1 = 5)) with hb2 | hb2
   ·
    rw [hb2] at F
    refine vl tk 5 F W fun a w F W => ?_
    rcases bxq (decide ((p0.un.2.2.2.2.length : Int) ≠ 2)) with hb3 | hb3
    ·
     rw [hb3] at F
     refine vl tk 18 F W fun a w F W => ?_
     refine Ad ?_
     exact ⟨F.re ⟨rfl, Aa, Aa, (DX (by try rw [hb1]; try rw [hb3]; try rw [hb0]; try rw [hb2]; all_goals simp only [DW])), trivial⟩, W⟩
    rw [hb3] at F
    refine Hw tk 4 [0] F W (ai fun a w F W => ?_)
    rcases bxq (decide (p0.un.1 = 3)) with hb4 | hb4
    ·
     rw [hb4] at F
     refine vl tk 8 F W fun a w F W => ?_
     rcases bxq (decide ((p0.un.2.2.2.2.length : Int) < 2)) with hb5 | hb5
     ·
      rw [hb5] at F
      refine vl tk 6 F W fun a w F W => ?_
      refine Ad ?_
      exact ⟨F.re ⟨rfl, Aa, Aa, (DX (by try rw [hb1]; try rw [hb3]; try rw [hb5]; try rw [hb0]; try rw [hb2]; try rw [hb4]; all_goals simp only [DW])), trivial⟩, W⟩
     rw [hb5] at F
     refine vl tk 6 F W fun a w F W => ?_
     refine Ad ?_
     exact ⟨F.re ⟨rfl, Aa, Aa, (DX (by try rw [hb1]; try rw [hb3]; try rw [hb5]; try rw [hb0]; try rw [hb2]; try rw [hb4]; all_goals simp only [DW])), trivial⟩, W⟩
    rw [hb4] at F
    refine Hw tk 5 [0] F W (ai fun a w F W => ?_)
    rcases bxq (decide (p0.un.1 = 4)) with hb5 | hb5
    ·
     rw [hb5] at F
     refine vl tk 3 F W fun a w F W => ?_
     rcases bxq (decide ((p0.un.2.2.2.2.length : Int) < 2)) with hb6 | hb6
     ·
      rw [hb6] at F
      refine vl tk 6 F W fun a w F W => ?_
      refine Ad ?_
      exact ⟨F.re ⟨rfl, Aa, Aa, (DX (by try rw [hb1]; try rw [hb3]; try rw [hb6]; try rw [hb0]; try rw [hb2]; try rw [hb4]; try rw [hb5]; all_goals simp only [DW])), trivial⟩, W⟩
     rw [hb6] at F
     refine vl tk 6 F W fun a w F W => ?_
     refine Ad ?_
     exact ⟨F.re ⟨rfl, Aa, Aa, (DX (by try rw [hb1]; try rw [hb3]; try rw [hb6]; try rw [hb0]; try rw [hb2]; try rw [hb4]; try rw [hb5]; all_goals simp only [DW])), trivial⟩, W⟩
    rw [hb5] at F
    refine vl tk 9 F W fun a w F W => ?_
    refine Ad ?_
    exact ⟨F.re ⟨rfl, Aa, Aa, (DX (by try rw [hb1]; try rw [hb3]; try rw [hb0]; try rw [hb2]; try rw [hb4]; try rw [hb5]; all_goals simp only [DW])), trivial⟩, W⟩
   rw [hb2] at F
   refine Hw tk 9 [0] F W (ai fun a w F W => ?_)
   rcases bxq (decide (p0.un.1 = 3)) with hb3 | hb3
   ·
    rw [hb3] at F
    refine vl tk 8 F W fun a w F W => ?_
    rcases bxq (decide ((p0.un.2.2.2.2.length : Int) < 2)) with hb4 | hb4
    ·
     rw [hb4] at F
     refine vl tk 6 F W fun a w F W => ?_
     refine Ad ?_
     exact ⟨F.re ⟨rfl, Aa, Aa, (DX (by try rw [hb1]; try rw [hb4]; try rw [hb0]; try rw [hb2]; try rw [hb3]; all_goals simp only [DW])), trivial⟩, W⟩
    rw [hb4] at F
    refine vl tk 6 F W fun a w F W => ?_
    refine Ad ?_
    exact ⟨F.re ⟨rfl, Aa, Aa, (DX (by try rw [hb1]; try rw [hb4]; try rw [hb0]; try rw [hb2]; try rw [hb3]; all_goals simp only [DW])), trivial⟩, W⟩
   rw [hb3] at F
   refine Hw tk 5 [0] F W (ai fun a w F W => ?_)
   rcases bxq (decide (p0.un.1 = 4)) with hb4 | hb4
   ·
    rw [hb4] at F
    refine vl tk 3 F W fun a w F W => ?_
    rcases bxq (decide ((p0.un.2.2.2.2.length : Int) < 2)) with hb5 | hb5
    ·
     rw [hb5] at F
     refine vl tk 6 F W fun a w F W => ?_
     refine Ad ?_
     exact ⟨F.re ⟨rfl, Aa, Aa, (DX (by try rw [hb1]; try rw [hb5]; try rw [hb0]; try rw [hb2]; try rw [hb3]; try rw [hb4]; all_goals simp only [DW])), trivial⟩, W⟩
    rw [hb5] at F
    refine vl tk 6 F W fun a w F W => ?_
    refine Ad ?_
    exact ⟨F.re ⟨rfl, Aa, Aa, (DX (by try rw [hb1]; try rw [hb5]; try rw [hb0]; try rw [hb2]; try rw [hb3]; try rw [hb4]; all_goals simp only [DW])), trivial⟩, W⟩
   rw [hb4] at F
   refine vl tk 9 F W fun a w F W => ?_
   refine Ad ?_
   exact ⟨F.re ⟨rfl, Aa, Aa, (DX (by try rw [hb1]; try rw [hb0]; try rw [hb2]; try rw [hb3]; try rw [hb4]; all_goals simp only [DW])), trivial⟩, W⟩
  rw [hb0] at F
  refine Hw tk 8 [0] F W (ai fun a w F W => ?_)
  rcases bxq (decide (p0.un.1 = 5)) with hb1 | hb1
  ·
   rw [hb1] at F
   refine vl tk 5 F W fun a w F W => ?_
   rcases bxq (decide ((p0.un.2.2.2.2.length : Int) ≠ 2)) with hb2 | hb2
   ·
    rw [hb2] at F
    refine vl tk 18 F W fun a w F W => ?_
    refine Ad ?_
    exact ⟨F.re ⟨rfl, Aa, Aa, (DX (by try rw [hb2]; try rw [hb0]; try rw [hb1]; all_goals simp only [DW])), trivial⟩, W⟩
   rw [hb2] at F
   refine Hw tk 4 [0] F W (ai fun a w F W => ?_)
   rcases bxq (decide (p0.un.1 = 3)) with hb3 | hb3
   ·
    rw [hb3] at F
    refine vl tk 8 F W fun a w F W => ?_
    rcases bxq (decide ((p0.un.2.2.2.2.length : Int) < 2)) with hb4 | hb4
    ·
     rw [hb4] at F
     refine vl tk 6 F W fun a w F W => ?_
     refine Ad ?_
     exact ⟨F.re ⟨rfl, Aa, Aa, (DX (by try rw [hb2]; try rw [hb4]; try rw [hb0]; try rw [hb1]; try rw [hb3]; all_goals simp only [DW])), trivial⟩, W⟩
    rw [hb4] at F
    refine vl tk 6 F W fun a w F W => ?_
    refine Ad ?_
    exact ⟨F.re ⟨rfl, Aa, Aa, (DX (by try rw [hb2]; try rw [hb4]; try rw [hb0]; try rw [hb1]; try rw [hb3]; all_goals simp only [DW])), trivial⟩, W⟩
   rw [hb3] at F
   refine Hw tk 5 [0] F W (ai fun a w F W => ?_)
   rcases bxq (decide (p0.un.1 = 4)) with hb4 | hb4
   ·
    rw [hb4] at F
    refine vl tk 3 F W fun a w F W => ?_
    rcases bxq (decide ((p0.un.2.2.2.2.length : Int) < 2)) with hb5 | hb5
    ·
     rw [hb5] at F
     refine vl tk 6 F W fun a w F W => ?_
     refine Ad ?_
     exact ⟨F.re ⟨rfl, Aa, Aa, (DX (by try rw [hb2]; try rw [hb5]; try rw [hb0]; try rw [hb1]; try rw [hb3]; try rw [hb4]; all_goals simp only [DW])), trivial⟩, W⟩
    rw [hb5] at F
    refine vl tk 6 F W fun a w F W => ?_
    refine Ad ?_
    exact ⟨F.re ⟨rfl, Aa, Aa, (DX (by try rw [hb2]; try rw [hb5]; try rw [hb0]; try rw [hb1]; try rw [hb3]; try rw [hb4]; all_goals simp only [DW])), trivial⟩, W⟩
   rw [hb4] at F
   refine vl tk 9 F W fun a w F W => ?_
   refine Ad ?_
   exact ⟨F.re ⟨rfl, Aa, Aa, (DX (by try rw [hb2]; try rw [hb0]; try rw [hb1]; try rw [hb3]; try rw [hb4]; all_goals simp only [DW])), trivial⟩, W⟩
  rw [hb1] at F
  refine Hw tk 9 [0] F W (ai fun a w F W => ?_)
  rcases bxq (decide (p0.un.1 = 3)) with hb2 | hb2
  ·
   rw [hb2] at F
   refine vl tk 8 F W fun a w F W => ?_
   rcases bxq (decide ((p0.un.2.2.2.2.length : Int) < 2)) with hb3 | hb3
   ·
    rw [hb3] at F
    refine vl tk 6 F W fun a w F W => ?_
    refine Ad ?_
    exact ⟨F.re ⟨rfl, Aa, Aa, (DX (by try rw [hb3]; try rw [hb0]; try rw [hb1]; try rw [hb2]; all_goals simp only [DW])), trivial⟩, W⟩
   rw [hb3] at F
   refine vl tk 6 F W fun a w F W => ?_
   refine Ad ?_
   exact ⟨F.re ⟨rfl, Aa, Aa, (DX (by try rw [hb3]; try rw [hb0]; try rw [hb1]; try rw [hb2]; all_goals simp only [DW])), trivial⟩, W⟩
  rw [hb2] at F
  refine Hw tk 5 [0] F W (ai fun a w F W => ?_)
  rcases bxq (decide (p0.un.1 = 4)) with hb3 | hb3
  ·
   rw [hb3] at F
   refine vl tk 3 F W fun a w F W => ?_
   rcases bxq (decide ((p0.un.2.2.2.2.length : Int) < 2)) with hb4 | hb4
   ·
    rw [hb4] at F
    refine vl tk 6 F W fun a w F W => ?_
    refine Ad ?_
    exact ⟨F.re ⟨rfl, Aa, Aa, (DX (by try rw [hb4]; try rw [hb0]; try rw [hb1]; try rw [hb2]; try rw [hb3]; all_goals simp only [DW])), trivial⟩, W⟩
   rw [hb4] at F
   refine vl tk 6 F W fun a w F W => ?_
   refine Ad ?_
   exact ⟨F.re ⟨rfl, Aa, Aa, (DX (by try rw [hb4]; try rw [hb0]; try rw [hb1]; try rw [hb2]; try rw [hb3]; all_goals simp only [DW])), trivial⟩, W⟩
  rw [hb3] at F
  refine vl tk 9 F W fun a w F W => ?_
  refine Ad ?_
  exact ⟨F.re ⟨rfl, Aa, Aa, (DX (by try rw [hb0]; try rw [hb1]; try rw [hb2]; try rw [hb3]; all_goals simp only [DW])), trivial⟩, W⟩
 rintro a w ⟨F, W⟩
 refine CK F Aa H (fun F H => ?_) fun F H => ?_
 ·
  refine vc tk 5 F W fun a w F W => ?_
  refine Am (Az ?_)
  have H := AC H
  subst H
  refine Ax (.inl Aa) F W Aa (Ap F Aa) ?_
  exact ⟨rfl, W.done⟩
 refine Bc (Ad ?_)
 obtain ⟨o2, G2, K2, L2⟩ := RM H
 refine AA (fun a w => some (Sum.inl ()) = some o2 ∧ Fr 130 [] [(2, .bool false)] a ∧ Stw ⟨Y, [], w0⟩ (HT b1 p0 v1 v2) [] w) ?_ ?_
 ·
  have H := G2
  refine vc tk 6 F W fun a w F W => ?_
  refine BN H (fun s a w => Fr 130 [] [(1, .pointer (some ⟨b1, 0, none⟩)), (2, .bool false), (3, .int .i64 (p0.un.2.2.2.2.length : Int)), (5, .int .i64 s)] a ∧ Stw ⟨Y, [], w0⟩ (HT b1 p0 v1 v2) [] w) ⟨F.ra Aa, W⟩ fun s o a w H L3 hR => ?_
  obtain ⟨x4, rfl⟩ : ∃ x, x = s := ⟨s, rfl⟩
  obtain ⟨F, W⟩ := hR
  have F : Fr 130 [] [(1, .pointer (some ⟨b1, 0, none⟩)), (2, .bool false), (3, .int .i64 (p0.un.2.2.2.2.length : Int)), (5, .int .i64 x4)] a := F
  have W : Stw ⟨Y, [], w0⟩ (HT b1 p0 v1 v2) [] w := W
  rw [ER] at H
  refine vc tk 8 F W fun a w F W => ?_
  refine BU F Aa H (fun F H => ?_) fun F H => ?_
  ·
   refine QT tk 9 [0] F W (ai fun a w F W => ?_)
   obtain ⟨x5, h5, H⟩ := Ag H
   obtain ⟨v5, h6, h7⟩ := DQ h2 h5
   have h8 : MX v5 = [.int .i64 x5.un.1, .int .i64 x5.un.2.1.un.1, .int .i64 x5.un.2.1.un.2.1, .int .i64 x5.un.2.1.un.2.2.1, (v5.2.1.2.2.2.1), .int .i64 x5.un.2.2.1, .int .i64 x5.un.2.2.2.1, (v5.2.2.2.2.1)] := congrArg (fun q : Tr27 => ([.int .i64 q.un.1, .int .i64 q.un.2.1.un.1, .int .i64 q.un.2.1.un.2.1, .int .i64 q.un.2.1.un.2.2.1, (v5.2.1.2.2.2.1), .int .i64 q.un.2.2.1, .int .i64 q.un.2.2.2.1, (v5.2.2.2.2.1)] : List Value)) h7
   refine ls F W Aa (Aw (r := P1) U8 F Aa Aa (Ah h_v2) h6).q fun a w F W => ?_
   refine ls F W Aa (An (y := Value.agg #[.int .i64 x5.un.1, .int .i64 x5.un.2.1.un.1, .int .i64 x5.un.2.1.un.2.1, .int .i64 x5.un.2.1.un.2.2.1, (v5.2.1.2.2.2.1), .int .i64 x5.un.2.2.1, .int .i64 x5.un.2.2.2.1, (v5.2.2.2.2.1)]) (j := 0) (i := x4) (enc := MX) F Aa Aa (Ah h_v2) h6 Tf QI (by rw [h8]; rfl)).q fun a w F W => ?_
   obtain ⟨x6, h9, H⟩ := Ag H
   refine ls F W Aa (AL (v := Value.bool x6) F YV Aa (fun w W => ih any w ((v5.2.1.2.2.2.1)) ((v5.2.2.2.2.1)) (Tr27.of (x5.un.1, Tr24.of (x5.un.2.1.un.1, x5.un.2.1.un.2.1, x5.un.2.1.un.2.2.1, x5.un.2.1.un.2.2.2), x5.un.2.2.1, x5.un.2.2.2.1, x5.un.2.2.2.2)) _ h9 (Er (Br (Ah h_v2) h6 (Ai.snd (Ai.fst (Ai.snd (Ai.snd (Ai.snd Ai.here))))) (congrArg (fun q : Tr27 => q.un.2.1.un.2.2.2) h7)) W) (Er (Br (Ah h_v2) h6 (Ai.snd (Ai.snd (Ai.snd (Ai.snd Ai.here)))) (congrArg (fun q : Tr27 => q.un.2.2.2.2) h7)) W))) fun a w F W => ?_
   refine Cv tk 3 F W fun a w F W => ?_
   refine CK F Aa H (fun F H => ?_) fun F H => ?_
   ·
    refine vc tk 5 F W fun a w F W => ?_
    refine Am (AH ?_)
    iterate 2 refine Az ?_
    refine AH (Az ?_)
    have H := L3 _ H
    have H := L2 _ H
    have H := AC H
    subst H
    refine Ax (.inl Aa) F W Aa (Ap F Aa) ?_
    exact ⟨rfl, W.done⟩
   refine Bc (AM ?_)
   refine vn tk 5 F W fun a w F W => ?_
   refine Ad ?_
   exact ⟨_, H, F.ra Aa, W⟩
  refine BB ?_
  iterate 2 refine BR ?_
  refine Bx (Ad ?_)
  have H := L3 _ H
  exact ⟨H, F.ra Aa, W⟩
 rintro a w ⟨hj, F, W⟩
 have H := K2 _ hj
 refine vc tk 5 F W fun a w F W => ?_
 refine Am ?_
 have H := AC H
 subst H
 refine Ax (.inl Aa) F W Aa (Ap F Aa) ?_
 exact ⟨rfl, W.done⟩
theorem Rl : ∀ (n : Nat) (Y : Nat → Prop) (w0 : World) (v1 : Value) (v2 : Value) (p0 : Tr27) (r : Bool) (H : El n p0 = some r) (h_v1 : Sl w0 (NX []) DT v1 p0.un.2.1.un.2.2.2) (h_v2 : Sl w0 (NX []) Hx v2 p0.un.2.2.2.2), Calls Tryz.prog 32 #[.agg #[.int .i64 p0.un.1, .int .i64 p0.un.2.1.un.1, .int .i64 p0.un.2.1.un.2.1, .int .i64 p0.un.2.1.un.2.2.1, v1, .int .i64 p0.un.2.2.1, .int .i64 p0.un.2.2.2.1, v2]] w0 fun e w' => e = .returned (.bool r) ∧ Below w0.heap.size w0 w' := by
  intro n
  induction n with
  | zero => intro Y w0 v1 v2 p0 r H; exact nomatch H
  | succ n ih => intro Y w0 v1 v2 p0 r H h_v1 h_v2; exact Qc (El n) ih Y w0 v1 v2 p0 r H h_v1 h_v2
theorem R3 (Y : Nat → Prop) (w0 : World) (v1 : Value) (v2 : Value) (p0 : Tr27) (r : Bool) (H : Ob p0 = some r) (h_v1 : Sl w0 (NX []) DT v1 p0.un.2.1.un.2.2.2) (h_v2 : Sl w0 (NX []) Hx v2 p0.un.2.2.2.2) :
    Calls Tryz.prog 32 #[.agg #[.int .i64 p0.un.1, .int .i64 p0.un.2.1.un.1, .int .i64 p0.un.2.1.un.2.1, .int .i64 p0.un.2.1.un.2.2.1, v1, .int .i64 p0.un.2.2.1, .int .i64 p0.un.2.2.2.1, v2]] w0 fun e w' => e = .returned (.bool r) ∧ Below w0.heap.size w0 w' := by
  obtain ⟨n, H⟩ := CZ H
  exact Rl n Y w0 v1 v2 p0 r H h_v1 h_v2
theorem Yj : Has Tryz.prog 14 := CP Tryz.func14
def DO (fRec : Tr27 → Option Int) (p0 : Tr27) : (Int × Int) → Option ((Int × Int) ⊕ Int)
  | (x2, x3) => (if x3 < (p0.un.2.2.2.2.length : Int) then ((ix p0.un.2.2.2.2 x3).bind fun x5 => (fRec (Tr27.of (x5.un.1, Tr24.of (x5.un.2.1.un.1, x5.un.2.1.un.2.1, x5.un.2.1.un.2.2.1, x5.un.2.1.un.2.2.2), x5.un.2.2.1, x5.un.2.2.2.1, x5.un.2.2.2.2))).bind fun x6 => (if x2 ≤ x6 then (ix p0.un.2.2.2.2 x3).bind fun x7 => (fRec (Tr27.of (x7.un.1, Tr24.of (x7.un.2.1.un.1, x7.un.2.1.un.2.1, x7.un.2.1.un.2.2.1, x7.un.2.1.un.2.2.2), x7.un.2.2.1, x7.un.2.2.2.1, x7.un.2.2.2.2))).bind fun x8 => some (AU (x8 + 1)) else some x2)).bind fun x4 => some (.inl (x4, AU (x3 + 1))) else some (.inr x2))
def Fk (fRec : Tr27 → Option Int) (p0 : Tr27) : Option Int := (Ba (DO fRec p0) (1, 0)).bind fun x1 => some x1
def Em : Nat → Tr27 → Option Int
  | 0 => fun _ => none
  | n + 1 => Fk (Em n)
def Pg (p0 : Tr27) : Option Int := HC fun n => Em n p0
theorem P4 (fRec : Tr27 → Option Int) (ih : ∀ (Y : Nat → Prop) (w0 : World) (v1 : Value) (v2 : Value) (p0 : Tr27) (r : Int) (H : fRec p0 = some r) (h_v1 : Sl w0 (NX []) DT v1 p0.un.2.1.un.2.2.2) (h_v2 : Sl w0 (NX []) Hx v2 p0.un.2.2.2.2), Calls Tryz.prog 14 #[.agg #[.int .i64 p0.un.1, .int .i64 p0.un.2.1.un.1, .int .i64 p0.un.2.1.un.2.1, .int .i64 p0.un.2.1.un.2.2.1, v1, .int .i64 p0.un.2.2.1, .int .i64 p0.un.2.2.2.1, v2]] w0 fun e w' => e = .returned (.int .i64 r) ∧ Below w0.heap.size w0 w') (Y : Nat → Prop) (w0 : World) (v1 : Value) (v2 : Value) (p0 : Tr27) (r : Int) (H : Fk fRec p0 = some r) (h_v1 : Sl w0 (NX []) DT v1 p0.un.2.1.un.2.2.2) (h_v2 : Sl w0 (NX []) Hx v2 p0.un.2.2.2.2) :
    Calls Tryz.prog 14 #[.agg #[.int .i64 p0.un.1, .int .i64 p0.un.2.1.un.1, .int .i64 p0.un.2.1.un.2.1, .int .i64 p0.un.2.1.un.2.2.1, v1, .int .i64 p0.un.2.2.1, .int .i64 p0.un.2.2.2.1, v2]] w0 fun e w' => e = .returned (.int .i64 r) ∧ Below w0.heap.size w0 w' := by
 refine enter Tryz.func14 Aa Tryz.ntmps14 Aa fun a F => ?_
 have W := Stw.start Y w0
 obtain ⟨v3, h1, h_v1⟩ := h_v1.ex Da
 obtain ⟨v4, h2, h_v2⟩ := h_v2.ex Ej
 unfold Fk at H
 refine vc tk 2 F W fun a w F W => ?_
 refine CX (cs := (Av p0 v1 v2)) F W Aa Aa Aa fun b1 a w F W => ?_
 refine Cv tk 8 F W fun a w F W => ?_
 obtain ⟨o1, G1, K1⟩ := Ag H
 refine AA (fun a w => ∃ x1 : Int, some (x1) = some o1 ∧ Fr 28 [] [(2, .int .i64 0), (3, .int .i64 x1)] a ∧ Stw ⟨Y, [], w0⟩ (HT b1 p0 v1 v2) [] w) ?_ ?_
 ·
  have H := G1
  refine vc tk 6 F W fun a w F W => ?_
  refine BN H (fun s a w => Fr 28 [] [(1, .pointer (some ⟨b1, 0, none⟩)), (2, .int .i64 0), (3, .int .i64 s.1), (4, .int .i64 s.2)] a ∧ Stw ⟨Y, [], w0⟩ (HT b1 p0 v1 v2) [] w) ⟨F.ra Aa, W⟩ fun s o a w H L2 hR => ?_
  obtain ⟨x2, x3⟩ := s
  obtain ⟨F, W⟩ := hR
  have F : Fr 28 [] [(1, .pointer (some ⟨b1, 0, none⟩)), (2, .int .i64 0), (3, .int .i64 x2), (4, .int .i64 x3)] a := F
  have W : Stw ⟨Y, [], w0⟩ (HT b1 p0 v1 v2) [] w := W
  rw [DO] at H
  refine FR tk 6 [0] F W (ai fun a w F W => ?_)
  refine ls F W Aa (C2 (r := Hx) (l := p0.un.2.2.2.2) SR Aa F Aa (Ak Ej h2 (Ah h_v2))).q fun a w F W => ?_
  refine Cv tk 3 F W fun a w F W => ?_
  refine BU F Aa H (fun F H => ?_) fun F H => ?_
  ·
   refine Bc (Ad ?_)
   obtain ⟨o3, G3, K3⟩ := Ag H
   refine AA (fun a w => ∃ x4 : Int, some (x4) = some o3 ∧ Fr 28 [] [(1, .pointer (some ⟨b1, 0, none⟩)), (2, .int .i64 0), (3, .int .i64 x4), (4, .int .i64 x3)] a ∧ Stw ⟨Y, [], w0⟩ (HT b1 p0 v1 v2) [] w) ?_ ?_
   ·
    have H := G3
    refine FR tk 6 [0] F W (ai fun a w F W => ?_)
    obtain ⟨x5, h3, H⟩ := Ag H
    obtain ⟨v5, h4, h5⟩ := DQ h2 h3
    have h6 : MX v5 = [.int .i64 x5.un.1, .int .i64 x5.un.2.1.un.1, .int .i64 x5.un.2.1.un.2.1, .int .i64 x5.un.2.1.un.2.2.1, (v5.2.1.2.2.2.1), .int .i64 x5.un.2.2.1, .int .i64 x5.un.2.2.2.1, (v5.2.2.2.2.1)] := congrArg (fun q : Tr27 => ([.int .i64 q.un.1, .int .i64 q.un.2.1.un.1, .int .i64 q.un.2.1.un.2.1, .int .i64 q.un.2.1.un.2.2.1, (v5.2.1.2.2.2.1), .int .i64 q.un.2.2.1, .int .i64 q.un.2.2.2.1, (v5.2.2.2.2.1)] : List Value)) h5
    refine ls F W Aa (Aw (r := P1) U8 F Aa Aa (Ah h_v2) h4).q fun a w F W => ?_
    refine ls F W Aa (An (y := Value.agg #[.int .i64 x5.un.1, .int .i64 x5.un.2.1.un.1, .int .i64 x5.un.2.1.un.2.1, .int .i64 x5.un.2.1.un.2.2.1, (v5.2.1.2.2.2.1), .int .i64 x5.un.2.2.1, .int .i64 x5.un.2.2.2.1, (v5.2.2.2.2.1)]) (j := 0) (i := x3) (enc := MX) F Aa Aa (Ah h_v2) h4 Tf QI (by rw [h6]; rfl)).q fun a w F W => ?_
    obtain ⟨x6, h7, H⟩ := Ag H
    refine ls F W Aa (AL (v := Value.int .i64 x6) F Yj Aa (fun w W => ih any w ((v5.2.1.2.2.2.1)) ((v5.2.2.2.2.1)) (Tr27.of (x5.un.1, Tr24.of (x5.un.2.1.un.1, x5.un.2.1.un.2.1, x5.un.2.1.un.2.2.1, x5.un.2.1.un.2.2.2), x5.un.2.2.1, x5.un.2.2.2.1, x5.un.2.2.2.2)) _ h7 (Er (Br (Ah h_v2) h4 (Ai.snd (Ai.fst (Ai.snd (Ai.snd (Ai.snd Ai.here))))) (congrArg (fun q : Tr27 => q.un.2.1.un.2.2.2) h5)) W) (Er (Br (Ah h_v2) h4 (Ai.snd (Ai.snd (Ai.snd (Ai.snd Ai.here)))) (congrArg (fun q : Tr27 => q.un.2.2.2.2) h5)) W))) fun a w F W => ?_
    refine Cv tk 4 F W fun a w F W => ?_
    refine BU F Aa H (fun F H => ?_) fun F H => ?_
    ·
     obtain ⟨v6, h8, h9⟩ := Sl.ex Da (Sl.at_ h_v2 h4 (Ai.snd (Ai.fst (Ai.snd (Ai.snd (Ai.snd Ai.here))))) (congrArg (fun q : Tr27 => q.un.2.1.un.2.2.2) h5))
     obtain ⟨v7, h10, h11⟩ := Sl.ex Ej (Sl.at_ h_v2 h4 (Ai.snd (Ai.snd (Ai.snd (Ai.snd Ai.here)))) (congrArg (fun q : Tr27 => q.un.2.2.2.2) h5))
     refine FR tk 4 [0] F W (ai fun a w F W => ?_)
     obtain ⟨x7, h12, H⟩ := Ag H
     obtain ⟨v8, h13, h14⟩ := DQ h2 h12
     have h15 : MX v8 = [.int .i64 x7.un.1, .int .i64 x7.un.2.1.un.1, .int .i64 x7.un.2.1.un.2.1, .int .i64 x7.un.2.1.un.2.2.1, (v8.2.1.2.2.2.1), .int .i64 x7.un.2.2.1, .int .i64 x7.un.2.2.2.1, (v8.2.2.2.2.1)] := congrArg (fun q : Tr27 => ([.int .i64 q.un.1, .int .i64 q.un.2.1.un.1, .int .i64 q.un.2.1.un.2.1, .int .i64 q.un.2.1.un.2.2.1, (v8.2.1.2.2.2.1), .int .i64 q.un.2.2.1, .int .i64 q.un.2.2.2.1, (v8.2.2.2.2.1)] : List Value)) h14
     refine ls F W Aa (Aw (r := P1) U8 F Aa Aa (Ah h_v2) h13).q fun a w F W => ?_
     refine ls F W Aa (An (y := Value.agg #[.int .i64 x7.un.1, .int .i64 x7.un.2.1.un.1, .int .i64 x7.un.2.1.un.2.1, .int .i64 x7.un.2.1.un.2.2.1, (v8.2.1.2.2.2.1), .int .i64 x7.un.2.2.1, .int .i64 x7.un.2.2.2.1, (v8.2.2.2.2.1)]) (j := 0) (i := x3) (enc := MX) F Aa Aa (Ah h_v2) h13 Tf QI (by rw [h15]; rfl)).q fun a w F W => ?_
     obtain ⟨x8, h16, H⟩ := Ag H
     refine ls F W Aa (AL (v := Value.int .i64 x8) F Yj Aa (fun w W => ih any w ((v8.2.1.2.2.2.1)) ((v8.2.2.2.2.1)) (Tr27.of (x7.un.1, Tr24.of (x7.un.2.1.un.1, x7.un.2.1.un.2.1, x7.un.2.1.un.2.2.1, x7.un.2.1.un.2.2.2), x7.un.2.2.1, x7.un.2.2.2.1, x7.un.2.2.2.2)) _ h16 (Er (Br (Ah h_v2) h13 (Ai.snd (Ai.fst (Ai.snd (Ai.snd (Ai.snd Ai.here))))) (congrArg (fun q : Tr27 => q.un.2.1.un.2.2.2) h14)) W) (Er (Br (Ah h_v2) h13 (Ai.snd (Ai.snd (Ai.snd (Ai.snd Ai.here)))) (congrArg (fun q : Tr27 => q.un.2.2.2.2) h14)) W))) fun a w F W => ?_
     refine vl tk 3 F W fun a w F W => ?_
     refine AM (Ad ?_)
     exact ⟨_, H, F.ra Aa, W⟩
    refine Bc (AM (Ad ?_))
    exact ⟨_, H, F.ra Aa, W⟩
   rintro a w ⟨x4, hj, F, W⟩
   have hj := AC hj
   subst hj
   have H := K3
   refine vc tk 5 F W fun a w F W => ?_
   refine Ad ?_
   exact ⟨_, H, F.ra Aa, W⟩
  refine BB ?_
  iterate 2 refine BR ?_
  refine Bx (Ad ?_)
  have H := L2 _ H
  exact ⟨_, H, F.ra Aa, W⟩
 rintro a w ⟨x1, hj, F, W⟩
 have hj := AC hj
 subst hj
 have H := K1
 refine vc tk 6 F W fun a w F W => ?_
 refine Am ?_
 have H := AC H
 subst H
 refine Ax (.inl Aa) F W Aa (Ap F Aa) ?_
 exact ⟨rfl, W.done⟩
theorem RJ : ∀ (n : Nat) (Y : Nat → Prop) (w0 : World) (v1 : Value) (v2 : Value) (p0 : Tr27) (r : Int) (H : Em n p0 = some r) (h_v1 : Sl w0 (NX []) DT v1 p0.un.2.1.un.2.2.2) (h_v2 : Sl w0 (NX []) Hx v2 p0.un.2.2.2.2), Calls Tryz.prog 14 #[.agg #[.int .i64 p0.un.1, .int .i64 p0.un.2.1.un.1, .int .i64 p0.un.2.1.un.2.1, .int .i64 p0.un.2.1.un.2.2.1, v1, .int .i64 p0.un.2.2.1, .int .i64 p0.un.2.2.2.1, v2]] w0 fun e w' => e = .returned (.int .i64 r) ∧ Below w0.heap.size w0 w' := by
  intro n
  induction n with
  | zero => intro Y w0 v1 v2 p0 r H; exact nomatch H
  | succ n ih => intro Y w0 v1 v2 p0 r H h_v1 h_v2; exact P4 (Em n) ih Y w0 v1 v2 p0 r H h_v1 h_v2
theorem RW (Y : Nat → Prop) (w0 : World) (v1 : Value) (v2 : Value) (p0 : Tr27) (r : Int) (H : Pg p0 = some r) (h_v1 : Sl w0 (NX []) DT v1 p0.un.2.1.un.2.2.2) (h_v2 : Sl w0 (NX []) Hx v2 p0.un.2.2.2.2) :
    Calls Tryz.prog 14 #[.agg #[.int .i64 p0.un.1, .int .i64 p0.un.2.1.un.1, .int .i64 p0.un.2.1.un.2.1, .int .i64 p0.un.2.1.un.2.2.1, v1, .int .i64 p0.un.2.2.1, .int .i64 p0.un.2.2.2.1, v2]] w0 fun e w' => e = .returned (.int .i64 r) ∧ Below w0.heap.size w0 w' := by
  obtain ⟨n, H⟩ := CZ H
  exact RJ n Y w0 v1 v2 p0 r H h_v1 h_v2
theorem YW : Has Tryz.prog 12 := CP Tryz.func12
def DS (fRec : Tr27 → Option Int) (p0 : Tr27) : (Int × Int) → Option ((Int × Int) ⊕ Int)
  | (x4, x5) => (if x5 < (p0.un.2.2.2.2.length : Int) then (ix p0.un.2.2.2.2 x5).bind fun x6 => (fRec (Tr27.of (x6.un.1, Tr24.of (x6.un.2.1.un.1, x6.un.2.1.un.2.1, x6.un.2.1.un.2.2.1, x6.un.2.1.un.2.2.2), x6.un.2.2.1, x6.un.2.2.2.1, x6.un.2.2.2.2))).bind fun x7 => some (.inl (AU (x4 + x7), AU (x5 + 1))) else some (.inr x4))
def Fv (fRec : Tr27 → Option Int) (p0 : Tr27) : Option Int := (if (decide (p0.un.1 < 2) || decide (4 < p0.un.1)) = true then (KK (Tr24.of (p0.un.2.1.un.1, p0.un.2.1.un.2.1, p0.un.2.1.un.2.2.1, p0.un.2.1.un.2.2.2))).bind fun x2 => some (AU (1 + x2)) else some 1).bind fun x1 => (Ba (DS fRec p0) (x1, 0)).bind fun x3 => some x3
def Ey : Nat → Tr27 → Option Int
  | 0 => fun _ => none
  | n + 1 => Fv (Ey n)
def Ox (p0 : Tr27) : Option Int := HC fun n => Ey n p0
theorem Qo (fRec : Tr27 → Option Int) (ih : ∀ (Y : Nat → Prop) (w0 : World) (v1 : Value) (v2 : Value) (p0 : Tr27) (r : Int) (H : fRec p0 = some r) (h_v1 : Sl w0 (NX []) DT v1 p0.un.2.1.un.2.2.2) (h_v2 : Sl w0 (NX []) Hx v2 p0.un.2.2.2.2), Calls Tryz.prog 12 #[.agg #[.int .i64 p0.un.1, .int .i64 p0.un.2.1.un.1, .int .i64 p0.un.2.1.un.2.1, .int .i64 p0.un.2.1.un.2.2.1, v1, .int .i64 p0.un.2.2.1, .int .i64 p0.un.2.2.2.1, v2]] w0 fun e w' => e = .returned (.int .i64 r) ∧ Below w0.heap.size w0 w') (Y : Nat → Prop) (w0 : World) (v1 : Value) (v2 : Value) (p0 : Tr27) (r : Int) (H : Fv fRec p0 = some r) (h_v1 : Sl w0 (NX []) DT v1 p0.un.2.1.un.2.2.2) (h_v2 : Sl w0 (NX []) Hx v2 p0.un.2.2.2.2) :
    Calls Tryz.prog 12 #[.agg #[.int .i64 p0.un.1, .int .i64 p0.un.2.1.un.1, .int .i64 p0.un.2.1.un.2.1, .int .i64 p0.un.2.1.un.2.2.1, v1, .int .i64 p0.un.2.2.1, .int .i64 p0.un.2.2.2.1, v2]] w0 fun e w' => e = .returned (.int .i64 r) ∧ Below w0.heap.size w0 w' := by
 refine enter Tryz.func12 Aa Tryz.ntmps12 Aa fun a F => ?_
 have W := Stw.start Y w0
 obtain ⟨v3, h1, h_v1⟩ := h_v1.ex Da
 obtain ⟨v4, h2, h_v2⟩ := h_v2.ex Ej
 unfold Fv at H
 refine vc tk 2 F W fun a w F W => ?_
 refine CX (cs := (Av p0 v1 v2)) F W Aa Aa Aa fun b1 a w F W => ?_
 refine Cv tk 8 F W fun a w F W => ?_
 obtain ⟨o1, G1, K1⟩ := Ag H
 refine AA (fun a w => ∃ x1 : Int, some (x1) = some o1 ∧ Fr 34 [] [(1, .pointer (some ⟨b1, 0, none⟩)), (2, .int .i64 0), (3, .int .i64 x1)] a ∧ Stw ⟨Y, [], w0⟩ (HT b1 p0 v1 v2) [] w) ?_ ?_
 ·
  have H := G1
  refine AA (fun a w => Fr 34 [] [(1, .pointer (some ⟨b1, 0, none⟩)), (2, .int .i64 0), (3, .int .i64 1), (12, .bool (decide (p0.un.1 < 2) || decide (4 < p0.un.1)))] a ∧ Stw ⟨Y, [], w0⟩ (HT b1 p0 v1 v2) [] w) ?_ ?_
  ·
   refine FR tk 5 [0] F W (ai fun a w F W => ?_)
   rcases bxq (decide (p0.un.1 < 2)) with hb0 | hb0
   ·
    rw [hb0] at F
    refine vl tk 5 F W fun a w F W => ?_
    refine Ad ?_
    exact ⟨F.re ⟨rfl, Aa, Aa, (DX (by try rw [hb0]; all_goals simp only [DW])), trivial⟩, W⟩
   rw [hb0] at F
   refine Hw tk 5 [0] F W (ai fun a w F W => ?_)
   refine Ad ?_
   exact ⟨F.re ⟨rfl, Aa, Aa, (DX (by try rw [hb0]; all_goals simp only [DW])), trivial⟩, W⟩
  rintro a w ⟨F, W⟩
  refine CK F Aa H (fun F H => ?_) fun F H => ?_
  ·
   refine FR tk 4 [0] F W (ai fun a w F W => ?_)
   obtain ⟨x2, h3, H⟩ := Ag H
   refine ls F W Aa (AL (v := Value.int .i64 x2) F XR Aa (fun w W => Oc any w (v1) (Tr24.of (p0.un.2.1.un.1, p0.un.2.1.un.2.1, p0.un.2.1.un.2.2.1, p0.un.2.1.un.2.2.2)) _ h3 (Er (Ak Da h1 (Ah h_v1)) W))) fun a w F W => ?_
   refine vl tk 3 F W fun a w F W => ?_
   refine Ad ?_
   exact ⟨_, H, F.ra Aa, W⟩
  refine Bc (Ad ?_)
  exact ⟨_, H, F.ra Aa, W⟩
 rintro a w ⟨x1, hj, F, W⟩
 have hj := AC hj
 subst hj
 have H := K1
 obtain ⟨o2, G2, K2⟩ := Ag H
 refine AA (fun a w => ∃ x3 : Int, some (x3) = some o2 ∧ Fr 34 [] [(2, .int .i64 0), (3, .int .i64 x3)] a ∧ Stw ⟨Y, [], w0⟩ (HT b1 p0 v1 v2) [] w) ?_ ?_
 ·
  have H := G2
  refine vc tk 6 F W fun a w F W => ?_
  refine BN H (fun s a w => Fr 34 [] [(1, .pointer (some ⟨b1, 0, none⟩)), (2, .int .i64 0), (3, .int .i64 s.1), (4, .int .i64 s.2)] a ∧ Stw ⟨Y, [], w0⟩ (HT b1 p0 v1 v2) [] w) ⟨F.ra Aa, W⟩ fun s o a w H L3 hR => ?_
  obtain ⟨x4, x5⟩ := s
  obtain ⟨F, W⟩ := hR
  have F : Fr 34 [] [(1, .pointer (some ⟨b1, 0, none⟩)), (2, .int .i64 0), (3, .int .i64 x4), (4, .int .i64 x5)] a := F
  have W : Stw ⟨Y, [], w0⟩ (HT b1 p0 v1 v2) [] w := W
  rw [DS] at H
  refine FR tk 6 [0] F W (ai fun a w F W => ?_)
  refine ls F W Aa (C2 (r := Hx) (l := p0.un.2.2.2.2) SR Aa F Aa (Ak Ej h2 (Ah h_v2))).q fun a w F W => ?_
  refine Cv tk 3 F W fun a w F W => ?_
  refine BU F Aa H (fun F H => ?_) fun F H => ?_
  ·
   refine QT tk 9 [0] F W (ai fun a w F W => ?_)
   obtain ⟨x6, h4, H⟩ := Ag H
   obtain ⟨v5, h5, h6⟩ := DQ h2 h4
   have h7 : MX v5 = [.int .i64 x6.un.1, .int .i64 x6.un.2.1.un.1, .int .i64 x6.un.2.1.un.2.1, .int .i64 x6.un.2.1.un.2.2.1, (v5.2.1.2.2.2.1), .int .i64 x6.un.2.2.1, .int .i64 x6.un.2.2.2.1, (v5.2.2.2.2.1)] := congrArg (fun q : Tr27 => ([.int .i64 q.un.1, .int .i64 q.un.2.1.un.1, .int .i64 q.un.2.1.un.2.1, .int .i64 q.un.2.1.un.2.2.1, (v5.2.1.2.2.2.1), .int .i64 q.un.2.2.1, .int .i64 q.un.2.2.2.1, (v5.2.2.2.2.1)] : List Value)) h6
   refine ls F W Aa (Aw (r := P1) U8 F Aa Aa (Ah h_v2) h5).q fun a w F W => ?_
   refine ls F W Aa (An (y := Value.agg #[.int .i64 x6.un.1, .int .i64 x6.un.2.1.un.1, .int .i64 x6.un.2.1.un.2.1, .int .i64 x6.un.2.1.un.2.2.1, (v5.2.1.2.2.2.1), .int .i64 x6.un.2.2.1, .int .i64 x6.un.2.2.2.1, (v5.2.2.2.2.1)]) (j := 0) (i := x5) (enc := MX) F Aa Aa (Ah h_v2) h5 Tf QI (by rw [h7]; rfl)).q fun a w F W => ?_
   obtain ⟨x7, h8, H⟩ := Ag H
   refine ls F W Aa (AL (v := Value.int .i64 x7) F YW Aa (fun w W => ih any w ((v5.2.1.2.2.2.1)) ((v5.2.2.2.2.1)) (Tr27.of (x6.un.1, Tr24.of (x6.un.2.1.un.1, x6.un.2.1.un.2.1, x6.un.2.1.un.2.2.1, x6.un.2.1.un.2.2.2), x6.un.2.2.1, x6.un.2.2.2.1, x6.un.2.2.2.2)) _ h8 (Er (Br (Ah h_v2) h5 (Ai.snd (Ai.fst (Ai.snd (Ai.snd (Ai.snd Ai.here))))) (congrArg (fun q : Tr27 => q.un.2.1.un.2.2.2) h6)) W) (Er (Br (Ah h_v2) h5 (Ai.snd (Ai.snd (Ai.snd (Ai.snd Ai.here)))) (congrArg (fun q : Tr27 => q.un.2.2.2.2) h6)) W))) fun a w F W => ?_
   refine vl tk 3 F W fun a w F W => ?_
   refine AM ?_
   refine vn tk 5 F W fun a w F W => ?_
   refine Ad ?_
   exact ⟨_, H, F.ra Aa, W⟩
  refine BB ?_
  iterate 2 refine BR ?_
  refine Bx (Ad ?_)
  have H := L3 _ H
  exact ⟨_, H, F.ra Aa, W⟩
 rintro a w ⟨x3, hj, F, W⟩
 have hj := AC hj
 subst hj
 have H := K2
 refine vc tk 6 F W fun a w F W => ?_
 refine Am ?_
 have H := AC H
 subst H
 refine Ax (.inl Aa) F W Aa (Ap F Aa) ?_
 exact ⟨rfl, W.done⟩
theorem QV : ∀ (n : Nat) (Y : Nat → Prop) (w0 : World) (v1 : Value) (v2 : Value) (p0 : Tr27) (r : Int) (H : Ey n p0 = some r) (h_v1 : Sl w0 (NX []) DT v1 p0.un.2.1.un.2.2.2) (h_v2 : Sl w0 (NX []) Hx v2 p0.un.2.2.2.2), Calls Tryz.prog 12 #[.agg #[.int .i64 p0.un.1, .int .i64 p0.un.2.1.un.1, .int .i64 p0.un.2.1.un.2.1, .int .i64 p0.un.2.1.un.2.2.1, v1, .int .i64 p0.un.2.2.1, .int .i64 p0.un.2.2.2.1, v2]] w0 fun e w' => e = .returned (.int .i64 r) ∧ Below w0.heap.size w0 w' := by
  intro n
  induction n with
  | zero => intro Y w0 v1 v2 p0 r H; exact nomatch H
  | succ n ih => intro Y w0 v1 v2 p0 r H h_v1 h_v2; exact Qo (Ey n) ih Y w0 v1 v2 p0 r H h_v1 h_v2
theorem RO (Y : Nat → Prop) (w0 : World) (v1 : Value) (v2 : Value) (p0 : Tr27) (r : Int) (H : Ox p0 = some r) (h_v1 : Sl w0 (NX []) DT v1 p0.un.2.1.un.2.2.2) (h_v2 : Sl w0 (NX []) Hx v2 p0.un.2.2.2.2) :
    Calls Tryz.prog 12 #[.agg #[.int .i64 p0.un.1, .int .i64 p0.un.2.1.un.1, .int .i64 p0.un.2.1.un.2.1, .int .i64 p0.un.2.1.un.2.2.1, v1, .int .i64 p0.un.2.2.1, .int .i64 p0.un.2.2.2.1, v2]] w0 fun e w' => e = .returned (.int .i64 r) ∧ Below w0.heap.size w0 w' := by
  obtain ⟨n, H⟩ := CZ H
  exact QV n Y w0 v1 v2 p0 r H h_v1 h_v2
theorem YC : Has Tryz.prog 16 := CP Tryz.func16
def I3 (p0 : Int) : Int := (if 1000 < p0 then 1000 else p0)
theorem PU (Y : Nat → Prop) (w0 : World)  (p0 : Int) (r : Int) (H : I3 p0 = r)  :
    Calls Tryz.prog 35 #[.int .i64 p0] w0 fun e w' => e = .returned (.int .i64 r) ∧ Below w0.heap.size w0 w' := by
 refine enter Tryz.func35 Aa Tryz.ntmps35 Aa fun a F => ?_
 have W := Stw.start Y w0
 unfold I3 at H
 refine vc tk 12 F W fun a w F W => ?_
 refine BU F Aa H (fun F H => ?_) fun F H => ?_
 ·
  refine vc tk 5 F W fun a w F W => ?_
  refine Am (Az ?_)
  subst H
  refine Ax (.inl Aa) F W Aa (Ap F Aa) ?_
  exact ⟨rfl, W.done⟩
 refine Gp tk 8 F W fun a w F W => ?_
 refine Am ?_
 subst H
 refine Ax (.inl Aa) F W Aa (Ap F Aa) ?_
 exact ⟨rfl, W.done⟩
end
end Go.Proofs.YtpckgggmgijiiaaGreatDoor
