/- The functions of layer 25, JD. Conditions: none. -/
import Derived.Test.YthhoflfhegfmcaaGreatbA3
namespace Go.Proofs.YthhoflfhegfmcaaGreat
open Go Go.RowKit
set_option linter.unusedVariables false
set_option linter.unusedSimpArgs false
set_option maxRecDepth 20000
set_option maxHeartbeats 1600000
theorem Yh : Has Tryz.prog 42 := Cu Tryz.func42
def AX (p0 : Int) (p1 : Int) : Int := (if (Cj p0) = true then (if (Cj p1) = true then 0 else (-1)) else (if (Cj p1) = true then 1 else (if p0 < p1 then (-1) else (if p1 < p0 then 1 else 0))))
theorem HD (Y : Nat → Prop) (w0 : World)  (p0 : Int) (p1 : Int) (r : Int) (H : AX p0 p1 = r)  :
    Calls Tryz.prog 24 #[.int .i64 p0, .int .i64 p1] w0 fun e w' => e = .returned (.int .i64 r) ∧ Below w0.heap.size w0 w' := by
 refine enter Tryz.func24 Aa Tryz.ntmps24 Aa fun a F => ?_
 have W := Stw.start Y w0
 unfold AX at H
 refine vc tk 8 F W fun a w F W => ?_
 refine ls F W Aa (Be (v := Value.bool (Cj p0)) F Yh Aa (fun w W => GV any w p0 _ Aa)) fun a w F W => ?_
 refine BR tk 6 F W fun a w F W => ?_
 refine ls F W Aa (Be (v := Value.bool (Cj p1)) F Yh Aa (fun w W => GV any w p1 _ Aa)) fun a w F W => ?_
 refine BR tk 9 F W fun a w F W => ?_
 refine Gu F Aa (fun hb => ?_) fun hb => ?_
 ·
  have H := D0 hb H
  rw [hb] at F
  clear hb
  refine vc tk 6 F W fun a w F W => ?_
  refine Gu F Aa (fun hb => ?_) fun hb => ?_
  ·
   have H := D0 hb H
   rw [hb] at F
   clear hb
   refine vc tk 5 F W fun a w F W => ?_
   refine Ao ?_
   iterate 2 refine AE ?_
   subst H
   refine A1 (.inl Aa) F W Aa (Am F Aa) ?_
   exact ⟨rfl, W.done⟩
  have H := DZ (by rw [hb]; decide) H
  rw [hb] at F
  clear hb
  refine FP tk 7 F W fun a w F W => ?_
  refine Ao (AE ?_)
  subst H
  refine A1 (.inl Aa) F W Aa (Am F Aa) ?_
  exact ⟨rfl, W.done⟩
 have H := DZ (by rw [hb]; decide) H
 rw [hb] at F
 clear hb
 refine FP tk 8 F W fun a w F W => ?_
 refine Gu F Aa (fun hb => ?_) fun hb => ?_
 ·
  have H := D0 hb H
  rw [hb] at F
  clear hb
  refine vc tk 5 F W fun a w F W => ?_
  refine Ao (AE ?_)
  subst H
  refine A1 (.inl Aa) F W Aa (Am F Aa) ?_
  exact ⟨rfl, W.done⟩
 have H := DZ (by rw [hb]; decide) H
 rw [hb] at F
 clear hb
 refine FP tk 10 F W fun a w F W => ?_
 refine AU F Aa H (fun F H => ?_) fun F H => ?_
 ·
  refine vc tk 5 F W fun a w F W => ?_
  refine Ao (AE ?_)
  subst H
  refine A1 (.inl Aa) F W Aa (Am F Aa) ?_
  exact ⟨rfl, W.done⟩
 refine FP tk 10 F W fun a w F W => ?_
 refine AU F Aa H (fun F H => ?_) fun F H => ?_
 ·
  refine vc tk 5 F W fun a w F W => ?_
  refine Ao (AE ?_)
  subst H
  refine A1 (.inl Aa) F W Aa (Am F Aa) ?_
  exact ⟨rfl, W.done⟩
 refine FP tk 7 F W fun a w F W => ?_
 refine Ao ?_
 subst H
 refine A1 (.inl Aa) F W Aa (Am F Aa) ?_
 exact ⟨rfl, W.done⟩
theorem Yt : Has Tryz.prog 24 := Cu Tryz.func24
noncomputable def Ec (p0 : List Int) : Int → Option (Int ⊕ (Unit ⊕ Int))
  | x1 => (if x1 < (p0.length : Int) then (ix p0 x1).bind fun x2 => (if x2 ≠ 0 then some (.inr (.inr x2)) else some (.inl (An (x1 + 1)))) else some (.inr (.inl ())))
noncomputable def Je (p0 : List Int) : Option Int := GN (Ap (Ec p0) 0) fun _ => some 0
theorem Pg (Y : Nat → Prop) (w0 : World) (v1 : Value) (p0 : List Int) (r : Int) (H : Je p0 = some r) (h_v1 : Sl w0 (NX []) (Rp.int .i64) v1 p0) :
    Calls Tryz.prog 23 #[v1] w0 fun e w' => e = .returned (.int .i64 r) ∧ Below w0.heap.size w0 w' := by
 refine enter Tryz.func23 Aa Tryz.ntmps23 Aa fun a F => ?_
 have W := Stw.start Y w0
 unfold Je at H
 refine vc tk 10 F W fun a w F W => ?_
 obtain ⟨o1, G1, K1, L1⟩ := Mg H
 refine Aq (fun a w => some (Sum.inl ()) = some o1 ∧ Fr 18 [] [(2, .int .i64 0), (3, .int .i64 0)] a ∧ Stw ⟨Y, [], w0⟩ [] [] w) ?_ ?_
 ·
  have H := G1
  clear G1 K1
  refine vc tk 3 F W fun a w F W => ?_
  refine ls F W Aa (BS (r := (Rp.int .i64)) (l := p0) IV Aa F Aa (Ad h_v1)).q fun a w F W => ?_
  refine BR tk 4 F W fun a w F W => ?_
  refine AL H (fun s a w => Fr 18 [] [(2, .int .i64 0), (3, .int .i64 0), (6, v1), (7, .int .i64 (p0.length : Int)), (8, .int .i64 s)] a ∧ Stw ⟨Y, [], w0⟩ [] [] w) ⟨F.ra Aa, W⟩ fun s o a w H L2 hR => ?_
  obtain ⟨x1, rfl⟩ : ∃ x, x = s := ⟨s, rfl⟩
  obtain ⟨F, W⟩ := hR
  have F : Fr 18 [] [(2, .int .i64 0), (3, .int .i64 0), (6, v1), (7, .int .i64 (p0.length : Int)), (8, .int .i64 x1)] a := F
  have W : Stw ⟨Y, [], w0⟩ [] [] w := W
  rw [Ec] at H
  refine vc tk 6 F W fun a w F W => ?_
  refine AU F Aa H (fun F H => ?_) fun F H => ?_
  ·
   refine FP tk 6 F W fun a w F W => ?_
   obtain ⟨x2, h1, H⟩ := Ac H
   refine ls F W Aa (Al (r := (Rp.int .i64)) EJ F Aa Aa (Ad h_v1) h1).q fun a w F W => ?_
   refine ls F W Aa (Ag (y := Value.int .i64 x2) (j := 0) (i := x1) F Aa Aa (Ad h_v1) h1 Fl.int.to T3 Aa).q fun a w F W => ?_
   refine BR tk 10 F W fun a w F W => ?_
   refine AU F Aa H (fun F H => ?_) fun F H => ?_
   ·
    refine vc tk 6 F W fun a w F W => ?_
    refine Ao (AW ?_)
    iterate 2 refine AE ?_
    refine AW (AE ?_)
    have H := L2 _ H
    have H := L1 _ H
    have H := Ax H
    subst H
    refine A1 (.inl Aa) F W Aa (Am F Aa) ?_
    exact ⟨rfl, W.done⟩
   refine AB (Aw ?_)
   refine vn tk 4 F W fun a w F W => ?_
   refine Ab ?_
   exact ⟨_, H, F.ra Aa, W⟩
  refine AA ?_
  iterate 2 refine AQ ?_
  refine AC (Ab ?_)
  have H := L2 _ H
  exact ⟨H, F.ra Aa, W⟩
 rintro a w ⟨hj, F, W⟩
 have H := K1 _ hj
 clear hj G1 K1 L1
 refine vc tk 6 F W fun a w F W => ?_
 refine Ao ?_
 have H := Ax H
 subst H
 refine A1 (.inl Aa) F W Aa (Am F Aa) ?_
 exact ⟨rfl, W.done⟩
theorem aE : Has Tryz.prog 23 := Cu Tryz.func23
noncomputable def Cb (p0 : Int × Int × Int × Int) (p1 : Int × Int × Int × Int) : Option Int := (Je ([(AX p0.2.2.2 p1.2.2.2), (AX p0.1 p1.1), (AX p0.2.1 p1.2.1)] : List Int)).bind fun x1 => some x1
theorem Cn (Y : Nat → Prop) (w0 : World)  (p0 : Int × Int × Int × Int) (p1 : Int × Int × Int × Int) (r : Int) (H : Cb p0 p1 = some r)  :
    Calls Tryz.prog 22 #[.agg #[.int .i64 p0.1, .int .i64 p0.2.1, .int .i64 p0.2.2.1, .int .i64 p0.2.2.2], .agg #[.int .i64 p1.1, .int .i64 p1.2.1, .int .i64 p1.2.2.1, .int .i64 p1.2.2.2]] w0 fun e w' => e = .returned (.int .i64 r) ∧ Below w0.heap.size w0 w' := by
 refine enter Tryz.func22 Aa Tryz.ntmps22 Aa fun a F => ?_
 have W := Stw.start Y w0
 unfold Cb at H
 refine vc tk 2 F W fun a w F W => ?_
 refine D2 (cs := (Ck p0)) F W Aa Aa Aa fun b1 a w F W => ?_
 refine D2 (cs := (Ck p1)) F W Aa Aa Aa fun b2 a w F W => ?_
 refine BR tk 4 F W fun a w F W => ?_
 refine Jd 15 W MO (by kernel_rfl) ?_
 refine qs F Aa (Az Jv Aa Aa Aa T3 F Aa 3 Aa).q fun a F => ?_
 refine qs F Aa (BE (v := Value.int .i64 p0.2.2.2) 1 F Aa Aa T3 Aa).q fun a F => ?_
 refine qs F Aa (Az Jv Aa Aa Aa T3 F Aa 3 Aa).q fun a F => ?_
 refine qs F Aa (BE (v := Value.int .i64 p1.2.2.2) 0 F Aa Aa T3 Aa).q fun a F => ?_
 refine qs F Aa (Be (v := Value.int .i64 (AX p0.2.2.2 p1.2.2.2)) F Yt Aa (fun w W => HD any w p0.2.2.2 p1.2.2.2 _ Aa)) fun a F => ?_
 refine qs F Aa (Az Jv Aa Aa Aa T3 F Aa 0 Aa).q fun a F => ?_
 refine qs F Aa (BE (v := Value.int .i64 p0.1) 1 F Aa Aa T3 Aa).q fun a F => ?_
 refine qs F Aa (Az Jv Aa Aa Aa T3 F Aa 0 Aa).q fun a F => ?_
 refine qs F Aa (BE (v := Value.int .i64 p1.1) 0 F Aa Aa T3 Aa).q fun a F => ?_
 refine qs F Aa (Be (v := Value.int .i64 (AX p0.1 p1.1)) F Yt Aa (fun w W => HD any w p0.1 p1.1 _ Aa)) fun a F => ?_
 refine qs F Aa (Az Jv Aa Aa Aa T3 F Aa 1 Aa).q fun a F => ?_
 refine qs F Aa (BE (v := Value.int .i64 p0.2.1) 1 F Aa Aa T3 Aa).q fun a F => ?_
 refine qs F Aa (Az Jv Aa Aa Aa T3 F Aa 1 Aa).q fun a F => ?_
 refine qs F Aa (BE (v := Value.int .i64 p1.2.1) 0 F Aa Aa T3 Aa).q fun a F => ?_
 refine qs F Aa (Be (v := Value.int .i64 (AX p0.2.1 p1.2.1)) F Yt Aa (fun w W => HD any w p0.2.1 p1.2.1 _ Aa)) fun a F => ?_
 refine AD fun w W => ?_
 refine D6 (z := Value.int .i64 0) (cs := [.int .i64 (AX p0.2.2.2 p1.2.2.2), .int .i64 (AX p0.1 p1.1), .int .i64 (AX p0.2.1 p1.2.1)]) (Rp.int .i64) ([(AX p0.2.2.2 p1.2.2.2), (AX p0.1 p1.1), (AX p0.2.1 p1.2.1)] : List Int) F W Aa EJ Z3 Aa Aa Aa Aa Aa Aa (Fl.int.repL _ _ ([(AX p0.2.2.2 p1.2.2.2), (AX p0.1 p1.1), (AX p0.2.1 p1.2.1)] : List Int)) fun v1 a w F W => ?_
 obtain ⟨x1, h1, H⟩ := Ac H
 refine ls F W Aa (Be (v := Value.int .i64 x1) F aE Aa (fun w W => Pg any w (v1) ([(AX p0.2.2.2 p1.2.2.2), (AX p0.1 p1.1), (AX p0.2.1 p1.2.1)] : List Int) _ h1 (EG (Af 0 Aa) W))) fun a w F W => ?_
 refine BR tk 3 F W fun a w F W => ?_
 refine Ao ?_
 have H := Ax H
 subst H
 refine A1 (.inl Aa) F W Aa (Am F Aa) ?_
 exact ⟨rfl, W.done⟩
theorem RO : Has Tryz.prog 22 := Cu Tryz.func22
abbrev Jr (a0 : Int × Int × Int × Int) (a1 : Int × Int × Int × Int) : List Value := [.agg #[.int .i64 a0.1, .int .i64 a0.2.1, .int .i64 a0.2.2.1, .int .i64 a0.2.2.2], .agg #[.int .i64 a1.1, .int .i64 a1.2.1, .int .i64 a1.2.2.1, .int .i64 a1.2.2.2]]
noncomputable def AZ (p1 : Int) : ((List (Int × Int × Int × Int)) × Int) → Option (((List (Int × Int × Int × Int)) × Int) ⊕ (List (Int × Int × Int × Int)))
  | (x4, x5) => (if p1 < x5 then (ix x4 x5).bind fun x7 => (ix x4 (An (x5 - 1))).bind fun x8 => (Cb x7 x8).bind fun x9 => some (decide (x9 < 0)) else some false).bind fun x6 => (if x6 = true then (ix x4 (An (x5 - 1))).bind fun x10 => (ix x4 x5).bind fun x11 => (ix x4 x5).bind fun x12 => (ix (Ah x4 x5 x10) (An (x5 - 1))).bind fun x13 => some (.inl ((Ah (Ah x4 x5 x10) (An (x5 - 1)) x11), An (x5 - 1))) else some (.inr x4))
noncomputable def Bu (p1 : Int) (p2 : Int) : ((List (Int × Int × Int × Int)) × Int) → Option (((List (Int × Int × Int × Int)) × Int) ⊕ (List (Int × Int × Int × Int)))
  | (x1, x2) => (if x2 < p2 then (Ap (AZ p1) (x1, x2)).bind fun x3 => some (.inl (x3, An (x2 + 1))) else some (.inr x1))
noncomputable def B4 (p0 : List (Int × Int × Int × Int)) (p1 : Int) (p2 : Int) : Option (List (Int × Int × Int × Int)) := Ap (Bu p1 p2) (p0, An (p1 + 1))
theorem F9 (Y : Nat → Prop) (X : List Nat) (w0 : World) (v1 : Value) (p0 : List (Int × Int × Int × Int)) (p1 : Int) (p2 : Int) (r : (List (Int × Int × Int × Int))) (H : B4 p0 p1 p2 = some r) (hL : Stw ⟨Y, X, w0⟩ [] [row v1 43 A5 p0] w0) :
    Calls Tryz.prog 60 #[v1, .int .i64 p1, .int .i64 p2, .func (.func 22) #[] #[]] w0 fun e w' => ∃ x : Unit, e = .returned (.tuple #[]) ∧ Stw ⟨Y, X, w0⟩ [] [row v1 43 A5 r] w' := by
 refine enter Tryz.func60 Aa Tryz.ntmps60 Aa fun a F => ?_
 have W := hL
 unfold B4 at H
 refine vc tk 8 F W fun a w F W => ?_
 refine AL H (fun s a w => Fr 53 [] [(0, v1), (1, .int .i64 p1), (2, .int .i64 p2), (3, .func (.func 22) #[] #[]), (8, .int .i64 s.2)] a ∧ Stw ⟨Y, X, w0⟩ [] [row v1 43 A5 s.1] w) ⟨F.ra Aa, W⟩ fun s o a w H L1 hR => ?_
 obtain ⟨x1, x2⟩ := s
 obtain ⟨F, W⟩ := hR
 have F : Fr 53 [] [(0, v1), (1, .int .i64 p1), (2, .int .i64 p2), (3, .func (.func 22) #[] #[]), (8, .int .i64 x2)] a := F
 have W : Stw ⟨Y, X, w0⟩ [] [row v1 43 A5 x1] w := W
 rw [Bu] at H
 refine vc tk 8 F W fun a w F W => ?_
 refine AU F Aa H (fun F H => ?_) fun F H => ?_
 ·
  refine AB (Ab ?_)
  obtain ⟨o2, G2, K2⟩ := Ac H
  refine Aq (fun a w => ∃ x3 : List (Int × Int × Int × Int), some (x3) = some o2 ∧ Fr 53 [] [(0, v1), (1, .int .i64 p1), (2, .int .i64 p2), (3, .func (.func 22) #[] #[]), (8, .int .i64 x2)] a ∧ Stw ⟨Y, X, w0⟩ [] [row v1 43 A5 x3] w) ?_ ?_
  ·
   have H := G2
   clear G2 K2
   refine vc tk 8 F W fun a w F W => ?_
   refine AL H (fun s a w => Fr 53 [] [(0, v1), (1, .int .i64 p1), (2, .int .i64 p2), (3, .func (.func 22) #[] #[]), (8, .int .i64 x2), (9, .int .i64 s.2)] a ∧ Stw ⟨Y, X, w0⟩ [] [row v1 43 A5 s.1] w) ⟨F.ra Aa, W⟩ fun s o a w H L3 hR => ?_
   obtain ⟨x4, x5⟩ := s
   obtain ⟨F, W⟩ := hR
   have F : Fr 53 [] [(0, v1), (1, .int .i64 p1), (2, .int .i64 p2), (3, .func (.func 22) #[] #[]), (8, .int .i64 x2), (9, .int .i64 x5)] a := F
   have W : Stw ⟨Y, X, w0⟩ [] [row v1 43 A5 x4] w := W
   rw [AZ] at H
   refine Hp ?_
   obtain ⟨o4, G4, K4⟩ := Ac H
   refine Aq (fun a w => ∃ x6 : Bool, some (x6) = some o4 ∧ Fr 53 [] [(0, v1), (1, .int .i64 p1), (2, .int .i64 p2), (3, .func (.func 22) #[] #[]), (8, .int .i64 x2), (9, .int .i64 x5), (34, .bool x6)] a ∧ Stw ⟨Y, X, w0⟩ [] [row v1 43 A5 x4] w) ?_ ?_
   ·
    have H := G4
    clear G4 K4
    refine BB W MO (by kernel_rfl) ?_
    iterate 2 refine qs F Aa (Ai F Aa).q fun a F => ?_
    refine qs F Aa (Qb F Aa Aa).q fun a F => ?_
    refine qs F Aa (Ai F Aa).q fun a F => ?_
    rcases Bool.eq_false_or_eq_true (decide (p1 < x5)) with hb | hb
    ·
     have H := D0 (Fm hb) H
     rw [hb] at F
     clear hb
     iterate 3 refine A8 F (Ae F Aa Aa Aa Aa) Aa (As Aa) (Ai F Aa).q fun a F => ?_
     obtain ⟨x7, h1, H⟩ := Ac H
     refine A8 F (Ae F Aa Aa Aa Aa) Aa (As Aa) (Al (r := A5) EM F Aa Aa (Af 0 Aa) h1).q fun a F => ?_
     refine A8 F (Ae F Aa Aa Aa Aa) Aa (As Aa) (Ag (y := Value.agg #[.int .i64 x7.1, .int .i64 x7.2.1, .int .i64 x7.2.2.1, .int .i64 x7.2.2.2]) (j := 0) (i := x5) F Aa Aa (Af 0 Aa) h1 ES.to Er Aa).q fun a F => ?_
     iterate 2 refine A8 F (Ae F Aa Aa Aa Aa) Aa (As Aa) (Ai F Aa).q fun a F => ?_
     refine A8 F (Ae F Aa Aa Aa Aa) Aa (As Aa) (Eu F Aa Aa Aa).q fun a F => ?_
     obtain ⟨x8, h2, H⟩ := Ac H
     refine A8 F (Ae F Aa Aa Aa Aa) Aa (As Aa) (Al (r := A5) EM F Aa Aa (Af 0 Aa) h2).q fun a F => ?_
     refine A8 F (Ae F Aa Aa Aa Aa) Aa (As Aa) (Ag (y := Value.agg #[.int .i64 x8.1, .int .i64 x8.2.1, .int .i64 x8.2.2.1, .int .i64 x8.2.2.2]) (j := 0) (i := An (x5 - 1)) F Aa Aa (Af 0 Aa) h2 ES.to Er Aa).q fun a F => ?_
     obtain ⟨x9, h3, H⟩ := Ac H
     refine A8 F (Ae F Aa Aa Aa Aa) Aa (As Aa) (E1 (ws := (Jr x7 x8)) (v := Value.int .i64 x9) F RO Aa (fun w W => Cn any w x7 x8 _ h3)) fun a F => ?_
     refine A8 F (Ae F Aa Aa Aa Aa) Aa (As Aa) (GM F Aa Aa).q fun a F => ?_
     refine qs F Aa (Dh F Aa Aa Aa).q fun a F => ?_
     refine AD fun w W => ?_
     refine Ab ?_
     exact ⟨_, H, F.ra Aa, W⟩
    have H := DZ (Fo hb) H
    rw [hb] at F
    clear hb
    iterate 12 refine Ds F (C3 F Aa Aa Aa Aa Aa) Aa Aa fun a F => ?_
    refine qs F Aa (DC F Aa Aa Aa).q fun a F => ?_
    refine AD fun w W => ?_
    refine Ab ?_
    exact ⟨_, H, F.ra Aa, W⟩
   rintro a w ⟨x6, hj, F, W⟩
   have hj := Ax hj
   subst hj
   have H := K4
   clear G4 K4
   refine C2 F Aa H (fun F H => ?_) fun F H => ?_
   ·
    refine FP tk 4 F W fun a w F W => ?_
    refine ER [(true, 0), (true, 1), (true, 2), (true, 3), (true, 4), (true, 5), (true, 6), (true, 7), (true, 8), (true, 9), (true, 10), (true, 11), (true, 12), (true, 13), (true, 14), (false, 15), (true, 16), (false, 17)] (CN ⟨Y, X, w0⟩ [] [(some 15, row v1 43 A5 x4)]) (fun ch a d v w h => by cases d <;> exact h) MO (by kernel_rfl) W (fun w W => ⟨_, _, W, Ak, (all_cons (fun _ => (.head _)) Ak)⟩) fun w W => ?_
    iterate 4 refine A6 (R := []) F Aa Aa (yC fun M Z hN hZ => Ai F Aa) Aa Aa fun a F => ?_
    refine A6 (R := []) F Aa Aa (yC fun M Z hN hZ => Eu F Aa Aa Aa) Aa Aa fun a F => ?_
    iterate 2 refine A6 (R := []) F Aa Aa (yC fun M Z hN hZ => Ai F Aa) Aa Aa fun a F => ?_
    refine A6 (R := []) F Aa Aa (yC fun M Z hN hZ => Eu F Aa Aa Aa) Aa Aa fun a F => ?_
    obtain ⟨x10, h4, H⟩ := Ac H
    refine A6 (R := []) F Aa Aa (yC fun M Z hN hZ => Ba (r := A5) EM F Aa Aa (C1 W (Af 0 Aa)) h4) Aa Aa fun a F => ?_
    refine A6 (R := [15]) F Aa Aa (yC fun M Z hN hZ => Ag (y := Value.agg #[.int .i64 x10.1, .int .i64 x10.2.1, .int .i64 x10.2.2.1, .int .i64 x10.2.2.2]) (j := 0) (i := An (x5 - 1)) F Aa Aa (Di (hZ ((some 15), row v1 43 A5 x4) (.head _) Aa)) h4 ES.to Er Aa) (by kernel_rfl) Aa fun a F => ?_
    iterate 2 refine A6 (R := []) F Aa Aa (yC fun M Z hN hZ => Ai F Aa) Aa Aa fun a F => ?_
    obtain ⟨x11, h5, H⟩ := Ac H
    refine A6 (R := []) F Aa Aa (yC fun M Z hN hZ => Ba (r := A5) EM F Aa Aa (C1 W (Af 0 Aa)) h5) Aa Aa fun a F => ?_
    refine A6 (R := [15]) F Aa Aa (yC fun M Z hN hZ => Ag (y := Value.agg #[.int .i64 x11.1, .int .i64 x11.2.1, .int .i64 x11.2.2.1, .int .i64 x11.2.2.2]) (j := 0) (i := x5) F Aa Aa (Di (hZ ((some 15), row v1 43 A5 x4) (.head _) Aa)) h5 ES.to Er Aa) (by kernel_rfl) Aa fun a F => ?_
    obtain ⟨x12, h6, H⟩ := Ac H
    refine A6 (R := []) F Aa Aa (yC fun M Z hN hZ => Ba (r := A5) EM F Aa Aa (C1 W (Af 0 Aa)) h6) Aa Aa fun a F => ?_
    refine F2 Aa ?_
    refine AY (i := x5) (j := 0) (vs := (Ck x10)) (x' := x10) F W Aa Aa Aa (k := 0) Aa Aa h6 Er Aa Aa Aa Aa (fun A cs _ => ES.sto (by rfl) _ _ _) fun w W => ?_
    refine Cm (N2 := []) (NZ2 := []) (N3 := []) (NZ3 := [(some 15, row v1 43 A5 x4)]) W Aa Aa Ak (all_cons (fun h => AJ (by kernel_rfl) h) Ak) ?_
    obtain ⟨x13, h7, H⟩ := Ac H
    refine A6 (R := []) F Aa Aa (yC fun M Z hN hZ => Ba (r := A5) EM F Aa Aa (C1 W (Af 0 Aa)) h7) Aa Aa fun a F => ?_
    refine F2 Aa ?_
    refine AY (i := An (x5 - 1)) (j := 0) (vs := (Ck x11)) (x' := x11) F W Aa Aa Aa (k := 0) Aa Aa h7 Er Aa Aa Aa Aa (fun A cs _ => ES.sto (by rfl) _ _ _) fun w W => ?_
    refine Cm (N2 := []) (NZ2 := []) (N3 := []) (NZ3 := [(some 15, row v1 43 A5 x4)]) W Aa Aa Ak (all_cons (fun h => AJ (by kernel_rfl) h) Ak) ?_
    refine Hg (Aw ?_)
    refine vn tk 5 F W fun a w F W => ?_
    refine Ab ?_
    exact ⟨_, H, F.ra Aa, W⟩
   refine AA ?_
   iterate 2 refine AQ ?_
   refine AC (Aw (Ab ?_))
   have H := L3 _ H
   exact ⟨_, H, F.ra Aa, W⟩
  rintro a w ⟨x3, hj, F, W⟩
  have hj := Ax hj
  subst hj
  have H := K2
  clear G2 K2
  refine vc tk 5 F W fun a w F W => ?_
  refine Ab ?_
  exact ⟨_, H, F.ra Aa, W⟩
 refine AA ?_
 iterate 2 refine AQ ?_
 refine AC ?_
 have H := L1 _ H
 have H := Ax H
 subst H
 refine Jf (.inr Aa) F Aa ?_
 exact ⟨(), Aa, W⟩
theorem bX : Has Tryz.prog 60 := Cu Tryz.func60
noncomputable def AK (p2 : Int) (p3 : Int) : ((List (Int × Int × Int × Int)) × Int) → Option (((List (Int × Int × Int × Int)) × Int) ⊕ (List (Int × Int × Int × Int)))
  | (x1, x2) => (if p2 ≤ (An ((An (2 * x2)) + 1)) then some (.inr x1) else ((if (An ((An ((An (2 * x2)) + 1)) + 1)) < p2 then (ix x1 (An (p3 + (An ((An (2 * x2)) + 1))))).bind fun x5 => (ix x1 (An ((An (p3 + (An ((An (2 * x2)) + 1)))) + 1))).bind fun x6 => (Cb x5 x6).bind fun x7 => some (decide (x7 < 0)) else some false).bind fun x4 => (if x4 = true then some (An ((An ((An (2 * x2)) + 1)) + 1)) else some (An ((An (2 * x2)) + 1)))).bind fun x3 => (ix x1 (An (p3 + x2))).bind fun x8 => (ix x1 (An (p3 + x3))).bind fun x9 => (Cb x8 x9).bind fun x10 => (if (!(decide (x10 < 0))) = true then some (.inr x1) else (ix x1 (An (p3 + x3))).bind fun x11 => (ix x1 (An (p3 + x2))).bind fun x12 => (ix x1 (An (p3 + x2))).bind fun x13 => (ix (Ah x1 (An (p3 + x2)) x11) (An (p3 + x3))).bind fun x14 => some (.inl ((Ah (Ah x1 (An (p3 + x2)) x11) (An (p3 + x3)) x12), x3))))
noncomputable def B1 (p0 : List (Int × Int × Int × Int)) (p1 : Int) (p2 : Int) (p3 : Int) : Option (List (Int × Int × Int × Int)) := Ap (AK p2 p3) (p0, p1)
theorem EB (Y : Nat → Prop) (X : List Nat) (w0 : World) (v1 : Value) (p0 : List (Int × Int × Int × Int)) (p1 : Int) (p2 : Int) (p3 : Int) (r : (List (Int × Int × Int × Int))) (H : B1 p0 p1 p2 p3 = some r) (hL : Stw ⟨Y, X, w0⟩ [] [row v1 43 A5 p0] w0) :
    Calls Tryz.prog 83 #[v1, .int .i64 p1, .int .i64 p2, .int .i64 p3, .func (.func 22) #[] #[]] w0 fun e w' => ∃ x : Unit, e = .returned (.tuple #[]) ∧ Stw ⟨Y, X, w0⟩ [] [row v1 43 A5 r] w' := by
 refine enter Tryz.func83 Aa Tryz.ntmps83 Aa fun a F => ?_
 have W := hL
 unfold B1 at H
 refine vc tk 7 F W fun a w F W => ?_
 refine AL H (fun s a w => Fr 82 [] [(0, v1), (2, .int .i64 p2), (3, .int .i64 p3), (4, .func (.func 22) #[] #[]), (10, .int .i64 s.2)] a ∧ Stw ⟨Y, X, w0⟩ [] [row v1 43 A5 s.1] w) ⟨F.ra Aa, W⟩ fun s o a w H L1 hR => ?_
 obtain ⟨x1, x2⟩ := s
 obtain ⟨F, W⟩ := hR
 have F : Fr 82 [] [(0, v1), (2, .int .i64 p2), (3, .int .i64 p3), (4, .func (.func 22) #[] #[]), (10, .int .i64 x2)] a := F
 have W : Stw ⟨Y, X, w0⟩ [] [row v1 43 A5 x1] w := W
 rw [AK] at H
 refine vc tk 17 F W fun a w F W => ?_
 refine AU F Aa H (fun F H => ?_) fun F H => ?_
 ·
  refine AA (AQ ?_)
  refine Il Aa ?_
  refine AQ (AC ?_)
  have H := L1 _ H
  have H := Ax H
  subst H
  refine Jf (.inr Aa) F Aa ?_
  exact ⟨(), Aa, W⟩
 refine AB (Ab ?_)
 obtain ⟨o2, G2, K2⟩ := Ac H
 refine Aq (fun a w => ∃ x3 : Int, some (x3) = some o2 ∧ Fr 82 [] [(0, v1), (2, .int .i64 p2), (3, .int .i64 p3), (4, .func (.func 22) #[] #[]), (10, .int .i64 x2), (11, .int .i64 x3)] a ∧ Stw ⟨Y, X, w0⟩ [] [row v1 43 A5 x1] w) ?_ ?_
 ·
  have H := G2
  clear G2 K2
  obtain ⟨o3, G3, K3⟩ := Ac H
  refine Aq (fun a w => ∃ x4 : Bool, some (x4) = some o3 ∧ Fr 82 [] [(0, v1), (2, .int .i64 p2), (3, .int .i64 p3), (4, .func (.func 22) #[] #[]), (10, .int .i64 x2), (11, .int .i64 (An ((An (2 * x2)) + 1))), (40, .bool x4)] a ∧ Stw ⟨Y, X, w0⟩ [] [row v1 43 A5 x1] w) ?_ ?_
  ·
   have H := G3
   clear G3 K3
   refine BB W MO (by kernel_rfl) ?_
   refine qs F Aa (Ai F Aa).q fun a F => ?_
   refine qs F Aa (Is F Aa Aa Aa).q fun a F => ?_
   refine qs F Aa (Ai F Aa).q fun a F => ?_
   refine qs F Aa (GM F Aa Aa).q fun a F => ?_
   refine qs F Aa (Ai F Aa).q fun a F => ?_
   rcases Bool.eq_false_or_eq_true (decide ((An ((An ((An (2 * x2)) + 1)) + 1)) < p2)) with hb | hb
   ·
    have H := D0 (Fm hb) H
    rw [hb] at F
    clear hb
    iterate 4 refine A8 F (Ae F Aa Aa Aa Aa) Aa (As Aa) (Ai F Aa).q fun a F => ?_
    refine A8 F (Ae F Aa Aa Aa Aa) Aa (As Aa) (Is F Aa Aa Aa).q fun a F => ?_
    obtain ⟨x5, h1, H⟩ := Ac H
    refine A8 F (Ae F Aa Aa Aa Aa) Aa (As Aa) (Al (r := A5) EM F Aa Aa (Af 0 Aa) h1).q fun a F => ?_
    refine A8 F (Ae F Aa Aa Aa Aa) Aa (As Aa) (Ag (y := Value.agg #[.int .i64 x5.1, .int .i64 x5.2.1, .int .i64 x5.2.2.1, .int .i64 x5.2.2.2]) (j := 0) (i := An (p3 + (An ((An (2 * x2)) + 1)))) F Aa Aa (Af 0 Aa) h1 ES.to Er Aa).q fun a F => ?_
    iterate 3 refine A8 F (Ae F Aa Aa Aa Aa) Aa (As Aa) (Ai F Aa).q fun a F => ?_
    iterate 2 refine A8 F (Ae F Aa Aa Aa Aa) Aa (As Aa) (Is F Aa Aa Aa).q fun a F => ?_
    obtain ⟨x6, h2, H⟩ := Ac H
    refine A8 F (Ae F Aa Aa Aa Aa) Aa (As Aa) (Al (r := A5) EM F Aa Aa (Af 0 Aa) h2).q fun a F => ?_
    refine A8 F (Ae F Aa Aa Aa Aa) Aa (As Aa) (Ag (y := Value.agg #[.int .i64 x6.1, .int .i64 x6.2.1, .int .i64 x6.2.2.1, .int .i64 x6.2.2.2]) (j := 0) (i := An ((An (p3 + (An ((An (2 * x2)) + 1)))) + 1)) F Aa Aa (Af 0 Aa) h2 ES.to Er Aa).q fun a F => ?_
    obtain ⟨x7, h3, H⟩ := Ac H
    refine A8 F (Ae F Aa Aa Aa Aa) Aa (As Aa) (E1 (ws := (Jr x5 x6)) (v := Value.int .i64 x7) F RO Aa (fun w W => Cn any w x5 x6 _ h3)) fun a F => ?_
    refine A8 F (Ae F Aa Aa Aa Aa) Aa (As Aa) (GM F Aa Aa).q fun a F => ?_
    refine qs F Aa (Dh F Aa Aa Aa).q fun a F => ?_
    refine AD fun w W => ?_
    refine Ab ?_
    exact ⟨_, H, F.ra Aa, W⟩
   have H := DZ (Fo hb) H
   rw [hb] at F
   clear hb
   iterate 16 refine Ds F (C3 F Aa Aa Aa Aa Aa) Aa Aa fun a F => ?_
   refine qs F Aa (DC F Aa Aa Aa).q fun a F => ?_
   refine AD fun w W => ?_
   refine Ab ?_
   exact ⟨_, H, F.ra Aa, W⟩
  rintro a w ⟨x4, hj, F, W⟩
  have hj := Ax hj
  subst hj
  have H := K3
  clear G3 K3
  refine C2 F Aa H (fun F H => ?_) fun F H => ?_
  ·
   refine vc tk 5 F W fun a w F W => ?_
   refine Ab ?_
   exact ⟨_, H, F.ra Aa, W⟩
  refine AB (Ab ?_)
  exact ⟨_, H, F.ra Aa, W⟩
 rintro a w ⟨x3, hj, F, W⟩
 have hj := Ax hj
 subst hj
 have H := K2
 clear G2 K2
 refine vc tk 2 F W fun a w F W => ?_
 refine BB W MO (by kernel_rfl) ?_
 iterate 4 refine qs F Aa (Ai F Aa).q fun a F => ?_
 refine qs F Aa (Is F Aa Aa Aa).q fun a F => ?_
 obtain ⟨x8, h4, H⟩ := Ac H
 refine qs F Aa (Al (r := A5) EM F Aa Aa (Af 0 Aa) h4).q fun a F => ?_
 refine qs F Aa (Ag (y := Value.agg #[.int .i64 x8.1, .int .i64 x8.2.1, .int .i64 x8.2.2.1, .int .i64 x8.2.2.2]) (j := 0) (i := An (p3 + x2)) F Aa Aa (Af 0 Aa) h4 ES.to Er Aa).q fun a F => ?_
 iterate 3 refine qs F Aa (Ai F Aa).q fun a F => ?_
 refine qs F Aa (Is F Aa Aa Aa).q fun a F => ?_
 obtain ⟨x9, h5, H⟩ := Ac H
 refine qs F Aa (Al (r := A5) EM F Aa Aa (Af 0 Aa) h5).q fun a F => ?_
 refine qs F Aa (Ag (y := Value.agg #[.int .i64 x9.1, .int .i64 x9.2.1, .int .i64 x9.2.2.1, .int .i64 x9.2.2.2]) (j := 0) (i := An (p3 + x3)) F Aa Aa (Af 0 Aa) h5 ES.to Er Aa).q fun a F => ?_
 obtain ⟨x10, h6, H⟩ := Ac H
 refine qs F Aa (E1 (ws := (Jr x8 x9)) (v := Value.int .i64 x10) F RO Aa (fun w W => Cn any w x8 x9 _ h6)) fun a F => ?_
 refine qs F Aa (GM F Aa Aa).q fun a F => ?_
 refine qs F Aa (IY F Aa).q fun a F => ?_
 refine AD fun w W => ?_
 refine Ab ?_
 refine C2 F Aa H (fun F H => ?_) fun F H => ?_
 ·
  refine Ao (AE (AW (AE (AW ?_))))
  have H := L1 _ H
  have H := Ax H
  subst H
  refine Jf (.inl Aa) F Aa ?_
  exact ⟨(), Aa, W⟩
 refine FP tk 3 F W fun a w F W => ?_
 refine ER [(true, 0), (true, 1), (true, 2), (true, 3), (true, 4), (true, 5), (true, 6), (true, 7), (true, 8), (true, 9), (true, 10), (true, 11), (true, 12), (true, 13), (true, 14), (true, 15), (true, 16), (true, 17), (true, 18), (true, 19), (true, 20), (false, 21), (true, 22), (false, 23)] (CN ⟨Y, X, w0⟩ [] [(some 21, row v1 43 A5 x1)]) (fun ch a d v w h => by cases d <;> exact h) MO (by kernel_rfl) W (fun w W => ⟨_, _, W, Ak, (all_cons (fun _ => (.head _)) Ak)⟩) fun w W => ?_
 iterate 3 refine A6 (R := []) F Aa Aa (yC fun M Z hN hZ => Ai F Aa) Aa Aa fun a F => ?_
 refine A6 (R := []) F Aa Aa (yC fun M Z hN hZ => Is F Aa Aa Aa) Aa Aa fun a F => ?_
 iterate 3 refine A6 (R := []) F Aa Aa (yC fun M Z hN hZ => Ai F Aa) Aa Aa fun a F => ?_
 refine A6 (R := []) F Aa Aa (yC fun M Z hN hZ => Is F Aa Aa Aa) Aa Aa fun a F => ?_
 iterate 3 refine A6 (R := []) F Aa Aa (yC fun M Z hN hZ => Ai F Aa) Aa Aa fun a F => ?_
 refine A6 (R := []) F Aa Aa (yC fun M Z hN hZ => Is F Aa Aa Aa) Aa Aa fun a F => ?_
 obtain ⟨x11, h7, H⟩ := Ac H
 refine A6 (R := []) F Aa Aa (yC fun M Z hN hZ => Ba (r := A5) EM F Aa Aa (C1 W (Af 0 Aa)) h7) Aa Aa fun a F => ?_
 refine A6 (R := [21]) F Aa Aa (yC fun M Z hN hZ => Ag (y := Value.agg #[.int .i64 x11.1, .int .i64 x11.2.1, .int .i64 x11.2.2.1, .int .i64 x11.2.2.2]) (j := 0) (i := An (p3 + x3)) F Aa Aa (Di (hZ ((some 21), row v1 43 A5 x1) (.head _) Aa)) h7 ES.to Er Aa) (by kernel_rfl) Aa fun a F => ?_
 iterate 3 refine A6 (R := []) F Aa Aa (yC fun M Z hN hZ => Ai F Aa) Aa Aa fun a F => ?_
 refine A6 (R := []) F Aa Aa (yC fun M Z hN hZ => Is F Aa Aa Aa) Aa Aa fun a F => ?_
 obtain ⟨x12, h8, H⟩ := Ac H
 refine A6 (R := []) F Aa Aa (yC fun M Z hN hZ => Ba (r := A5) EM F Aa Aa (C1 W (Af 0 Aa)) h8) Aa Aa fun a F => ?_
 refine A6 (R := [21]) F Aa Aa (yC fun M Z hN hZ => Ag (y := Value.agg #[.int .i64 x12.1, .int .i64 x12.2.1, .int .i64 x12.2.2.1, .int .i64 x12.2.2.2]) (j := 0) (i := An (p3 + x2)) F Aa Aa (Di (hZ ((some 21), row v1 43 A5 x1) (.head _) Aa)) h8 ES.to Er Aa) (by kernel_rfl) Aa fun a F => ?_
 obtain ⟨x13, h9, H⟩ := Ac H
 refine A6 (R := []) F Aa Aa (yC fun M Z hN hZ => Ba (r := A5) EM F Aa Aa (C1 W (Af 0 Aa)) h9) Aa Aa fun a F => ?_
 refine F2 Aa ?_
 refine AY (i := An (p3 + x2)) (j := 0) (vs := (Ck x11)) (x' := x11) F W Aa Aa Aa (k := 0) Aa Aa h9 Er Aa Aa Aa Aa (fun A cs _ => ES.sto (by rfl) _ _ _) fun w W => ?_
 refine Cm (N2 := []) (NZ2 := []) (N3 := []) (NZ3 := [(some 21, row v1 43 A5 x1)]) W Aa Aa Ak (all_cons (fun h => AJ (by kernel_rfl) h) Ak) ?_
 obtain ⟨x14, h10, H⟩ := Ac H
 refine A6 (R := []) F Aa Aa (yC fun M Z hN hZ => Ba (r := A5) EM F Aa Aa (C1 W (Af 0 Aa)) h10) Aa Aa fun a F => ?_
 refine F2 Aa ?_
 refine AY (i := An (p3 + x3)) (j := 0) (vs := (Ck x12)) (x' := x12) F W Aa Aa Aa (k := 0) Aa Aa h10 Er Aa Aa Aa Aa (fun A cs _ => ES.sto (by rfl) _ _ _) fun w W => ?_
 refine Cm (N2 := []) (NZ2 := []) (N3 := []) (NZ3 := [(some 21, row v1 43 A5 x1)]) W Aa Aa Ak (all_cons (fun h => AJ (by kernel_rfl) h) Ak) ?_
 refine Hg ?_
 refine vn tk 4 F W fun a w F W => ?_
 refine Aw (Ab ?_)
 exact ⟨_, H, F.ra Aa, W⟩
theorem Zw : Has Tryz.prog 83 := Cu Tryz.func83
noncomputable def BJ (p1 : Int) (p2 : Int) : ((List (Int × Int × Int × Int)) × Int) → Option (((List (Int × Int × Int × Int)) × Int) ⊕ (List (Int × Int × Int × Int)))
  | (x2, x3) => (if 0 ≤ x3 then (B1 x2 x3 (An (p2 - p1)) p1).bind fun x4 => some (.inl (x4, An (x3 - 1))) else some (.inr x2))
noncomputable def BL (p1 : Int) : ((List (Int × Int × Int × Int)) × Int) → Option (((List (Int × Int × Int × Int)) × Int) ⊕ (List (Int × Int × Int × Int)))
  | (x5, x6) => (if 0 ≤ x6 then (ix x5 (An (p1 + x6))).bind fun x7 => (ix x5 p1).bind fun x8 => (ix x5 p1).bind fun x9 => (ix (Ah x5 p1 x7) (An (p1 + x6))).bind fun x10 => (B1 (Ah (Ah x5 p1 x7) (An (p1 + x6)) x8) 0 x6 p1).bind fun x11 => some (.inl (x11, An (x6 - 1))) else some (.inr x5))
noncomputable def Cv (p0 : List (Int × Int × Int × Int)) (p1 : Int) (p2 : Int) : Option (List (Int × Int × Int × Int)) := (Ap (BJ p1 p2) (p0, An (Int.tdiv (An ((An (p2 - p1)) - 1)) 2))).bind fun x1 => Ap (BL p1) (x1, An ((An (p2 - p1)) - 1))
theorem GU (Y : Nat → Prop) (X : List Nat) (w0 : World) (v1 : Value) (p0 : List (Int × Int × Int × Int)) (p1 : Int) (p2 : Int) (r : (List (Int × Int × Int × Int))) (H : Cv p0 p1 p2 = some r) (hL : Stw ⟨Y, X, w0⟩ [] [row v1 43 A5 p0] w0) :
    Calls Tryz.prog 61 #[v1, .int .i64 p1, .int .i64 p2, .func (.func 22) #[] #[]] w0 fun e w' => ∃ x : Unit, e = .returned (.tuple #[]) ∧ Stw ⟨Y, X, w0⟩ [] [row v1 43 A5 r] w' := by
 refine enter Tryz.func61 Aa Tryz.ntmps61 Aa fun a F => ?_
 have W := hL
 unfold Cv at H
 refine vc tk 19 F W fun a w F W => ?_
 obtain ⟨o1, G1, K1⟩ := Ac H
 refine Aq (fun a w => ∃ x1 : List (Int × Int × Int × Int), some (x1) = some o1 ∧ Fr 60 [] [(0, v1), (3, .func (.func 22) #[] #[]), (8, .int .i64 p1), (9, .int .i64 0), (10, .int .i64 (An (p2 - p1)))] a ∧ Stw ⟨Y, X, w0⟩ [] [row v1 43 A5 x1] w) ?_ ?_
 ·
  have H := G1
  clear G1 K1
  refine vc tk 4 F W fun a w F W => ?_
  refine ls F W Aa (Lm F Aa Aa (by decide) Aa).q fun a w F W => ?_
  refine BR tk 4 F W fun a w F W => ?_
  refine AL H (fun s a w => Fr 60 [] [(0, v1), (3, .func (.func 22) #[] #[]), (8, .int .i64 p1), (9, .int .i64 0), (10, .int .i64 (An (p2 - p1))), (11, .int .i64 s.2)] a ∧ Stw ⟨Y, X, w0⟩ [] [row v1 43 A5 s.1] w) ⟨F.ra Aa, W⟩ fun s o a w H L2 hR => ?_
  obtain ⟨x2, x3⟩ := s
  obtain ⟨F, W⟩ := hR
  have F : Fr 60 [] [(0, v1), (3, .func (.func 22) #[] #[]), (8, .int .i64 p1), (9, .int .i64 0), (10, .int .i64 (An (p2 - p1))), (11, .int .i64 x3)] a := F
  have W : Stw ⟨Y, X, w0⟩ [] [row v1 43 A5 x2] w := W
  rw [BJ] at H
  refine vc tk 7 F W fun a w F W => ?_
  refine AU F Aa H (fun F H => ?_) fun F H => ?_
  ·
   refine FP tk 10 F W fun a w F W => ?_
   obtain ⟨x4, h1, H⟩ := Ac H
   refine A9 (Ml := []) (Zl := [row v1 43 A5 x2]) (β := Unit) (rv := fun x => .tuple #[]) (MM := fun x => []) (ZZ := fun x => [row v1 43 A5 x4]) F W Zw Aa Aa (fun hL => EB _ _ w (v1) x2 x3 (An (p2 - p1)) p1 _ h1 hL) fun x a w F W => ?_
   have W : Stw ⟨Y, X, w0⟩ [] [row v1 43 A5 x4] w := W
   refine FG (Aw ?_)
   refine vn tk 5 F W fun a w F W => ?_
   refine Ab ?_
   exact ⟨_, H, F.ra Aa, W⟩
  refine AA ?_
  iterate 2 refine AQ ?_
  refine AC (Ab ?_)
  have H := L2 _ H
  exact ⟨_, H, F.ra Aa, W⟩
 rintro a w ⟨x1, hj, F, W⟩
 have hj := Ax hj
 subst hj
 have H := K1
 clear G1 K1
 refine vc tk 8 F W fun a w F W => ?_
 refine AL H (fun s a w => Fr 60 [] [(0, v1), (3, .func (.func 22) #[] #[]), (8, .int .i64 p1), (9, .int .i64 0), (12, .int .i64 s.2)] a ∧ Stw ⟨Y, X, w0⟩ [] [row v1 43 A5 s.1] w) ⟨F.ra Aa, W⟩ fun s o a w H L3 hR => ?_
 obtain ⟨x5, x6⟩ := s
 obtain ⟨F, W⟩ := hR
 have F : Fr 60 [] [(0, v1), (3, .func (.func 22) #[] #[]), (8, .int .i64 p1), (9, .int .i64 0), (12, .int .i64 x6)] a := F
 have W : Stw ⟨Y, X, w0⟩ [] [row v1 43 A5 x5] w := W
 rw [BL] at H
 refine vc tk 7 F W fun a w F W => ?_
 refine AU F Aa H (fun F H => ?_) fun F H => ?_
 ·
  refine FP tk 5 F W fun a w F W => ?_
  refine ER [(true, 0), (true, 1), (true, 2), (true, 3), (true, 4), (true, 5), (true, 6), (true, 7), (true, 8), (true, 9), (true, 10), (true, 11), (true, 12), (true, 13), (true, 14), (true, 15), (true, 16), (false, 17), (true, 18), (false, 19)] (CN ⟨Y, X, w0⟩ [] [(some 17, row v1 43 A5 x5)]) (fun ch a d v w h => by cases d <;> exact h) MO (by kernel_rfl) W (fun w W => ⟨_, _, W, Ak, (all_cons (fun _ => (.head _)) Ak)⟩) fun w W => ?_
  iterate 5 refine A6 (R := []) F Aa Aa (yC fun M Z hN hZ => Ai F Aa) Aa Aa fun a F => ?_
  refine A6 (R := []) F Aa Aa (yC fun M Z hN hZ => Is F Aa Aa Aa) Aa Aa fun a F => ?_
  iterate 3 refine A6 (R := []) F Aa Aa (yC fun M Z hN hZ => Ai F Aa) Aa Aa fun a F => ?_
  refine A6 (R := []) F Aa Aa (yC fun M Z hN hZ => Is F Aa Aa Aa) Aa Aa fun a F => ?_
  obtain ⟨x7, h2, H⟩ := Ac H
  refine A6 (R := []) F Aa Aa (yC fun M Z hN hZ => Ba (r := A5) EM F Aa Aa (C1 W (Af 0 Aa)) h2) Aa Aa fun a F => ?_
  refine A6 (R := [17]) F Aa Aa (yC fun M Z hN hZ => Ag (y := Value.agg #[.int .i64 x7.1, .int .i64 x7.2.1, .int .i64 x7.2.2.1, .int .i64 x7.2.2.2]) (j := 0) (i := An (p1 + x6)) F Aa Aa (Di (hZ ((some 17), row v1 43 A5 x5) (.head _) Aa)) h2 ES.to Er Aa) (by kernel_rfl) Aa fun a F => ?_
  iterate 2 refine A6 (R := []) F Aa Aa (yC fun M Z hN hZ => Ai F Aa) Aa Aa fun a F => ?_
  obtain ⟨x8, h3, H⟩ := Ac H
  refine A6 (R := []) F Aa Aa (yC fun M Z hN hZ => Ba (r := A5) EM F Aa Aa (C1 W (Af 0 Aa)) h3) Aa Aa fun a F => ?_
  refine A6 (R := [17]) F Aa Aa (yC fun M Z hN hZ => Ag (y := Value.agg #[.int .i64 x8.1, .int .i64 x8.2.1, .int .i64 x8.2.2.1, .int .i64 x8.2.2.2]) (j := 0) (i := p1) F Aa Aa (Di (hZ ((some 17), row v1 43 A5 x5) (.head _) Aa)) h3 ES.to Er Aa) (by kernel_rfl) Aa fun a F => ?_
  obtain ⟨x9, h4, H⟩ := Ac H
  refine A6 (R := []) F Aa Aa (yC fun M Z hN hZ => Ba (r := A5) EM F Aa Aa (C1 W (Af 0 Aa)) h4) Aa Aa fun a F => ?_
  refine F2 Aa ?_
  refine AY (i := p1) (j := 0) (vs := (Ck x7)) (x' := x7) F W Aa Aa Aa (k := 0) Aa Aa h4 Er Aa Aa Aa Aa (fun A cs _ => ES.sto (by rfl) _ _ _) fun w W => ?_
  refine Cm (N2 := []) (NZ2 := []) (N3 := []) (NZ3 := [(some 17, row v1 43 A5 x5)]) W Aa Aa Ak (all_cons (fun h => AJ (by kernel_rfl) h) Ak) ?_
  obtain ⟨x10, h5, H⟩ := Ac H
  refine A6 (R := []) F Aa Aa (yC fun M Z hN hZ => Ba (r := A5) EM F Aa Aa (C1 W (Af 0 Aa)) h5) Aa Aa fun a F => ?_
  refine F2 Aa ?_
  refine AY (i := An (p1 + x6)) (j := 0) (vs := (Ck x8)) (x' := x8) F W Aa Aa Aa (k := 0) Aa Aa h5 Er Aa Aa Aa Aa (fun A cs _ => ES.sto (by rfl) _ _ _) fun w W => ?_
  refine Cm (N2 := []) (NZ2 := []) (N3 := []) (NZ3 := [(some 17, row v1 43 A5 x5)]) W Aa Aa Ak (all_cons (fun h => AJ (by kernel_rfl) h) Ak) ?_
  refine Hg ?_
  refine vn tk 6 F W fun a w F W => ?_
  obtain ⟨x11, h6, H⟩ := Ac H
  refine A9 (Ml := []) (Zl := [row v1 43 A5 (Ah (Ah x5 p1 x7) (An (p1 + x6)) x8)]) (β := Unit) (rv := fun x => .tuple #[]) (MM := fun x => []) (ZZ := fun x => [row v1 43 A5 x11]) F W Zw Aa Aa (fun hL => EB _ _ w (v1) (Ah (Ah x5 p1 x7) (An (p1 + x6)) x8) 0 x6 p1 _ h6 hL) fun x a w F W => ?_
  have W : Stw ⟨Y, X, w0⟩ [] [row v1 43 A5 x11] w := W
  refine FG (Aw ?_)
  refine vn tk 5 F W fun a w F W => ?_
  refine Ab ?_
  exact ⟨_, H, F.ra Aa, W⟩
 refine AA ?_
 iterate 2 refine AQ ?_
 refine AC ?_
 have H := L3 _ H
 have H := Ax H
 subst H
 refine Jf (.inr Aa) F Aa ?_
 exact ⟨(), Aa, W⟩
theorem aV : Has Tryz.prog 61 := Cu Tryz.func61
noncomputable def BP (p0 : List (Int × Int × Int × Int)) (p1 : Int) (p2 : Int) (p3 : Int) : Option (Int × Int × Int) := (ix p0 p2).bind fun x1 => (ix p0 p1).bind fun x2 => (Cb x1 x2).bind fun x3 => (if x3 < 0 then some (p2, p1, An (p3 + 1)) else some (p1, p2, p3))
theorem DM (Y : Nat → Prop) (X : List Nat) (w0 : World) (v1 : Value) (q_p3 : Nat) (p0 : List (Int × Int × Int × Int)) (p1 : Int) (p2 : Int) (p3 : Int) (r : Int × Int × Int) (H : BP p0 p1 p2 p3 = some r) (h_v1 : Sl w0 (NX X) A5 v1 p0) (hL : Stw ⟨Y, X, w0⟩ [(q_p3, [.int .i64 p3])] [] w0) :
    Calls Tryz.prog 100 #[v1, .int .i64 p1, .int .i64 p2, .pointer (some ⟨q_p3, 0, none⟩), .func (.func 22) #[] #[]] w0 fun e w' => ∃ x : Unit, e = .returned (.tuple #[.int .i64 r.1, .int .i64 r.2.1]) ∧ Stw ⟨Y, X, w0⟩ [(q_p3, [.int .i64 r.2.2])] [] w' := by
 refine enter Tryz.func100 Aa Tryz.ntmps100 Aa fun a F => ?_
 have W := hL
 unfold BP at H
 refine vc tk 8 F W fun a w F W => ?_
 refine BB W MO (by kernel_rfl) ?_
 iterate 3 refine qs F Aa (Ai F Aa).q fun a F => ?_
 obtain ⟨x1, h1, H⟩ := Ac H
 refine qs F Aa (Al (r := A5) EM F Aa Aa (Ad h_v1) h1).q fun a F => ?_
 refine qs F Aa (Ag (y := Value.agg #[.int .i64 x1.1, .int .i64 x1.2.1, .int .i64 x1.2.2.1, .int .i64 x1.2.2.2]) (j := 0) (i := p2) F Aa Aa (Ad h_v1) h1 ES.to Er Aa).q fun a F => ?_
 iterate 2 refine qs F Aa (Ai F Aa).q fun a F => ?_
 obtain ⟨x2, h2, H⟩ := Ac H
 refine qs F Aa (Al (r := A5) EM F Aa Aa (Ad h_v1) h2).q fun a F => ?_
 refine qs F Aa (Ag (y := Value.agg #[.int .i64 x2.1, .int .i64 x2.2.1, .int .i64 x2.2.2.1, .int .i64 x2.2.2.2]) (j := 0) (i := p1) F Aa Aa (Ad h_v1) h2 ES.to Er Aa).q fun a F => ?_
 obtain ⟨x3, h3, H⟩ := Ac H
 refine qs F Aa (E1 (ws := (Jr x1 x2)) (v := Value.int .i64 x3) F RO Aa (fun w W => Cn any w x1 x2 _ h3)) fun a F => ?_
 refine qs F Aa (GM F Aa Aa).q fun a F => ?_
 refine AD fun w W => ?_
 refine Ab ?_
 refine AU F Aa H (fun F H => ?_) fun F H => ?_
 ·
  refine vc tk 3 F W fun a w F W => ?_
  refine ls F W Aa (DS F Aa).q fun a w F W => ?_
  refine Ky tk 2 [0] F W (ai fun a w F W => ?_)
  refine ls F W Aa (DS F Aa).q fun a w F W => ?_
  refine Ey 0 F W Aa Aa Aa T3 Aa Aa Aa fun w W => ?_
  refine BR tk 10 F W fun a w F W => ?_
  refine Ao (AE ?_)
  have H := Ax H
  subst H
  refine FF (.inl Aa) F W Aa (Am F Aa) (Am F Aa) ?_
  exact ⟨(), Aa, W⟩
 refine FP tk 10 F W fun a w F W => ?_
 refine Ao ?_
 have H := Ax H
 subst H
 refine FF (.inl Aa) F W Aa (Am F Aa) (Am F Aa) ?_
 exact ⟨(), Aa, W⟩
theorem Wo : Has Tryz.prog 100 := Cu Tryz.func100
noncomputable def BQ (p0 : List (Int × Int × Int × Int)) (p1 : Int) (p2 : Int) (p3 : Int) (p4 : Int) : Option (Int × Int) := (BP p0 p1 p2 p4).bind fun x1 => (BP p0 x1.2.1 p3 x1.2.2).bind fun x2 => (BP p0 x1.1 x2.1 x2.2.2).bind fun x3 => some (x3.2.1, x3.2.2)
theorem ET (Y : Nat → Prop) (X : List Nat) (w0 : World) (v1 : Value) (q_p4 : Nat) (p0 : List (Int × Int × Int × Int)) (p1 : Int) (p2 : Int) (p3 : Int) (p4 : Int) (r : Int × Int) (H : BQ p0 p1 p2 p3 p4 = some r) (h_v1 : Sl w0 (NX X) A5 v1 p0) (hL : Stw ⟨Y, X, w0⟩ [(q_p4, [.int .i64 p4])] [] w0) :
    Calls Tryz.prog 87 #[v1, .int .i64 p1, .int .i64 p2, .int .i64 p3, .pointer (some ⟨q_p4, 0, none⟩), .func (.func 22) #[] #[]] w0 fun e w' => ∃ x : Unit, e = .returned (.int .i64 r.1) ∧ Stw ⟨Y, X, w0⟩ [(q_p4, [.int .i64 r.2])] [] w' := by
 refine enter Tryz.func87 Aa Tryz.ntmps87 Aa fun a F => ?_
 have W := hL
 unfold BQ at H
 refine vc tk 12 F W fun a w F W => ?_
 obtain ⟨x1, h1, H⟩ := Ac H
 refine A9 (Ml := [(q_p4, [.int .i64 p4])]) (Zl := []) (β := Unit) (rv := fun x => .tuple #[.int .i64 x1.1, .int .i64 x1.2.1]) (MM := fun x => [(q_p4, [.int .i64 x1.2.2])]) (ZZ := fun x => []) F W Wo Aa Aa (fun hL => DM _ _ w (v1) q_p4 p0 p1 p2 p4 _ h1 (W.roX h_v1 (fun g hg => Fq hg)) hL) fun x a w F W => ?_
 have W : Stw ⟨Y, X, w0⟩ [(q_p4, [.int .i64 x1.2.2])] [] w := W
 refine ls F W Aa (Ai F Aa).q fun a w F W => ?_
 refine ls F W Aa (Bi (v := Value.int .i64 x1.1) F Aa Aa).q fun a w F W => ?_
 refine ls F W Aa (Bi (v := Value.int .i64 x1.2.1) F Aa Aa).q fun a w F W => ?_
 refine BR tk 11 F W fun a w F W => ?_
 obtain ⟨x2, h2, H⟩ := Ac H
 refine A9 (Ml := [(q_p4, [.int .i64 x1.2.2])]) (Zl := []) (β := Unit) (rv := fun x => .tuple #[.int .i64 x2.1, .int .i64 x2.2.1]) (MM := fun x => [(q_p4, [.int .i64 x2.2.2])]) (ZZ := fun x => []) F W Wo Aa Aa (fun hL => DM _ _ w (v1) q_p4 p0 x1.2.1 p3 x1.2.2 _ h2 (W.roX h_v1 (fun g hg => Fq hg)) hL) fun x a w F W => ?_
 have W : Stw ⟨Y, X, w0⟩ [(q_p4, [.int .i64 x2.2.2])] [] w := W
 refine ls F W Aa (Ai F Aa).q fun a w F W => ?_
 refine ls F W Aa (Bi (v := Value.int .i64 x2.1) F Aa Aa).q fun a w F W => ?_
 refine ls F W Aa (Bi (v := Value.int .i64 x2.2.1) F Aa Aa).q fun a w F W => ?_
 refine BR tk 11 F W fun a w F W => ?_
 obtain ⟨x3, h3, H⟩ := Ac H
 refine A9 (Ml := [(q_p4, [.int .i64 x2.2.2])]) (Zl := []) (β := Unit) (rv := fun x => .tuple #[.int .i64 x3.1, .int .i64 x3.2.1]) (MM := fun x => [(q_p4, [.int .i64 x3.2.2])]) (ZZ := fun x => []) F W Wo Aa Aa (fun hL => DM _ _ w (v1) q_p4 p0 x1.1 x2.1 x2.2.2 _ h3 (W.roX h_v1 (fun g hg => Fq hg)) hL) fun x a w F W => ?_
 have W : Stw ⟨Y, X, w0⟩ [(q_p4, [.int .i64 x3.2.2])] [] w := W
 refine ls F W Aa (Ai F Aa).q fun a w F W => ?_
 refine ls F W Aa (Bi (v := Value.int .i64 x3.1) F Aa Aa).q fun a w F W => ?_
 refine ls F W Aa (Bi (v := Value.int .i64 x3.2.1) F Aa Aa).q fun a w F W => ?_
 refine BR tk 10 F W fun a w F W => ?_
 refine Ao ?_
 have H := Ax H
 subst H
 refine A1 (.inl Aa) F W Aa (Am F Aa) ?_
 exact ⟨(), Aa, W⟩
theorem Zc : Has Tryz.prog 87 := Cu Tryz.func87
noncomputable def A7 (p0 : List (Int × Int × Int × Int)) (p1 : Int) (p2 : Int) : Option (Int × Int) := (BQ p0 (An (p1 - 1)) p1 (An (p1 + 1)) p2).bind fun x1 => some (x1.1, x1.2)
theorem C5 (Y : Nat → Prop) (X : List Nat) (w0 : World) (v1 : Value) (q_p2 : Nat) (p0 : List (Int × Int × Int × Int)) (p1 : Int) (p2 : Int) (r : Int × Int) (H : A7 p0 p1 p2 = some r) (h_v1 : Sl w0 (NX X) A5 v1 p0) (hL : Stw ⟨Y, X, w0⟩ [(q_p2, [.int .i64 p2])] [] w0) :
    Calls Tryz.prog 86 #[v1, .int .i64 p1, .pointer (some ⟨q_p2, 0, none⟩), .func (.func 22) #[] #[]] w0 fun e w' => ∃ x : Unit, e = .returned (.int .i64 r.1) ∧ Stw ⟨Y, X, w0⟩ [(q_p2, [.int .i64 r.2])] [] w' := by
 refine enter Tryz.func86 Aa Tryz.ntmps86 Aa fun a F => ?_
 have W := hL
 unfold A7 at H
 refine vc tk 15 F W fun a w F W => ?_
 obtain ⟨x1, h1, H⟩ := Ac H
 refine A9 (Ml := [(q_p2, [.int .i64 p2])]) (Zl := []) (β := Unit) (rv := fun x => .int .i64 x1.1) (MM := fun x => [(q_p2, [.int .i64 x1.2])]) (ZZ := fun x => []) F W Zc Aa Aa (fun hL => ET _ _ w (v1) q_p2 p0 (An (p1 - 1)) p1 (An (p1 + 1)) p2 _ h1 (W.roX h_v1 (fun g hg => Fq hg)) hL) fun x a w F W => ?_
 have W : Stw ⟨Y, X, w0⟩ [(q_p2, [.int .i64 x1.2])] [] w := W
 refine BR tk 3 F W fun a w F W => ?_
 refine Ao ?_
 have H := Ax H
 subst H
 refine A1 (.inl Aa) F W Aa (Am F Aa) ?_
 exact ⟨(), Aa, W⟩
theorem Yz : Has Tryz.prog 86 := Cu Tryz.func86
noncomputable def Cd (p0 : List (Int × Int × Int × Int)) (p1 : Int) (p2 : Int) : Option (Int × Int) := (if 8 ≤ (An (p2 - p1)) then (if 50 ≤ (An (p2 - p1)) then (A7 p0 (An (p1 + (An ((An (Int.tdiv (An (p2 - p1)) 4)) * 1)))) 0).bind fun x7 => (A7 p0 (An (p1 + (An ((An (Int.tdiv (An (p2 - p1)) 4)) * 2)))) x7.2).bind fun x8 => (A7 p0 (An (p1 + (An ((An (Int.tdiv (An (p2 - p1)) 4)) * 3)))) x8.2).bind fun x9 => some (x7.1, x8.1, x9.1, x9.2) else some (An (p1 + (An ((An (Int.tdiv (An (p2 - p1)) 4)) * 1))), An (p1 + (An ((An (Int.tdiv (An (p2 - p1)) 4)) * 2))), An (p1 + (An ((An (Int.tdiv (An (p2 - p1)) 4)) * 3))), 0)).bind fun (x3, x4, x5, x6) => (BQ p0 x3 x4 x5 x6).bind fun x10 => some (x10.1, x10.2) else some (An (p1 + (An ((An (Int.tdiv (An (p2 - p1)) 4)) * 2))), 0)).bind fun (x1, x2) => (if x2 = 0 then some (x1, 1) else (if x2 = 12 then some (x1, 2) else some (x1, 0)))
theorem Gj (Y : Nat → Prop) (w0 : World) (v1 : Value) (p0 : List (Int × Int × Int × Int)) (p1 : Int) (p2 : Int) (r : Int × Int) (H : Cd p0 p1 p2 = some r) (h_v1 : Sl w0 (NX []) A5 v1 p0) :
    Calls Tryz.prog 63 #[v1, .int .i64 p1, .int .i64 p2, .func (.func 22) #[] #[]] w0 fun e w' => e = .returned (.tuple #[.int .i64 r.1, .int .i64 r.2]) ∧ Below w0.heap.size w0 w' := by
 refine enter Tryz.func63 Aa Tryz.ntmps63 Aa fun a F => ?_
 have W := Stw.start Y w0
 unfold Cd at H
 refine vc tk 16 F W fun a w F W => ?_
 refine B8 (cs := [.int .i64 0]) F W Aa Z3 Aa fun b1 a w F W => ?_
 refine BR tk 6 F W fun a w F W => ?_
 refine ls F W Aa (Lm F Aa Aa (by decide) Aa).q fun a w F W => ?_
 refine BR tk 9 F W fun a w F W => ?_
 refine ls F W Aa (Lm F Aa Aa (by decide) Aa).q fun a w F W => ?_
 refine BR tk 9 F W fun a w F W => ?_
 refine ls F W Aa (Lm F Aa Aa (by decide) Aa).q fun a w F W => ?_
 refine vl tk 4 F W fun a w F W => ?_
 refine Ab ?_
 obtain ⟨o1, G1, K1⟩ := Ac H
 refine Aq (fun a w => ∃ x1 : Int, ∃ x2 : Int, some ((x1, x2)) = some o1 ∧ Fr 63 [] [(8, .int .i64 0), (9, .int .i64 0), (11, .pointer (some ⟨b1, 0, none⟩)), (13, .int .i64 x1)] a ∧ Stw ⟨Y, [], w0⟩ [(b1, [.int .i64 x2])] [] w) ?_ ?_
 ·
  have H := G1
  clear G1 K1
  refine vc tk 6 F W fun a w F W => ?_
  refine AU F Aa H (fun F H => ?_) fun F H => ?_
  ·
   obtain ⟨o2, G2, K2⟩ := Ac H
   refine Aq (fun a w => ∃ x3 : Int, ∃ x4 : Int, ∃ x5 : Int, ∃ x6 : Int, some ((x3, x4, x5, x6)) = some o2 ∧ Fr 63 [] [(0, v1), (3, .func (.func 22) #[] #[]), (8, .int .i64 0), (9, .int .i64 0), (11, .pointer (some ⟨b1, 0, none⟩)), (12, .int .i64 x3), (13, .int .i64 x4), (14, .int .i64 x5)] a ∧ Stw ⟨Y, [], w0⟩ [(b1, [.int .i64 x6])] [] w) ?_ ?_
   ·
    have H := G2
    clear G2 K2
    refine vc tk 6 F W fun a w F W => ?_
    refine AU F Aa H (fun F H => ?_) fun F H => ?_
    ·
     refine vc tk 5 F W fun a w F W => ?_
     obtain ⟨x7, h1, H⟩ := Ac H
     refine A9 (Ml := [(b1, [.int .i64 0])]) (Zl := []) (β := Unit) (rv := fun x => .int .i64 x7.1) (MM := fun x => [(b1, [.int .i64 x7.2])]) (ZZ := fun x => []) F W Yz Aa Aa (fun hL => C5 _ _ w (v1) b1 p0 (An (p1 + (An ((An (Int.tdiv (An (p2 - p1)) 4)) * 1)))) 0 _ h1 (W.roX h_v1 (fun g hg => Fq hg)) hL) fun x a w F W => ?_
     have W : Stw ⟨Y, [], w0⟩ [(b1, [.int .i64 x7.2])] [] w := W
     refine BR tk 8 F W fun a w F W => ?_
     obtain ⟨x8, h2, H⟩ := Ac H
     refine A9 (Ml := [(b1, [.int .i64 x7.2])]) (Zl := []) (β := Unit) (rv := fun x => .int .i64 x8.1) (MM := fun x => [(b1, [.int .i64 x8.2])]) (ZZ := fun x => []) F W Yz Aa Aa (fun hL => C5 _ _ w (v1) b1 p0 (An (p1 + (An ((An (Int.tdiv (An (p2 - p1)) 4)) * 2)))) x7.2 _ h2 (W.roX h_v1 (fun g hg => Fq hg)) hL) fun x a w F W => ?_
     have W : Stw ⟨Y, [], w0⟩ [(b1, [.int .i64 x8.2])] [] w := W
     refine BR tk 7 F W fun a w F W => ?_
     obtain ⟨x9, h3, H⟩ := Ac H
     refine A9 (Ml := [(b1, [.int .i64 x8.2])]) (Zl := []) (β := Unit) (rv := fun x => .int .i64 x9.1) (MM := fun x => [(b1, [.int .i64 x9.2])]) (ZZ := fun x => []) F W Yz Aa Aa (fun hL => C5 _ _ w (v1) b1 p0 (An (p1 + (An ((An (Int.tdiv (An (p2 - p1)) 4)) * 3)))) x8.2 _ h3 (W.roX h_v1 (fun g hg => Fq hg)) hL) fun x a w F W => ?_
     have W : Stw ⟨Y, [], w0⟩ [(b1, [.int .i64 x9.2])] [] w := W
     refine vl tk 2 F W fun a w F W => ?_
     refine Ab ?_
     exact ⟨_, _, _, _, H, F.ra Aa, W⟩
    refine AB (Ab ?_)
    exact ⟨_, _, _, _, H, F.ra Aa, W⟩
   rintro a w ⟨x3, x4, x5, x6, hj, F, W⟩
   have hj := Ax hj
   subst hj
   have H := K2
   clear G2 K2
   refine vc tk 6 F W fun a w F W => ?_
   obtain ⟨x10, h4, H⟩ := Ac H
   refine A9 (Ml := [(b1, [.int .i64 x6])]) (Zl := []) (β := Unit) (rv := fun x => .int .i64 x10.1) (MM := fun x => [(b1, [.int .i64 x10.2])]) (ZZ := fun x => []) F W Zc Aa Aa (fun hL => ET _ _ w (v1) b1 p0 x3 x4 x5 x6 _ h4 (W.roX h_v1 (fun g hg => Fq hg)) hL) fun x a w F W => ?_
   have W : Stw ⟨Y, [], w0⟩ [(b1, [.int .i64 x10.2])] [] w := W
   refine vl tk 2 F W fun a w F W => ?_
   refine Ab ?_
   exact ⟨_, _, H, F.ra Aa, W⟩
  refine AB (Ab ?_)
  exact ⟨_, _, H, F.ra Aa, W⟩
 rintro a w ⟨x1, x2, hj, F, W⟩
 have hj := Ax hj
 subst hj
 have H := K1
 clear G1 K1
 refine IL tk 12 [0] F W (ai fun a w F W => ?_)
 refine Gu F Aa (fun hb => ?_) fun hb => ?_
 ·
  have H := D0 (Fm hb) H
  rw [hb] at F
  clear hb
  refine vc tk 7 F W fun a w F W => ?_
  refine Ao (AW ?_)
  have H := Ax H
  subst H
  refine FF (.inl Aa) F W Aa (Am F Aa) (Am F Aa) ?_
  exact ⟨rfl, W.done⟩
 have H := DZ (Fo hb) H
 rw [hb] at F
 clear hb
 refine vc tk 6 F W fun a w F W => ?_
 refine Gu F Aa (fun hb => ?_) fun hb => ?_
 ·
  have H := D0 (Fm hb) H
  rw [hb] at F
  clear hb
  refine vc tk 7 F W fun a w F W => ?_
  refine Ao (AW ?_)
  have H := Ax H
  subst H
  refine FF (.inl Aa) F W Aa (Am F Aa) (Am F Aa) ?_
  exact ⟨rfl, W.done⟩
 have H := DZ (Fo hb) H
 rw [hb] at F
 clear hb
 refine vc tk 7 F W fun a w F W => ?_
 refine Ao (AW ?_)
 have H := Ax H
 subst H
 refine FF (.inl Aa) F W Aa (Am F Aa) (Am F Aa) ?_
 exact ⟨rfl, W.done⟩
theorem ZL : Has Tryz.prog 63 := Cu Tryz.func63
noncomputable def Bf  : ((List (Int × Int × Int × Int)) × Int × Int) → Option (((List (Int × Int × Int × Int)) × Int × Int) ⊕ (List (Int × Int × Int × Int)))
  | (x1, x2, x3) => (if x2 < x3 then (ix x1 x3).bind fun x4 => (ix x1 x2).bind fun x5 => (ix x1 x2).bind fun x6 => (ix (Ah x1 x2 x4) x3).bind fun x7 => some (.inl ((Ah (Ah x1 x2 x4) x3 x5), An (x2 + 1), An (x3 - 1))) else some (.inr x1))
noncomputable def BC (p0 : List (Int × Int × Int × Int)) (p1 : Int) (p2 : Int) : Option (List (Int × Int × Int × Int)) := Ap (Bf) (p0, p1, An (p2 - 1))
theorem Gi (Y : Nat → Prop) (X : List Nat) (w0 : World) (v1 : Value) (p0 : List (Int × Int × Int × Int)) (p1 : Int) (p2 : Int) (r : (List (Int × Int × Int × Int))) (H : BC p0 p1 p2 = some r) (hL : Stw ⟨Y, X, w0⟩ [] [row v1 43 A5 p0] w0) :
    Calls Tryz.prog 64 #[v1, .int .i64 p1, .int .i64 p2, .func (.func 22) #[] #[]] w0 fun e w' => ∃ x : Unit, e = .returned (.tuple #[]) ∧ Stw ⟨Y, X, w0⟩ [] [row v1 43 A5 r] w' := by
 refine enter Tryz.func64 Aa Tryz.ntmps64 Aa fun a F => ?_
 have W := hL
 unfold BC at H
 refine vc tk 14 F W fun a w F W => ?_
 refine AL H (fun s a w => Fr 34 [] [(0, v1), (8, .int .i64 s.2.1), (9, .int .i64 s.2.2)] a ∧ Stw ⟨Y, X, w0⟩ [] [row v1 43 A5 s.1] w) ⟨F.ra Aa, W⟩ fun s o a w H L1 hR => ?_
 obtain ⟨x1, x2, x3⟩ := s
 obtain ⟨F, W⟩ := hR
 have F : Fr 34 [] [(0, v1), (8, .int .i64 x2), (9, .int .i64 x3)] a := F
 have W : Stw ⟨Y, X, w0⟩ [] [row v1 43 A5 x1] w := W
 rw [Bf] at H
 refine vc tk 8 F W fun a w F W => ?_
 refine AU F Aa H (fun F H => ?_) fun F H => ?_
 ·
  refine FP tk 4 F W fun a w F W => ?_
  refine Jm 13 [2, 3] [0, 1, 4, 5, 6, 7, 8, 9, 10, 11, 12] (fun ch a d v w h => by cases d <;> exact h) W MO (by kernel_rfl) ?_
  iterate 2 refine hm F Aa Aa Aa fun a F => ?_
  refine KM ?_
  iterate 4 refine hs F Aa Aa Aa (Ai F Aa).q fun a F => ?_
  obtain ⟨x4, h1, H⟩ := Ac H
  refine hs F Aa Aa Aa (Al (r := A5) EM F Aa Aa (Af 0 Aa) h1).q fun a F => ?_
  refine hs F Aa Aa Aa (Ag (y := Value.agg #[.int .i64 x4.1, .int .i64 x4.2.1, .int .i64 x4.2.2.1, .int .i64 x4.2.2.2]) (j := 0) (i := x3) F Aa Aa (Af 0 Aa) h1 ES.to Er Aa).q fun a F => ?_
  iterate 2 refine hs F Aa Aa Aa (Ai F Aa).q fun a F => ?_
  obtain ⟨x5, h2, H⟩ := Ac H
  refine hs F Aa Aa Aa (Al (r := A5) EM F Aa Aa (Af 0 Aa) h2).q fun a F => ?_
  refine hs F Aa Aa Aa (Ag (y := Value.agg #[.int .i64 x5.1, .int .i64 x5.2.1, .int .i64 x5.2.2.1, .int .i64 x5.2.2.2]) (j := 0) (i := x2) F Aa Aa (Af 0 Aa) h2 ES.to Er Aa).q fun a F => ?_
  obtain ⟨x6, h3, H⟩ := Ac H
  refine hs F Aa Aa Aa (Al (r := A5) EM F Aa Aa (Af 0 Aa) h3).q fun a F => ?_
  refine M0 fun w W => ?_
  have W : Stw ⟨Y, X, w0⟩ [] [row v1 43 A5 x1] w := W
  refine AY (i := x2) (j := 0) (vs := (Ck x4)) (x' := x4) F W Aa Aa Aa (k := 0) Aa Aa h3 Er Aa Aa Aa Aa (fun A cs _ => ES.sto (by rfl) _ _ _) fun w W => ?_
  obtain ⟨x7, h4, H⟩ := Ac H
  refine ls F W Aa (Al (r := A5) EM F Aa Aa (Af 0 Aa) h4).q fun a w F W => ?_
  refine AY (i := x3) (j := 0) (vs := (Ck x5)) (x' := x5) F W Aa Aa Aa (k := 0) Aa Aa h4 Er Aa Aa Aa Aa (fun A cs _ => ES.sto (by rfl) _ _ _) fun w W => ?_
  refine BR tk 14 F W fun a w F W => ?_
  refine Aw (Ab ?_)
  exact ⟨_, H, F.ra Aa, W⟩
 refine AA ?_
 iterate 2 refine AQ ?_
 refine AC ?_
 have H := L1 _ H
 have H := Ax H
 subst H
 refine Jf (.inr Aa) F Aa ?_
 exact ⟨(), Aa, W⟩
theorem ZI : Has Tryz.prog 64 := Cu Tryz.func64
noncomputable def Bn (p2 : Int) (x2 : List (Int × Int × Int × Int)) : Int → Option (Int ⊕ Int)
  | x8 => (if x8 < p2 then (ix x2 x8).bind fun x10 => (ix x2 (An (x8 - 1))).bind fun x11 => (Cb x10 x11).bind fun x12 => some (!(decide (x12 < 0))) else some false).bind fun x9 => (if x9 = true then some (.inl (An (x8 + 1))) else some (.inr x8))
noncomputable def Ay  : ((List (Int × Int × Int × Int)) × Int) → Option (((List (Int × Int × Int × Int)) × Int) ⊕ (List (Int × Int × Int × Int)))
  | (x18, x19) => (if 1 ≤ x19 then (ix x18 x19).bind fun x20 => (ix x18 (An (x19 - 1))).bind fun x21 => (Cb x20 x21).bind fun x22 => (if (!(decide (x22 < 0))) = true then some (.inr x18) else (ix x18 (An (x19 - 1))).bind fun x23 => (ix x18 x19).bind fun x24 => (ix x18 x19).bind fun x25 => (ix (Ah x18 x19 x23) (An (x19 - 1))).bind fun x26 => some (.inl ((Ah (Ah x18 x19 x23) (An (x19 - 1)) x24), An (x19 - 1)))) else some (.inr x18))
noncomputable def AG (p2 : Int) (x7 : Int) : ((List (Int × Int × Int × Int)) × Int) → Option (((List (Int × Int × Int × Int)) × Int) ⊕ (((List (Int × Int × Int × Int)) × Int) ⊕ (((List (Int × Int × Int × Int)) × Int × Int) ⊕ ((List (Int × Int × Int × Int)) ⊕ (Bool × (List (Int × Int × Int × Int)))))))
  | (x27, x28) => (if x28 < p2 then (ix x27 x28).bind fun x29 => (ix x27 (An (x28 - 1))).bind fun x30 => (Cb x29 x30).bind fun x31 => (if (!(decide (x31 < 0))) = true then some (.inr (.inl (x27, x7))) else (ix x27 (An (x28 - 1))).bind fun x32 => (ix x27 x28).bind fun x33 => (ix x27 x28).bind fun x34 => (ix (Ah x27 x28 x32) (An (x28 - 1))).bind fun x35 => some (.inl ((Ah (Ah x27 x28 x32) (An (x28 - 1)) x33), An (x28 + 1)))) else some (.inr (.inl (x27, x7))))
noncomputable def AH (p1 : Int) (p2 : Int) : ((List (Int × Int × Int × Int)) × Int × Int) → Option (((List (Int × Int × Int × Int)) × Int × Int) ⊕ ((List (Int × Int × Int × Int)) ⊕ (Bool × (List (Int × Int × Int × Int)))))
  | (x2, x3, x4) => (if x4 < 5 then GN ((Ap (Bn p2 x2) x3).bind fun x7 => (if x7 = p2 then some (.inr (.inr (.inr (true, x2)))) else (if (An (p2 - p1)) < 50 then some (.inr (.inr (.inr (false, x2)))) else (ix x2 (An (x7 - 1))).bind fun x13 => (ix x2 x7).bind fun x14 => (ix x2 x7).bind fun x15 => (ix (Ah x2 x7 x13) (An (x7 - 1))).bind fun x16 => (if 2 ≤ (An (x7 - p1)) then Ap (Ay) ((Ah (Ah x2 x7 x13) (An (x7 - 1)) x14), An (x7 - 1)) else some (Ah (Ah x2 x7 x13) (An (x7 - 1)) x14)).bind fun x17 => (if 2 ≤ (An (p2 - x7)) then Ap (AG p2 x7) (x17, An (x7 + 1)) else some (.inl (x17, x7)))))) fun (x5, x6) => some (.inl (x5, x6, An (x4 + 1))) else some (.inr (.inl x2)))
noncomputable def Bg (p0 : List (Int × Int × Int × Int)) (p1 : Int) (p2 : Int) : Option (Bool × (List (Int × Int × Int × Int))) := GN (Ap (AH p1 p2) (p0, An (p1 + 1), 0)) fun x1 => some (false, x1)
theorem E2 (Y : Nat → Prop) (X : List Nat) (w0 : World) (v1 : Value) (p0 : List (Int × Int × Int × Int)) (p1 : Int) (p2 : Int) (r : Bool × (List (Int × Int × Int × Int))) (H : Bg p0 p1 p2 = some r) (hL : Stw ⟨Y, X, w0⟩ [] [row v1 43 A5 p0] w0) :
    Calls Tryz.prog 65 #[v1, .int .i64 p1, .int .i64 p2, .func (.func 22) #[] #[]] w0 fun e w' => ∃ x : Unit, e = .returned (.bool r.1) ∧ Stw ⟨Y, X, w0⟩ [] [row v1 43 A5 r.2] w' := by
 refine enter Tryz.func65 Aa Tryz.ntmps65 Aa fun a F => ?_
 have W := hL
 unfold Bg at H
 refine vc tk 12 F W fun a w F W => ?_
 obtain ⟨o1, G1, K1, L1⟩ := Mg H
 refine Aq (fun a w => ∃ x1 : List (Int × Int × Int × Int), some (Sum.inl x1) = some o1 ∧ Fr 141 [] [(8, .bool false)] a ∧ Stw ⟨Y, X, w0⟩ [] [row v1 43 A5 x1] w) ?_ ?_
 ·
  have H := G1
  clear G1 K1
  refine vc tk 6 F W fun a w F W => ?_
  refine AL H (fun s a w => Fr 141 [] [(0, v1), (1, .int .i64 p1), (2, .int .i64 p2), (3, .func (.func 22) #[] #[]), (8, .bool false), (9, .int .i64 s.2.1), (10, .int .i64 s.2.2)] a ∧ Stw ⟨Y, X, w0⟩ [] [row v1 43 A5 s.1] w) ⟨F.ra Aa, W⟩ fun s o a w H L2 hR => ?_
  obtain ⟨x2, x3, x4⟩ := s
  obtain ⟨F, W⟩ := hR
  have F : Fr 141 [] [(0, v1), (1, .int .i64 p1), (2, .int .i64 p2), (3, .func (.func 22) #[] #[]), (8, .bool false), (9, .int .i64 x3), (10, .int .i64 x4)] a := F
  have W : Stw ⟨Y, X, w0⟩ [] [row v1 43 A5 x2] w := W
  rw [AH] at H
  refine vc tk 7 F W fun a w F W => ?_
  refine AU F Aa H (fun F H => ?_) fun F H => ?_
  ·
   refine AB (Ab ?_)
   obtain ⟨o3, G3, K3, L3⟩ := Mg H
   refine Aq (fun a w => ∃ x5 : List (Int × Int × Int × Int), ∃ x6 : Int, some (Sum.inl (x5, x6)) = some o3 ∧ Fr 141 [] [(0, v1), (1, .int .i64 p1), (2, .int .i64 p2), (3, .func (.func 22) #[] #[]), (8, .bool false), (9, .int .i64 x6), (10, .int .i64 x4)] a ∧ Stw ⟨Y, X, w0⟩ [] [row v1 43 A5 x5] w) ?_ ?_
   ·
    have H := G3
    clear G3 K3
    refine Ep ?_
    obtain ⟨o4, G4, K4⟩ := Ac H
    refine Aq (fun a w => ∃ x7 : Int, some (x7) = some o4 ∧ Fr 141 [] [(0, v1), (1, .int .i64 p1), (2, .int .i64 p2), (3, .func (.func 22) #[] #[]), (8, .bool false), (9, .int .i64 x7), (10, .int .i64 x4)] a ∧ Stw ⟨Y, X, w0⟩ [] [row v1 43 A5 x2] w) ?_ ?_
    ·
     have H := G4
     clear G4 K4
     refine Ep ?_
     refine AL H (fun s a w => Fr 141 [] [(0, v1), (1, .int .i64 p1), (2, .int .i64 p2), (3, .func (.func 22) #[] #[]), (8, .bool false), (9, .int .i64 s), (10, .int .i64 x4)] a ∧ Stw ⟨Y, X, w0⟩ [] [row v1 43 A5 x2] w) ⟨F.ra Aa, W⟩ fun s o a w H L5 hR => ?_
     obtain ⟨x8, rfl⟩ : ∃ x, x = s := ⟨s, rfl⟩
     obtain ⟨F, W⟩ := hR
     have F : Fr 141 [] [(0, v1), (1, .int .i64 p1), (2, .int .i64 p2), (3, .func (.func 22) #[] #[]), (8, .bool false), (9, .int .i64 x8), (10, .int .i64 x4)] a := F
     have W : Stw ⟨Y, X, w0⟩ [] [row v1 43 A5 x2] w := W
     rw [Bn] at H
     refine Hp ?_
     obtain ⟨o6, G6, K6⟩ := Ac H
     refine Aq (fun a w => ∃ x9 : Bool, some (x9) = some o6 ∧ Fr 141 [] [(0, v1), (1, .int .i64 p1), (2, .int .i64 p2), (3, .func (.func 22) #[] #[]), (8, .bool false), (9, .int .i64 x8), (10, .int .i64 x4), (36, .bool x9)] a ∧ Stw ⟨Y, X, w0⟩ [] [row v1 43 A5 x2] w) ?_ ?_
     ·
      have H := G6
      clear G6 K6
      refine BB W MO (by kernel_rfl) ?_
      iterate 2 refine qs F Aa (Ai F Aa).q fun a F => ?_
      refine qs F Aa (GM F Aa Aa).q fun a F => ?_
      refine qs F Aa (Ai F Aa).q fun a F => ?_
      rcases Bool.eq_false_or_eq_true (decide (x8 < p2)) with hb | hb
      ·
       have H := D0 (Fm hb) H
       rw [hb] at F
       clear hb
       iterate 3 refine A8 F (Ae F Aa Aa Aa Aa) Aa (As Aa) (Ai F Aa).q fun a F => ?_
       obtain ⟨x10, h1, H⟩ := Ac H
       refine A8 F (Ae F Aa Aa Aa Aa) Aa (As Aa) (Al (r := A5) EM F Aa Aa (Af 0 Aa) h1).q fun a F => ?_
       refine A8 F (Ae F Aa Aa Aa Aa) Aa (As Aa) (Ag (y := Value.agg #[.int .i64 x10.1, .int .i64 x10.2.1, .int .i64 x10.2.2.1, .int .i64 x10.2.2.2]) (j := 0) (i := x8) F Aa Aa (Af 0 Aa) h1 ES.to Er Aa).q fun a F => ?_
       iterate 2 refine A8 F (Ae F Aa Aa Aa Aa) Aa (As Aa) (Ai F Aa).q fun a F => ?_
       refine A8 F (Ae F Aa Aa Aa Aa) Aa (As Aa) (Eu F Aa Aa Aa).q fun a F => ?_
       obtain ⟨x11, h2, H⟩ := Ac H
       refine A8 F (Ae F Aa Aa Aa Aa) Aa (As Aa) (Al (r := A5) EM F Aa Aa (Af 0 Aa) h2).q fun a F => ?_
       refine A8 F (Ae F Aa Aa Aa Aa) Aa (As Aa) (Ag (y := Value.agg #[.int .i64 x11.1, .int .i64 x11.2.1, .int .i64 x11.2.2.1, .int .i64 x11.2.2.2]) (j := 0) (i := An (x8 - 1)) F Aa Aa (Af 0 Aa) h2 ES.to Er Aa).q fun a F => ?_
       obtain ⟨x12, h3, H⟩ := Ac H
       refine A8 F (Ae F Aa Aa Aa Aa) Aa (As Aa) (E1 (ws := (Jr x10 x11)) (v := Value.int .i64 x12) F RO Aa (fun w W => Cn any w x10 x11 _ h3)) fun a F => ?_
       refine A8 F (Ae F Aa Aa Aa Aa) Aa (As Aa) (GM F Aa Aa).q fun a F => ?_
       refine A8 F (Ae F Aa Aa Aa Aa) Aa (As Aa) (IY F Aa).q fun a F => ?_
       refine qs F Aa (Dh F Aa Aa Aa).q fun a F => ?_
       refine AD fun w W => ?_
       refine Ab ?_
       exact ⟨_, H, F.ra Aa, W⟩
      have H := DZ (Fo hb) H
      rw [hb] at F
      clear hb
      iterate 13 refine Ds F (C3 F Aa Aa Aa Aa Aa) Aa Aa fun a F => ?_
      refine qs F Aa (DC F Aa Aa Aa).q fun a F => ?_
      refine AD fun w W => ?_
      refine Ab ?_
      exact ⟨_, H, F.ra Aa, W⟩
     rintro a w ⟨x9, hj, F, W⟩
     have hj := Ax hj
     subst hj
     have H := K6
     clear G6 K6
     refine C2 F Aa H (fun F H => ?_) fun F H => ?_
     ·
      refine FP tk 8 F W fun a w F W => ?_
      refine Ab ?_
      exact ⟨_, H, F.ra Aa, W⟩
     refine AA ?_
     iterate 2 refine AQ ?_
     refine AC (Ab ?_)
     have H := L5 _ H
     exact ⟨_, H, F.ra Aa, W⟩
    rintro a w ⟨x7, hj, F, W⟩
    have hj := Ax hj
    subst hj
    have H := K4
    clear G4 K4
    refine vc tk 8 F W fun a w F W => ?_
    refine AU F Aa H (fun F H => ?_) fun F H => ?_
    ·
     refine vc tk 5 F W fun a w F W => ?_
     refine Ao (AE (AW ?_))
     iterate 2 refine AE ?_
     refine AW (AE ?_)
     have H := L3 _ H
     have H := L2 _ H
     have H := L1 _ H
     have H := Ax H
     subst H
     refine A1 (.inl Aa) F W Aa (Am F Aa) ?_
     exact ⟨(), Aa, W⟩
    refine FP tk 11 F W fun a w F W => ?_
    refine AU F Aa H (fun F H => ?_) fun F H => ?_
    ·
     refine vc tk 5 F W fun a w F W => ?_
     refine Ao (AE (AW ?_))
     iterate 2 refine AE ?_
     refine AW (AE ?_)
     have H := L3 _ H
     have H := L2 _ H
     have H := L1 _ H
     have H := Ax H
     subst H
     refine A1 (.inl Aa) F W Aa (Am F Aa) ?_
     exact ⟨(), Aa, W⟩
    refine FP tk 3 F W fun a w F W => ?_
    refine ER [(true, 0), (true, 1), (true, 2), (true, 3), (true, 4), (true, 5), (true, 6), (true, 7), (true, 8), (true, 9), (true, 10), (true, 11), (true, 12), (true, 13), (true, 14), (false, 15), (true, 16), (false, 17)] (CN ⟨Y, X, w0⟩ [] [(some 15, row v1 43 A5 x2)]) (fun ch a d v w h => by cases d <;> exact h) MO (by kernel_rfl) W (fun w W => ⟨_, _, W, Ak, (all_cons (fun _ => (.head _)) Ak)⟩) fun w W => ?_
    iterate 4 refine A6 (R := []) F Aa Aa (yC fun M Z hN hZ => Ai F Aa) Aa Aa fun a F => ?_
    refine A6 (R := []) F Aa Aa (yC fun M Z hN hZ => Eu F Aa Aa Aa) Aa Aa fun a F => ?_
    iterate 2 refine A6 (R := []) F Aa Aa (yC fun M Z hN hZ => Ai F Aa) Aa Aa fun a F => ?_
    refine A6 (R := []) F Aa Aa (yC fun M Z hN hZ => Eu F Aa Aa Aa) Aa Aa fun a F => ?_
    obtain ⟨x13, h4, H⟩ := Ac H
    refine A6 (R := []) F Aa Aa (yC fun M Z hN hZ => Ba (r := A5) EM F Aa Aa (C1 W (Af 0 Aa)) h4) Aa Aa fun a F => ?_
    refine A6 (R := [15]) F Aa Aa (yC fun M Z hN hZ => Ag (y := Value.agg #[.int .i64 x13.1, .int .i64 x13.2.1, .int .i64 x13.2.2.1, .int .i64 x13.2.2.2]) (j := 0) (i := An (x7 - 1)) F Aa Aa (Di (hZ ((some 15), row v1 43 A5 x2) (.head _) Aa)) h4 ES.to Er Aa) (by kernel_rfl) Aa fun a F => ?_
    iterate 2 refine A6 (R := []) F Aa Aa (yC fun M Z hN hZ => Ai F Aa) Aa Aa fun a F => ?_
    obtain ⟨x14, h5, H⟩ := Ac H
    refine A6 (R := []) F Aa Aa (yC fun M Z hN hZ => Ba (r := A5) EM F Aa Aa (C1 W (Af 0 Aa)) h5) Aa Aa fun a F => ?_
    refine A6 (R := [15]) F Aa Aa (yC fun M Z hN hZ => Ag (y := Value.agg #[.int .i64 x14.1, .int .i64 x14.2.1, .int .i64 x14.2.2.1, .int .i64 x14.2.2.2]) (j := 0) (i := x7) F Aa Aa (Di (hZ ((some 15), row v1 43 A5 x2) (.head _) Aa)) h5 ES.to Er Aa) (by kernel_rfl) Aa fun a F => ?_
    obtain ⟨x15, h6, H⟩ := Ac H
    refine A6 (R := []) F Aa Aa (yC fun M Z hN hZ => Ba (r := A5) EM F Aa Aa (C1 W (Af 0 Aa)) h6) Aa Aa fun a F => ?_
    refine F2 Aa ?_
    refine AY (i := x7) (j := 0) (vs := (Ck x13)) (x' := x13) F W Aa Aa Aa (k := 0) Aa Aa h6 Er Aa Aa Aa Aa (fun A cs _ => ES.sto (by rfl) _ _ _) fun w W => ?_
    refine Cm (N2 := []) (NZ2 := []) (N3 := []) (NZ3 := [(some 15, row v1 43 A5 x2)]) W Aa Aa Ak (all_cons (fun h => AJ (by kernel_rfl) h) Ak) ?_
    obtain ⟨x16, h7, H⟩ := Ac H
    refine A6 (R := []) F Aa Aa (yC fun M Z hN hZ => Ba (r := A5) EM F Aa Aa (C1 W (Af 0 Aa)) h7) Aa Aa fun a F => ?_
    refine F2 Aa ?_
    refine AY (i := An (x7 - 1)) (j := 0) (vs := (Ck x14)) (x' := x14) F W Aa Aa Aa (k := 0) Aa Aa h7 Er Aa Aa Aa Aa (fun A cs _ => ES.sto (by rfl) _ _ _) fun w W => ?_
    refine Cm (N2 := []) (NZ2 := []) (N3 := []) (NZ3 := [(some 15, row v1 43 A5 x2)]) W Aa Aa Ak (all_cons (fun h => AJ (by kernel_rfl) h) Ak) ?_
    refine Hg (Ab ?_)
    obtain ⟨o7, G7, K7⟩ := Ac H
    refine Aq (fun a w => ∃ x17 : List (Int × Int × Int × Int), some (x17) = some o7 ∧ Fr 141 [] [(0, v1), (1, .int .i64 p1), (2, .int .i64 p2), (3, .func (.func 22) #[] #[]), (8, .bool false), (9, .int .i64 x7), (10, .int .i64 x4)] a ∧ Stw ⟨Y, X, w0⟩ [] [row v1 43 A5 x17] w) ?_ ?_
    ·
     have H := G7
     clear G7 K7
     refine vc tk 8 F W fun a w F W => ?_
     refine AU F Aa H (fun F H => ?_) fun F H => ?_
     ·
      refine vc tk 8 F W fun a w F W => ?_
      refine AL H (fun s a w => Fr 141 [] [(0, v1), (1, .int .i64 p1), (2, .int .i64 p2), (3, .func (.func 22) #[] #[]), (8, .bool false), (9, .int .i64 x7), (10, .int .i64 x4), (11, .int .i64 s.2)] a ∧ Stw ⟨Y, X, w0⟩ [] [row v1 43 A5 s.1] w) ⟨F.ra Aa, W⟩ fun s o a w H L8 hR => ?_
      obtain ⟨x18, x19⟩ := s
      obtain ⟨F, W⟩ := hR
      have F : Fr 141 [] [(0, v1), (1, .int .i64 p1), (2, .int .i64 p2), (3, .func (.func 22) #[] #[]), (8, .bool false), (9, .int .i64 x7), (10, .int .i64 x4), (11, .int .i64 x19)] a := F
      have W : Stw ⟨Y, X, w0⟩ [] [row v1 43 A5 x18] w := W
      rw [Ay] at H
      refine vc tk 7 F W fun a w F W => ?_
      refine AU F Aa H (fun F H => ?_) fun F H => ?_
      ·
       refine FP tk 6 F W fun a w F W => ?_
       refine BB W MO (by kernel_rfl) ?_
       iterate 3 refine qs F Aa (Ai F Aa).q fun a F => ?_
       obtain ⟨x20, h8, H⟩ := Ac H
       refine qs F Aa (Al (r := A5) EM F Aa Aa (Af 0 Aa) h8).q fun a F => ?_
       refine qs F Aa (Ag (y := Value.agg #[.int .i64 x20.1, .int .i64 x20.2.1, .int .i64 x20.2.2.1, .int .i64 x20.2.2.2]) (j := 0) (i := x19) F Aa Aa (Af 0 Aa) h8 ES.to Er Aa).q fun a F => ?_
       iterate 2 refine qs F Aa (Ai F Aa).q fun a F => ?_
       refine qs F Aa (Eu F Aa Aa Aa).q fun a F => ?_
       obtain ⟨x21, h9, H⟩ := Ac H
       refine qs F Aa (Al (r := A5) EM F Aa Aa (Af 0 Aa) h9).q fun a F => ?_
       refine qs F Aa (Ag (y := Value.agg #[.int .i64 x21.1, .int .i64 x21.2.1, .int .i64 x21.2.2.1, .int .i64 x21.2.2.2]) (j := 0) (i := An (x19 - 1)) F Aa Aa (Af 0 Aa) h9 ES.to Er Aa).q fun a F => ?_
       obtain ⟨x22, h10, H⟩ := Ac H
       refine qs F Aa (E1 (ws := (Jr x20 x21)) (v := Value.int .i64 x22) F RO Aa (fun w W => Cn any w x20 x21 _ h10)) fun a F => ?_
       refine qs F Aa (GM F Aa Aa).q fun a F => ?_
       refine qs F Aa (IY F Aa).q fun a F => ?_
       refine AD fun w W => ?_
       refine Ab ?_
       refine C2 F Aa H (fun F H => ?_) fun F H => ?_
       ·
        refine AA (AQ ?_)
        refine Il Aa ?_
        iterate 2 refine AQ ?_
        refine AC (Ab ?_)
        have H := L8 _ H
        exact ⟨_, H, F.ra Aa, W⟩
       refine FP tk 2 F W fun a w F W => ?_
       refine ER [(true, 0), (true, 1), (true, 2), (true, 3), (true, 4), (true, 5), (true, 6), (true, 7), (true, 8), (true, 9), (true, 10), (true, 11), (true, 12), (true, 13), (true, 14), (false, 15), (true, 16), (false, 17)] (CN ⟨Y, X, w0⟩ [] [(some 15, row v1 43 A5 x18)]) (fun ch a d v w h => by cases d <;> exact h) MO (by kernel_rfl) W (fun w W => ⟨_, _, W, Ak, (all_cons (fun _ => (.head _)) Ak)⟩) fun w W => ?_
       iterate 4 refine A6 (R := []) F Aa Aa (yC fun M Z hN hZ => Ai F Aa) Aa Aa fun a F => ?_
       refine A6 (R := []) F Aa Aa (yC fun M Z hN hZ => Eu F Aa Aa Aa) Aa Aa fun a F => ?_
       iterate 2 refine A6 (R := []) F Aa Aa (yC fun M Z hN hZ => Ai F Aa) Aa Aa fun a F => ?_
       refine A6 (R := []) F Aa Aa (yC fun M Z hN hZ => Eu F Aa Aa Aa) Aa Aa fun a F => ?_
       obtain ⟨x23, h11, H⟩ := Ac H
       refine A6 (R := []) F Aa Aa (yC fun M Z hN hZ => Ba (r := A5) EM F Aa Aa (C1 W (Af 0 Aa)) h11) Aa Aa fun a F => ?_
       refine A6 (R := [15]) F Aa Aa (yC fun M Z hN hZ => Ag (y := Value.agg #[.int .i64 x23.1, .int .i64 x23.2.1, .int .i64 x23.2.2.1, .int .i64 x23.2.2.2]) (j := 0) (i := An (x19 - 1)) F Aa Aa (Di (hZ ((some 15), row v1 43 A5 x18) (.head _) Aa)) h11 ES.to Er Aa) (by kernel_rfl) Aa fun a F => ?_
       iterate 2 refine A6 (R := []) F Aa Aa (yC fun M Z hN hZ => Ai F Aa) Aa Aa fun a F => ?_
       obtain ⟨x24, h12, H⟩ := Ac H
       refine A6 (R := []) F Aa Aa (yC fun M Z hN hZ => Ba (r := A5) EM F Aa Aa (C1 W (Af 0 Aa)) h12) Aa Aa fun a F => ?_
       refine A6 (R := [15]) F Aa Aa (yC fun M Z hN hZ => Ag (y := Value.agg #[.int .i64 x24.1, .int .i64 x24.2.1, .int .i64 x24.2.2.1, .int .i64 x24.2.2.2]) (j := 0) (i := x19) F Aa Aa (Di (hZ ((some 15), row v1 43 A5 x18) (.head _) Aa)) h12 ES.to Er Aa) (by kernel_rfl) Aa fun a F => ?_
       obtain ⟨x25, h13, H⟩ := Ac H
       refine A6 (R := []) F Aa Aa (yC fun M Z hN hZ => Ba (r := A5) EM F Aa Aa (C1 W (Af 0 Aa)) h13) Aa Aa fun a F => ?_
       refine F2 Aa ?_
       refine AY (i := x19) (j := 0) (vs := (Ck x23)) (x' := x23) F W Aa Aa Aa (k := 0) Aa Aa h13 Er Aa Aa Aa Aa (fun A cs _ => ES.sto (by rfl) _ _ _) fun w W => ?_
       refine Cm (N2 := []) (NZ2 := []) (N3 := []) (NZ3 := [(some 15, row v1 43 A5 x18)]) W Aa Aa Ak (all_cons (fun h => AJ (by kernel_rfl) h) Ak) ?_
       obtain ⟨x26, h14, H⟩ := Ac H
       refine A6 (R := []) F Aa Aa (yC fun M Z hN hZ => Ba (r := A5) EM F Aa Aa (C1 W (Af 0 Aa)) h14) Aa Aa fun a F => ?_
       refine F2 Aa ?_
       refine AY (i := An (x19 - 1)) (j := 0) (vs := (Ck x24)) (x' := x24) F W Aa Aa Aa (k := 0) Aa Aa h14 Er Aa Aa Aa Aa (fun A cs _ => ES.sto (by rfl) _ _ _) fun w W => ?_
       refine Cm (N2 := []) (NZ2 := []) (N3 := []) (NZ3 := [(some 15, row v1 43 A5 x18)]) W Aa Aa Ak (all_cons (fun h => AJ (by kernel_rfl) h) Ak) ?_
       refine Hg (Aw ?_)
       refine vn tk 5 F W fun a w F W => ?_
       refine Ab ?_
       exact ⟨_, H, F.ra Aa, W⟩
      refine AA ?_
      iterate 2 refine AQ ?_
      refine AC (Ab ?_)
      have H := L8 _ H
      exact ⟨_, H, F.ra Aa, W⟩
     refine AB (Ab ?_)
     exact ⟨_, H, F.ra Aa, W⟩
    rintro a w ⟨x17, hj, F, W⟩
    have hj := Ax hj
    subst hj
    have H := K7
    clear G7 K7
    refine vc tk 8 F W fun a w F W => ?_
    refine AU F Aa H (fun F H => ?_) fun F H => ?_
    ·
     refine vc tk 8 F W fun a w F W => ?_
     refine AL H (fun s a w => Fr 141 [] [(0, v1), (1, .int .i64 p1), (2, .int .i64 p2), (3, .func (.func 22) #[] #[]), (8, .bool false), (9, .int .i64 x7), (10, .int .i64 x4), (12, .int .i64 s.2)] a ∧ Stw ⟨Y, X, w0⟩ [] [row v1 43 A5 s.1] w) ⟨F.ra Aa, W⟩ fun s o a w H L9 hR => ?_
     obtain ⟨x27, x28⟩ := s
     obtain ⟨F, W⟩ := hR
     have F : Fr 141 [] [(0, v1), (1, .int .i64 p1), (2, .int .i64 p2), (3, .func (.func 22) #[] #[]), (8, .bool false), (9, .int .i64 x7), (10, .int .i64 x4), (12, .int .i64 x28)] a := F
     have W : Stw ⟨Y, X, w0⟩ [] [row v1 43 A5 x27] w := W
     rw [AG] at H
     refine vc tk 8 F W fun a w F W => ?_
     refine AU F Aa H (fun F H => ?_) fun F H => ?_
     ·
      refine FP tk 6 F W fun a w F W => ?_
      refine BB W MO (by kernel_rfl) ?_
      iterate 3 refine qs F Aa (Ai F Aa).q fun a F => ?_
      obtain ⟨x29, h15, H⟩ := Ac H
      refine qs F Aa (Al (r := A5) EM F Aa Aa (Af 0 Aa) h15).q fun a F => ?_
      refine qs F Aa (Ag (y := Value.agg #[.int .i64 x29.1, .int .i64 x29.2.1, .int .i64 x29.2.2.1, .int .i64 x29.2.2.2]) (j := 0) (i := x28) F Aa Aa (Af 0 Aa) h15 ES.to Er Aa).q fun a F => ?_
      iterate 2 refine qs F Aa (Ai F Aa).q fun a F => ?_
      refine qs F Aa (Eu F Aa Aa Aa).q fun a F => ?_
      obtain ⟨x30, h16, H⟩ := Ac H
      refine qs F Aa (Al (r := A5) EM F Aa Aa (Af 0 Aa) h16).q fun a F => ?_
      refine qs F Aa (Ag (y := Value.agg #[.int .i64 x30.1, .int .i64 x30.2.1, .int .i64 x30.2.2.1, .int .i64 x30.2.2.2]) (j := 0) (i := An (x28 - 1)) F Aa Aa (Af 0 Aa) h16 ES.to Er Aa).q fun a F => ?_
      obtain ⟨x31, h17, H⟩ := Ac H
      refine qs F Aa (E1 (ws := (Jr x29 x30)) (v := Value.int .i64 x31) F RO Aa (fun w W => Cn any w x29 x30 _ h17)) fun a F => ?_
      refine qs F Aa (GM F Aa Aa).q fun a F => ?_
      refine qs F Aa (IY F Aa).q fun a F => ?_
      refine AD fun w W => ?_
      refine Ab ?_
      refine C2 F Aa H (fun F H => ?_) fun F H => ?_
      ·
       refine AA (AQ ?_)
       refine Il Aa ?_
       iterate 2 refine AQ ?_
       refine AC (Aw (Ab ?_))
       have H := L9 _ H
       exact ⟨_, _, H, F.ra Aa, W⟩
      refine FP tk 2 F W fun a w F W => ?_
      refine ER [(true, 0), (true, 1), (true, 2), (true, 3), (true, 4), (true, 5), (true, 6), (true, 7), (true, 8), (true, 9), (true, 10), (true, 11), (true, 12), (true, 13), (true, 14), (false, 15), (true, 16), (false, 17)] (CN ⟨Y, X, w0⟩ [] [(some 15, row v1 43 A5 x27)]) (fun ch a d v w h => by cases d <;> exact h) MO (by kernel_rfl) W (fun w W => ⟨_, _, W, Ak, (all_cons (fun _ => (.head _)) Ak)⟩) fun w W => ?_
      iterate 4 refine A6 (R := []) F Aa Aa (yC fun M Z hN hZ => Ai F Aa) Aa Aa fun a F => ?_
      refine A6 (R := []) F Aa Aa (yC fun M Z hN hZ => Eu F Aa Aa Aa) Aa Aa fun a F => ?_
      iterate 2 refine A6 (R := []) F Aa Aa (yC fun M Z hN hZ => Ai F Aa) Aa Aa fun a F => ?_
      refine A6 (R := []) F Aa Aa (yC fun M Z hN hZ => Eu F Aa Aa Aa) Aa Aa fun a F => ?_
      obtain ⟨x32, h18, H⟩ := Ac H
      refine A6 (R := []) F Aa Aa (yC fun M Z hN hZ => Ba (r := A5) EM F Aa Aa (C1 W (Af 0 Aa)) h18) Aa Aa fun a F => ?_
      refine A6 (R := [15]) F Aa Aa (yC fun M Z hN hZ => Ag (y := Value.agg #[.int .i64 x32.1, .int .i64 x32.2.1, .int .i64 x32.2.2.1, .int .i64 x32.2.2.2]) (j := 0) (i := An (x28 - 1)) F Aa Aa (Di (hZ ((some 15), row v1 43 A5 x27) (.head _) Aa)) h18 ES.to Er Aa) (by kernel_rfl) Aa fun a F => ?_
      iterate 2 refine A6 (R := []) F Aa Aa (yC fun M Z hN hZ => Ai F Aa) Aa Aa fun a F => ?_
      obtain ⟨x33, h19, H⟩ := Ac H
      refine A6 (R := []) F Aa Aa (yC fun M Z hN hZ => Ba (r := A5) EM F Aa Aa (C1 W (Af 0 Aa)) h19) Aa Aa fun a F => ?_
      refine A6 (R := [15]) F Aa Aa (yC fun M Z hN hZ => Ag (y := Value.agg #[.int .i64 x33.1, .int .i64 x33.2.1, .int .i64 x33.2.2.1, .int .i64 x33.2.2.2]) (j := 0) (i := x28) F Aa Aa (Di (hZ ((some 15), row v1 43 A5 x27) (.head _) Aa)) h19 ES.to Er Aa) (by kernel_rfl) Aa fun a F => ?_
      obtain ⟨x34, h20, H⟩ := Ac H
      refine A6 (R := []) F Aa Aa (yC fun M Z hN hZ => Ba (r := A5) EM F Aa Aa (C1 W (Af 0 Aa)) h20) Aa Aa fun a F => ?_
      refine F2 Aa ?_
      refine AY (i := x28) (j := 0) (vs := (Ck x32)) (x' := x32) F W Aa Aa Aa (k := 0) Aa Aa h20 Er Aa Aa Aa Aa (fun A cs _ => ES.sto (by rfl) _ _ _) fun w W => ?_
      refine Cm (N2 := []) (NZ2 := []) (N3 := []) (NZ3 := [(some 15, row v1 43 A5 x27)]) W Aa Aa Ak (all_cons (fun h => AJ (by kernel_rfl) h) Ak) ?_
      obtain ⟨x35, h21, H⟩ := Ac H
      refine A6 (R := []) F Aa Aa (yC fun M Z hN hZ => Ba (r := A5) EM F Aa Aa (C1 W (Af 0 Aa)) h21) Aa Aa fun a F => ?_
      refine F2 Aa ?_
      refine AY (i := An (x28 - 1)) (j := 0) (vs := (Ck x33)) (x' := x33) F W Aa Aa Aa (k := 0) Aa Aa h21 Er Aa Aa Aa Aa (fun A cs _ => ES.sto (by rfl) _ _ _) fun w W => ?_
      refine Cm (N2 := []) (NZ2 := []) (N3 := []) (NZ3 := [(some 15, row v1 43 A5 x27)]) W Aa Aa Ak (all_cons (fun h => AJ (by kernel_rfl) h) Ak) ?_
      refine Hg (Aw ?_)
      refine vn tk 5 F W fun a w F W => ?_
      refine Ab ?_
      exact ⟨_, H, F.ra Aa, W⟩
     refine AA ?_
     iterate 2 refine AQ ?_
     refine AC (Aw (Ab ?_))
     have H := L9 _ H
     exact ⟨_, _, H, F.ra Aa, W⟩
    refine AB (Aw (Ab ?_))
    exact ⟨_, _, H, F.ra Aa, W⟩
   rintro a w ⟨x5, x6, hj, F, W⟩
   have H := K3 _ hj
   clear hj G3 K3 L3
   refine vc tk 5 F W fun a w F W => ?_
   refine Ab ?_
   exact ⟨_, H, F.ra Aa, W⟩
  refine AA ?_
  iterate 2 refine AQ ?_
  refine AC (Ab ?_)
  have H := L2 _ H
  exact ⟨_, H, F.ra Aa, W⟩
 rintro a w ⟨x1, hj, F, W⟩
 have H := K1 _ hj
 clear hj G1 K1 L1
 refine vc tk 5 F W fun a w F W => ?_
 refine Ao ?_
 have H := Ax H
 subst H
 refine A1 (.inl Aa) F W Aa (Am F Aa) ?_
 exact ⟨(), Aa, W⟩
theorem ZV : Has Tryz.prog 65 := Cu Tryz.func65
noncomputable def BH (p1 : Int) (x7 : List (Int × Int × Int × Int)) (x9 : Int) : Int → Option (Int ⊕ Int)
  | x11 => (if x11 ≤ x9 then (ix x7 p1).bind fun x13 => (ix x7 x11).bind fun x14 => (Cb x13 x14).bind fun x15 => some (!(decide (x15 < 0))) else some false).bind fun x12 => (if x12 = true then some (.inl (An (x11 + 1))) else some (.inr x11))
noncomputable def BI (p1 : Int) (x7 : List (Int × Int × Int × Int)) (x10 : Int) : Int → Option (Int ⊕ Int)
  | x17 => (if x10 ≤ x17 then (ix x7 p1).bind fun x19 => (ix x7 x17).bind fun x20 => (Cb x19 x20).bind fun x21 => some (decide (x21 < 0)) else some false).bind fun x18 => (if x18 = true then some (.inl (An (x17 - 1))) else some (.inr x17))
noncomputable def Bl (p1 : Int) : ((List (Int × Int × Int × Int)) × Int × Int) → Option (((List (Int × Int × Int × Int)) × Int × Int) ⊕ (Int × (List (Int × Int × Int × Int))))
  | (x7, x8, x9) => (Ap (BH p1 x7 x9) x8).bind fun x10 => (Ap (BI p1 x7 x10) x9).bind fun x16 => (if x16 < x10 then some (.inr (x10, x7)) else (ix x7 x16).bind fun x22 => (ix x7 x10).bind fun x23 => (ix x7 x10).bind fun x24 => (ix (Ah x7 x10 x22) x16).bind fun x25 => some (.inl ((Ah (Ah x7 x10 x22) x16 x23), An (x10 + 1), An (x16 - 1))))
noncomputable def BW (p0 : List (Int × Int × Int × Int)) (p1 : Int) (p2 : Int) (p3 : Int) : Option (Int × (List (Int × Int × Int × Int))) := (ix p0 p3).bind fun x1 => (ix p0 p1).bind fun x2 => (ix p0 p1).bind fun x3 => (ix (Ah p0 p1 x1) p3).bind fun x4 => (Ap (Bl p1) ((Ah (Ah p0 p1 x1) p3 x2), An (p1 + 1), An (p2 - 1))).bind fun (x5, x6) => some (x5, x6)
theorem F0 (Y : Nat → Prop) (X : List Nat) (w0 : World) (v1 : Value) (p0 : List (Int × Int × Int × Int)) (p1 : Int) (p2 : Int) (p3 : Int) (r : Int × (List (Int × Int × Int × Int))) (H : BW p0 p1 p2 p3 = some r) (hL : Stw ⟨Y, X, w0⟩ [] [row v1 43 A5 p0] w0) :
    Calls Tryz.prog 66 #[v1, .int .i64 p1, .int .i64 p2, .int .i64 p3, .func (.func 22) #[] #[]] w0 fun e w' => ∃ x : Unit, e = .returned (.int .i64 r.1) ∧ Stw ⟨Y, X, w0⟩ [] [row v1 43 A5 r.2] w' := by
 refine enter Tryz.func66 Aa Tryz.ntmps66 Aa fun a F => ?_
 have W := hL
 unfold BW at H
 refine vc tk 6 F W fun a w F W => ?_
 refine Jm 13 [2, 3] [0, 1, 4, 5, 6, 7, 8, 9, 10, 11, 12] (fun ch a d v w h => by cases d <;> exact h) W MO (by kernel_rfl) ?_
 iterate 2 refine hm F Aa Aa Aa fun a F => ?_
 refine KM ?_
 iterate 4 refine hs F Aa Aa Aa (Ai F Aa).q fun a F => ?_
 obtain ⟨x1, h1, H⟩ := Ac H
 refine hs F Aa Aa Aa (Al (r := A5) EM F Aa Aa (Af 0 Aa) h1).q fun a F => ?_
 refine hs F Aa Aa Aa (Ag (y := Value.agg #[.int .i64 x1.1, .int .i64 x1.2.1, .int .i64 x1.2.2.1, .int .i64 x1.2.2.2]) (j := 0) (i := p3) F Aa Aa (Af 0 Aa) h1 ES.to Er Aa).q fun a F => ?_
 iterate 2 refine hs F Aa Aa Aa (Ai F Aa).q fun a F => ?_
 obtain ⟨x2, h2, H⟩ := Ac H
 refine hs F Aa Aa Aa (Al (r := A5) EM F Aa Aa (Af 0 Aa) h2).q fun a F => ?_
 refine hs F Aa Aa Aa (Ag (y := Value.agg #[.int .i64 x2.1, .int .i64 x2.2.1, .int .i64 x2.2.2.1, .int .i64 x2.2.2.2]) (j := 0) (i := p1) F Aa Aa (Af 0 Aa) h2 ES.to Er Aa).q fun a F => ?_
 obtain ⟨x3, h3, H⟩ := Ac H
 refine hs F Aa Aa Aa (Al (r := A5) EM F Aa Aa (Af 0 Aa) h3).q fun a F => ?_
 refine M0 fun w W => ?_
 have W : Stw ⟨Y, X, w0⟩ [] [row v1 43 A5 p0] w := W
 refine AY (i := p1) (j := 0) (vs := (Ck x1)) (x' := x1) F W Aa Aa Aa (k := 0) Aa Aa h3 Er Aa Aa Aa Aa (fun A cs _ => ES.sto (by rfl) _ _ _) fun w W => ?_
 obtain ⟨x4, h4, H⟩ := Ac H
 refine ls F W Aa (Al (r := A5) EM F Aa Aa (Af 0 Aa) h4).q fun a w F W => ?_
 refine AY (i := p3) (j := 0) (vs := (Ck x2)) (x' := x2) F W Aa Aa Aa (k := 0) Aa Aa h4 Er Aa Aa Aa Aa (fun A cs _ => ES.sto (by rfl) _ _ _) fun w W => ?_
 refine BR tk 12 F W fun a w F W => ?_
 obtain ⟨o1, G1, K1⟩ := Ac H
 refine Aq (fun a w => ∃ x5 : Int, ∃ x6 : List (Int × Int × Int × Int), some ((x5, x6)) = some o1 ∧ Fr 90 [] [(10, .int .i64 0), (11, .int .i64 x5)] a ∧ Stw ⟨Y, X, w0⟩ [] [row v1 43 A5 x6] w) ?_ ?_
 ·
  have H := G1
  clear G1 K1
  refine Ep ?_
  refine AL H (fun s a w => Fr 90 [] [(0, v1), (1, .int .i64 p1), (4, .func (.func 22) #[] #[]), (10, .int .i64 0), (11, .int .i64 s.2.1), (12, .int .i64 s.2.2)] a ∧ Stw ⟨Y, X, w0⟩ [] [row v1 43 A5 s.1] w) ⟨F.ra Aa, W⟩ fun s o a w H L2 hR => ?_
  obtain ⟨x7, x8, x9⟩ := s
  obtain ⟨F, W⟩ := hR
  have F : Fr 90 [] [(0, v1), (1, .int .i64 p1), (4, .func (.func 22) #[] #[]), (10, .int .i64 0), (11, .int .i64 x8), (12, .int .i64 x9)] a := F
  have W : Stw ⟨Y, X, w0⟩ [] [row v1 43 A5 x7] w := W
  rw [Bl] at H
  refine Ep ?_
  obtain ⟨o3, G3, K3⟩ := Ac H
  refine Aq (fun a w => ∃ x10 : Int, some (x10) = some o3 ∧ Fr 90 [] [(0, v1), (1, .int .i64 p1), (4, .func (.func 22) #[] #[]), (10, .int .i64 0), (11, .int .i64 x10), (12, .int .i64 x9)] a ∧ Stw ⟨Y, X, w0⟩ [] [row v1 43 A5 x7] w) ?_ ?_
  ·
   have H := G3
   clear G3 K3
   refine Ep ?_
   refine AL H (fun s a w => Fr 90 [] [(0, v1), (1, .int .i64 p1), (4, .func (.func 22) #[] #[]), (10, .int .i64 0), (11, .int .i64 s), (12, .int .i64 x9)] a ∧ Stw ⟨Y, X, w0⟩ [] [row v1 43 A5 x7] w) ⟨F.ra Aa, W⟩ fun s o a w H L4 hR => ?_
   obtain ⟨x11, rfl⟩ : ∃ x, x = s := ⟨s, rfl⟩
   obtain ⟨F, W⟩ := hR
   have F : Fr 90 [] [(0, v1), (1, .int .i64 p1), (4, .func (.func 22) #[] #[]), (10, .int .i64 0), (11, .int .i64 x11), (12, .int .i64 x9)] a := F
   have W : Stw ⟨Y, X, w0⟩ [] [row v1 43 A5 x7] w := W
   rw [BH] at H
   refine Hp ?_
   obtain ⟨o5, G5, K5⟩ := Ac H
   refine Aq (fun a w => ∃ x12 : Bool, some (x12) = some o5 ∧ Fr 90 [] [(0, v1), (1, .int .i64 p1), (4, .func (.func 22) #[] #[]), (10, .int .i64 0), (11, .int .i64 x11), (12, .int .i64 x9), (47, .bool x12)] a ∧ Stw ⟨Y, X, w0⟩ [] [row v1 43 A5 x7] w) ?_ ?_
   ·
    have H := G5
    clear G5 K5
    refine BB W MO (by kernel_rfl) ?_
    iterate 2 refine qs F Aa (Ai F Aa).q fun a F => ?_
    refine qs F Aa (Ob F Aa Aa).q fun a F => ?_
    refine qs F Aa (Ai F Aa).q fun a F => ?_
    rcases Bool.eq_false_or_eq_true (decide (x11 ≤ x9)) with hb | hb
    ·
     have H := D0 (Fm hb) H
     rw [hb] at F
     clear hb
     iterate 3 refine A8 F (Ae F Aa Aa Aa Aa) Aa (As Aa) (Ai F Aa).q fun a F => ?_
     obtain ⟨x13, h5, H⟩ := Ac H
     refine A8 F (Ae F Aa Aa Aa Aa) Aa (As Aa) (Al (r := A5) EM F Aa Aa (Af 0 Aa) h5).q fun a F => ?_
     refine A8 F (Ae F Aa Aa Aa Aa) Aa (As Aa) (Ag (y := Value.agg #[.int .i64 x13.1, .int .i64 x13.2.1, .int .i64 x13.2.2.1, .int .i64 x13.2.2.2]) (j := 0) (i := p1) F Aa Aa (Af 0 Aa) h5 ES.to Er Aa).q fun a F => ?_
     iterate 2 refine A8 F (Ae F Aa Aa Aa Aa) Aa (As Aa) (Ai F Aa).q fun a F => ?_
     obtain ⟨x14, h6, H⟩ := Ac H
     refine A8 F (Ae F Aa Aa Aa Aa) Aa (As Aa) (Al (r := A5) EM F Aa Aa (Af 0 Aa) h6).q fun a F => ?_
     refine A8 F (Ae F Aa Aa Aa Aa) Aa (As Aa) (Ag (y := Value.agg #[.int .i64 x14.1, .int .i64 x14.2.1, .int .i64 x14.2.2.1, .int .i64 x14.2.2.2]) (j := 0) (i := x11) F Aa Aa (Af 0 Aa) h6 ES.to Er Aa).q fun a F => ?_
     obtain ⟨x15, h7, H⟩ := Ac H
     refine A8 F (Ae F Aa Aa Aa Aa) Aa (As Aa) (E1 (ws := (Jr x13 x14)) (v := Value.int .i64 x15) F RO Aa (fun w W => Cn any w x13 x14 _ h7)) fun a F => ?_
     refine A8 F (Ae F Aa Aa Aa Aa) Aa (As Aa) (GM F Aa Aa).q fun a F => ?_
     refine A8 F (Ae F Aa Aa Aa Aa) Aa (As Aa) (IY F Aa).q fun a F => ?_
     refine qs F Aa (Dh F Aa Aa Aa).q fun a F => ?_
     refine AD fun w W => ?_
     refine Ab ?_
     exact ⟨_, H, F.ra Aa, W⟩
    have H := DZ (Fo hb) H
    rw [hb] at F
    clear hb
    iterate 12 refine Ds F (C3 F Aa Aa Aa Aa Aa) Aa Aa fun a F => ?_
    refine qs F Aa (DC F Aa Aa Aa).q fun a F => ?_
    refine AD fun w W => ?_
    refine Ab ?_
    exact ⟨_, H, F.ra Aa, W⟩
   rintro a w ⟨x12, hj, F, W⟩
   have hj := Ax hj
   subst hj
   have H := K5
   clear G5 K5
   refine C2 F Aa H (fun F H => ?_) fun F H => ?_
   ·
    refine FP tk 8 F W fun a w F W => ?_
    refine Ab ?_
    exact ⟨_, H, F.ra Aa, W⟩
   refine AA ?_
   iterate 2 refine AQ ?_
   refine AC (Ab ?_)
   have H := L4 _ H
   exact ⟨_, H, F.ra Aa, W⟩
  rintro a w ⟨x10, hj, F, W⟩
  have hj := Ax hj
  subst hj
  have H := K3
  clear G3 K3
  obtain ⟨o6, G6, K6⟩ := Ac H
  refine Aq (fun a w => ∃ x16 : Int, some (x16) = some o6 ∧ Fr 90 [] [(0, v1), (1, .int .i64 p1), (4, .func (.func 22) #[] #[]), (10, .int .i64 0), (11, .int .i64 x10), (12, .int .i64 x16)] a ∧ Stw ⟨Y, X, w0⟩ [] [row v1 43 A5 x7] w) ?_ ?_
  ·
   have H := G6
   clear G6 K6
   refine Ep ?_
   refine AL H (fun s a w => Fr 90 [] [(0, v1), (1, .int .i64 p1), (4, .func (.func 22) #[] #[]), (10, .int .i64 0), (11, .int .i64 x10), (12, .int .i64 s)] a ∧ Stw ⟨Y, X, w0⟩ [] [row v1 43 A5 x7] w) ⟨F.ra Aa, W⟩ fun s o a w H L7 hR => ?_
   obtain ⟨x17, rfl⟩ : ∃ x, x = s := ⟨s, rfl⟩
   obtain ⟨F, W⟩ := hR
   have F : Fr 90 [] [(0, v1), (1, .int .i64 p1), (4, .func (.func 22) #[] #[]), (10, .int .i64 0), (11, .int .i64 x10), (12, .int .i64 x17)] a := F
   have W : Stw ⟨Y, X, w0⟩ [] [row v1 43 A5 x7] w := W
   rw [BI] at H
   refine Hp ?_
   obtain ⟨o8, G8, K8⟩ := Ac H
   refine Aq (fun a w => ∃ x18 : Bool, some (x18) = some o8 ∧ Fr 90 [] [(0, v1), (1, .int .i64 p1), (4, .func (.func 22) #[] #[]), (10, .int .i64 0), (11, .int .i64 x10), (12, .int .i64 x17), (65, .bool x18)] a ∧ Stw ⟨Y, X, w0⟩ [] [row v1 43 A5 x7] w) ?_ ?_
   ·
    have H := G8
    clear G8 K8
    refine BB W MO (by kernel_rfl) ?_
    iterate 2 refine qs F Aa (Ai F Aa).q fun a F => ?_
    refine qs F Aa (Ob F Aa Aa).q fun a F => ?_
    refine qs F Aa (Ai F Aa).q fun a F => ?_
    rcases Bool.eq_false_or_eq_true (decide (x10 ≤ x17)) with hb | hb
    ·
     have H := D0 (Fm hb) H
     rw [hb] at F
     clear hb
     iterate 3 refine A8 F (Ae F Aa Aa Aa Aa) Aa (As Aa) (Ai F Aa).q fun a F => ?_
     obtain ⟨x19, h8, H⟩ := Ac H
     refine A8 F (Ae F Aa Aa Aa Aa) Aa (As Aa) (Al (r := A5) EM F Aa Aa (Af 0 Aa) h8).q fun a F => ?_
     refine A8 F (Ae F Aa Aa Aa Aa) Aa (As Aa) (Ag (y := Value.agg #[.int .i64 x19.1, .int .i64 x19.2.1, .int .i64 x19.2.2.1, .int .i64 x19.2.2.2]) (j := 0) (i := p1) F Aa Aa (Af 0 Aa) h8 ES.to Er Aa).q fun a F => ?_
     iterate 2 refine A8 F (Ae F Aa Aa Aa Aa) Aa (As Aa) (Ai F Aa).q fun a F => ?_
     obtain ⟨x20, h9, H⟩ := Ac H
     refine A8 F (Ae F Aa Aa Aa Aa) Aa (As Aa) (Al (r := A5) EM F Aa Aa (Af 0 Aa) h9).q fun a F => ?_
     refine A8 F (Ae F Aa Aa Aa Aa) Aa (As Aa) (Ag (y := Value.agg #[.int .i64 x20.1, .int .i64 x20.2.1, .int .i64 x20.2.2.1, .int .i64 x20.2.2.2]) (j := 0) (i := x17) F Aa Aa (Af 0 Aa) h9 ES.to Er Aa).q fun a F => ?_
     obtain ⟨x21, h10, H⟩ := Ac H
     refine A8 F (Ae F Aa Aa Aa Aa) Aa (As Aa) (E1 (ws := (Jr x19 x20)) (v := Value.int .i64 x21) F RO Aa (fun w W => Cn any w x19 x20 _ h10)) fun a F => ?_
     refine A8 F (Ae F Aa Aa Aa Aa) Aa (As Aa) (GM F Aa Aa).q fun a F => ?_
     refine qs F Aa (Dh F Aa Aa Aa).q fun a F => ?_
     refine AD fun w W => ?_
     refine Ab ?_
     exact ⟨_, H, F.ra Aa, W⟩
    have H := DZ (Fo hb) H
    rw [hb] at F
    clear hb
    iterate 11 refine Ds F (C3 F Aa Aa Aa Aa Aa) Aa Aa fun a F => ?_
    refine qs F Aa (DC F Aa Aa Aa).q fun a F => ?_
    refine AD fun w W => ?_
    refine Ab ?_
    exact ⟨_, H, F.ra Aa, W⟩
   rintro a w ⟨x18, hj, F, W⟩
   have hj := Ax hj
   subst hj
   have H := K8
   clear G8 K8
   refine C2 F Aa H (fun F H => ?_) fun F H => ?_
   ·
    refine FP tk 8 F W fun a w F W => ?_
    refine Ab ?_
    exact ⟨_, H, F.ra Aa, W⟩
   refine AA ?_
   iterate 2 refine AQ ?_
   refine AC (Ab ?_)
   have H := L7 _ H
   exact ⟨_, H, F.ra Aa, W⟩
  rintro a w ⟨x16, hj, F, W⟩
  have hj := Ax hj
  subst hj
  have H := K6
  clear G6 K6
  refine vc tk 8 F W fun a w F W => ?_
  refine AU F Aa H (fun F H => ?_) fun F H => ?_
  ·
   refine AA (AQ ?_)
   refine Il Aa ?_
   refine AQ (AC (Ab ?_))
   have H := L2 _ H
   exact ⟨_, _, H, F.ra Aa, W⟩
  refine FP tk 3 F W fun a w F W => ?_
  refine Jm 13 [2, 3] [0, 1, 4, 5, 6, 7, 8, 9, 10, 11, 12] (fun ch a d v w h => by cases d <;> exact h) W MO (by kernel_rfl) ?_
  iterate 2 refine hm F Aa Aa Aa fun a F => ?_
  refine KM ?_
  iterate 4 refine hs F Aa Aa Aa (Ai F Aa).q fun a F => ?_
  obtain ⟨x22, h11, H⟩ := Ac H
  refine hs F Aa Aa Aa (Al (r := A5) EM F Aa Aa (Af 0 Aa) h11).q fun a F => ?_
  refine hs F Aa Aa Aa (Ag (y := Value.agg #[.int .i64 x22.1, .int .i64 x22.2.1, .int .i64 x22.2.2.1, .int .i64 x22.2.2.2]) (j := 0) (i := x16) F Aa Aa (Af 0 Aa) h11 ES.to Er Aa).q fun a F => ?_
  iterate 2 refine hs F Aa Aa Aa (Ai F Aa).q fun a F => ?_
  obtain ⟨x23, h12, H⟩ := Ac H
  refine hs F Aa Aa Aa (Al (r := A5) EM F Aa Aa (Af 0 Aa) h12).q fun a F => ?_
  refine hs F Aa Aa Aa (Ag (y := Value.agg #[.int .i64 x23.1, .int .i64 x23.2.1, .int .i64 x23.2.2.1, .int .i64 x23.2.2.2]) (j := 0) (i := x10) F Aa Aa (Af 0 Aa) h12 ES.to Er Aa).q fun a F => ?_
  obtain ⟨x24, h13, H⟩ := Ac H
  refine hs F Aa Aa Aa (Al (r := A5) EM F Aa Aa (Af 0 Aa) h13).q fun a F => ?_
  refine M0 fun w W => ?_
  have W : Stw ⟨Y, X, w0⟩ [] [row v1 43 A5 x7] w := W
  refine AY (i := x10) (j := 0) (vs := (Ck x22)) (x' := x22) F W Aa Aa Aa (k := 0) Aa Aa h13 Er Aa Aa Aa Aa (fun A cs _ => ES.sto (by rfl) _ _ _) fun w W => ?_
  obtain ⟨x25, h14, H⟩ := Ac H
  refine ls F W Aa (Al (r := A5) EM F Aa Aa (Af 0 Aa) h14).q fun a w F W => ?_
  refine AY (i := x16) (j := 0) (vs := (Ck x23)) (x' := x23) F W Aa Aa Aa (k := 0) Aa Aa h14 Er Aa Aa Aa Aa (fun A cs _ => ES.sto (by rfl) _ _ _) fun w W => ?_
  refine BR tk 14 F W fun a w F W => ?_
  refine Aw (Ab ?_)
  exact ⟨_, H, F.ra Aa, W⟩
 rintro a w ⟨x5, x6, hj, F, W⟩
 have hj := Ax hj
 subst hj
 have H := K1
 clear G1 K1
 refine vc tk 6 F W fun a w F W => ?_
 refine Ao ?_
 have H := Ax H
 subst H
 refine A1 (.inl Aa) F W Aa (Am F Aa) ?_
 exact ⟨(), Aa, W⟩
end Go.Proofs.YthhoflfhegfmcaaGreat
