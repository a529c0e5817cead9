/- The functions of layer 25, JA. Conditions: none. -/
import Derived.Test.YthhoflfhegfmcaaGreatcA3
namespace Go.Proofs.YthhoflfhegfmcaaGreat
noncomputable section
open Go Go.RowKit
set_option linter.unusedVariables false
set_option linter.unusedSimpArgs false
set_option maxRecDepth 20000
set_option maxHeartbeats 1600000
theorem Yn : Has Tryz.prog 42 := Cv Tryz.func42
def AX (p0 : Int) (p1 : Int) : Int := (if (Ck p0) = true then (if (Ck p1) = true then 0 else (-1)) else (if (Ck p1) = true then 1 else (if p0 < p1 then (-1) else (if p1 < p0 then 1 else 0))))
theorem HD (Y : Nat → Prop) (w0 : World)  (p0 : Int) (p1 : Int) (r : Int) (H : AX p0 p1 = r)  :
    ca_ 24 #[Jint p0, Jint p1] w0 fun e w' => e = .returned (Jint r) ∧ Below w0.heap.size w0 w' := by
 refine enter Tryz.func24 Aa Tryz.ntmps24 Aa fun a F => ?_
 have W := Stw.start Y w0
 unfold AX at H
 refine vc tk 8 F W fun a w F W => ?_
 refine ls F W Aa (Bc (v := Value.bool (Ck p0)) F Yn Aa (fun w W => Ha any w p0 _ Aa)) fun a w F W => ?_
 refine BQ tk 6 F W fun a w F W => ?_
 refine ls F W Aa (Bc (v := Value.bool (Ck p1)) F Yn Aa (fun w W => Ha any w p1 _ Aa)) fun a w F W => ?_
 refine BQ tk 9 F W fun a w F W => ?_
 refine Gv F Aa (fun hb => ?_) fun hb => ?_
 ·
  have H := DU hb H
  rw [hb] at F
  refine vc tk 6 F W fun a w F W => ?_
  refine Gv F Aa (fun hb => ?_) fun hb => ?_
  ·
   have H := DU hb H
   rw [hb] at F
   refine vc tk 5 F W fun a w F W => ?_
   refine Ap ?_
   iterate 2 refine AF ?_
   subst H
   refine A1 (.inl Aa) F W Aa (Am F Aa) ?_
   exact ⟨rfl, W.done⟩
  have H := DS (by rw [hb]; decide) H
  rw [hb] at F
  refine FL tk 7 F W fun a w F W => ?_
  refine Ap (AF ?_)
  subst H
  refine A1 (.inl Aa) F W Aa (Am F Aa) ?_
  exact ⟨rfl, W.done⟩
 have H := DS (by rw [hb]; decide) H
 rw [hb] at F
 refine FL tk 8 F W fun a w F W => ?_
 refine Gv F Aa (fun hb => ?_) fun hb => ?_
 ·
  have H := DU hb H
  rw [hb] at F
  refine vc tk 5 F W fun a w F W => ?_
  refine Ap (AF ?_)
  subst H
  refine A1 (.inl Aa) F W Aa (Am F Aa) ?_
  exact ⟨rfl, W.done⟩
 have H := DS (by rw [hb]; decide) H
 rw [hb] at F
 refine FL tk 10 F W fun a w F W => ?_
 refine AW F Aa H (fun F H => ?_) fun F H => ?_
 ·
  refine vc tk 5 F W fun a w F W => ?_
  refine Ap (AF ?_)
  subst H
  refine A1 (.inl Aa) F W Aa (Am F Aa) ?_
  exact ⟨rfl, W.done⟩
 refine FL tk 10 F W fun a w F W => ?_
 refine AW F Aa H (fun F H => ?_) fun F H => ?_
 ·
  refine vc tk 5 F W fun a w F W => ?_
  refine Ap (AF ?_)
  subst H
  refine A1 (.inl Aa) F W Aa (Am F Aa) ?_
  exact ⟨rfl, W.done⟩
 refine FL tk 7 F W fun a w F W => ?_
 refine Ap ?_
 subst H
 refine A1 (.inl Aa) F W Aa (Am F Aa) ?_
 exact ⟨rfl, W.done⟩
theorem YO : Has Tryz.prog 24 := Cv Tryz.func24
def Ed (p0 : List Int) : Int → Option (Int ⊕ (Unit ⊕ Int))
  | x1 => (if x1 < (p0.length : Int) then (ix p0 x1).bind fun x2 => (if x2 ≠ 0 then some (.inr (.inr x2)) else some (.inl (An (x1 + 1)))) else some (.inr (.inl ())))
def I6 (p0 : List Int) : Option Int := GT (Aq (Ed p0) 0) fun _ => some 0
theorem PF (Y : Nat → Prop) (w0 : World) (v1 : Value) (p0 : List Int) (r : Int) (H : I6 p0 = some r) (h_v1 : Sl w0 (NX []) ri v1 p0) :
    ca_ 23 #[v1] w0 fun e w' => e = .returned (Jint r) ∧ Below w0.heap.size w0 w' := by
 refine enter Tryz.func23 Aa Tryz.ntmps23 Aa fun a F => ?_
 have W := Stw.start Y w0
 unfold I6 at H
 refine vc tk 10 F W fun a w F W => ?_
 obtain ⟨o1, G1, K1, L1⟩ := Md H
 refine As (fun a w => some (Sum.inl ()) = some o1 ∧ Fr 18 [] [(2, Jint 0), (3, Jint 0)] a ∧ sy Y w0 [] [] w) ?_ ?_
 ·
  have H := G1
  refine vc tk 3 F W fun a w F W => ?_
  refine ls F W Aa (BP (r := ri) (l := p0) Jc Aa F Aa (Ae h_v1)).q fun a w F W => ?_
  refine BQ tk 4 F W fun a w F W => ?_
  refine AN H (fun s a w => Fr 18 [] [(2, Jint 0), (3, Jint 0), (6, v1), (7, Jint (p0.length : Int)), (8, Jint s)] a ∧ sy Y w0 [] [] w) ⟨F.ra Aa, W⟩ fun s o a w H L2 hR => ?_
  obtain ⟨x1, rfl⟩ : ∃ x, x = s := ⟨s, rfl⟩
  obtain ⟨F, W⟩ := hR
  have F : Fr 18 [] [(2, Jint 0), (3, Jint 0), (6, v1), (7, Jint (p0.length : Int)), (8, Jint x1)] a := F
  have W : sy Y w0 [] [] w := W
  rw [Ed] at H
  refine vc tk 6 F W fun a w F W => ?_
  refine AW F Aa H (fun F H => ?_) fun F H => ?_
  ·
   refine FL tk 6 F W fun a w F W => ?_
   obtain ⟨x2, h1, H⟩ := Ac H
   refine ls F W Aa (Al (r := ri) EM F Aa Aa (Ae h_v1) h1).q fun a w F W => ?_
   refine ls F W Aa (Ag (y := Jint x2) (j := 0) (i := x1) F Aa Aa (Ae h_v1) h1 Fl.int.to T3 Aa).q fun a w F W => ?_
   refine BQ tk 10 F W fun a w F W => ?_
   refine AW F Aa H (fun F H => ?_) fun F H => ?_
   ·
    refine vc tk 6 F W fun a w F W => ?_
    refine Ap (AV ?_)
    iterate 2 refine AF ?_
    refine AV (AF ?_)
    have H := L2 _ H
    have H := L1 _ H
    have H := Ay H
    subst H
    refine A1 (.inl Aa) F W Aa (Am F Aa) ?_
    exact ⟨rfl, W.done⟩
   refine AE (Aw ?_)
   refine vn tk 4 F W fun a w F W => ?_
   refine Ab ?_
   exact ⟨_, H, F.ra Aa, W⟩
  refine AC ?_
  iterate 2 refine AR ?_
  refine AD (Ab ?_)
  have H := L2 _ H
  exact ⟨H, F.ra Aa, W⟩
 rintro a w ⟨hj, F, W⟩
 have H := K1 _ hj
 refine vc tk 6 F W fun a w F W => ?_
 refine Ap ?_
 have H := Ay H
 subst H
 refine A1 (.inl Aa) F W Aa (Am F Aa) ?_
 exact ⟨rfl, W.done⟩
theorem bB : Has Tryz.prog 23 := Cv Tryz.func23
def Cc (p0 : Int × Int × Int × Int) (p1 : Int × Int × Int × Int) : Option Int := (I6 ([(AX p0.2.2.2 p1.2.2.2), (AX p0.1 p1.1), (AX p0.2.1 p1.2.1)] : List Int)).bind fun x1 => some x1
theorem Cm (Y : Nat → Prop) (w0 : World)  (p0 : Int × Int × Int × Int) (p1 : Int × Int × Int × Int) (r : Int) (H : Cc p0 p1 = some r)  :
    ca_ 22 #[.agg #[Jint p0.1, Jint p0.2.1, Jint p0.2.2.1, Jint p0.2.2.2], .agg #[Jint p1.1, Jint p1.2.1, Jint p1.2.2.1, Jint p1.2.2.2]] w0 fun e w' => e = .returned (Jint r) ∧ Below w0.heap.size w0 w' := by
 refine enter Tryz.func22 Aa Tryz.ntmps22 Aa fun a F => ?_
 have W := Stw.start Y w0
 unfold Cc at H
 refine vc tk 2 F W fun a w F W => ?_
 refine D3 (cs := (Cj p0)) F W Aa Aa Aa fun b1 a w F W => ?_
 refine D3 (cs := (Cj p1)) F W Aa Aa Aa fun b2 a w F W => ?_
 refine BQ tk 4 F W fun a w F W => ?_
 refine Ik 15 W MO (by kernel_rfl) ?_
 refine qs F Aa (Ax I8 Aa Aa Aa T3 F Aa 3 Aa).q fun a F => ?_
 refine qs F Aa (Bx (v := Jint p0.2.2.2) 1 F Aa Aa T3 Aa).q fun a F => ?_
 refine qs F Aa (Ax I8 Aa Aa Aa T3 F Aa 3 Aa).q fun a F => ?_
 refine qs F Aa (Bx (v := Jint p1.2.2.2) 0 F Aa Aa T3 Aa).q fun a F => ?_
 refine qs F Aa (Bc (v := Jint (AX p0.2.2.2 p1.2.2.2)) F YO Aa (fun w W => HD any w p0.2.2.2 p1.2.2.2 _ Aa)) fun a F => ?_
 refine qs F Aa (Ax I8 Aa Aa Aa T3 F Aa 0 Aa).q fun a F => ?_
 refine qs F Aa (Bx (v := Jint p0.1) 1 F Aa Aa T3 Aa).q fun a F => ?_
 refine qs F Aa (Ax I8 Aa Aa Aa T3 F Aa 0 Aa).q fun a F => ?_
 refine qs F Aa (Bx (v := Jint p1.1) 0 F Aa Aa T3 Aa).q fun a F => ?_
 refine qs F Aa (Bc (v := Jint (AX p0.1 p1.1)) F YO Aa (fun w W => HD any w p0.1 p1.1 _ Aa)) fun a F => ?_
 refine qs F Aa (Ax I8 Aa Aa Aa T3 F Aa 1 Aa).q fun a F => ?_
 refine qs F Aa (Bx (v := Jint p0.2.1) 1 F Aa Aa T3 Aa).q fun a F => ?_
 refine qs F Aa (Ax I8 Aa Aa Aa T3 F Aa 1 Aa).q fun a F => ?_
 refine qs F Aa (Bx (v := Jint p1.2.1) 0 F Aa Aa T3 Aa).q fun a F => ?_
 refine qs F Aa (Bc (v := Jint (AX p0.2.1 p1.2.1)) F YO Aa (fun w W => HD any w p0.2.1 p1.2.1 _ Aa)) fun a F => ?_
 refine AA fun w W => ?_
 refine D7 (z := Jint 0) (cs := [Jint (AX p0.2.2.2 p1.2.2.2), Jint (AX p0.1 p1.1), Jint (AX p0.2.1 p1.2.1)]) ri ([(AX p0.2.2.2 p1.2.2.2), (AX p0.1 p1.1), (AX p0.2.1 p1.2.1)] : List Int) F W Aa EM Z3 Aa Aa Aa Aa Aa Aa (Fl.int.repL _ _ ([(AX p0.2.2.2 p1.2.2.2), (AX p0.1 p1.1), (AX p0.2.1 p1.2.1)] : List Int)) fun v1 a w F W => ?_
 obtain ⟨x1, h1, H⟩ := Ac H
 refine ls F W Aa (Bc (v := Jint x1) F bB Aa (fun w W => PF any w (v1) ([(AX p0.2.2.2 p1.2.2.2), (AX p0.1 p1.1), (AX p0.2.1 p1.2.1)] : List Int) _ h1 (EJ (Af 0 Aa) W))) fun a w F W => ?_
 refine BQ tk 3 F W fun a w F W => ?_
 refine Ap ?_
 have H := Ay H
 subst H
 refine A1 (.inl Aa) F W Aa (Am F Aa) ?_
 exact ⟨rfl, W.done⟩
theorem RZ : Has Tryz.prog 22 := Cv Tryz.func22
abbrev Jv (a0 : Int × Int × Int × Int) (a1 : Int × Int × Int × Int) : List Value := [.agg #[Jint a0.1, Jint a0.2.1, Jint a0.2.2.1, Jint a0.2.2.2], .agg #[Jint a1.1, Jint a1.2.1, Jint a1.2.2.1, Jint a1.2.2.2]]
def A2 (p1 : Int) : ((List (Int × Int × Int × Int)) × Int) → Option (((List (Int × Int × Int × Int)) × Int) ⊕ (List (Int × Int × Int × Int)))
  | (x4, x5) => (if p1 < x5 then (ix x4 x5).bind fun x7 => (ix x4 (An (x5 - 1))).bind fun x8 => (Cc x7 x8).bind fun x9 => some (decide (x9 < 0)) else some false).bind fun x6 => (if x6 = true then (ix x4 (An (x5 - 1))).bind fun x10 => (ix x4 x5).bind fun x11 => (ix x4 x5).bind fun x12 => (ix (Ah x4 x5 x10) (An (x5 - 1))).bind fun x13 => some (.inl ((Ah (Ah x4 x5 x10) (An (x5 - 1)) x11), An (x5 - 1))) else some (.inr x4))
def Br (p1 : Int) (p2 : Int) : ((List (Int × Int × Int × Int)) × Int) → Option (((List (Int × Int × Int × Int)) × Int) ⊕ (List (Int × Int × Int × Int)))
  | (x1, x2) => (if x2 < p2 then (Aq (A2 p1) (x1, x2)).bind fun x3 => some (.inl (x3, An (x2 + 1))) else some (.inr x1))
def B4 (p0 : List (Int × Int × Int × Int)) (p1 : Int) (p2 : Int) : Option (List (Int × Int × Int × Int)) := Aq (Br p1 p2) (p0, An (p1 + 1))
theorem F9 (Y : Nat → Prop) (X : List Nat) (w0 : World) (v1 : Value) (p0 : List (Int × Int × Int × Int)) (p1 : Int) (p2 : Int) (r : (List (Int × Int × Int × Int))) (H : B4 p0 p1 p2 = some r) (hL : Stw ⟨Y, X, w0⟩ [] [row v1 43 AY p0] w0) :
    ca_ 60 #[v1, Jint p1, Jint p2, .func (.func 22) #[] #[]] w0 fun e w' => ∃ x : Unit, e = .returned (.tuple #[]) ∧ Stw ⟨Y, X, w0⟩ [] [row v1 43 AY r] w' := by
 refine enter Tryz.func60 Aa Tryz.ntmps60 Aa fun a F => ?_
 have W := hL
 unfold B4 at H
 refine vc tk 8 F W fun a w F W => ?_
 refine AN H (fun s a w => Fr 53 [] [(0, v1), (1, Jint p1), (2, Jint p2), (3, .func (.func 22) #[] #[]), (8, Jint s.2)] a ∧ Stw ⟨Y, X, w0⟩ [] [row v1 43 AY s.1] w) ⟨F.ra Aa, W⟩ fun s o a w H L1 hR => ?_
 obtain ⟨x1, x2⟩ := s
 obtain ⟨F, W⟩ := hR
 have F : Fr 53 [] [(0, v1), (1, Jint p1), (2, Jint p2), (3, .func (.func 22) #[] #[]), (8, Jint x2)] a := F
 have W : Stw ⟨Y, X, w0⟩ [] [row v1 43 AY x1] w := W
 rw [Br] at H
 refine vc tk 8 F W fun a w F W => ?_
 refine AW F Aa H (fun F H => ?_) fun F H => ?_
 ·
  refine AE (Ab ?_)
  obtain ⟨o2, G2, K2⟩ := Ac H
  refine As (fun a w => ∃ x3 : List (Int × Int × Int × Int), some (x3) = some o2 ∧ Fr 53 [] [(0, v1), (1, Jint p1), (2, Jint p2), (3, .func (.func 22) #[] #[]), (8, Jint x2)] a ∧ Stw ⟨Y, X, w0⟩ [] [row v1 43 AY x3] w) ?_ ?_
  ·
   have H := G2
   refine vc tk 8 F W fun a w F W => ?_
   refine AN H (fun s a w => Fr 53 [] [(0, v1), (1, Jint p1), (2, Jint p2), (3, .func (.func 22) #[] #[]), (8, Jint x2), (9, Jint s.2)] a ∧ Stw ⟨Y, X, w0⟩ [] [row v1 43 AY s.1] w) ⟨F.ra Aa, W⟩ fun s o a w H L3 hR => ?_
   obtain ⟨x4, x5⟩ := s
   obtain ⟨F, W⟩ := hR
   have F : Fr 53 [] [(0, v1), (1, Jint p1), (2, Jint p2), (3, .func (.func 22) #[] #[]), (8, Jint x2), (9, Jint x5)] a := F
   have W : Stw ⟨Y, X, w0⟩ [] [row v1 43 AY x4] w := W
   rw [A2] at H
   refine HH ?_
   obtain ⟨o4, G4, K4⟩ := Ac H
   refine As (fun a w => ∃ x6 : Bool, some (x6) = some o4 ∧ Fr 53 [] [(0, v1), (1, Jint p1), (2, Jint p2), (3, .func (.func 22) #[] #[]), (8, Jint x2), (9, Jint x5), (34, .bool x6)] a ∧ Stw ⟨Y, X, w0⟩ [] [row v1 43 AY x4] w) ?_ ?_
   ·
    have H := G4
    refine Bz W MO (by kernel_rfl) ?_
    iterate 2 refine qs F Aa (Ai F Aa).q fun a F => ?_
    refine qs F Aa (QJ F Aa Aa).q fun a F => ?_
    refine qs F Aa (Ai F Aa).q fun a F => ?_
    rcases bxq (decide (p1 < x5)) with hb | hb
    ·
     have H := DU (Fa hb) H
     rw [hb] at F
     iterate 3 refine AZ F (Ad F Aa Aa Aa Aa) Aa (Ao Aa) (Ai F Aa).q fun a F => ?_
     obtain ⟨x7, h1, H⟩ := Ac H
     refine AZ F (Ad F Aa Aa Aa Aa) Aa (Ao Aa) (Al (r := AY) Eu F Aa Aa (Af 0 Aa) h1).q fun a F => ?_
     refine AZ F (Ad F Aa Aa Aa Aa) Aa (Ao Aa) (Ag (y := Value.agg #[Jint x7.1, Jint x7.2.1, Jint x7.2.2.1, Jint x7.2.2.2]) (j := 0) (i := x5) F Aa Aa (Af 0 Aa) h1 EK.to Ey Aa).q fun a F => ?_
     iterate 2 refine AZ F (Ad F Aa Aa Aa Aa) Aa (Ao Aa) (Ai F Aa).q fun a F => ?_
     refine AZ F (Ad F Aa Aa Aa Aa) Aa (Ao Aa) (Ek F Aa Aa Aa).q fun a F => ?_
     obtain ⟨x8, h2, H⟩ := Ac H
     refine AZ F (Ad F Aa Aa Aa Aa) Aa (Ao Aa) (Al (r := AY) Eu F Aa Aa (Af 0 Aa) h2).q fun a F => ?_
     refine AZ F (Ad F Aa Aa Aa Aa) Aa (Ao Aa) (Ag (y := Value.agg #[Jint x8.1, Jint x8.2.1, Jint x8.2.2.1, Jint x8.2.2.2]) (j := 0) (i := An (x5 - 1)) F Aa Aa (Af 0 Aa) h2 EK.to Ey Aa).q fun a F => ?_
     obtain ⟨x9, h3, H⟩ := Ac H
     refine AZ F (Ad F Aa Aa Aa Aa) Aa (Ao Aa) (E5 (ws := (Jv x7 x8)) (v := Jint x9) F RZ Aa (fun w W => Cm any w x7 x8 _ h3)) fun a F => ?_
     refine AZ F (Ad F Aa Aa Aa Aa) Aa (Ao Aa) (GV F Aa Aa).q fun a F => ?_
     refine qs F Aa (C4 F Aa Aa Aa).q fun a F => ?_
     refine AA fun w W => ?_
     refine Ab ?_
     exact ⟨_, H, F.ra Aa, W⟩
    have H := DS (E4 hb) H
    rw [hb] at F
    iterate 12 refine Dn F (CX F Aa Aa Aa Aa Aa) Aa Aa fun a F => ?_
    refine qs F Aa (Dw F Aa Aa Aa).q fun a F => ?_
    refine AA fun w W => ?_
    refine Ab ?_
    exact ⟨_, H, F.ra Aa, W⟩
   rintro a w ⟨x6, hj, F, W⟩
   have hj := Ay hj
   subst hj
   have H := K4
   refine CS F Aa H (fun F H => ?_) fun F H => ?_
   ·
    refine FL tk 4 F W fun a w F W => ?_
    refine ER [(true, 0), (true, 1), (true, 2), (true, 3), (true, 4), (true, 5), (true, 6), (true, 7), (true, 8), (true, 9), (true, 10), (true, 11), (true, 12), (true, 13), (true, 14), (false, 15), (true, 16), (false, 17)] (CN ⟨Y, X, w0⟩ [] [(some 15, row v1 43 AY x4)]) (fun ch a d v w h => by cases d <;> exact h) MO (by kernel_rfl) W (fun w W => ⟨_, _, W, Ak, (all_cons (fun _ => (.head _)) Ak)⟩) fun w W => ?_
    iterate 4 refine A6 (R := []) F Aa Aa (yC fun M Z hN hZ => Ai F Aa) Aa Aa fun a F => ?_
    refine A6 (R := []) F Aa Aa (yC fun M Z hN hZ => Ek F Aa Aa Aa) Aa Aa fun a F => ?_
    iterate 2 refine A6 (R := []) F Aa Aa (yC fun M Z hN hZ => Ai F Aa) Aa Aa fun a F => ?_
    refine A6 (R := []) F Aa Aa (yC fun M Z hN hZ => Ek F Aa Aa Aa) Aa Aa fun a F => ?_
    obtain ⟨x10, h4, H⟩ := Ac H
    refine A6 (R := []) F Aa Aa (yC fun M Z hN hZ => Ba (r := AY) Eu F Aa Aa (C2 W (Af 0 Aa)) h4) Aa Aa fun a F => ?_
    refine A6 (R := [15]) F Aa Aa (yC fun M Z hN hZ => Ag (y := Value.agg #[Jint x10.1, Jint x10.2.1, Jint x10.2.2.1, Jint x10.2.2.2]) (j := 0) (i := An (x5 - 1)) F Aa Aa (Dh (hZ ((some 15), row v1 43 AY x4) (.head _) Aa)) h4 EK.to Ey Aa) (by kernel_rfl) Aa fun a F => ?_
    iterate 2 refine A6 (R := []) F Aa Aa (yC fun M Z hN hZ => Ai F Aa) Aa Aa fun a F => ?_
    obtain ⟨x11, h5, H⟩ := Ac H
    refine A6 (R := []) F Aa Aa (yC fun M Z hN hZ => Ba (r := AY) Eu F Aa Aa (C2 W (Af 0 Aa)) h5) Aa Aa fun a F => ?_
    refine A6 (R := [15]) F Aa Aa (yC fun M Z hN hZ => Ag (y := Value.agg #[Jint x11.1, Jint x11.2.1, Jint x11.2.2.1, Jint x11.2.2.2]) (j := 0) (i := x5) F Aa Aa (Dh (hZ ((some 15), row v1 43 AY x4) (.head _) Aa)) h5 EK.to Ey Aa) (by kernel_rfl) Aa fun a F => ?_
    obtain ⟨x12, h6, H⟩ := Ac H
    refine A6 (R := []) F Aa Aa (yC fun M Z hN hZ => Ba (r := AY) Eu F Aa Aa (C2 W (Af 0 Aa)) h6) Aa Aa fun a F => ?_
    refine F1 Aa ?_
    refine A0 (i := x5) (j := 0) (vs := (Cj x10)) (x' := x10) F W Aa Aa Aa (k := 0) Aa Aa h6 Ey Aa Aa Aa Aa (fun A cs _ => EK.sto (by rfl) _ _ _) fun w W => ?_
    refine Cn (N2 := []) (NZ2 := []) (N3 := []) (NZ3 := [(some 15, row v1 43 AY x4)]) W Aa Aa Ak (all_cons (fun h => AH (by kernel_rfl) h) Ak) ?_
    obtain ⟨x13, h7, H⟩ := Ac H
    refine A6 (R := []) F Aa Aa (yC fun M Z hN hZ => Ba (r := AY) Eu F Aa Aa (C2 W (Af 0 Aa)) h7) Aa Aa fun a F => ?_
    refine F1 Aa ?_
    refine A0 (i := An (x5 - 1)) (j := 0) (vs := (Cj x11)) (x' := x11) F W Aa Aa Aa (k := 0) Aa Aa h7 Ey Aa Aa Aa Aa (fun A cs _ => EK.sto (by rfl) _ _ _) fun w W => ?_
    refine Cn (N2 := []) (NZ2 := []) (N3 := []) (NZ3 := [(some 15, row v1 43 AY x4)]) W Aa Aa Ak (all_cons (fun h => AH (by kernel_rfl) h) Ak) ?_
    refine Hd (Aw ?_)
    refine vn tk 5 F W fun a w F W => ?_
    refine Ab ?_
    exact ⟨_, H, F.ra Aa, W⟩
   refine AC ?_
   iterate 2 refine AR ?_
   refine AD (Aw (Ab ?_))
   have H := L3 _ H
   exact ⟨_, H, F.ra Aa, W⟩
  rintro a w ⟨x3, hj, F, W⟩
  have hj := Ay hj
  subst hj
  have H := K2
  refine vc tk 5 F W fun a w F W => ?_
  refine Ab ?_
  exact ⟨_, H, F.ra Aa, W⟩
 refine AC ?_
 iterate 2 refine AR ?_
 refine AD ?_
 have H := L1 _ H
 have H := Ay H
 subst H
 refine Jh (.inr Aa) F Aa ?_
 exact ⟨(), Aa, W⟩
theorem bT : Has Tryz.prog 60 := Cv Tryz.func60
def AM (p2 : Int) (p3 : Int) : ((List (Int × Int × Int × Int)) × Int) → Option (((List (Int × Int × Int × Int)) × Int) ⊕ (List (Int × Int × Int × Int)))
  | (x1, x2) => (if p2 ≤ (An ((An (2 * x2)) + 1)) then some (.inr x1) else ((if (An ((An ((An (2 * x2)) + 1)) + 1)) < p2 then (ix x1 (An (p3 + (An ((An (2 * x2)) + 1))))).bind fun x5 => (ix x1 (An ((An (p3 + (An ((An (2 * x2)) + 1)))) + 1))).bind fun x6 => (Cc x5 x6).bind fun x7 => some (decide (x7 < 0)) else some false).bind fun x4 => (if x4 = true then some (An ((An ((An (2 * x2)) + 1)) + 1)) else some (An ((An (2 * x2)) + 1)))).bind fun x3 => (ix x1 (An (p3 + x2))).bind fun x8 => (ix x1 (An (p3 + x3))).bind fun x9 => (Cc x8 x9).bind fun x10 => (if (!(decide (x10 < 0))) = true then some (.inr x1) else (ix x1 (An (p3 + x3))).bind fun x11 => (ix x1 (An (p3 + x2))).bind fun x12 => (ix x1 (An (p3 + x2))).bind fun x13 => (ix (Ah x1 (An (p3 + x2)) x11) (An (p3 + x3))).bind fun x14 => some (.inl ((Ah (Ah x1 (An (p3 + x2)) x11) (An (p3 + x3)) x12), x3))))
def B1 (p0 : List (Int × Int × Int × Int)) (p1 : Int) (p2 : Int) (p3 : Int) : Option (List (Int × Int × Int × Int)) := Aq (AM p2 p3) (p0, p1)
theorem EI (Y : Nat → Prop) (X : List Nat) (w0 : World) (v1 : Value) (p0 : List (Int × Int × Int × Int)) (p1 : Int) (p2 : Int) (p3 : Int) (r : (List (Int × Int × Int × Int))) (H : B1 p0 p1 p2 p3 = some r) (hL : Stw ⟨Y, X, w0⟩ [] [row v1 43 AY p0] w0) :
    ca_ 83 #[v1, Jint p1, Jint p2, Jint p3, .func (.func 22) #[] #[]] w0 fun e w' => ∃ x : Unit, e = .returned (.tuple #[]) ∧ Stw ⟨Y, X, w0⟩ [] [row v1 43 AY r] w' := by
 refine enter Tryz.func83 Aa Tryz.ntmps83 Aa fun a F => ?_
 have W := hL
 unfold B1 at H
 refine vc tk 7 F W fun a w F W => ?_
 refine AN H (fun s a w => Fr 82 [] [(0, v1), (2, Jint p2), (3, Jint p3), (4, .func (.func 22) #[] #[]), (10, Jint s.2)] a ∧ Stw ⟨Y, X, w0⟩ [] [row v1 43 AY s.1] w) ⟨F.ra Aa, W⟩ fun s o a w H L1 hR => ?_
 obtain ⟨x1, x2⟩ := s
 obtain ⟨F, W⟩ := hR
 have F : Fr 82 [] [(0, v1), (2, Jint p2), (3, Jint p3), (4, .func (.func 22) #[] #[]), (10, Jint x2)] a := F
 have W : Stw ⟨Y, X, w0⟩ [] [row v1 43 AY x1] w := W
 rw [AM] at H
 refine vc tk 17 F W fun a w F W => ?_
 refine AW F Aa H (fun F H => ?_) fun F H => ?_
 ·
  refine AC (AR ?_)
  refine Im Aa ?_
  refine AR (AD ?_)
  have H := L1 _ H
  have H := Ay H
  subst H
  refine Jh (.inr Aa) F Aa ?_
  exact ⟨(), Aa, W⟩
 refine AE (Ab ?_)
 obtain ⟨o2, G2, K2⟩ := Ac H
 refine As (fun a w => ∃ x3 : Int, some (x3) = some o2 ∧ Fr 82 [] [(0, v1), (2, Jint p2), (3, Jint p3), (4, .func (.func 22) #[] #[]), (10, Jint x2), (11, Jint x3)] a ∧ Stw ⟨Y, X, w0⟩ [] [row v1 43 AY x1] w) ?_ ?_
 ·
  have H := G2
  obtain ⟨o3, G3, K3⟩ := Ac H
  refine As (fun a w => ∃ x4 : Bool, some (x4) = some o3 ∧ Fr 82 [] [(0, v1), (2, Jint p2), (3, Jint p3), (4, .func (.func 22) #[] #[]), (10, Jint x2), (11, Jint (An ((An (2 * x2)) + 1))), (40, .bool x4)] a ∧ Stw ⟨Y, X, w0⟩ [] [row v1 43 AY x1] w) ?_ ?_
  ·
   have H := G3
   refine Bz W MO (by kernel_rfl) ?_
   refine qs F Aa (Ai F Aa).q fun a F => ?_
   refine qs F Aa (Iy F Aa Aa Aa).q fun a F => ?_
   refine qs F Aa (Ai F Aa).q fun a F => ?_
   refine qs F Aa (GV F Aa Aa).q fun a F => ?_
   refine qs F Aa (Ai F Aa).q fun a F => ?_
   rcases bxq (decide ((An ((An ((An (2 * x2)) + 1)) + 1)) < p2)) with hb | hb
   ·
    have H := DU (Fa hb) H
    rw [hb] at F
    iterate 4 refine AZ F (Ad F Aa Aa Aa Aa) Aa (Ao Aa) (Ai F Aa).q fun a F => ?_
    refine AZ F (Ad F Aa Aa Aa Aa) Aa (Ao Aa) (Iy F Aa Aa Aa).q fun a F => ?_
    obtain ⟨x5, h1, H⟩ := Ac H
    refine AZ F (Ad F Aa Aa Aa Aa) Aa (Ao Aa) (Al (r := AY) Eu F Aa Aa (Af 0 Aa) h1).q fun a F => ?_
    refine AZ F (Ad F Aa Aa Aa Aa) Aa (Ao Aa) (Ag (y := Value.agg #[Jint x5.1, Jint x5.2.1, Jint x5.2.2.1, Jint x5.2.2.2]) (j := 0) (i := An (p3 + (An ((An (2 * x2)) + 1)))) F Aa Aa (Af 0 Aa) h1 EK.to Ey Aa).q fun a F => ?_
    iterate 3 refine AZ F (Ad F Aa Aa Aa Aa) Aa (Ao Aa) (Ai F Aa).q fun a F => ?_
    iterate 2 refine AZ F (Ad F Aa Aa Aa Aa) Aa (Ao Aa) (Iy F Aa Aa Aa).q fun a F => ?_
    obtain ⟨x6, h2, H⟩ := Ac H
    refine AZ F (Ad F Aa Aa Aa Aa) Aa (Ao Aa) (Al (r := AY) Eu F Aa Aa (Af 0 Aa) h2).q fun a F => ?_
    refine AZ F (Ad F Aa Aa Aa Aa) Aa (Ao Aa) (Ag (y := Value.agg #[Jint x6.1, Jint x6.2.1, Jint x6.2.2.1, Jint x6.2.2.2]) (j := 0) (i := An ((An (p3 + (An ((An (2 * x2)) + 1)))) + 1)) F Aa Aa (Af 0 Aa) h2 EK.to Ey Aa).q fun a F => ?_
    obtain ⟨x7, h3, H⟩ := Ac H
    refine AZ F (Ad F Aa Aa Aa Aa) Aa (Ao Aa) (E5 (ws := (Jv x5 x6)) (v := Jint x7) F RZ Aa (fun w W => Cm any w x5 x6 _ h3)) fun a F => ?_
    refine AZ F (Ad F Aa Aa Aa Aa) Aa (Ao Aa) (GV F Aa Aa).q fun a F => ?_
    refine qs F Aa (C4 F Aa Aa Aa).q fun a F => ?_
    refine AA fun w W => ?_
    refine Ab ?_
    exact ⟨_, H, F.ra Aa, W⟩
   have H := DS (E4 hb) H
   rw [hb] at F
   iterate 16 refine Dn F (CX F Aa Aa Aa Aa Aa) Aa Aa fun a F => ?_
   refine qs F Aa (Dw F Aa Aa Aa).q fun a F => ?_
   refine AA fun w W => ?_
   refine Ab ?_
   exact ⟨_, H, F.ra Aa, W⟩
  rintro a w ⟨x4, hj, F, W⟩
  have hj := Ay hj
  subst hj
  have H := K3
  refine CS F Aa H (fun F H => ?_) fun F H => ?_
  ·
   refine vc tk 5 F W fun a w F W => ?_
   refine Ab ?_
   exact ⟨_, H, F.ra Aa, W⟩
  refine AE (Ab ?_)
  exact ⟨_, H, F.ra Aa, W⟩
 rintro a w ⟨x3, hj, F, W⟩
 have hj := Ay hj
 subst hj
 have H := K2
 refine vc tk 2 F W fun a w F W => ?_
 refine Bz W MO (by kernel_rfl) ?_
 iterate 4 refine qs F Aa (Ai F Aa).q fun a F => ?_
 refine qs F Aa (Iy F Aa Aa Aa).q fun a F => ?_
 obtain ⟨x8, h4, H⟩ := Ac H
 refine qs F Aa (Al (r := AY) Eu F Aa Aa (Af 0 Aa) h4).q fun a F => ?_
 refine qs F Aa (Ag (y := Value.agg #[Jint x8.1, Jint x8.2.1, Jint x8.2.2.1, Jint x8.2.2.2]) (j := 0) (i := An (p3 + x2)) F Aa Aa (Af 0 Aa) h4 EK.to Ey Aa).q fun a F => ?_
 iterate 3 refine qs F Aa (Ai F Aa).q fun a F => ?_
 refine qs F Aa (Iy F Aa Aa Aa).q fun a F => ?_
 obtain ⟨x9, h5, H⟩ := Ac H
 refine qs F Aa (Al (r := AY) Eu F Aa Aa (Af 0 Aa) h5).q fun a F => ?_
 refine qs F Aa (Ag (y := Value.agg #[Jint x9.1, Jint x9.2.1, Jint x9.2.2.1, Jint x9.2.2.2]) (j := 0) (i := An (p3 + x3)) F Aa Aa (Af 0 Aa) h5 EK.to Ey Aa).q fun a F => ?_
 obtain ⟨x10, h6, H⟩ := Ac H
 refine qs F Aa (E5 (ws := (Jv x8 x9)) (v := Jint x10) F RZ Aa (fun w W => Cm any w x8 x9 _ h6)) fun a F => ?_
 refine qs F Aa (GV F Aa Aa).q fun a F => ?_
 refine qs F Aa (I5 F Aa).q fun a F => ?_
 refine AA fun w W => ?_
 refine Ab ?_
 refine CS F Aa H (fun F H => ?_) fun F H => ?_
 ·
  refine Ap (AF (AV (AF (AV ?_))))
  have H := L1 _ H
  have H := Ay H
  subst H
  refine Jh (.inl Aa) F Aa ?_
  exact ⟨(), Aa, W⟩
 refine FL tk 3 F W fun a w F W => ?_
 refine ER [(true, 0), (true, 1), (true, 2), (true, 3), (true, 4), (true, 5), (true, 6), (true, 7), (true, 8), (true, 9), (true, 10), (true, 11), (true, 12), (true, 13), (true, 14), (true, 15), (true, 16), (true, 17), (true, 18), (true, 19), (true, 20), (false, 21), (true, 22), (false, 23)] (CN ⟨Y, X, w0⟩ [] [(some 21, row v1 43 AY x1)]) (fun ch a d v w h => by cases d <;> exact h) MO (by kernel_rfl) W (fun w W => ⟨_, _, W, Ak, (all_cons (fun _ => (.head _)) Ak)⟩) fun w W => ?_
 iterate 3 refine A6 (R := []) F Aa Aa (yC fun M Z hN hZ => Ai F Aa) Aa Aa fun a F => ?_
 refine A6 (R := []) F Aa Aa (yC fun M Z hN hZ => Iy F Aa Aa Aa) Aa Aa fun a F => ?_
 iterate 3 refine A6 (R := []) F Aa Aa (yC fun M Z hN hZ => Ai F Aa) Aa Aa fun a F => ?_
 refine A6 (R := []) F Aa Aa (yC fun M Z hN hZ => Iy F Aa Aa Aa) Aa Aa fun a F => ?_
 iterate 3 refine A6 (R := []) F Aa Aa (yC fun M Z hN hZ => Ai F Aa) Aa Aa fun a F => ?_
 refine A6 (R := []) F Aa Aa (yC fun M Z hN hZ => Iy F Aa Aa Aa) Aa Aa fun a F => ?_
 obtain ⟨x11, h7, H⟩ := Ac H
 refine A6 (R := []) F Aa Aa (yC fun M Z hN hZ => Ba (r := AY) Eu F Aa Aa (C2 W (Af 0 Aa)) h7) Aa Aa fun a F => ?_
 refine A6 (R := [21]) F Aa Aa (yC fun M Z hN hZ => Ag (y := Value.agg #[Jint x11.1, Jint x11.2.1, Jint x11.2.2.1, Jint x11.2.2.2]) (j := 0) (i := An (p3 + x3)) F Aa Aa (Dh (hZ ((some 21), row v1 43 AY x1) (.head _) Aa)) h7 EK.to Ey Aa) (by kernel_rfl) Aa fun a F => ?_
 iterate 3 refine A6 (R := []) F Aa Aa (yC fun M Z hN hZ => Ai F Aa) Aa Aa fun a F => ?_
 refine A6 (R := []) F Aa Aa (yC fun M Z hN hZ => Iy F Aa Aa Aa) Aa Aa fun a F => ?_
 obtain ⟨x12, h8, H⟩ := Ac H
 refine A6 (R := []) F Aa Aa (yC fun M Z hN hZ => Ba (r := AY) Eu F Aa Aa (C2 W (Af 0 Aa)) h8) Aa Aa fun a F => ?_
 refine A6 (R := [21]) F Aa Aa (yC fun M Z hN hZ => Ag (y := Value.agg #[Jint x12.1, Jint x12.2.1, Jint x12.2.2.1, Jint x12.2.2.2]) (j := 0) (i := An (p3 + x2)) F Aa Aa (Dh (hZ ((some 21), row v1 43 AY x1) (.head _) Aa)) h8 EK.to Ey Aa) (by kernel_rfl) Aa fun a F => ?_
 obtain ⟨x13, h9, H⟩ := Ac H
 refine A6 (R := []) F Aa Aa (yC fun M Z hN hZ => Ba (r := AY) Eu F Aa Aa (C2 W (Af 0 Aa)) h9) Aa Aa fun a F => ?_
 refine F1 Aa ?_
 refine A0 (i := An (p3 + x2)) (j := 0) (vs := (Cj x11)) (x' := x11) F W Aa Aa Aa (k := 0) Aa Aa h9 Ey Aa Aa Aa Aa (fun A cs _ => EK.sto (by rfl) _ _ _) fun w W => ?_
 refine Cn (N2 := []) (NZ2 := []) (N3 := []) (NZ3 := [(some 21, row v1 43 AY x1)]) W Aa Aa Ak (all_cons (fun h => AH (by kernel_rfl) h) Ak) ?_
 obtain ⟨x14, h10, H⟩ := Ac H
 refine A6 (R := []) F Aa Aa (yC fun M Z hN hZ => Ba (r := AY) Eu F Aa Aa (C2 W (Af 0 Aa)) h10) Aa Aa fun a F => ?_
 refine F1 Aa ?_
 refine A0 (i := An (p3 + x3)) (j := 0) (vs := (Cj x12)) (x' := x12) F W Aa Aa Aa (k := 0) Aa Aa h10 Ey Aa Aa Aa Aa (fun A cs _ => EK.sto (by rfl) _ _ _) fun w W => ?_
 refine Cn (N2 := []) (NZ2 := []) (N3 := []) (NZ3 := [(some 21, row v1 43 AY x1)]) W Aa Aa Ak (all_cons (fun h => AH (by kernel_rfl) h) Ak) ?_
 refine Hd ?_
 refine vn tk 4 F W fun a w F W => ?_
 refine Aw (Ab ?_)
 exact ⟨_, H, F.ra Aa, W⟩
theorem ZH : Has Tryz.prog 83 := Cv Tryz.func83
def BL (p1 : Int) (p2 : Int) : ((List (Int × Int × Int × Int)) × Int) → Option (((List (Int × Int × Int × Int)) × Int) ⊕ (List (Int × Int × Int × Int)))
  | (x2, x3) => (if 0 ≤ x3 then (B1 x2 x3 (An (p2 - p1)) p1).bind fun x4 => some (.inl (x4, An (x3 - 1))) else some (.inr x2))
def BM (p1 : Int) : ((List (Int × Int × Int × Int)) × Int) → Option (((List (Int × Int × Int × Int)) × Int) ⊕ (List (Int × Int × Int × Int)))
  | (x5, x6) => (if 0 ≤ x6 then (ix x5 (An (p1 + x6))).bind fun x7 => (ix x5 p1).bind fun x8 => (ix x5 p1).bind fun x9 => (ix (Ah x5 p1 x7) (An (p1 + x6))).bind fun x10 => (B1 (Ah (Ah x5 p1 x7) (An (p1 + x6)) x8) 0 x6 p1).bind fun x11 => some (.inl (x11, An (x6 - 1))) else some (.inr x5))
def Cw (p0 : List (Int × Int × Int × Int)) (p1 : Int) (p2 : Int) : Option (List (Int × Int × Int × Int)) := (Aq (BL p1 p2) (p0, An (Int.tdiv (An ((An (p2 - p1)) - 1)) 2))).bind fun x1 => Aq (BM p1) (x1, An ((An (p2 - p1)) - 1))
theorem GS (Y : Nat → Prop) (X : List Nat) (w0 : World) (v1 : Value) (p0 : List (Int × Int × Int × Int)) (p1 : Int) (p2 : Int) (r : (List (Int × Int × Int × Int))) (H : Cw p0 p1 p2 = some r) (hL : Stw ⟨Y, X, w0⟩ [] [row v1 43 AY p0] w0) :
    ca_ 61 #[v1, Jint p1, Jint p2, .func (.func 22) #[] #[]] w0 fun e w' => ∃ x : Unit, e = .returned (.tuple #[]) ∧ Stw ⟨Y, X, w0⟩ [] [row v1 43 AY r] w' := by
 refine enter Tryz.func61 Aa Tryz.ntmps61 Aa fun a F => ?_
 have W := hL
 unfold Cw at H
 refine vc tk 19 F W fun a w F W => ?_
 obtain ⟨o1, G1, K1⟩ := Ac H
 refine As (fun a w => ∃ x1 : List (Int × Int × Int × Int), some (x1) = some o1 ∧ Fr 60 [] [(0, v1), (3, .func (.func 22) #[] #[]), (8, Jint p1), (9, Jint 0), (10, Jint (An (p2 - p1)))] a ∧ Stw ⟨Y, X, w0⟩ [] [row v1 43 AY x1] w) ?_ ?_
 ·
  have H := G1
  refine vc tk 4 F W fun a w F W => ?_
  refine ls F W Aa (Lo F Aa Aa (by decide) Aa).q fun a w F W => ?_
  refine BQ tk 4 F W fun a w F W => ?_
  refine AN H (fun s a w => Fr 60 [] [(0, v1), (3, .func (.func 22) #[] #[]), (8, Jint p1), (9, Jint 0), (10, Jint (An (p2 - p1))), (11, Jint s.2)] a ∧ Stw ⟨Y, X, w0⟩ [] [row v1 43 AY s.1] w) ⟨F.ra Aa, W⟩ fun s o a w H L2 hR => ?_
  obtain ⟨x2, x3⟩ := s
  obtain ⟨F, W⟩ := hR
  have F : Fr 60 [] [(0, v1), (3, .func (.func 22) #[] #[]), (8, Jint p1), (9, Jint 0), (10, Jint (An (p2 - p1))), (11, Jint x3)] a := F
  have W : Stw ⟨Y, X, w0⟩ [] [row v1 43 AY x2] w := W
  rw [BL] at H
  refine vc tk 7 F W fun a w F W => ?_
  refine AW F Aa H (fun F H => ?_) fun F H => ?_
  ·
   refine FL tk 10 F W fun a w F W => ?_
   obtain ⟨x4, h1, H⟩ := Ac H
   refine A9 (Ml := []) (Zl := [row v1 43 AY x2]) (β := Unit) (rv := fun x => .tuple #[]) (MM := fun x => []) (ZZ := fun x => [row v1 43 AY x4]) F W ZH Aa Aa (fun hL => EI _ _ w (v1) x2 x3 (An (p2 - p1)) p1 _ h1 hL) fun x a w F W => ?_
   have W : Stw ⟨Y, X, w0⟩ [] [row v1 43 AY x4] w := W
   refine FC (Aw ?_)
   refine vn tk 5 F W fun a w F W => ?_
   refine Ab ?_
   exact ⟨_, H, F.ra Aa, W⟩
  refine AC ?_
  iterate 2 refine AR ?_
  refine AD (Ab ?_)
  have H := L2 _ H
  exact ⟨_, H, F.ra Aa, W⟩
 rintro a w ⟨x1, hj, F, W⟩
 have hj := Ay hj
 subst hj
 have H := K1
 refine vc tk 8 F W fun a w F W => ?_
 refine AN H (fun s a w => Fr 60 [] [(0, v1), (3, .func (.func 22) #[] #[]), (8, Jint p1), (9, Jint 0), (12, Jint s.2)] a ∧ Stw ⟨Y, X, w0⟩ [] [row v1 43 AY s.1] w) ⟨F.ra Aa, W⟩ fun s o a w H L3 hR => ?_
 obtain ⟨x5, x6⟩ := s
 obtain ⟨F, W⟩ := hR
 have F : Fr 60 [] [(0, v1), (3, .func (.func 22) #[] #[]), (8, Jint p1), (9, Jint 0), (12, Jint x6)] a := F
 have W : Stw ⟨Y, X, w0⟩ [] [row v1 43 AY x5] w := W
 rw [BM] at H
 refine vc tk 7 F W fun a w F W => ?_
 refine AW F Aa H (fun F H => ?_) fun F H => ?_
 ·
  refine FL tk 5 F W fun a w F W => ?_
  refine ER [(true, 0), (true, 1), (true, 2), (true, 3), (true, 4), (true, 5), (true, 6), (true, 7), (true, 8), (true, 9), (true, 10), (true, 11), (true, 12), (true, 13), (true, 14), (true, 15), (true, 16), (false, 17), (true, 18), (false, 19)] (CN ⟨Y, X, w0⟩ [] [(some 17, row v1 43 AY x5)]) (fun ch a d v w h => by cases d <;> exact h) MO (by kernel_rfl) W (fun w W => ⟨_, _, W, Ak, (all_cons (fun _ => (.head _)) Ak)⟩) fun w W => ?_
  iterate 5 refine A6 (R := []) F Aa Aa (yC fun M Z hN hZ => Ai F Aa) Aa Aa fun a F => ?_
  refine A6 (R := []) F Aa Aa (yC fun M Z hN hZ => Iy F Aa Aa Aa) Aa Aa fun a F => ?_
  iterate 3 refine A6 (R := []) F Aa Aa (yC fun M Z hN hZ => Ai F Aa) Aa Aa fun a F => ?_
  refine A6 (R := []) F Aa Aa (yC fun M Z hN hZ => Iy F Aa Aa Aa) Aa Aa fun a F => ?_
  obtain ⟨x7, h2, H⟩ := Ac H
  refine A6 (R := []) F Aa Aa (yC fun M Z hN hZ => Ba (r := AY) Eu F Aa Aa (C2 W (Af 0 Aa)) h2) Aa Aa fun a F => ?_
  refine A6 (R := [17]) F Aa Aa (yC fun M Z hN hZ => Ag (y := Value.agg #[Jint x7.1, Jint x7.2.1, Jint x7.2.2.1, Jint x7.2.2.2]) (j := 0) (i := An (p1 + x6)) F Aa Aa (Dh (hZ ((some 17), row v1 43 AY x5) (.head _) Aa)) h2 EK.to Ey Aa) (by kernel_rfl) Aa fun a F => ?_
  iterate 2 refine A6 (R := []) F Aa Aa (yC fun M Z hN hZ => Ai F Aa) Aa Aa fun a F => ?_
  obtain ⟨x8, h3, H⟩ := Ac H
  refine A6 (R := []) F Aa Aa (yC fun M Z hN hZ => Ba (r := AY) Eu F Aa Aa (C2 W (Af 0 Aa)) h3) Aa Aa fun a F => ?_
  refine A6 (R := [17]) F Aa Aa (yC fun M Z hN hZ => Ag (y := Value.agg #[Jint x8.1, Jint x8.2.1, Jint x8.2.2.1, Jint x8.2.2.2]) (j := 0) (i := p1) F Aa Aa (Dh (hZ ((some 17), row v1 43 AY x5) (.head _) Aa)) h3 EK.to Ey Aa) (by kernel_rfl) Aa fun a F => ?_
  obtain ⟨x9, h4, H⟩ := Ac H
  refine A6 (R := []) F Aa Aa (yC fun M Z hN hZ => Ba (r := AY) Eu F Aa Aa (C2 W (Af 0 Aa)) h4) Aa Aa fun a F => ?_
  refine F1 Aa ?_
  refine A0 (i := p1) (j := 0) (vs := (Cj x7)) (x' := x7) F W Aa Aa Aa (k := 0) Aa Aa h4 Ey Aa Aa Aa Aa (fun A cs _ => EK.sto (by rfl) _ _ _) fun w W => ?_
  refine Cn (N2 := []) (NZ2 := []) (N3 := []) (NZ3 := [(some 17, row v1 43 AY x5)]) W Aa Aa Ak (all_cons (fun h => AH (by kernel_rfl) h) Ak) ?_
  obtain ⟨x10, h5, H⟩ := Ac H
  refine A6 (R := []) F Aa Aa (yC fun M Z hN hZ => Ba (r := AY) Eu F Aa Aa (C2 W (Af 0 Aa)) h5) Aa Aa fun a F => ?_
  refine F1 Aa ?_
  refine A0 (i := An (p1 + x6)) (j := 0) (vs := (Cj x8)) (x' := x8) F W Aa Aa Aa (k := 0) Aa Aa h5 Ey Aa Aa Aa Aa (fun A cs _ => EK.sto (by rfl) _ _ _) fun w W => ?_
  refine Cn (N2 := []) (NZ2 := []) (N3 := []) (NZ3 := [(some 17, row v1 43 AY x5)]) W Aa Aa Ak (all_cons (fun h => AH (by kernel_rfl) h) Ak) ?_
  refine Hd ?_
  refine vn tk 6 F W fun a w F W => ?_
  obtain ⟨x11, h6, H⟩ := Ac H
  refine A9 (Ml := []) (Zl := [row v1 43 AY (Ah (Ah x5 p1 x7) (An (p1 + x6)) x8)]) (β := Unit) (rv := fun x => .tuple #[]) (MM := fun x => []) (ZZ := fun x => [row v1 43 AY x11]) F W ZH Aa Aa (fun hL => EI _ _ w (v1) (Ah (Ah x5 p1 x7) (An (p1 + x6)) x8) 0 x6 p1 _ h6 hL) fun x a w F W => ?_
  have W : Stw ⟨Y, X, w0⟩ [] [row v1 43 AY x11] w := W
  refine FC (Aw ?_)
  refine vn tk 5 F W fun a w F W => ?_
  refine Ab ?_
  exact ⟨_, H, F.ra Aa, W⟩
 refine AC ?_
 iterate 2 refine AR ?_
 refine AD ?_
 have H := L3 _ H
 have H := Ay H
 subst H
 refine Jh (.inr Aa) F Aa ?_
 exact ⟨(), Aa, W⟩
theorem ZL : Has Tryz.prog 61 := Cv Tryz.func61
def BR (p0 : List (Int × Int × Int × Int)) (p1 : Int) (p2 : Int) (p3 : Int) : Option (Int × Int × Int) := (ix p0 p2).bind fun x1 => (ix p0 p1).bind fun x2 => (Cc x1 x2).bind fun x3 => (if x3 < 0 then some (p2, p1, An (p3 + 1)) else some (p1, p2, p3))
theorem DN (Y : Nat → Prop) (X : List Nat) (w0 : World) (v1 : Value) (q_p3 : Nat) (p0 : List (Int × Int × Int × Int)) (p1 : Int) (p2 : Int) (p3 : Int) (r : Int × Int × Int) (H : BR p0 p1 p2 p3 = some r) (h_v1 : Sl w0 (NX X) AY v1 p0) (hL : Stw ⟨Y, X, w0⟩ [(q_p3, [Jint p3])] [] w0) :
    ca_ 100 #[v1, Jint p1, Jint p2, pp q_p3, .func (.func 22) #[] #[]] w0 fun e w' => ∃ x : Unit, e = .returned (.tuple #[Jint r.1, Jint r.2.1]) ∧ Stw ⟨Y, X, w0⟩ [(q_p3, [Jint r.2.2])] [] w' := by
 refine enter Tryz.func100 Aa Tryz.ntmps100 Aa fun a F => ?_
 have W := hL
 unfold BR at H
 refine vc tk 8 F W fun a w F W => ?_
 refine Bz W MO (by kernel_rfl) ?_
 iterate 3 refine qs F Aa (Ai F Aa).q fun a F => ?_
 obtain ⟨x1, h1, H⟩ := Ac H
 refine qs F Aa (Al (r := AY) Eu F Aa Aa (Ae h_v1) h1).q fun a F => ?_
 refine qs F Aa (Ag (y := Value.agg #[Jint x1.1, Jint x1.2.1, Jint x1.2.2.1, Jint x1.2.2.2]) (j := 0) (i := p2) F Aa Aa (Ae h_v1) h1 EK.to Ey Aa).q fun a F => ?_
 iterate 2 refine qs F Aa (Ai F Aa).q fun a F => ?_
 obtain ⟨x2, h2, H⟩ := Ac H
 refine qs F Aa (Al (r := AY) Eu F Aa Aa (Ae h_v1) h2).q fun a F => ?_
 refine qs F Aa (Ag (y := Value.agg #[Jint x2.1, Jint x2.2.1, Jint x2.2.2.1, Jint x2.2.2.2]) (j := 0) (i := p1) F Aa Aa (Ae h_v1) h2 EK.to Ey Aa).q fun a F => ?_
 obtain ⟨x3, h3, H⟩ := Ac H
 refine qs F Aa (E5 (ws := (Jv x1 x2)) (v := Jint x3) F RZ Aa (fun w W => Cm any w x1 x2 _ h3)) fun a F => ?_
 refine qs F Aa (GV F Aa Aa).q fun a F => ?_
 refine AA fun w W => ?_
 refine Ab ?_
 refine AW F Aa H (fun F H => ?_) fun F H => ?_
 ·
  refine vc tk 3 F W fun a w F W => ?_
  refine ls F W Aa (DQ F Aa).q fun a w F W => ?_
  refine Kp tk 2 [0] F W (ai fun a w F W => ?_)
  refine ls F W Aa (DQ F Aa).q fun a w F W => ?_
  refine Ej 0 F W Aa Aa Aa T3 Aa Aa Aa fun w W => ?_
  refine BQ tk 10 F W fun a w F W => ?_
  refine Ap (AF ?_)
  have H := Ay H
  subst H
  refine FD (.inl Aa) F W Aa (Am F Aa) (Am F Aa) ?_
  exact ⟨(), Aa, W⟩
 refine FL tk 10 F W fun a w F W => ?_
 refine Ap ?_
 have H := Ay H
 subst H
 refine FD (.inl Aa) F W Aa (Am F Aa) (Am F Aa) ?_
 exact ⟨(), Aa, W⟩
theorem WH : Has Tryz.prog 100 := Cv Tryz.func100
def BS (p0 : List (Int × Int × Int × Int)) (p1 : Int) (p2 : Int) (p3 : Int) (p4 : Int) : Option (Int × Int) := (BR p0 p1 p2 p4).bind fun x1 => (BR p0 x1.2.1 p3 x1.2.2).bind fun x2 => (BR p0 x1.1 x2.1 x2.2.2).bind fun x3 => some (x3.2.1, x3.2.2)
theorem EW (Y : Nat → Prop) (X : List Nat) (w0 : World) (v1 : Value) (q_p4 : Nat) (p0 : List (Int × Int × Int × Int)) (p1 : Int) (p2 : Int) (p3 : Int) (p4 : Int) (r : Int × Int) (H : BS p0 p1 p2 p3 p4 = some r) (h_v1 : Sl w0 (NX X) AY v1 p0) (hL : Stw ⟨Y, X, w0⟩ [(q_p4, [Jint p4])] [] w0) :
    ca_ 87 #[v1, Jint p1, Jint p2, Jint p3, pp q_p4, .func (.func 22) #[] #[]] w0 fun e w' => ∃ x : Unit, e = .returned (Jint r.1) ∧ Stw ⟨Y, X, w0⟩ [(q_p4, [Jint r.2])] [] w' := by
 refine enter Tryz.func87 Aa Tryz.ntmps87 Aa fun a F => ?_
 have W := hL
 unfold BS at H
 refine vc tk 12 F W fun a w F W => ?_
 obtain ⟨x1, h1, H⟩ := Ac H
 refine A9 (Ml := [(q_p4, [Jint p4])]) (Zl := []) (β := Unit) (rv := fun x => .tuple #[Jint x1.1, Jint x1.2.1]) (MM := fun x => [(q_p4, [Jint x1.2.2])]) (ZZ := fun x => []) F W WH Aa Aa (fun hL => DN _ _ w (v1) q_p4 p0 p1 p2 p4 _ h1 (W.roX h_v1 (fun g hg => Fq hg)) hL) fun x a w F W => ?_
 have W : Stw ⟨Y, X, w0⟩ [(q_p4, [Jint x1.2.2])] [] w := W
 refine ls F W Aa (Ai F Aa).q fun a w F W => ?_
 refine ls F W Aa (Bi (v := Jint x1.1) F Aa Aa).q fun a w F W => ?_
 refine ls F W Aa (Bi (v := Jint x1.2.1) F Aa Aa).q fun a w F W => ?_
 refine BQ tk 11 F W fun a w F W => ?_
 obtain ⟨x2, h2, H⟩ := Ac H
 refine A9 (Ml := [(q_p4, [Jint x1.2.2])]) (Zl := []) (β := Unit) (rv := fun x => .tuple #[Jint x2.1, Jint x2.2.1]) (MM := fun x => [(q_p4, [Jint x2.2.2])]) (ZZ := fun x => []) F W WH Aa Aa (fun hL => DN _ _ w (v1) q_p4 p0 x1.2.1 p3 x1.2.2 _ h2 (W.roX h_v1 (fun g hg => Fq hg)) hL) fun x a w F W => ?_
 have W : Stw ⟨Y, X, w0⟩ [(q_p4, [Jint x2.2.2])] [] w := W
 refine ls F W Aa (Ai F Aa).q fun a w F W => ?_
 refine ls F W Aa (Bi (v := Jint x2.1) F Aa Aa).q fun a w F W => ?_
 refine ls F W Aa (Bi (v := Jint x2.2.1) F Aa Aa).q fun a w F W => ?_
 refine BQ tk 11 F W fun a w F W => ?_
 obtain ⟨x3, h3, H⟩ := Ac H
 refine A9 (Ml := [(q_p4, [Jint x2.2.2])]) (Zl := []) (β := Unit) (rv := fun x => .tuple #[Jint x3.1, Jint x3.2.1]) (MM := fun x => [(q_p4, [Jint x3.2.2])]) (ZZ := fun x => []) F W WH Aa Aa (fun hL => DN _ _ w (v1) q_p4 p0 x1.1 x2.1 x2.2.2 _ h3 (W.roX h_v1 (fun g hg => Fq hg)) hL) fun x a w F W => ?_
 have W : Stw ⟨Y, X, w0⟩ [(q_p4, [Jint x3.2.2])] [] w := W
 refine ls F W Aa (Ai F Aa).q fun a w F W => ?_
 refine ls F W Aa (Bi (v := Jint x3.1) F Aa Aa).q fun a w F W => ?_
 refine ls F W Aa (Bi (v := Jint x3.2.1) F Aa Aa).q fun a w F W => ?_
 refine BQ tk 10 F W fun a w F W => ?_
 refine Ap ?_
 have H := Ay H
 subst H
 refine A1 (.inl Aa) F W Aa (Am F Aa) ?_
 exact ⟨(), Aa, W⟩
theorem ZD : Has Tryz.prog 87 := Cv Tryz.func87
def A8 (p0 : List (Int × Int × Int × Int)) (p1 : Int) (p2 : Int) : Option (Int × Int) := (BS p0 (An (p1 - 1)) p1 (An (p1 + 1)) p2).bind fun x1 => some (x1.1, x1.2)
theorem C6 (Y : Nat → Prop) (X : List Nat) (w0 : World) (v1 : Value) (q_p2 : Nat) (p0 : List (Int × Int × Int × Int)) (p1 : Int) (p2 : Int) (r : Int × Int) (H : A8 p0 p1 p2 = some r) (h_v1 : Sl w0 (NX X) AY v1 p0) (hL : Stw ⟨Y, X, w0⟩ [(q_p2, [Jint p2])] [] w0) :
    ca_ 86 #[v1, Jint p1, pp q_p2, .func (.func 22) #[] #[]] w0 fun e w' => ∃ x : Unit, e = .returned (Jint r.1) ∧ Stw ⟨Y, X, w0⟩ [(q_p2, [Jint r.2])] [] w' := by
 refine enter Tryz.func86 Aa Tryz.ntmps86 Aa fun a F => ?_
 have W := hL
 unfold A8 at H
 refine vc tk 15 F W fun a w F W => ?_
 obtain ⟨x1, h1, H⟩ := Ac H
 refine A9 (Ml := [(q_p2, [Jint p2])]) (Zl := []) (β := Unit) (rv := fun x => Jint x1.1) (MM := fun x => [(q_p2, [Jint x1.2])]) (ZZ := fun x => []) F W ZD Aa Aa (fun hL => EW _ _ w (v1) q_p2 p0 (An (p1 - 1)) p1 (An (p1 + 1)) p2 _ h1 (W.roX h_v1 (fun g hg => Fq hg)) hL) fun x a w F W => ?_
 have W : Stw ⟨Y, X, w0⟩ [(q_p2, [Jint x1.2])] [] w := W
 refine BQ tk 3 F W fun a w F W => ?_
 refine Ap ?_
 have H := Ay H
 subst H
 refine A1 (.inl Aa) F W Aa (Am F Aa) ?_
 exact ⟨(), Aa, W⟩
theorem YU : Has Tryz.prog 86 := Cv Tryz.func86
def Ce (p0 : List (Int × Int × Int × Int)) (p1 : Int) (p2 : Int) : Option (Int × Int) := (if 8 ≤ (An (p2 - p1)) then (if 50 ≤ (An (p2 - p1)) then (A8 p0 (An (p1 + (An ((An (Int.tdiv (An (p2 - p1)) 4)) * 1)))) 0).bind fun x7 => (A8 p0 (An (p1 + (An ((An (Int.tdiv (An (p2 - p1)) 4)) * 2)))) x7.2).bind fun x8 => (A8 p0 (An (p1 + (An ((An (Int.tdiv (An (p2 - p1)) 4)) * 3)))) x8.2).bind fun x9 => some (x7.1, x8.1, x9.1, x9.2) else some (An (p1 + (An ((An (Int.tdiv (An (p2 - p1)) 4)) * 1))), An (p1 + (An ((An (Int.tdiv (An (p2 - p1)) 4)) * 2))), An (p1 + (An ((An (Int.tdiv (An (p2 - p1)) 4)) * 3))), 0)).bind fun (x3, x4, x5, x6) => (BS p0 x3 x4 x5 x6).bind fun x10 => some (x10.1, x10.2) else some (An (p1 + (An ((An (Int.tdiv (An (p2 - p1)) 4)) * 2))), 0)).bind fun (x1, x2) => (if x2 = 0 then some (x1, 1) else (if x2 = 12 then some (x1, 2) else some (x1, 0)))
theorem GD (Y : Nat → Prop) (w0 : World) (v1 : Value) (p0 : List (Int × Int × Int × Int)) (p1 : Int) (p2 : Int) (r : Int × Int) (H : Ce p0 p1 p2 = some r) (h_v1 : Sl w0 (NX []) AY v1 p0) :
    ca_ 63 #[v1, Jint p1, Jint p2, .func (.func 22) #[] #[]] w0 fun e w' => e = .returned (.tuple #[Jint r.1, Jint r.2]) ∧ Below w0.heap.size w0 w' := by
 refine enter Tryz.func63 Aa Tryz.ntmps63 Aa fun a F => ?_
 have W := Stw.start Y w0
 unfold Ce at H
 refine vc tk 16 F W fun a w F W => ?_
 refine B6 (cs := [Jint 0]) F W Aa Z3 Aa fun b1 a w F W => ?_
 refine BQ tk 6 F W fun a w F W => ?_
 refine ls F W Aa (Lo F Aa Aa (by decide) Aa).q fun a w F W => ?_
 refine BQ tk 9 F W fun a w F W => ?_
 refine ls F W Aa (Lo F Aa Aa (by decide) Aa).q fun a w F W => ?_
 refine BQ tk 9 F W fun a w F W => ?_
 refine ls F W Aa (Lo F Aa Aa (by decide) Aa).q fun a w F W => ?_
 refine vl tk 4 F W fun a w F W => ?_
 refine Ab ?_
 obtain ⟨o1, G1, K1⟩ := Ac H
 refine As (fun a w => ∃ x1 : Int, ∃ x2 : Int, some ((x1, x2)) = some o1 ∧ Fr 63 [] [(8, Jint 0), (9, Jint 0), (11, pp b1), (13, Jint x1)] a ∧ sy Y w0 [(b1, [Jint x2])] [] w) ?_ ?_
 ·
  have H := G1
  refine vc tk 6 F W fun a w F W => ?_
  refine AW F Aa H (fun F H => ?_) fun F H => ?_
  ·
   obtain ⟨o2, G2, K2⟩ := Ac H
   refine As (fun a w => ∃ x3 : Int, ∃ x4 : Int, ∃ x5 : Int, ∃ x6 : Int, some ((x3, x4, x5, x6)) = some o2 ∧ Fr 63 [] [(0, v1), (3, .func (.func 22) #[] #[]), (8, Jint 0), (9, Jint 0), (11, pp b1), (12, Jint x3), (13, Jint x4), (14, Jint x5)] a ∧ sy Y w0 [(b1, [Jint x6])] [] w) ?_ ?_
   ·
    have H := G2
    refine vc tk 6 F W fun a w F W => ?_
    refine AW F Aa H (fun F H => ?_) fun F H => ?_
    ·
     refine vc tk 5 F W fun a w F W => ?_
     obtain ⟨x7, h1, H⟩ := Ac H
     refine A9 (Ml := [(b1, [Jint 0])]) (Zl := []) (β := Unit) (rv := fun x => Jint x7.1) (MM := fun x => [(b1, [Jint x7.2])]) (ZZ := fun x => []) F W YU Aa Aa (fun hL => C6 _ _ w (v1) b1 p0 (An (p1 + (An ((An (Int.tdiv (An (p2 - p1)) 4)) * 1)))) 0 _ h1 (W.roX h_v1 (fun g hg => Fq hg)) hL) fun x a w F W => ?_
     have W : sy Y w0 [(b1, [Jint x7.2])] [] w := W
     refine BQ tk 8 F W fun a w F W => ?_
     obtain ⟨x8, h2, H⟩ := Ac H
     refine A9 (Ml := [(b1, [Jint x7.2])]) (Zl := []) (β := Unit) (rv := fun x => Jint x8.1) (MM := fun x => [(b1, [Jint x8.2])]) (ZZ := fun x => []) F W YU Aa Aa (fun hL => C6 _ _ w (v1) b1 p0 (An (p1 + (An ((An (Int.tdiv (An (p2 - p1)) 4)) * 2)))) x7.2 _ h2 (W.roX h_v1 (fun g hg => Fq hg)) hL) fun x a w F W => ?_
     have W : sy Y w0 [(b1, [Jint x8.2])] [] w := W
     refine BQ tk 7 F W fun a w F W => ?_
     obtain ⟨x9, h3, H⟩ := Ac H
     refine A9 (Ml := [(b1, [Jint x8.2])]) (Zl := []) (β := Unit) (rv := fun x => Jint x9.1) (MM := fun x => [(b1, [Jint x9.2])]) (ZZ := fun x => []) F W YU Aa Aa (fun hL => C6 _ _ w (v1) b1 p0 (An (p1 + (An ((An (Int.tdiv (An (p2 - p1)) 4)) * 3)))) x8.2 _ h3 (W.roX h_v1 (fun g hg => Fq hg)) hL) fun x a w F W => ?_
     have W : sy Y w0 [(b1, [Jint x9.2])] [] w := W
     refine vl tk 2 F W fun a w F W => ?_
     refine Ab ?_
     exact ⟨_, _, _, _, H, F.ra Aa, W⟩
    refine AE (Ab ?_)
    exact ⟨_, _, _, _, H, F.ra Aa, W⟩
   rintro a w ⟨x3, x4, x5, x6, hj, F, W⟩
   have hj := Ay hj
   subst hj
   have H := K2
   refine vc tk 6 F W fun a w F W => ?_
   obtain ⟨x10, h4, H⟩ := Ac H
   refine A9 (Ml := [(b1, [Jint x6])]) (Zl := []) (β := Unit) (rv := fun x => Jint x10.1) (MM := fun x => [(b1, [Jint x10.2])]) (ZZ := fun x => []) F W ZD Aa Aa (fun hL => EW _ _ w (v1) b1 p0 x3 x4 x5 x6 _ h4 (W.roX h_v1 (fun g hg => Fq hg)) hL) fun x a w F W => ?_
   have W : sy Y w0 [(b1, [Jint x10.2])] [] w := W
   refine vl tk 2 F W fun a w F W => ?_
   refine Ab ?_
   exact ⟨_, _, H, F.ra Aa, W⟩
  refine AE (Ab ?_)
  exact ⟨_, _, H, F.ra Aa, W⟩
 rintro a w ⟨x1, x2, hj, F, W⟩
 have hj := Ay hj
 subst hj
 have H := K1
 refine Jk tk 12 [0] F W (ai fun a w F W => ?_)
 refine Gv F Aa (fun hb => ?_) fun hb => ?_
 ·
  have H := DU (Fa hb) H
  rw [hb] at F
  refine vc tk 7 F W fun a w F W => ?_
  refine Ap (AV ?_)
  have H := Ay H
  subst H
  refine FD (.inl Aa) F W Aa (Am F Aa) (Am F Aa) ?_
  exact ⟨rfl, W.done⟩
 have H := DS (E4 hb) H
 rw [hb] at F
 refine vc tk 6 F W fun a w F W => ?_
 refine Gv F Aa (fun hb => ?_) fun hb => ?_
 ·
  have H := DU (Fa hb) H
  rw [hb] at F
  refine vc tk 7 F W fun a w F W => ?_
  refine Ap (AV ?_)
  have H := Ay H
  subst H
  refine FD (.inl Aa) F W Aa (Am F Aa) (Am F Aa) ?_
  exact ⟨rfl, W.done⟩
 have H := DS (E4 hb) H
 rw [hb] at F
 refine vc tk 7 F W fun a w F W => ?_
 refine Ap (AV ?_)
 have H := Ay H
 subst H
 refine FD (.inl Aa) F W Aa (Am F Aa) (Am F Aa) ?_
 exact ⟨rfl, W.done⟩
theorem aE : Has Tryz.prog 63 := Cv Tryz.func63
def Bf  : ((List (Int × Int × Int × Int)) × Int × Int) → Option (((List (Int × Int × Int × Int)) × Int × Int) ⊕ (List (Int × Int × Int × Int)))
  | (x1, x2, x3) => (if x2 < x3 then (ix x1 x3).bind fun x4 => (ix x1 x2).bind fun x5 => (ix x1 x2).bind fun x6 => (ix (Ah x1 x2 x4) x3).bind fun x7 => some (.inl ((Ah (Ah x1 x2 x4) x3 x5), An (x2 + 1), An (x3 - 1))) else some (.inr x1))
def BF (p0 : List (Int × Int × Int × Int)) (p1 : Int) (p2 : Int) : Option (List (Int × Int × Int × Int)) := Aq (Bf) (p0, p1, An (p2 - 1))
theorem Gi (Y : Nat → Prop) (X : List Nat) (w0 : World) (v1 : Value) (p0 : List (Int × Int × Int × Int)) (p1 : Int) (p2 : Int) (r : (List (Int × Int × Int × Int))) (H : BF p0 p1 p2 = some r) (hL : Stw ⟨Y, X, w0⟩ [] [row v1 43 AY p0] w0) :
    ca_ 64 #[v1, Jint p1, Jint p2, .func (.func 22) #[] #[]] w0 fun e w' => ∃ x : Unit, e = .returned (.tuple #[]) ∧ Stw ⟨Y, X, w0⟩ [] [row v1 43 AY r] w' := by
 refine enter Tryz.func64 Aa Tryz.ntmps64 Aa fun a F => ?_
 have W := hL
 unfold BF at H
 refine vc tk 14 F W fun a w F W => ?_
 refine AN H (fun s a w => Fr 34 [] [(0, v1), (8, Jint s.2.1), (9, Jint s.2.2)] a ∧ Stw ⟨Y, X, w0⟩ [] [row v1 43 AY s.1] w) ⟨F.ra Aa, W⟩ fun s o a w H L1 hR => ?_
 obtain ⟨x1, x2, x3⟩ := s
 obtain ⟨F, W⟩ := hR
 have F : Fr 34 [] [(0, v1), (8, Jint x2), (9, Jint x3)] a := F
 have W : Stw ⟨Y, X, w0⟩ [] [row v1 43 AY x1] w := W
 rw [Bf] at H
 refine vc tk 8 F W fun a w F W => ?_
 refine AW F Aa H (fun F H => ?_) fun F H => ?_
 ·
  refine FL tk 4 F W fun a w F W => ?_
  refine Ju 13 [2, 3] [0, 1, 4, 5, 6, 7, 8, 9, 10, 11, 12] (fun ch a d v w h => by cases d <;> exact h) W MO (by kernel_rfl) ?_
  iterate 2 refine hm F Aa Aa Aa fun a F => ?_
  refine KV ?_
  iterate 4 refine hs F Aa Aa Aa (Ai F Aa).q fun a F => ?_
  obtain ⟨x4, h1, H⟩ := Ac H
  refine hs F Aa Aa Aa (Al (r := AY) Eu F Aa Aa (Af 0 Aa) h1).q fun a F => ?_
  refine hs F Aa Aa Aa (Ag (y := Value.agg #[Jint x4.1, Jint x4.2.1, Jint x4.2.2.1, Jint x4.2.2.2]) (j := 0) (i := x3) F Aa Aa (Af 0 Aa) h1 EK.to Ey Aa).q fun a F => ?_
  iterate 2 refine hs F Aa Aa Aa (Ai F Aa).q fun a F => ?_
  obtain ⟨x5, h2, H⟩ := Ac H
  refine hs F Aa Aa Aa (Al (r := AY) Eu F Aa Aa (Af 0 Aa) h2).q fun a F => ?_
  refine hs F Aa Aa Aa (Ag (y := Value.agg #[Jint x5.1, Jint x5.2.1, Jint x5.2.2.1, Jint x5.2.2.2]) (j := 0) (i := x2) F Aa Aa (Af 0 Aa) h2 EK.to Ey Aa).q fun a F => ?_
  obtain ⟨x6, h3, H⟩ := Ac H
  refine hs F Aa Aa Aa (Al (r := AY) Eu F Aa Aa (Af 0 Aa) h3).q fun a F => ?_
  refine M7 fun w W => ?_
  have W : Stw ⟨Y, X, w0⟩ [] [row v1 43 AY x1] w := W
  refine A0 (i := x2) (j := 0) (vs := (Cj x4)) (x' := x4) F W Aa Aa Aa (k := 0) Aa Aa h3 Ey Aa Aa Aa Aa (fun A cs _ => EK.sto (by rfl) _ _ _) fun w W => ?_
  obtain ⟨x7, h4, H⟩ := Ac H
  refine ls F W Aa (Al (r := AY) Eu F Aa Aa (Af 0 Aa) h4).q fun a w F W => ?_
  refine A0 (i := x3) (j := 0) (vs := (Cj x5)) (x' := x5) F W Aa Aa Aa (k := 0) Aa Aa h4 Ey Aa Aa Aa Aa (fun A cs _ => EK.sto (by rfl) _ _ _) fun w W => ?_
  refine BQ tk 14 F W fun a w F W => ?_
  refine Aw (Ab ?_)
  exact ⟨_, H, F.ra Aa, W⟩
 refine AC ?_
 iterate 2 refine AR ?_
 refine AD ?_
 have H := L1 _ H
 have H := Ay H
 subst H
 refine Jh (.inr Aa) F Aa ?_
 exact ⟨(), Aa, W⟩
theorem bD : Has Tryz.prog 64 := Cv Tryz.func64
def Bo (p2 : Int) (x2 : List (Int × Int × Int × Int)) : Int → Option (Int ⊕ Int)
  | x8 => (if x8 < p2 then (ix x2 x8).bind fun x10 => (ix x2 (An (x8 - 1))).bind fun x11 => (Cc x10 x11).bind fun x12 => some (!(decide (x12 < 0))) else some false).bind fun x9 => (if x9 = true then some (.inl (An (x8 + 1))) else some (.inr x8))
def Az  : ((List (Int × Int × Int × Int)) × Int) → Option (((List (Int × Int × Int × Int)) × Int) ⊕ (List (Int × Int × Int × Int)))
  | (x18, x19) => (if 1 ≤ x19 then (ix x18 x19).bind fun x20 => (ix x18 (An (x19 - 1))).bind fun x21 => (Cc x20 x21).bind fun x22 => (if (!(decide (x22 < 0))) = true then some (.inr x18) else (ix x18 (An (x19 - 1))).bind fun x23 => (ix x18 x19).bind fun x24 => (ix x18 x19).bind fun x25 => (ix (Ah x18 x19 x23) (An (x19 - 1))).bind fun x26 => some (.inl ((Ah (Ah x18 x19 x23) (An (x19 - 1)) x24), An (x19 - 1)))) else some (.inr x18))
def AK (p2 : Int) (x7 : Int) : ((List (Int × Int × Int × Int)) × Int) → Option (((List (Int × Int × Int × Int)) × Int) ⊕ (((List (Int × Int × Int × Int)) × Int) ⊕ (((List (Int × Int × Int × Int)) × Int × Int) ⊕ ((List (Int × Int × Int × Int)) ⊕ (Bool × (List (Int × Int × Int × Int)))))))
  | (x27, x28) => (if x28 < p2 then (ix x27 x28).bind fun x29 => (ix x27 (An (x28 - 1))).bind fun x30 => (Cc x29 x30).bind fun x31 => (if (!(decide (x31 < 0))) = true then some (.inr (.inl (x27, x7))) else (ix x27 (An (x28 - 1))).bind fun x32 => (ix x27 x28).bind fun x33 => (ix x27 x28).bind fun x34 => (ix (Ah x27 x28 x32) (An (x28 - 1))).bind fun x35 => some (.inl ((Ah (Ah x27 x28 x32) (An (x28 - 1)) x33), An (x28 + 1)))) else some (.inr (.inl (x27, x7))))
def AJ (p1 : Int) (p2 : Int) : ((List (Int × Int × Int × Int)) × Int × Int) → Option (((List (Int × Int × Int × Int)) × Int × Int) ⊕ ((List (Int × Int × Int × Int)) ⊕ (Bool × (List (Int × Int × Int × Int)))))
  | (x2, x3, x4) => (if x4 < 5 then GT ((Aq (Bo p2 x2) x3).bind fun x7 => (if x7 = p2 then some (.inr (.inr (.inr (true, x2)))) else (if (An (p2 - p1)) < 50 then some (.inr (.inr (.inr (false, x2)))) else (ix x2 (An (x7 - 1))).bind fun x13 => (ix x2 x7).bind fun x14 => (ix x2 x7).bind fun x15 => (ix (Ah x2 x7 x13) (An (x7 - 1))).bind fun x16 => (if 2 ≤ (An (x7 - p1)) then Aq (Az) ((Ah (Ah x2 x7 x13) (An (x7 - 1)) x14), An (x7 - 1)) else some (Ah (Ah x2 x7 x13) (An (x7 - 1)) x14)).bind fun x17 => (if 2 ≤ (An (p2 - x7)) then Aq (AK p2 x7) (x17, An (x7 + 1)) else some (.inl (x17, x7)))))) fun (x5, x6) => some (.inl (x5, x6, An (x4 + 1))) else some (.inr (.inl x2)))
def Bg (p0 : List (Int × Int × Int × Int)) (p1 : Int) (p2 : Int) : Option (Bool × (List (Int × Int × Int × Int))) := GT (Aq (AJ p1 p2) (p0, An (p1 + 1), 0)) fun x1 => some (false, x1)
theorem E3 (Y : Nat → Prop) (X : List Nat) (w0 : World) (v1 : Value) (p0 : List (Int × Int × Int × Int)) (p1 : Int) (p2 : Int) (r : Bool × (List (Int × Int × Int × Int))) (H : Bg p0 p1 p2 = some r) (hL : Stw ⟨Y, X, w0⟩ [] [row v1 43 AY p0] w0) :
    ca_ 65 #[v1, Jint p1, Jint p2, .func (.func 22) #[] #[]] w0 fun e w' => ∃ x : Unit, e = .returned (.bool r.1) ∧ Stw ⟨Y, X, w0⟩ [] [row v1 43 AY r.2] w' := by
 refine enter Tryz.func65 Aa Tryz.ntmps65 Aa fun a F => ?_
 have W := hL
 unfold Bg at H
 refine vc tk 12 F W fun a w F W => ?_
 obtain ⟨o1, G1, K1, L1⟩ := Md H
 refine As (fun a w => ∃ x1 : List (Int × Int × Int × Int), some (Sum.inl x1) = some o1 ∧ Fr 141 [] [(8, .bool false)] a ∧ Stw ⟨Y, X, w0⟩ [] [row v1 43 AY x1] w) ?_ ?_
 ·
  have H := G1
  refine vc tk 6 F W fun a w F W => ?_
  refine AN H (fun s a w => Fr 141 [] [(0, v1), (1, Jint p1), (2, Jint p2), (3, .func (.func 22) #[] #[]), (8, .bool false), (9, Jint s.2.1), (10, Jint s.2.2)] a ∧ Stw ⟨Y, X, w0⟩ [] [row v1 43 AY s.1] w) ⟨F.ra Aa, W⟩ fun s o a w H L2 hR => ?_
  obtain ⟨x2, x3, x4⟩ := s
  obtain ⟨F, W⟩ := hR
  have F : Fr 141 [] [(0, v1), (1, Jint p1), (2, Jint p2), (3, .func (.func 22) #[] #[]), (8, .bool false), (9, Jint x3), (10, Jint x4)] a := F
  have W : Stw ⟨Y, X, w0⟩ [] [row v1 43 AY x2] w := W
  rw [AJ] at H
  refine vc tk 7 F W fun a w F W => ?_
  refine AW F Aa H (fun F H => ?_) fun F H => ?_
  ·
   refine AE (Ab ?_)
   obtain ⟨o3, G3, K3, L3⟩ := Md H
   refine As (fun a w => ∃ x5 : List (Int × Int × Int × Int), ∃ x6 : Int, some (Sum.inl (x5, x6)) = some o3 ∧ Fr 141 [] [(0, v1), (1, Jint p1), (2, Jint p2), (3, .func (.func 22) #[] #[]), (8, .bool false), (9, Jint x6), (10, Jint x4)] a ∧ Stw ⟨Y, X, w0⟩ [] [row v1 43 AY x5] w) ?_ ?_
   ·
    have H := G3
    refine Ew ?_
    obtain ⟨o4, G4, K4⟩ := Ac H
    refine As (fun a w => ∃ x7 : Int, some (x7) = some o4 ∧ Fr 141 [] [(0, v1), (1, Jint p1), (2, Jint p2), (3, .func (.func 22) #[] #[]), (8, .bool false), (9, Jint x7), (10, Jint x4)] a ∧ Stw ⟨Y, X, w0⟩ [] [row v1 43 AY x2] w) ?_ ?_
    ·
     have H := G4
     refine Ew ?_
     refine AN H (fun s a w => Fr 141 [] [(0, v1), (1, Jint p1), (2, Jint p2), (3, .func (.func 22) #[] #[]), (8, .bool false), (9, Jint s), (10, Jint x4)] a ∧ Stw ⟨Y, X, w0⟩ [] [row v1 43 AY x2] w) ⟨F.ra Aa, W⟩ fun s o a w H L5 hR => ?_
     obtain ⟨x8, rfl⟩ : ∃ x, x = s := ⟨s, rfl⟩
     obtain ⟨F, W⟩ := hR
     have F : Fr 141 [] [(0, v1), (1, Jint p1), (2, Jint p2), (3, .func (.func 22) #[] #[]), (8, .bool false), (9, Jint x8), (10, Jint x4)] a := F
     have W : Stw ⟨Y, X, w0⟩ [] [row v1 43 AY x2] w := W
     rw [Bo] at H
     refine HH ?_
     obtain ⟨o6, G6, K6⟩ := Ac H
     refine As (fun a w => ∃ x9 : Bool, some (x9) = some o6 ∧ Fr 141 [] [(0, v1), (1, Jint p1), (2, Jint p2), (3, .func (.func 22) #[] #[]), (8, .bool false), (9, Jint x8), (10, Jint x4), (36, .bool x9)] a ∧ Stw ⟨Y, X, w0⟩ [] [row v1 43 AY x2] w) ?_ ?_
     ·
      have H := G6
      refine Bz W MO (by kernel_rfl) ?_
      iterate 2 refine qs F Aa (Ai F Aa).q fun a F => ?_
      refine qs F Aa (GV F Aa Aa).q fun a F => ?_
      refine qs F Aa (Ai F Aa).q fun a F => ?_
      rcases bxq (decide (x8 < p2)) with hb | hb
      ·
       have H := DU (Fa hb) H
       rw [hb] at F
       iterate 3 refine AZ F (Ad F Aa Aa Aa Aa) Aa (Ao Aa) (Ai F Aa).q fun a F => ?_
       obtain ⟨x10, h1, H⟩ := Ac H
       refine AZ F (Ad F Aa Aa Aa Aa) Aa (Ao Aa) (Al (r := AY) Eu F Aa Aa (Af 0 Aa) h1).q fun a F => ?_
       refine AZ F (Ad F Aa Aa Aa Aa) Aa (Ao Aa) (Ag (y := Value.agg #[Jint x10.1, Jint x10.2.1, Jint x10.2.2.1, Jint x10.2.2.2]) (j := 0) (i := x8) F Aa Aa (Af 0 Aa) h1 EK.to Ey Aa).q fun a F => ?_
       iterate 2 refine AZ F (Ad F Aa Aa Aa Aa) Aa (Ao Aa) (Ai F Aa).q fun a F => ?_
       refine AZ F (Ad F Aa Aa Aa Aa) Aa (Ao Aa) (Ek F Aa Aa Aa).q fun a F => ?_
       obtain ⟨x11, h2, H⟩ := Ac H
       refine AZ F (Ad F Aa Aa Aa Aa) Aa (Ao Aa) (Al (r := AY) Eu F Aa Aa (Af 0 Aa) h2).q fun a F => ?_
       refine AZ F (Ad F Aa Aa Aa Aa) Aa (Ao Aa) (Ag (y := Value.agg #[Jint x11.1, Jint x11.2.1, Jint x11.2.2.1, Jint x11.2.2.2]) (j := 0) (i := An (x8 - 1)) F Aa Aa (Af 0 Aa) h2 EK.to Ey Aa).q fun a F => ?_
       obtain ⟨x12, h3, H⟩ := Ac H
       refine AZ F (Ad F Aa Aa Aa Aa) Aa (Ao Aa) (E5 (ws := (Jv x10 x11)) (v := Jint x12) F RZ Aa (fun w W => Cm any w x10 x11 _ h3)) fun a F => ?_
       refine AZ F (Ad F Aa Aa Aa Aa) Aa (Ao Aa) (GV F Aa Aa).q fun a F => ?_
       refine AZ F (Ad F Aa Aa Aa Aa) Aa (Ao Aa) (I5 F Aa).q fun a F => ?_
       refine qs F Aa (C4 F Aa Aa Aa).q fun a F => ?_
       refine AA fun w W => ?_
       refine Ab ?_
       exact ⟨_, H, F.ra Aa, W⟩
      have H := DS (E4 hb) H
      rw [hb] at F
      iterate 13 refine Dn F (CX F Aa Aa Aa Aa Aa) Aa Aa fun a F => ?_
      refine qs F Aa (Dw F Aa Aa Aa).q fun a F => ?_
      refine AA fun w W => ?_
      refine Ab ?_
      exact ⟨_, H, F.ra Aa, W⟩
     rintro a w ⟨x9, hj, F, W⟩
     have hj := Ay hj
     subst hj
     have H := K6
     refine CS F Aa H (fun F H => ?_) fun F H => ?_
     ·
      refine FL tk 8 F W fun a w F W => ?_
      refine Ab ?_
      exact ⟨_, H, F.ra Aa, W⟩
     refine AC ?_
     iterate 2 refine AR ?_
     refine AD (Ab ?_)
     have H := L5 _ H
     exact ⟨_, H, F.ra Aa, W⟩
    rintro a w ⟨x7, hj, F, W⟩
    have hj := Ay hj
    subst hj
    have H := K4
    refine vc tk 8 F W fun a w F W => ?_
    refine AW F Aa H (fun F H => ?_) fun F H => ?_
    ·
     refine vc tk 5 F W fun a w F W => ?_
     refine Ap (AF (AV ?_))
     iterate 2 refine AF ?_
     refine AV (AF ?_)
     have H := L3 _ H
     have H := L2 _ H
     have H := L1 _ H
     have H := Ay H
     subst H
     refine A1 (.inl Aa) F W Aa (Am F Aa) ?_
     exact ⟨(), Aa, W⟩
    refine FL tk 11 F W fun a w F W => ?_
    refine AW F Aa H (fun F H => ?_) fun F H => ?_
    ·
     refine vc tk 5 F W fun a w F W => ?_
     refine Ap (AF (AV ?_))
     iterate 2 refine AF ?_
     refine AV (AF ?_)
     have H := L3 _ H
     have H := L2 _ H
     have H := L1 _ H
     have H := Ay H
     subst H
     refine A1 (.inl Aa) F W Aa (Am F Aa) ?_
     exact ⟨(), Aa, W⟩
    refine FL tk 3 F W fun a w F W => ?_
    refine ER [(true, 0), (true, 1), (true, 2), (true, 3), (true, 4), (true, 5), (true, 6), (true, 7), (true, 8), (true, 9), (true, 10), (true, 11), (true, 12), (true, 13), (true, 14), (false, 15), (true, 16), (false, 17)] (CN ⟨Y, X, w0⟩ [] [(some 15, row v1 43 AY x2)]) (fun ch a d v w h => by cases d <;> exact h) MO (by kernel_rfl) W (fun w W => ⟨_, _, W, Ak, (all_cons (fun _ => (.head _)) Ak)⟩) fun w W => ?_
    iterate 4 refine A6 (R := []) F Aa Aa (yC fun M Z hN hZ => Ai F Aa) Aa Aa fun a F => ?_
    refine A6 (R := []) F Aa Aa (yC fun M Z hN hZ => Ek F Aa Aa Aa) Aa Aa fun a F => ?_
    iterate 2 refine A6 (R := []) F Aa Aa (yC fun M Z hN hZ => Ai F Aa) Aa Aa fun a F => ?_
    refine A6 (R := []) F Aa Aa (yC fun M Z hN hZ => Ek F Aa Aa Aa) Aa Aa fun a F => ?_
    obtain ⟨x13, h4, H⟩ := Ac H
    refine A6 (R := []) F Aa Aa (yC fun M Z hN hZ => Ba (r := AY) Eu F Aa Aa (C2 W (Af 0 Aa)) h4) Aa Aa fun a F => ?_
    refine A6 (R := [15]) F Aa Aa (yC fun M Z hN hZ => Ag (y := Value.agg #[Jint x13.1, Jint x13.2.1, Jint x13.2.2.1, Jint x13.2.2.2]) (j := 0) (i := An (x7 - 1)) F Aa Aa (Dh (hZ ((some 15), row v1 43 AY x2) (.head _) Aa)) h4 EK.to Ey Aa) (by kernel_rfl) Aa fun a F => ?_
    iterate 2 refine A6 (R := []) F Aa Aa (yC fun M Z hN hZ => Ai F Aa) Aa Aa fun a F => ?_
    obtain ⟨x14, h5, H⟩ := Ac H
    refine A6 (R := []) F Aa Aa (yC fun M Z hN hZ => Ba (r := AY) Eu F Aa Aa (C2 W (Af 0 Aa)) h5) Aa Aa fun a F => ?_
    refine A6 (R := [15]) F Aa Aa (yC fun M Z hN hZ => Ag (y := Value.agg #[Jint x14.1, Jint x14.2.1, Jint x14.2.2.1, Jint x14.2.2.2]) (j := 0) (i := x7) F Aa Aa (Dh (hZ ((some 15), row v1 43 AY x2) (.head _) Aa)) h5 EK.to Ey Aa) (by kernel_rfl) Aa fun a F => ?_
    obtain ⟨x15, h6, H⟩ := Ac H
    refine A6 (R := []) F Aa Aa (yC fun M Z hN hZ => Ba (r := AY) Eu F Aa Aa (C2 W (Af 0 Aa)) h6) Aa Aa fun a F => ?_
    refine F1 Aa ?_
    refine A0 (i := x7) (j := 0) (vs := (Cj x13)) (x' := x13) F W Aa Aa Aa (k := 0) Aa Aa h6 Ey Aa Aa Aa Aa (fun A cs _ => EK.sto (by rfl) _ _ _) fun w W => ?_
    refine Cn (N2 := []) (NZ2 := []) (N3 := []) (NZ3 := [(some 15, row v1 43 AY x2)]) W Aa Aa Ak (all_cons (fun h => AH (by kernel_rfl) h) Ak) ?_
    obtain ⟨x16, h7, H⟩ := Ac H
    refine A6 (R := []) F Aa Aa (yC fun M Z hN hZ => Ba (r := AY) Eu F Aa Aa (C2 W (Af 0 Aa)) h7) Aa Aa fun a F => ?_
    refine F1 Aa ?_
    refine A0 (i := An (x7 - 1)) (j := 0) (vs := (Cj x14)) (x' := x14) F W Aa Aa Aa (k := 0) Aa Aa h7 Ey Aa Aa Aa Aa (fun A cs _ => EK.sto (by rfl) _ _ _) fun w W => ?_
    refine Cn (N2 := []) (NZ2 := []) (N3 := []) (NZ3 := [(some 15, row v1 43 AY x2)]) W Aa Aa Ak (all_cons (fun h => AH (by kernel_rfl) h) Ak) ?_
    refine Hd (Ab ?_)
    obtain ⟨o7, G7, K7⟩ := Ac H
    refine As (fun a w => ∃ x17 : List (Int × Int × Int × Int), some (x17) = some o7 ∧ Fr 141 [] [(0, v1), (1, Jint p1), (2, Jint p2), (3, .func (.func 22) #[] #[]), (8, .bool false), (9, Jint x7), (10, Jint x4)] a ∧ Stw ⟨Y, X, w0⟩ [] [row v1 43 AY x17] w) ?_ ?_
    ·
     have H := G7
     refine vc tk 8 F W fun a w F W => ?_
     refine AW F Aa H (fun F H => ?_) fun F H => ?_
     ·
      refine vc tk 8 F W fun a w F W => ?_
      refine AN H (fun s a w => Fr 141 [] [(0, v1), (1, Jint p1), (2, Jint p2), (3, .func (.func 22) #[] #[]), (8, .bool false), (9, Jint x7), (10, Jint x4), (11, Jint s.2)] a ∧ Stw ⟨Y, X, w0⟩ [] [row v1 43 AY s.1] w) ⟨F.ra Aa, W⟩ fun s o a w H L8 hR => ?_
      obtain ⟨x18, x19⟩ := s
      obtain ⟨F, W⟩ := hR
      have F : Fr 141 [] [(0, v1), (1, Jint p1), (2, Jint p2), (3, .func (.func 22) #[] #[]), (8, .bool false), (9, Jint x7), (10, Jint x4), (11, Jint x19)] a := F
      have W : Stw ⟨Y, X, w0⟩ [] [row v1 43 AY x18] w := W
      rw [Az] at H
      refine vc tk 7 F W fun a w F W => ?_
      refine AW F Aa H (fun F H => ?_) fun F H => ?_
      ·
       refine FL tk 6 F W fun a w F W => ?_
       refine Bz W MO (by kernel_rfl) ?_
       iterate 3 refine qs F Aa (Ai F Aa).q fun a F => ?_
       obtain ⟨x20, h8, H⟩ := Ac H
       refine qs F Aa (Al (r := AY) Eu F Aa Aa (Af 0 Aa) h8).q fun a F => ?_
       refine qs F Aa (Ag (y := Value.agg #[Jint x20.1, Jint x20.2.1, Jint x20.2.2.1, Jint x20.2.2.2]) (j := 0) (i := x19) F Aa Aa (Af 0 Aa) h8 EK.to Ey Aa).q fun a F => ?_
       iterate 2 refine qs F Aa (Ai F Aa).q fun a F => ?_
       refine qs F Aa (Ek F Aa Aa Aa).q fun a F => ?_
       obtain ⟨x21, h9, H⟩ := Ac H
       refine qs F Aa (Al (r := AY) Eu F Aa Aa (Af 0 Aa) h9).q fun a F => ?_
       refine qs F Aa (Ag (y := Value.agg #[Jint x21.1, Jint x21.2.1, Jint x21.2.2.1, Jint x21.2.2.2]) (j := 0) (i := An (x19 - 1)) F Aa Aa (Af 0 Aa) h9 EK.to Ey Aa).q fun a F => ?_
       obtain ⟨x22, h10, H⟩ := Ac H
       refine qs F Aa (E5 (ws := (Jv x20 x21)) (v := Jint x22) F RZ Aa (fun w W => Cm any w x20 x21 _ h10)) fun a F => ?_
       refine qs F Aa (GV F Aa Aa).q fun a F => ?_
       refine qs F Aa (I5 F Aa).q fun a F => ?_
       refine AA fun w W => ?_
       refine Ab ?_
       refine CS F Aa H (fun F H => ?_) fun F H => ?_
       ·
        refine AC (AR ?_)
        refine Im Aa ?_
        iterate 2 refine AR ?_
        refine AD (Ab ?_)
        have H := L8 _ H
        exact ⟨_, H, F.ra Aa, W⟩
       refine FL tk 2 F W fun a w F W => ?_
       refine ER [(true, 0), (true, 1), (true, 2), (true, 3), (true, 4), (true, 5), (true, 6), (true, 7), (true, 8), (true, 9), (true, 10), (true, 11), (true, 12), (true, 13), (true, 14), (false, 15), (true, 16), (false, 17)] (CN ⟨Y, X, w0⟩ [] [(some 15, row v1 43 AY x18)]) (fun ch a d v w h => by cases d <;> exact h) MO (by kernel_rfl) W (fun w W => ⟨_, _, W, Ak, (all_cons (fun _ => (.head _)) Ak)⟩) fun w W => ?_
       iterate 4 refine A6 (R := []) F Aa Aa (yC fun M Z hN hZ => Ai F Aa) Aa Aa fun a F => ?_
       refine A6 (R := []) F Aa Aa (yC fun M Z hN hZ => Ek F Aa Aa Aa) Aa Aa fun a F => ?_
       iterate 2 refine A6 (R := []) F Aa Aa (yC fun M Z hN hZ => Ai F Aa) Aa Aa fun a F => ?_
       refine A6 (R := []) F Aa Aa (yC fun M Z hN hZ => Ek F Aa Aa Aa) Aa Aa fun a F => ?_
       obtain ⟨x23, h11, H⟩ := Ac H
       refine A6 (R := []) F Aa Aa (yC fun M Z hN hZ => Ba (r := AY) Eu F Aa Aa (C2 W (Af 0 Aa)) h11) Aa Aa fun a F => ?_
       refine A6 (R := [15]) F Aa Aa (yC fun M Z hN hZ => Ag (y := Value.agg #[Jint x23.1, Jint x23.2.1, Jint x23.2.2.1, Jint x23.2.2.2]) (j := 0) (i := An (x19 - 1)) F Aa Aa (Dh (hZ ((some 15), row v1 43 AY x18) (.head _) Aa)) h11 EK.to Ey Aa) (by kernel_rfl) Aa fun a F => ?_
       iterate 2 refine A6 (R := []) F Aa Aa (yC fun M Z hN hZ => Ai F Aa) Aa Aa fun a F => ?_
       obtain ⟨x24, h12, H⟩ := Ac H
       refine A6 (R := []) F Aa Aa (yC fun M Z hN hZ => Ba (r := AY) Eu F Aa Aa (C2 W (Af 0 Aa)) h12) Aa Aa fun a F => ?_
       refine A6 (R := [15]) F Aa Aa (yC fun M Z hN hZ => Ag (y := Value.agg #[Jint x24.1, Jint x24.2.1, Jint x24.2.2.1, Jint x24.2.2.2]) (j := 0) (i := x19) F Aa Aa (Dh (hZ ((some 15), row v1 43 AY x18) (.head _) Aa)) h12 EK.to Ey Aa) (by kernel_rfl) Aa fun a F => ?_
       obtain ⟨x25, h13, H⟩ := Ac H
       refine A6 (R := []) F Aa Aa (yC fun M Z hN hZ => Ba (r := AY) Eu F Aa Aa (C2 W (Af 0 Aa)) h13) Aa Aa fun a F => ?_
       refine F1 Aa ?_
       refine A0 (i := x19) (j := 0) (vs := (Cj x23)) (x' := x23) F W Aa Aa Aa (k := 0) Aa Aa h13 Ey Aa Aa Aa Aa (fun A cs _ => EK.sto (by rfl) _ _ _) fun w W => ?_
       refine Cn (N2 := []) (NZ2 := []) (N3 := []) (NZ3 := [(some 15, row v1 43 AY x18)]) W Aa Aa Ak (all_cons (fun h => AH (by kernel_rfl) h) Ak) ?_
       obtain ⟨x26, h14, H⟩ := Ac H
       refine A6 (R := []) F Aa Aa (yC fun M Z hN hZ => Ba (r := AY) Eu F Aa Aa (C2 W (Af 0 Aa)) h14) Aa Aa fun a F => ?_
       refine F1 Aa ?_
       refine A0 (i := An (x19 - 1)) (j := 0) (vs := (Cj x24)) (x' := x24) F W Aa Aa Aa (k := 0) Aa Aa h14 Ey Aa Aa Aa Aa (fun A cs _ => EK.sto (by rfl) _ _ _) fun w W => ?_
       refine Cn (N2 := []) (NZ2 := []) (N3 := []) (NZ3 := [(some 15, row v1 43 AY x18)]) W Aa Aa Ak (all_cons (fun h => AH (by kernel_rfl) h) Ak) ?_
       refine Hd (Aw ?_)
       refine vn tk 5 F W fun a w F W => ?_
       refine Ab ?_
       exact ⟨_, H, F.ra Aa, W⟩
      refine AC ?_
      iterate 2 refine AR ?_
      refine AD (Ab ?_)
      have H := L8 _ H
      exact ⟨_, H, F.ra Aa, W⟩
     refine AE (Ab ?_)
     exact ⟨_, H, F.ra Aa, W⟩
    rintro a w ⟨x17, hj, F, W⟩
    have hj := Ay hj
    subst hj
    have H := K7
    refine vc tk 8 F W fun a w F W => ?_
    refine AW F Aa H (fun F H => ?_) fun F H => ?_
    ·
     refine vc tk 8 F W fun a w F W => ?_
     refine AN H (fun s a w => Fr 141 [] [(0, v1), (1, Jint p1), (2, Jint p2), (3, .func (.func 22) #[] #[]), (8, .bool false), (9, Jint x7), (10, Jint x4), (12, Jint s.2)] a ∧ Stw ⟨Y, X, w0⟩ [] [row v1 43 AY s.1] w) ⟨F.ra Aa, W⟩ fun s o a w H L9 hR => ?_
     obtain ⟨x27, x28⟩ := s
     obtain ⟨F, W⟩ := hR
     have F : Fr 141 [] [(0, v1), (1, Jint p1), (2, Jint p2), (3, .func (.func 22) #[] #[]), (8, .bool false), (9, Jint x7), (10, Jint x4), (12, Jint x28)] a := F
     have W : Stw ⟨Y, X, w0⟩ [] [row v1 43 AY x27] w := W
     rw [AK] at H
     refine vc tk 8 F W fun a w F W => ?_
     refine AW F Aa H (fun F H => ?_) fun F H => ?_
     ·
      refine FL tk 6 F W fun a w F W => ?_
      refine Bz W MO (by kernel_rfl) ?_
      iterate 3 refine qs F Aa (Ai F Aa).q fun a F => ?_
      obtain ⟨x29, h15, H⟩ := Ac H
      refine qs F Aa (Al (r := AY) Eu F Aa Aa (Af 0 Aa) h15).q fun a F => ?_
      refine qs F Aa (Ag (y := Value.agg #[Jint x29.1, Jint x29.2.1, Jint x29.2.2.1, Jint x29.2.2.2]) (j := 0) (i := x28) F Aa Aa (Af 0 Aa) h15 EK.to Ey Aa).q fun a F => ?_
      iterate 2 refine qs F Aa (Ai F Aa).q fun a F => ?_
      refine qs F Aa (Ek F Aa Aa Aa).q fun a F => ?_
      obtain ⟨x30, h16, H⟩ := Ac H
      refine qs F Aa (Al (r := AY) Eu F Aa Aa (Af 0 Aa) h16).q fun a F => ?_
      refine qs F Aa (Ag (y := Value.agg #[Jint x30.1, Jint x30.2.1, Jint x30.2.2.1, Jint x30.2.2.2]) (j := 0) (i := An (x28 - 1)) F Aa Aa (Af 0 Aa) h16 EK.to Ey Aa).q fun a F => ?_
      obtain ⟨x31, h17, H⟩ := Ac H
      refine qs F Aa (E5 (ws := (Jv x29 x30)) (v := Jint x31) F RZ Aa (fun w W => Cm any w x29 x30 _ h17)) fun a F => ?_
      refine qs F Aa (GV F Aa Aa).q fun a F => ?_
      refine qs F Aa (I5 F Aa).q fun a F => ?_
      refine AA fun w W => ?_
      refine Ab ?_
      refine CS F Aa H (fun F H => ?_) fun F H => ?_
      ·
       refine AC (AR ?_)
       refine Im Aa ?_
       iterate 2 refine AR ?_
       refine AD (Aw (Ab ?_))
       have H := L9 _ H
       exact ⟨_, _, H, F.ra Aa, W⟩
      refine FL tk 2 F W fun a w F W => ?_
      refine ER [(true, 0), (true, 1), (true, 2), (true, 3), (true, 4), (true, 5), (true, 6), (true, 7), (true, 8), (true, 9), (true, 10), (true, 11), (true, 12), (true, 13), (true, 14), (false, 15), (true, 16), (false, 17)] (CN ⟨Y, X, w0⟩ [] [(some 15, row v1 43 AY x27)]) (fun ch a d v w h => by cases d <;> exact h) MO (by kernel_rfl) W (fun w W => ⟨_, _, W, Ak, (all_cons (fun _ => (.head _)) Ak)⟩) fun w W => ?_
      iterate 4 refine A6 (R := []) F Aa Aa (yC fun M Z hN hZ => Ai F Aa) Aa Aa fun a F => ?_
      refine A6 (R := []) F Aa Aa (yC fun M Z hN hZ => Ek F Aa Aa Aa) Aa Aa fun a F => ?_
      iterate 2 refine A6 (R := []) F Aa Aa (yC fun M Z hN hZ => Ai F Aa) Aa Aa fun a F => ?_
      refine A6 (R := []) F Aa Aa (yC fun M Z hN hZ => Ek F Aa Aa Aa) Aa Aa fun a F => ?_
      obtain ⟨x32, h18, H⟩ := Ac H
      refine A6 (R := []) F Aa Aa (yC fun M Z hN hZ => Ba (r := AY) Eu F Aa Aa (C2 W (Af 0 Aa)) h18) Aa Aa fun a F => ?_
      refine A6 (R := [15]) F Aa Aa (yC fun M Z hN hZ => Ag (y := Value.agg #[Jint x32.1, Jint x32.2.1, Jint x32.2.2.1, Jint x32.2.2.2]) (j := 0) (i := An (x28 - 1)) F Aa Aa (Dh (hZ ((some 15), row v1 43 AY x27) (.head _) Aa)) h18 EK.to Ey Aa) (by kernel_rfl) Aa fun a F => ?_
      iterate 2 refine A6 (R := []) F Aa Aa (yC fun M Z hN hZ => Ai F Aa) Aa Aa fun a F => ?_
      obtain ⟨x33, h19, H⟩ := Ac H
      refine A6 (R := []) F Aa Aa (yC fun M Z hN hZ => Ba (r := AY) Eu F Aa Aa (C2 W (Af 0 Aa)) h19) Aa Aa fun a F => ?_
      refine A6 (R := [15]) F Aa Aa (yC fun M Z hN hZ => Ag (y := Value.agg #[Jint x33.1, Jint x33.2.1, Jint x33.2.2.1, Jint x33.2.2.2]) (j := 0) (i := x28) F Aa Aa (Dh (hZ ((some 15), row v1 43 AY x27) (.head _) Aa)) h19 EK.to Ey Aa) (by kernel_rfl) Aa fun a F => ?_
      obtain ⟨x34, h20, H⟩ := Ac H
      refine A6 (R := []) F Aa Aa (yC fun M Z hN hZ => Ba (r := AY) Eu F Aa Aa (C2 W (Af 0 Aa)) h20) Aa Aa fun a F => ?_
      refine F1 Aa ?_
      refine A0 (i := x28) (j := 0) (vs := (Cj x32)) (x' := x32) F W Aa Aa Aa (k := 0) Aa Aa h20 Ey Aa Aa Aa Aa (fun A cs _ => EK.sto (by rfl) _ _ _) fun w W => ?_
      refine Cn (N2 := []) (NZ2 := []) (N3 := []) (NZ3 := [(some 15, row v1 43 AY x27)]) W Aa Aa Ak (all_cons (fun h => AH (by kernel_rfl) h) Ak) ?_
      obtain ⟨x35, h21, H⟩ := Ac H
      refine A6 (R := []) F Aa Aa (yC fun M Z hN hZ => Ba (r := AY) Eu F Aa Aa (C2 W (Af 0 Aa)) h21) Aa Aa fun a F => ?_
      refine F1 Aa ?_
      refine A0 (i := An (x28 - 1)) (j := 0) (vs := (Cj x33)) (x' := x33) F W Aa Aa Aa (k := 0) Aa Aa h21 Ey Aa Aa Aa Aa (fun A cs _ => EK.sto (by rfl) _ _ _) fun w W => ?_
      refine Cn (N2 := []) (NZ2 := []) (N3 := []) (NZ3 := [(some 15, row v1 43 AY x27)]) W Aa Aa Ak (all_cons (fun h => AH (by kernel_rfl) h) Ak) ?_
      refine Hd (Aw ?_)
      refine vn tk 5 F W fun a w F W => ?_
      refine Ab ?_
      exact ⟨_, H, F.ra Aa, W⟩
     refine AC ?_
     iterate 2 refine AR ?_
     refine AD (Aw (Ab ?_))
     have H := L9 _ H
     exact ⟨_, _, H, F.ra Aa, W⟩
    refine AE (Aw (Ab ?_))
    exact ⟨_, _, H, F.ra Aa, W⟩
   rintro a w ⟨x5, x6, hj, F, W⟩
   have H := K3 _ hj
   refine vc tk 5 F W fun a w F W => ?_
   refine Ab ?_
   exact ⟨_, H, F.ra Aa, W⟩
  refine AC ?_
  iterate 2 refine AR ?_
  refine AD (Ab ?_)
  have H := L2 _ H
  exact ⟨_, H, F.ra Aa, W⟩
 rintro a w ⟨x1, hj, F, W⟩
 have H := K1 _ hj
 refine vc tk 5 F W fun a w F W => ?_
 refine Ap ?_
 have H := Ay H
 subst H
 refine A1 (.inl Aa) F W Aa (Am F Aa) ?_
 exact ⟨(), Aa, W⟩
theorem aL : Has Tryz.prog 65 := Cv Tryz.func65
def BH (p1 : Int) (x7 : List (Int × Int × Int × Int)) (x9 : Int) : Int → Option (Int ⊕ Int)
  | x11 => (if x11 ≤ x9 then (ix x7 p1).bind fun x13 => (ix x7 x11).bind fun x14 => (Cc x13 x14).bind fun x15 => some (!(decide (x15 < 0))) else some false).bind fun x12 => (if x12 = true then some (.inl (An (x11 + 1))) else some (.inr x11))
def BI (p1 : Int) (x7 : List (Int × Int × Int × Int)) (x10 : Int) : Int → Option (Int ⊕ Int)
  | x17 => (if x10 ≤ x17 then (ix x7 p1).bind fun x19 => (ix x7 x17).bind fun x20 => (Cc x19 x20).bind fun x21 => some (decide (x21 < 0)) else some false).bind fun x18 => (if x18 = true then some (.inl (An (x17 - 1))) else some (.inr x17))
def Bm (p1 : Int) : ((List (Int × Int × Int × Int)) × Int × Int) → Option (((List (Int × Int × Int × Int)) × Int × Int) ⊕ (Int × (List (Int × Int × Int × Int))))
  | (x7, x8, x9) => (Aq (BH p1 x7 x9) x8).bind fun x10 => (Aq (BI p1 x7 x10) x9).bind fun x16 => (if x16 < x10 then some (.inr (x10, x7)) else (ix x7 x16).bind fun x22 => (ix x7 x10).bind fun x23 => (ix x7 x10).bind fun x24 => (ix (Ah x7 x10 x22) x16).bind fun x25 => some (.inl ((Ah (Ah x7 x10 x22) x16 x23), An (x10 + 1), An (x16 - 1))))
def BW (p0 : List (Int × Int × Int × Int)) (p1 : Int) (p2 : Int) (p3 : Int) : Option (Int × (List (Int × Int × Int × Int))) := (ix p0 p3).bind fun x1 => (ix p0 p1).bind fun x2 => (ix p0 p1).bind fun x3 => (ix (Ah p0 p1 x1) p3).bind fun x4 => (Aq (Bm p1) ((Ah (Ah p0 p1 x1) p3 x2), An (p1 + 1), An (p2 - 1))).bind fun (x5, x6) => some (x5, x6)
theorem F0 (Y : Nat → Prop) (X : List Nat) (w0 : World) (v1 : Value) (p0 : List (Int × Int × Int × Int)) (p1 : Int) (p2 : Int) (p3 : Int) (r : Int × (List (Int × Int × Int × Int))) (H : BW p0 p1 p2 p3 = some r) (hL : Stw ⟨Y, X, w0⟩ [] [row v1 43 AY p0] w0) :
    ca_ 66 #[v1, Jint p1, Jint p2, Jint p3, .func (.func 22) #[] #[]] w0 fun e w' => ∃ x : Unit, e = .returned (Jint r.1) ∧ Stw ⟨Y, X, w0⟩ [] [row v1 43 AY r.2] w' := by
 refine enter Tryz.func66 Aa Tryz.ntmps66 Aa fun a F => ?_
 have W := hL
 unfold BW at H
 refine vc tk 6 F W fun a w F W => ?_
 refine Ju 13 [2, 3] [0, 1, 4, 5, 6, 7, 8, 9, 10, 11, 12] (fun ch a d v w h => by cases d <;> exact h) W MO (by kernel_rfl) ?_
 iterate 2 refine hm F Aa Aa Aa fun a F => ?_
 refine KV ?_
 iterate 4 refine hs F Aa Aa Aa (Ai F Aa).q fun a F => ?_
 obtain ⟨x1, h1, H⟩ := Ac H
 refine hs F Aa Aa Aa (Al (r := AY) Eu F Aa Aa (Af 0 Aa) h1).q fun a F => ?_
 refine hs F Aa Aa Aa (Ag (y := Value.agg #[Jint x1.1, Jint x1.2.1, Jint x1.2.2.1, Jint x1.2.2.2]) (j := 0) (i := p3) F Aa Aa (Af 0 Aa) h1 EK.to Ey Aa).q fun a F => ?_
 iterate 2 refine hs F Aa Aa Aa (Ai F Aa).q fun a F => ?_
 obtain ⟨x2, h2, H⟩ := Ac H
 refine hs F Aa Aa Aa (Al (r := AY) Eu F Aa Aa (Af 0 Aa) h2).q fun a F => ?_
 refine hs F Aa Aa Aa (Ag (y := Value.agg #[Jint x2.1, Jint x2.2.1, Jint x2.2.2.1, Jint x2.2.2.2]) (j := 0) (i := p1) F Aa Aa (Af 0 Aa) h2 EK.to Ey Aa).q fun a F => ?_
 obtain ⟨x3, h3, H⟩ := Ac H
 refine hs F Aa Aa Aa (Al (r := AY) Eu F Aa Aa (Af 0 Aa) h3).q fun a F => ?_
 refine M7 fun w W => ?_
 have W : Stw ⟨Y, X, w0⟩ [] [row v1 43 AY p0] w := W
 refine A0 (i := p1) (j := 0) (vs := (Cj x1)) (x' := x1) F W Aa Aa Aa (k := 0) Aa Aa h3 Ey Aa Aa Aa Aa (fun A cs _ => EK.sto (by rfl) _ _ _) fun w W => ?_
 obtain ⟨x4, h4, H⟩ := Ac H
 refine ls F W Aa (Al (r := AY) Eu F Aa Aa (Af 0 Aa) h4).q fun a w F W => ?_
 refine A0 (i := p3) (j := 0) (vs := (Cj x2)) (x' := x2) F W Aa Aa Aa (k := 0) Aa Aa h4 Ey Aa Aa Aa Aa (fun A cs _ => EK.sto (by rfl) _ _ _) fun w W => ?_
 refine BQ tk 12 F W fun a w F W => ?_
 obtain ⟨o1, G1, K1⟩ := Ac H
 refine As (fun a w => ∃ x5 : Int, ∃ x6 : List (Int × Int × Int × Int), some ((x5, x6)) = some o1 ∧ Fr 90 [] [(10, Jint 0), (11, Jint x5)] a ∧ Stw ⟨Y, X, w0⟩ [] [row v1 43 AY x6] w) ?_ ?_
 ·
  have H := G1
  refine Ew ?_
  refine AN H (fun s a w => Fr 90 [] [(0, v1), (1, Jint p1), (4, .func (.func 22) #[] #[]), (10, Jint 0), (11, Jint s.2.1), (12, Jint s.2.2)] a ∧ Stw ⟨Y, X, w0⟩ [] [row v1 43 AY s.1] w) ⟨F.ra Aa, W⟩ fun s o a w H L2 hR => ?_
  obtain ⟨x7, x8, x9⟩ := s
  obtain ⟨F, W⟩ := hR
  have F : Fr 90 [] [(0, v1), (1, Jint p1), (4, .func (.func 22) #[] #[]), (10, Jint 0), (11, Jint x8), (12, Jint x9)] a := F
  have W : Stw ⟨Y, X, w0⟩ [] [row v1 43 AY x7] w := W
  rw [Bm] at H
  refine Ew ?_
  obtain ⟨o3, G3, K3⟩ := Ac H
  refine As (fun a w => ∃ x10 : Int, some (x10) = some o3 ∧ Fr 90 [] [(0, v1), (1, Jint p1), (4, .func (.func 22) #[] #[]), (10, Jint 0), (11, Jint x10), (12, Jint x9)] a ∧ Stw ⟨Y, X, w0⟩ [] [row v1 43 AY x7] w) ?_ ?_
  ·
   have H := G3
   refine Ew ?_
   refine AN H (fun s a w => Fr 90 [] [(0, v1), (1, Jint p1), (4, .func (.func 22) #[] #[]), (10, Jint 0), (11, Jint s), (12, Jint x9)] a ∧ Stw ⟨Y, X, w0⟩ [] [row v1 43 AY x7] w) ⟨F.ra Aa, W⟩ fun s o a w H L4 hR => ?_
   obtain ⟨x11, rfl⟩ : ∃ x, x = s := ⟨s, rfl⟩
   obtain ⟨F, W⟩ := hR
   have F : Fr 90 [] [(0, v1), (1, Jint p1), (4, .func (.func 22) #[] #[]), (10, Jint 0), (11, Jint x11), (12, Jint x9)] a := F
   have W : Stw ⟨Y, X, w0⟩ [] [row v1 43 AY x7] w := W
   rw [BH] at H
   refine HH ?_
   obtain ⟨o5, G5, K5⟩ := Ac H
   refine As (fun a w => ∃ x12 : Bool, some (x12) = some o5 ∧ Fr 90 [] [(0, v1), (1, Jint p1), (4, .func (.func 22) #[] #[]), (10, Jint 0), (11, Jint x11), (12, Jint x9), (47, .bool x12)] a ∧ Stw ⟨Y, X, w0⟩ [] [row v1 43 AY x7] w) ?_ ?_
   ·
    have H := G5
    refine Bz W MO (by kernel_rfl) ?_
    iterate 2 refine qs F Aa (Ai F Aa).q fun a F => ?_
    refine qs F Aa (NW F Aa Aa).q fun a F => ?_
    refine qs F Aa (Ai F Aa).q fun a F => ?_
    rcases bxq (decide (x11 ≤ x9)) with hb | hb
    ·
     have H := DU (Fa hb) H
     rw [hb] at F
     iterate 3 refine AZ F (Ad F Aa Aa Aa Aa) Aa (Ao Aa) (Ai F Aa).q fun a F => ?_
     obtain ⟨x13, h5, H⟩ := Ac H
     refine AZ F (Ad F Aa Aa Aa Aa) Aa (Ao Aa) (Al (r := AY) Eu F Aa Aa (Af 0 Aa) h5).q fun a F => ?_
     refine AZ F (Ad F Aa Aa Aa Aa) Aa (Ao Aa) (Ag (y := Value.agg #[Jint x13.1, Jint x13.2.1, Jint x13.2.2.1, Jint x13.2.2.2]) (j := 0) (i := p1) F Aa Aa (Af 0 Aa) h5 EK.to Ey Aa).q fun a F => ?_
     iterate 2 refine AZ F (Ad F Aa Aa Aa Aa) Aa (Ao Aa) (Ai F Aa).q fun a F => ?_
     obtain ⟨x14, h6, H⟩ := Ac H
     refine AZ F (Ad F Aa Aa Aa Aa) Aa (Ao Aa) (Al (r := AY) Eu F Aa Aa (Af 0 Aa) h6).q fun a F => ?_
     refine AZ F (Ad F Aa Aa Aa Aa) Aa (Ao Aa) (Ag (y := Value.agg #[Jint x14.1, Jint x14.2.1, Jint x14.2.2.1, Jint x14.2.2.2]) (j := 0) (i := x11) F Aa Aa (Af 0 Aa) h6 EK.to Ey Aa).q fun a F => ?_
     obtain ⟨x15, h7, H⟩ := Ac H
     refine AZ F (Ad F Aa Aa Aa Aa) Aa (Ao Aa) (E5 (ws := (Jv x13 x14)) (v := Jint x15) F RZ Aa (fun w W => Cm any w x13 x14 _ h7)) fun a F => ?_
     refine AZ F (Ad F Aa Aa Aa Aa) Aa (Ao Aa) (GV F Aa Aa).q fun a F => ?_
     refine AZ F (Ad F Aa Aa Aa Aa) Aa (Ao Aa) (I5 F Aa).q fun a F => ?_
     refine qs F Aa (C4 F Aa Aa Aa).q fun a F => ?_
     refine AA fun w W => ?_
     refine Ab ?_
     exact ⟨_, H, F.ra Aa, W⟩
    have H := DS (E4 hb) H
    rw [hb] at F
    iterate 12 refine Dn F (CX F Aa Aa Aa Aa Aa) Aa Aa fun a F => ?_
    refine qs F Aa (Dw F Aa Aa Aa).q fun a F => ?_
    refine AA fun w W => ?_
    refine Ab ?_
    exact ⟨_, H, F.ra Aa, W⟩
   rintro a w ⟨x12, hj, F, W⟩
   have hj := Ay hj
   subst hj
   have H := K5
   refine CS F Aa H (fun F H => ?_) fun F H => ?_
   ·
    refine FL tk 8 F W fun a w F W => ?_
    refine Ab ?_
    exact ⟨_, H, F.ra Aa, W⟩
   refine AC ?_
   iterate 2 refine AR ?_
   refine AD (Ab ?_)
   have H := L4 _ H
   exact ⟨_, H, F.ra Aa, W⟩
  rintro a w ⟨x10, hj, F, W⟩
  have hj := Ay hj
  subst hj
  have H := K3
  obtain ⟨o6, G6, K6⟩ := Ac H
  refine As (fun a w => ∃ x16 : Int, some (x16) = some o6 ∧ Fr 90 [] [(0, v1), (1, Jint p1), (4, .func (.func 22) #[] #[]), (10, Jint 0), (11, Jint x10), (12, Jint x16)] a ∧ Stw ⟨Y, X, w0⟩ [] [row v1 43 AY x7] w) ?_ ?_
  ·
   have H := G6
   refine Ew ?_
   refine AN H (fun s a w => Fr 90 [] [(0, v1), (1, Jint p1), (4, .func (.func 22) #[] #[]), (10, Jint 0), (11, Jint x10), (12, Jint s)] a ∧ Stw ⟨Y, X, w0⟩ [] [row v1 43 AY x7] w) ⟨F.ra Aa, W⟩ fun s o a w H L7 hR => ?_
   obtain ⟨x17, rfl⟩ : ∃ x, x = s := ⟨s, rfl⟩
   obtain ⟨F, W⟩ := hR
   have F : Fr 90 [] [(0, v1), (1, Jint p1), (4, .func (.func 22) #[] #[]), (10, Jint 0), (11, Jint x10), (12, Jint x17)] a := F
   have W : Stw ⟨Y, X, w0⟩ [] [row v1 43 AY x7] w := W
   rw [BI] at H
   refine HH ?_
   obtain ⟨o8, G8, K8⟩ := Ac H
   refine As (fun a w => ∃ x18 : Bool, some (x18) = some o8 ∧ Fr 90 [] [(0, v1), (1, Jint p1), (4, .func (.func 22) #[] #[]), (10, Jint 0), (11, Jint x10), (12, Jint x17), (65, .bool x18)] a ∧ Stw ⟨Y, X, w0⟩ [] [row v1 43 AY x7] w) ?_ ?_
   ·
    have H := G8
    refine Bz W MO (by kernel_rfl) ?_
    iterate 2 refine qs F Aa (Ai F Aa).q fun a F => ?_
    refine qs F Aa (NW F Aa Aa).q fun a F => ?_
    refine qs F Aa (Ai F Aa).q fun a F => ?_
    rcases bxq (decide (x10 ≤ x17)) with hb | hb
    ·
     have H := DU (Fa hb) H
     rw [hb] at F
     iterate 3 refine AZ F (Ad F Aa Aa Aa Aa) Aa (Ao Aa) (Ai F Aa).q fun a F => ?_
     obtain ⟨x19, h8, H⟩ := Ac H
     refine AZ F (Ad F Aa Aa Aa Aa) Aa (Ao Aa) (Al (r := AY) Eu F Aa Aa (Af 0 Aa) h8).q fun a F => ?_
     refine AZ F (Ad F Aa Aa Aa Aa) Aa (Ao Aa) (Ag (y := Value.agg #[Jint x19.1, Jint x19.2.1, Jint x19.2.2.1, Jint x19.2.2.2]) (j := 0) (i := p1) F Aa Aa (Af 0 Aa) h8 EK.to Ey Aa).q fun a F => ?_
     iterate 2 refine AZ F (Ad F Aa Aa Aa Aa) Aa (Ao Aa) (Ai F Aa).q fun a F => ?_
     obtain ⟨x20, h9, H⟩ := Ac H
     refine AZ F (Ad F Aa Aa Aa Aa) Aa (Ao Aa) (Al (r := AY) Eu F Aa Aa (Af 0 Aa) h9).q fun a F => ?_
     refine AZ F (Ad F Aa Aa Aa Aa) Aa (Ao Aa) (Ag (y := Value.agg #[Jint x20.1, Jint x20.2.1, Jint x20.2.2.1, Jint x20.2.2.2]) (j := 0) (i := x17) F Aa Aa (Af 0 Aa) h9 EK.to Ey Aa).q fun a F => ?_
     obtain ⟨x21, h10, H⟩ := Ac H
     refine AZ F (Ad F Aa Aa Aa Aa) Aa (Ao Aa) (E5 (ws := (Jv x19 x20)) (v := Jint x21) F RZ Aa (fun w W => Cm any w x19 x20 _ h10)) fun a F => ?_
     refine AZ F (Ad F Aa Aa Aa Aa) Aa (Ao Aa) (GV F Aa Aa).q fun a F => ?_
     refine qs F Aa (C4 F Aa Aa Aa).q fun a F => ?_
     refine AA fun w W => ?_
     refine Ab ?_
     exact ⟨_, H, F.ra Aa, W⟩
    have H := DS (E4 hb) H
    rw [hb] at F
    iterate 11 refine Dn F (CX F Aa Aa Aa Aa Aa) Aa Aa fun a F => ?_
    refine qs F Aa (Dw F Aa Aa Aa).q fun a F => ?_
    refine AA fun w W => ?_
    refine Ab ?_
    exact ⟨_, H, F.ra Aa, W⟩
   rintro a w ⟨x18, hj, F, W⟩
   have hj := Ay hj
   subst hj
   have H := K8
   refine CS F Aa H (fun F H => ?_) fun F H => ?_
   ·
    refine FL tk 8 F W fun a w F W => ?_
    refine Ab ?_
    exact ⟨_, H, F.ra Aa, W⟩
   refine AC ?_
   iterate 2 refine AR ?_
   refine AD (Ab ?_)
   have H := L7 _ H
   exact ⟨_, H, F.ra Aa, W⟩
  rintro a w ⟨x16, hj, F, W⟩
  have hj := Ay hj
  subst hj
  have H := K6
  refine vc tk 8 F W fun a w F W => ?_
  refine AW F Aa H (fun F H => ?_) fun F H => ?_
  ·
   refine AC (AR ?_)
   refine Im Aa ?_
   refine AR (AD (Ab ?_))
   have H := L2 _ H
   exact ⟨_, _, H, F.ra Aa, W⟩
  refine FL tk 3 F W fun a w F W => ?_
  refine Ju 13 [2, 3] [0, 1, 4, 5, 6, 7, 8, 9, 10, 11, 12] (fun ch a d v w h => by cases d <;> exact h) W MO (by kernel_rfl) ?_
  iterate 2 refine hm F Aa Aa Aa fun a F => ?_
  refine KV ?_
  iterate 4 refine hs F Aa Aa Aa (Ai F Aa).q fun a F => ?_
  obtain ⟨x22, h11, H⟩ := Ac H
  refine hs F Aa Aa Aa (Al (r := AY) Eu F Aa Aa (Af 0 Aa) h11).q fun a F => ?_
  refine hs F Aa Aa Aa (Ag (y := Value.agg #[Jint x22.1, Jint x22.2.1, Jint x22.2.2.1, Jint x22.2.2.2]) (j := 0) (i := x16) F Aa Aa (Af 0 Aa) h11 EK.to Ey Aa).q fun a F => ?_
  iterate 2 refine hs F Aa Aa Aa (Ai F Aa).q fun a F => ?_
  obtain ⟨x23, h12, H⟩ := Ac H
  refine hs F Aa Aa Aa (Al (r := AY) Eu F Aa Aa (Af 0 Aa) h12).q fun a F => ?_
  refine hs F Aa Aa Aa (Ag (y := Value.agg #[Jint x23.1, Jint x23.2.1, Jint x23.2.2.1, Jint x23.2.2.2]) (j := 0) (i := x10) F Aa Aa (Af 0 Aa) h12 EK.to Ey Aa).q fun a F => ?_
  obtain ⟨x24, h13, H⟩ := Ac H
  refine hs F Aa Aa Aa (Al (r := AY) Eu F Aa Aa (Af 0 Aa) h13).q fun a F => ?_
  refine M7 fun w W => ?_
  have W : Stw ⟨Y, X, w0⟩ [] [row v1 43 AY x7] w := W
  refine A0 (i := x10) (j := 0) (vs := (Cj x22)) (x' := x22) F W Aa Aa Aa (k := 0) Aa Aa h13 Ey Aa Aa Aa Aa (fun A cs _ => EK.sto (by rfl) _ _ _) fun w W => ?_
  obtain ⟨x25, h14, H⟩ := Ac H
  refine ls F W Aa (Al (r := AY) Eu F Aa Aa (Af 0 Aa) h14).q fun a w F W => ?_
  refine A0 (i := x16) (j := 0) (vs := (Cj x23)) (x' := x23) F W Aa Aa Aa (k := 0) Aa Aa h14 Ey Aa Aa Aa Aa (fun A cs _ => EK.sto (by rfl) _ _ _) fun w W => ?_
  refine BQ tk 14 F W fun a w F W => ?_
  refine Aw (Ab ?_)
  exact ⟨_, H, F.ra Aa, W⟩
 rintro a w ⟨x5, x6, hj, F, W⟩
 have hj := Ay hj
 subst hj
 have H := K1
 refine vc tk 6 F W fun a w F W => ?_
 refine Ap ?_
 have H := Ay H
 subst H
 refine A1 (.inl Aa) F W Aa (Am F Aa) ?_
 exact ⟨(), Aa, W⟩
end
end Go.Proofs.YthhoflfhegfmcaaGreat
