/- The functions of layer 30, HQ. Conditions: none. -/
import Derived.Test.YtgoifghhcekahaaGreatDoordB3
namespace Go.Proofs.YtgoifghhcekahaaGreatDoor
noncomputable section
open Go Go.RowKit
set_option linter.unusedVariables false
set_option linter.unusedSimpArgs false
set_option maxRecDepth 20000
theorem cM : Has Tryz.prog 88 := BM Tryz.func88
def IM (p0 : Tr36) : Option Bool := (if p0.un.1 = 3 then (if (Hd p0.un.2.1) = true then (if 0 ≤ p0.un.2.2.1 then (IJ p0.un.2.1).bind fun x2 => (if p0.un.2.2.1 ≤ x2 then some (decide ((p0.un.2.2.2.length : Int) = 0)) else some false) else some false) else some false).bind fun x1 => some x1 else (if (decide (p0.un.2.1 ≠ 0) || decide (p0.un.2.2.1 ≠ 0)) = true then some false else (if p0.un.1 = 1 then some true else some (decide (p0.un.1 = 2))).bind fun x3 => (if x3 = true then some (decide ((p0.un.2.2.2.length : Int) = 0)) else (if p0.un.1 = 4 then some (decide ((p0.un.2.2.2.length : Int) = 1)) else (if p0.un.1 = 5 then some true else some (decide (p0.un.1 = 6))).bind fun x4 => (if x4 = true then some (decide (2 ≤ (p0.un.2.2.2.length : Int)) && decide ((p0.un.2.2.2.length : Int) ≤ 8)) else some false)))))
theorem Q5 (Y : Nat → Prop) (w0 : World) (v1 : Value) (p0 : Tr36) (r : Bool) (H : IM p0 = some r) (h_v1 : Sl w0 (NX []) Bm v1 p0.un.2.2.2) :
    ca_ 91 #[.agg #[Jint p0.un.1, Jint p0.un.2.1, Jint p0.un.2.2.1, v1]] w0 fun e w' => e = .returned (.bool r) ∧ Below w0.heap.size w0 w' := by
 refine enter Tryz.func91 Aa Tryz.ntmps91 Aa fun a F => ?_
 have W := Stw.start Y w0
 obtain ⟨v2, h1, h_v1⟩ := h_v1.ex BK
 unfold IM at H
 refine vc tk 2 F W fun a w F W => ?_
 refine BQ (cs := (Hl p0 v1)) F W Aa Aa Aa fun b1 a w F W => ?_
 refine Es tk 11 [0] F W (ai fun a w F W => ?_)
 refine A1 F Aa H (fun F H => ?_) fun F H => ?_
 ·
  obtain ⟨o1, G1, K1⟩ := Af H
  refine Ap (fun a w => ∃ x1 : Bool, some (x1) = some o1 ∧ Fr 64 [] [(1, pp b1), (2, .bool x1)] a ∧ sy Y w0 (Gv b1 p0 v1) [] w) ?_ ?_
  ·
   have H := G1
   refine B5 W MO (by kernel_rfl) ?_
   refine qs F Aa (Aq Mi Aa Aa Aa T3 F Aa 1 Aa).q fun a F => ?_
   refine qs F Aa (Bk (v := Jint p0.un.2.1) 0 F Aa Aa T3 Aa).q fun a F => ?_
   refine qs F Aa (AA (v := Value.bool (Hd p0.un.2.1)) F cM Aa (fun w W => Qa any w p0.un.2.1 _ Aa)) fun a F => ?_
   refine qs F Aa (Ao F Aa).q fun a F => ?_
   rcases bxq (Hd p0.un.2.1) with hb | hb
   ·
    have H := BB hb H
    rw [hb] at F
    refine AR F (Ad F Aa Aa Aa Aa) Aa (As Aa) (Aq Mi Aa Aa Aa T3 F Aa 2 Aa).q fun a F => ?_
    refine AR F (Ad F Aa Aa Aa Aa) Aa (As Aa) (Bk (v := Jint p0.un.2.2.1) 0 F Aa Aa T3 Aa).q fun a F => ?_
    refine AR F (Ad F Aa Aa Aa Aa) Aa (As Aa) (Tw F Aa Aa).q fun a F => ?_
    refine qs F Aa (Bq F Aa Aa Aa).q fun a F => ?_
    refine qs F Aa (Ao F Aa).q fun a F => ?_
    rcases bxq (decide (0 ≤ p0.un.2.2.1)) with hb | hb
    ·
     have H := BB (B4 hb) H
     rw [hb] at F
     refine AR F (Ad F Aa Aa Aa Aa) Aa (As Aa) (Aq Mi Aa Aa Aa T3 F Aa 2 Aa).q fun a F => ?_
     refine AR F (Ad F Aa Aa Aa Aa) Aa (As Aa) (Bk (v := Jint p0.un.2.2.1) 0 F Aa Aa T3 Aa).q fun a F => ?_
     refine AR F (Ad F Aa Aa Aa Aa) Aa (As Aa) (Aq Mi Aa Aa Aa T3 F Aa 1 Aa).q fun a F => ?_
     refine AR F (Ad F Aa Aa Aa Aa) Aa (As Aa) (Bk (v := Jint p0.un.2.1) 0 F Aa Aa T3 Aa).q fun a F => ?_
     obtain ⟨x2, h2, H⟩ := Af H
     refine AR F (Ad F Aa Aa Aa Aa) Aa (As Aa) (AA (v := Jint x2) F YC Aa (fun w W => Oa any w p0.un.2.1 _ h2)) fun a F => ?_
     refine AR F (Ad F Aa Aa Aa Aa) Aa (As Aa) (KE F Aa Aa).q fun a F => ?_
     refine qs F Aa (Bq F Aa Aa Aa).q fun a F => ?_
     refine qs F Aa (Ao F Aa).q fun a F => ?_
     rcases bxq (decide (p0.un.2.2.1 ≤ x2)) with hb | hb
     ·
      have H := BB (B4 hb) H
      rw [hb] at F
      refine AR F (Ad F Aa Aa Aa Aa) Aa (As Aa) (Aq Mi Aa Aa Aa WH F Aa 3 Aa).q fun a F => ?_
      refine AR F (Ad F Aa Aa Aa Aa) Aa (As Aa) (Bk (v := v1) 0 F Aa Aa WH Aa).q fun a F => ?_
      refine AR F (Ad F Aa Aa Aa Aa) Aa (As Aa) (Bz (r := Bm) (l := p0.un.2.2.2) IU Aa F Aa (Al BK h1 (Ae h_v1))).q fun a F => ?_
      refine AR F (Ad F Aa Aa Aa Aa) Aa (As Aa) (NK F Aa Aa).q fun a F => ?_
      refine qs F Aa (Bq F Aa Aa Aa).q fun a F => ?_
      refine qs F Aa (Bj F Aa).q fun a F => ?_
      refine AK fun w W => ?_
      refine Ab ?_
      exact ⟨_, H, F.ra Aa, W⟩
     have H := BC (B1 hb) H
     rw [hb] at F
     iterate 4 refine Bb F (A3 F Aa Aa Aa Aa Aa) Aa Aa fun a F => ?_
     refine qs F Aa (Bh F Aa Aa Aa).q fun a F => ?_
     refine qs F Aa (Bj F Aa).q fun a F => ?_
     refine AK fun w W => ?_
     refine Ab ?_
     exact ⟨_, H, F.ra Aa, W⟩
    have H := BC (B1 hb) H
    rw [hb] at F
    iterate 6 refine Bb F (A3 F Aa Aa Aa Aa Aa) Aa Aa fun a F => ?_
    refine qs F Aa (Bh F Aa Aa Aa).q fun a F => ?_
    refine qs F Aa (Ao F Aa).q fun a F => ?_
    iterate 4 refine Bb F (A3 F Aa Aa Aa Aa Aa) Aa Aa fun a F => ?_
    refine qs F Aa (Bh F Aa Aa Aa).q fun a F => ?_
    refine qs F Aa (Bj F Aa).q fun a F => ?_
    refine AK fun w W => ?_
    refine Ab ?_
    exact ⟨_, H, F.ra Aa, W⟩
   have H := BC (by rw [hb]; decide) H
   rw [hb] at F
   iterate 3 refine Bb F (A3 F Aa Aa Aa Aa Aa) Aa Aa fun a F => ?_
   refine qs F Aa (Bh F Aa Aa Aa).q fun a F => ?_
   refine qs F Aa (Ao F Aa).q fun a F => ?_
   iterate 6 refine Bb F (A3 F Aa Aa Aa Aa Aa) Aa Aa fun a F => ?_
   refine qs F Aa (Bh F Aa Aa Aa).q fun a F => ?_
   refine qs F Aa (Ao F Aa).q fun a F => ?_
   iterate 4 refine Bb F (A3 F Aa Aa Aa Aa Aa) Aa Aa fun a F => ?_
   refine qs F Aa (Bh F Aa Aa Aa).q fun a F => ?_
   refine qs F Aa (Bj F Aa).q fun a F => ?_
   refine AK fun w W => ?_
   refine Ab ?_
   exact ⟨_, H, F.ra Aa, W⟩
  rintro a w ⟨x1, hj, F, W⟩
  have hj := Ay hj
  subst hj
  have H := K1
  refine Ah (Aw ?_)
  have H := Ay H
  subst H
  refine Av (.inl Aa) F W Aa (Am F Aa) ?_
  exact ⟨rfl, W.done⟩
 refine EX tk 3 F W fun a w F W => ?_
 refine Ap (fun a w => Fr 64 [] [(1, pp b1), (2, .bool false), (35, .bool (decide (p0.un.2.1 ≠ 0) || decide (p0.un.2.2.1 ≠ 0)))] a ∧ sy Y w0 (Gv b1 p0 v1) [] w) ?_ ?_
 ·
  refine CT tk 5 [0] F W (ai fun a w F W => ?_)
  rcases bxq (decide (p0.un.2.1 ≠ 0)) with hb0 | hb0
  ·
   rw [hb0] at F
   refine vl tk 5 F W fun a w F W => ?_
   refine Ab ?_
   exact ⟨F.re ⟨rfl, Aa, (CL (by try rw [hb0]; all_goals simp only [CM])), trivial⟩, W⟩
  rw [hb0] at F
  refine DU tk 5 [0] F W (ai fun a w F W => ?_)
  refine Ab ?_
  exact ⟨F.re ⟨rfl, Aa, (CL (by try rw [hb0]; all_goals simp only [CM])), trivial⟩, W⟩
 rintro a w ⟨F, W⟩
 refine Bi F Aa H (fun F H => ?_) fun F H => ?_
 ·
  refine vc tk 5 F W fun a w F W => ?_
  refine Ah (Aw ?_)
  have H := Ay H
  subst H
  refine Av (.inl Aa) F W Aa (Am F Aa) ?_
  exact ⟨rfl, W.done⟩
 refine Hr tk 10 [0] F W (ai fun a w F W => ?_)
 obtain ⟨o2, G2, K2⟩ := Af H
 refine Ap (fun a w => ∃ x3 : Bool, some (x3) = some o2 ∧ Fr 64 [] [(1, pp b1), (2, .bool false), (37, Jint p0.un.1), (38, .bool x3)] a ∧ sy Y w0 (Gv b1 p0 v1) [] w) ?_ ?_
 ·
  have H := G2
  refine vc tk 6 F W fun a w F W => ?_
  refine BS F Aa (fun hb => ?_) fun hb => ?_
  ·
   have H := BB (B4 hb) H
   rw [hb] at F
   refine AD (Ab ?_)
   exact ⟨_, H, F.ra Aa, W⟩
  have H := BC (B1 hb) H
  rw [hb] at F
  refine vc tk 4 F W fun a w F W => ?_
  refine Ab ?_
  exact ⟨_, H, F.ra Aa, W⟩
 rintro a w ⟨x3, hj, F, W⟩
 have hj := Ay hj
 subst hj
 have H := K2
 refine Bi F Aa H (fun F H => ?_) fun F H => ?_
 ·
  refine CT tk 4 [0] F W (ai fun a w F W => ?_)
  refine ls F W Aa (Bz (r := Bm) (l := p0.un.2.2.2) IU Aa F Aa (Al BK h1 (Ae h_v1))).q fun a w F W => ?_
  refine Bo tk 4 F W fun a w F W => ?_
  refine Ah (AC (Aw ?_))
  have H := Ay H
  subst H
  refine Av (.inl Aa) F W Aa (Am F Aa) ?_
  exact ⟨rfl, W.done⟩
 refine vc tk 6 F W fun a w F W => ?_
 refine BS F Aa (fun hb => ?_) fun hb => ?_
 ·
  have H := BB (B4 hb) H
  rw [hb] at F
  refine CT tk 4 [0] F W (ai fun a w F W => ?_)
  refine ls F W Aa (Bz (r := Bm) (l := p0.un.2.2.2) IU Aa F Aa (Al BK h1 (Ae h_v1))).q fun a w F W => ?_
  refine Bo tk 4 F W fun a w F W => ?_
  refine Ah (AC (Aw ?_))
  have H := Ay H
  subst H
  refine Av (.inl Aa) F W Aa (Am F Aa) ?_
  exact ⟨rfl, W.done⟩
 have H := BC (B1 hb) H
 rw [hb] at F
 obtain ⟨o3, G3, K3⟩ := Af H
 refine Ap (fun a w => ∃ x4 : Bool, some (x4) = some o3 ∧ Fr 64 [] [(1, pp b1), (2, .bool false), (51, .bool x4)] a ∧ sy Y w0 (Gv b1 p0 v1) [] w) ?_ ?_
 ·
  have H := G3
  refine vc tk 6 F W fun a w F W => ?_
  refine BS F Aa (fun hb => ?_) fun hb => ?_
  ·
   have H := BB (B4 hb) H
   rw [hb] at F
   refine AD (Ab ?_)
   exact ⟨_, H, F.ra Aa, W⟩
  have H := BC (B1 hb) H
  rw [hb] at F
  refine vc tk 4 F W fun a w F W => ?_
  refine Ab ?_
  exact ⟨_, H, F.ra Aa, W⟩
 rintro a w ⟨x4, hj, F, W⟩
 have hj := Ay hj
 subst hj
 have H := K3
 refine Bi F Aa H (fun F H => ?_) fun F H => ?_
 ·
  refine Ap (fun a w => Fr 64 [] [(2, .bool (decide (2 ≤ (p0.un.2.2.2.length : Int)) && decide ((p0.un.2.2.2.length : Int) ≤ 8)))] a ∧ sy Y w0 (Gv b1 p0 v1) [] w) ?_ ?_
  ·
   refine CT tk 3 [0] F W (ai fun a w F W => ?_)
   refine ls F W Aa (Bz (r := Bm) (l := p0.un.2.2.2) IU Aa F Aa (Al BK h1 (Ae h_v1))).q fun a w F W => ?_
   refine vl tk 2 F W fun a w F W => ?_
   rcases bxq (decide (2 ≤ (p0.un.2.2.2.length : Int))) with hb0 | hb0
   ·
    rw [hb0] at F
    refine DU tk 2 [0] F W (ai fun a w F W => ?_)
    refine Dy F W (Ad F Aa Aa Aa Aa) Aa (As Aa) (Bz (r := Bm) (l := p0.un.2.2.2) IU Aa F Aa (Al BK h1 (Ae h_v1))).q fun a w F W => ?_
    refine vl tk 4 F W fun a w F W => ?_
    refine Ab ?_
    exact ⟨F.re ⟨(CL (by try rw [hb0]; all_goals simp only [CM])), trivial⟩, W⟩
   rw [hb0] at F
   refine vl tk 7 F W fun a w F W => ?_
   refine Ab ?_
   exact ⟨F.re ⟨(CL (by try rw [hb0]; all_goals simp only [CM])), trivial⟩, W⟩
  rintro a w ⟨F, W⟩
  refine Ah (AC (Aw ?_))
  have H := Ay H
  subst H
  refine Av (.inl Aa) F W Aa (Am F Aa) ?_
  exact ⟨rfl, W.done⟩
 refine AD (Az ?_)
 refine vn tk 5 F W fun a w F W => ?_
 refine Ah ?_
 have H := Ay H
 subst H
 refine Av (.inl Aa) F W Aa (Am F Aa) ?_
 exact ⟨rfl, W.done⟩
theorem bA : Has Tryz.prog 91 := BM Tryz.func91
theorem aQ : Has Tryz.prog 54 := BM Tryz.func54
def Be (fRec : Int → Tr36 → Int → Option (Bool × Int)) (p1 : Tr36) (p2 : Int) : (Int × Int) → Option ((Int × Int) ⊕ (Int ⊕ (Bool × Int)))
  | (x4, x5) => (if x4 < (p1.un.2.2.2.length : Int) then (ix p1.un.2.2.2 x4).bind fun x6 => (fRec x5 x6 (AJ (p2 - 1))).bind fun x7 => (if (!x7.1) = true then some (.inr (.inr (false, x7.2))) else some (.inl (AJ (x4 + 1), x7.2))) else some (.inr (.inl x5)))
def Cq (fRec : Int → Tr36 → Int → Option (Bool × Int)) (p0 : Int) (p1 : Tr36) (p2 : Int) : Option (Bool × Int) := (if (AJ (p0 - 1)) < 0 then some true else (if p2 < 1 then some true else (IM p1).bind fun x2 => some (!x2))).bind fun x1 => (if x1 = true then some (false, AJ (p0 - 1)) else HA (AB (Be fRec p1 p2) (0, AJ (p0 - 1))) fun x3 => some (true, x3))
def A8 : Nat → Int → Tr36 → Int → Option (Bool × Int)
  | 0 => fun _ _ _ => none
  | n + 1 => Cq (A8 n)
def Fm (p0 : Int) (p1 : Tr36) (p2 : Int) : Option (Bool × Int) := FT fun n => A8 n p0 p1 p2
theorem Ja (fRec : Int → Tr36 → Int → Option (Bool × Int)) (ih : ∀ (Y : Nat → Prop) (X : List Nat) (w0 : World) (q_p0 : Nat) (v1 : Value) (p0 : Int) (p1 : Tr36) (p2 : Int) (r : Bool × Int) (H : fRec p0 p1 p2 = some r) (h_v1 : Sl w0 (NX X) Bm v1 p1.un.2.2.2) (hL : Stw ⟨Y, X, w0⟩ [(q_p0, [Jint p0])] [] w0), ca_ 54 #[pp q_p0, .agg #[Jint p1.un.1, Jint p1.un.2.1, Jint p1.un.2.2.1, v1], Jint p2] w0 fun e w' => ∃ x : Unit, e = .returned (.bool r.1) ∧ Stw ⟨Y, X, w0⟩ [(q_p0, [Jint r.2])] [] w') (Y : Nat → Prop) (X : List Nat) (w0 : World) (q_p0 : Nat) (v1 : Value) (p0 : Int) (p1 : Tr36) (p2 : Int) (r : Bool × Int) (H : Cq fRec p0 p1 p2 = some r) (h_v1 : Sl w0 (NX X) Bm v1 p1.un.2.2.2) (hL : Stw ⟨Y, X, w0⟩ [(q_p0, [Jint p0])] [] w0) :
    ca_ 54 #[pp q_p0, .agg #[Jint p1.un.1, Jint p1.un.2.1, Jint p1.un.2.2.1, v1], Jint p2] w0 fun e w' => ∃ x : Unit, e = .returned (.bool r.1) ∧ Stw ⟨Y, X, w0⟩ [(q_p0, [Jint r.2])] [] w' := by
 refine enter Tryz.func54 Aa Tryz.ntmps54 Aa fun a F => ?_
 have W := hL
 obtain ⟨v2, h1, h_v1⟩ := h_v1.ex BK
 unfold Cq at H
 refine vc tk 2 F W fun a w F W => ?_
 refine BQ (cs := (Hl p1 v1)) F W Aa Aa Aa fun b1 a w F W => ?_
 refine Bo tk 6 F W fun a w F W => ?_
 refine ls F W Aa (Cj F Aa).q fun a w F W => ?_
 refine DU tk 3 [1] F W (ai fun a w F W => ?_)
 refine ls F W Aa (Cj F Aa).q fun a w F W => ?_
 refine ls F W Aa (Aq XV Aa Aa Aa T3 F Aa 0 Aa).q fun a w F W => ?_
 refine CE 1 F W Aa Aa Aa T3 Aa Aa Aa fun w W => ?_
 refine Bo tk 3 F W fun a w F W => ?_
 obtain ⟨o1, G1, K1⟩ := Af H
 refine Ap (fun a w => ∃ x1 : Bool, some (x1) = some o1 ∧ Fr 44 [] [(0, pp q_p0), (2, Jint p2), (4, pp b1), (6, .bool false), (29, .bool x1)] a ∧ Stw ⟨Y, X, w0⟩ [(b1, (Hl p1 v1)), (q_p0, [Jint (AJ (p0 - 1))])] [] w) ?_ ?_
 ·
  have H := G1
  refine vc tk 2 F W fun a w F W => ?_
  refine ls F W Aa (Cj F Aa).q fun a w F W => ?_
  refine DU tk 4 [1] F W (ai fun a w F W => ?_)
  rcases bxq (decide ((AJ (p0 - 1)) < 0)) with hb | hb
  ·
   have H := BB (B4 hb) H
   rw [hb] at F
   refine vl tk 9 F W fun a w F W => ?_
   refine Ab ?_
   have W := W.frontM (i := 1) Aa Aa
   have W := W.frontM (i := 1) Aa Aa
   exact ⟨_, H, F.ra Aa, W⟩
  have H := BC (B1 hb) H
  rw [hb] at F
  refine vl tk 4 F W fun a w F W => ?_
  rcases bxq (decide (p2 < 1)) with hb | hb
  ·
   have H := BB (B4 hb) H
   rw [hb] at F
   refine vl tk 5 F W fun a w F W => ?_
   refine Ab ?_
   have W := W.frontM (i := 1) Aa Aa
   have W := W.frontM (i := 1) Aa Aa
   exact ⟨_, H, F.ra Aa, W⟩
  have H := BC (B1 hb) H
  rw [hb] at F
  refine Dy F W (Ad F Aa Aa Aa Aa) Aa (As Aa) (Bk (v := Value.agg #[Jint p1.un.1, Jint p1.un.2.1, Jint p1.un.2.2.1, v1]) 0 F Aa Aa GN Aa).q fun a w F W => ?_
  refine FU (Ad F Aa Aa Aa Aa) ?_
  obtain ⟨x2, h2, H⟩ := Af H
  refine ls F W Aa (AA (v := Value.bool x2) F bA Aa (fun w W => Q5 any w (v1) p1 _ h2 (Cl (Al BK h1 (Ae h_v1)) W))) fun a w F W => ?_
  refine vl tk 3 F W fun a w F W => ?_
  refine Ab ?_
  have W := W.frontM (i := 1) Aa Aa
  have W := W.frontM (i := 1) Aa Aa
  exact ⟨_, H, F.ra Aa, W⟩
 rintro a w ⟨x1, hj, F, W⟩
 have hj := Ay hj
 subst hj
 have H := K1
 refine Bi F Aa H (fun F H => ?_) fun F H => ?_
 ·
  refine vc tk 5 F W fun a w F W => ?_
  refine Ah (Aw ?_)
  have H := Ay H
  subst H
  refine Av (.inl Aa) F W Aa (Am F Aa) ?_
  have W := W.frontM (i := 1) Aa Aa
  have W := W.sub (M' := [(q_p0, [Jint (AJ (p0 - 1))])]) (Z' := []) (sc nl) sr
  exact ⟨(), Aa, W⟩
 refine AD (Ab ?_)
 obtain ⟨o2, G2, K2, L2⟩ := Lh H
 refine Ap (fun a w => ∃ x3 : Int, some (Sum.inl x3) = some o2 ∧ Fr 44 [] [(6, .bool false)] a ∧ Stw ⟨Y, X, w0⟩ [(b1, [Jint p1.un.1, Jint p1.un.2.1, Jint p1.un.2.2.1, v1]), (q_p0, [Jint x3])] [] w) ?_ ?_
 ·
  have H := G2
  refine CT tk 4 [0] F W (ai fun a w F W => ?_)
  refine ls F W Aa (Bz (r := Bm) (l := p1.un.2.2.2) IU Aa F Aa (Al BK h1 (Ae h_v1))).q fun a w F W => ?_
  refine Bo tk 4 F W fun a w F W => ?_
  have W := W.frontM (i := 1) Aa Aa
  have W := W.frontM (i := 1) Aa Aa
  refine AQ H (fun s a w => Fr 44 [] [(0, pp q_p0), (2, Jint p2), (6, .bool false), (31, v1), (32, Jint (p1.un.2.2.2.length : Int)), (33, Jint s.1)] a ∧ Stw ⟨Y, X, w0⟩ [(b1, (Hl p1 v1)), (q_p0, [Jint s.2])] [] w) ⟨F.ra Aa, W⟩ fun s o a w H L3 hR => ?_
  obtain ⟨x4, x5⟩ := s
  obtain ⟨F, W⟩ := hR
  have F : Fr 44 [] [(0, pp q_p0), (2, Jint p2), (6, .bool false), (31, v1), (32, Jint (p1.un.2.2.2.length : Int)), (33, Jint x4)] a := F
  have W : Stw ⟨Y, X, w0⟩ [(b1, [Jint p1.un.1, Jint p1.un.2.1, Jint p1.un.2.2.1, v1]), (q_p0, [Jint x5])] [] w := W
  rw [Be] at H
  refine vc tk 6 F W fun a w F W => ?_
  refine A1 F Aa H (fun F H => ?_) fun F H => ?_
  ·
   refine EX tk 6 F W fun a w F W => ?_
   obtain ⟨x6, h3, H⟩ := Af H
   obtain ⟨v3, h4, h5⟩ := CS h1 h3
   have h6 : He v3 = [Jint x6.un.1, Jint x6.un.2.1, Jint x6.un.2.2.1, (v3.2.2.2.1)] := congrArg (fun q : Tr36 => ([Jint q.un.1, Jint q.un.2.1, Jint q.un.2.2.1, (v3.2.2.2.1)] : List Value)) h5
   refine ls F W Aa (Au (r := HE) PI F Aa Aa (Ae h_v1) h4).q fun a w F W => ?_
   refine ls F W Aa (Aj (y := Value.agg #[Jint x6.un.1, Jint x6.un.2.1, Jint x6.un.2.2.1, (v3.2.2.2.1)]) (j := 0) (i := x4) (enc := He) F Aa Aa (Ae h_v1) h4 Mp GN (by rw [h6]; rfl)).q fun a w F W => ?_
   refine Bw (cs := (Is)) F W Aa Q0 Aa fun b2 a w F W => ?_
   refine CE 0 F W Aa Aa Aa GN Aa Aa (Ac Aa (Ac Aa (Ac Aa (Ac ((Bf (Ae h_v1) h4 (Ag.snd (Ag.snd (Ag.snd Ag.here))) (congrArg (fun q : Tr36 => q.un.2.2.2) h5)) _ W).one Bn)))) fun w W => ?_
   refine Es tk 8 [0] F W (ai fun a w F W => ?_)
   obtain ⟨x7, h7, H⟩ := Af H
   have W := W.frontM (i := 2) Aa Aa
   refine AO (Ml := [(q_p0, [Jint x5])]) (Zl := []) (β := Unit) (rv := fun x => .bool x7.1) (MM := fun x => [(q_p0, [Jint x7.2])]) (ZZ := fun x => []) F W aQ Aa Aa (fun hL => ih _ _ w q_p0 ((v3.2.2.2.1)) x5 x6 (AJ (p2 - 1)) _ h7 (Sl.at_ (W.roX h_v1 (fun g hg => FF hg)) h4 (Ag.snd (Ag.snd (Ag.snd Ag.here))) (congrArg (fun q : Tr36 => q.un.2.2.2) h5)) hL) fun x a w F W => ?_
   have W : Stw ⟨Y, X, w0⟩ [(q_p0, [Jint x7.2]), (b2, [Jint x6.un.1, Jint x6.un.2.1, Jint x6.un.2.2.1, (v3.2.2.2.1)]), (b1, (Hl p1 v1))] [] w := W
   refine Bo tk 3 F W fun a w F W => ?_
   refine Bi F Aa H (fun F H => ?_) fun F H => ?_
   ·
    refine vc tk 5 F W fun a w F W => ?_
    refine Ah (AC ?_)
    iterate 2 refine Aw ?_
    refine AC (Aw ?_)
    have H := L3 _ H
    have H := L2 _ H
    have H := Ay H
    subst H
    refine Av (.inl Aa) F W Aa (Am F Aa) ?_
    have W := W.sub (M' := [(q_p0, [Jint x7.2])]) (Z' := []) (sc nl) sr
    exact ⟨(), Aa, W⟩
   refine AD (Az ?_)
   refine vn tk 4 F W fun a w F W => ?_
   refine Ab ?_
   have W := W.frontM (i := 2) Aa Aa
   have W := W.sub (M' := [(b1, [Jint p1.un.1, Jint p1.un.2.1, Jint p1.un.2.2.1, v1]), (q_p0, [Jint x7.2])]) (Z' := []) (sc (sc nl)) sr
   exact ⟨_, H, F.ra Aa, W⟩
  refine AN ?_
  iterate 2 refine A6 ?_
  refine AP (Ab ?_)
  have W := W.frontM (i := 1) Aa Aa
  have W := W.frontM (i := 1) Aa Aa
  have H := L3 _ H
  exact ⟨_, H, F.ra Aa, W⟩
 rintro a w ⟨x3, hj, F, W⟩
 have H := K2 _ hj
 refine vc tk 5 F W fun a w F W => ?_
 refine Ah ?_
 have H := Ay H
 subst H
 refine Av (.inl Aa) F W Aa (Am F Aa) ?_
 have W := W.frontM (i := 1) Aa Aa
 have W := W.sub (M' := [(q_p0, [Jint x3])]) (Z' := []) (sc nl) sr
 exact ⟨(), Aa, W⟩
theorem Jo : ∀ (n : Nat) (Y : Nat → Prop) (X : List Nat) (w0 : World) (q_p0 : Nat) (v1 : Value) (p0 : Int) (p1 : Tr36) (p2 : Int) (r : Bool × Int) (H : A8 n p0 p1 p2 = some r) (h_v1 : Sl w0 (NX X) Bm v1 p1.un.2.2.2) (hL : Stw ⟨Y, X, w0⟩ [(q_p0, [Jint p0])] [] w0), ca_ 54 #[pp q_p0, .agg #[Jint p1.un.1, Jint p1.un.2.1, Jint p1.un.2.2.1, v1], Jint p2] w0 fun e w' => ∃ x : Unit, e = .returned (.bool r.1) ∧ Stw ⟨Y, X, w0⟩ [(q_p0, [Jint r.2])] [] w' := by
  intro n
  induction n with
  | zero => intro Y X w0 q_p0 v1 p0 p1 p2 r H; exact nomatch H
  | succ n ih => intro Y X w0 q_p0 v1 p0 p1 p2 r H h_v1 hL; exact Ja (A8 n) ih Y X w0 q_p0 v1 p0 p1 p2 r H h_v1 hL
theorem JM (Y : Nat → Prop) (X : List Nat) (w0 : World) (q_p0 : Nat) (v1 : Value) (p0 : Int) (p1 : Tr36) (p2 : Int) (r : Bool × Int) (H : Fm p0 p1 p2 = some r) (h_v1 : Sl w0 (NX X) Bm v1 p1.un.2.2.2) (hL : Stw ⟨Y, X, w0⟩ [(q_p0, [Jint p0])] [] w0) :
    ca_ 54 #[pp q_p0, .agg #[Jint p1.un.1, Jint p1.un.2.1, Jint p1.un.2.2.1, v1], Jint p2] w0 fun e w' => ∃ x : Unit, e = .returned (.bool r.1) ∧ Stw ⟨Y, X, w0⟩ [(q_p0, [Jint r.2])] [] w' := by
  obtain ⟨n, H⟩ := BP H
  exact Jo n Y X w0 q_p0 v1 p0 p1 p2 r H h_v1 hL
def GU (p0 : Tr36) : Option Bool := (Fm 64 p0 8).bind fun x1 => some x1.1
theorem Qn (Y : Nat → Prop) (w0 : World) (v1 : Value) (p0 : Tr36) (r : Bool) (H : GU p0 = some r) (h_v1 : Sl w0 (NX []) Bm v1 p0.un.2.2.2) :
    ca_ 27 #[.agg #[Jint p0.un.1, Jint p0.un.2.1, Jint p0.un.2.2.1, v1]] w0 fun e w' => e = .returned (.bool r) ∧ Below w0.heap.size w0 w' := by
 refine enter Tryz.func27 Aa Tryz.ntmps27 Aa fun a F => ?_
 have W := Stw.start Y w0
 obtain ⟨v2, h1, h_v1⟩ := h_v1.ex BK
 unfold GU at H
 refine vc tk 2 F W fun a w F W => ?_
 refine BQ (cs := (Hl p0 v1)) F W Aa Aa Aa fun b1 a w F W => ?_
 refine Bo tk 5 F W fun a w F W => ?_
 refine ls F W Aa (Cf (v := Value.agg #[Jint 64]) bQ F Aa Aa Aa).q fun a w F W => ?_
 refine Bw (cs := [Jint 0]) F W Aa cA Aa fun b2 a w F W => ?_
 refine CE 0 F W Aa Aa Aa cB Aa Aa Aa fun w W => ?_
 refine Es tk 5 [1] F W (ai fun a w F W => ?_)
 obtain ⟨x1, h2, H⟩ := Af H
 refine AO (Ml := [(b2, [Jint 64])]) (Zl := []) (β := Unit) (rv := fun x => .bool x1.1) (MM := fun x => [(b2, [Jint x1.2])]) (ZZ := fun x => []) F W aQ Aa Aa (fun hL => JM _ _ w b2 (v1) 64 p0 8 _ h2 (Sl.hide BK h1 (W.roX h_v1 (fun g hg => FF hg))) hL) fun x a w F W => ?_
 have W : sy Y w0 [(b2, [Jint x1.2]), (b1, [Jint p0.un.1, Jint p0.un.2.1, Jint p0.un.2.2.1, v1])] [] w := W
 refine Bo tk 3 F W fun a w F W => ?_
 refine Ah ?_
 have H := Ay H
 subst H
 refine Av (.inl Aa) F W Aa (Am F Aa) ?_
 exact ⟨rfl, W.done⟩
theorem bD : Has Tryz.prog 27 := BM Tryz.func27
theorem YJ : Has Tryz.prog 101 := BM Tryz.func101
def Dp (fRec : Tr36 → Option Int) (p0 : Tr36) : (Int × Int) → Option ((Int × Int) ⊕ Int)
  | (x2, x3) => (if x3 < (p0.un.2.2.2.length : Int) then (ix p0.un.2.2.2 x3).bind fun x4 => (fRec x4).bind fun x5 => some (.inl (AJ (x2 + x5), AJ (x3 + 1))) else some (.inr x2))
def ED (fRec : Tr36 → Option Int) (p0 : Tr36) : Option Int := (AB (Dp fRec p0) (1, 0)).bind fun x1 => some x1
def DQ : Nat → Tr36 → Option Int
  | 0 => fun _ => none
  | n + 1 => ED (DQ n)
def Kg (p0 : Tr36) : Option Int := FT fun n => DQ n p0
theorem Pv (fRec : Tr36 → Option Int) (ih : ∀ (Y : Nat → Prop) (w0 : World) (v1 : Value) (p0 : Tr36) (r : Int) (H : fRec p0 = some r) (h_v1 : Sl w0 (NX []) Bm v1 p0.un.2.2.2), ca_ 101 #[.agg #[Jint p0.un.1, Jint p0.un.2.1, Jint p0.un.2.2.1, v1]] w0 fun e w' => e = .returned (Jint r) ∧ Below w0.heap.size w0 w') (Y : Nat → Prop) (w0 : World) (v1 : Value) (p0 : Tr36) (r : Int) (H : ED fRec p0 = some r) (h_v1 : Sl w0 (NX []) Bm v1 p0.un.2.2.2) :
    ca_ 101 #[.agg #[Jint p0.un.1, Jint p0.un.2.1, Jint p0.un.2.2.1, v1]] w0 fun e w' => e = .returned (Jint r) ∧ Below w0.heap.size w0 w' := by
 refine enter Tryz.func101 Aa Tryz.ntmps101 Aa fun a F => ?_
 have W := Stw.start Y w0
 obtain ⟨v2, h1, h_v1⟩ := h_v1.ex BK
 unfold ED at H
 refine vc tk 2 F W fun a w F W => ?_
 refine BQ (cs := (Hl p0 v1)) F W Aa Aa Aa fun b1 a w F W => ?_
 refine Bo tk 8 F W fun a w F W => ?_
 obtain ⟨o1, G1, K1⟩ := Af H
 refine Ap (fun a w => ∃ x1 : Int, some (x1) = some o1 ∧ Fr 19 [] [(2, Jint 0), (3, Jint x1)] a ∧ sy Y w0 (Gv b1 p0 v1) [] w) ?_ ?_
 ·
  have H := G1
  refine CT tk 4 [0] F W (ai fun a w F W => ?_)
  refine ls F W Aa (Bz (r := Bm) (l := p0.un.2.2.2) IU Aa F Aa (Al BK h1 (Ae h_v1))).q fun a w F W => ?_
  refine Bo tk 4 F W fun a w F W => ?_
  refine AQ H (fun s a w => Fr 19 [] [(2, Jint 0), (3, Jint s.1), (7, v1), (8, Jint (p0.un.2.2.2.length : Int)), (9, Jint s.2)] a ∧ sy Y w0 (Gv b1 p0 v1) [] w) ⟨F.ra Aa, W⟩ fun s o a w H L2 hR => ?_
  obtain ⟨x2, x3⟩ := s
  obtain ⟨F, W⟩ := hR
  have F : Fr 19 [] [(2, Jint 0), (3, Jint x2), (7, v1), (8, Jint (p0.un.2.2.2.length : Int)), (9, Jint x3)] a := F
  have W : sy Y w0 (Gv b1 p0 v1) [] w := W
  rw [Dp] at H
  refine vc tk 6 F W fun a w F W => ?_
  refine A1 F Aa H (fun F H => ?_) fun F H => ?_
  ·
   refine EX tk 6 F W fun a w F W => ?_
   obtain ⟨x4, h2, H⟩ := Af H
   obtain ⟨v3, h3, h4⟩ := CS h1 h2
   have h5 : He v3 = [Jint x4.un.1, Jint x4.un.2.1, Jint x4.un.2.2.1, (v3.2.2.2.1)] := congrArg (fun q : Tr36 => ([Jint q.un.1, Jint q.un.2.1, Jint q.un.2.2.1, (v3.2.2.2.1)] : List Value)) h4
   refine ls F W Aa (Au (r := HE) PI F Aa Aa (Ae h_v1) h3).q fun a w F W => ?_
   refine ls F W Aa (Aj (y := Value.agg #[Jint x4.un.1, Jint x4.un.2.1, Jint x4.un.2.2.1, (v3.2.2.2.1)]) (j := 0) (i := x3) (enc := He) F Aa Aa (Ae h_v1) h3 Mp GN (by rw [h5]; rfl)).q fun a w F W => ?_
   refine Bw (cs := (Is)) F W Aa Q0 Aa fun b2 a w F W => ?_
   refine CE 0 F W Aa Aa Aa GN Aa Aa (Ac Aa (Ac Aa (Ac Aa (Ac ((Bf (Ae h_v1) h3 (Ag.snd (Ag.snd (Ag.snd Ag.here))) (congrArg (fun q : Tr36 => q.un.2.2.2) h4)) _ W).one Bn)))) fun w W => ?_
   refine Es tk 5 [0] F W (ai fun a w F W => ?_)
   obtain ⟨x5, h6, H⟩ := Af H
   refine ls F W Aa (AA (v := Jint x5) F YJ Aa (fun w W => ih any w ((v3.2.2.2.1)) x4 _ h6 (Cl (Bf (Ae h_v1) h3 (Ag.snd (Ag.snd (Ag.snd Ag.here))) (congrArg (fun q : Tr36 => q.un.2.2.2) h4)) W))) fun a w F W => ?_
   refine vl tk 3 F W fun a w F W => ?_
   refine Az ?_
   refine vn tk 4 F W fun a w F W => ?_
   refine Ab ?_
   have W := W.frontM (i := 1) Aa Aa
   have W := W.sub (M' := (Gv b1 p0 v1)) (Z' := []) (sc nl) sr
   exact ⟨_, H, F.ra Aa, W⟩
  refine AN ?_
  iterate 2 refine A6 ?_
  refine AP (Ab ?_)
  have H := L2 _ H
  exact ⟨_, H, F.ra Aa, W⟩
 rintro a w ⟨x1, hj, F, W⟩
 have hj := Ay hj
 subst hj
 have H := K1
 refine vc tk 6 F W fun a w F W => ?_
 refine Ah ?_
 have H := Ay H
 subst H
 refine Av (.inl Aa) F W Aa (Am F Aa) ?_
 exact ⟨rfl, W.done⟩
theorem QG : ∀ (n : Nat) (Y : Nat → Prop) (w0 : World) (v1 : Value) (p0 : Tr36) (r : Int) (H : DQ n p0 = some r) (h_v1 : Sl w0 (NX []) Bm v1 p0.un.2.2.2), ca_ 101 #[.agg #[Jint p0.un.1, Jint p0.un.2.1, Jint p0.un.2.2.1, v1]] w0 fun e w' => e = .returned (Jint r) ∧ Below w0.heap.size w0 w' := by
  intro n
  induction n with
  | zero => intro Y w0 v1 p0 r H; exact nomatch H
  | succ n ih => intro Y w0 v1 p0 r H h_v1; exact Pv (DQ n) ih Y w0 v1 p0 r H h_v1
theorem RR (Y : Nat → Prop) (w0 : World) (v1 : Value) (p0 : Tr36) (r : Int) (H : Kg p0 = some r) (h_v1 : Sl w0 (NX []) Bm v1 p0.un.2.2.2) :
    ca_ 101 #[.agg #[Jint p0.un.1, Jint p0.un.2.1, Jint p0.un.2.2.1, v1]] w0 fun e w' => e = .returned (Jint r) ∧ Below w0.heap.size w0 w' := by
  obtain ⟨n, H⟩ := BP H
  exact QG n Y w0 v1 p0 r H h_v1
theorem aH : Has Tryz.prog 64 := BM Tryz.func64
abbrev Tb (a0 : Nat) (a1 : Tr39) (a2 : Value) (a3 : Value) (a4 : Nat) (a5 : Int) : List (Nat × List Value) := [(a0, [Jint a1.un.1, Jint a1.un.2.1.un.1, Jint a1.un.2.1.un.2.1, Jint a1.un.2.1.un.2.2.1, a2, Jint a1.un.2.2.1, Jint a1.un.2.2.2.1, a3]), (a4, [Jint a5])]
def A0 (fRec : Int → Tr39 → Int → Option (Bool × Int)) (p1 : Tr39) (p2 : Int) : (Int × Int) → Option ((Int × Int) ⊕ (Int ⊕ (Bool × Int)))
  | (x7, x8) => (if x7 < (p1.un.2.2.2.2.length : Int) then (ix p1.un.2.2.2.2 x7).bind fun x9 => (fRec x8 (Tr39.of (x9.un.1, Tr36.of (x9.un.2.1.un.1, x9.un.2.1.un.2.1, x9.un.2.1.un.2.2.1, x9.un.2.1.un.2.2.2), x9.un.2.2.1, x9.un.2.2.2.1, x9.un.2.2.2.2)) (AJ (p2 - 1))).bind fun x10 => (if (!x10.1) = true then some (.inr (.inr (false, x10.2))) else some (.inl (AJ (x7 + 1), x10.2))) else some (.inr (.inl x8)))
def B6 (fRec : Int → Tr39 → Int → Option (Bool × Int)) (p0 : Int) (p1 : Tr39) (p2 : Int) : Option (Bool × Int) := (if p0 < 1 then some true else (if p2 < 1 then some true else (Hq (Tr39.of (p1.un.1, Tr36.of (p1.un.2.1.un.1, p1.un.2.1.un.2.1, p1.un.2.1.un.2.2.1, p1.un.2.1.un.2.2.2), p1.un.2.2.1, p1.un.2.2.2.1, p1.un.2.2.2.2))).bind fun x2 => some (!x2))).bind fun x1 => (if x1 = true then some (false, p0) else HA (if (decide (p1.un.1 = 1) || decide (p1.un.1 = 5)) = true then (GU (Tr36.of (p1.un.2.1.un.1, p1.un.2.1.un.2.1, p1.un.2.1.un.2.2.1, p1.un.2.1.un.2.2.2))).bind fun x4 => (if (!x4) = true then some (.inr (false, AJ (p0 - 1))) else (Kg (Tr36.of (p1.un.2.1.un.1, p1.un.2.1.un.2.1, p1.un.2.1.un.2.2.1, p1.un.2.1.un.2.2.2))).bind fun x5 => some (.inl (AJ ((AJ (p0 - 1)) - x5)))) else some (.inl (AJ (p0 - 1)))) fun x3 => HA (AB (A0 fRec p1 p2) (0, x3)) fun x6 => some (decide (0 ≤ x6), x6))
def AU : Nat → Int → Tr39 → Int → Option (Bool × Int)
  | 0 => fun _ _ _ => none
  | n + 1 => B6 (AU n)
def EG (p0 : Int) (p1 : Tr39) (p2 : Int) : Option (Bool × Int) := FT fun n => AU n p0 p1 p2
theorem Ix (fRec : Int → Tr39 → Int → Option (Bool × Int)) (ih : ∀ (Y : Nat → Prop) (X : List Nat) (w0 : World) (q_p0 : Nat) (v1 : Value) (v2 : Value) (p0 : Int) (p1 : Tr39) (p2 : Int) (r : Bool × Int) (H : fRec p0 p1 p2 = some r) (h_v1 : Sl w0 (NX X) Bm v1 p1.un.2.1.un.2.2.2) (h_v2 : Sl w0 (NX X) DF v2 p1.un.2.2.2.2) (hL : Stw ⟨Y, X, w0⟩ [(q_p0, [Jint p0])] [] w0), ca_ 64 #[pp q_p0, .agg #[Jint p1.un.1, Jint p1.un.2.1.un.1, Jint p1.un.2.1.un.2.1, Jint p1.un.2.1.un.2.2.1, v1, Jint p1.un.2.2.1, Jint p1.un.2.2.2.1, v2], Jint p2] w0 fun e w' => ∃ x : Unit, e = .returned (.bool r.1) ∧ Stw ⟨Y, X, w0⟩ [(q_p0, [Jint r.2])] [] w') (Y : Nat → Prop) (X : List Nat) (w0 : World) (q_p0 : Nat) (v1 : Value) (v2 : Value) (p0 : Int) (p1 : Tr39) (p2 : Int) (r : Bool × Int) (H : B6 fRec p0 p1 p2 = some r) (h_v1 : Sl w0 (NX X) Bm v1 p1.un.2.1.un.2.2.2) (h_v2 : Sl w0 (NX X) DF v2 p1.un.2.2.2.2) (hL : Stw ⟨Y, X, w0⟩ [(q_p0, [Jint p0])] [] w0) :
    ca_ 64 #[pp q_p0, .agg #[Jint p1.un.1, Jint p1.un.2.1.un.1, Jint p1.un.2.1.un.2.1, Jint p1.un.2.1.un.2.2.1, v1, Jint p1.un.2.2.1, Jint p1.un.2.2.2.1, v2], Jint p2] w0 fun e w' => ∃ x : Unit, e = .returned (.bool r.1) ∧ Stw ⟨Y, X, w0⟩ [(q_p0, [Jint r.2])] [] w' := by
 refine enter Tryz.func64 Aa Tryz.ntmps64 Aa fun a F => ?_
 have W := hL
 obtain ⟨v3, h1, h_v1⟩ := h_v1.ex BK
 obtain ⟨v4, h2, h_v2⟩ := h_v2.ex Er
 unfold B6 at H
 refine vc tk 2 F W fun a w F W => ?_
 refine BQ (cs := (C7 p1 v1 v2)) F W Aa Aa Aa fun b1 a w F W => ?_
 refine Bo tk 4 F W fun a w F W => ?_
 obtain ⟨o1, G1, K1⟩ := Af H
 refine Ap (fun a w => ∃ x1 : Bool, some (x1) = some o1 ∧ Fr 71 [] [(0, pp q_p0), (2, Jint p2), (4, pp b1), (6, .bool false), (22, .bool x1)] a ∧ Stw ⟨Y, X, w0⟩ (Tb b1 p1 v1 v2 q_p0 p0) [] w) ?_ ?_
 ·
  have H := G1
  refine vc tk 2 F W fun a w F W => ?_
  refine ls F W Aa (Cj F Aa).q fun a w F W => ?_
  refine DU tk 4 [1] F W (ai fun a w F W => ?_)
  rcases bxq (decide (p0 < 1)) with hb | hb
  ·
   have H := BB (B4 hb) H
   rw [hb] at F
   refine vl tk 9 F W fun a w F W => ?_
   refine Ab ?_
   have W := W.frontM (i := 1) Aa Aa
   have W := W.frontM (i := 1) Aa Aa
   exact ⟨_, H, F.ra Aa, W⟩
  have H := BC (B1 hb) H
  rw [hb] at F
  refine vl tk 4 F W fun a w F W => ?_
  rcases bxq (decide (p2 < 1)) with hb | hb
  ·
   have H := BB (B4 hb) H
   rw [hb] at F
   refine vl tk 5 F W fun a w F W => ?_
   refine Ab ?_
   have W := W.frontM (i := 1) Aa Aa
   have W := W.frontM (i := 1) Aa Aa
   exact ⟨_, H, F.ra Aa, W⟩
  have H := BC (B1 hb) H
  rw [hb] at F
  refine Dy F W (Ad F Aa Aa Aa Aa) Aa (As Aa) (Bk (v := Value.agg #[Jint p1.un.1, Jint p1.un.2.1.un.1, Jint p1.un.2.1.un.2.1, Jint p1.un.2.1.un.2.2.1, v1, Jint p1.un.2.2.1, Jint p1.un.2.2.2.1, v2]) 0 F Aa Aa I7 Aa).q fun a w F W => ?_
  refine FU (Ad F Aa Aa Aa Aa) ?_
  obtain ⟨x2, h3, H⟩ := Af H
  refine ls F W Aa (AA (v := Value.bool x2) F ZJ Aa (fun w W => Ps any w (v1) (v2) (Tr39.of (p1.un.1, Tr36.of (p1.un.2.1.un.1, p1.un.2.1.un.2.1, p1.un.2.1.un.2.2.1, p1.un.2.1.un.2.2.2), p1.un.2.2.1, p1.un.2.2.2.1, p1.un.2.2.2.2)) _ h3 (Cl (Al BK h1 (Ae h_v1)) W) (Cl (Al Er h2 (Ae h_v2)) W))) fun a w F W => ?_
  refine vl tk 3 F W fun a w F W => ?_
  refine Ab ?_
  have W := W.frontM (i := 1) Aa Aa
  have W := W.frontM (i := 1) Aa Aa
  exact ⟨_, H, F.ra Aa, W⟩
 rintro a w ⟨x1, hj, F, W⟩
 have hj := Ay hj
 subst hj
 have H := K1
 refine Bi F Aa H (fun F H => ?_) fun F H => ?_
 ·
  refine vc tk 5 F W fun a w F W => ?_
  refine Ah (Aw ?_)
  have H := Ay H
  subst H
  refine Av (.inl Aa) F W Aa (Am F Aa) ?_
  have W := W.frontM (i := 1) Aa Aa
  have W := W.sub (M' := [(q_p0, [Jint p0])]) (Z' := []) (sc nl) sr
  exact ⟨(), Aa, W⟩
 refine EX tk 5 F W fun a w F W => ?_
 refine ls F W Aa (Cj F Aa).q fun a w F W => ?_
 refine DU tk 3 [1] F W (ai fun a w F W => ?_)
 refine ls F W Aa (Cj F Aa).q fun a w F W => ?_
 refine ls F W Aa (Aq Tl Aa Aa Aa T3 F Aa 0 Aa).q fun a w F W => ?_
 refine CE 1 F W Aa Aa Aa T3 Aa Aa Aa fun w W => ?_
 refine F6 (Ab ?_)
 obtain ⟨o2, G2, K2, L2⟩ := Lh H
 refine Ap (fun a w => ∃ x3 : Int, some (Sum.inl x3) = some o2 ∧ Fr 71 [] [(0, pp q_p0), (2, Jint p2), (4, pp b1), (6, .bool false)] a ∧ Stw ⟨Y, X, w0⟩ (Tb b1 p1 v1 v2 q_p0 x3) [] w) ?_ ?_
 ·
  have H := G2
  refine Ap (fun a w => Fr 71 [] [(0, pp q_p0), (2, Jint p2), (4, pp b1), (6, .bool false), (37, .bool (decide (p1.un.1 = 1) || decide (p1.un.1 = 5)))] a ∧ Stw ⟨Y, X, w0⟩ [(b1, (C7 p1 v1 v2)), (q_p0, [Jint (AJ (p0 - 1))])] [] w) ?_ ?_
  ·
   refine CT tk 5 [0] F W (ai fun a w F W => ?_)
   rcases bxq (decide (p1.un.1 = 1)) with hb0 | hb0
   ·
    rw [hb0] at F
    refine vl tk 5 F W fun a w F W => ?_
    refine Ab ?_
    exact ⟨F.re ⟨rfl, Aa, Aa, Aa, (CL (by try rw [hb0]; all_goals simp only [CM])), trivial⟩, W⟩
   rw [hb0] at F
   refine DU tk 5 [0] F W (ai fun a w F W => ?_)
   refine Ab ?_
   exact ⟨F.re ⟨rfl, Aa, Aa, Aa, (CL (by try rw [hb0]; all_goals simp only [CM])), trivial⟩, W⟩
  rintro a w ⟨F, W⟩
  refine Bi F Aa H (fun F H => ?_) fun F H => ?_
  ·
   refine CT tk 5 [0] F W (ai fun a w F W => ?_)
   obtain ⟨x4, h4, H⟩ := Af H
   refine ls F W Aa (AA (v := Value.bool x4) F bD Aa (fun w W => Qn any w (v1) (Tr36.of (p1.un.2.1.un.1, p1.un.2.1.un.2.1, p1.un.2.1.un.2.2.1, p1.un.2.1.un.2.2.2)) _ h4 (Cl (Al BK h1 (Ae h_v1)) W))) fun a w F W => ?_
   refine Bo tk 3 F W fun a w F W => ?_
   refine Bi F Aa H (fun F H => ?_) fun F H => ?_
   ·
    refine vc tk 5 F W fun a w F W => ?_
    refine Ah ?_
    iterate 2 refine Aw ?_
    have H := L2 _ H
    have H := Ay H
    subst H
    refine Av (.inl Aa) F W Aa (Am F Aa) ?_
    have W := W.frontM (i := 1) Aa Aa
    have W := W.sub (M' := [(q_p0, [Jint (AJ (p0 - 1))])]) (Z' := []) (sc nl) sr
    exact ⟨(), Aa, W⟩
   refine EX tk 2 F W fun a w F W => ?_
   refine Lz 10 W MO (by kernel_rfl) ?_
   refine qs F Aa (Ao F Aa).q fun a F => ?_
   refine qs F Aa (Cj F Aa).q fun a F => ?_
   refine qs F Aa (Aq Tl Aa Aa Aa T3 F Aa 0 Aa).q fun a F => ?_
   refine qs F Aa (Bk (v := Jint (AJ (p0 - 1))) 1 F Aa Aa T3 Aa).q fun a F => ?_
   refine qs F Aa (Aq Ih Aa Aa Aa GN F Aa 1 Aa).q fun a F => ?_
   refine qs F Aa (Bk (v := Value.agg #[Jint p1.un.2.1.un.1, Jint p1.un.2.1.un.2.1, Jint p1.un.2.1.un.2.2.1, v1]) 0 F Aa Aa GN Aa).q fun a F => ?_
   obtain ⟨x5, h5, H⟩ := Af H
   refine qs F Aa (AA (v := Jint x5) F YJ Aa (fun w W => RR any w (v1) (Tr36.of (p1.un.2.1.un.1, p1.un.2.1.un.2.1, p1.un.2.1.un.2.2.1, p1.un.2.1.un.2.2.2)) _ h5 (Cl (Al BK h1 (Ae h_v1)) W))) fun a F => ?_
   refine qs F Aa (Hp F Aa Aa Aa).q fun a F => ?_
   refine qs F Aa (Cj F Aa).q fun a F => ?_
   refine qs F Aa (Aq Tl Aa Aa Aa T3 F Aa 0 Aa).q fun a F => ?_
   refine AK fun w W => ?_
   refine CE 1 F W Aa Aa Aa T3 Aa Aa Aa fun w W => ?_
   refine F6 (Ab ?_)
   have W := W.frontM (i := 1) Aa Aa
   have W := W.frontM (i := 1) Aa Aa
   exact ⟨_, H, F.ra Aa, W⟩
  refine AD (Ab ?_)
  have W := W.frontM (i := 1) Aa Aa
  have W := W.frontM (i := 1) Aa Aa
  exact ⟨_, H, F.ra Aa, W⟩
 rintro a w ⟨x3, hj, F, W⟩
 have H := K2 _ hj
 obtain ⟨o3, G3, K3, L3⟩ := Lh H
 refine Ap (fun a w => ∃ x6 : Int, some (Sum.inl x6) = some o3 ∧ Fr 71 [] [(0, pp q_p0), (6, .bool false)] a ∧ Stw ⟨Y, X, w0⟩ (Tb b1 p1 v1 v2 q_p0 x6) [] w) ?_ ?_
 ·
  have H := G3
  refine CT tk 4 [0] F W (ai fun a w F W => ?_)
  refine ls F W Aa (Bz (r := DF) (l := p1.un.2.2.2.2) Km Aa F Aa (Al Er h2 (Ae h_v2))).q fun a w F W => ?_
  refine Bo tk 4 F W fun a w F W => ?_
  have W := W.frontM (i := 1) Aa Aa
  have W := W.frontM (i := 1) Aa Aa
  refine AQ H (fun s a w => Fr 71 [] [(0, pp q_p0), (2, Jint p2), (6, .bool false), (53, v2), (54, Jint (p1.un.2.2.2.2.length : Int)), (55, Jint s.1)] a ∧ Stw ⟨Y, X, w0⟩ [(b1, (C7 p1 v1 v2)), (q_p0, [Jint s.2])] [] w) ⟨F.ra Aa, W⟩ fun s o a w H L4 hR => ?_
  obtain ⟨x7, x8⟩ := s
  obtain ⟨F, W⟩ := hR
  have F : Fr 71 [] [(0, pp q_p0), (2, Jint p2), (6, .bool false), (53, v2), (54, Jint (p1.un.2.2.2.2.length : Int)), (55, Jint x7)] a := F
  have W : Stw ⟨Y, X, w0⟩ (Tb b1 p1 v1 v2 q_p0 x8) [] w := W
  rw [A0] at H
  refine vc tk 6 F W fun a w F W => ?_
  refine A1 F Aa H (fun F H => ?_) fun F H => ?_
  ·
   refine EX tk 6 F W fun a w F W => ?_
   obtain ⟨x9, h6, H⟩ := Af H
   obtain ⟨v5, h7, h8⟩ := CS h2 h6
   have h9 : Ip v5 = [Jint x9.un.1, Jint x9.un.2.1.un.1, Jint x9.un.2.1.un.2.1, Jint x9.un.2.1.un.2.2.1, (v5.2.1.2.2.2.1), Jint x9.un.2.2.1, Jint x9.un.2.2.2.1, (v5.2.2.2.2.1)] := congrArg (fun q : Tr39 => ([Jint q.un.1, Jint q.un.2.1.un.1, Jint q.un.2.1.un.2.1, Jint q.un.2.1.un.2.2.1, (v5.2.1.2.2.2.1), Jint q.un.2.2.1, Jint q.un.2.2.2.1, (v5.2.2.2.2.1)] : List Value)) h8
   refine ls F W Aa (Au (r := LM) Ta F Aa Aa (Ae h_v2) h7).q fun a w F W => ?_
   refine ls F W Aa (Aj (y := Value.agg #[Jint x9.un.1, Jint x9.un.2.1.un.1, Jint x9.un.2.1.un.2.1, Jint x9.un.2.1.un.2.2.1, (v5.2.1.2.2.2.1), Jint x9.un.2.2.1, Jint x9.un.2.2.2.1, (v5.2.2.2.2.1)]) (j := 0) (i := x7) (enc := Ip) F Aa Aa (Ae h_v2) h7 Pt I7 (by rw [h9]; rfl)).q fun a w F W => ?_
   refine Bw (cs := (Gt)) F W Aa Sv Aa fun b2 a w F W => ?_
   refine CE 0 F W Aa Aa Aa I7 Aa Aa (Ac Aa (Ac Aa (Ac Aa (Ac Aa (Ac ((Bf (Ae h_v2) h7 (Ag.snd (Ag.fst (Ag.snd (Ag.snd (Ag.snd Ag.here))))) (congrArg (fun q : Tr39 => q.un.2.1.un.2.2.2) h8)) _ W).one (Ac Aa (Ac Aa (Ac ((Bf (Ae h_v2) h7 (Ag.snd (Ag.snd (Ag.snd (Ag.snd Ag.here)))) (congrArg (fun q : Tr39 => q.un.2.2.2.2) h8)) _ W).one Bn)))))))) fun w W => ?_
   refine Es tk 8 [0] F W (ai fun a w F W => ?_)
   obtain ⟨x10, h10, H⟩ := Af H
   have W := W.frontM (i := 2) Aa Aa
   refine AO (Ml := [(q_p0, [Jint x8])]) (Zl := []) (β := Unit) (rv := fun x => .bool x10.1) (MM := fun x => [(q_p0, [Jint x10.2])]) (ZZ := fun x => []) F W aH Aa Aa (fun hL => ih _ _ w q_p0 ((v5.2.1.2.2.2.1)) ((v5.2.2.2.2.1)) x8 (Tr39.of (x9.un.1, Tr36.of (x9.un.2.1.un.1, x9.un.2.1.un.2.1, x9.un.2.1.un.2.2.1, x9.un.2.1.un.2.2.2), x9.un.2.2.1, x9.un.2.2.2.1, x9.un.2.2.2.2)) (AJ (p2 - 1)) _ h10 (Sl.at_ (W.roX h_v2 (fun g hg => FF hg)) h7 (Ag.snd (Ag.fst (Ag.snd (Ag.snd (Ag.snd Ag.here))))) (congrArg (fun q : Tr39 => q.un.2.1.un.2.2.2) h8)) (Sl.at_ (W.roX h_v2 (fun g hg => FF hg)) h7 (Ag.snd (Ag.snd (Ag.snd (Ag.snd Ag.here)))) (congrArg (fun q : Tr39 => q.un.2.2.2.2) h8)) hL) fun x a w F W => ?_
   have W : Stw ⟨Y, X, w0⟩ [(q_p0, [Jint x10.2]), (b2, [Jint x9.un.1, Jint x9.un.2.1.un.1, Jint x9.un.2.1.un.2.1, Jint x9.un.2.1.un.2.2.1, (v5.2.1.2.2.2.1), Jint x9.un.2.2.1, Jint x9.un.2.2.2.1, (v5.2.2.2.2.1)]), (b1, (C7 p1 v1 v2))] [] w := W
   refine Bo tk 3 F W fun a w F W => ?_
   refine Bi F Aa H (fun F H => ?_) fun F H => ?_
   ·
    refine vc tk 5 F W fun a w F W => ?_
    refine Ah (AC ?_)
    iterate 2 refine Aw ?_
    refine AC (Aw ?_)
    have H := L4 _ H
    have H := L3 _ H
    have H := Ay H
    subst H
    refine Av (.inl Aa) F W Aa (Am F Aa) ?_
    have W := W.sub (M' := [(q_p0, [Jint x10.2])]) (Z' := []) (sc nl) sr
    exact ⟨(), Aa, W⟩
   refine AD (Az ?_)
   refine vn tk 4 F W fun a w F W => ?_
   refine Ab ?_
   have W := W.frontM (i := 2) Aa Aa
   have W := W.sub (M' := [(b1, [Jint p1.un.1, Jint p1.un.2.1.un.1, Jint p1.un.2.1.un.2.1, Jint p1.un.2.1.un.2.2.1, v1, Jint p1.un.2.2.1, Jint p1.un.2.2.2.1, v2]), (q_p0, [Jint x10.2])]) (Z' := []) (sc (sc nl)) sr
   exact ⟨_, H, F.ra Aa, W⟩
  refine AN ?_
  iterate 2 refine A6 ?_
  refine AP (Ab ?_)
  have W := W.frontM (i := 1) Aa Aa
  have W := W.frontM (i := 1) Aa Aa
  have H := L4 _ H
  exact ⟨_, H, F.ra Aa, W⟩
 rintro a w ⟨x6, hj, F, W⟩
 have H := K3 _ hj
 refine vc tk 3 F W fun a w F W => ?_
 refine ls F W Aa (Cj F Aa).q fun a w F W => ?_
 refine Es tk 6 [1] F W (ai fun a w F W => ?_)
 refine Ah ?_
 have H := Ay H
 subst H
 refine Av (.inl Aa) F W Aa (Am F Aa) ?_
 have W := W.frontM (i := 1) Aa Aa
 have W := W.sub (M' := [(q_p0, [Jint x6])]) (Z' := []) (sc nl) sr
 exact ⟨(), Aa, W⟩
theorem IG : ∀ (n : Nat) (Y : Nat → Prop) (X : List Nat) (w0 : World) (q_p0 : Nat) (v1 : Value) (v2 : Value) (p0 : Int) (p1 : Tr39) (p2 : Int) (r : Bool × Int) (H : AU n p0 p1 p2 = some r) (h_v1 : Sl w0 (NX X) Bm v1 p1.un.2.1.un.2.2.2) (h_v2 : Sl w0 (NX X) DF v2 p1.un.2.2.2.2) (hL : Stw ⟨Y, X, w0⟩ [(q_p0, [Jint p0])] [] w0), ca_ 64 #[pp q_p0, .agg #[Jint p1.un.1, Jint p1.un.2.1.un.1, Jint p1.un.2.1.un.2.1, Jint p1.un.2.1.un.2.2.1, v1, Jint p1.un.2.2.1, Jint p1.un.2.2.2.1, v2], Jint p2] w0 fun e w' => ∃ x : Unit, e = .returned (.bool r.1) ∧ Stw ⟨Y, X, w0⟩ [(q_p0, [Jint r.2])] [] w' := by
  intro n
  induction n with
  | zero => intro Y X w0 q_p0 v1 v2 p0 p1 p2 r H; exact nomatch H
  | succ n ih => intro Y X w0 q_p0 v1 v2 p0 p1 p2 r H h_v1 h_v2 hL; exact Ix (AU n) ih Y X w0 q_p0 v1 v2 p0 p1 p2 r H h_v1 h_v2 hL
theorem I5 (Y : Nat → Prop) (X : List Nat) (w0 : World) (q_p0 : Nat) (v1 : Value) (v2 : Value) (p0 : Int) (p1 : Tr39) (p2 : Int) (r : Bool × Int) (H : EG p0 p1 p2 = some r) (h_v1 : Sl w0 (NX X) Bm v1 p1.un.2.1.un.2.2.2) (h_v2 : Sl w0 (NX X) DF v2 p1.un.2.2.2.2) (hL : Stw ⟨Y, X, w0⟩ [(q_p0, [Jint p0])] [] w0) :
    ca_ 64 #[pp q_p0, .agg #[Jint p1.un.1, Jint p1.un.2.1.un.1, Jint p1.un.2.1.un.2.1, Jint p1.un.2.1.un.2.2.1, v1, Jint p1.un.2.2.1, Jint p1.un.2.2.2.1, v2], Jint p2] w0 fun e w' => ∃ x : Unit, e = .returned (.bool r.1) ∧ Stw ⟨Y, X, w0⟩ [(q_p0, [Jint r.2])] [] w' := by
  obtain ⟨n, H⟩ := BP H
  exact IG n Y X w0 q_p0 v1 v2 p0 p1 p2 r H h_v1 h_v2 hL
theorem YT : Has Tryz.prog 65 := BM Tryz.func65
def CY (fRec : Tr39 → Option Int) (p0 : Tr39) : (Int × Int) → Option ((Int × Int) ⊕ Int)
  | (x2, x3) => (if x3 < (p0.un.2.2.2.2.length : Int) then (ix p0.un.2.2.2.2 x3).bind fun x4 => (fRec (Tr39.of (x4.un.1, Tr36.of (x4.un.2.1.un.1, x4.un.2.1.un.2.1, x4.un.2.1.un.2.2.1, x4.un.2.1.un.2.2.2), x4.un.2.2.1, x4.un.2.2.2.1, x4.un.2.2.2.2))).bind fun x5 => some (.inl (min (AJ (x2 * x5)) 1000, AJ (x3 + 1))) else some (.inr x2))
def CU (fRec : Tr39 → Option Int) (p0 : Tr39) : (Int × Int) → Option ((Int × Int) ⊕ Int)
  | (x6, x7) => (if x7 < (p0.un.2.2.2.2.length : Int) then (ix p0.un.2.2.2.2 x7).bind fun x8 => (fRec (Tr39.of (x8.un.1, Tr36.of (x8.un.2.1.un.1, x8.un.2.1.un.2.1, x8.un.2.1.un.2.2.1, x8.un.2.1.un.2.2.2), x8.un.2.2.1, x8.un.2.2.2.1, x8.un.2.2.2.2))).bind fun x9 => some (.inl (min (AJ (x6 + x9)) 1000, AJ (x7 + 1))) else some (.inr x6))
def CX (fRec : Tr39 → Option Int) (p0 : Tr39) : (Int × Int) → Option ((Int × Int) ⊕ Int)
  | (x10, x11) => (if x11 < (p0.un.2.2.2.2.length : Int) then (ix p0.un.2.2.2.2 x11).bind fun x12 => (fRec (Tr39.of (x12.un.1, Tr36.of (x12.un.2.1.un.1, x12.un.2.1.un.2.1, x12.un.2.1.un.2.2.1, x12.un.2.1.un.2.2.2), x12.un.2.2.1, x12.un.2.2.2.1, x12.un.2.2.2.2))).bind fun x13 => some (.inl (max x10 x13, AJ (x11 + 1))) else some (.inr x10))
def DM (fRec : Tr39 → Option Int) (p0 : Tr39) : Option Int := (if p0.un.1 = 3 then AB (CY fRec p0) (1, 0) else (if p0.un.1 = 4 then AB (CU fRec p0) (0, 0) else (if p0.un.1 = 5 then AB (CX fRec p0) (0, 0) else some 1))).bind fun x1 => some x1
def B9 : Nat → Tr39 → Option Int
  | 0 => fun _ => none
  | n + 1 => DM (B9 n)
def JC (p0 : Tr39) : Option Int := FT fun n => B9 n p0
theorem M5 (fRec : Tr39 → Option Int) (ih : ∀ (Y : Nat → Prop) (w0 : World) (v1 : Value) (v2 : Value) (p0 : Tr39) (r : Int) (H : fRec p0 = some r) (h_v1 : Sl w0 (NX []) Bm v1 p0.un.2.1.un.2.2.2) (h_v2 : Sl w0 (NX []) DF v2 p0.un.2.2.2.2), ca_ 65 #[.agg #[Jint p0.un.1, Jint p0.un.2.1.un.1, Jint p0.un.2.1.un.2.1, Jint p0.un.2.1.un.2.2.1, v1, Jint p0.un.2.2.1, Jint p0.un.2.2.2.1, v2]] w0 fun e w' => e = .returned (Jint r) ∧ Below w0.heap.size w0 w') (Y : Nat → Prop) (w0 : World) (v1 : Value) (v2 : Value) (p0 : Tr39) (r : Int) (H : DM fRec p0 = some r) (h_v1 : Sl w0 (NX []) Bm v1 p0.un.2.1.un.2.2.2) (h_v2 : Sl w0 (NX []) DF v2 p0.un.2.2.2.2) :
    ca_ 65 #[.agg #[Jint p0.un.1, Jint p0.un.2.1.un.1, Jint p0.un.2.1.un.2.1, Jint p0.un.2.1.un.2.2.1, v1, Jint p0.un.2.2.1, Jint p0.un.2.2.2.1, v2]] w0 fun e w' => e = .returned (Jint r) ∧ Below w0.heap.size w0 w' := by
 refine enter Tryz.func65 Aa Tryz.ntmps65 Aa fun a F => ?_
 have W := Stw.start Y w0
 obtain ⟨v3, h1, h_v1⟩ := h_v1.ex BK
 obtain ⟨v4, h2, h_v2⟩ := h_v2.ex Er
 unfold DM at H
 refine vc tk 2 F W fun a w F W => ?_
 refine BQ (cs := (C7 p0 v1 v2)) F W Aa Aa Aa fun b1 a w F W => ?_
 refine Bo tk 8 F W fun a w F W => ?_
 obtain ⟨o1, G1, K1⟩ := Af H
 refine Ap (fun a w => ∃ x1 : Int, some (x1) = some o1 ∧ Fr 57 [] [(2, Jint 0), (3, Jint x1)] a ∧ sy Y w0 (DV b1 p0 v1 v2) [] w) ?_ ?_
 ·
  have H := G1
  refine CT tk 13 [0] F W (ai fun a w F W => ?_)
  refine BS F Aa (fun hb => ?_) fun hb => ?_
  ·
   have H := BB (B4 hb) H
   rw [hb] at F
   refine CT tk 9 [0] F W (ai fun a w F W => ?_)
   refine ls F W Aa (Bz (r := DF) (l := p0.un.2.2.2.2) Km Aa F Aa (Al Er h2 (Ae h_v2))).q fun a w F W => ?_
   refine Bo tk 4 F W fun a w F W => ?_
   refine AQ H (fun s a w => Fr 57 [] [(2, Jint 0), (3, Jint s.1), (15, v2), (16, Jint (p0.un.2.2.2.2.length : Int)), (17, Jint s.2)] a ∧ sy Y w0 (DV b1 p0 v1 v2) [] w) ⟨F.ra Aa, W⟩ fun s o a w H L2 hR => ?_
   obtain ⟨x2, x3⟩ := s
   obtain ⟨F, W⟩ := hR
   have F : Fr 57 [] [(2, Jint 0), (3, Jint x2), (15, v2), (16, Jint (p0.un.2.2.2.2.length : Int)), (17, Jint x3)] a := F
   have W : sy Y w0 (DV b1 p0 v1 v2) [] w := W
   rw [CY] at H
   refine vc tk 6 F W fun a w F W => ?_
   refine A1 F Aa H (fun F H => ?_) fun F H => ?_
   ·
    refine EX tk 6 F W fun a w F W => ?_
    obtain ⟨x4, h3, H⟩ := Af H
    obtain ⟨v5, h4, h5⟩ := CS h2 h3
    have h6 : Ip v5 = [Jint x4.un.1, Jint x4.un.2.1.un.1, Jint x4.un.2.1.un.2.1, Jint x4.un.2.1.un.2.2.1, (v5.2.1.2.2.2.1), Jint x4.un.2.2.1, Jint x4.un.2.2.2.1, (v5.2.2.2.2.1)] := congrArg (fun q : Tr39 => ([Jint q.un.1, Jint q.un.2.1.un.1, Jint q.un.2.1.un.2.1, Jint q.un.2.1.un.2.2.1, (v5.2.1.2.2.2.1), Jint q.un.2.2.1, Jint q.un.2.2.2.1, (v5.2.2.2.2.1)] : List Value)) h5
    refine ls F W Aa (Au (r := LM) Ta F Aa Aa (Ae h_v2) h4).q fun a w F W => ?_
    refine ls F W Aa (Aj (y := Value.agg #[Jint x4.un.1, Jint x4.un.2.1.un.1, Jint x4.un.2.1.un.2.1, Jint x4.un.2.1.un.2.2.1, (v5.2.1.2.2.2.1), Jint x4.un.2.2.1, Jint x4.un.2.2.2.1, (v5.2.2.2.2.1)]) (j := 0) (i := x3) (enc := Ip) F Aa Aa (Ae h_v2) h4 Pt I7 (by rw [h6]; rfl)).q fun a w F W => ?_
    refine Bw (cs := (Gt)) F W Aa Sv Aa fun b2 a w F W => ?_
    refine CE 0 F W Aa Aa Aa I7 Aa Aa (Ac Aa (Ac Aa (Ac Aa (Ac Aa (Ac ((Bf (Ae h_v2) h4 (Ag.snd (Ag.fst (Ag.snd (Ag.snd (Ag.snd Ag.here))))) (congrArg (fun q : Tr39 => q.un.2.1.un.2.2.2) h5)) _ W).one (Ac Aa (Ac Aa (Ac ((Bf (Ae h_v2) h4 (Ag.snd (Ag.snd (Ag.snd (Ag.snd Ag.here)))) (congrArg (fun q : Tr39 => q.un.2.2.2.2) h5)) _ W).one Bn)))))))) fun w W => ?_
    refine Es tk 5 [0] F W (ai fun a w F W => ?_)
    obtain ⟨x5, h7, H⟩ := Af H
    refine ls F W Aa (AA (v := Jint x5) F YT Aa (fun w W => ih any w ((v5.2.1.2.2.2.1)) ((v5.2.2.2.2.1)) (Tr39.of (x4.un.1, Tr36.of (x4.un.2.1.un.1, x4.un.2.1.un.2.1, x4.un.2.1.un.2.2.1, x4.un.2.1.un.2.2.2), x4.un.2.2.1, x4.un.2.2.2.1, x4.un.2.2.2.2)) _ h7 (Cl (Bf (Ae h_v2) h4 (Ag.snd (Ag.fst (Ag.snd (Ag.snd (Ag.snd Ag.here))))) (congrArg (fun q : Tr39 => q.un.2.1.un.2.2.2) h5)) W) (Cl (Bf (Ae h_v2) h4 (Ag.snd (Ag.snd (Ag.snd (Ag.snd Ag.here)))) (congrArg (fun q : Tr39 => q.un.2.2.2.2) h5)) W))) fun a w F W => ?_
    refine ls F W Aa (WR F Aa Aa Aa).q fun a w F W => ?_
    refine ls F W Aa (UK F Aa Aa).q fun a w F W => ?_
    refine vl tk 2 F W fun a w F W => ?_
    refine Az ?_
    refine vn tk 4 F W fun a w F W => ?_
    refine Ab ?_
    have W := W.frontM (i := 1) Aa Aa
    have W := W.sub (M' := (DV b1 p0 v1 v2)) (Z' := []) (sc nl) sr
    exact ⟨_, H, F.ra Aa, W⟩
   refine AN ?_
   iterate 2 refine A6 ?_
   refine AP (Az (Ab ?_))
   have H := L2 _ H
   exact ⟨_, H, F.ra Aa, W⟩
  have H := BC (B1 hb) H
  rw [hb] at F
  refine vc tk 6 F W fun a w F W => ?_
  refine BS F Aa (fun hb => ?_) fun hb => ?_
  ·
   have H := BB (B4 hb) H
   rw [hb] at F
   refine CT tk 4 [0] F W (ai fun a w F W => ?_)
   refine ls F W Aa (Bz (r := DF) (l := p0.un.2.2.2.2) Km Aa F Aa (Al Er h2 (Ae h_v2))).q fun a w F W => ?_
   refine Bo tk 4 F W fun a w F W => ?_
   refine AQ H (fun s a w => Fr 57 [] [(2, Jint 0), (3, Jint s.1), (30, v2), (31, Jint (p0.un.2.2.2.2.length : Int)), (32, Jint s.2)] a ∧ sy Y w0 (DV b1 p0 v1 v2) [] w) ⟨F.ra Aa, W⟩ fun s o a w H L3 hR => ?_
   obtain ⟨x6, x7⟩ := s
   obtain ⟨F, W⟩ := hR
   have F : Fr 57 [] [(2, Jint 0), (3, Jint x6), (30, v2), (31, Jint (p0.un.2.2.2.2.length : Int)), (32, Jint x7)] a := F
   have W : sy Y w0 (DV b1 p0 v1 v2) [] w := W
   rw [CU] at H
   refine vc tk 6 F W fun a w F W => ?_
   refine A1 F Aa H (fun F H => ?_) fun F H => ?_
   ·
    refine EX tk 6 F W fun a w F W => ?_
    obtain ⟨x8, h8, H⟩ := Af H
    obtain ⟨v6, h9, h10⟩ := CS h2 h8
    have h11 : Ip v6 = [Jint x8.un.1, Jint x8.un.2.1.un.1, Jint x8.un.2.1.un.2.1, Jint x8.un.2.1.un.2.2.1, (v6.2.1.2.2.2.1), Jint x8.un.2.2.1, Jint x8.un.2.2.2.1, (v6.2.2.2.2.1)] := congrArg (fun q : Tr39 => ([Jint q.un.1, Jint q.un.2.1.un.1, Jint q.un.2.1.un.2.1, Jint q.un.2.1.un.2.2.1, (v6.2.1.2.2.2.1), Jint q.un.2.2.1, Jint q.un.2.2.2.1, (v6.2.2.2.2.1)] : List Value)) h10
    refine ls F W Aa (Au (r := LM) Ta F Aa Aa (Ae h_v2) h9).q fun a w F W => ?_
    refine ls F W Aa (Aj (y := Value.agg #[Jint x8.un.1, Jint x8.un.2.1.un.1, Jint x8.un.2.1.un.2.1, Jint x8.un.2.1.un.2.2.1, (v6.2.1.2.2.2.1), Jint x8.un.2.2.1, Jint x8.un.2.2.2.1, (v6.2.2.2.2.1)]) (j := 0) (i := x7) (enc := Ip) F Aa Aa (Ae h_v2) h9 Pt I7 (by rw [h11]; rfl)).q fun a w F W => ?_
    refine Bw (cs := (Gt)) F W Aa Sv Aa fun b3 a w F W => ?_
    refine CE 0 F W Aa Aa Aa I7 Aa Aa (Ac Aa (Ac Aa (Ac Aa (Ac Aa (Ac ((Bf (Ae h_v2) h9 (Ag.snd (Ag.fst (Ag.snd (Ag.snd (Ag.snd Ag.here))))) (congrArg (fun q : Tr39 => q.un.2.1.un.2.2.2) h10)) _ W).one (Ac Aa (Ac Aa (Ac ((Bf (Ae h_v2) h9 (Ag.snd (Ag.snd (Ag.snd (Ag.snd Ag.here)))) (congrArg (fun q : Tr39 => q.un.2.2.2.2) h10)) _ W).one Bn)))))))) fun w W => ?_
    refine Es tk 5 [0] F W (ai fun a w F W => ?_)
    obtain ⟨x9, h12, H⟩ := Af H
    refine ls F W Aa (AA (v := Jint x9) F YT Aa (fun w W => ih any w ((v6.2.1.2.2.2.1)) ((v6.2.2.2.2.1)) (Tr39.of (x8.un.1, Tr36.of (x8.un.2.1.un.1, x8.un.2.1.un.2.1, x8.un.2.1.un.2.2.1, x8.un.2.1.un.2.2.2), x8.un.2.2.1, x8.un.2.2.2.1, x8.un.2.2.2.2)) _ h12 (Cl (Bf (Ae h_v2) h9 (Ag.snd (Ag.fst (Ag.snd (Ag.snd (Ag.snd Ag.here))))) (congrArg (fun q : Tr39 => q.un.2.1.un.2.2.2) h10)) W) (Cl (Bf (Ae h_v2) h9 (Ag.snd (Ag.snd (Ag.snd (Ag.snd Ag.here)))) (congrArg (fun q : Tr39 => q.un.2.2.2.2) h10)) W))) fun a w F W => ?_
    refine ls F W Aa (HR F Aa Aa Aa).q fun a w F W => ?_
    refine ls F W Aa (UK F Aa Aa).q fun a w F W => ?_
    refine vl tk 2 F W fun a w F W => ?_
    refine Az ?_
    refine vn tk 4 F W fun a w F W => ?_
    refine Ab ?_
    have W := W.frontM (i := 1) Aa Aa
    have W := W.sub (M' := (DV b1 p0 v1 v2)) (Z' := []) (sc nl) sr
    exact ⟨_, H, F.ra Aa, W⟩
   refine AN ?_
   iterate 2 refine A6 ?_
   refine AP (Az (Ab ?_))
   have H := L3 _ H
   exact ⟨_, H, F.ra Aa, W⟩
  have H := BC (B1 hb) H
  rw [hb] at F
  refine vc tk 6 F W fun a w F W => ?_
  refine BS F Aa (fun hb => ?_) fun hb => ?_
  ·
   have H := BB (B4 hb) H
   rw [hb] at F
   refine CT tk 4 [0] F W (ai fun a w F W => ?_)
   refine ls F W Aa (Bz (r := DF) (l := p0.un.2.2.2.2) Km Aa F Aa (Al Er h2 (Ae h_v2))).q fun a w F W => ?_
   refine Bo tk 4 F W fun a w F W => ?_
   refine AQ H (fun s a w => Fr 57 [] [(2, Jint 0), (3, Jint s.1), (45, v2), (46, Jint (p0.un.2.2.2.2.length : Int)), (47, Jint s.2)] a ∧ sy Y w0 (DV b1 p0 v1 v2) [] w) ⟨F.ra Aa, W⟩ fun s o a w H L4 hR => ?_
   obtain ⟨x10, x11⟩ := s
   obtain ⟨F, W⟩ := hR
   have F : Fr 57 [] [(2, Jint 0), (3, Jint x10), (45, v2), (46, Jint (p0.un.2.2.2.2.length : Int)), (47, Jint x11)] a := F
   have W : sy Y w0 (DV b1 p0 v1 v2) [] w := W
   rw [CX] at H
   refine vc tk 6 F W fun a w F W => ?_
   refine A1 F Aa H (fun F H => ?_) fun F H => ?_
   ·
    refine EX tk 6 F W fun a w F W => ?_
    obtain ⟨x12, h13, H⟩ := Af H
    obtain ⟨v7, h14, h15⟩ := CS h2 h13
    have h16 : Ip v7 = [Jint x12.un.1, Jint x12.un.2.1.un.1, Jint x12.un.2.1.un.2.1, Jint x12.un.2.1.un.2.2.1, (v7.2.1.2.2.2.1), Jint x12.un.2.2.1, Jint x12.un.2.2.2.1, (v7.2.2.2.2.1)] := congrArg (fun q : Tr39 => ([Jint q.un.1, Jint q.un.2.1.un.1, Jint q.un.2.1.un.2.1, Jint q.un.2.1.un.2.2.1, (v7.2.1.2.2.2.1), Jint q.un.2.2.1, Jint q.un.2.2.2.1, (v7.2.2.2.2.1)] : List Value)) h15
    refine ls F W Aa (Au (r := LM) Ta F Aa Aa (Ae h_v2) h14).q fun a w F W => ?_
    refine ls F W Aa (Aj (y := Value.agg #[Jint x12.un.1, Jint x12.un.2.1.un.1, Jint x12.un.2.1.un.2.1, Jint x12.un.2.1.un.2.2.1, (v7.2.1.2.2.2.1), Jint x12.un.2.2.1, Jint x12.un.2.2.2.1, (v7.2.2.2.2.1)]) (j := 0) (i := x11) (enc := Ip) F Aa Aa (Ae h_v2) h14 Pt I7 (by rw [h16]; rfl)).q fun a w F W => ?_
    refine Bw (cs := (Gt)) F W Aa Sv Aa fun b4 a w F W => ?_
    refine CE 0 F W Aa Aa Aa I7 Aa Aa (Ac Aa (Ac Aa (Ac Aa (Ac Aa (Ac ((Bf (Ae h_v2) h14 (Ag.snd (Ag.fst (Ag.snd (Ag.snd (Ag.snd Ag.here))))) (congrArg (fun q : Tr39 => q.un.2.1.un.2.2.2) h15)) _ W).one (Ac Aa (Ac Aa (Ac ((Bf (Ae h_v2) h14 (Ag.snd (Ag.snd (Ag.snd (Ag.snd Ag.here)))) (congrArg (fun q : Tr39 => q.un.2.2.2.2) h15)) _ W).one Bn)))))))) fun w W => ?_
    refine Es tk 5 [0] F W (ai fun a w F W => ?_)
    obtain ⟨x13, h17, H⟩ := Af H
    refine ls F W Aa (AA (v := Jint x13) F YT Aa (fun w W => ih any w ((v7.2.1.2.2.2.1)) ((v7.2.2.2.2.1)) (Tr39.of (x12.un.1, Tr36.of (x12.un.2.1.un.1, x12.un.2.1.un.2.1, x12.un.2.1.un.2.2.1, x12.un.2.1.un.2.2.2), x12.un.2.2.1, x12.un.2.2.2.1, x12.un.2.2.2.2)) _ h17 (Cl (Bf (Ae h_v2) h14 (Ag.snd (Ag.fst (Ag.snd (Ag.snd (Ag.snd Ag.here))))) (congrArg (fun q : Tr39 => q.un.2.1.un.2.2.2) h15)) W) (Cl (Bf (Ae h_v2) h14 (Ag.snd (Ag.snd (Ag.snd (Ag.snd Ag.here)))) (congrArg (fun q : Tr39 => q.un.2.2.2.2) h15)) W))) fun a w F W => ?_
    refine ls F W Aa (XP F Aa Aa).q fun a w F W => ?_
    refine vl tk 2 F W fun a w F W => ?_
    refine Az ?_
    refine vn tk 4 F W fun a w F W => ?_
    refine Ab ?_
    have W := W.frontM (i := 1) Aa Aa
    have W := W.sub (M' := (DV b1 p0 v1 v2)) (Z' := []) (sc nl) sr
    exact ⟨_, H, F.ra Aa, W⟩
   refine AN ?_
   iterate 2 refine A6 ?_
   refine AP (Az (Ab ?_))
   have H := L4 _ H
   exact ⟨_, H, F.ra Aa, W⟩
  have H := BC (B1 hb) H
  rw [hb] at F
  refine vc tk 3 F W fun a w F W => ?_
  refine Az (Ab ?_)
  exact ⟨_, H, F.ra Aa, W⟩
 rintro a w ⟨x1, hj, F, W⟩
 have hj := Ay hj
 subst hj
 have H := K1
 refine vc tk 6 F W fun a w F W => ?_
 refine Ah ?_
 have H := Ay H
 subst H
 refine Av (.inl Aa) F W Aa (Am F Aa) ?_
 exact ⟨rfl, W.done⟩
theorem OA : ∀ (n : Nat) (Y : Nat → Prop) (w0 : World) (v1 : Value) (v2 : Value) (p0 : Tr39) (r : Int) (H : B9 n p0 = some r) (h_v1 : Sl w0 (NX []) Bm v1 p0.un.2.1.un.2.2.2) (h_v2 : Sl w0 (NX []) DF v2 p0.un.2.2.2.2), ca_ 65 #[.agg #[Jint p0.un.1, Jint p0.un.2.1.un.1, Jint p0.un.2.1.un.2.1, Jint p0.un.2.1.un.2.2.1, v1, Jint p0.un.2.2.1, Jint p0.un.2.2.2.1, v2]] w0 fun e w' => e = .returned (Jint r) ∧ Below w0.heap.size w0 w' := by
  intro n
  induction n with
  | zero => intro Y w0 v1 v2 p0 r H; exact nomatch H
  | succ n ih => intro Y w0 v1 v2 p0 r H h_v1 h_v2; exact M5 (B9 n) ih Y w0 v1 v2 p0 r H h_v1 h_v2
theorem Pz (Y : Nat → Prop) (w0 : World) (v1 : Value) (v2 : Value) (p0 : Tr39) (r : Int) (H : JC p0 = some r) (h_v1 : Sl w0 (NX []) Bm v1 p0.un.2.1.un.2.2.2) (h_v2 : Sl w0 (NX []) DF v2 p0.un.2.2.2.2) :
    ca_ 65 #[.agg #[Jint p0.un.1, Jint p0.un.2.1.un.1, Jint p0.un.2.1.un.2.1, Jint p0.un.2.1.un.2.2.1, v1, Jint p0.un.2.2.1, Jint p0.un.2.2.2.1, v2]] w0 fun e w' => e = .returned (Jint r) ∧ Below w0.heap.size w0 w' := by
  obtain ⟨n, H⟩ := BP H
  exact OA n Y w0 v1 v2 p0 r H h_v1 h_v2
def GG (p0 : Tr39) : Option Bool := ((EG 64 (Tr39.of (p0.un.1, Tr36.of (p0.un.2.1.un.1, p0.un.2.1.un.2.1, p0.un.2.1.un.2.2.1, p0.un.2.1.un.2.2.2), p0.un.2.2.1, p0.un.2.2.2.1, p0.un.2.2.2.2)) 8).bind fun x3 => (if x3.1 = true then (JC (Tr39.of (p0.un.1, Tr36.of (p0.un.2.1.un.1, p0.un.2.1.un.2.1, p0.un.2.1.un.2.2.1, p0.un.2.1.un.2.2.2), p0.un.2.2.1, p0.un.2.2.2.1, p0.un.2.2.2.2))).bind fun x4 => some (decide (x4 ≤ 64), x3.2) else some (false, x3.2))).bind fun (x1, x2) => some x1
theorem Ou (Y : Nat → Prop) (w0 : World) (v1 : Value) (v2 : Value) (p0 : Tr39) (r : Bool) (H : GG p0 = some r) (h_v1 : Sl w0 (NX []) Bm v1 p0.un.2.1.un.2.2.2) (h_v2 : Sl w0 (NX []) DF v2 p0.un.2.2.2.2) :
    ca_ 31 #[.agg #[Jint p0.un.1, Jint p0.un.2.1.un.1, Jint p0.un.2.1.un.2.1, Jint p0.un.2.1.un.2.2.1, v1, Jint p0.un.2.2.1, Jint p0.un.2.2.2.1, v2]] w0 fun e w' => e = .returned (.bool r) ∧ Below w0.heap.size w0 w' := by
 refine enter Tryz.func31 Aa Tryz.ntmps31 Aa fun a F => ?_
 have W := Stw.start Y w0
 obtain ⟨v3, h1, h_v1⟩ := h_v1.ex BK
 obtain ⟨v4, h2, h_v2⟩ := h_v2.ex Er
 unfold GG at H
 refine vc tk 2 F W fun a w F W => ?_
 refine BQ (cs := (C7 p0 v1 v2)) F W Aa Aa Aa fun b1 a w F W => ?_
 refine Bo tk 5 F W fun a w F W => ?_
 refine ls F W Aa (Cf (v := Value.agg #[Jint 64]) ZW F Aa Aa Aa).q fun a w F W => ?_
 refine Bw (cs := [Jint 0]) F W Aa Zp Aa fun b2 a w F W => ?_
 refine CE 0 F W Aa Aa Aa Zk Aa Aa Aa fun w W => ?_
 refine F6 (Ab ?_)
 obtain ⟨o1, G1, K1⟩ := Af H
 refine Ap (fun a w => ∃ x1 : Bool, ∃ x2 : Int, some ((x1, x2)) = some o1 ∧ Fr 12 [] [(2, .bool x1)] a ∧ sy Y w0 [(b2, [Jint x2]), (b1, [Jint p0.un.1, Jint p0.un.2.1.un.1, Jint p0.un.2.1.un.2.1, Jint p0.un.2.1.un.2.2.1, v1, Jint p0.un.2.2.1, Jint p0.un.2.2.2.1, v2])] [] w) ?_ ?_
 ·
  have H := G1
  refine CT tk 2 [1] F W (ai fun a w F W => ?_)
  obtain ⟨x3, h3, H⟩ := Af H
  refine AO (Ml := [(b2, [Jint 64])]) (Zl := []) (β := Unit) (rv := fun x => .bool x3.1) (MM := fun x => [(b2, [Jint x3.2])]) (ZZ := fun x => []) F W aH Aa Aa (fun hL => I5 _ _ w b2 (v1) (v2) 64 (Tr39.of (p0.un.1, Tr36.of (p0.un.2.1.un.1, p0.un.2.1.un.2.1, p0.un.2.1.un.2.2.1, p0.un.2.1.un.2.2.2), p0.un.2.2.1, p0.un.2.2.2.1, p0.un.2.2.2.2)) 8 _ h3 (Sl.hide BK h1 (W.roX h_v1 (fun g hg => FF hg))) (Sl.hide Er h2 (W.roX h_v2 (fun g hg => FF hg))) hL) fun x a w F W => ?_
  have W : sy Y w0 [(b2, [Jint x3.2]), (b1, [Jint p0.un.1, Jint p0.un.2.1.un.1, Jint p0.un.2.1.un.2.1, Jint p0.un.2.1.un.2.2.1, v1, Jint p0.un.2.2.1, Jint p0.un.2.2.2.1, v2])] [] w := W
  refine ls F W Aa (Ao F Aa).q fun a w F W => ?_
  rcases bxq x3.1 with hb | hb
  ·
   have H := BB hb H
   rw [hb] at F
   refine Dy F W (Ad F Aa Aa Aa Aa) Aa (As Aa) (Bk (v := Value.agg #[Jint p0.un.1, Jint p0.un.2.1.un.1, Jint p0.un.2.1.un.2.1, Jint p0.un.2.1.un.2.2.1, v1, Jint p0.un.2.2.1, Jint p0.un.2.2.2.1, v2]) 1 F Aa Aa I7 Aa).q fun a w F W => ?_
   refine FU (Ad F Aa Aa Aa Aa) ?_
   obtain ⟨x4, h4, H⟩ := Af H
   refine ls F W Aa (AA (v := Jint x4) F YT Aa (fun w W => Pz any w (v1) (v2) (Tr39.of (p0.un.1, Tr36.of (p0.un.2.1.un.1, p0.un.2.1.un.2.1, p0.un.2.1.un.2.2.1, p0.un.2.1.un.2.2.2), p0.un.2.2.1, p0.un.2.2.2.1, p0.un.2.2.2.2)) _ h4 (Cl (Al BK h1 (Ae h_v1)) W) (Cl (Al Er h2 (Ae h_v2)) W))) fun a w F W => ?_
   refine vl tk 4 F W fun a w F W => ?_
   refine Ab ?_
   have W := W.frontM (i := 1) Aa Aa
   have W := W.frontM (i := 1) Aa Aa
   exact ⟨_, _, H, F.ra Aa, W⟩
  have H := BC (by rw [hb]; decide) H
  rw [hb] at F
  refine vl tk 6 F W fun a w F W => ?_
  refine Ab ?_
  have W := W.frontM (i := 1) Aa Aa
  have W := W.frontM (i := 1) Aa Aa
  exact ⟨_, _, H, F.ra Aa, W⟩
 rintro a w ⟨x1, x2, hj, F, W⟩
 have hj := Ay hj
 subst hj
 have H := K1
 refine Ah ?_
 have H := Ay H
 subst H
 refine Av (.inl Aa) F W Aa (Am F Aa) ?_
 exact ⟨rfl, W.done⟩
theorem b8 : Has Tryz.prog 31 := BM Tryz.func31
def De (p0 : Int × Int × Int × Int × Int × Int) (p1 : Int) : Bool := (decide (p0.2.1 = p1) || decide (p0.2.2.2.1 = p1))
theorem Ni (Y : Nat → Prop) (w0 : World) (q_p1 : Nat) (p0 : Int × Int × Int × Int × Int × Int) (p1 : Int) (r : Bool) (H : De p0 p1 = r) (a_q_p1 : At ⟨Y, [], w0⟩ q_p1 0 [Jint p1]) :
    ca_ 40 #[.agg #[Jint p0.1, Jint p0.2.1, Jint p0.2.2.1, Jint p0.2.2.2.1, Jint p0.2.2.2.2.1, Jint p0.2.2.2.2.2], pp q_p1] w0 fun e w' => e = .returned (.bool r) ∧ Below w0.heap.size w0 w' := by
 refine enter Tryz.func40 Aa Tryz.ntmps40 Aa fun a F => ?_
 have W := Stw.start Y w0
 unfold De at H
 refine vc tk 2 F W fun a w F W => ?_
 refine BQ (cs := (Ww p0)) F W Aa Aa Aa fun b1 a w F W => ?_
 refine Bo tk 3 F W fun a w F W => ?_
 refine Ap (fun a w => Fr 14 [] [(3, .bool (decide (p0.2.1 = p1) || decide (p0.2.2.2.1 = p1)))] a ∧ sy Y w0 (Wt b1 p0) [] w) ?_ ?_
 ·
  refine CT tk 3 [0] F W (ai fun a w F W => ?_)
  refine ls F W Aa (G0 (y := Jint p1) (j := 0) F Aa (Nat.zero_add _).symm a_q_p1 T3 Aa).q fun a w F W => ?_
  refine vl tk 2 F W fun a w F W => ?_
  rcases bxq (decide (p0.2.1 = p1)) with hb0 | hb0
  ·
   rw [hb0] at F
   refine vl tk 7 F W fun a w F W => ?_
   refine Ab ?_
   exact ⟨F.re ⟨(CL (by try rw [hb0]; all_goals simp only [CM])), trivial⟩, W⟩
  rw [hb0] at F
  refine DU tk 2 [0] F W (ai fun a w F W => ?_)
  refine Dy F W (Ad F Aa Aa Aa Aa) Aa (As Aa) (G0 (y := Jint p1) (j := 0) F Aa (Nat.zero_add _).symm a_q_p1 T3 Aa).q fun a w F W => ?_
  refine vl tk 4 F W fun a w F W => ?_
  refine Ab ?_
  exact ⟨F.re ⟨(CL (by try rw [hb0]; all_goals simp only [CM])), trivial⟩, W⟩
 rintro a w ⟨F, W⟩
 refine Ah ?_
 subst H
 refine Av (.inl Aa) F W Aa (Am F Aa) ?_
 exact ⟨rfl, W.done⟩
theorem bO : Has Tryz.prog 40 := BM Tryz.func40
def BJ (p0 : List (Int × Int × Int × Int × Int × Int)) (p1c0 : Int) : Int → Option (Int ⊕ (Unit ⊕ Int))
  | x1 => (if x1 < (p0.length : Int) then (ix p0 x1).bind fun x2 => (if (De x2 p1c0) = true then some (.inr (.inr x1)) else some (.inl (AJ (x1 + 1)))) else some (.inr (.inl ())))
def Cr (p0 : List (Int × Int × Int × Int × Int × Int)) (p1c0 : Int) : Option Int := HA (AB (BJ p0 p1c0) 0) fun _ => some (-1)
theorem FV (Y : Nat → Prop) (w0 : World) (v1 : Value) (q_p1c0 : Nat) (p0 : List (Int × Int × Int × Int × Int × Int)) (p1c0 : Int) (r : Int) (H : Cr p0 p1c0 = some r) (h_v1 : Sl w0 (NX []) IP v1 p0) (a_q_p1c0 : At ⟨Y, [], w0⟩ q_p1c0 0 [Jint p1c0]) :
    ca_ 80 #[v1, .func (.func 40) #[] #[pp q_p1c0]] w0 fun e w' => e = .returned (Jint r) ∧ Below w0.heap.size w0 w' := by
 refine enter Tryz.func80 Aa Tryz.ntmps80 Aa fun a F => ?_
 have W := Stw.start Y w0
 unfold Cr at H
 refine vc tk 5 F W fun a w F W => ?_
 obtain ⟨o1, G1, K1, L1⟩ := Lh H
 refine Ap (fun a w => some (Sum.inl ()) = some o1 ∧ Fr 19 [] [(4, Jint 0)] a ∧ sy Y w0 [] [] w) ?_ ?_
 ·
  have H := G1
  refine vc tk 3 F W fun a w F W => ?_
  refine ls F W Aa (Bz (r := IP) (l := p0) Py Aa F Aa (Ae h_v1)).q fun a w F W => ?_
  refine Bo tk 4 F W fun a w F W => ?_
  refine AQ H (fun s a w => Fr 19 [] [(0, v1), (1, .func (.func 40) #[] #[pp q_p1c0]), (4, Jint 0), (7, Jint (p0.length : Int)), (8, Jint s)] a ∧ sy Y w0 [] [] w) ⟨F.ra Aa, W⟩ fun s o a w H L2 hR => ?_
  obtain ⟨x1, rfl⟩ : ∃ x, x = s := ⟨s, rfl⟩
  obtain ⟨F, W⟩ := hR
  have F : Fr 19 [] [(0, v1), (1, .func (.func 40) #[] #[pp q_p1c0]), (4, Jint 0), (7, Jint (p0.length : Int)), (8, Jint x1)] a := F
  have W : sy Y w0 [] [] w := W
  rw [BJ] at H
  refine vc tk 6 F W fun a w F W => ?_
  refine A1 F Aa H (fun F H => ?_) fun F H => ?_
  ·
   refine EX tk 15 F W fun a w F W => ?_
   obtain ⟨x2, h1, H⟩ := Af H
   refine ls F W Aa (Au (r := IP) Xa F Aa Aa (Ae h_v1) h1).q fun a w F W => ?_
   refine ls F W Aa (Aj (y := Value.agg #[Jint x2.1, Jint x2.2.1, Jint x2.2.2.1, Jint x2.2.2.2.1, Jint x2.2.2.2.2.1, Jint x2.2.2.2.2.2]) (j := 0) (i := x1) F Aa Aa (Ae h_v1) h1 Xd.to Wp Aa).q fun a w F W => ?_
   refine ls F W Aa (Ib (ws := [.agg #[Jint x2.1, Jint x2.2.1, Jint x2.2.2.1, Jint x2.2.2.2.1, Jint x2.2.2.2.2.1, Jint x2.2.2.2.2.2], pp q_p1c0]) (v := Value.bool (De x2 p1c0)) F bO Aa (fun w W => Ni any w q_p1c0 x2 p1c0 _ Aa (At.re a_q_p1c0 W))) fun a w F W => ?_
   refine Bo tk 2 F W fun a w F W => ?_
   refine Bi F Aa H (fun F H => ?_) fun F H => ?_
   ·
    refine vc tk 6 F W fun a w F W => ?_
    refine Ah (AC ?_)
    iterate 2 refine Aw ?_
    refine AC (Aw ?_)
    have H := L2 _ H
    have H := L1 _ H
    have H := Ay H
    subst H
    refine Av (.inl Aa) F W Aa (Am F Aa) ?_
    exact ⟨rfl, W.done⟩
   refine AD (Az ?_)
   refine vn tk 4 F W fun a w F W => ?_
   refine Ab ?_
   exact ⟨_, H, F.ra Aa, W⟩
  refine AN ?_
  iterate 2 refine A6 ?_
  refine AP (Ab ?_)
  have H := L2 _ H
  exact ⟨H, F.ra Aa, W⟩
 rintro a w ⟨hj, F, W⟩
 have H := K1 _ hj
 refine vc tk 5 F W fun a w F W => ?_
 refine Ah ?_
 have H := Ay H
 subst H
 refine Av (.inl Aa) F W Aa (Am F Aa) ?_
 exact ⟨rfl, W.done⟩
def Ca (p0 : List (Int × Int × Int × Int × Int × Int)) (p1c0 : Int) : Option Bool := (Cr p0 p1c0).bind fun x1 => some (decide (0 ≤ x1))
theorem Fx (Y : Nat → Prop) (w0 : World) (v1 : Value) (q_p1c0 : Nat) (p0 : List (Int × Int × Int × Int × Int × Int)) (p1c0 : Int) (r : Bool) (H : Ca p0 p1c0 = some r) (h_v1 : Sl w0 (NX []) IP v1 p0) (a_q_p1c0 : At ⟨Y, [], w0⟩ q_p1c0 0 [Jint p1c0]) :
    ca_ 39 #[v1, .func (.func 40) #[] #[pp q_p1c0]] w0 fun e w' => e = .returned (.bool r) ∧ Below w0.heap.size w0 w' := by
 refine enter Tryz.func39 Aa Tryz.ntmps39 Aa fun a F => ?_
 have W := Stw.start Y w0
 unfold Ca at H
 refine vc tk 9 F W fun a w F W => ?_
 obtain ⟨x1, h1, H⟩ := Af H
 refine ls F W Aa (AA (v := Jint x1) F aE Aa (fun w W => FV any w (v1) q_p1c0 p0 p1c0 _ h1 (Cl (Ae h_v1) W) (At.re a_q_p1c0 W))) fun a w F W => ?_
 refine Bo tk 4 F W fun a w F W => ?_
 refine Ah ?_
 have H := Ay H
 subst H
 refine Av (.inl Aa) F W Aa (Am F Aa) ?_
 exact ⟨rfl, W.done⟩
def Dn (p0 : Int × Int) (p1 : Int) : Bool := decide (p0.2 = p1)
theorem Nl (Y : Nat → Prop) (w0 : World) (q_p1 : Nat) (p0 : Int × Int) (p1 : Int) (r : Bool) (H : Dn p0 p1 = r) (a_q_p1 : At ⟨Y, [], w0⟩ q_p1 0 [Jint p1]) :
    ca_ 42 #[.agg #[Jint p0.1, Jint p0.2], pp q_p1] w0 fun e w' => e = .returned (.bool r) ∧ Below w0.heap.size w0 w' := by
 refine enter Tryz.func42 Aa Tryz.ntmps42 Aa fun a F => ?_
 have W := Stw.start Y w0
 unfold Dn at H
 refine vc tk 2 F W fun a w F W => ?_
 refine BQ (cs := [Jint p0.1, Jint p0.2]) F W Aa Aa Aa fun b1 a w F W => ?_
 refine Es tk 7 [0] F W (ai fun a w F W => ?_)
 refine ls F W Aa (G0 (y := Jint p1) (j := 0) F Aa (Nat.zero_add _).symm a_q_p1 T3 Aa).q fun a w F W => ?_
 refine Bo tk 4 F W fun a w F W => ?_
 refine Ah ?_
 subst H
 refine Av (.inl Aa) F W Aa (Am F Aa) ?_
 exact ⟨rfl, W.done⟩
theorem bS : Has Tryz.prog 42 := BM Tryz.func42
def BN (p0 : List (Int × Int)) (p1c0 : Int) : Int → Option (Int ⊕ (Unit ⊕ Int))
  | x1 => (if x1 < (p0.length : Int) then (ix p0 x1).bind fun x2 => (if (Dn x2 p1c0) = true then some (.inr (.inr x1)) else some (.inl (AJ (x1 + 1)))) else some (.inr (.inl ())))
def CG (p0 : List (Int × Int)) (p1c0 : Int) : Option Int := HA (AB (BN p0 p1c0) 0) fun _ => some (-1)
theorem F4 (Y : Nat → Prop) (w0 : World) (v1 : Value) (q_p1c0 : Nat) (p0 : List (Int × Int)) (p1c0 : Int) (r : Int) (H : CG p0 p1c0 = some r) (h_v1 : Sl w0 (NX []) Jj v1 p0) (a_q_p1c0 : At ⟨Y, [], w0⟩ q_p1c0 0 [Jint p1c0]) :
    ca_ 81 #[v1, .func (.func 42) #[] #[pp q_p1c0]] w0 fun e w' => e = .returned (Jint r) ∧ Below w0.heap.size w0 w' := by
 refine enter Tryz.func81 Aa Tryz.ntmps81 Aa fun a F => ?_
 have W := Stw.start Y w0
 unfold CG at H
 refine vc tk 5 F W fun a w F W => ?_
 obtain ⟨o1, G1, K1, L1⟩ := Lh H
 refine Ap (fun a w => some (Sum.inl ()) = some o1 ∧ Fr 19 [] [(4, Jint 0)] a ∧ sy Y w0 [] [] w) ?_ ?_
 ·
  have H := G1
  refine vc tk 3 F W fun a w F W => ?_
  refine ls F W Aa (Bz (r := Jj) (l := p0) QV Aa F Aa (Ae h_v1)).q fun a w F W => ?_
  refine Bo tk 4 F W fun a w F W => ?_
  refine AQ H (fun s a w => Fr 19 [] [(0, v1), (1, .func (.func 42) #[] #[pp q_p1c0]), (4, Jint 0), (7, Jint (p0.length : Int)), (8, Jint s)] a ∧ sy Y w0 [] [] w) ⟨F.ra Aa, W⟩ fun s o a w H L2 hR => ?_
  obtain ⟨x1, rfl⟩ : ∃ x, x = s := ⟨s, rfl⟩
  obtain ⟨F, W⟩ := hR
  have F : Fr 19 [] [(0, v1), (1, .func (.func 42) #[] #[pp q_p1c0]), (4, Jint 0), (7, Jint (p0.length : Int)), (8, Jint x1)] a := F
  have W : sy Y w0 [] [] w := W
  rw [BN] at H
  refine vc tk 6 F W fun a w F W => ?_
  refine A1 F Aa H (fun F H => ?_) fun F H => ?_
  ·
   refine EX tk 15 F W fun a w F W => ?_
   obtain ⟨x2, h1, H⟩ := Af H
   refine ls F W Aa (Au (r := Jj) Xe F Aa Aa (Ae h_v1) h1).q fun a w F W => ?_
   refine ls F W Aa (Aj (y := Value.agg #[Jint x2.1, Jint x2.2]) (j := 0) (i := x1) F Aa Aa (Ae h_v1) h1 W1.to ZE Aa).q fun a w F W => ?_
   refine ls F W Aa (Ib (ws := [.agg #[Jint x2.1, Jint x2.2], pp q_p1c0]) (v := Value.bool (Dn x2 p1c0)) F bS Aa (fun w W => Nl any w q_p1c0 x2 p1c0 _ Aa (At.re a_q_p1c0 W))) fun a w F W => ?_
   refine Bo tk 2 F W fun a w F W => ?_
   refine Bi F Aa H (fun F H => ?_) fun F H => ?_
   ·
    refine vc tk 6 F W fun a w F W => ?_
    refine Ah (AC ?_)
    iterate 2 refine Aw ?_
    refine AC (Aw ?_)
    have H := L2 _ H
    have H := L1 _ H
    have H := Ay H
    subst H
    refine Av (.inl Aa) F W Aa (Am F Aa) ?_
    exact ⟨rfl, W.done⟩
   refine AD (Az ?_)
   refine vn tk 4 F W fun a w F W => ?_
   refine Ab ?_
   exact ⟨_, H, F.ra Aa, W⟩
  refine AN ?_
  iterate 2 refine A6 ?_
  refine AP (Ab ?_)
  have H := L2 _ H
  exact ⟨H, F.ra Aa, W⟩
 rintro a w ⟨hj, F, W⟩
 have H := K1 _ hj
 refine vc tk 5 F W fun a w F W => ?_
 refine Ah ?_
 have H := Ay H
 subst H
 refine Av (.inl Aa) F W Aa (Am F Aa) ?_
 exact ⟨rfl, W.done⟩
theorem bP : Has Tryz.prog 81 := BM Tryz.func81
def Cn (p0 : List (Int × Int)) (p1c0 : Int) : Option Bool := (CG p0 p1c0).bind fun x1 => some (decide (0 ≤ x1))
theorem FJ (Y : Nat → Prop) (w0 : World) (v1 : Value) (q_p1c0 : Nat) (p0 : List (Int × Int)) (p1c0 : Int) (r : Bool) (H : Cn p0 p1c0 = some r) (h_v1 : Sl w0 (NX []) Jj v1 p0) (a_q_p1c0 : At ⟨Y, [], w0⟩ q_p1c0 0 [Jint p1c0]) :
    ca_ 41 #[v1, .func (.func 42) #[] #[pp q_p1c0]] w0 fun e w' => e = .returned (.bool r) ∧ Below w0.heap.size w0 w' := by
 refine enter Tryz.func41 Aa Tryz.ntmps41 Aa fun a F => ?_
 have W := Stw.start Y w0
 unfold Cn at H
 refine vc tk 9 F W fun a w F W => ?_
 obtain ⟨x1, h1, H⟩ := Af H
 refine ls F W Aa (AA (v := Jint x1) F bP Aa (fun w W => F4 any w (v1) q_p1c0 p0 p1c0 _ h1 (Cl (Ae h_v1) W) (At.re a_q_p1c0 W))) fun a w F W => ?_
 refine Bo tk 4 F W fun a w F W => ?_
 refine Ah ?_
 have H := Ay H
 subst H
 refine Av (.inl Aa) F W Aa (Am F Aa) ?_
 exact ⟨rfl, W.done⟩
theorem bY : Has Tryz.prog 41 := BM Tryz.func41
def Gm (p0 : Int × (List (Int × Int × Int × Int × Int × Int)) × (List (Int × Int))) (p1 : Int) : Option Bool := ((Ca p0.2.1 p1).bind fun x2 => (if x2 = true then some true else (Cn p0.2.2 p1).bind fun x3 => some x3)).bind fun x1 => some x1
theorem KH (Y : Nat → Prop) (w0 : World) (v1 : Value) (v2 : Value) (p0 : Int × (List (Int × Int × Int × Int × Int × Int)) × (List (Int × Int))) (p1 : Int) (r : Bool) (H : Gm p0 p1 = some r) (h_v1 : Sl w0 (NX []) IP v1 p0.2.1) (h_v2 : Sl w0 (NX []) Jj v2 p0.2.2) :
    ca_ 11 #[.agg #[Jint p0.1, v1, v2], Jint p1] w0 fun e w' => e = .returned (.bool r) ∧ Below w0.heap.size w0 w' := by
 refine enter Tryz.func11 Aa Tryz.ntmps11 Aa fun a F => ?_
 have W := Stw.start Y w0
 unfold Gm at H
 refine vc tk 2 F W fun a w F W => ?_
 refine BQ (cs := [Jint p0.1, v1, v2]) F W Aa Aa Aa fun b1 a w F W => ?_
 refine BQ (cs := [Jint p1]) F W Aa Aa Aa fun b2 a w F W => ?_
 refine vl tk 2 F W fun a w F W => ?_
 refine Ab ?_
 obtain ⟨o1, G1, K1⟩ := Af H
 refine Ap (fun a w => ∃ x1 : Bool, some (x1) = some o1 ∧ Fr 15 [] [(4, .bool x1)] a ∧ sy Y w0 [(b2, [Jint p1]), (b1, [Jint p0.1, v1, v2])] [] w) ?_ ?_
 ·
  have H := G1
  refine CT tk 3 [1] F W (ai fun a w F W => ?_)
  refine ls F W Aa (GV (us := []) (vs := [pp b2]) F Aa Aa).q fun a w F W => ?_
  obtain ⟨x2, h1, H⟩ := Af H
  refine ls F W Aa (AA (v := Value.bool x2) F aZ Aa (fun w W => Fx any w (v1) b2 p0.2.1 p1 _ h1 (Cl (Ae h_v1) W) (TT W 0 Aa))) fun a w F W => ?_
  refine ls F W Aa (Ao F Aa).q fun a w F W => ?_
  rcases bxq x2 with hb | hb
  ·
   have H := BB hb H
   rw [hb] at F
   refine vl tk 7 F W fun a w F W => ?_
   refine Ab ?_
   have W := W.frontM (i := 1) Aa Aa
   have W := W.frontM (i := 1) Aa Aa
   exact ⟨_, H, F.ra Aa, W⟩
  have H := BC (by rw [hb]; decide) H
  rw [hb] at F
  refine DU tk 2 [1] F W (ai fun a w F W => ?_)
  refine Dy F W (Ad F Aa Aa Aa Aa) Aa (As Aa) (GV (us := []) (vs := [pp b2]) F Aa Aa).q fun a w F W => ?_
  refine FU (Ad F Aa Aa Aa Aa) ?_
  obtain ⟨x3, h2, H⟩ := Af H
  refine ls F W Aa (AA (v := Value.bool x3) F bY Aa (fun w W => FJ any w (v2) b2 p0.2.2 p1 _ h2 (Cl (Ae h_v2) W) (TT W 0 Aa))) fun a w F W => ?_
  refine vl tk 3 F W fun a w F W => ?_
  refine Ab ?_
  have W := W.frontM (i := 1) Aa Aa
  have W := W.frontM (i := 1) Aa Aa
  exact ⟨_, H, F.ra Aa, W⟩
 rintro a w ⟨x1, hj, F, W⟩
 have hj := Ay hj
 subst hj
 have H := K1
 refine Ah ?_
 have H := Ay H
 subst H
 refine Av (.inl Aa) F W Aa (Am F Aa) ?_
 exact ⟨rfl, W.done⟩
theorem Z8 : Has Tryz.prog 11 := BM Tryz.func11
def FH (p0 : Int) (p1 : Int × (List (Int × Int × Int × Int × Int × Int)) × (List (Int × Int))) : Option Bool := (Gm p1 p0).bind fun x1 => some (!x1)
theorem Kk (Y : Nat → Prop) (w0 : World) (q_p1 : Nat) (v1 : Value) (v2 : Value) (p0 : Int) (p1 : Int × (List (Int × Int × Int × Int × Int × Int)) × (List (Int × Int))) (r : Bool) (H : FH p0 p1 = some r) (h_v1 : Sl w0 (NX []) IP v1 p1.2.1) (h_v2 : Sl w0 (NX []) Jj v2 p1.2.2) (a_q_p1 : At ⟨Y, [], w0⟩ q_p1 0 [Jint p1.1, v1, v2]) :
    ca_ 76 #[Jint p0, pp q_p1] w0 fun e w' => e = .returned (.bool r) ∧ Below w0.heap.size w0 w' := by
 refine enter Tryz.func76 Aa Tryz.ntmps76 Aa fun a F => ?_
 have W := Stw.start Y w0
 unfold FH at H
 refine vc tk 7 F W fun a w F W => ?_
 refine ls F W Aa (G0 (y := Value.agg #[Jint p1.1, v1, v2]) (j := 0) F Aa (Nat.zero_add _).symm a_q_p1 XA Aa).q fun a w F W => ?_
 refine ls F W Aa (Ao F Aa).q fun a w F W => ?_
 obtain ⟨x1, h1, H⟩ := Af H
 refine ls F W Aa (AA (v := Value.bool x1) F Z8 Aa (fun w W => KH any w (v1) (v2) p1 p0 _ h1 (Cl (Ae h_v1) W) (Cl (Ae h_v2) W))) fun a w F W => ?_
 refine Bo tk 4 F W fun a w F W => ?_
 refine Ah ?_
 have H := Ay H
 subst H
 refine Av (.inl Aa) F W Aa (Am F Aa) ?_
 exact ⟨rfl, W.done⟩
theorem cF : Has Tryz.prog 76 := BM Tryz.func76
def CO (p0 : List Int) (p1c0 : Int × (List (Int × Int × Int × Int × Int × Int)) × (List (Int × Int))) : Int → Option (Int ⊕ (Unit ⊕ Int))
  | x1 => (if x1 < (p0.length : Int) then (ix p0 x1).bind fun x2 => (FH x2 p1c0).bind fun x3 => (if x3 = true then some (.inr (.inr x1)) else some (.inl (AJ (x1 + 1)))) else some (.inr (.inl ())))
def DE (p0 : List Int) (p1c0 : Int × (List (Int × Int × Int × Int × Int × Int)) × (List (Int × Int))) : Option Int := HA (AB (CO p0 p1c0) 0) fun _ => some (-1)
theorem HO (Y : Nat → Prop) (w0 : World) (v1 : Value) (q_p1c0 : Nat) (v2 : Value) (v3 : Value) (p0 : List Int) (p1c0 : Int × (List (Int × Int × Int × Int × Int × Int)) × (List (Int × Int))) (r : Int) (H : DE p0 p1c0 = some r) (h_v1 : Sl w0 (NX []) ri v1 p0) (h_v2 : Sl w0 (NX []) IP v2 p1c0.2.1) (h_v3 : Sl w0 (NX []) Jj v3 p1c0.2.2) (a_q_p1c0 : At ⟨Y, [], w0⟩ q_p1c0 0 [Jint p1c0.1, v2, v3]) :
    ca_ 108 #[v1, .func (.func 76) #[] #[pp q_p1c0]] w0 fun e w' => e = .returned (Jint r) ∧ Below w0.heap.size w0 w' := by
 refine enter Tryz.func108 Aa Tryz.ntmps108 Aa fun a F => ?_
 have W := Stw.start Y w0
 unfold DE at H
 refine vc tk 5 F W fun a w F W => ?_
 obtain ⟨o1, G1, K1, L1⟩ := Lh H
 refine Ap (fun a w => some (Sum.inl ()) = some o1 ∧ Fr 19 [] [(4, Jint 0)] a ∧ sy Y w0 [] [] w) ?_ ?_
 ·
  have H := G1
  refine vc tk 3 F W fun a w F W => ?_
  refine ls F W Aa (Bz (r := ri) (l := p0) RN Aa F Aa (Ae h_v1)).q fun a w F W => ?_
  refine Bo tk 4 F W fun a w F W => ?_
  refine AQ H (fun s a w => Fr 19 [] [(0, v1), (1, .func (.func 76) #[] #[pp q_p1c0]), (4, Jint 0), (7, Jint (p0.length : Int)), (8, Jint s)] a ∧ sy Y w0 [] [] w) ⟨F.ra Aa, W⟩ fun s o a w H L2 hR => ?_
  obtain ⟨x1, rfl⟩ : ∃ x, x = s := ⟨s, rfl⟩
  obtain ⟨F, W⟩ := hR
  have F : Fr 19 [] [(0, v1), (1, .func (.func 76) #[] #[pp q_p1c0]), (4, Jint 0), (7, Jint (p0.length : Int)), (8, Jint x1)] a := F
  have W : sy Y w0 [] [] w := W
  rw [CO] at H
  refine vc tk 6 F W fun a w F W => ?_
  refine A1 F Aa H (fun F H => ?_) fun F H => ?_
  ·
   refine EX tk 15 F W fun a w F W => ?_
   obtain ⟨x2, h1, H⟩ := Af H
   refine ls F W Aa (Au (r := ri) DT F Aa Aa (Ae h_v1) h1).q fun a w F W => ?_
   refine ls F W Aa (Aj (y := Jint x2) (j := 0) (i := x1) F Aa Aa (Ae h_v1) h1 Fl.int.to T3 Aa).q fun a w F W => ?_
   obtain ⟨x3, h2, H⟩ := Af H
   refine ls F W Aa (Ib (ws := [Jint x2, pp q_p1c0]) (v := Value.bool x3) F cF Aa (fun w W => Kk any w q_p1c0 (v2) (v3) x2 p1c0 _ h2 (Cl (Ae h_v2) W) (Cl (Ae h_v3) W) (At.re a_q_p1c0 W))) fun a w F W => ?_
   refine Bo tk 2 F W fun a w F W => ?_
   refine Bi F Aa H (fun F H => ?_) fun F H => ?_
   ·
    refine vc tk 6 F W fun a w F W => ?_
    refine Ah (AC ?_)
    iterate 2 refine Aw ?_
    refine AC (Aw ?_)
    have H := L2 _ H
    have H := L1 _ H
    have H := Ay H
    subst H
    refine Av (.inl Aa) F W Aa (Am F Aa) ?_
    exact ⟨rfl, W.done⟩
   refine AD (Az ?_)
   refine vn tk 4 F W fun a w F W => ?_
   refine Ab ?_
   exact ⟨_, H, F.ra Aa, W⟩
  refine AN ?_
  iterate 2 refine A6 ?_
  refine AP (Ab ?_)
  have H := L2 _ H
  exact ⟨H, F.ra Aa, W⟩
 rintro a w ⟨hj, F, W⟩
 have H := K1 _ hj
 refine vc tk 5 F W fun a w F W => ?_
 refine Ah ?_
 have H := Ay H
 subst H
 refine Av (.inl Aa) F W Aa (Am F Aa) ?_
 exact ⟨rfl, W.done⟩
theorem XL : Has Tryz.prog 108 := BM Tryz.func108
def Dl (p0 : List Int) (p1c0 : Int × (List (Int × Int × Int × Int × Int × Int)) × (List (Int × Int))) : Option Bool := (DE p0 p1c0).bind fun x1 => some (decide (0 ≤ x1))
theorem Hm (Y : Nat → Prop) (w0 : World) (v1 : Value) (q_p1c0 : Nat) (v2 : Value) (v3 : Value) (p0 : List Int) (p1c0 : Int × (List (Int × Int × Int × Int × Int × Int)) × (List (Int × Int))) (r : Bool) (H : Dl p0 p1c0 = some r) (h_v1 : Sl w0 (NX []) ri v1 p0) (h_v2 : Sl w0 (NX []) IP v2 p1c0.2.1) (h_v3 : Sl w0 (NX []) Jj v3 p1c0.2.2) (a_q_p1c0 : At ⟨Y, [], w0⟩ q_p1c0 0 [Jint p1c0.1, v2, v3]) :
    ca_ 75 #[v1, .func (.func 76) #[] #[pp q_p1c0]] w0 fun e w' => e = .returned (.bool r) ∧ Below w0.heap.size w0 w' := by
 refine enter Tryz.func75 Aa Tryz.ntmps75 Aa fun a F => ?_
 have W := Stw.start Y w0
 unfold Dl at H
 refine vc tk 9 F W fun a w F W => ?_
 obtain ⟨x1, h1, H⟩ := Af H
 refine ls F W Aa (AA (v := Jint x1) F XL Aa (fun w W => HO any w (v1) q_p1c0 (v2) (v3) p0 p1c0 _ h1 (Cl (Ae h_v1) W) (Cl (Ae h_v2) W) (Cl (Ae h_v3) W) (At.re a_q_p1c0 W))) fun a w F W => ?_
 refine Bo tk 4 F W fun a w F W => ?_
 refine Ah ?_
 have H := Ay H
 subst H
 refine Av (.inl Aa) F W Aa (Am F Aa) ?_
 exact ⟨rfl, W.done⟩
theorem aR : Has Tryz.prog 75 := BM Tryz.func75
def DW (p0 : Int) (p1 : Int × (List (Int × Int × Int × Int × Int × Int)) × (List (Int × Int))) : Bool := decide (p1.1 ≤ p0)
theorem Ko (Y : Nat → Prop) (w0 : World) (q_p1 : Nat) (v1 : Value) (v2 : Value) (p0 : Int) (p1 : Int × (List (Int × Int × Int × Int × Int × Int)) × (List (Int × Int))) (r : Bool) (H : DW p0 p1 = r) (h_v1 : Sl w0 (NX []) IP v1 p1.2.1) (h_v2 : Sl w0 (NX []) Jj v2 p1.2.2) (a_q_p1 : At ⟨Y, [], w0⟩ q_p1 0 [Jint p1.1, v1, v2]) :
    ca_ 77 #[Jint p0, pp q_p1] w0 fun e w' => e = .returned (.bool r) ∧ Below w0.heap.size w0 w' := by
 refine enter Tryz.func77 Aa Tryz.ntmps77 Aa fun a F => ?_
 have W := Stw.start Y w0
 unfold DW at H
 refine vc tk 9 F W fun a w F W => ?_
 refine ls F W Aa (G0 (y := Jint p1.1) (j := 0) F Aa (Nat.zero_add _).symm a_q_p1 T3 Aa).q fun a w F W => ?_
 refine Bo tk 4 F W fun a w F W => ?_
 refine Ah ?_
 subst H
 refine Av (.inl Aa) F W Aa (Am F Aa) ?_
 exact ⟨rfl, W.done⟩
theorem b9 : Has Tryz.prog 77 := BM Tryz.func77
def CD (p0 : List Int) (p1c0 : Int × (List (Int × Int × Int × Int × Int × Int)) × (List (Int × Int))) : Int → Option (Int ⊕ (Unit ⊕ Int))
  | x1 => (if x1 < (p0.length : Int) then (ix p0 x1).bind fun x2 => (if (DW x2 p1c0) = true then some (.inr (.inr x1)) else some (.inl (AJ (x1 + 1)))) else some (.inr (.inl ())))
def Do (p0 : List Int) (p1c0 : Int × (List (Int × Int × Int × Int × Int × Int)) × (List (Int × Int))) : Option Int := HA (AB (CD p0 p1c0) 0) fun _ => some (-1)
theorem Hv (Y : Nat → Prop) (w0 : World) (v1 : Value) (q_p1c0 : Nat) (v2 : Value) (v3 : Value) (p0 : List Int) (p1c0 : Int × (List (Int × Int × Int × Int × Int × Int)) × (List (Int × Int))) (r : Int) (H : Do p0 p1c0 = some r) (h_v1 : Sl w0 (NX []) ri v1 p0) (h_v2 : Sl w0 (NX []) IP v2 p1c0.2.1) (h_v3 : Sl w0 (NX []) Jj v3 p1c0.2.2) (a_q_p1c0 : At ⟨Y, [], w0⟩ q_p1c0 0 [Jint p1c0.1, v2, v3]) :
    ca_ 108 #[v1, .func (.func 77) #[] #[pp q_p1c0]] w0 fun e w' => e = .returned (Jint r) ∧ Below w0.heap.size w0 w' := by
 refine enter Tryz.func108 Aa Tryz.ntmps108 Aa fun a F => ?_
 have W := Stw.start Y w0
 unfold Do at H
 refine vc tk 5 F W fun a w F W => ?_
 obtain ⟨o1, G1, K1, L1⟩ := Lh H
 refine Ap (fun a w => some (Sum.inl ()) = some o1 ∧ Fr 19 [] [(4, Jint 0)] a ∧ sy Y w0 [] [] w) ?_ ?_
 ·
  have H := G1
  refine vc tk 3 F W fun a w F W => ?_
  refine ls F W Aa (Bz (r := ri) (l := p0) RN Aa F Aa (Ae h_v1)).q fun a w F W => ?_
  refine Bo tk 4 F W fun a w F W => ?_
  refine AQ H (fun s a w => Fr 19 [] [(0, v1), (1, .func (.func 77) #[] #[pp q_p1c0]), (4, Jint 0), (7, Jint (p0.length : Int)), (8, Jint s)] a ∧ sy Y w0 [] [] w) ⟨F.ra Aa, W⟩ fun s o a w H L2 hR => ?_
  obtain ⟨x1, rfl⟩ : ∃ x, x = s := ⟨s, rfl⟩
  obtain ⟨F, W⟩ := hR
  have F : Fr 19 [] [(0, v1), (1, .func (.func 77) #[] #[pp q_p1c0]), (4, Jint 0), (7, Jint (p0.length : Int)), (8, Jint x1)] a := F
  have W : sy Y w0 [] [] w := W
  rw [CD] at H
  refine vc tk 6 F W fun a w F W => ?_
  refine A1 F Aa H (fun F H => ?_) fun F H => ?_
  ·
   refine EX tk 15 F W fun a w F W => ?_
   obtain ⟨x2, h1, H⟩ := Af H
   refine ls F W Aa (Au (r := ri) DT F Aa Aa (Ae h_v1) h1).q fun a w F W => ?_
   refine ls F W Aa (Aj (y := Jint x2) (j := 0) (i := x1) F Aa Aa (Ae h_v1) h1 Fl.int.to T3 Aa).q fun a w F W => ?_
   refine ls F W Aa (Ib (ws := [Jint x2, pp q_p1c0]) (v := Value.bool (DW x2 p1c0)) F b9 Aa (fun w W => Ko any w q_p1c0 (v2) (v3) x2 p1c0 _ Aa (Cl (Ae h_v2) W) (Cl (Ae h_v3) W) (At.re a_q_p1c0 W))) fun a w F W => ?_
   refine Bo tk 2 F W fun a w F W => ?_
   refine Bi F Aa H (fun F H => ?_) fun F H => ?_
   ·
    refine vc tk 6 F W fun a w F W => ?_
    refine Ah (AC ?_)
    iterate 2 refine Aw ?_
    refine AC (Aw ?_)
    have H := L2 _ H
    have H := L1 _ H
    have H := Ay H
    subst H
    refine Av (.inl Aa) F W Aa (Am F Aa) ?_
    exact ⟨rfl, W.done⟩
   refine AD (Az ?_)
   refine vn tk 4 F W fun a w F W => ?_
   refine Ab ?_
   exact ⟨_, H, F.ra Aa, W⟩
  refine AN ?_
  iterate 2 refine A6 ?_
  refine AP (Ab ?_)
  have H := L2 _ H
  exact ⟨H, F.ra Aa, W⟩
 rintro a w ⟨hj, F, W⟩
 have H := K1 _ hj
 refine vc tk 5 F W fun a w F W => ?_
 refine Ah ?_
 have H := Ay H
 subst H
 refine Av (.inl Aa) F W Aa (Am F Aa) ?_
 exact ⟨rfl, W.done⟩
def C8 (p0 : List Int) (p1c0 : Int × (List (Int × Int × Int × Int × Int × Int)) × (List (Int × Int))) : Option Bool := (Do p0 p1c0).bind fun x1 => some (decide (0 ≤ x1))
theorem GQ (Y : Nat → Prop) (w0 : World) (v1 : Value) (q_p1c0 : Nat) (v2 : Value) (v3 : Value) (p0 : List Int) (p1c0 : Int × (List (Int × Int × Int × Int × Int × Int)) × (List (Int × Int))) (r : Bool) (H : C8 p0 p1c0 = some r) (h_v1 : Sl w0 (NX []) ri v1 p0) (h_v2 : Sl w0 (NX []) IP v2 p1c0.2.1) (h_v3 : Sl w0 (NX []) Jj v3 p1c0.2.2) (a_q_p1c0 : At ⟨Y, [], w0⟩ q_p1c0 0 [Jint p1c0.1, v2, v3]) :
    ca_ 75 #[v1, .func (.func 77) #[] #[pp q_p1c0]] w0 fun e w' => e = .returned (.bool r) ∧ Below w0.heap.size w0 w' := by
 refine enter Tryz.func75 Aa Tryz.ntmps75 Aa fun a F => ?_
 have W := Stw.start Y w0
 unfold C8 at H
 refine vc tk 9 F W fun a w F W => ?_
 obtain ⟨x1, h1, H⟩ := Af H
 refine ls F W Aa (AA (v := Jint x1) F XL Aa (fun w W => Hv any w (v1) q_p1c0 (v2) (v3) p0 p1c0 _ h1 (Cl (Ae h_v1) W) (Cl (Ae h_v2) W) (Cl (Ae h_v3) W) (At.re a_q_p1c0 W))) fun a w F W => ?_
 refine Bo tk 4 F W fun a w F W => ?_
 refine Ah ?_
 have H := Ay H
 subst H
 refine Av (.inl Aa) F W Aa (Am F Aa) ?_
 exact ⟨rfl, W.done⟩
abbrev Q8 (a0 : Nat) (a1 : Tr39) (a2 : Value) (a3 : Value) (a4 : Nat) (a5 : Int × (List (Int × Int × Int × Int × Int × Int)) × (List (Int × Int))) (a6 : Value) (a7 : Value) : List (Nat × List Value) := [(a0, [Jint a1.un.1, Jint a1.un.2.1.un.1, Jint a1.un.2.1.un.2.1, Jint a1.un.2.1.un.2.2.1, a2, Jint a1.un.2.2.1, Jint a1.un.2.2.2.1, a3]), (a4, [Jint a5.1, a6, a7])]
def Fu (p0 : Int × (List (Int × Int × Int × Int × Int × Int)) × (List (Int × Int))) (p1 : Tr39) : Option Bool := ((EJ (Tr39.of (p1.un.1, Tr36.of (p1.un.2.1.un.1, p1.un.2.1.un.2.1, p1.un.2.1.un.2.2.1, p1.un.2.1.un.2.2.2), p1.un.2.2.1, p1.un.2.2.2.1, p1.un.2.2.2.2)) 4).bind fun x2 => (Dl x2 p0).bind fun x3 => (if x3 = true then some true else (EJ (Tr39.of (p1.un.1, Tr36.of (p1.un.2.1.un.1, p1.un.2.1.un.2.1, p1.un.2.1.un.2.2.1, p1.un.2.1.un.2.2.2), p1.un.2.2.1, p1.un.2.2.2.1, p1.un.2.2.2.2)) 5).bind fun x4 => (C8 x4 p0).bind fun x5 => some x5)).bind fun x1 => some x1
theorem LE (Y : Nat → Prop) (w0 : World) (v1 : Value) (v2 : Value) (v3 : Value) (v4 : Value) (p0 : Int × (List (Int × Int × Int × Int × Int × Int)) × (List (Int × Int))) (p1 : Tr39) (r : Bool) (H : Fu p0 p1 = some r) (h_v1 : Sl w0 (NX []) IP v1 p0.2.1) (h_v2 : Sl w0 (NX []) Jj v2 p0.2.2) (h_v3 : Sl w0 (NX []) Bm v3 p1.un.2.1.un.2.2.2) (h_v4 : Sl w0 (NX []) DF v4 p1.un.2.2.2.2) :
    ca_ 36 #[.agg #[Jint p0.1, v1, v2], .agg #[Jint p1.un.1, Jint p1.un.2.1.un.1, Jint p1.un.2.1.un.2.1, Jint p1.un.2.1.un.2.2.1, v3, Jint p1.un.2.2.1, Jint p1.un.2.2.2.1, v4]] w0 fun e w' => e = .returned (.bool r) ∧ Below w0.heap.size w0 w' := by
 refine enter Tryz.func36 Aa Tryz.ntmps36 Aa fun a F => ?_
 have W := Stw.start Y w0
 obtain ⟨v5, h1, h_v3⟩ := h_v3.ex BK
 obtain ⟨v6, h2, h_v4⟩ := h_v4.ex Er
 unfold Fu at H
 refine vc tk 2 F W fun a w F W => ?_
 refine BQ (cs := [Jint p0.1, v1, v2]) F W Aa Aa Aa fun b1 a w F W => ?_
 refine BQ (cs := (C7 p1 v3 v4)) F W Aa Aa Aa fun b2 a w F W => ?_
 refine vl tk 2 F W fun a w F W => ?_
 refine Ab ?_
 obtain ⟨o1, G1, K1⟩ := Af H
 refine Ap (fun a w => ∃ x1 : Bool, some (x1) = some o1 ∧ Fr 15 [] [(4, .bool x1)] a ∧ sy Y w0 (Q8 b2 p1 v3 v4 b1 p0 v1 v2) [] w) ?_ ?_
 ·
  have H := G1
  refine CT tk 2 [0] F W (ai fun a w F W => ?_)
  obtain ⟨x2, h3, H⟩ := Af H
  refine AO (Ml := []) (Zl := []) (β := Value) (rv := fun x => x) (MM := fun x => []) (ZZ := fun x => [row x 3 ri x2]) F W ZI Aa Aa (fun hL => HC _ w (v3) (v4) (Tr39.of (p1.un.1, Tr36.of (p1.un.2.1.un.1, p1.un.2.1.un.2.1, p1.un.2.1.un.2.2.1, p1.un.2.1.un.2.2.2), p1.un.2.2.1, p1.un.2.2.2.1, p1.un.2.2.2.2)) 4 _ h3 ((Al BK h1 (Ae h_v3)) w W).nx ((Al Er h2 (Ae h_v4)) w W).nx) fun x a w F W => ?_
  obtain ⟨v7, rfl⟩ : ∃ y, y = x := ⟨x, rfl⟩
  have W : sy Y w0 (Q8 b2 p1 v3 v4 b1 p0 v1 v2) [row v7 3 ri x2] w := W
  refine ls F W Aa (GV (us := []) (vs := [pp b1]) F Aa Aa).q fun a w F W => ?_
  obtain ⟨x3, h4, H⟩ := Af H
  refine ls F W Aa (AA (v := Value.bool x3) F aR Aa (fun w W => Hm any w (v7) b1 (v1) (v2) x2 p0 _ h4 (Cl (Ai 0 Aa) W) (Cl (Ae h_v1) W) (Cl (Ae h_v2) W) (TT W 1 Aa))) fun a w F W => ?_
  refine ls F W Aa (Ao F Aa).q fun a w F W => ?_
  rcases bxq x3 with hb | hb
  ·
   have H := BB hb H
   rw [hb] at F
   refine vl tk 7 F W fun a w F W => ?_
   refine Ab ?_
   have W := W.frontM (i := 1) Aa Aa
   have W := W.frontM (i := 1) Aa Aa
   have W := W.sub (M' := (Q8 b2 p1 v3 v4 b1 p0 v1 v2)) (Z' := []) sr nl
   exact ⟨_, H, F.ra Aa, W⟩
  have H := BC (by rw [hb]; decide) H
  rw [hb] at F
  refine Dy F W (Ad F Aa Aa Aa Aa) Aa (As Aa) (Bk (v := Value.agg #[Jint p1.un.1, Jint p1.un.2.1.un.1, Jint p1.un.2.1.un.2.1, Jint p1.un.2.1.un.2.2.1, v3, Jint p1.un.2.2.1, Jint p1.un.2.2.2.1, v4]) 0 F Aa Aa I7 Aa).q fun a w F W => ?_
  refine FU (Ad F Aa Aa Aa Aa) ?_
  obtain ⟨x4, h5, H⟩ := Af H
  refine AO (Ml := []) (Zl := []) (β := Value) (rv := fun x => x) (MM := fun x => []) (ZZ := fun x => [row x 3 ri x4]) F W ZI Aa Aa (fun hL => HC _ w (v3) (v4) (Tr39.of (p1.un.1, Tr36.of (p1.un.2.1.un.1, p1.un.2.1.un.2.1, p1.un.2.1.un.2.2.1, p1.un.2.1.un.2.2.2), p1.un.2.2.1, p1.un.2.2.2.1, p1.un.2.2.2.2)) 5 _ h5 ((Al BK h1 (Ae h_v3)) w W).nx ((Al Er h2 (Ae h_v4)) w W).nx) fun x a w F W => ?_
  obtain ⟨v8, rfl⟩ : ∃ y, y = x := ⟨x, rfl⟩
  have W : sy Y w0 (Q8 b2 p1 v3 v4 b1 p0 v1 v2) [row v8 3 ri x4, row v7 3 ri x2] w := W
  refine Dy F W (Ad F Aa Aa Aa Aa) Aa (As Aa) (GV (us := []) (vs := [pp b1]) F Aa Aa).q fun a w F W => ?_
  refine FU (Ad F Aa Aa Aa Aa) ?_
  obtain ⟨x5, h6, H⟩ := Af H
  refine ls F W Aa (AA (v := Value.bool x5) F aR Aa (fun w W => GQ any w (v8) b1 (v1) (v2) x4 p0 _ h6 (Cl (Ai 0 Aa) W) (Cl (Ae h_v1) W) (Cl (Ae h_v2) W) (TT W 1 Aa))) fun a w F W => ?_
  refine vl tk 3 F W fun a w F W => ?_
  refine Ab ?_
  have W := W.frontM (i := 1) Aa Aa
  have W := W.frontM (i := 1) Aa Aa
  have W := W.sub (M' := (Q8 b2 p1 v3 v4 b1 p0 v1 v2)) (Z' := []) sr nl
  exact ⟨_, H, F.ra Aa, W⟩
 rintro a w ⟨x1, hj, F, W⟩
 have hj := Ay hj
 subst hj
 have H := K1
 refine Ah ?_
 have H := Ay H
 subst H
 refine Av (.inl Aa) F W Aa (Am F Aa) ?_
 exact ⟨rfl, W.done⟩
theorem cE : Has Tryz.prog 36 := BM Tryz.func36
def DS (p0 : Int × (List (Int × Int × Int × Int × Int × Int)) × (List (Int × Int))) (p1 : Tr39) : Option Int := (H4 p0).bind fun x1 => (if (!x1) = true then some 2 else (GG (Tr39.of (p1.un.1, Tr36.of (p1.un.2.1.un.1, p1.un.2.1.un.2.1, p1.un.2.1.un.2.2.1, p1.un.2.1.un.2.2.2), p1.un.2.2.1, p1.un.2.2.2.1, p1.un.2.2.2.2))).bind fun x2 => (if (!x2) = true then some 17 else (Fu p0 (Tr39.of (p1.un.1, Tr36.of (p1.un.2.1.un.1, p1.un.2.1.un.2.1, p1.un.2.1.un.2.2.1, p1.un.2.1.un.2.2.2), p1.un.2.2.1, p1.un.2.2.2.1, p1.un.2.2.2.2))).bind fun x3 => (if x3 = true then some 13 else (Ev (Tr39.of (p1.un.1, Tr36.of (p1.un.2.1.un.1, p1.un.2.1.un.2.1, p1.un.2.1.un.2.2.1, p1.un.2.1.un.2.2.2), p1.un.2.2.1, p1.un.2.2.2.1, p1.un.2.2.2.2))).bind fun x4 => (if 4096 < x4 then some 6 else some 0))))
theorem Iq (Y : Nat → Prop) (w0 : World) (v1 : Value) (v2 : Value) (v3 : Value) (v4 : Value) (p0 : Int × (List (Int × Int × Int × Int × Int × Int)) × (List (Int × Int))) (p1 : Tr39) (r : Int) (H : DS p0 p1 = some r) (h_v1 : Sl w0 (NX []) IP v1 p0.2.1) (h_v2 : Sl w0 (NX []) Jj v2 p0.2.2) (h_v3 : Sl w0 (NX []) Bm v3 p1.un.2.1.un.2.2.2) (h_v4 : Sl w0 (NX []) DF v4 p1.un.2.2.2.2) :
    ca_ 9 #[.agg #[Jint p0.1, v1, v2], .agg #[Jint p1.un.1, Jint p1.un.2.1.un.1, Jint p1.un.2.1.un.2.1, Jint p1.un.2.1.un.2.2.1, v3, Jint p1.un.2.2.1, Jint p1.un.2.2.2.1, v4]] w0 fun e w' => e = .returned (Jint r) ∧ Below w0.heap.size w0 w' := by
 refine enter Tryz.func9 Aa Tryz.ntmps9 Aa fun a F => ?_
 have W := Stw.start Y w0
 obtain ⟨v5, h1, h_v3⟩ := h_v3.ex BK
 obtain ⟨v6, h2, h_v4⟩ := h_v4.ex Er
 unfold DS at H
 refine vc tk 2 F W fun a w F W => ?_
 refine BQ (cs := [Jint p0.1, v1, v2]) F W Aa Aa Aa fun b1 a w F W => ?_
 refine BQ (cs := (C7 p1 v3 v4)) F W Aa Aa Aa fun b2 a w F W => ?_
 refine Es tk 8 [1] F W (ai fun a w F W => ?_)
 obtain ⟨x1, h3, H⟩ := Af H
 refine ls F W Aa (AA (v := Value.bool x1) F cO Aa (fun w W => Qs any w (v1) (v2) p0 _ h3 (Cl (Ae h_v1) W) (Cl (Ae h_v2) W))) fun a w F W => ?_
 refine Bo tk 4 F W fun a w F W => ?_
 refine BS F Aa (fun hb => ?_) fun hb => ?_
 ·
  have H := BB hb H
  rw [hb] at F
  refine vc tk 5 F W fun a w F W => ?_
  refine Ah (AC (Aw ?_))
  have H := Ay H
  subst H
  refine Av (.inl Aa) F W Aa (Am F Aa) ?_
  exact ⟨rfl, W.done⟩
 have H := BC (by rw [hb]; decide) H
 rw [hb] at F
 refine CT tk 3 [0] F W (ai fun a w F W => ?_)
 obtain ⟨x2, h4, H⟩ := Af H
 refine ls F W Aa (AA (v := Value.bool x2) F b8 Aa (fun w W => Ou any w (v3) (v4) (Tr39.of (p1.un.1, Tr36.of (p1.un.2.1.un.1, p1.un.2.1.un.2.1, p1.un.2.1.un.2.2.1, p1.un.2.1.un.2.2.2), p1.un.2.2.1, p1.un.2.2.2.1, p1.un.2.2.2.2)) _ h4 (Cl (Al BK h1 (Ae h_v3)) W) (Cl (Al Er h2 (Ae h_v4)) W))) fun a w F W => ?_
 refine Bo tk 4 F W fun a w F W => ?_
 refine BS F Aa (fun hb => ?_) fun hb => ?_
 ·
  have H := BB hb H
  rw [hb] at F
  refine vc tk 5 F W fun a w F W => ?_
  refine Ah (AC (Aw ?_))
  have H := Ay H
  subst H
  refine Av (.inl Aa) F W Aa (Am F Aa) ?_
  exact ⟨rfl, W.done⟩
 have H := BC (by rw [hb]; decide) H
 rw [hb] at F
 refine CT tk 4 [1, 0] F W (ai (ai fun a w F W => ?_))
 obtain ⟨x3, h5, H⟩ := Af H
 refine ls F W Aa (AA (v := Value.bool x3) F cE Aa (fun w W => LE any w (v1) (v2) (v3) (v4) p0 (Tr39.of (p1.un.1, Tr36.of (p1.un.2.1.un.1, p1.un.2.1.un.2.1, p1.un.2.1.un.2.2.1, p1.un.2.1.un.2.2.2), p1.un.2.2.1, p1.un.2.2.2.1, p1.un.2.2.2.2)) _ h5 (Cl (Ae h_v1) W) (Cl (Ae h_v2) W) (Cl (Al BK h1 (Ae h_v3)) W) (Cl (Al Er h2 (Ae h_v4)) W))) fun a w F W => ?_
 refine Bo tk 3 F W fun a w F W => ?_
 refine BS F Aa (fun hb => ?_) fun hb => ?_
 ·
  have H := BB hb H
  rw [hb] at F
  refine vc tk 5 F W fun a w F W => ?_
  refine Ah (AC (Aw ?_))
  have H := Ay H
  subst H
  refine Av (.inl Aa) F W Aa (Am F Aa) ?_
  exact ⟨rfl, W.done⟩
 have H := BC (by rw [hb]; decide) H
 rw [hb] at F
 refine CT tk 3 [0] F W (ai fun a w F W => ?_)
 obtain ⟨x4, h6, H⟩ := Af H
 refine ls F W Aa (AA (v := Jint x4) F ZU Aa (fun w W => Iz any w (v3) (v4) (Tr39.of (p1.un.1, Tr36.of (p1.un.2.1.un.1, p1.un.2.1.un.2.1, p1.un.2.1.un.2.2.1, p1.un.2.1.un.2.2.2), p1.un.2.2.1, p1.un.2.2.2.1, p1.un.2.2.2.2)) _ h6 (Cl (Al BK h1 (Ae h_v3)) W) (Cl (Al Er h2 (Ae h_v4)) W))) fun a w F W => ?_
 refine Bo tk 4 F W fun a w F W => ?_
 refine BS F Aa (fun hb => ?_) fun hb => ?_
 ·
  have H := BB (B4 hb) H
  rw [hb] at F
  refine vc tk 5 F W fun a w F W => ?_
  refine Ah (AC (Aw ?_))
  have H := Ay H
  subst H
  refine Av (.inl Aa) F W Aa (Am F Aa) ?_
  exact ⟨rfl, W.done⟩
 have H := BC (B1 hb) H
 rw [hb] at F
 refine AD (Az ?_)
 refine vn tk 5 F W fun a w F W => ?_
 refine Ah ?_
 have H := Ay H
 subst H
 refine Av (.inl Aa) F W Aa (Am F Aa) ?_
 exact ⟨rfl, W.done⟩
end
end Go.Proofs.YtgoifghhcekahaaGreatDoor
