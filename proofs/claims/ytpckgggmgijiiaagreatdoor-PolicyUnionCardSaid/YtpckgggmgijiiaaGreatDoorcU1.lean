/- The functions of layer 27, Jw. Conditions: none. -/
import Derived.Test.YtpckgggmgijiiaaGreatDoorcU0
namespace Go.Proofs.YtpckgggmgijiiaaGreatDoor
noncomputable section
open Go Go.RowKit
set_option linter.unusedVariables false
set_option linter.unusedSimpArgs false
set_option maxRecDepth 20000
theorem YR : Has Tryz.prog 35 := CP Tryz.func35
def DP (fRec : Tr27 → Option Int) (p0 : Tr27) : (Int × Int) → Option ((Int × Int) ⊕ Int)
  | (x3, x4) => (if x4 < (p0.un.2.2.2.2.length : Int) then ((ix p0.un.2.2.2.2 x4).bind fun x6 => (fRec (Tr27.of (x6.un.1, Tr24.of (x6.un.2.1.un.1, x6.un.2.1.un.2.1, x6.un.2.1.un.2.2.1, x6.un.2.1.un.2.2.2), x6.un.2.2.1, x6.un.2.2.2.1, x6.un.2.2.2.2))).bind fun x7 => (if p0.un.1 = 3 then some (I3 (AU (x3 * x7))) else some x3).bind fun x8 => (if p0.un.1 = 4 then some (I3 (AU (x8 + x7))) else some x8).bind fun x9 => (if (decide (p0.un.1 = 5) && decide (x9 < x7)) = true then some x7 else some x9)).bind fun x5 => some (.inl (x5, AU (x4 + 1))) else some (.inr x3))
def Fs (fRec : Tr27 → Option Int) (p0 : Tr27) : Option Int := (if (decide (p0.un.1 < 3) || decide (5 < p0.un.1)) = true then some 1 else (if p0.un.1 = 3 then some 1 else some 0).bind fun x1 => (Ba (DP fRec p0) (x1, 0)).bind fun x2 => some x2)
def D0 : Nat → Tr27 → Option Int
  | 0 => fun _ => none
  | n + 1 => Fs (D0 n)
def O2 (p0 : Tr27) : Option Int := HC fun n => D0 n p0
theorem Qp (fRec : Tr27 → Option Int) (ih : ∀ (Y : Nat → Prop) (w0 : World) (v1 : Value) (v2 : Value) (p0 : Tr27) (r : Int) (H : fRec p0 = some r) (h_v1 : Sl w0 (NX []) DT v1 p0.un.2.1.un.2.2.2) (h_v2 : Sl w0 (NX []) Hx v2 p0.un.2.2.2.2), Calls Tryz.prog 16 #[.agg #[.int .i64 p0.un.1, .int .i64 p0.un.2.1.un.1, .int .i64 p0.un.2.1.un.2.1, .int .i64 p0.un.2.1.un.2.2.1, v1, .int .i64 p0.un.2.2.1, .int .i64 p0.un.2.2.2.1, v2]] w0 fun e w' => e = .returned (.int .i64 r) ∧ Below w0.heap.size w0 w') (Y : Nat → Prop) (w0 : World) (v1 : Value) (v2 : Value) (p0 : Tr27) (r : Int) (H : Fs fRec p0 = some r) (h_v1 : Sl w0 (NX []) DT v1 p0.un.2.1.un.2.2.2) (h_v2 : Sl w0 (NX []) Hx v2 p0.un.2.2.2.2) :
    Calls Tryz.prog 16 #[.agg #[.int .i64 p0.un.1, .int .i64 p0.un.2.1.un.1, .int .i64 p0.un.2.1.un.2.1, .int .i64 p0.un.2.1.un.2.2.1, v1, .int .i64 p0.un.2.2.1, .int .i64 p0.un.2.2.2.1, v2]] w0 fun e w' => e = .returned (.int .i64 r) ∧ Below w0.heap.size w0 w' := by
 refine enter Tryz.func16 Aa Tryz.ntmps16 Aa fun a F => ?_
 have W := Stw.start Y w0
 obtain ⟨v3, h1, h_v1⟩ := h_v1.ex Da
 obtain ⟨v4, h2, h_v2⟩ := h_v2.ex Ej
 unfold Fs at H
 refine vc tk 2 F W fun a w F W => ?_
 refine CX (cs := (Av p0 v1 v2)) F W Aa Aa Aa fun b1 a w F W => ?_
 refine Cv tk 4 F W fun a w F W => ?_
 refine AA (fun a w => Fr 54 [] [(1, .pointer (some ⟨b1, 0, none⟩)), (2, .int .i64 0), (13, .bool (decide (p0.un.1 < 3) || decide (5 < p0.un.1)))] a ∧ Stw ⟨Y, [], w0⟩ (HT b1 p0 v1 v2) [] w) ?_ ?_
 ·
  refine FR tk 5 [0] F W (ai fun a w F W => ?_)
  rcases bxq (decide (p0.un.1 < 3)) with hb0 | hb0
  ·
   rw [hb0] at F
   refine vl tk 5 F W fun a w F W => ?_
   refine Ad ?_
   exact ⟨F.re ⟨rfl, Aa, (DX (by try rw [hb0]; all_goals simp only [DW])), trivial⟩, W⟩
  rw [hb0] at F
  refine Hw tk 5 [0] F W (ai fun a w F W => ?_)
  refine Ad ?_
  exact ⟨F.re ⟨rfl, Aa, (DX (by try rw [hb0]; all_goals simp only [DW])), trivial⟩, W⟩
 rintro a w ⟨F, W⟩
 refine CK F Aa H (fun F H => ?_) fun F H => ?_
 ·
  refine vc tk 5 F W fun a w F W => ?_
  refine Am (Az ?_)
  have H := AC H
  subst H
  refine Ax (.inl Aa) F W Aa (Ap F Aa) ?_
  exact ⟨rfl, W.done⟩
 refine Gp tk 7 F W fun a w F W => ?_
 obtain ⟨o1, G1, K1⟩ := Ag H
 refine AA (fun a w => ∃ x1 : Int, some (x1) = some o1 ∧ Fr 54 [] [(1, .pointer (some ⟨b1, 0, none⟩)), (2, .int .i64 0), (3, .int .i64 x1)] a ∧ Stw ⟨Y, [], w0⟩ (HT b1 p0 v1 v2) [] w) ?_ ?_
 ·
  have H := G1
  refine FR tk 7 [0] F W (ai fun a w F W => ?_)
  refine BU F Aa H (fun F H => ?_) fun F H => ?_
  ·
   refine vc tk 3 F W fun a w F W => ?_
   refine Ad ?_
   exact ⟨_, H, F.ra Aa, W⟩
  refine Bc (Ad ?_)
  exact ⟨_, H, F.ra Aa, W⟩
 rintro a w ⟨x1, hj, F, W⟩
 have hj := AC hj
 subst hj
 have H := K1
 obtain ⟨o2, G2, K2⟩ := Ag H
 refine AA (fun a w => ∃ x2 : Int, some (x2) = some o2 ∧ Fr 54 [] [(2, .int .i64 0), (3, .int .i64 x2)] a ∧ Stw ⟨Y, [], w0⟩ (HT b1 p0 v1 v2) [] w) ?_ ?_
 ·
  have H := G2
  refine vc tk 6 F W fun a w F W => ?_
  refine BN H (fun s a w => Fr 54 [] [(1, .pointer (some ⟨b1, 0, none⟩)), (2, .int .i64 0), (3, .int .i64 s.1), (4, .int .i64 s.2)] a ∧ Stw ⟨Y, [], w0⟩ (HT b1 p0 v1 v2) [] w) ⟨F.ra Aa, W⟩ fun s o a w H L3 hR => ?_
  obtain ⟨x3, x4⟩ := s
  obtain ⟨F, W⟩ := hR
  have F : Fr 54 [] [(1, .pointer (some ⟨b1, 0, none⟩)), (2, .int .i64 0), (3, .int .i64 x3), (4, .int .i64 x4)] a := F
  have W : Stw ⟨Y, [], w0⟩ (HT b1 p0 v1 v2) [] w := W
  rw [DP] at H
  refine FR tk 6 [0] F W (ai fun a w F W => ?_)
  refine ls F W Aa (C2 (r := Hx) (l := p0.un.2.2.2.2) SR Aa F Aa (Ak Ej h2 (Ah h_v2))).q fun a w F W => ?_
  refine Cv tk 3 F W fun a w F W => ?_
  refine BU F Aa H (fun F H => ?_) fun F H => ?_
  ·
   refine Bc (Ad ?_)
   obtain ⟨o4, G4, K4⟩ := Ag H
   refine AA (fun a w => ∃ x5 : Int, some (x5) = some o4 ∧ Fr 54 [] [(1, .pointer (some ⟨b1, 0, none⟩)), (2, .int .i64 0), (3, .int .i64 x5), (4, .int .i64 x4)] a ∧ Stw ⟨Y, [], w0⟩ (HT b1 p0 v1 v2) [] w) ?_ ?_
   ·
    have H := G4
    refine FR tk 6 [0] F W (ai fun a w F W => ?_)
    obtain ⟨x6, h3, H⟩ := Ag H
    obtain ⟨v5, h4, h5⟩ := DQ h2 h3
    have h6 : MX v5 = [.int .i64 x6.un.1, .int .i64 x6.un.2.1.un.1, .int .i64 x6.un.2.1.un.2.1, .int .i64 x6.un.2.1.un.2.2.1, (v5.2.1.2.2.2.1), .int .i64 x6.un.2.2.1, .int .i64 x6.un.2.2.2.1, (v5.2.2.2.2.1)] := congrArg (fun q : Tr27 => ([.int .i64 q.un.1, .int .i64 q.un.2.1.un.1, .int .i64 q.un.2.1.un.2.1, .int .i64 q.un.2.1.un.2.2.1, (v5.2.1.2.2.2.1), .int .i64 q.un.2.2.1, .int .i64 q.un.2.2.2.1, (v5.2.2.2.2.1)] : List Value)) h5
    refine ls F W Aa (Aw (r := P1) U8 F Aa Aa (Ah h_v2) h4).q fun a w F W => ?_
    refine ls F W Aa (An (y := Value.agg #[.int .i64 x6.un.1, .int .i64 x6.un.2.1.un.1, .int .i64 x6.un.2.1.un.2.1, .int .i64 x6.un.2.1.un.2.2.1, (v5.2.1.2.2.2.1), .int .i64 x6.un.2.2.1, .int .i64 x6.un.2.2.2.1, (v5.2.2.2.2.1)]) (j := 0) (i := x4) (enc := MX) F Aa Aa (Ah h_v2) h4 Tf QI (by rw [h6]; rfl)).q fun a w F W => ?_
    obtain ⟨x7, h7, H⟩ := Ag H
    refine ls F W Aa (AL (v := Value.int .i64 x7) F YC Aa (fun w W => ih any w ((v5.2.1.2.2.2.1)) ((v5.2.2.2.2.1)) (Tr27.of (x6.un.1, Tr24.of (x6.un.2.1.un.1, x6.un.2.1.un.2.1, x6.un.2.1.un.2.2.1, x6.un.2.1.un.2.2.2), x6.un.2.2.1, x6.un.2.2.2.1, x6.un.2.2.2.2)) _ h7 (Er (Br (Ah h_v2) h4 (Ai.snd (Ai.fst (Ai.snd (Ai.snd (Ai.snd Ai.here))))) (congrArg (fun q : Tr27 => q.un.2.1.un.2.2.2) h5)) W) (Er (Br (Ah h_v2) h4 (Ai.snd (Ai.snd (Ai.snd (Ai.snd Ai.here)))) (congrArg (fun q : Tr27 => q.un.2.2.2.2) h5)) W))) fun a w F W => ?_
    refine vl tk 2 F W fun a w F W => ?_
    refine Ad ?_
    obtain ⟨o5, G5, K5⟩ := Ag H
    refine AA (fun a w => ∃ x8 : Int, some (x8) = some o5 ∧ Fr 54 [] [(1, .pointer (some ⟨b1, 0, none⟩)), (2, .int .i64 0), (3, .int .i64 x8), (4, .int .i64 x4), (5, .int .i64 x7)] a ∧ Stw ⟨Y, [], w0⟩ (HT b1 p0 v1 v2) [] w) ?_ ?_
    ·
     have H := G5
     refine FR tk 7 [0] F W (ai fun a w F W => ?_)
     refine BU F Aa H (fun F H => ?_) fun F H => ?_
     ·
      refine vc tk 4 F W fun a w F W => ?_
      refine ls F W Aa (AL (v := Value.int .i64 (I3 (AU (x3 * x7)))) F YR Aa (fun w W => PU any w (AU (x3 * x7)) _ Aa)) fun a w F W => ?_
      refine vl tk 2 F W fun a w F W => ?_
      refine Ad ?_
      exact ⟨_, H, F.ra Aa, W⟩
     refine Bc (Ad ?_)
     exact ⟨_, H, F.ra Aa, W⟩
    rintro a w ⟨x8, hj, F, W⟩
    have hj := AC hj
    subst hj
    have H := K5
    obtain ⟨o6, G6, K6⟩ := Ag H
    refine AA (fun a w => ∃ x9 : Int, some (x9) = some o6 ∧ Fr 54 [] [(1, .pointer (some ⟨b1, 0, none⟩)), (2, .int .i64 0), (3, .int .i64 x9), (4, .int .i64 x4), (5, .int .i64 x7)] a ∧ Stw ⟨Y, [], w0⟩ (HT b1 p0 v1 v2) [] w) ?_ ?_
    ·
     have H := G6
     refine FR tk 7 [0] F W (ai fun a w F W => ?_)
     refine BU F Aa H (fun F H => ?_) fun F H => ?_
     ·
      refine vc tk 4 F W fun a w F W => ?_
      refine ls F W Aa (AL (v := Value.int .i64 (I3 (AU (x8 + x7)))) F YR Aa (fun w W => PU any w (AU (x8 + x7)) _ Aa)) fun a w F W => ?_
      refine vl tk 2 F W fun a w F W => ?_
      refine Ad ?_
      exact ⟨_, H, F.ra Aa, W⟩
     refine Bc (Ad ?_)
     exact ⟨_, H, F.ra Aa, W⟩
    rintro a w ⟨x9, hj, F, W⟩
    have hj := AC hj
    subst hj
    have H := K6
    refine AA (fun a w => Fr 54 [] [(1, .pointer (some ⟨b1, 0, none⟩)), (2, .int .i64 0), (3, .int .i64 x9), (4, .int .i64 x4), (5, .int .i64 x7), (51, .bool (decide (p0.un.1 = 5) && decide (x9 < x7)))] a ∧ Stw ⟨Y, [], w0⟩ (HT b1 p0 v1 v2) [] w) ?_ ?_
    ·
     refine FR tk 5 [0] F W (ai fun a w F W => ?_)
     rcases bxq (decide (p0.un.1 = 5)) with hb0 | hb0
     ·
      rw [hb0] at F
      refine vl tk 5 F W fun a w F W => ?_
      refine Ad ?_
      exact ⟨F.re ⟨rfl, Aa, Aa, Aa, Aa, (DX (by try rw [hb0]; all_goals simp only [DW])), trivial⟩, W⟩
     rw [hb0] at F
     refine vl tk 5 F W fun a w F W => ?_
     refine Ad ?_
     exact ⟨F.re ⟨rfl, Aa, Aa, Aa, Aa, (DX (by try rw [hb0]; all_goals simp only [DW])), trivial⟩, W⟩
    rintro a w ⟨F, W⟩
    refine CK F Aa H (fun F H => ?_) fun F H => ?_
    ·
     refine vc tk 4 F W fun a w F W => ?_
     refine AM (Ad ?_)
     exact ⟨_, H, F.ra Aa, W⟩
    refine Bc (AM (Ad ?_))
    exact ⟨_, H, F.ra Aa, W⟩
   rintro a w ⟨x5, hj, F, W⟩
   have hj := AC hj
   subst hj
   have H := K4
   refine vc tk 5 F W fun a w F W => ?_
   refine Ad ?_
   exact ⟨_, H, F.ra Aa, W⟩
  refine BB ?_
  iterate 2 refine BR ?_
  refine Bx (Ad ?_)
  have H := L3 _ H
  exact ⟨_, H, F.ra Aa, W⟩
 rintro a w ⟨x2, hj, F, W⟩
 have hj := AC hj
 subst hj
 have H := K2
 refine vc tk 6 F W fun a w F W => ?_
 refine Am ?_
 have H := AC H
 subst H
 refine Ax (.inl Aa) F W Aa (Ap F Aa) ?_
 exact ⟨rfl, W.done⟩
theorem Q7 : ∀ (n : Nat) (Y : Nat → Prop) (w0 : World) (v1 : Value) (v2 : Value) (p0 : Tr27) (r : Int) (H : D0 n p0 = some r) (h_v1 : Sl w0 (NX []) DT v1 p0.un.2.1.un.2.2.2) (h_v2 : Sl w0 (NX []) Hx v2 p0.un.2.2.2.2), Calls Tryz.prog 16 #[.agg #[.int .i64 p0.un.1, .int .i64 p0.un.2.1.un.1, .int .i64 p0.un.2.1.un.2.1, .int .i64 p0.un.2.1.un.2.2.1, v1, .int .i64 p0.un.2.2.1, .int .i64 p0.un.2.2.2.1, v2]] w0 fun e w' => e = .returned (.int .i64 r) ∧ Below w0.heap.size w0 w' := by
  intro n
  induction n with
  | zero => intro Y w0 v1 v2 p0 r H; exact nomatch H
  | succ n ih => intro Y w0 v1 v2 p0 r H h_v1 h_v2; exact Qp (D0 n) ih Y w0 v1 v2 p0 r H h_v1 h_v2
theorem Sd (Y : Nat → Prop) (w0 : World) (v1 : Value) (v2 : Value) (p0 : Tr27) (r : Int) (H : O2 p0 = some r) (h_v1 : Sl w0 (NX []) DT v1 p0.un.2.1.un.2.2.2) (h_v2 : Sl w0 (NX []) Hx v2 p0.un.2.2.2.2) :
    Calls Tryz.prog 16 #[.agg #[.int .i64 p0.un.1, .int .i64 p0.un.2.1.un.1, .int .i64 p0.un.2.1.un.2.1, .int .i64 p0.un.2.1.un.2.2.1, v1, .int .i64 p0.un.2.2.1, .int .i64 p0.un.2.2.2.1, v2]] w0 fun e w' => e = .returned (.int .i64 r) ∧ Below w0.heap.size w0 w' := by
  obtain ⟨n, H⟩ := CZ H
  exact Q7 n Y w0 v1 v2 p0 r H h_v1 h_v2
def GH (p0 : Tr27) : Option Bool := ((Ob (Tr27.of (p0.un.1, Tr24.of (p0.un.2.1.un.1, p0.un.2.1.un.2.1, p0.un.2.1.un.2.2.1, p0.un.2.1.un.2.2.2), p0.un.2.2.1, p0.un.2.2.2.1, p0.un.2.2.2.2))).bind fun x2 => (if x2 = true then (Pg (Tr27.of (p0.un.1, Tr24.of (p0.un.2.1.un.1, p0.un.2.1.un.2.1, p0.un.2.1.un.2.2.1, p0.un.2.1.un.2.2.2), p0.un.2.2.1, p0.un.2.2.2.1, p0.un.2.2.2.2))).bind fun x3 => (if x3 ≤ 8 then (Ox (Tr27.of (p0.un.1, Tr24.of (p0.un.2.1.un.1, p0.un.2.1.un.2.1, p0.un.2.1.un.2.2.1, p0.un.2.1.un.2.2.2), p0.un.2.2.1, p0.un.2.2.2.1, p0.un.2.2.2.2))).bind fun x4 => (if x4 ≤ 64 then (O2 (Tr27.of (p0.un.1, Tr24.of (p0.un.2.1.un.1, p0.un.2.1.un.2.1, p0.un.2.1.un.2.2.1, p0.un.2.1.un.2.2.2), p0.un.2.2.1, p0.un.2.2.2.1, p0.un.2.2.2.2))).bind fun x5 => some (decide (x5 ≤ 64)) else some false) else some false) else some false)).bind fun x1 => some x1
theorem H3 (Y : Nat → Prop) (w0 : World) (v1 : Value) (v2 : Value) (p0 : Tr27) (r : Bool) (H : GH p0 = some r) (h_v1 : Sl w0 (NX []) DT v1 p0.un.2.1.un.2.2.2) (h_v2 : Sl w0 (NX []) Hx v2 p0.un.2.2.2.2) :
    Calls Tryz.prog 10 #[.agg #[.int .i64 p0.un.1, .int .i64 p0.un.2.1.un.1, .int .i64 p0.un.2.1.un.2.1, .int .i64 p0.un.2.1.un.2.2.1, v1, .int .i64 p0.un.2.2.1, .int .i64 p0.un.2.2.2.1, v2]] w0 fun e w' => e = .returned (.bool r) ∧ Below w0.heap.size w0 w' := by
 refine enter Tryz.func10 Aa Tryz.ntmps10 Aa fun a F => ?_
 have W := Stw.start Y w0
 obtain ⟨v3, h1, h_v1⟩ := h_v1.ex Da
 obtain ⟨v4, h2, h_v2⟩ := h_v2.ex Ej
 unfold GH at H
 refine vc tk 2 F W fun a w F W => ?_
 refine CX (cs := (Av p0 v1 v2)) F W Aa Aa Aa fun b1 a w F W => ?_
 refine vl tk 2 F W fun a w F W => ?_
 refine Ad ?_
 obtain ⟨o1, G1, K1⟩ := Ag H
 refine AA (fun a w => ∃ x1 : Bool, some (x1) = some o1 ∧ Fr 20 [] [(2, .bool x1)] a ∧ Stw ⟨Y, [], w0⟩ (HT b1 p0 v1 v2) [] w) ?_ ?_
 ·
  have H := G1
  refine FR tk 2 [0] F W (ai fun a w F W => ?_)
  obtain ⟨x2, h3, H⟩ := Ag H
  refine ls F W Aa (AL (v := Value.bool x2) F YV Aa (fun w W => R3 any w (v1) (v2) (Tr27.of (p0.un.1, Tr24.of (p0.un.2.1.un.1, p0.un.2.1.un.2.1, p0.un.2.1.un.2.2.1, p0.un.2.1.un.2.2.2), p0.un.2.2.1, p0.un.2.2.2.1, p0.un.2.2.2.2)) _ h3 (Er (Ak Da h1 (Ah h_v1)) W) (Er (Ak Ej h2 (Ah h_v2)) W))) fun a w F W => ?_
  refine ls F W Aa (Aq F Aa).q fun a w F W => ?_
  rcases bxq x2 with hb | hb
  ·
   have H := Cg hb H
   rw [hb] at F
   refine Hu F W (Ac F Aa Aa Aa Aa) Aa (Ao Aa) (Bu (v := Value.agg #[.int .i64 p0.un.1, .int .i64 p0.un.2.1.un.1, .int .i64 p0.un.2.1.un.2.1, .int .i64 p0.un.2.1.un.2.2.1, v1, .int .i64 p0.un.2.2.1, .int .i64 p0.un.2.2.2.1, v2]) 0 F Aa Aa QI Aa).q fun a w F W => ?_
   refine Iq (Ac F Aa Aa Aa Aa) ?_
   obtain ⟨x3, h4, H⟩ := Ag H
   refine ls F W Aa (AL (v := Value.int .i64 x3) F Yj Aa (fun w W => RW any w (v1) (v2) (Tr27.of (p0.un.1, Tr24.of (p0.un.2.1.un.1, p0.un.2.1.un.2.1, p0.un.2.1.un.2.2.1, p0.un.2.1.un.2.2.2), p0.un.2.2.1, p0.un.2.2.2.1, p0.un.2.2.2.2)) _ h4 (Er (Ak Da h1 (Ah h_v1)) W) (Er (Ak Ej h2 (Ah h_v2)) W))) fun a w F W => ?_
   refine vl tk 3 F W fun a w F W => ?_
   rcases bxq (decide (x3 ≤ 8)) with hb | hb
   ·
    have H := Cg (CQ hb) H
    rw [hb] at F
    refine Hu F W (Ac F Aa Aa Aa Aa) Aa (Ao Aa) (Bu (v := Value.agg #[.int .i64 p0.un.1, .int .i64 p0.un.2.1.un.1, .int .i64 p0.un.2.1.un.2.1, .int .i64 p0.un.2.1.un.2.2.1, v1, .int .i64 p0.un.2.2.1, .int .i64 p0.un.2.2.2.1, v2]) 0 F Aa Aa QI Aa).q fun a w F W => ?_
    refine Iq (Ac F Aa Aa Aa Aa) ?_
    obtain ⟨x4, h5, H⟩ := Ag H
    refine ls F W Aa (AL (v := Value.int .i64 x4) F YW Aa (fun w W => RO any w (v1) (v2) (Tr27.of (p0.un.1, Tr24.of (p0.un.2.1.un.1, p0.un.2.1.un.2.1, p0.un.2.1.un.2.2.1, p0.un.2.1.un.2.2.2), p0.un.2.2.1, p0.un.2.2.2.1, p0.un.2.2.2.2)) _ h5 (Er (Ak Da h1 (Ah h_v1)) W) (Er (Ak Ej h2 (Ah h_v2)) W))) fun a w F W => ?_
    refine vl tk 3 F W fun a w F W => ?_
    rcases bxq (decide (x4 ≤ 64)) with hb | hb
    ·
     have H := Cg (CQ hb) H
     rw [hb] at F
     refine Hu F W (Ac F Aa Aa Aa Aa) Aa (Ao Aa) (Bu (v := Value.agg #[.int .i64 p0.un.1, .int .i64 p0.un.2.1.un.1, .int .i64 p0.un.2.1.un.2.1, .int .i64 p0.un.2.1.un.2.2.1, v1, .int .i64 p0.un.2.2.1, .int .i64 p0.un.2.2.2.1, v2]) 0 F Aa Aa QI Aa).q fun a w F W => ?_
     refine Iq (Ac F Aa Aa Aa Aa) ?_
     obtain ⟨x5, h6, H⟩ := Ag H
     refine ls F W Aa (AL (v := Value.int .i64 x5) F YC Aa (fun w W => Sd any w (v1) (v2) (Tr27.of (p0.un.1, Tr24.of (p0.un.2.1.un.1, p0.un.2.1.un.2.1, p0.un.2.1.un.2.2.1, p0.un.2.1.un.2.2.2), p0.un.2.2.1, p0.un.2.2.2.1, p0.un.2.2.2.2)) _ h6 (Er (Ak Da h1 (Ah h_v1)) W) (Er (Ak Ej h2 (Ah h_v2)) W))) fun a w F W => ?_
     refine vl tk 4 F W fun a w F W => ?_
     refine Ad ?_
     exact ⟨_, H, F.ra Aa, W⟩
    have H := Cf (CO hb) H
    rw [hb] at F
    refine vl tk 6 F W fun a w F W => ?_
    refine Ad ?_
    exact ⟨_, H, F.ra Aa, W⟩
   have H := Cf (CO hb) H
   rw [hb] at F
   refine vl tk 11 F W fun a w F W => ?_
   refine Ad ?_
   exact ⟨_, H, F.ra Aa, W⟩
  have H := Cf (by rw [hb]; decide) H
  rw [hb] at F
  refine vl tk 16 F W fun a w F W => ?_
  refine Ad ?_
  exact ⟨_, H, F.ra Aa, W⟩
 rintro a w ⟨x1, hj, F, W⟩
 have hj := AC hj
 subst hj
 have H := K1
 refine Am ?_
 have H := AC H
 subst H
 refine Ax (.inl Aa) F W Aa (Ap F Aa) ?_
 exact ⟨rfl, W.done⟩
theorem XD : type_of% Tryz.underlying29 := Tryz.underlying29
theorem LU : type_of% Tryz.underlying35 := Tryz.underlying35
theorem JH : type_of% Tryz.underlying37 := Tryz.underlying37
theorem Rz : type_of% Tryz.underlying63 := Tryz.underlying63
theorem Sk : type_of% Tryz.underlying126 := Tryz.underlying126
theorem WB : Has Tryz.prog 10 := CP Tryz.func10
theorem Rj : Bt Tryz.prog 37 [.int .i64 0, .int .i64 0, .int .i64 0, .int .i64 0, .slice none 0 0, .int .i64 0, .int .i64 0, .slice none 0 0] [(0, 1), (1, 4), (5, 1), (6, 1), (7, 1)] := ⟨⟨.agg #[.int .i64 0, .int .i64 0, .int .i64 0, .int .i64 0, .slice none 0 0, .int .i64 0, .int .i64 0, .slice none 0 0], by kernel_rfl, rfl⟩, ⟨_, JH, fun w => by kernel_rfl⟩⟩
theorem Fx : (Tryz.prog.info? 37).bind (·.zero) = some (.agg #[.int .i64 0, .int .i64 0, .int .i64 0, .int .i64 0, .slice none 0 0, .int .i64 0, .int .i64 0, .slice none 0 0]) := by kernel_rfl
inductive Tr34 : Type where
  | mk : Int → Int → Int → (List Tr34) → Tr34
def Tr34.un : Tr34 → Int × Int × Int × List Tr34
  | .mk a0 a1 a2 a3 => (a0, a1, a2, a3)
abbrev Tr34.of (p : Int × Int × Int × List Tr34) : Tr34 := .mk p.1 p.2.1 p.2.2.1 p.2.2.2
def Tr34.cnt : Tr34 → Nat
  | .mk _ _ _ a3 => 1 + ((a3.map Tr34.cnt).sum)
inductive Tr37 : Type where
  | mk : Int → Tr34 → Int → Int → (List Tr37) → Tr37
def Tr37.un : Tr37 → Int × Tr34 × Int × Int × List Tr37
  | .mk a0 a1 a2 a3 a4 => (a0, a1, a2, a3, a4)
abbrev Tr37.of (p : Int × Tr34 × Int × Int × List Tr37) : Tr37 := .mk p.1 p.2.1 p.2.2.1 p.2.2.2.1 p.2.2.2.2
def Tr37.cnt : Tr37 → Nat
  | .mk _ a1 _ _ a4 => 1 + (a1.cnt + (a4.map Tr37.cnt).sum)
abbrev VI (r : Rp Tr34) : Rp (Int × Int × Int × List Tr34) := (Rp.pair (Rp.int .i64) (Rp.pair (Rp.int .i64) (Rp.pair (Rp.int .i64) (Rp.slice r))))
theorem U1 : Kt VI := (Kt.pair (Kt.const _) (Kt.pair (Kt.const _) (Kt.pair (Kt.const _) Kt.hole)))
abbrev Bj : Rp Tr34 := Rp.knot VI Tr34.un U1
theorem Hi {w : World} {A : Nat → Prop} {cs : List Value} {a : Tr34} : Bj.rep w A cs a ↔ (VI Bj).rep w A cs a.un := IY U1
abbrev V2 (r : Rp Tr37) : Rp (Int × Tr34 × Int × Int × List Tr37) := (Rp.pair (Rp.int .i64) (Rp.pair Bj (Rp.pair (Rp.int .i64) (Rp.pair (Rp.int .i64) (Rp.slice r)))))
theorem VQ : Kt V2 := (Kt.pair (Kt.const _) (Kt.pair (Kt.const _) (Kt.pair (Kt.const _) (Kt.pair (Kt.const _) Kt.hole))))
abbrev Bl : Rp Tr37 := Rp.knot V2 Tr37.un VQ
theorem HA {w : World} {A : Nat → Prop} {cs : List Value} {a : Tr37} : Bl.rep w A cs a ↔ (V2 Bl).rep w A cs a.un := IY VQ
theorem NC : Et Tryz.prog 35 37 8 96 := Et.of LU (by kernel_rfl) (by kernel_rfl) (by kernel_rfl) (by decide)
theorem Is : Ty Tryz.prog 37 true 8 := ⟨by kernel_rfl, by kernel_rfl⟩
theorem Wn : ∃ z, (Tryz.prog.info? 29).bind (·.zero) = some z ∧ z.cells = [.int .i64 0, .int .i64 0, .int .i64 0, .int .i64 0].toArray := ⟨.agg #[.int .i64 0, .int .i64 0, .int .i64 0, .int .i64 0], by kernel_rfl, rfl⟩
theorem Sf : Ar Tryz.prog 29 4 3 1 := ⟨XD, by kernel_rfl⟩
abbrev Gr : Rp (Int × Int × Int × (Value × List Tr34)) := (Rp.pair (Rp.int .i64) (Rp.pair (Rp.int .i64) (Rp.pair (Rp.int .i64) (Rp.vsl Bj))))
abbrev Yb (p : Int × Int × Int × (Value × List Tr34)) : Tr34 := (Tr34.of (p.1, p.2.1, p.2.2.1, p.2.2.2.2))
theorem Co : Ex Bj Gr Yb := (Ex.knot U1 (of := Tr34.of) (fun _ => rfl) (fun x => by cases x; rfl) (Ex.pair Ex.rfl' (Ex.pair Ex.rfl' (Ex.pair Ex.rfl' Ex.sliceF))))
abbrev Dd : Rp (Int × (Int × Int × Int × (Value × List Tr34)) × Int × Int × (Value × List Tr37)) := (Rp.pair (Rp.int .i64) (Rp.pair Gr (Rp.pair (Rp.int .i64) (Rp.pair (Rp.int .i64) (Rp.vsl Bl)))))
abbrev XG (p : Int × (Int × Int × Int × (Value × List Tr34)) × Int × Int × (Value × List Tr37)) : Tr37 := (Tr37.of (p.1, (Tr34.of (p.2.1.1, p.2.1.2.1, p.2.1.2.2.1, p.2.1.2.2.2.2)), p.2.2.1, p.2.2.2.1, p.2.2.2.2.2))
theorem Dy : Ex Bl Dd XG := (Ex.knot VQ (of := Tr37.of) (fun _ => rfl) (fun x => by cases x; rfl) (Ex.pair Ex.rfl' (Ex.pair (Ex.knot U1 (of := Tr34.of) (fun _ => rfl) (fun x => by cases x; rfl) (Ex.pair Ex.rfl' (Ex.pair Ex.rfl' (Ex.pair Ex.rfl' Ex.sliceF)))) (Ex.pair Ex.rfl' (Ex.pair Ex.rfl' Ex.sliceF)))))
theorem Tz : Ty Tryz.prog 29 true 4 := ⟨by kernel_rfl, by kernel_rfl⟩
theorem YS : Bt Tryz.prog 63 [.int .i64 0, .int .i64 0, .int .i64 0, .int .i64 0, .int .i64 0] [(0, 1), (1, 4)] := ⟨⟨.agg #[.int .i64 0, .int .i64 0, .int .i64 0, .int .i64 0, .int .i64 0], by kernel_rfl, rfl⟩, ⟨_, Rz, fun w => by kernel_rfl⟩⟩
theorem MT : Ty Tryz.prog 34 true 4 := ⟨by kernel_rfl, by kernel_rfl⟩
theorem XC : Bt Tryz.prog 126 [.int .i64 0, .int .i64 0, .int .i64 0, .int .i64 0, .int .i64 0, .int .i64 0] [(0, 1), (1, 1), (2, 4)] := ⟨⟨.agg #[.int .i64 0, .int .i64 0, .int .i64 0, .int .i64 0, .int .i64 0, .int .i64 0], by kernel_rfl, rfl⟩, ⟨_, Sk, fun w => by kernel_rfl⟩⟩
def Dg (p0 : Int) : Bool := (decide (0 ≤ p0) && decide (p0 ≤ 5))
theorem JW (Y : Nat → Prop) (w0 : World)  (p0 : Int) (r : Bool) (H : Dg p0 = r)  :
    Calls Tryz.prog 119 #[.int .i64 p0] w0 fun e w' => e = .returned (.bool r) ∧ Below w0.heap.size w0 w' := by
 refine enter Tryz.func119 Aa Tryz.ntmps119 Aa fun a F => ?_
 have W := Stw.start Y w0
 unfold Dg at H
 refine vc tk 5 F W fun a w F W => ?_
 refine AA (fun a w => Fr 9 [] [(2, .bool (decide (0 ≤ p0) && decide (p0 ≤ 5)))] a ∧ Stw ⟨Y, [], w0⟩ [] [] w) ?_ ?_
 ·
  refine vc tk 4 F W fun a w F W => ?_
  rcases bxq (decide (0 ≤ p0)) with hb0 | hb0
  ·
   rw [hb0] at F
   refine vl tk 5 F W fun a w F W => ?_
   refine Ad ?_
   exact ⟨F.re ⟨(DX (by try rw [hb0]; all_goals simp only [DW])), trivial⟩, W⟩
  rw [hb0] at F
  refine vl tk 5 F W fun a w F W => ?_
  refine Ad ?_
  exact ⟨F.re ⟨(DX (by try rw [hb0]; all_goals simp only [DW])), trivial⟩, W⟩
 rintro a w ⟨F, W⟩
 refine Am ?_
 subst H
 refine Ax (.inl Aa) F W Aa (Ap F Aa) ?_
 exact ⟨rfl, W.done⟩
theorem VK : Has Tryz.prog 119 := CP Tryz.func119
def Dm (p0 : Int) : Bool := (decide (0 ≤ p0) && decide (p0 < 4))
theorem KJ (Y : Nat → Prop) (w0 : World)  (p0 : Int) (r : Bool) (H : Dm p0 = r)  :
    Calls Tryz.prog 123 #[.int .i64 p0] w0 fun e w' => e = .returned (.bool r) ∧ Below w0.heap.size w0 w' := by
 refine enter Tryz.func123 Aa Tryz.ntmps123 Aa fun a F => ?_
 have W := Stw.start Y w0
 unfold Dm at H
 refine vc tk 5 F W fun a w F W => ?_
 refine AA (fun a w => Fr 9 [] [(2, .bool (decide (0 ≤ p0) && decide (p0 < 4)))] a ∧ Stw ⟨Y, [], w0⟩ [] [] w) ?_ ?_
 ·
  refine vc tk 4 F W fun a w F W => ?_
  rcases bxq (decide (0 ≤ p0)) with hb0 | hb0
  ·
   rw [hb0] at F
   refine vl tk 5 F W fun a w F W => ?_
   refine Ad ?_
   exact ⟨F.re ⟨(DX (by try rw [hb0]; all_goals simp only [DW])), trivial⟩, W⟩
  rw [hb0] at F
  refine vl tk 5 F W fun a w F W => ?_
  refine Ad ?_
  exact ⟨F.re ⟨(DX (by try rw [hb0]; all_goals simp only [DW])), trivial⟩, W⟩
 rintro a w ⟨F, W⟩
 refine Am ?_
 subst H
 refine Ax (.inl Aa) F W Aa (Ap F Aa) ?_
 exact ⟨rfl, W.done⟩
theorem WD : Has Tryz.prog 123 := CP Tryz.func123
abbrev CF (a0 : Int × Int × Int × Int) : List Value := [.int .i64 a0.1, .int .i64 a0.2.1, .int .i64 a0.2.2.1, .int .i64 a0.2.2.2]
def HR (p0 : Int × Int × Int × Int) (p1 : Int) : Option Int := (if (!(Dm p1)) = true then some 0 else (ix ([p0.1, p0.2.1, p0.2.2.1, p0.2.2.2] : List Int) p1).bind fun x1 => some x1)
theorem Qe (Y : Nat → Prop) (w0 : World)  (p0 : Int × Int × Int × Int) (p1 : Int) (r : Int) (H : HR p0 p1 = some r)  :
    Calls Tryz.prog 140 #[.agg #[.int .i64 p0.1, .int .i64 p0.2.1, .int .i64 p0.2.2.1, .int .i64 p0.2.2.2], .int .i64 p1] w0 fun e w' => e = .returned (.int .i64 r) ∧ Below w0.heap.size w0 w' := by
 refine enter Tryz.func140 Aa Tryz.ntmps140 Aa fun a F => ?_
 have W := Stw.start Y w0
 unfold HR at H
 refine vc tk 2 F W fun a w F W => ?_
 refine CX (cs := (CF p0)) F W Aa Aa Aa fun b1 a w F W => ?_
 refine Cv tk 7 F W fun a w F W => ?_
 refine ls F W Aa (AL (v := Value.bool (Dm p1)) F WD Aa (fun w W => KJ any w p1 _ Aa)) fun a w F W => ?_
 refine Cv tk 3 F W fun a w F W => ?_
 refine CK F Aa H (fun F H => ?_) fun F H => ?_
 ·
  refine vc tk 5 F W fun a w F W => ?_
  refine Am (Az ?_)
  have H := AC H
  subst H
  refine Ax (.inl Aa) F W Aa (Ap F Aa) ?_
  exact ⟨rfl, W.done⟩
 refine Gp tk 5 F W fun a w F W => ?_
 obtain ⟨x1, h1, H⟩ := Ag H
 refine ls F W Aa (Rk (0 + (p1).toNat * 1) Sf F Aa Aa Aa h1 Aa).q fun a w F W => ?_
 refine ls F W Aa (Bu (v := Value.int .i64 x1) 0 F Aa Aa T3 (UR (base := 0) (m := 4) (l := [p0.1, p0.2.1, p0.2.2.1, p0.2.2.2]) (enc := Value.int .i64) Aa h1)).q fun a w F W => ?_
 refine Cv tk 3 F W fun a w F W => ?_
 refine Am ?_
 have H := AC H
 subst H
 refine Ax (.inl Aa) F W Aa (Ap F Aa) ?_
 exact ⟨rfl, W.done⟩
theorem XN : Has Tryz.prog 140 := CP Tryz.func140
def IJ (p0 : Int) (p1 : Int) (p2 : Int) (p3 : Int × Int × Int × Int) : Option Int := (if p0 = 4 then some p2 else (if p0 = 5 then some p1 else (if (Dg p0) = true then (HR p3 p0).bind fun x1 => some x1 else some (-1))))
theorem RX (Y : Nat → Prop) (w0 : World)  (p0 : Int) (p1 : Int) (p2 : Int) (p3 : Int × Int × Int × Int) (r : Int) (H : IJ p0 p1 p2 p3 = some r)  :
    Calls Tryz.prog 120 #[.int .i64 p0, .int .i64 p1, .int .i64 p2, .agg #[.int .i64 p3.1, .int .i64 p3.2.1, .int .i64 p3.2.2.1, .int .i64 p3.2.2.2]] w0 fun e w' => e = .returned (.int .i64 r) ∧ Below w0.heap.size w0 w' := by
 refine enter Tryz.func120 Aa Tryz.ntmps120 Aa fun a F => ?_
 have W := Stw.start Y w0
 unfold IJ at H
 refine vc tk 2 F W fun a w F W => ?_
 refine CX (cs := (CF p3)) F W Aa Aa Aa fun b1 a w F W => ?_
 refine Cv tk 12 F W fun a w F W => ?_
 refine B9 F Aa (fun hb => ?_) fun hb => ?_
 ·
  have H := Cg (CQ hb) H
  rw [hb] at F
  refine vc tk 6 F W fun a w F W => ?_
  refine Am (AH (Az ?_))
  have H := AC H
  subst H
  refine Ax (.inl Aa) F W Aa (Ap F Aa) ?_
  exact ⟨rfl, W.done⟩
 have H := Cf (CO hb) H
 rw [hb] at F
 refine vc tk 7 F W fun a w F W => ?_
 refine B9 F Aa (fun hb => ?_) fun hb => ?_
 ·
  have H := Cg (CQ hb) H
  rw [hb] at F
  refine vc tk 6 F W fun a w F W => ?_
  refine Am (AH (Az ?_))
  have H := AC H
  subst H
  refine Ax (.inl Aa) F W Aa (Ap F Aa) ?_
  exact ⟨rfl, W.done⟩
 have H := Cf (CO hb) H
 rw [hb] at F
 refine vc tk 3 F W fun a w F W => ?_
 refine ls F W Aa (AL (v := Value.bool (Dg p0)) F VK Aa (fun w W => JW any w p0 _ Aa)) fun a w F W => ?_
 refine Cv tk 3 F W fun a w F W => ?_
 refine B9 F Aa (fun hb => ?_) fun hb => ?_
 ·
  have H := Cg hb H
  rw [hb] at F
  refine FR tk 4 [0] F W (ai fun a w F W => ?_)
  obtain ⟨x1, h1, H⟩ := Ag H
  refine ls F W Aa (AL (v := Value.int .i64 x1) F XN Aa (fun w W => Qe any w p3 p0 _ h1)) fun a w F W => ?_
  refine Cv tk 3 F W fun a w F W => ?_
  refine Am (AH (Az ?_))
  have H := AC H
  subst H
  refine Ax (.inl Aa) F W Aa (Ap F Aa) ?_
  exact ⟨rfl, W.done⟩
 have H := Cf (by rw [hb]; decide) H
 rw [hb] at F
 refine Bc (AM ?_)
 refine vn tk 5 F W fun a w F W => ?_
 refine Am ?_
 have H := AC H
 subst H
 refine Ax (.inl Aa) F W Aa (Ap F Aa) ?_
 exact ⟨rfl, W.done⟩
theorem Lk : type_of% Tryz.underlying32 := Tryz.underlying32
theorem Yt : Has Tryz.prog 120 := CP Tryz.func120
theorem Th : Ty Tryz.prog 32 false 1 := ⟨by kernel_rfl, by kernel_rfl⟩
theorem XU : Ty Tryz.prog 126 true 6 := ⟨by kernel_rfl, by kernel_rfl⟩
abbrev J4 (a : Int × Int × Int × (Value × List Tr34)) : List Value := [.int .i64 a.1, .int .i64 a.2.1, .int .i64 a.2.2.1, a.2.2.2.1]
theorem Qn : Fj Gr J4 := (Fj.pair Fl.int.to (Fj.pair Fl.int.to (Fj.pair Fl.int.to Fj.vsl)))
theorem Tk : Et Tryz.prog 32 34 4 48 := Et.of Lk (by kernel_rfl) (by kernel_rfl) (by kernel_rfl) (by decide)
theorem Xw : Has Tryz.prog 91 := CP Tryz.func91
abbrev WN (a0 : Int × Int × (Int × Int × Int × Int)) : List Value := [.int .i64 a0.1, .int .i64 a0.2.1, .int .i64 a0.2.2.1, .int .i64 a0.2.2.2.1, .int .i64 a0.2.2.2.2.1, .int .i64 a0.2.2.2.2.2]
abbrev F1 (a0 : Tr34) (a1 : Value) : List Value := [.int .i64 a0.un.1, .int .i64 a0.un.2.1, .int .i64 a0.un.2.2.1, a1]
def Cp (fRec_pred_arrival_satisfies : (Int × Int × (Int × Int × Int × Int)) → Tr34 → Option Bool) (p0 : Int × Int × (Int × Int × Int × Int)) (p1 : Tr34) : Option Bool := (fRec_pred_arrival_satisfies p0 p1).bind fun x1 => some (!x1)
theorem H1 (fRec_pred_arrival_satisfies : (Int × Int × (Int × Int × Int × Int)) → Tr34 → Option Bool) (ih_pred_arrival_satisfies : ∀ (Y : Nat → Prop) (w0 : World) (v1 : Value) (p0 : Int × Int × (Int × Int × Int × Int)) (p1 : Tr34) (r : Bool) (H : fRec_pred_arrival_satisfies p0 p1 = some r) (h_v1 : Sl w0 (NX []) Bj v1 p1.un.2.2.2), Calls Tryz.prog 91 #[.agg #[.int .i64 p0.1, .int .i64 p0.2.1, .int .i64 p0.2.2.1, .int .i64 p0.2.2.2.1, .int .i64 p0.2.2.2.2.1, .int .i64 p0.2.2.2.2.2], .agg #[.int .i64 p1.un.1, .int .i64 p1.un.2.1, .int .i64 p1.un.2.2.1, v1]] w0 fun e w' => e = .returned (.bool r) ∧ Below w0.heap.size w0 w') (Y : Nat → Prop) (w0 : World) (v1 : Value) (p0 : Int × Int × (Int × Int × Int × Int)) (p1 : Tr34) (r : Bool) (H : Cp fRec_pred_arrival_satisfies p0 p1 = some r) (h_v1 : Sl w0 (NX []) Bj v1 p1.un.2.2.2) :
    Calls Tryz.prog 121 #[.agg #[.int .i64 p0.1, .int .i64 p0.2.1, .int .i64 p0.2.2.1, .int .i64 p0.2.2.2.1, .int .i64 p0.2.2.2.2.1, .int .i64 p0.2.2.2.2.2], .agg #[.int .i64 p1.un.1, .int .i64 p1.un.2.1, .int .i64 p1.un.2.2.1, v1]] w0 fun e w' => e = .returned (.bool r) ∧ Below w0.heap.size w0 w' := by
 refine enter Tryz.func121 Aa Tryz.ntmps121 Aa fun a F => ?_
 have W := Stw.start Y w0
 obtain ⟨v2, h1, h_v1⟩ := h_v1.ex Co
 unfold Cp at H
 refine vc tk 2 F W fun a w F W => ?_
 refine CX (cs := (WN p0)) F W Aa Aa Aa fun b1 a w F W => ?_
 refine CX (cs := (F1 p1 v1)) F W Aa Aa Aa fun b2 a w F W => ?_
 refine Gz tk 7 [1, 0] F W (ai (ai fun a w F W => ?_))
 obtain ⟨x1, h2, H⟩ := Ag H
 refine ls F W Aa (AL (v := Value.bool x1) F Xw Aa (fun w W => ih_pred_arrival_satisfies any w (v1) p0 p1 _ h2 (Er (Ak Co h1 (Ah h_v1)) W))) fun a w F W => ?_
 refine Cv tk 4 F W fun a w F W => ?_
 refine Am ?_
 have H := AC H
 subst H
 refine Ax (.inl Aa) F W Aa (Ap F Aa) ?_
 exact ⟨rfl, W.done⟩
theorem W0 : Has Tryz.prog 121 := CP Tryz.func121
def AN (fRec_pred_arrival_satisfies : (Int × Int × (Int × Int × Int × Int)) → Tr34 → Option Bool) (p0 : List Tr34) (p1f0 : Int × Int × (Int × Int × Int × Int)) : Int → Option (Int ⊕ (Unit ⊕ Int))
  | x1 => (if x1 < (p0.length : Int) then (ix p0 x1).bind fun x2 => ((Cp fRec_pred_arrival_satisfies) p1f0 x2).bind fun x3 => (if x3 = true then some (.inr (.inr x1)) else some (.inl (AU (x1 + 1)))) else some (.inr (.inl ())))
def Bh (fRec_pred_arrival_satisfies : (Int × Int × (Int × Int × Int × Int)) → Tr34 → Option Bool) (p0 : List Tr34) (p1f0 : Int × Int × (Int × Int × Int × Int)) : Option Int := Ku (Ba (AN fRec_pred_arrival_satisfies p0 p1f0) 0) fun _ => some (-1)
theorem Gn (fRec_pred_arrival_satisfies : (Int × Int × (Int × Int × Int × Int)) → Tr34 → Option Bool) (ih_pred_arrival_satisfies : ∀ (Y : Nat → Prop) (w0 : World) (v1 : Value) (p0 : Int × Int × (Int × Int × Int × Int)) (p1 : Tr34) (r : Bool) (H : fRec_pred_arrival_satisfies p0 p1 = some r) (h_v1 : Sl w0 (NX []) Bj v1 p1.un.2.2.2), Calls Tryz.prog 91 #[.agg #[.int .i64 p0.1, .int .i64 p0.2.1, .int .i64 p0.2.2.1, .int .i64 p0.2.2.2.1, .int .i64 p0.2.2.2.2.1, .int .i64 p0.2.2.2.2.2], .agg #[.int .i64 p1.un.1, .int .i64 p1.un.2.1, .int .i64 p1.un.2.2.1, v1]] w0 fun e w' => e = .returned (.bool r) ∧ Below w0.heap.size w0 w') (Y : Nat → Prop) (w0 : World) (v1 : Value) (p0 : List Tr34) (p1f0 : Int × Int × (Int × Int × Int × Int)) (r : Int) (H : Bh fRec_pred_arrival_satisfies p0 p1f0 = some r) (h_v1 : Sl w0 (NX []) Bj v1 p0) :
    Calls Tryz.prog 141 #[v1, .func (.func 121) #[.agg #[.int .i64 p1f0.1, .int .i64 p1f0.2.1, .int .i64 p1f0.2.2.1, .int .i64 p1f0.2.2.2.1, .int .i64 p1f0.2.2.2.2.1, .int .i64 p1f0.2.2.2.2.2]] #[]] w0 fun e w' => e = .returned (.int .i64 r) ∧ Below w0.heap.size w0 w' := by
 refine enter Tryz.func141 Aa Tryz.ntmps141 Aa fun a F => ?_
 have W := Stw.start Y w0
 obtain ⟨v2, h1, h_v1⟩ := h_v1.ex Co
 unfold Bh at H
 refine vc tk 5 F W fun a w F W => ?_
 obtain ⟨o1, G1, K1, L1⟩ := RM H
 refine AA (fun a w => some (Sum.inl ()) = some o1 ∧ Fr 19 [] [(4, .int .i64 0)] a ∧ Stw ⟨Y, [], w0⟩ [] [] w) ?_ ?_
 ·
  have H := G1
  refine vc tk 3 F W fun a w F W => ?_
  refine ls F W Aa (C2 (r := Bj) (l := p0) Lk Aa F Aa (Ak Co h1 (Ah h_v1))).q fun a w F W => ?_
  refine Cv tk 4 F W fun a w F W => ?_
  refine BN H (fun s a w => Fr 19 [] [(0, v1), (1, .func (.func 121) #[.agg #[.int .i64 p1f0.1, .int .i64 p1f0.2.1, .int .i64 p1f0.2.2.1, .int .i64 p1f0.2.2.2.1, .int .i64 p1f0.2.2.2.2.1, .int .i64 p1f0.2.2.2.2.2]] #[]), (4, .int .i64 0), (7, .int .i64 (p0.length : Int)), (8, .int .i64 s)] a ∧ Stw ⟨Y, [], w0⟩ [] [] w) ⟨F.ra Aa, W⟩ fun s o a w H L2 hR => ?_
  obtain ⟨x1, rfl⟩ : ∃ x, x = s := ⟨s, rfl⟩
  obtain ⟨F, W⟩ := hR
  have F : Fr 19 [] [(0, v1), (1, .func (.func 121) #[.agg #[.int .i64 p1f0.1, .int .i64 p1f0.2.1, .int .i64 p1f0.2.2.1, .int .i64 p1f0.2.2.2.1, .int .i64 p1f0.2.2.2.2.1, .int .i64 p1f0.2.2.2.2.2]] #[]), (4, .int .i64 0), (7, .int .i64 (p0.length : Int)), (8, .int .i64 x1)] a := F
  have W : Stw ⟨Y, [], w0⟩ [] [] w := W
  rw [AN] at H
  refine vc tk 6 F W fun a w F W => ?_
  refine BU F Aa H (fun F H => ?_) fun F H => ?_
  ·
   refine Gp tk 15 F W fun a w F W => ?_
   obtain ⟨x2, h2, H⟩ := Ag H
   obtain ⟨v3, h3, h4⟩ := DQ h1 h2
   have h5 : J4 v3 = [.int .i64 x2.un.1, .int .i64 x2.un.2.1, .int .i64 x2.un.2.2.1, (v3.2.2.2.1)] := congrArg (fun q : Tr34 => ([.int .i64 q.un.1, .int .i64 q.un.2.1, .int .i64 q.un.2.2.1, (v3.2.2.2.1)] : List Value)) h4
   refine ls F W Aa (Aw (r := Gr) Tk F Aa Aa (Ah h_v1) h3).q fun a w F W => ?_
   refine ls F W Aa (An (y := Value.agg #[.int .i64 x2.un.1, .int .i64 x2.un.2.1, .int .i64 x2.un.2.2.1, (v3.2.2.2.1)]) (j := 0) (i := x1) (enc := J4) F Aa Aa (Ah h_v1) h3 Qn MT (by rw [h5]; rfl)).q fun a w F W => ?_
   obtain ⟨x3, h6, H⟩ := Ag H
   refine ls F W Aa (ES (ws := [.agg #[.int .i64 p1f0.1, .int .i64 p1f0.2.1, .int .i64 p1f0.2.2.1, .int .i64 p1f0.2.2.2.1, .int .i64 p1f0.2.2.2.2.1, .int .i64 p1f0.2.2.2.2.2], .agg #[.int .i64 x2.un.1, .int .i64 x2.un.2.1, .int .i64 x2.un.2.2.1, (v3.2.2.2.1)]]) (v := Value.bool x3) F W0 Aa (fun w W => (H1 fRec_pred_arrival_satisfies ih_pred_arrival_satisfies) any w ((v3.2.2.2.1)) p1f0 x2 _ h6 (Er (Br (Ah h_v1) h3 (Ai.snd (Ai.snd (Ai.snd Ai.here))) (congrArg (fun q : Tr34 => q.un.2.2.2) h4)) W))) fun a w F W => ?_
   refine Cv tk 2 F W fun a w F W => ?_
   refine CK F Aa H (fun F H => ?_) fun F H => ?_
   ·
    refine vc tk 6 F W fun a w F W => ?_
    refine Am (AH ?_)
    iterate 2 refine Az ?_
    refine AH (Az ?_)
    have H := L2 _ H
    have H := L1 _ H
    have H := AC H
    subst H
    refine Ax (.inl Aa) F W Aa (Ap F Aa) ?_
    exact ⟨rfl, W.done⟩
   refine Bc (AM ?_)
   refine vn tk 4 F W fun a w F W => ?_
   refine Ad ?_
   exact ⟨_, H, F.ra Aa, W⟩
  refine BB ?_
  iterate 2 refine BR ?_
  refine Bx (Ad ?_)
  have H := L2 _ H
  exact ⟨H, F.ra Aa, W⟩
 rintro a w ⟨hj, F, W⟩
 have H := K1 _ hj
 refine vc tk 5 F W fun a w F W => ?_
 refine Am ?_
 have H := AC H
 subst H
 refine Ax (.inl Aa) F W Aa (Ap F Aa) ?_
 exact ⟨rfl, W.done⟩
theorem WS : Has Tryz.prog 141 := CP Tryz.func141
def A8 (fRec_pred_arrival_satisfies : (Int × Int × (Int × Int × Int × Int)) → Tr34 → Option Bool) (p0 : List Tr34) (p1f0 : Int × Int × (Int × Int × Int × Int)) : Option Bool := ((Bh fRec_pred_arrival_satisfies) p0 p1f0).bind fun x1 => some (decide (0 ≤ x1))
theorem FU (fRec_pred_arrival_satisfies : (Int × Int × (Int × Int × Int × Int)) → Tr34 → Option Bool) (ih_pred_arrival_satisfies : ∀ (Y : Nat → Prop) (w0 : World) (v1 : Value) (p0 : Int × Int × (Int × Int × Int × Int)) (p1 : Tr34) (r : Bool) (H : fRec_pred_arrival_satisfies p0 p1 = some r) (h_v1 : Sl w0 (NX []) Bj v1 p1.un.2.2.2), Calls Tryz.prog 91 #[.agg #[.int .i64 p0.1, .int .i64 p0.2.1, .int .i64 p0.2.2.1, .int .i64 p0.2.2.2.1, .int .i64 p0.2.2.2.2.1, .int .i64 p0.2.2.2.2.2], .agg #[.int .i64 p1.un.1, .int .i64 p1.un.2.1, .int .i64 p1.un.2.2.1, v1]] w0 fun e w' => e = .returned (.bool r) ∧ Below w0.heap.size w0 w') (Y : Nat → Prop) (w0 : World) (v1 : Value) (p0 : List Tr34) (p1f0 : Int × Int × (Int × Int × Int × Int)) (r : Bool) (H : A8 fRec_pred_arrival_satisfies p0 p1f0 = some r) (h_v1 : Sl w0 (NX []) Bj v1 p0) :
    Calls Tryz.prog 122 #[v1, .func (.func 121) #[.agg #[.int .i64 p1f0.1, .int .i64 p1f0.2.1, .int .i64 p1f0.2.2.1, .int .i64 p1f0.2.2.2.1, .int .i64 p1f0.2.2.2.2.1, .int .i64 p1f0.2.2.2.2.2]] #[]] w0 fun e w' => e = .returned (.bool r) ∧ Below w0.heap.size w0 w' := by
 refine enter Tryz.func122 Aa Tryz.ntmps122 Aa fun a F => ?_
 have W := Stw.start Y w0
 obtain ⟨v2, h1, h_v1⟩ := h_v1.ex Co
 unfold A8 at H
 refine vc tk 9 F W fun a w F W => ?_
 obtain ⟨x1, h2, H⟩ := Ag H
 refine ls F W Aa (AL (v := Value.int .i64 x1) F WS Aa (fun w W => (Gn fRec_pred_arrival_satisfies ih_pred_arrival_satisfies) any w (v1) p0 p1f0 _ h2 (Er (Ak Co h1 (Ah h_v1)) W))) fun a w F W => ?_
 refine Cv tk 4 F W fun a w F W => ?_
 refine Am ?_
 have H := AC H
 subst H
 refine Ax (.inl Aa) F W Aa (Ap F Aa) ?_
 exact ⟨rfl, W.done⟩
theorem WJ : Has Tryz.prog 122 := CP Tryz.func122
def AJ (fRec_pred_arrival_satisfies : (Int × Int × (Int × Int × Int × Int)) → Tr34 → Option Bool) (p0 : List Tr34) (p1f0 : Int × Int × (Int × Int × Int × Int)) : Int → Option (Int ⊕ (Unit ⊕ Int))
  | x1 => (if x1 < (p0.length : Int) then (ix p0 x1).bind fun x2 => (fRec_pred_arrival_satisfies p1f0 x2).bind fun x3 => (if x3 = true then some (.inr (.inr x1)) else some (.inl (AU (x1 + 1)))) else some (.inr (.inl ())))
def Bb (fRec_pred_arrival_satisfies : (Int × Int × (Int × Int × Int × Int)) → Tr34 → Option Bool) (p0 : List Tr34) (p1f0 : Int × Int × (Int × Int × Int × Int)) : Option Int := Ku (Ba (AJ fRec_pred_arrival_satisfies p0 p1f0) 0) fun _ => some (-1)
theorem F9 (fRec_pred_arrival_satisfies : (Int × Int × (Int × Int × Int × Int)) → Tr34 → Option Bool) (ih_pred_arrival_satisfies : ∀ (Y : Nat → Prop) (w0 : World) (v1 : Value) (p0 : Int × Int × (Int × Int × Int × Int)) (p1 : Tr34) (r : Bool) (H : fRec_pred_arrival_satisfies p0 p1 = some r) (h_v1 : Sl w0 (NX []) Bj v1 p1.un.2.2.2), Calls Tryz.prog 91 #[.agg #[.int .i64 p0.1, .int .i64 p0.2.1, .int .i64 p0.2.2.1, .int .i64 p0.2.2.2.1, .int .i64 p0.2.2.2.2.1, .int .i64 p0.2.2.2.2.2], .agg #[.int .i64 p1.un.1, .int .i64 p1.un.2.1, .int .i64 p1.un.2.2.1, v1]] w0 fun e w' => e = .returned (.bool r) ∧ Below w0.heap.size w0 w') (Y : Nat → Prop) (w0 : World) (v1 : Value) (p0 : List Tr34) (p1f0 : Int × Int × (Int × Int × Int × Int)) (r : Int) (H : Bb fRec_pred_arrival_satisfies p0 p1f0 = some r) (h_v1 : Sl w0 (NX []) Bj v1 p0) :
    Calls Tryz.prog 141 #[v1, .func (.func 91) #[.agg #[.int .i64 p1f0.1, .int .i64 p1f0.2.1, .int .i64 p1f0.2.2.1, .int .i64 p1f0.2.2.2.1, .int .i64 p1f0.2.2.2.2.1, .int .i64 p1f0.2.2.2.2.2]] #[]] w0 fun e w' => e = .returned (.int .i64 r) ∧ Below w0.heap.size w0 w' := by
 refine enter Tryz.func141 Aa Tryz.ntmps141 Aa fun a F => ?_
 have W := Stw.start Y w0
 obtain ⟨v2, h1, h_v1⟩ := h_v1.ex Co
 unfold Bb at H
 refine vc tk 5 F W fun a w F W => ?_
 obtain ⟨o1, G1, K1, L1⟩ := RM H
 refine AA (fun a w => some (Sum.inl ()) = some o1 ∧ Fr 19 [] [(4, .int .i64 0)] a ∧ Stw ⟨Y, [], w0⟩ [] [] w) ?_ ?_
 ·
  have H := G1
  refine vc tk 3 F W fun a w F W => ?_
  refine ls F W Aa (C2 (r := Bj) (l := p0) Lk Aa F Aa (Ak Co h1 (Ah h_v1))).q fun a w F W => ?_
  refine Cv tk 4 F W fun a w F W => ?_
  refine BN H (fun s a w => Fr 19 [] [(0, v1), (1, .func (.func 91) #[.agg #[.int .i64 p1f0.1, .int .i64 p1f0.2.1, .int .i64 p1f0.2.2.1, .int .i64 p1f0.2.2.2.1, .int .i64 p1f0.2.2.2.2.1, .int .i64 p1f0.2.2.2.2.2]] #[]), (4, .int .i64 0), (7, .int .i64 (p0.length : Int)), (8, .int .i64 s)] a ∧ Stw ⟨Y, [], w0⟩ [] [] w) ⟨F.ra Aa, W⟩ fun s o a w H L2 hR => ?_
  obtain ⟨x1, rfl⟩ : ∃ x, x = s := ⟨s, rfl⟩
  obtain ⟨F, W⟩ := hR
  have F : Fr 19 [] [(0, v1), (1, .func (.func 91) #[.agg #[.int .i64 p1f0.1, .int .i64 p1f0.2.1, .int .i64 p1f0.2.2.1, .int .i64 p1f0.2.2.2.1, .int .i64 p1f0.2.2.2.2.1, .int .i64 p1f0.2.2.2.2.2]] #[]), (4, .int .i64 0), (7, .int .i64 (p0.length : Int)), (8, .int .i64 x1)] a := F
  have W : Stw ⟨Y, [], w0⟩ [] [] w := W
  rw [AJ] at H
  refine vc tk 6 F W fun a w F W => ?_
  refine BU F Aa H (fun F H => ?_) fun F H => ?_
  ·
   refine Gp tk 15 F W fun a w F W => ?_
   obtain ⟨x2, h2, H⟩ := Ag H
   obtain ⟨v3, h3, h4⟩ := DQ h1 h2
   have h5 : J4 v3 = [.int .i64 x2.un.1, .int .i64 x2.un.2.1, .int .i64 x2.un.2.2.1, (v3.2.2.2.1)] := congrArg (fun q : Tr34 => ([.int .i64 q.un.1, .int .i64 q.un.2.1, .int .i64 q.un.2.2.1, (v3.2.2.2.1)] : List Value)) h4
   refine ls F W Aa (Aw (r := Gr) Tk F Aa Aa (Ah h_v1) h3).q fun a w F W => ?_
   refine ls F W Aa (An (y := Value.agg #[.int .i64 x2.un.1, .int .i64 x2.un.2.1, .int .i64 x2.un.2.2.1, (v3.2.2.2.1)]) (j := 0) (i := x1) (enc := J4) F Aa Aa (Ah h_v1) h3 Qn MT (by rw [h5]; rfl)).q fun a w F W => ?_
   obtain ⟨x3, h6, H⟩ := Ag H
   refine ls F W Aa (ES (ws := [.agg #[.int .i64 p1f0.1, .int .i64 p1f0.2.1, .int .i64 p1f0.2.2.1, .int .i64 p1f0.2.2.2.1, .int .i64 p1f0.2.2.2.2.1, .int .i64 p1f0.2.2.2.2.2], .agg #[.int .i64 x2.un.1, .int .i64 x2.un.2.1, .int .i64 x2.un.2.2.1, (v3.2.2.2.1)]]) (v := Value.bool x3) F Xw Aa (fun w W => ih_pred_arrival_satisfies any w ((v3.2.2.2.1)) p1f0 x2 _ h6 (Er (Br (Ah h_v1) h3 (Ai.snd (Ai.snd (Ai.snd Ai.here))) (congrArg (fun q : Tr34 => q.un.2.2.2) h4)) W))) fun a w F W => ?_
   refine Cv tk 2 F W fun a w F W => ?_
   refine CK F Aa H (fun F H => ?_) fun F H => ?_
   ·
    refine vc tk 6 F W fun a w F W => ?_
    refine Am (AH ?_)
    iterate 2 refine Az ?_
    refine AH (Az ?_)
    have H := L2 _ H
    have H := L1 _ H
    have H := AC H
    subst H
    refine Ax (.inl Aa) F W Aa (Ap F Aa) ?_
    exact ⟨rfl, W.done⟩
   refine Bc (AM ?_)
   refine vn tk 4 F W fun a w F W => ?_
   refine Ad ?_
   exact ⟨_, H, F.ra Aa, W⟩
  refine BB ?_
  iterate 2 refine BR ?_
  refine Bx (Ad ?_)
  have H := L2 _ H
  exact ⟨H, F.ra Aa, W⟩
 rintro a w ⟨hj, F, W⟩
 have H := K1 _ hj
 refine vc tk 5 F W fun a w F W => ?_
 refine Am ?_
 have H := AC H
 subst H
 refine Ax (.inl Aa) F W Aa (Ap F Aa) ?_
 exact ⟨rfl, W.done⟩
def AV (fRec_pred_arrival_satisfies : (Int × Int × (Int × Int × Int × Int)) → Tr34 → Option Bool) (p0 : List Tr34) (p1f0 : Int × Int × (Int × Int × Int × Int)) : Option Bool := ((Bb fRec_pred_arrival_satisfies) p0 p1f0).bind fun x1 => some (decide (0 ≤ x1))
theorem Fh (fRec_pred_arrival_satisfies : (Int × Int × (Int × Int × Int × Int)) → Tr34 → Option Bool) (ih_pred_arrival_satisfies : ∀ (Y : Nat → Prop) (w0 : World) (v1 : Value) (p0 : Int × Int × (Int × Int × Int × Int)) (p1 : Tr34) (r : Bool) (H : fRec_pred_arrival_satisfies p0 p1 = some r) (h_v1 : Sl w0 (NX []) Bj v1 p1.un.2.2.2), Calls Tryz.prog 91 #[.agg #[.int .i64 p0.1, .int .i64 p0.2.1, .int .i64 p0.2.2.1, .int .i64 p0.2.2.2.1, .int .i64 p0.2.2.2.2.1, .int .i64 p0.2.2.2.2.2], .agg #[.int .i64 p1.un.1, .int .i64 p1.un.2.1, .int .i64 p1.un.2.2.1, v1]] w0 fun e w' => e = .returned (.bool r) ∧ Below w0.heap.size w0 w') (Y : Nat → Prop) (w0 : World) (v1 : Value) (p0 : List Tr34) (p1f0 : Int × Int × (Int × Int × Int × Int)) (r : Bool) (H : AV fRec_pred_arrival_satisfies p0 p1f0 = some r) (h_v1 : Sl w0 (NX []) Bj v1 p0) :
    Calls Tryz.prog 122 #[v1, .func (.func 91) #[.agg #[.int .i64 p1f0.1, .int .i64 p1f0.2.1, .int .i64 p1f0.2.2.1, .int .i64 p1f0.2.2.2.1, .int .i64 p1f0.2.2.2.2.1, .int .i64 p1f0.2.2.2.2.2]] #[]] w0 fun e w' => e = .returned (.bool r) ∧ Below w0.heap.size w0 w' := by
 refine enter Tryz.func122 Aa Tryz.ntmps122 Aa fun a F => ?_
 have W := Stw.start Y w0
 obtain ⟨v2, h1, h_v1⟩ := h_v1.ex Co
 unfold AV at H
 refine vc tk 9 F W fun a w F W => ?_
 obtain ⟨x1, h2, H⟩ := Ag H
 refine ls F W Aa (AL (v := Value.int .i64 x1) F WS Aa (fun w W => (F9 fRec_pred_arrival_satisfies ih_pred_arrival_satisfies) any w (v1) p0 p1f0 _ h2 (Er (Ak Co h1 (Ah h_v1)) W))) fun a w F W => ?_
 refine Cv tk 4 F W fun a w F W => ?_
 refine Am ?_
 have H := AC H
 subst H
 refine Ax (.inl Aa) F W Aa (Ap F Aa) ?_
 exact ⟨rfl, W.done⟩
theorem Lj : type_of% Tryz.underlying34 := Tryz.underlying34
abbrev WR (a0 : Nat) (a1 : Tr34) (a2 : Value) (a3 : Nat) (a4 : Int × Int × (Int × Int × Int × Int)) : List (Nat × List Value) := [(a0, [.int .i64 a1.un.1, .int .i64 a1.un.2.1, .int .i64 a1.un.2.2.1, a2]), (a3, [.int .i64 a4.1, .int .i64 a4.2.1, .int .i64 a4.2.2.1, .int .i64 a4.2.2.2.1, .int .i64 a4.2.2.2.2.1, .int .i64 a4.2.2.2.2.2])]
abbrev Vq (a0 : Int × Int × (Int × Int × Int × Int)) : List Value := [.agg #[.int .i64 a0.1, .int .i64 a0.2.1, .int .i64 a0.2.2.1, .int .i64 a0.2.2.2.1, .int .i64 a0.2.2.2.2.1, .int .i64 a0.2.2.2.2.2]]
def BM (fRec : (Int × Int × (Int × Int × Int × Int)) → Tr34 → Option Bool) (p0 : Int × Int × (Int × Int × Int × Int)) (p1 : Tr34) : Option Bool := (if p1.un.1 = 1 then some true else (if p1.un.1 = 3 then (if (Dg p1.un.2.1) = true then (IJ p1.un.2.1 p0.1 p0.2.1 p0.2.2).bind fun x2 => some (decide (x2 = p1.un.2.2.1)) else some false).bind fun x1 => some x1 else (if p1.un.1 = 4 then (if 0 < (p1.un.2.2.2.length : Int) then (ix p1.un.2.2.2 0).bind fun x4 => ((Cp fRec) p0 x4).bind fun x5 => some x5 else some false).bind fun x3 => some x3 else (if p1.un.1 = 5 then ((A8 fRec) p1.un.2.2.2 p0).bind fun x6 => some (!x6) else (if p1.un.1 = 6 then ((AV fRec) p1.un.2.2.2 p0).bind fun x7 => some x7 else some false)))))
def Bk : Nat → (Int × Int × (Int × Int × Int × Int)) → Tr34 → Option Bool
  | 0 => fun _ _ => none
  | n + 1 => BM (Bk n)
def D7 (p0 : Int × Int × (Int × Int × Int × Int)) (p1 : Tr34) : Option Bool := HC fun n => Bk n p0 p1
theorem IW (fRec : (Int × Int × (Int × Int × Int × Int)) → Tr34 → Option Bool) (ih : ∀ (Y : Nat → Prop) (w0 : World) (v1 : Value) (p0 : Int × Int × (Int × Int × Int × Int)) (p1 : Tr34) (r : Bool) (H : fRec p0 p1 = some r) (h_v1 : Sl w0 (NX []) Bj v1 p1.un.2.2.2), Calls Tryz.prog 91 #[.agg #[.int .i64 p0.1, .int .i64 p0.2.1, .int .i64 p0.2.2.1, .int .i64 p0.2.2.2.1, .int .i64 p0.2.2.2.2.1, .int .i64 p0.2.2.2.2.2], .agg #[.int .i64 p1.un.1, .int .i64 p1.un.2.1, .int .i64 p1.un.2.2.1, v1]] w0 fun e w' => e = .returned (.bool r) ∧ Below w0.heap.size w0 w') (Y : Nat → Prop) (w0 : World) (v1 : Value) (p0 : Int × Int × (Int × Int × Int × Int)) (p1 : Tr34) (r : Bool) (H : BM fRec p0 p1 = some r) (h_v1 : Sl w0 (NX []) Bj v1 p1.un.2.2.2) :
    Calls Tryz.prog 91 #[.agg #[.int .i64 p0.1, .int .i64 p0.2.1, .int .i64 p0.2.2.1, .int .i64 p0.2.2.2.1, .int .i64 p0.2.2.2.2.1, .int .i64 p0.2.2.2.2.2], .agg #[.int .i64 p1.un.1, .int .i64 p1.un.2.1, .int .i64 p1.un.2.2.1, v1]] w0 fun e w' => e = .returned (.bool r) ∧ Below w0.heap.size w0 w' := by
 refine enter Tryz.func91 Aa Tryz.ntmps91 Aa fun a F => ?_
 have W := Stw.start Y w0
 obtain ⟨v2, h1, h_v1⟩ := h_v1.ex Co
 unfold BM at H
 refine vc tk 2 F W fun a w F W => ?_
 refine CX (cs := (WN p0)) F W Aa Aa Aa fun b1 a w F W => ?_
 refine CX (cs := (F1 p1 v1)) F W Aa Aa Aa fun b2 a w F W => ?_
 refine Gz tk 17 [0] F W (ai fun a w F W => ?_)
 refine B9 F Aa (fun hb => ?_) fun hb => ?_
 ·
  have H := Cg (CQ hb) H
  rw [hb] at F
  refine vc tk 5 F W fun a w F W => ?_
  refine Am (AH (Az ?_))
  have H := AC H
  subst H
  refine Ax (.inl Aa) F W Aa (Ap F Aa) ?_
  exact ⟨rfl, W.done⟩
 have H := Cf (CO hb) H
 rw [hb] at F
 refine vc tk 6 F W fun a w F W => ?_
 refine B9 F Aa (fun hb => ?_) fun hb => ?_
 ·
  have H := Cg (CQ hb) H
  rw [hb] at F
  obtain ⟨o1, G1, K1⟩ := Ag H
  refine AA (fun a w => ∃ x1 : Bool, some (x1) = some o1 ∧ Fr 57 [] [(4, .bool x1)] a ∧ Stw ⟨Y, [], w0⟩ (WR b2 p1 v1 b1 p0) [] w) ?_ ?_
  ·
   have H := G1
   refine CH W MO (by kernel_rfl) ?_
   refine qs F Aa (As Lj Aa Aa Aa T3 F Aa 1 Aa).q fun a F => ?_
   refine qs F Aa (Bu (v := Value.int .i64 p1.un.2.1) 0 F Aa Aa T3 Aa).q fun a F => ?_
   refine qs F Aa (AL (v := Value.bool (Dg p1.un.2.1)) F VK Aa (fun w W => JW any w p1.un.2.1 _ Aa)) fun a F => ?_
   refine qs F Aa (Aq F Aa).q fun a F => ?_
   rcases bxq (Dg p1.un.2.1) with hb | hb
   ·
    have H := Cg hb H
    rw [hb] at F
    refine AP F (Ac F Aa Aa Aa Aa) Aa (Ao Aa) (As Lj Aa Aa Aa T3 F Aa 1 Aa).q fun a F => ?_
    refine AP F (Ac F Aa Aa Aa Aa) Aa (Ao Aa) (Bu (v := Value.int .i64 p1.un.2.1) 0 F Aa Aa T3 Aa).q fun a F => ?_
    refine AP F (Ac F Aa Aa Aa Aa) Aa (Ao Aa) (As Sk Aa Aa Aa T3 F Aa 0 Aa).q fun a F => ?_
    refine AP F (Ac F Aa Aa Aa Aa) Aa (Ao Aa) (Bu (v := Value.int .i64 p0.1) 1 F Aa Aa T3 Aa).q fun a F => ?_
    refine AP F (Ac F Aa Aa Aa Aa) Aa (Ao Aa) (As Sk Aa Aa Aa T3 F Aa 1 Aa).q fun a F => ?_
    refine AP F (Ac F Aa Aa Aa Aa) Aa (Ao Aa) (Bu (v := Value.int .i64 p0.2.1) 1 F Aa Aa T3 Aa).q fun a F => ?_
    refine AP F (Ac F Aa Aa Aa Aa) Aa (Ao Aa) (As Sk Aa Aa Aa Tz F Aa 2 Aa).q fun a F => ?_
    refine AP F (Ac F Aa Aa Aa Aa) Aa (Ao Aa) (Bu (v := Value.agg #[.int .i64 p0.2.2.1, .int .i64 p0.2.2.2.1, .int .i64 p0.2.2.2.2.1, .int .i64 p0.2.2.2.2.2]) 1 F Aa Aa Tz Aa).q fun a F => ?_
    obtain ⟨x2, h2, H⟩ := Ag H
    refine AP F (Ac F Aa Aa Aa Aa) Aa (Ao Aa) (AL (v := Value.int .i64 x2) F Yt Aa (fun w W => RX any w p1.un.2.1 p0.1 p0.2.1 p0.2.2 _ h2)) fun a F => ?_
    refine AP F (Ac F Aa Aa Aa Aa) Aa (Ao Aa) (As Lj Aa Aa Aa T3 F Aa 2 Aa).q fun a F => ?_
    refine AP F (Ac F Aa Aa Aa Aa) Aa (Ao Aa) (Bu (v := Value.int .i64 p1.un.2.2.1) 0 F Aa Aa T3 Aa).q fun a F => ?_
    refine AP F (Ac F Aa Aa Aa Aa) Aa (Ao Aa) (PO F Aa Aa).q fun a F => ?_
    refine qs F Aa (BI F Aa Aa Aa).q fun a F => ?_
    refine qs F Aa (Bz F Aa).q fun a F => ?_
    refine AO fun w W => ?_
    refine Ad ?_
    have W := W.frontM (i := 1) Aa Aa
    have W := W.frontM (i := 1) Aa Aa
    exact ⟨_, H, F.ra Aa, W⟩
   have H := Cf (by rw [hb]; decide) H
   rw [hb] at F
   iterate 12 refine Bp F (Be F Aa Aa Aa Aa Aa) Aa Aa fun a F => ?_
   refine qs F Aa (BA F Aa Aa Aa).q fun a F => ?_
   refine qs F Aa (Bz F Aa).q fun a F => ?_
   refine AO fun w W => ?_
   refine Ad ?_
   have W := W.frontM (i := 1) Aa Aa
   have W := W.frontM (i := 1) Aa Aa
   exact ⟨_, H, F.ra Aa, W⟩
  rintro a w ⟨x1, hj, F, W⟩
  have hj := AC hj
  subst hj
  have H := K1
  refine Am (AH (Az ?_))
  have H := AC H
  subst H
  refine Ax (.inl Aa) F W Aa (Ap F Aa) ?_
  exact ⟨rfl, W.done⟩
 have H := Cf (CO hb) H
 rw [hb] at F
 refine vc tk 6 F W fun a w F W => ?_
 refine B9 F Aa (fun hb => ?_) fun hb => ?_
 ·
  have H := Cg (CQ hb) H
  rw [hb] at F
  obtain ⟨o2, G2, K2⟩ := Ag H
  refine AA (fun a w => ∃ x3 : Bool, some (x3) = some o2 ∧ Fr 57 [] [(4, .bool x3)] a ∧ Stw ⟨Y, [], w0⟩ (WR b2 p1 v1 b1 p0) [] w) ?_ ?_
  ·
   have H := G2
   refine CH W MO (by kernel_rfl) ?_
   refine qs F Aa (As Lj Aa Aa Aa Th F Aa 3 Aa).q fun a F => ?_
   refine qs F Aa (Bu (v := v1) 0 F Aa Aa Th Aa).q fun a F => ?_
   refine qs F Aa (C2 (r := Bj) (l := p1.un.2.2.2) Lk Aa F Aa (Ak Co h1 (Ah h_v1))).q fun a F => ?_
   refine qs F Aa (Nx F Aa Aa).q fun a F => ?_
   refine qs F Aa (Aq F Aa).q fun a F => ?_
   rcases bxq (decide (0 < (p1.un.2.2.2.length : Int))) with hb | hb
   ·
    have H := Cg (CQ hb) H
    rw [hb] at F
    refine AP F (Ac F Aa Aa Aa Aa) Aa (Ao Aa) (Bu (v := Value.agg #[.int .i64 p0.1, .int .i64 p0.2.1, .int .i64 p0.2.2.1, .int .i64 p0.2.2.2.1, .int .i64 p0.2.2.2.2.1, .int .i64 p0.2.2.2.2.2]) 1 F Aa Aa XU Aa).q fun a F => ?_
    refine AP F (Ac F Aa Aa Aa Aa) Aa (Ao Aa) (As Lj Aa Aa Aa Th F Aa 3 Aa).q fun a F => ?_
    refine AP F (Ac F Aa Aa Aa Aa) Aa (Ao Aa) (Bu (v := v1) 0 F Aa Aa Th Aa).q fun a F => ?_
    obtain ⟨x4, h3, H⟩ := Ag H
    obtain ⟨v3, h4, h5⟩ := DQ h1 h3
    have h6 : J4 v3 = [.int .i64 x4.un.1, .int .i64 x4.un.2.1, .int .i64 x4.un.2.2.1, (v3.2.2.2.1)] := congrArg (fun q : Tr34 => ([.int .i64 q.un.1, .int .i64 q.un.2.1, .int .i64 q.un.2.2.1, (v3.2.2.2.1)] : List Value)) h5
    refine AP F (Ac F Aa Aa Aa Aa) Aa (Ao Aa) (Aw (r := Gr) Tk F Aa Aa (Ah h_v1) h4).q fun a F => ?_
    refine AP F (Ac F Aa Aa Aa Aa) Aa (Ao Aa) (An (y := Value.agg #[.int .i64 x4.un.1, .int .i64 x4.un.2.1, .int .i64 x4.un.2.2.1, (v3.2.2.2.1)]) (j := 0) (i := 0) (enc := J4) F Aa Aa (Ah h_v1) h4 Qn MT (by rw [h6]; rfl)).q fun a F => ?_
    obtain ⟨x5, h7, H⟩ := Ag H
    refine AP F (Ac F Aa Aa Aa Aa) Aa (Ao Aa) (AL (v := Value.bool x5) F W0 Aa (fun w W => (H1 fRec ih) any w ((v3.2.2.2.1)) p0 x4 _ h7 (Er (Br (Ah h_v1) h4 (Ai.snd (Ai.snd (Ai.snd Ai.here))) (congrArg (fun q : Tr34 => q.un.2.2.2) h5)) W))) fun a F => ?_
    refine qs F Aa (BI F Aa Aa Aa).q fun a F => ?_
    refine qs F Aa (Bz F Aa).q fun a F => ?_
    refine AO fun w W => ?_
    refine Ad ?_
    have W := W.frontM (i := 1) Aa Aa
    have W := W.frontM (i := 1) Aa Aa
    exact ⟨_, H, F.ra Aa, W⟩
   have H := Cf (CO hb) H
   rw [hb] at F
   iterate 6 refine Bp F (Be F Aa Aa Aa Aa Aa) Aa Aa fun a F => ?_
   refine qs F Aa (BA F Aa Aa Aa).q fun a F => ?_
   refine qs F Aa (Bz F Aa).q fun a F => ?_
   refine AO fun w W => ?_
   refine Ad ?_
   have W := W.frontM (i := 1) Aa Aa
   have W := W.frontM (i := 1) Aa Aa
   exact ⟨_, H, F.ra Aa, W⟩
  rintro a w ⟨x3, hj, F, W⟩
  have hj := AC hj
  subst hj
  have H := K2
  refine Am (AH (Az ?_))
  have H := AC H
  subst H
  refine Ax (.inl Aa) F W Aa (Ap F Aa) ?_
  exact ⟨rfl, W.done⟩
 have H := Cf (CO hb) H
 rw [hb] at F
 refine vc tk 6 F W fun a w F W => ?_
 refine B9 F Aa (fun hb => ?_) fun hb => ?_
 ·
  have H := Cg (CQ hb) H
  rw [hb] at F
  refine FR tk 5 [0, 1] F W (ai (ai fun a w F W => ?_))
  refine ls F W Aa (Oz (us := (Vq p0)) (vs := []) F Aa Aa).q fun a w F W => ?_
  obtain ⟨x6, h8, H⟩ := Ag H
  refine ls F W Aa (AL (v := Value.bool x6) F WJ Aa (fun w W => (FU fRec ih) any w (v1) p1.un.2.2.2 p0 _ h8 (Er (Ak Co h1 (Ah h_v1)) W))) fun a w F W => ?_
  refine Cv tk 4 F W fun a w F W => ?_
  refine Am (AH (Az ?_))
  have H := AC H
  subst H
  refine Ax (.inl Aa) F W Aa (Ap F Aa) ?_
  exact ⟨rfl, W.done⟩
 have H := Cf (CO hb) H
 rw [hb] at F
 refine vc tk 6 F W fun a w F W => ?_
 refine B9 F Aa (fun hb => ?_) fun hb => ?_
 ·
  have H := Cg (CQ hb) H
  rw [hb] at F
  refine FR tk 5 [0, 1] F W (ai (ai fun a w F W => ?_))
  refine ls F W Aa (Oz (us := (Vq p0)) (vs := []) F Aa Aa).q fun a w F W => ?_
  obtain ⟨x7, h9, H⟩ := Ag H
  refine ls F W Aa (AL (v := Value.bool x7) F WJ Aa (fun w W => (Fh fRec ih) any w (v1) p1.un.2.2.2 p0 _ h9 (Er (Ak Co h1 (Ah h_v1)) W))) fun a w F W => ?_
  refine Cv tk 3 F W fun a w F W => ?_
  refine Am (AH (Az ?_))
  have H := AC H
  subst H
  refine Ax (.inl Aa) F W Aa (Ap F Aa) ?_
  exact ⟨rfl, W.done⟩
 have H := Cf (CO hb) H
 rw [hb] at F
 refine Bc (AM ?_)
 refine vn tk 5 F W fun a w F W => ?_
 refine Am ?_
 have H := AC H
 subst H
 refine Ax (.inl Aa) F W Aa (Ap F Aa) ?_
 exact ⟨rfl, W.done⟩
theorem I1 : ∀ (n : Nat) (Y : Nat → Prop) (w0 : World) (v1 : Value) (p0 : Int × Int × (Int × Int × Int × Int)) (p1 : Tr34) (r : Bool) (H : Bk n p0 p1 = some r) (h_v1 : Sl w0 (NX []) Bj v1 p1.un.2.2.2), Calls Tryz.prog 91 #[.agg #[.int .i64 p0.1, .int .i64 p0.2.1, .int .i64 p0.2.2.1, .int .i64 p0.2.2.2.1, .int .i64 p0.2.2.2.2.1, .int .i64 p0.2.2.2.2.2], .agg #[.int .i64 p1.un.1, .int .i64 p1.un.2.1, .int .i64 p1.un.2.2.1, v1]] w0 fun e w' => e = .returned (.bool r) ∧ Below w0.heap.size w0 w' := by
  intro n
  induction n with
  | zero => intro Y w0 v1 p0 p1 r H; exact nomatch H
  | succ n ih => intro Y w0 v1 p0 p1 r H h_v1; exact IW (Bk n) ih Y w0 v1 p0 p1 r H h_v1
theorem Jv (Y : Nat → Prop) (w0 : World) (v1 : Value) (p0 : Int × Int × (Int × Int × Int × Int)) (p1 : Tr34) (r : Bool) (H : D7 p0 p1 = some r) (h_v1 : Sl w0 (NX []) Bj v1 p1.un.2.2.2) :
    Calls Tryz.prog 91 #[.agg #[.int .i64 p0.1, .int .i64 p0.2.1, .int .i64 p0.2.2.1, .int .i64 p0.2.2.2.1, .int .i64 p0.2.2.2.2.1, .int .i64 p0.2.2.2.2.2], .agg #[.int .i64 p1.un.1, .int .i64 p1.un.2.1, .int .i64 p1.un.2.2.1, v1]] w0 fun e w' => e = .returned (.bool r) ∧ Below w0.heap.size w0 w' := by
  obtain ⟨n, H⟩ := CZ H
  exact I1 n Y w0 v1 p0 p1 r H h_v1
def Hq (p0 : Tr34) (p1 : Int) (p2 : Int) (p3 : Int × Int × Int × Int) : Option Bool := (D7 (p1, p2, p3) p0).bind fun x1 => some x1
theorem Nq (Y : Nat → Prop) (w0 : World) (v1 : Value) (p0 : Tr34) (p1 : Int) (p2 : Int) (p3 : Int × Int × Int × Int) (r : Bool) (H : Hq p0 p1 p2 p3 = some r) (h_v1 : Sl w0 (NX []) Bj v1 p0.un.2.2.2) :
    Calls Tryz.prog 68 #[.agg #[.int .i64 p0.un.1, .int .i64 p0.un.2.1, .int .i64 p0.un.2.2.1, v1], .int .i64 p1, .int .i64 p2, .agg #[.int .i64 p3.1, .int .i64 p3.2.1, .int .i64 p3.2.2.1, .int .i64 p3.2.2.2]] w0 fun e w' => e = .returned (.bool r) ∧ Below w0.heap.size w0 w' := by
 refine enter Tryz.func68 Aa Tryz.ntmps68 Aa fun a F => ?_
 have W := Stw.start Y w0
 obtain ⟨v2, h1, h_v1⟩ := h_v1.ex Co
 unfold Hq at H
 refine vc tk 2 F W fun a w F W => ?_
 refine CX (cs := (F1 p0 v1)) F W Aa Aa Aa fun b1 a w F W => ?_
 refine CX (cs := (CF p3)) F W Aa Aa Aa fun b2 a w F W => ?_
 refine Gz tk 8 [0] F W (ai fun a w F W => ?_)
 refine ls F W Aa (CM (v := Value.agg #[.int .i64 p1, .int .i64 p2, .int .i64 p3.1, .int .i64 p3.2.1, .int .i64 p3.2.2.1, .int .i64 p3.2.2.2]) XC F Aa Aa Aa).q fun a w F W => ?_
 refine ls F W Aa (Bu (v := Value.agg #[.int .i64 p0.un.1, .int .i64 p0.un.2.1, .int .i64 p0.un.2.2.1, v1]) 1 F Aa Aa MT Aa).q fun a w F W => ?_
 obtain ⟨x1, h2, H⟩ := Ag H
 refine ls F W Aa (AL (v := Value.bool x1) F Xw Aa (fun w W => Jv any w (v1) (p1, p2, p3) p0 _ h2 (Er (Ak Co h1 (Ah h_v1)) W))) fun a w F W => ?_
 refine Cv tk 3 F W fun a w F W => ?_
 refine Am ?_
 have H := AC H
 subst H
 refine Ax (.inl Aa) F W Aa (Ap F Aa) ?_
 exact ⟨rfl, W.done⟩
theorem VX : type_of% Tryz.underlying3 := Tryz.underlying3
theorem Ys : type_of% Tryz.underlying97 := Tryz.underlying97
theorem YY : Has Tryz.prog 68 := CP Tryz.func68
abbrev C7 (x : Int × (Int × Int × Int × Int)) : Value := .agg #[.int .i64 x.1, .int .i64 x.2.1, .int .i64 x.2.2.1, .int .i64 x.2.2.2.1, .int .i64 x.2.2.2.2]
abbrev SW (x : Int × (Int × Int × Int × Int)) : List Int := [x.1, x.2.1, x.2.2.1, x.2.2.2.1, x.2.2.2.2]
abbrev AY (x y : Int × (Int × Int × Int × Int)) : Bool := ID (SW x) (SW y)
theorem Gh : Lo AY := We SW 5 (fun _ => rfl) fun x y h => by simp only [SW, List.cons.injEq] at h; simp only [Prod.ext_iff, h, and_self]
theorem D4 : Ty Tryz.prog 63 true 5 := ⟨by kernel_rfl, by kernel_rfl⟩
theorem Xp : Bt Tryz.prog 97 [] [] := ⟨⟨.agg #[], by kernel_rfl, rfl⟩, ⟨_, Ys, fun w => by kernel_rfl⟩⟩
theorem X8 (d : Nat) (x0 x1 x2 x3 y0 y1 y2 y3 : Int) (w : World) : (Op.equalIn (d + 2) 29 (.agg #[.int .i64 x0, .int .i64 x1, .int .i64 x2, .int .i64 x3]) (.agg #[.int .i64 y0, .int .i64 y1, .int .i64 y2, .int .i64 y3])).run Tryz.prog w = .ok (decide (x0 = y0 ∧ x1 = y1 ∧ x2 = y2 ∧ x3 = y3)) w :=
  (VF (d := d) (k := .i64) Sf VX T3 [x0, x1, x2, x3] [y0, y1, y2, y3] rfl rfl w).trans (by congr 1; exact decide_eq_decide.2 (by simp))
theorem XW (dd : Nat) (x0 : Int) (x1 : Int) (x2 : Int) (x3 : Int) (x4 : Int) (y0 : Int) (y1 : Int) (y2 : Int) (y3 : Int) (y4 : Int) (w : World) : (Op.equalIn (dd + 3) 63 (.agg #[.int .i64 x0, .int .i64 x1, .int .i64 x2, .int .i64 x3, .int .i64 x4]) (.agg #[.int .i64 y0, .int .i64 y1, .int .i64 y2, .int .i64 y3, .int .i64 y4])).run Tryz.prog w = .ok (decide (x0 = y0 ∧ x1 = y1 ∧ x2 = y2 ∧ x3 = y3 ∧ x4 = y4)) w :=
  SV (d := dd + 2) (rs := [decide (x0 = y0), decide (x1 = y1 ∧ x2 = y2 ∧ x3 = y3 ∧ x4 = y4)]) Rz (by kernel_rfl) ⟨rfl, U4 (d := dd + 1) rfl rfl VX T3 rfl rfl, rfl, UX (d := dd + 2) (sz := 4) (xs' := [.int .i64 x1, .int .i64 x2, .int .i64 x3, .int .i64 x4]) (ys' := [.int .i64 y1, .int .i64 y2, .int .i64 y3, .int .i64 y4]) rfl rfl Tz rfl rfl (fun w => X8 (dd + 0) x1 x2 x3 x4 y1 y2 y3 y4 w), trivial⟩ (by rw [Bool.eq_iff_iff]; simp [and_assoc]) w
theorem YH : Tryz.prog.eqGuardType Tryz.prog.depth 63 = false := by kernel_rfl
theorem X5 (x0 : Int) (x1 : Int) (x2 : Int) (x3 : Int) (x4 : Int) (y0 : Int) (y1 : Int) (y2 : Int) (y3 : Int) (y4 : Int) (w : World) : (Op.equalIn 10000 63 (.agg #[.int .i64 x0, .int .i64 x1, .int .i64 x2, .int .i64 x3, .int .i64 x4]) (.agg #[.int .i64 y0, .int .i64 y1, .int .i64 y2, .int .i64 y3, .int .i64 y4])).run Tryz.prog w = .ok (decide (x0 = y0 ∧ x1 = y1 ∧ x2 = y2 ∧ x3 = y3 ∧ x4 = y4)) w := XW 9997 x0 x1 x2 x3 x4 y0 y1 y2 y3 y4 w
instance : DecidableEq (Int × Int) := inferInstance
instance : DecidableEq (Int × Int × Int) := inferInstance
instance : DecidableEq (Int × Int × Int × Int) := inferInstance
instance : DecidableEq (Int × (Int × Int × Int × Int)) := inferInstance
theorem UK : KeyEnc Tryz.prog 63 C7 := ⟨⟨_, Rz, .inl fun _ _ => rfl⟩, fun x y w => (X5 x.1 x.2.1 x.2.2.1 x.2.2.2.1 x.2.2.2.2 y.1 y.2.1 y.2.2.1 y.2.2.2.1 y.2.2.2.2 w).trans (by congr 1; exact decide_eq_decide.2 (by simp only [Prod.ext_iff, and_assoc])), fun b x w => by kernel_rfl, fun x => by simp [Instr.sameBits]⟩
theorem Xe : (Tryz.prog.info? 63).bind (·.zero) = some (.agg #[.int .i64 0, .int .i64 0, .int .i64 0, .int .i64 0, .int .i64 0]) := by kernel_rfl
theorem Ze : (Tryz.prog.info? 29).bind (·.zero) = some (.agg #[.int .i64 0, .int .i64 0, .int .i64 0, .int .i64 0]) := by kernel_rfl
def Hp (p0 : Int) : Option Int := (if p0 = 0 then some true else (if p0 = 1 then some true else some (decide (p0 = 3)))).bind fun x1 => (if x1 = true then some 8 else (if p0 = 2 then some 4 else some 0))
theorem PF (Y : Nat → Prop) (w0 : World)  (p0 : Int) (r : Int) (H : Hp p0 = some r)  :
    Calls Tryz.prog 139 #[.int .i64 p0] w0 fun e w' => e = .returned (.int .i64 r) ∧ Below w0.heap.size w0 w' := by
 refine enter Tryz.func139 Aa Tryz.ntmps139 Aa fun a F => ?_
 have W := Stw.start Y w0
 unfold Hp at H
 refine vc tk 12 F W fun a w F W => ?_
 obtain ⟨o1, G1, K1⟩ := Ag H
 refine AA (fun a w => ∃ x1 : Bool, some (x1) = some o1 ∧ Fr 10 [] [(2, .int .i64 0), (3, .int .i64 p0), (4, .bool x1)] a ∧ Stw ⟨Y, [], w0⟩ [] [] w) ?_ ?_
 ·
  have H := G1
  refine vc tk 6 F W fun a w F W => ?_
  refine B9 F Aa (fun hb => ?_) fun hb => ?_
  ·
   have H := Cg (CQ hb) H
   rw [hb] at F
   refine Bc (Ad ?_)
   exact ⟨_, H, F.ra Aa, W⟩
  have H := Cf (CO hb) H
  rw [hb] at F
  refine vc tk 6 F W fun a w F W => ?_
  refine B9 F Aa (fun hb => ?_) fun hb => ?_
  ·
   have H := Cg (CQ hb) H
   rw [hb] at F
   refine Bc (Ad ?_)
   exact ⟨_, H, F.ra Aa, W⟩
  have H := Cf (CO hb) H
  rw [hb] at F
  refine vc tk 4 F W fun a w F W => ?_
  refine Ad ?_
  exact ⟨_, H, F.ra Aa, W⟩
 rintro a w ⟨x1, hj, F, W⟩
 have hj := AC hj
 subst hj
 have H := K1
 refine CK F Aa H (fun F H => ?_) fun F H => ?_
 ·
  refine vc tk 5 F W fun a w F W => ?_
  refine Am (AH (Az ?_))
  have H := AC H
  subst H
  refine Ax (.inl Aa) F W Aa (Ap F Aa) ?_
  exact ⟨rfl, W.done⟩
 refine vc tk 6 F W fun a w F W => ?_
 refine B9 F Aa (fun hb => ?_) fun hb => ?_
 ·
  have H := Cg (CQ hb) H
  rw [hb] at F
  refine vc tk 5 F W fun a w F W => ?_
  refine Am (AH (Az ?_))
  have H := AC H
  subst H
  refine Ax (.inl Aa) F W Aa (Ap F Aa) ?_
  exact ⟨rfl, W.done⟩
 have H := Cf (CO hb) H
 rw [hb] at F
 refine Bc (AM ?_)
 refine vn tk 5 F W fun a w F W => ?_
 refine Am ?_
 have H := AC H
 subst H
 refine Ax (.inl Aa) F W Aa (Ap F Aa) ?_
 exact ⟨rfl, W.done⟩
theorem Yn : Has Tryz.prog 139 := CP Tryz.func139
def Hj (p0 : Int) : Option Int := (Hp p0).bind fun x1 => (VN (Ic .i64 1 x1) x1).bind fun x2 => some (AU (x2 - 1))
theorem MQ (Y : Nat → Prop) (w0 : World)  (p0 : Int) (r : Int) (H : Hj p0 = some r)  :
    Calls Tryz.prog 117 #[.int .i64 p0] w0 fun e w' => e = .returned (.int .i64 r) ∧ Below w0.heap.size w0 w' := by
 refine enter Tryz.func117 Aa Tryz.ntmps117 Aa fun a F => ?_
 have W := Stw.start Y w0
 unfold Hj at H
 refine vc tk 8 F W fun a w F W => ?_
 obtain ⟨x1, h1, H⟩ := Ag H
 refine ls F W Aa (AL (v := Value.int .i64 x1) F Yn Aa (fun w W => PF any w p0 _ h1)) fun a w F W => ?_
 obtain ⟨x2, h2, H⟩ := Ag H
 refine ls F W Aa (Vc (Mv h2).2 (SA F Aa Aa (Mv h2).1)).q fun a w F W => ?_
 refine Cv tk 4 F W fun a w F W => ?_
 refine Am ?_
 have H := AC H
 subst H
 refine Ax (.inl Aa) F W Aa (Ap F Aa) ?_
 exact ⟨rfl, W.done⟩
theorem WW : Has Tryz.prog 117 := CP Tryz.func117
def Gu (p0 : Int) (p1 : Int) : Option Bool := (if 0 ≤ p1 then (Hj p0).bind fun x2 => some (decide (p1 ≤ x2)) else some false).bind fun x1 => some x1
theorem Pp (Y : Nat → Prop) (w0 : World)  (p0 : Int) (p1 : Int) (r : Bool) (H : Gu p0 p1 = some r)  :
    Calls Tryz.prog 124 #[.int .i64 p0, .int .i64 p1] w0 fun e w' => e = .returned (.bool r) ∧ Below w0.heap.size w0 w' := by
 refine enter Tryz.func124 Aa Tryz.ntmps124 Aa fun a F => ?_
 have W := Stw.start Y w0
 unfold Gu at H
 refine vc tk 5 F W fun a w F W => ?_
 obtain ⟨o1, G1, K1⟩ := Ag H
 refine AA (fun a w => ∃ x1 : Bool, some (x1) = some o1 ∧ Fr 13 [] [(4, .bool x1)] a ∧ Stw ⟨Y, [], w0⟩ [] [] w) ?_ ?_
 ·
  have H := G1
  refine vc tk 4 F W fun a w F W => ?_
  rcases bxq (decide (0 ≤ p1)) with hb | hb
  ·
   have H := Cg (CQ hb) H
   rw [hb] at F
   refine vl tk 2 F W fun a w F W => ?_
   refine Iq (Ac F Aa Aa Aa Aa) ?_
   obtain ⟨x2, h1, H⟩ := Ag H
   refine ls F W Aa (AL (v := Value.int .i64 x2) F WW Aa (fun w W => MQ any w p0 _ h1)) fun a w F W => ?_
   refine vl tk 4 F W fun a w F W => ?_
   refine Ad ?_
   exact ⟨_, H, F.ra Aa, W⟩
  have H := Cf (CO hb) H
  rw [hb] at F
  refine vl tk 7 F W fun a w F W => ?_
  refine Ad ?_
  exact ⟨_, H, F.ra Aa, W⟩
 rintro a w ⟨x1, hj, F, W⟩
 have hj := AC hj
 subst hj
 have H := K1
 refine Am ?_
 have H := AC H
 subst H
 refine Ax (.inl Aa) F W Aa (Ap F Aa) ?_
 exact ⟨rfl, W.done⟩
theorem Xz : Has Tryz.prog 124 := CP Tryz.func124
abbrev Vi  : List Value := [.int .i64 0, .int .i64 0, .int .i64 0, .int .i64 0]
def GB (p0 : Int × Int × Int × Int) (p1 : Int) (p2 : Int) : Option (Int × Int × Int × Int) := ((if (Dm p1) = true then (Gu p1 p2).bind fun x6 => some x6 else some false).bind fun x5 => (if x5 = true then (ix ([p0.1, p0.2.1, p0.2.2.1, p0.2.2.2] : List Int) p1).bind fun x7 => some ((if p1 = 0 then p2 else p0.1), (if p1 = 1 then p2 else p0.2.1), (if p1 = 2 then p2 else p0.2.2.1), (if p1 = 3 then p2 else p0.2.2.2)) else some (p0.1, p0.2.1, p0.2.2.1, p0.2.2.2))).bind fun (x1, x2, x3, x4) => some (x1, x2, x3, x4)
theorem Pq (Y : Nat → Prop) (w0 : World)  (p0 : Int × Int × Int × Int) (p1 : Int) (p2 : Int) (r : (Int × Int × Int × Int)) (H : GB p0 p1 p2 = some r)  :
    Calls Tryz.prog 92 #[.agg #[.int .i64 p0.1, .int .i64 p0.2.1, .int .i64 p0.2.2.1, .int .i64 p0.2.2.2], .int .i64 p1, .int .i64 p2] w0 fun e w' => e = .returned (.agg #[.int .i64 r.1, .int .i64 r.2.1, .int .i64 r.2.2.1, .int .i64 r.2.2.2]) ∧ Below w0.heap.size w0 w' := by
 refine enter Tryz.func92 Aa Tryz.ntmps92 Aa fun a F => ?_
 have W := Stw.start Y w0
 unfold GB at H
 refine vc tk 2 F W fun a w F W => ?_
 refine CX (cs := (CF p0)) F W Aa Aa Aa fun b1 a w F W => ?_
 refine AF (cs := (Vi)) F W Aa Ze Aa fun b2 a w F W => ?_
 refine Fd (Ad ?_)
 obtain ⟨o1, G1, K1⟩ := Ag H
 refine AA (fun a w => ∃ x1 : Int, ∃ x2 : Int, ∃ x3 : Int, ∃ x4 : Int, some ((x1, x2, x3, x4)) = some o1 ∧ Fr 18 [] [(3, .pointer (some ⟨b1, 0, none⟩)), (6, .pointer (some ⟨b2, 0, none⟩))] a ∧ Stw ⟨Y, [], w0⟩ [(b2, [.int .i64 0, .int .i64 0, .int .i64 0, .int .i64 0]), (b1, [.int .i64 x1, .int .i64 x2, .int .i64 x3, .int .i64 x4])] [] w) ?_ ?_
 ·
  have H := G1
  obtain ⟨o2, G2, K2⟩ := Ag H
  refine AA (fun a w => ∃ x5 : Bool, some (x5) = some o2 ∧ Fr 18 [] [(1, .int .i64 p1), (2, .int .i64 p2), (3, .pointer (some ⟨b1, 0, none⟩)), (6, .pointer (some ⟨b2, 0, none⟩)), (13, .bool x5)] a ∧ Stw ⟨Y, [], w0⟩ [(b2, [.int .i64 0, .int .i64 0, .int .i64 0, .int .i64 0]), (b1, [.int .i64 p0.1, .int .i64 p0.2.1, .int .i64 p0.2.2.1, .int .i64 p0.2.2.2])] [] w) ?_ ?_
  ·
   have H := G2
   refine vc tk 2 F W fun a w F W => ?_
   refine ls F W Aa (AL (v := Value.bool (Dm p1)) F WD Aa (fun w W => KJ any w p1 _ Aa)) fun a w F W => ?_
   refine ls F W Aa (Aq F Aa).q fun a w F W => ?_
   rcases bxq (Dm p1) with hb | hb
   ·
    have H := Cg hb H
    rw [hb] at F
    refine vl tk 2 F W fun a w F W => ?_
    refine Iq (Ac F Aa Aa Aa Aa) ?_
    obtain ⟨x6, h1, H⟩ := Ag H
    refine ls F W Aa (AL (v := Value.bool x6) F Xz Aa (fun w W => Pp any w p1 p2 _ h1)) fun a w F W => ?_
    refine vl tk 2 F W fun a w F W => ?_
    refine Ad ?_
    have W := W.frontM (i := 1) Aa Aa
    have W := W.frontM (i := 1) Aa Aa
    exact ⟨_, H, F.ra Aa, W⟩
   have H := Cf (by rw [hb]; decide) H
   rw [hb] at F
   refine vl tk 5 F W fun a w F W => ?_
   refine Ad ?_
   have W := W.frontM (i := 1) Aa Aa
   have W := W.frontM (i := 1) Aa Aa
   exact ⟨_, H, F.ra Aa, W⟩
  rintro a w ⟨x5, hj, F, W⟩
  have hj := AC hj
  subst hj
  have H := K2
  refine CK F Aa H (fun F H => ?_) fun F H => ?_
  ·
   refine vc tk 3 F W fun a w F W => ?_
   obtain ⟨x7, h2, H⟩ := Ag H
   refine ls F W Aa (Rk (0 + (p1).toNat * 1) Sf F Aa Aa Aa h2 Aa).q fun a w F W => ?_
   refine RB (o := 0) (m := 4) (i := p1) (l := ([p0.1, p0.2.1, p0.2.2.1, p0.2.2.2] : List Int)) (x := x7) (cs := (CF p0)) (cs' := [.int .i64 (if p1 = 0 then p2 else p0.1), .int .i64 (if p1 = 1 then p2 else p0.2.1), .int .i64 (if p1 = 2 then p2 else p0.2.2.1), .int .i64 (if p1 = 3 then p2 else p0.2.2.2)]) 1 F W Aa Aa Aa T3 Aa Aa Aa Aa h2 (by intro k hk hn; rw [hk]; match k, hn with | 0, _ => rfl | 1, _ => rfl | 2, _ => rfl | 3, _ => rfl | (z + 4), h => exact absurd h (by omega)) fun w W => ?_
   have W : Stw ⟨Y, [], w0⟩ [(b2, (Vi)), (b1, [.int .i64 (if p1 = 0 then p2 else p0.1), .int .i64 (if p1 = 1 then p2 else p0.2.1), .int .i64 (if p1 = 2 then p2 else p0.2.2.1), .int .i64 (if p1 = 3 then p2 else p0.2.2.2)])] [] w := W
   refine Fd (Ad ?_)
   have W := W.frontM (i := 1) Aa Aa
   have W := W.frontM (i := 1) Aa Aa
   exact ⟨_, _, _, _, H, F.ra Aa, W⟩
  refine Bc (Ad ?_)
  have W := W.frontM (i := 1) Aa Aa
  have W := W.frontM (i := 1) Aa Aa
  exact ⟨_, _, _, _, H, F.ra Aa, W⟩
 rintro a w ⟨x1, x2, x3, x4, hj, F, W⟩
 have hj := AC hj
 subst hj
 have H := K1
 refine FR tk 3 [1] F W (ai fun a w F W => ?_)
 refine DZ 0 F W Aa Aa Aa Tz Aa Aa Aa fun w W => ?_
 refine Cv tk 2 F W fun a w F W => ?_
 refine Am ?_
 have H := AC H
 subst H
 refine Ax (.inl Aa) F W Aa (Jc 0 F Aa Aa Tz Aa) ?_
 exact ⟨rfl, W.done⟩
theorem Zs : Has Tryz.prog 92 := CP Tryz.func92
abbrev C1 (a0 : Int × (Int × Int × Int × Int)) : List Value := [.int .i64 a0.1, .int .i64 a0.2.1, .int .i64 a0.2.2.1, .int .i64 a0.2.2.2.1, .int .i64 a0.2.2.2.2]
abbrev T1  : List Value := [.int .i64 0, .int .i64 0, .int .i64 0, .int .i64 0, .int .i64 0]
abbrev W1 (a0 : Nat) (a1 : Nat) (a2 : Int) (a3 : Int × (Int × Int × Int × Int)) : List (Nat × List Value) := [(a0, [.int .i64 0, .int .i64 0, .int .i64 0, .int .i64 0, .int .i64 0]), (a1, [.int .i64 a2, .int .i64 a3.2.1, .int .i64 a3.2.2.1, .int .i64 a3.2.2.2.1, .int .i64 a3.2.2.2.2])]
def Dz (p0 : Int × (Int × Int × Int × Int)) (p1 : Int) (p2 : Int) : Option (Int × (Int × Int × Int × Int)) := (if p1 = 4 then some p2 else some p0.1).bind fun x1 => (GB p0.2 p1 p2).bind fun x2 => some (x1, x2)
theorem My (Y : Nat → Prop) (w0 : World)  (p0 : Int × (Int × Int × Int × Int)) (p1 : Int) (p2 : Int) (r : (Int × (Int × Int × Int × Int))) (H : Dz p0 p1 p2 = some r)  :
    Calls Tryz.prog 69 #[.agg #[.int .i64 p0.1, .int .i64 p0.2.1, .int .i64 p0.2.2.1, .int .i64 p0.2.2.2.1, .int .i64 p0.2.2.2.2], .int .i64 p1, .int .i64 p2] w0 fun e w' => e = .returned (.agg #[.int .i64 r.1, .int .i64 r.2.1, .int .i64 r.2.2.1, .int .i64 r.2.2.2.1, .int .i64 r.2.2.2.2]) ∧ Below w0.heap.size w0 w' := by
 refine enter Tryz.func69 Aa Tryz.ntmps69 Aa fun a F => ?_
 have W := Stw.start Y w0
 unfold Dz at H
 refine vc tk 2 F W fun a w F W => ?_
 refine CX (cs := (C1 p0)) F W Aa Aa Aa fun b1 a w F W => ?_
 refine AF (cs := (T1)) F W Aa Xe Aa fun b2 a w F W => ?_
 refine Fd (Ad ?_)
 obtain ⟨o1, G1, K1⟩ := Ag H
 refine AA (fun a w => ∃ x1 : Int, some (x1) = some o1 ∧ Fr 18 [] [(1, .int .i64 p1), (2, .int .i64 p2), (3, .pointer (some ⟨b1, 0, none⟩)), (6, .pointer (some ⟨b2, 0, none⟩))] a ∧ Stw ⟨Y, [], w0⟩ (W1 b2 b1 x1 p0) [] w) ?_ ?_
 ·
  have H := G1
  refine vc tk 6 F W fun a w F W => ?_
  refine BU F Aa H (fun F H => ?_) fun F H => ?_
  ·
   refine vc tk 3 F W fun a w F W => ?_
   refine DZ 1 F W Aa Aa Aa T3 Aa Aa Aa fun w W => ?_
   refine Fd (Ad ?_)
   have W := W.frontM (i := 1) Aa Aa
   have W := W.frontM (i := 1) Aa Aa
   exact ⟨_, H, F.ra Aa, W⟩
  refine Bc (Ad ?_)
  have W := W.frontM (i := 1) Aa Aa
  have W := W.frontM (i := 1) Aa Aa
  exact ⟨_, H, F.ra Aa, W⟩
 rintro a w ⟨x1, hj, F, W⟩
 have hj := AC hj
 subst hj
 have H := K1
 refine FR tk 6 [1] F W (ai fun a w F W => ?_)
 obtain ⟨x2, h1, H⟩ := Ag H
 refine ls F W Aa (AL (v := Value.agg #[.int .i64 x2.1, .int .i64 x2.2.1, .int .i64 x2.2.2.1, .int .i64 x2.2.2.2]) F Zs Aa (fun w W => Pq any w p0.2 p1 p2 _ h1)) fun a w F W => ?_
 refine ls F W Aa (As Rz Aa Aa Aa Tz F Aa 1 Aa).q fun a w F W => ?_
 refine DZ 1 F W Aa Aa Aa Tz Aa Aa Aa fun w W => ?_
 refine Gz tk 5 [1] F W (ai fun a w F W => ?_)
 refine DZ 0 F W Aa Aa Aa D4 Aa Aa Aa fun w W => ?_
 refine Cv tk 2 F W fun a w F W => ?_
 refine Am ?_
 have H := AC H
 subst H
 refine Ax (.inl Aa) F W Aa (Jc 0 F Aa Aa D4 Aa) ?_
 exact ⟨rfl, W.done⟩
theorem R9 : type_of% Tryz.underlying73 := Tryz.underlying73
theorem Y2 : Has Tryz.prog 69 := CP Tryz.func69
theorem Ti : Ty Tryz.prog 35 false 1 := ⟨by kernel_rfl, by kernel_rfl⟩
abbrev IU (a : Int × (Int × Int × Int × (Value × List Tr34)) × Int × Int × (Value × List Tr37)) : List Value := [.int .i64 a.1, .int .i64 a.2.1.1, .int .i64 a.2.1.2.1, .int .i64 a.2.1.2.2.1, a.2.1.2.2.2.1, .int .i64 a.2.2.1, .int .i64 a.2.2.2.1, a.2.2.2.2.1]
theorem OA : Fj Dd IU := (Fj.pair Fl.int.to (Fj.pair (Fj.pair Fl.int.to (Fj.pair Fl.int.to (Fj.pair Fl.int.to Fj.vsl))) (Fj.pair Fl.int.to (Fj.pair Fl.int.to Fj.vsl))))
theorem Xn : Has Tryz.prog 39 := CP Tryz.func39
theorem Uq (Y : Nat → Prop) (X : List Nat) (w0 : World) (v0 v1 : Value) (s0 s1 : List (Int × (Int × Int × Int × Int))) (hL : Stw ⟨Y, X, w0⟩ [] [CI v0 C7 AY s0, CI v1 C7 AY s1] w0) :
    Calls Tryz.prog 71 #[v0, v1] w0 fun e w' => ∃ x : Unit, e = .returned (.tuple #[]) ∧ Stw ⟨Y, X, w0⟩ [] [CI v1 C7 AY s1, CI v0 C7 AY (Ig AY s0 s1)] w' := by
  refine enter Tryz.func71 Aa Tryz.ntmps71 Aa fun a F => ?_
  have hA : H0 AY s0 := hL.asc (i := 0) Aa
  refine GK (KT (l := [_, _]) ?_)
  refine ls F hL Aa (Aq F Aa).q fun a w F W => ?_
  refine LV (q := 1) F W Aa Aa Aa Aa R9 fun i b es clock l a w hv hE F W => ?_
  refine Fd (Ad (Ep ?_))
  refine PR (fun done s => s = Ig AY s0 done) (fun _ => [(0, v0)]) (fun s => [CI v0 C7 AY s]) (F.ra Aa) W hE Aa Aa Aa (fun done kx s seen a w hk hc hR F W => ?_) fun done s seen a w hp hR F W => ?_
  · refine Ep (GK (KT (l := [_, _, _, _]) ?_))
    refine ls F W Aa (LQ (q := 0) (q' := 1) F Aa Aa Aa hc).q fun a w F W => ?_
    refine ls F W Aa (Dx (vs := [C7 kx, .agg #[]]) F Aa Aa).q fun a w F W => ?_
    refine AF F W Aa Xe Aa fun b2 a w F W => ?_
    refine N1 0 F W Aa Aa Aa D4 Aa Aa Aa Aa Aa fun w W => ?_
    refine Fd (Ad (KT (l := [_, _, _, _]) ?_))
    refine Hw tk 2 [0] F W (ai fun a w F W => ?_)
    refine ls F W Aa (CM (zs := []) (cs := []) (parts := []) (vp := []) (v := .agg #[]) Xp F Aa Aa Aa).q fun a w F W => ?_
    refine Uj (q := 2) kx F W Aa Aa Aa Aa Aa UK Gh R9 fun w W => ?_
    refine Fd (AM (Ad ⟨_, ?_, F.ra Aa, (W.frontZ (i := 2) Aa Aa |>.frontZ (i := 2) Aa Aa |>.sub (List.nil_sublist _) (List.Sublist.refl _))⟩))
    rw [hR]; simp only [Ig, List.foldl_append, List.foldl_cons, List.foldl_nil]
  · have W := W.unfix hE
    rw [← hv] at W
    rw [hR, TQ Gh hA hp] at W
    refine Bx (J5 (.inr Aa) F Aa ?_)
    exact ⟨(), Aa, W⟩
theorem YB : Has Tryz.prog 71 := CP Tryz.func71
abbrev PI (a0 : Nat) (a1 : Int × (Int × Int × Int × Int)) : List (Nat × List Value) := [(a0, [.int .i64 a1.1, .int .i64 a1.2.1, .int .i64 a1.2.2.1, .int .i64 a1.2.2.2.1, .int .i64 a1.2.2.2.2])]
abbrev AB  : List Value := [.int .i64 0, .int .i64 0, .int .i64 0, .int .i64 0, .slice none 0 0, .int .i64 0, .int .i64 0, .slice none 0 0]
def CB (fRec_policy_results : Tr37 → Int → (Int × (Int × Int × Int × Int)) → Option (List (Int × (Int × Int × Int × Int)))) (p1 : Int) (x4 : Tr37) (kx762 : Int × (Int × Int × Int × Int)) : Option (List (Int × (Int × Int × Int × Int))) := (fRec_policy_results (Tr37.of (x4.un.1, Tr34.of (x4.un.2.1.un.1, x4.un.2.1.un.2.1, x4.un.2.1.un.2.2.1, x4.un.2.1.un.2.2.2), x4.un.2.2.1, x4.un.2.2.2.1, x4.un.2.2.2.2)) p1 kx762).bind fun x6 => some x6
def BT (fRec_policy_results : Tr37 → Int → (Int × (Int × Int × Int × Int)) → Option (List (Int × (Int × Int × Int × Int)))) (p0 : List Tr37) (p1 : Int) : ((List (Int × (Int × Int × Int × Int))) × Int) → Option (((List (Int × (Int × Int × Int × Int))) × Int) ⊕ (List (Int × (Int × Int × Int × Int))))
  | (x2, x3) => (if x3 < (p0.length : Int) then (ix p0 x3).bind fun x4 => (FT AY (CB fRec_policy_results p1 x4) x2 ([] : List (Int × (Int × Int × Int × Int)))).bind fun x5 => some (.inl (x5, AU (x3 + 1))) else some (.inr x2))
def CR (fRec_policy_results : Tr37 → Int → (Int × (Int × Int × Int × Int)) → Option (List (Int × (Int × Int × Int × Int)))) (p0 : List Tr37) (p1 : Int) (p2 : Int × (Int × Int × Int × Int)) : Option (List (Int × (Int × Int × Int × Int))) := (Ba (BT fRec_policy_results p0 p1) ((GE AY ([] : List (Int × (Int × Int × Int × Int))) p2), 0)).bind fun x1 => some x1
theorem Li (fRec_policy_results : Tr37 → Int → (Int × (Int × Int × Int × Int)) → Option (List (Int × (Int × Int × Int × Int)))) (ih_policy_results : ∀ (Y : Nat → Prop) (w0 : World) (v1 : Value) (v2 : Value) (p0 : Tr37) (p1 : Int) (p2 : Int × (Int × Int × Int × Int)) (r : (List (Int × (Int × Int × Int × Int)))) (H : fRec_policy_results p0 p1 p2 = some r) (h_v1 : Sl w0 (NX []) Bj v1 p0.un.2.1.un.2.2.2) (s_v2 : Sl w0 Y Bl v2 p0.un.2.2.2.2), Calls Tryz.prog 39 #[.agg #[.int .i64 p0.un.1, .int .i64 p0.un.2.1.un.1, .int .i64 p0.un.2.1.un.2.1, .int .i64 p0.un.2.1.un.2.2.1, v1, .int .i64 p0.un.2.2.1, .int .i64 p0.un.2.2.2.1, v2], .int .i64 p1, .agg #[.int .i64 p2.1, .int .i64 p2.2.1, .int .i64 p2.2.2.1, .int .i64 p2.2.2.2.1, .int .i64 p2.2.2.2.2]] w0 fun e w' => ∃ x : Value, e = .returned (x) ∧ Stw ⟨Y, [], w0⟩ [] [CI (x) C7 AY r] w') (Y : Nat → Prop) (w0 : World) (v1 : Value) (p0 : List Tr37) (p1 : Int) (p2 : Int × (Int × Int × Int × Int)) (r : (List (Int × (Int × Int × Int × Int)))) (H : CR fRec_policy_results p0 p1 p2 = some r) (s_v1 : Sl w0 Y Bl v1 p0) :
    Calls Tryz.prog 70 #[v1, .int .i64 p1, .agg #[.int .i64 p2.1, .int .i64 p2.2.1, .int .i64 p2.2.2.1, .int .i64 p2.2.2.2.1, .int .i64 p2.2.2.2.2]] w0 fun e w' => ∃ x : Value, e = .returned (x) ∧ Stw ⟨Y, [], w0⟩ [] [CI (x) C7 AY r] w' := by
 refine enter Tryz.func70 Aa Tryz.ntmps70 Aa fun a F => ?_
 have W := Stw.start Y w0
 obtain ⟨v2, h1, s_v1⟩ := s_v1.ex Dy
 have h_v1 := W.nx s_v1
 unfold CR at H
 refine vc tk 2 F W fun a w F W => ?_
 refine CX (cs := (C1 p2)) F W Aa Aa Aa fun b1 a w F W => ?_
 refine Cv tk 5 F W fun a w F W => ?_
 refine Iu C7 AY F W Aa fun v3 a w F W => ?_
 have W : Stw ⟨Y, [], w0⟩ (PI b1 p2) [CI v3 C7 AY ([] : List (Int × (Int × Int × Int × Int)))] w := W
 refine ls F W Aa (Bu (v := Value.agg #[.int .i64 p2.1, .int .i64 p2.2.1, .int .i64 p2.2.2.1, .int .i64 p2.2.2.2.1, .int .i64 p2.2.2.2.2]) 0 F Aa Aa D4 Aa).q fun a w F W => ?_
 refine ls F W Aa (CM (v := Value.agg #[]) Xp F Aa Aa Aa).q fun a w F W => ?_
 refine l_setput' (q := 0) (p2 : Int × (Int × Int × Int × Int)) F W Aa Aa Aa Aa Aa UK Gh R9 fun w W => ?_
 have W : Stw ⟨Y, [], w0⟩ (PI b1 p2) [CI v3 C7 AY (GE AY ([] : List (Int × (Int × Int × Int × Int))) p2)] w := W
 refine vl tk 3 F W fun a w F W => ?_
 refine Ad ?_
 obtain ⟨o1, G1, K1⟩ := Ag H
 refine AA (fun a w => ∃ x1 : List (Int × (Int × Int × Int × Int)), ∃ v4 : Value, some (x1) = some o1 ∧ Fr 38 [] [(6, .map none), (7, v4)] a ∧ Stw ⟨Y, [], w0⟩ (PI b1 p2) [CI v4 C7 AY x1] w) ?_ ?_
 ·
  have H := G1
  refine vc tk 3 F W fun a w F W => ?_
  refine ls F W Aa (C2 (r := Bl) (l := p0) LU Aa F Aa (Ak Dy h1 (Ah h_v1))).q fun a w F W => ?_
  refine Cv tk 4 F W fun a w F W => ?_
  refine BN H (fun s a w => ∃ v5 : Value, Fr 38 [] [(1, .int .i64 p1), (6, .map none), (7, v5), (16, v1), (17, .int .i64 (p0.length : Int)), (18, .int .i64 s.2)] a ∧ Stw ⟨Y, [], w0⟩ (PI b1 p2) [CI v5 C7 AY s.1] w) ⟨(v3), F.ra Aa, W⟩ fun s o a w H L2 hR => ?_
  obtain ⟨x2, x3⟩ := s
  obtain ⟨v5, F, W⟩ := hR
  have F : Fr 38 [] [(1, .int .i64 p1), (6, .map none), (7, v5), (16, v1), (17, .int .i64 (p0.length : Int)), (18, .int .i64 x3)] a := F
  have W : Stw ⟨Y, [], w0⟩ (PI b1 p2) [CI v5 C7 AY x2] w := W
  rw [BT] at H
  refine vc tk 6 F W fun a w F W => ?_
  refine BU F Aa H (fun F H => ?_) fun F H => ?_
  ·
   refine Gp tk 6 F W fun a w F W => ?_
   obtain ⟨x4, h2, H⟩ := Ag H
   obtain ⟨v6, h3, h4⟩ := DQ h1 h2
   have h5 : IU v6 = [.int .i64 x4.un.1, .int .i64 x4.un.2.1.un.1, .int .i64 x4.un.2.1.un.2.1, .int .i64 x4.un.2.1.un.2.2.1, (v6.2.1.2.2.2.1), .int .i64 x4.un.2.2.1, .int .i64 x4.un.2.2.2.1, (v6.2.2.2.2.1)] := congrArg (fun q : Tr37 => ([.int .i64 q.un.1, .int .i64 q.un.2.1.un.1, .int .i64 q.un.2.1.un.2.1, .int .i64 q.un.2.1.un.2.2.1, (v6.2.1.2.2.2.1), .int .i64 q.un.2.2.1, .int .i64 q.un.2.2.2.1, (v6.2.2.2.2.1)] : List Value)) h4
   refine ls F W Aa (Aw (r := Dd) NC F Aa Aa (Ah h_v1) h3).q fun a w F W => ?_
   refine ls F W Aa (An (y := Value.agg #[.int .i64 x4.un.1, .int .i64 x4.un.2.1.un.1, .int .i64 x4.un.2.1.un.2.1, .int .i64 x4.un.2.1.un.2.2.1, (v6.2.1.2.2.2.1), .int .i64 x4.un.2.2.1, .int .i64 x4.un.2.2.2.1, (v6.2.2.2.2.1)]) (j := 0) (i := x3) (enc := IU) F Aa Aa (Ah h_v1) h3 OA Is (by rw [h5]; rfl)).q fun a w F W => ?_
   refine AF (cs := (AB)) F W Aa Fx Aa fun b2 a w F W => ?_
   refine DZ 0 F W Aa Aa Aa Is Aa Aa (Af Aa (Af Aa (Af Aa (Af Aa (Af ((Br (Ah h_v1) h3 (Ai.snd (Ai.fst (Ai.snd (Ai.snd (Ai.snd Ai.here))))) (congrArg (fun q : Tr37 => q.un.2.1.un.2.2.2) h4)) _ W).one (Af Aa (Af Aa (Af ((Br (Ah h_v1) h3 (Ai.snd (Ai.snd (Ai.snd (Ai.snd Ai.here)))) (congrArg (fun q : Tr37 => q.un.2.2.2.2) h4)) _ W).one CT)))))))) fun w W => ?_
   refine Cv tk 4 F W fun a w F W => ?_
   refine Iu C7 AY F W Aa fun v7 a w F W => ?_
   have W : Stw ⟨Y, [], w0⟩ [(b2, [.int .i64 x4.un.1, .int .i64 x4.un.2.1.un.1, .int .i64 x4.un.2.1.un.2.1, .int .i64 x4.un.2.1.un.2.2.1, (v6.2.1.2.2.2.1), .int .i64 x4.un.2.2.1, .int .i64 x4.un.2.2.2.1, (v6.2.2.2.2.1)]), (b1, (C1 p2))] [CI v7 C7 AY ([] : List (Int × (Int × Int × Int × Int))), CI v5 C7 AY x2] w := W
   refine Cv tk 7 F W fun a w F W => ?_
   refine LV (q := 1) F W Aa Aa Aa Aa R9 fun i762 m762 e762 c762 l762 a w hv762 hE762 F W => ?_
   have W : Stw ⟨Y, [], w0⟩ [(b2, [.int .i64 x4.un.1, .int .i64 x4.un.2.1.un.1, .int .i64 x4.un.2.1.un.2.1, .int .i64 x4.un.2.1.un.2.2.1, (v6.2.1.2.2.2.1), .int .i64 x4.un.2.2.1, .int .i64 x4.un.2.2.2.1, (v6.2.2.2.2.1)]), (b1, (C1 p2))] [Hb i762 m762 c762 #[] c762, GL m762 e762 c762, CI v7 C7 AY ([] : List (Int × (Int × Int × Int × Int)))] w := W
   refine Cv tk 3 F W fun a w F W => ?_
   obtain ⟨x5, h6, H⟩ := Ag H
   refine Ub (Ff := [(1, .int .i64 p1), (6, .map none), (7, v5), (9, .pointer (some ⟨b2, 0, none⟩)), (10, v7), (16, v1), (17, .int .i64 (p0.length : Int)), (18, .int .i64 x3), (19, .bool true), (21, .agg #[.int .i64 x4.un.1, .int .i64 x4.un.2.1.un.1, .int .i64 x4.un.2.1.un.2.1, .int .i64 x4.un.2.1.un.2.2.1, (v6.2.1.2.2.2.1), .int .i64 x4.un.2.2.1, .int .i64 x4.un.2.2.2.1, (v6.2.2.2.2.1)]), (22, v7), (23, v5)]) (Zr := []) (va := v7) Gh h6 (F.ra Aa) W hv762 hE762 Aa Aa (fun kx762 r762 s762 sn762 a w G762_ hc762 F W => ?_) fun a w F W => ?_
   ·
    have F : Fr 38 [] [(1, .int .i64 p1), (6, .map none), (7, v5), (9, .pointer (some ⟨b2, 0, none⟩)), (10, v7), (16, v1), (17, .int .i64 (p0.length : Int)), (18, .int .i64 x3), (19, .bool true), (21, .agg #[.int .i64 x4.un.1, .int .i64 x4.un.2.1.un.1, .int .i64 x4.un.2.1.un.2.1, .int .i64 x4.un.2.1.un.2.2.1, (v6.2.1.2.2.2.1), .int .i64 x4.un.2.2.1, .int .i64 x4.un.2.2.2.1, (v6.2.2.2.2.1)]), (22, v7), (23, v5), (24, .pointer (some ⟨i762, 0, none⟩)), (25, .tuple #[.bool true, .agg #[.int .i64 kx762.1, .int .i64 kx762.2.1, .int .i64 kx762.2.2.1, .int .i64 kx762.2.2.2.1, .int .i64 kx762.2.2.2.2], .agg #[]]), (26, .bool true)] a := F.ra Aa
    have W : Stw ⟨Y, [], w0⟩ [(b2, [.int .i64 x4.un.1, .int .i64 x4.un.2.1.un.1, .int .i64 x4.un.2.1.un.2.1, .int .i64 x4.un.2.1.un.2.2.1, (v6.2.1.2.2.2.1), .int .i64 x4.un.2.2.1, .int .i64 x4.un.2.2.2.1, (v6.2.2.2.2.1)]), (b1, (C1 p2))] [Hb i762 m762 c762 sn762 c762, GL m762 e762 c762, CI v7 C7 AY s762] w := W
    have H := G762_
    rw [CB] at H
    refine vc tk 3 F W fun a w F W => ?_
    refine ls F W Aa (LQ (q := 0) (q' := 1) F Aa Aa Aa hc762).q fun a w F W => ?_
    refine ls F W Aa (Dx (v := Value.agg #[.int .i64 kx762.1, .int .i64 kx762.2.1, .int .i64 kx762.2.2.1, .int .i64 kx762.2.2.2.1, .int .i64 kx762.2.2.2.2]) F Aa Aa).q fun a w F W => ?_
    refine AF (cs := (T1)) F W Aa Xe Aa fun b3 a w F W => ?_
    refine DZ 0 F W Aa Aa Aa D4 Aa Aa Aa fun w W => ?_
    refine Gz tk 7 [1, 0] F W (ai (ai fun a w F W => ?_))
    obtain ⟨x6, h7, H⟩ := Ag H
    refine A7 (Ml := []) (Zl := []) (β := Value) (rv := fun x => x) (MM := fun x => []) (ZZ := fun x => [CI x C7 AY x6]) F W Xn Aa Aa (fun hL => ih_policy_results _ w ((v6.2.1.2.2.2.1)) ((v6.2.2.2.2.1)) (Tr37.of (x4.un.1, Tr34.of (x4.un.2.1.un.1, x4.un.2.1.un.2.1, x4.un.2.1.un.2.2.1, x4.un.2.1.un.2.2.2), x4.un.2.2.1, x4.un.2.2.2.1, x4.un.2.2.2.2)) p1 kx762 _ h7 ((Br (Ah h_v1) h3 (Ai.snd (Ai.fst (Ai.snd (Ai.snd (Ai.snd Ai.here))))) (congrArg (fun q : Tr37 => q.un.2.1.un.2.2.2) h4)) w W).nx (Sl.at_ (W.old s_v1) h3 (Ai.snd (Ai.snd (Ai.snd (Ai.snd Ai.here)))) (congrArg (fun q : Tr37 => q.un.2.2.2.2) h4))) fun x a w F W => ?_
    obtain ⟨v8, rfl⟩ : ∃ y, y = x := ⟨x, rfl⟩
    have W : Stw ⟨Y, [], w0⟩ [(b3, (C1 kx762)), (b2, [.int .i64 x4.un.1, .int .i64 x4.un.2.1.un.1, .int .i64 x4.un.2.1.un.2.1, .int .i64 x4.un.2.1.un.2.2.1, (v6.2.1.2.2.2.1), .int .i64 x4.un.2.2.1, .int .i64 x4.un.2.2.2.1, (v6.2.2.2.2.1)]), (b1, (C1 p2))] [CI v8 C7 AY x6, Hb i762 m762 c762 sn762 c762, GL m762 e762 c762, CI v7 C7 AY s762] w := W
    have W := W.frontZ (i := 3) Aa Aa
    refine A7 (Ml := []) (Zl := [CI v7 C7 AY s762, CI v8 C7 AY x6]) (β := Unit) (rv := fun _ => .tuple #[]) (MM := fun _ => []) (ZZ := fun _ => [CI v8 C7 AY x6, CI v7 C7 AY (Ig AY s762 x6)]) F W YB Aa Aa (fun hL => Uq _ _ w _ _ _ _ hL) fun _ a w F W => ?_
    have W : Stw ⟨Y, [], w0⟩ [(b3, (C1 kx762)), (b2, [.int .i64 x4.un.1, .int .i64 x4.un.2.1.un.1, .int .i64 x4.un.2.1.un.2.1, .int .i64 x4.un.2.1.un.2.2.1, (v6.2.1.2.2.2.1), .int .i64 x4.un.2.2.1, .int .i64 x4.un.2.2.2.1, (v6.2.2.2.2.1)]), (b1, (C1 p2))] [CI v8 C7 AY x6, CI v7 C7 AY (Ig AY s762 x6), Hb i762 m762 c762 sn762 c762, GL m762 e762 c762] w := W
    refine Fd (AM (Ad ?_))
    have H := AC H
    subst H
    have W := W.frontZ (i := 1) Aa Aa
    have W := W.frontZ (i := 3) Aa Aa
    have W := W.frontZ (i := 3) Aa Aa
    have W := W.frontM (i := 2) Aa Aa
    have W := W.frontM (i := 2) Aa Aa
    have W := W.sub (M' := [(b2, [.int .i64 x4.un.1, .int .i64 x4.un.2.1.un.1, .int .i64 x4.un.2.1.un.2.1, .int .i64 x4.un.2.1.un.2.2.1, (v6.2.1.2.2.2.1), .int .i64 x4.un.2.2.1, .int .i64 x4.un.2.2.2.1, (v6.2.2.2.2.1)]), (b1, (C1 p2))]) (Z' := [Hb i762 m762 c762 sn762 c762, GL m762 e762 c762, CI v7 C7 AY (Ig AY s762 x6)]) (List.Sublist.cons_cons _ (List.Sublist.cons_cons _ (List.nil_sublist _))) (List.Sublist.cons_cons _ (List.Sublist.cons_cons _ (List.Sublist.cons_cons _ (List.nil_sublist _))))
    exact ⟨F.ra Aa, W⟩
   have F : Fr 38 [] [(1, .int .i64 p1), (6, .map none), (7, v5), (9, .pointer (some ⟨b2, 0, none⟩)), (10, v7), (16, v1), (17, .int .i64 (p0.length : Int)), (18, .int .i64 x3), (19, .bool true), (21, .agg #[.int .i64 x4.un.1, .int .i64 x4.un.2.1.un.1, .int .i64 x4.un.2.1.un.2.1, .int .i64 x4.un.2.1.un.2.2.1, (v6.2.1.2.2.2.1), .int .i64 x4.un.2.2.1, .int .i64 x4.un.2.2.2.1, (v6.2.2.2.2.1)]), (22, v7), (23, v5)] a := F.ra Aa
   have W : Stw ⟨Y, [], w0⟩ [(b2, [.int .i64 x4.un.1, .int .i64 x4.un.2.1.un.1, .int .i64 x4.un.2.1.un.2.1, .int .i64 x4.un.2.1.un.2.2.1, (v6.2.1.2.2.2.1), .int .i64 x4.un.2.2.1, .int .i64 x4.un.2.2.2.1, (v6.2.2.2.2.1)]), (b1, (C1 p2))] [CI v5 C7 AY x2, CI v7 C7 AY x5] w := W
   refine Bx ?_
   refine vn tk 4 F W fun a w F W => ?_
   refine AM ?_
   refine vn tk 4 F W fun a w F W => ?_
   refine Ad ?_
   have W := W.frontZ (i := 1) Aa Aa
   have W := W.frontM (i := 1) Aa Aa
   have W := W.sub (M' := (PI b1 p2)) (Z' := [CI v7 C7 AY x5]) (List.Sublist.cons_cons _ (List.nil_sublist _)) (List.Sublist.cons_cons _ (List.nil_sublist _))
   exact ⟨_, H, (v7), F.ra Aa, W⟩
  refine BB ?_
  iterate 2 refine BR ?_
  refine Bx (Ad ?_)
  have H := L2 _ H
  exact ⟨_, (v5), H, F.ra Aa, W⟩
 rintro a w ⟨x1, v4, hj, F, W⟩
 have hj := AC hj
 subst hj
 have H := K1
 refine vc tk 6 F W fun a w F W => ?_
 refine Am ?_
 have H := AC H
 subst H
 refine Ax (.inl Aa) F W Aa (Ap F Aa) ?_
 have W := W.sub (M' := []) (Z' := [CI v4 C7 AY x1]) (List.nil_sublist _) (List.Sublist.refl _)
 exact ⟨(v4), Aa, W⟩
theorem Zm : Has Tryz.prog 70 := CP Tryz.func70
abbrev BE (a0 : Tr37) (a1 : Value) (a2 : Value) : List Value := [.int .i64 a0.un.1, .int .i64 a0.un.2.1.un.1, .int .i64 a0.un.2.1.un.2.1, .int .i64 a0.un.2.1.un.2.2.1, a1, .int .i64 a0.un.2.2.1, .int .i64 a0.un.2.2.2.1, a2]
abbrev W6 (a0 : Nat) (a1 : Nat) (a2 : Int × (Int × Int × Int × Int)) (a3 : Nat) (a4 : Tr37) (a5 : Value) (a6 : Value) : List (Nat × List Value) := [(a0, [.int .i64 0, .int .i64 0, .int .i64 0, .int .i64 0, .slice none 0 0, .int .i64 0, .int .i64 0, .slice none 0 0]), (a1, [.int .i64 a2.1, .int .i64 a2.2.1, .int .i64 a2.2.2.1, .int .i64 a2.2.2.2.1, .int .i64 a2.2.2.2.2]), (a3, [.int .i64 a4.un.1, .int .i64 a4.un.2.1.un.1, .int .i64 a4.un.2.1.un.2.1, .int .i64 a4.un.2.1.un.2.2.1, a5, .int .i64 a4.un.2.2.1, .int .i64 a4.un.2.2.2.1, a6])]
def E2 (p0 : Tr37) (p1 : Int) (p2 : Int × (Int × Int × Int × Int)) : Option Tr37 := ((Hq (Tr34.of (p0.un.2.1.un.1, p0.un.2.1.un.2.1, p0.un.2.1.un.2.2.1, p0.un.2.1.un.2.2.2)) p1 p2.1 p2.2).bind fun x2 => (if x2 = true then some 0 else some 1)).bind fun x1 => (if (p0.un.2.2.2.2.length : Int) ≤ x1 then some (Tr37.of (0, Tr34.of (0, 0, 0, ([] : List Tr34)), 0, 0, ([] : List Tr37))) else (ix p0.un.2.2.2.2 x1).bind fun x3 => some (Tr37.of (x3.un.1, Tr34.of (x3.un.2.1.un.1, x3.un.2.1.un.2.1, x3.un.2.1.un.2.2.1, x3.un.2.1.un.2.2.2), x3.un.2.2.1, x3.un.2.2.2.1, x3.un.2.2.2.2)))
theorem NO (Y : Nat → Prop) (w0 : World) (v1 : Value) (v2 : Value) (p0 : Tr37) (p1 : Int) (p2 : Int × (Int × Int × Int × Int)) (r : Tr37) (H : E2 p0 p1 p2 = some r) (h_v1 : Sl w0 (NX []) Bj v1 p0.un.2.1.un.2.2.2) (s_v2 : Sl w0 Y Bl v2 p0.un.2.2.2.2) :
    Calls Tryz.prog 72 #[.agg #[.int .i64 p0.un.1, .int .i64 p0.un.2.1.un.1, .int .i64 p0.un.2.1.un.2.1, .int .i64 p0.un.2.1.un.2.2.1, v1, .int .i64 p0.un.2.2.1, .int .i64 p0.un.2.2.2.1, v2], .int .i64 p1, .agg #[.int .i64 p2.1, .int .i64 p2.2.1, .int .i64 p2.2.2.1, .int .i64 p2.2.2.2.1, .int .i64 p2.2.2.2.2]] w0 fun e w' => ∃ x : Value × Value, e = .returned (.agg #[.int .i64 r.un.1, .int .i64 r.un.2.1.un.1, .int .i64 r.un.2.1.un.2.1, .int .i64 r.un.2.1.un.2.2.1, x.1, .int .i64 r.un.2.2.1, .int .i64 r.un.2.2.2.1, x.2]) ∧ Stw ⟨Y, [], w0⟩ [] [B7 (x.1) Bj r.un.2.1.un.2.2.2, B7 (x.2) Bl r.un.2.2.2.2] w' := by
 refine enter Tryz.func72 Aa Tryz.ntmps72 Aa fun a F => ?_
 have W := Stw.start Y w0
 obtain ⟨v3, h1, h_v1⟩ := h_v1.ex Co
 obtain ⟨v4, h2, s_v2⟩ := s_v2.ex Dy
 have h_v2 := W.nx s_v2
 unfold E2 at H
 refine vc tk 2 F W fun a w F W => ?_
 refine CX (cs := (BE p0 v1 v2)) F W Aa Aa Aa fun b1 a w F W => ?_
 refine CX (cs := (C1 p2)) F W Aa Aa Aa fun b2 a w F W => ?_
 refine AF (cs := (AB)) F W Aa Fx Aa fun b3 a w F W => ?_
 refine Cv tk 7 F W fun a w F W => ?_
 obtain ⟨o1, G1, K1⟩ := Ag H
 refine AA (fun a w => ∃ x1 : Int, some (x1) = some o1 ∧ Fr 27 [] [(3, .pointer (some ⟨b1, 0, none⟩)), (6, .pointer (some ⟨b3, 0, none⟩)), (7, .int .i64 x1)] a ∧ Stw ⟨Y, [], w0⟩ (W6 b3 b2 p2 b1 p0 v1 v2) [] w) ?_ ?_
 ·
  have H := G1
  refine FR tk 9 [2, 1, 1] F W (ai (ai (ai fun a w F W => ?_)))
  obtain ⟨x2, h3, H⟩ := Ag H
  refine ls F W Aa (AL (v := Value.bool x2) F YY Aa (fun w W => Nq any w (v1) (Tr34.of (p0.un.2.1.un.1, p0.un.2.1.un.2.1, p0.un.2.1.un.2.2.1, p0.un.2.1.un.2.2.2)) p1 p2.1 p2.2 _ h3 (Er (Ak Co h1 (Ah h_v1)) W))) fun a w F W => ?_
  refine Cv tk 2 F W fun a w F W => ?_
  refine CK F Aa H (fun F H => ?_) fun F H => ?_
  ·
   refine vc tk 3 F W fun a w F W => ?_
   refine Ad ?_
   have W := W.frontM (i := 2) Aa Aa
   have W := W.frontM (i := 2) Aa Aa
   have W := W.frontM (i := 2) Aa Aa
   exact ⟨_, H, F.ra Aa, W⟩
  refine Bc (Ad ?_)
  have W := W.frontM (i := 2) Aa Aa
  have W := W.frontM (i := 2) Aa Aa
  have W := W.frontM (i := 2) Aa Aa
  exact ⟨_, H, F.ra Aa, W⟩
 rintro a w ⟨x1, hj, F, W⟩
 have hj := AC hj
 subst hj
 have H := K1
 refine FR tk 6 [2] F W (ai fun a w F W => ?_)
 refine ls F W Aa (C2 (r := Bl) (l := p0.un.2.2.2.2) LU Aa F Aa (Ak Dy h2 (Ah h_v2))).q fun a w F W => ?_
 refine Cv tk 3 F W fun a w F W => ?_
 refine BU F Aa H (fun F H => ?_) fun F H => ?_
 ·
  refine vc tk 2 F W fun a w F W => ?_
  refine ls F W Aa (CM (v := Value.agg #[.int .i64 0, .int .i64 0, .int .i64 0, .int .i64 0, .slice none 0 0, .int .i64 0, .int .i64 0, .slice none 0 0]) Rj F Aa Aa Aa).q fun a w F W => ?_
  refine DZ 0 F W Aa Aa Aa Is Aa Aa Aa fun w W => ?_
  refine Cv tk 2 F W fun a w F W => ?_
  refine Am (Az ?_)
  have H := AC H
  subst H
  refine Ax (.inl Aa) F W Aa (Jc 0 F Aa Aa Is Aa) ?_
  have W := W.note (Sl.nil (r := Bj))
  have W := W.note (Sl.nil (r := Bl))
  have W := W.frontZ (i := 1) Aa Aa
  have W := W.sub (M' := []) (Z' := [B7 (Value.slice none 0 0) Bj ([]), B7 (Value.slice none 0 0) Bl ([])]) (List.nil_sublist _) (List.Sublist.refl _)
  exact ⟨((Value.slice none 0 0), (Value.slice none 0 0)), Aa, W⟩
 refine QT tk 7 [2] F W (ai fun a w F W => ?_)
 obtain ⟨x3, h4, H⟩ := Ag H
 obtain ⟨v5, h5, h6⟩ := DQ h2 h4
 have h7 : IU v5 = [.int .i64 x3.un.1, .int .i64 x3.un.2.1.un.1, .int .i64 x3.un.2.1.un.2.1, .int .i64 x3.un.2.1.un.2.2.1, (v5.2.1.2.2.2.1), .int .i64 x3.un.2.2.1, .int .i64 x3.un.2.2.2.1, (v5.2.2.2.2.1)] := congrArg (fun q : Tr37 => ([.int .i64 q.un.1, .int .i64 q.un.2.1.un.1, .int .i64 q.un.2.1.un.2.1, .int .i64 q.un.2.1.un.2.2.1, (v5.2.1.2.2.2.1), .int .i64 q.un.2.2.1, .int .i64 q.un.2.2.2.1, (v5.2.2.2.2.1)] : List Value)) h6
 refine ls F W Aa (Aw (r := Dd) NC F Aa Aa (Ah h_v2) h5).q fun a w F W => ?_
 refine ls F W Aa (An (y := Value.agg #[.int .i64 x3.un.1, .int .i64 x3.un.2.1.un.1, .int .i64 x3.un.2.1.un.2.1, .int .i64 x3.un.2.1.un.2.2.1, (v5.2.1.2.2.2.1), .int .i64 x3.un.2.2.1, .int .i64 x3.un.2.2.2.1, (v5.2.2.2.2.1)]) (j := 0) (i := x1) (enc := IU) F Aa Aa (Ah h_v2) h5 OA Is (by rw [h7]; rfl)).q fun a w F W => ?_
 refine DZ 0 F W Aa Aa Aa Is Aa Aa (Af Aa (Af Aa (Af Aa (Af Aa (Af ((Br (Ah h_v2) h5 (Ai.snd (Ai.fst (Ai.snd (Ai.snd (Ai.snd Ai.here))))) (congrArg (fun q : Tr37 => q.un.2.1.un.2.2.2) h6)) _ W).one (Af Aa (Af Aa (Af ((Br (Ah h_v2) h5 (Ai.snd (Ai.snd (Ai.snd (Ai.snd Ai.here)))) (congrArg (fun q : Tr37 => q.un.2.2.2.2) h6)) _ W).one CT)))))))) fun w W => ?_
 refine Cv tk 2 F W fun a w F W => ?_
 refine Am ?_
 have H := AC H
 subst H
 refine Ax (.inl Aa) F W Aa (Jc 0 F Aa Aa Is Aa) ?_
 have W := W.note (Sl.at_ (W.old s_v2) h5 (Ai.snd (Ai.fst (Ai.snd (Ai.snd (Ai.snd Ai.here))))) (congrArg (fun q : Tr37 => q.un.2.1.un.2.2.2) h6))
 have W := W.note (Sl.at_ (W.old s_v2) h5 (Ai.snd (Ai.snd (Ai.snd (Ai.snd Ai.here)))) (congrArg (fun q : Tr37 => q.un.2.2.2.2) h6))
 have W := W.frontZ (i := 1) Aa Aa
 have W := W.sub (M' := []) (Z' := [B7 (v5.2.1.2.2.2.1) Bj x3.un.2.1.un.2.2.2, B7 (v5.2.2.2.2.1) Bl x3.un.2.2.2.2]) (List.nil_sublist _) (List.Sublist.refl _)
 exact ⟨(((v5.2.1.2.2.2.1)), ((v5.2.2.2.2.1))), Aa, W⟩
end
end Go.Proofs.YtpckgggmgijiiaaGreatDoor
