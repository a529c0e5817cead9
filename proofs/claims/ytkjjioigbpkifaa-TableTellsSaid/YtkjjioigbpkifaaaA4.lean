/- The functions of layer 11, Eh. Conditions: none. -/
import Derived.Test.YtkjjioigbpkifaaaA3
namespace Go.Proofs.Ytkjjioigbpkifaa
open Go Go.RowKit
set_option linter.unusedVariables false
set_option linter.unusedSimpArgs false
set_option maxRecDepth 20000
set_option maxHeartbeats 2000000
theorem OG : Has Try.prog 37 := ⟨fun args w => An Try.func37 rfl (by decide) args w⟩
noncomputable def AO (p0 : List (Int × (Int × (Int × Int × Int × Int) × (Int × Int × Int × Int)) × (List (Int × Int × Int)))) (p1c0 : Int) (p1c1 : Int × Int × Int × Int) : Int → Option (Int ⊕ (Unit ⊕ Int))
  | x1 => (if x1 < (p0.length : Int) then (ix p0 x1).bind fun x2 => (Dy x2 p1c0 p1c1).bind fun x3 => (if x3 = true then some (.inr (.inr x1)) else some (.inl (CL (x1 + 1)))) else some (.inr (.inl ())))
noncomputable def AW (p0 : List (Int × (Int × (Int × Int × Int × Int) × (Int × Int × Int × Int)) × (List (Int × Int × Int)))) (p1c0 : Int) (p1c1 : Int × Int × Int × Int) : Option Int := Fw (Bi (AO p0 p1c0 p1c1) 0) fun _ => some (-1)
theorem Dk (Y : Nat → Prop) (w0 : World) (v1 : Value) (q_p1c0 : Nat) (q_p1c1 : Nat) (p0 : List (Int × (Int × (Int × Int × Int × Int) × (Int × Int × Int × Int)) × (List (Int × Int × Int)))) (p1c0 : Int) (p1c1 : Int × Int × Int × Int) (r : Int) (H : AW p0 p1c0 p1c1 = some r) (h_v1 : Sl w0 (NX []) A2 v1 p0) (a_q_p1c0 : At ⟨Y, [], w0⟩ q_p1c0 0 [.int .i64 p1c0]) (a_q_p1c1 : At ⟨Y, [], w0⟩ q_p1c1 0 [.int .i64 p1c1.1, .int .i64 p1c1.2.1, .int .i64 p1c1.2.2.1, .int .i64 p1c1.2.2.2]) :
    Calls Try.prog 36 #[v1, .func (.func 37) #[] #[.pointer (some ⟨q_p1c0, 0, none⟩), .pointer (some ⟨q_p1c1, 0, none⟩)]] w0 fun e w' => e = .returned (.int .i64 r) ∧ Below w0.heap.size w0 w' := by
 refine enter Try.func36 Aa Try.ntmps36 Aa fun a F => ?_
 have W := Stw.start Y w0
 obtain ⟨v2, h1, h_v1⟩ := h_v1.ex Bd
 unfold AW at H
 refine Ak (Ae ?_)
 refine ls F W Aa (Ag F Aa).q fun a w F W => ?_
 refine Af (Ad ?_)
 obtain ⟨o1, G1, K1, L1⟩ := HR H
 refine AF (fun a w => some (Sum.inl ()) = some o1 ∧ Fr 19 [] [(4, .int .i64 0)] a ∧ Stw ⟨Y, [], w0⟩ [] [] w) ?_ ?_
 ·
  have H := G1
  clear G1 K1
  refine Ak (Ae ?_)
  refine ls F W Aa (Ah F Aa).q fun a w F W => ?_
  refine ls F W Aa (B6 (r := A2) (l := p0) D1 Aa F Aa (AU Bd h1 (Aq h_v1))).q fun a w F W => ?_
  refine ls F W Aa (Ah F Aa).q fun a w F W => ?_
  refine Af (Ad (AC ?_))
  refine Bx H (fun s a w => Fr 19 [] [(0, v1), (1, .func (.func 37) #[] #[.pointer (some ⟨q_p1c0, 0, none⟩), .pointer (some ⟨q_p1c1, 0, none⟩)]), (4, .int .i64 0), (7, .int .i64 (p0.length : Int)), (8, .int .i64 s)] a ∧ Stw ⟨Y, [], w0⟩ [] [] w) ⟨F.re ⟨rfl, Aa, Aa, Aa, Aa, trivial⟩, W⟩ fun s o a w H L2 hR => ?_
  obtain ⟨x1, rfl⟩ : ∃ x, x = s := ⟨s, rfl⟩
  obtain ⟨F, W⟩ := hR
  have F : Fr 19 [] [(0, v1), (1, .func (.func 37) #[] #[.pointer (some ⟨q_p1c0, 0, none⟩), .pointer (some ⟨q_p1c1, 0, none⟩)]), (4, .int .i64 0), (7, .int .i64 (p0.length : Int)), (8, .int .i64 x1)] a := F
  have W : Stw ⟨Y, [], w0⟩ [] [] w := W
  rw [AO] at H
  refine Ak (Ae ?_)
  refine ls F W Aa (BM F Aa Aa).q fun a w F W => ?_
  refine Af (Ad (Ak ?_))
  refine AA F Aa (fun hb => ?_) fun hb => ?_
  ·
   have H := AM (Ba hb) H
   rw [hb] at F
   clear hb
   refine Ax (Ad (Ak (AC (Ak (Ae ?_)))))
   refine ls F W Aa (Ah F Aa).q fun a w F W => ?_
   refine ls F W Aa (Ag F Aa).q fun a w F W => ?_
   refine Af (Ad (Ak (Ae ?_)))
   iterate 3 refine ls F W Aa (Ah F Aa).q fun a w F W => ?_
   obtain ⟨x2, h2, H⟩ := Ao H
   obtain ⟨v3, h3, h4⟩ := Cv h1 h2
   have h5 : Ce v3 = [.int .i64 x2.1, .int .i64 x2.2.1.1, .int .i64 x2.2.1.2.1.1, .int .i64 x2.2.1.2.1.2.1, .int .i64 x2.2.1.2.1.2.2.1, .int .i64 x2.2.1.2.1.2.2.2, .int .i64 x2.2.1.2.2.1, .int .i64 x2.2.1.2.2.2.1, .int .i64 x2.2.1.2.2.2.2.1, .int .i64 x2.2.1.2.2.2.2.2, (v3.2.2.1)] := congrArg (fun q : Int × (Int × (Int × Int × Int × Int) × (Int × Int × Int × Int)) × (List (Int × Int × Int)) => ([.int .i64 q.1, .int .i64 q.2.1.1, .int .i64 q.2.1.2.1.1, .int .i64 q.2.1.2.1.2.1, .int .i64 q.2.1.2.1.2.2.1, .int .i64 q.2.1.2.1.2.2.2, .int .i64 q.2.1.2.2.1, .int .i64 q.2.1.2.2.2.1, .int .i64 q.2.1.2.2.2.2.1, .int .i64 q.2.1.2.2.2.2.2, (v3.2.2.1)] : List Value)) h4
   refine ls F W Aa (A1 (r := CC) Fb F Aa Aa (Aq h_v1) h3).q fun a w F W => ?_
   refine ls F W Aa (AR (y := Value.agg #[.int .i64 x2.1, .int .i64 x2.2.1.1, .int .i64 x2.2.1.2.1.1, .int .i64 x2.2.1.2.1.2.1, .int .i64 x2.2.1.2.1.2.2.1, .int .i64 x2.2.1.2.1.2.2.2, .int .i64 x2.2.1.2.2.1, .int .i64 x2.2.1.2.2.2.1, .int .i64 x2.2.1.2.2.2.2.1, .int .i64 x2.2.1.2.2.2.2.2, (v3.2.2.1)]) (j := 0) (i := x1) (enc := Ce) F Aa Aa (Aq h_v1) h3 D9 CE (by rw [h5]; rfl)).q fun a w F W => ?_
   obtain ⟨x3, h6, H⟩ := Ao H
   refine ls F W Aa (Er (ws := [.agg #[.int .i64 x2.1, .int .i64 x2.2.1.1, .int .i64 x2.2.1.2.1.1, .int .i64 x2.2.1.2.1.2.1, .int .i64 x2.2.1.2.1.2.2.1, .int .i64 x2.2.1.2.1.2.2.2, .int .i64 x2.2.1.2.2.1, .int .i64 x2.2.1.2.2.2.1, .int .i64 x2.2.1.2.2.2.2.1, .int .i64 x2.2.1.2.2.2.2.2, (v3.2.2.1)], .pointer (some ⟨q_p1c0, 0, none⟩), .pointer (some ⟨q_p1c1, 0, none⟩)]) (v := Value.bool x3) F OG Aa (fun w W => H4 any w ((v3.2.2.1)) q_p1c0 q_p1c1 x2 p1c0 p1c1 _ h6 (((CH (Aq h_v1) h3 (Bh.snd (Bh.snd Bh.here)) (congrArg (fun q : Int × (Int × (Int × Int × Int × Int) × (Int × Int × Int × Int)) × (List (Int × Int × Int)) => q.2.2) h4)) : CB _ _ _ _ _ _) w W).nx (At.re a_q_p1c0 W) (At.re a_q_p1c1 W))) fun a w F W => ?_
   refine Af (Ad ?_)
   refine AA F Aa (fun hb => ?_) fun hb => ?_
   ·
    have H := AM hb H
    rw [hb] at F
    clear hb
    refine Ak (Ae ?_)
    refine ls F W Aa (Ah F Aa).q fun a w F W => ?_
    refine ls F W Aa (Ag F Aa).q fun a w F W => ?_
    refine Af (Ad (Aw (AJ ?_)))
    iterate 2 refine AD ?_
    refine AJ (AD ?_)
    have H := L2 _ H
    have H := L1 _ H
    have H := AG H
    subst H
    refine AE (.inl Aa) F W Aa (Av F Aa) ?_
    exact ⟨rfl, W.done⟩
   have H := AL (by rw [hb]; decide) H
   rw [hb] at F
   clear hb
   refine Ax (AS (Ad (Ae ?_)))
   refine ls F W Aa (Cf F Aa Aa Aa).q fun a w F W => ?_
   refine ls F W Aa (Ah F Aa).q fun a w F W => ?_
   refine Af (Ad ?_)
   exact ⟨_, H, F.re ⟨rfl, Aa, Aa, Aa, Aa, trivial⟩, W⟩
  have H := AL (A8 hb) H
  rw [hb] at F
  clear hb
  refine Bz ?_
  iterate 2 refine B1 ?_
  refine BA (Ad ?_)
  have H := L2 _ H
  exact ⟨H, F.re ⟨rfl, trivial⟩, W⟩
 rintro a w ⟨hj, F, W⟩
 have H := K1 _ hj
 clear hj G1 K1 L1
 refine Ak (Ae ?_)
 refine ls F W Aa (Ag F Aa).q fun a w F W => ?_
 refine Af (Ad (Aw ?_))
 have H := AG H
 subst H
 refine AE (.inl Aa) F W Aa (Av F Aa) ?_
 exact ⟨rfl, W.done⟩
noncomputable def CY (p0 : List (Int × (Int × (Int × Int × Int × Int) × (Int × Int × Int × Int)) × (List (Int × Int × Int)))) (p1 : Int) (p2 : Int × Int × Int × Int) : Option Int := (AW p0 p1 p2).bind fun x1 => some x1
theorem FT (Y : Nat → Prop) (w0 : World) (v1 : Value) (p0 : List (Int × (Int × (Int × Int × Int × Int) × (Int × Int × Int × Int)) × (List (Int × Int × Int)))) (p1 : Int) (p2 : Int × Int × Int × Int) (r : Int) (H : CY p0 p1 p2 = some r) (h_v1 : Sl w0 (NX []) A2 v1 p0) :
    Calls Try.prog 14 #[v1, .int .i64 p1, .agg #[.int .i64 p2.1, .int .i64 p2.2.1, .int .i64 p2.2.2.1, .int .i64 p2.2.2.2]] w0 fun e w' => e = .returned (.int .i64 r) ∧ Below w0.heap.size w0 w' := by
 refine enter Try.func14 Aa Try.ntmps14 Aa fun a F => ?_
 have W := Stw.start Y w0
 obtain ⟨v2, h1, h_v1⟩ := h_v1.ex Bd
 unfold CY at H
 refine Ak (Ae ?_)
 refine BT (cs := [.int .i64 p1]) F W Aa Aa Aa fun b1 a w F W => ?_
 refine BT (cs := [.int .i64 p2.1, .int .i64 p2.2.1, .int .i64 p2.2.2.1, .int .i64 p2.2.2.2]) F W Aa Aa Aa fun b2 a w F W => ?_
 refine ls F W Aa (Ag F Aa).q fun a w F W => ?_
 refine Af (Ad (Ak (Ae ?_)))
 refine ls F W Aa (Ah F Aa).q fun a w F W => ?_
 refine ls F W Aa (Fg (us := []) (vs := [.pointer (some ⟨b1, 0, none⟩), .pointer (some ⟨b2, 0, none⟩)]) F Aa Aa).q fun a w F W => ?_
 obtain ⟨x1, h2, H⟩ := Ao H
 refine ls F W Aa (AQ (v := Value.int .i64 x1) F MU Aa (fun w W => Dk any w (v1) b1 b2 p0 p1 p2 _ h2 (((AU Bd h1 (Aq h_v1)) : CB _ _ _ _ _ _) w W).nx (JT W 1 Aa) (JT W 0 Aa))) fun a w F W => ?_
 refine ls F W Aa (Ag F Aa).q fun a w F W => ?_
 refine Af (Ad (Aw ?_))
 have H := AG H
 subst H
 refine AE (.inl Aa) F W Aa (Av F Aa) ?_
 exact ⟨rfl, W.done⟩
theorem NP : Has Try.prog 14 := ⟨fun args w => An Try.func14 rfl (by decide) args w⟩
theorem NA : (Try.prog.info? 24).bind (·.zero) = some (.agg #[.int .i64 0, .int .i64 0, .int .i64 0, .int .i64 0]) := by kernel_rfl
def Cy (p0 : Int) : Bool := (decide (0 ≤ p0) && decide (p0 < 4))
theorem Ij (Y : Nat → Prop) (w0 : World)  (p0 : Int) (r : Bool) (H : Cy p0 = r)  :
    Calls Try.prog 76 #[.int .i64 p0] w0 fun e w' => e = .returned (.bool r) ∧ Below w0.heap.size w0 w' := by
 refine enter Try.func76 Aa Try.ntmps76 Aa fun a F => ?_
 have W := Stw.start Y w0
 unfold Cy at H
 refine Ak (Ae ?_)
 refine ls F W Aa (Ag F Aa).q fun a w F W => ?_
 refine Af (Ad ?_)
 refine AF (fun a w => Fr 9 [] [(2, .bool (decide (0 ≤ p0) && decide (p0 < 4)))] a ∧ Stw ⟨Y, [], w0⟩ [] [] w) ?_ ?_
 ·
  refine Ae ?_
  refine ls F W Aa (Ah F Aa).q fun a w F W => ?_
  refine ls F W Aa (Ey F Aa Aa).q fun a w F W => ?_
  refine ls F W Aa (Ah F Aa).q fun a w F W => ?_
  rcases Bool.eq_false_or_eq_true (decide (0 ≤ p0)) with hb0 | hb0
  ·
   rw [hb0] at F
   refine AK F W (Aj F Aa Aa Aa Aa) Aa (Ap Aa) (Ah F Aa).q fun a w F W => ?_
   refine AK F W (Aj F Aa Aa Aa Aa) Aa (Ap Aa) (BM F Aa Aa).q fun a w F W => ?_
   refine ls F W Aa (Az F Aa Aa Aa).q fun a w F W => ?_
   refine ls F W Aa (Ag F Aa).q fun a w F W => ?_
   refine Af (Ad ?_)
   exact ⟨F.re ⟨(by show some (Value.bool (decide (p0 < 4))) = some (Value.bool (decide (0 ≤ p0) && decide (p0 < 4))); try rw [hb0]; all_goals simp only [Bool.not_true, Bool.not_false, Bool.true_and, Bool.false_and, Bool.true_or, Bool.false_or, Bool.and_true, Bool.or_false, cond_true, cond_false]), trivial⟩, W⟩
  rw [hb0] at F
  iterate 2 refine Cx F Aa Aa Aa Aa Aa Aa Aa fun a F => ?_
  refine ls F W Aa (Au F Aa Aa Aa).q fun a w F W => ?_
  refine ls F W Aa (Ag F Aa).q fun a w F W => ?_
  refine Af (Ad ?_)
  exact ⟨F.re ⟨(by show some (Value.bool false) = some (Value.bool (decide (0 ≤ p0) && decide (p0 < 4))); try rw [hb0]; all_goals simp only [Bool.not_true, Bool.not_false, Bool.true_and, Bool.false_and, Bool.true_or, Bool.false_or, Bool.and_true, Bool.or_false, cond_true, cond_false]), trivial⟩, W⟩
 rintro a w ⟨F, W⟩
 refine Aw ?_
 subst H
 refine AE (.inl Aa) F W Aa (Av F Aa) ?_
 exact ⟨rfl, W.done⟩
theorem O1 : Has Try.prog 76 := ⟨fun args w => An Try.func76 rfl (by decide) args w⟩
noncomputable def Dr (p0 : Int) (p1 : Int) : Option Bool := (if 0 ≤ p1 then (Cr p0).bind fun x2 => some (decide (p1 ≤ x2)) else some false).bind fun x1 => some x1
theorem IC (Y : Nat → Prop) (w0 : World)  (p0 : Int) (p1 : Int) (r : Bool) (H : Dr p0 p1 = some r)  :
    Calls Try.prog 77 #[.int .i64 p0, .int .i64 p1] w0 fun e w' => e = .returned (.bool r) ∧ Below w0.heap.size w0 w' := by
 refine enter Try.func77 Aa Try.ntmps77 Aa fun a F => ?_
 have W := Stw.start Y w0
 unfold Dr at H
 refine Ak (Ae ?_)
 refine ls F W Aa (Ag F Aa).q fun a w F W => ?_
 refine Af (Ad ?_)
 obtain ⟨o1, G1, K1⟩ := Ao H
 refine AF (fun a w => ∃ x1 : Bool, some (x1) = some o1 ∧ Fr 13 [] [(4, .bool x1)] a ∧ Stw ⟨Y, [], w0⟩ [] [] w) ?_ ?_
 ·
  have H := G1
  clear G1 K1
  refine Ae ?_
  refine ls F W Aa (Ah F Aa).q fun a w F W => ?_
  refine ls F W Aa (Ey F Aa Aa).q fun a w F W => ?_
  refine ls F W Aa (Ah F Aa).q fun a w F W => ?_
  rcases Bool.eq_false_or_eq_true (decide (0 ≤ p1)) with hb | hb
  ·
   have H := AM (Ba hb) H
   rw [hb] at F
   clear hb
   iterate 2 refine AK F W (Aj F Aa Aa Aa Aa) Aa (Ap Aa) (Ah F Aa).q fun a w F W => ?_
   refine F8 (Aj F Aa Aa Aa Aa) ?_
   obtain ⟨x2, h1, H⟩ := Ao H
   refine ls F W Aa (AQ (v := Value.int .i64 x2) F Ns Aa (fun w W => D3 any w p0 _ h1)) fun a w F W => ?_
   refine AK F W (Aj F Aa Aa Aa Aa) Aa (Ap Aa) (GY F Aa Aa).q fun a w F W => ?_
   refine ls F W Aa (Az F Aa Aa Aa).q fun a w F W => ?_
   refine ls F W Aa (Ag F Aa).q fun a w F W => ?_
   refine Af (Ad ?_)
   exact ⟨_, H, F.re ⟨rfl, trivial⟩, W⟩
  have H := AL (A8 hb) H
  rw [hb] at F
  clear hb
  iterate 4 refine Cx F Aa Aa Aa Aa Aa Aa Aa fun a F => ?_
  refine ls F W Aa (Au F Aa Aa Aa).q fun a w F W => ?_
  refine ls F W Aa (Ag F Aa).q fun a w F W => ?_
  refine Af (Ad ?_)
  exact ⟨_, H, F.re ⟨rfl, trivial⟩, W⟩
 rintro a w ⟨x1, hj, F, W⟩
 have hj := AG hj
 subst hj
 have H := K1
 clear G1 K1
 refine Aw ?_
 have H := AG H
 subst H
 refine AE (.inl Aa) F W Aa (Av F Aa) ?_
 exact ⟨rfl, W.done⟩
theorem OX : Has Try.prog 77 := ⟨fun args w => An Try.func77 rfl (by decide) args w⟩
noncomputable def Dt (p0 : Int × Int × Int × Int) (p1 : Int) (p2 : Int) : Option (Int × Int × Int × Int) := ((if (Cy p1) = true then (Dr p1 p2).bind fun x6 => some x6 else some false).bind fun x5 => (if x5 = true then (ix ([p0.1, p0.2.1, p0.2.2.1, p0.2.2.2] : List Int) p1).bind fun x7 => some ((if p1 = 0 then p2 else p0.1), (if p1 = 1 then p2 else p0.2.1), (if p1 = 2 then p2 else p0.2.2.1), (if p1 = 3 then p2 else p0.2.2.2)) else some (p0.1, p0.2.1, p0.2.2.1, p0.2.2.2))).bind fun (x1, x2, x3, x4) => some (x1, x2, x3, x4)
theorem IF (Y : Nat → Prop) (w0 : World)  (p0 : Int × Int × Int × Int) (p1 : Int) (p2 : Int) (r : (Int × Int × Int × Int)) (H : Dt p0 p1 p2 = some r)  :
    Calls Try.prog 58 #[.agg #[.int .i64 p0.1, .int .i64 p0.2.1, .int .i64 p0.2.2.1, .int .i64 p0.2.2.2], .int .i64 p1, .int .i64 p2] w0 fun e w' => e = .returned (.agg #[.int .i64 r.1, .int .i64 r.2.1, .int .i64 r.2.2.1, .int .i64 r.2.2.2]) ∧ Below w0.heap.size w0 w' := by
 refine enter Try.func58 Aa Try.ntmps58 Aa fun a F => ?_
 have W := Stw.start Y w0
 unfold Dt at H
 refine Ak (Ae ?_)
 refine BT (cs := [.int .i64 p0.1, .int .i64 p0.2.1, .int .i64 p0.2.2.1, .int .i64 p0.2.2.2]) F W Aa Aa Aa fun b1 a w F W => ?_
 refine B9 (cs := [.int .i64 0, .int .i64 0, .int .i64 0, .int .i64 0]) F W Aa NA Aa fun b2 a w F W => ?_
 refine Af (Ad ?_)
 obtain ⟨o1, G1, K1⟩ := Ao H
 refine AF (fun a w => ∃ x1 : Int, ∃ x2 : Int, ∃ x3 : Int, ∃ x4 : Int, some ((x1, x2, x3, x4)) = some o1 ∧ Fr 18 [] [(3, .pointer (some ⟨b1, 0, none⟩)), (6, .pointer (some ⟨b2, 0, none⟩))] a ∧ Stw ⟨Y, [], w0⟩ [(b2, [.int .i64 0, .int .i64 0, .int .i64 0, .int .i64 0]), (b1, [.int .i64 x1, .int .i64 x2, .int .i64 x3, .int .i64 x4])] [] w) ?_ ?_
 ·
  have H := G1
  clear G1 K1
  obtain ⟨o2, G2, K2⟩ := Ao H
  refine AF (fun a w => ∃ x5 : Bool, some (x5) = some o2 ∧ Fr 18 [] [(1, .int .i64 p1), (2, .int .i64 p2), (3, .pointer (some ⟨b1, 0, none⟩)), (6, .pointer (some ⟨b2, 0, none⟩)), (13, .bool x5)] a ∧ Stw ⟨Y, [], w0⟩ [(b2, [.int .i64 0, .int .i64 0, .int .i64 0, .int .i64 0]), (b1, [.int .i64 p0.1, .int .i64 p0.2.1, .int .i64 p0.2.2.1, .int .i64 p0.2.2.2])] [] w) ?_ ?_
  ·
   have H := G2
   clear G2 K2
   refine Ae ?_
   refine ls F W Aa (Ah F Aa).q fun a w F W => ?_
   refine ls F W Aa (AQ (v := Value.bool (Cy p1)) F O1 Aa (fun w W => Ij any w p1 _ Aa)) fun a w F W => ?_
   refine ls F W Aa (Ah F Aa).q fun a w F W => ?_
   rcases Bool.eq_false_or_eq_true (Cy p1) with hb | hb
   ·
    have H := AM hb H
    rw [hb] at F
    clear hb
    iterate 2 refine AK F W (Aj F Aa Aa Aa Aa) Aa (Ap Aa) (Ah F Aa).q fun a w F W => ?_
    refine F8 (Aj F Aa Aa Aa Aa) ?_
    obtain ⟨x6, h1, H⟩ := Ao H
    refine ls F W Aa (AQ (v := Value.bool x6) F OX Aa (fun w W => IC any w p1 p2 _ h1)) fun a w F W => ?_
    refine ls F W Aa (Az F Aa Aa Aa).q fun a w F W => ?_
    refine Af (Ad ?_)
    have W := W.frontM (i := 1) Aa Aa
    have W := W.frontM (i := 1) Aa Aa
    exact ⟨_, H, F.re ⟨rfl, Aa, Aa, Aa, Aa, trivial⟩, W⟩
   have H := AL (by rw [hb]; decide) H
   rw [hb] at F
   clear hb
   iterate 3 refine Cx F Aa Aa Aa Aa Aa Aa Aa fun a F => ?_
   refine ls F W Aa (Au F Aa Aa Aa).q fun a w F W => ?_
   refine Af (Ad ?_)
   have W := W.frontM (i := 1) Aa Aa
   have W := W.frontM (i := 1) Aa Aa
   exact ⟨_, H, F.re ⟨rfl, Aa, Aa, Aa, Aa, trivial⟩, W⟩
  rintro a w ⟨x5, hj, F, W⟩
  have hj := AG hj
  subst hj
  have H := K2
  clear G2 K2
  refine AA F Aa (fun hb => ?_) fun hb => ?_
  ·
   have H := AM hb H
   rw [hb] at F
   clear hb
   refine Ae ?_
   iterate 2 refine ls F W Aa (Ah F Aa).q fun a w F W => ?_
   obtain ⟨x7, h2, H⟩ := Ao H
   refine ls F W Aa (Bn (0 + (p1).toNat * 1) Jj F Aa Aa Aa h2 Aa).q fun a w F W => ?_
   refine DR (o := 0) (m := 4) (i := p1) (l := ([p0.1, p0.2.1, p0.2.2.1, p0.2.2.2] : List Int)) (x := x7) (cs := [.int .i64 p0.1, .int .i64 p0.2.1, .int .i64 p0.2.2.1, .int .i64 p0.2.2.2]) (cs' := [.int .i64 (if p1 = 0 then p2 else p0.1), .int .i64 (if p1 = 1 then p2 else p0.2.1), .int .i64 (if p1 = 2 then p2 else p0.2.2.1), .int .i64 (if p1 = 3 then p2 else p0.2.2.2)]) 1 F W Aa Aa Aa T3 Aa Aa Aa Aa h2 (by intro k hk hn; rw [hk]; match k, hn with | 0, _ => rfl | 1, _ => rfl | 2, _ => rfl | 3, _ => rfl | (z + 4), h => exact absurd h (by omega)) fun w W => ?_
   have W : Stw ⟨Y, [], w0⟩ [(b2, [.int .i64 0, .int .i64 0, .int .i64 0, .int .i64 0]), (b1, [.int .i64 (if p1 = 0 then p2 else p0.1), .int .i64 (if p1 = 1 then p2 else p0.2.1), .int .i64 (if p1 = 2 then p2 else p0.2.2.1), .int .i64 (if p1 = 3 then p2 else p0.2.2.2)])] [] w := W
   refine Af (Ad ?_)
   have W := W.frontM (i := 1) Aa Aa
   have W := W.frontM (i := 1) Aa Aa
   exact ⟨_, _, _, _, H, F.re ⟨rfl, Aa, trivial⟩, W⟩
  have H := AL (by rw [hb]; decide) H
  rw [hb] at F
  clear hb
  refine Ax (Ad ?_)
  have W := W.frontM (i := 1) Aa Aa
  have W := W.frontM (i := 1) Aa Aa
  exact ⟨_, _, _, _, H, F.re ⟨rfl, Aa, trivial⟩, W⟩
 rintro a w ⟨x1, x2, x3, x4, hj, F, W⟩
 have hj := AG hj
 subst hj
 have H := K1
 clear G1 K1
 refine Ak (Ae ?_)
 refine ls F W Aa (As (v := Value.agg #[.int .i64 x1, .int .i64 x2, .int .i64 x3, .int .i64 x4]) 1 F Aa Aa GD Aa).q fun a w F W => ?_
 refine Br (vs := [.int .i64 x1, .int .i64 x2, .int .i64 x3, .int .i64 x4]) (M' := [(b2, [.int .i64 x1, .int .i64 x2, .int .i64 x3, .int .i64 x4]), (b1, [.int .i64 x1, .int .i64 x2, .int .i64 x3, .int .i64 x4])]) 0 F W Aa Aa Aa GD Aa Aa Aa Aa Aa fun w W => ?_
 refine Af (Ad (Aw ?_))
 have H := AG H
 subst H
 refine AE (.inl Aa) F W Aa (Es 0 F Aa Aa GD Aa) ?_
 exact ⟨rfl, W.done⟩
theorem Ll : type_of% Try.underlying32 := Try.underlying32
theorem MB : type_of% Try.underlying64 := Try.underlying64
theorem Pi : Has Try.prog 58 := ⟨fun args w => An Try.func58 rfl (by decide) args w⟩
theorem Oy : Bt Try.prog 64 [.int .i64 0, .int .i64 0, .int .i64 0, .int .i64 0, .int .i64 0] [(0, 1), (1, 4)] := ⟨⟨.agg #[.int .i64 0, .int .i64 0, .int .i64 0, .int .i64 0, .int .i64 0], by kernel_rfl, rfl⟩, ⟨_, MB, fun w => by kernel_rfl⟩⟩
theorem Oj : (Try.prog.info? 64).bind (·.zero) = some (.agg #[.int .i64 0, .int .i64 0, .int .i64 0, .int .i64 0, .int .i64 0]) := by kernel_rfl
abbrev NK : Rp (Int × Int × Int × Int) := (Rp.pair (Rp.int .i64) (Rp.pair (Rp.int .i64) (Rp.pair (Rp.int .i64) (Rp.int .i64))))
abbrev DY : Rp (Int × (Int × Int × Int × Int)) := (Rp.pair (Rp.int .i64) NK)
def Oi (a : Int × Int × Int × Int) : List Value := [.int .i64 a.1, .int .i64 a.2.1, .int .i64 a.2.2.1, .int .i64 a.2.2.2]
theorem N5 : Fl NK Oi := (Fl.pair Fl.int (Fl.pair Fl.int (Fl.pair Fl.int Fl.int)))
def O2 (a : Int × (Int × Int × Int × Int)) : List Value := [.int .i64 a.1, .int .i64 a.2.1, .int .i64 a.2.2.1, .int .i64 a.2.2.2.1, .int .i64 a.2.2.2.2]
theorem M3 : Fl DY O2 := (Fl.pair Fl.int N5)
theorem MG : Et Try.prog 32 64 5 40 := Et.of Ll (by kernel_rfl) (by kernel_rfl) (by kernel_rfl) (by decide)
noncomputable def DO (p0 : List (Int × Int × Int)) (p1 : Int × Int × Int × Int) : ((List (Int × (Int × Int × Int × Int))) × Int × Int × Int × Int × Int) → Option (((List (Int × (Int × Int × Int × Int))) × Int × Int × Int × Int × Int) ⊕ ((List (Int × (Int × Int × Int × Int))) × Int × Int × Int × Int))
  | (x6, x7, x8, x9, x10, x11) => (if x7 < (p0.length : Int) then ((ix p0 x7).bind fun x17 => (if x17.1 = 1 then (Dt (x8, x9, x10, x11) x17.2.1 x17.2.2).bind fun x18 => some (x6, x18.1, x18.2.1, x18.2.2.1, x18.2.2.2) else (if x17.1 = 2 then (Jm x6 ([(x17.2.2, (x8, x9, x10, x11))] : List (Int × (Int × Int × Int × Int)))).bind fun x19 => some (x19, x8, x9, x10, x11) else (if x17.1 = 3 then some (x6, p1.1, p1.2.1, p1.2.2.1, p1.2.2.2) else some (x6, x8, x9, x10, x11))))).bind fun (x12, x13, x14, x15, x16) => some (.inl (x12, CL (x7 + 1), x13, x14, x15, x16)) else some (.inr (x6, x8, x9, x10, x11)))
noncomputable def FX (p0 : List (Int × Int × Int)) (p1 : Int × Int × Int × Int) : Option (List (Int × (Int × Int × Int × Int))) := (Bi (DO p0 p1) ([], 0, p1.1, p1.2.1, p1.2.2.1, p1.2.2.2)).bind fun (x1, x2, x3, x4, x5) => some x1
theorem Kx (Y : Nat → Prop) (w0 : World) (v1 : Value) (p0 : List (Int × Int × Int)) (p1 : Int × Int × Int × Int) (r : (List (Int × (Int × Int × Int × Int)))) (H : FX p0 p1 = some r) (h_v1 : Sl w0 (NX []) Bw v1 p0) :
    Calls Try.prog 39 #[v1, .agg #[.int .i64 p1.1, .int .i64 p1.2.1, .int .i64 p1.2.2.1, .int .i64 p1.2.2.2]] w0 fun e w' => ∃ x : Value, e = .returned (x) ∧ Stw ⟨Y, [], w0⟩ [] [row (x) 64 DY r] w' := by
 refine enter Try.func39 Aa Try.ntmps39 Aa fun a F => ?_
 have W := Stw.start Y w0
 unfold FX at H
 refine Ak (Ae ?_)
 refine BT (cs := [.int .i64 p1.1, .int .i64 p1.2.1, .int .i64 p1.2.2.1, .int .i64 p1.2.2.2]) F W Aa Aa Aa fun b1 a w F W => ?_
 refine ls F W Aa (Ag F Aa).q fun a w F W => ?_
 refine Af (Ad (Ak (Ae ?_)))
 refine ls F W Aa (Ag F Aa).q fun a w F W => ?_
 refine Af (Ad (Ak (Ae ?_)))
 refine ls F W Aa (As (v := Value.agg #[.int .i64 p1.1, .int .i64 p1.2.1, .int .i64 p1.2.2.1, .int .i64 p1.2.2.2]) 0 F Aa Aa GD Aa).q fun a w F W => ?_
 refine B9 (cs := [.int .i64 0, .int .i64 0, .int .i64 0, .int .i64 0]) F W Aa NA Aa fun b2 a w F W => ?_
 refine Br (vs := [.int .i64 p1.1, .int .i64 p1.2.1, .int .i64 p1.2.2.1, .int .i64 p1.2.2.2]) (M' := [(b2, [.int .i64 p1.1, .int .i64 p1.2.1, .int .i64 p1.2.2.1, .int .i64 p1.2.2.2]), (b1, [.int .i64 p1.1, .int .i64 p1.2.1, .int .i64 p1.2.2.1, .int .i64 p1.2.2.2])]) 0 F W Aa Aa Aa GD Aa Aa Aa Aa Aa fun w W => ?_
 refine Af (Ad ?_)
 obtain ⟨o1, G1, K1⟩ := Ao H
 refine AF (fun a w => ∃ x1 : List (Int × (Int × Int × Int × Int)), ∃ x2 : Int, ∃ x3 : Int, ∃ x4 : Int, ∃ x5 : Int, ∃ v2 : Value, some ((x1, x2, x3, x4, x5)) = some o1 ∧ Fr 40 [] [(4, .slice none 0 0), (5, v2)] a ∧ Stw ⟨Y, [], w0⟩ [(b2, [.int .i64 x2, .int .i64 x3, .int .i64 x4, .int .i64 x5]), (b1, [.int .i64 p1.1, .int .i64 p1.2.1, .int .i64 p1.2.2.1, .int .i64 p1.2.2.2])] [row v2 64 DY x1] w) ?_ ?_
 ·
  have H := G1
  clear G1 K1
  refine Ak (Ae ?_)
  refine ls F W Aa (Ah F Aa).q fun a w F W => ?_
  refine ls F W Aa (B6 (r := Bw) (l := p0) HM Aa F Aa (Aq h_v1)).q fun a w F W => ?_
  refine ls F W Aa (Ah F Aa).q fun a w F W => ?_
  refine Af (Ad (AC ?_))
  have W := W.nilRow 64 DY
  have W := W.frontM (i := 1) Aa Aa
  have W := W.frontM (i := 1) Aa Aa
  refine Bx H (fun s a w => ∃ v3 : Value, Fr 40 [] [(3, .pointer (some ⟨b1, 0, none⟩)), (4, .slice none 0 0), (5, v3), (6, .pointer (some ⟨b2, 0, none⟩)), (10, v1), (11, .int .i64 (p0.length : Int)), (12, .int .i64 s.2.1)] a ∧ Stw ⟨Y, [], w0⟩ [(b2, [.int .i64 s.2.2.1, .int .i64 s.2.2.2.1, .int .i64 s.2.2.2.2.1, .int .i64 s.2.2.2.2.2]), (b1, [.int .i64 p1.1, .int .i64 p1.2.1, .int .i64 p1.2.2.1, .int .i64 p1.2.2.2])] [row v3 64 DY s.1] w) ⟨(Value.slice none 0 0), F.re ⟨rfl, Aa, Aa, Aa, Aa, Aa, Aa, trivial⟩, W⟩ fun s o a w H L2 hR => ?_
  obtain ⟨x6, x7, x8, x9, x10, x11⟩ := s
  obtain ⟨v3, F, W⟩ := hR
  have F : Fr 40 [] [(3, .pointer (some ⟨b1, 0, none⟩)), (4, .slice none 0 0), (5, v3), (6, .pointer (some ⟨b2, 0, none⟩)), (10, v1), (11, .int .i64 (p0.length : Int)), (12, .int .i64 x7)] a := F
  have W : Stw ⟨Y, [], w0⟩ [(b2, [.int .i64 x8, .int .i64 x9, .int .i64 x10, .int .i64 x11]), (b1, [.int .i64 p1.1, .int .i64 p1.2.1, .int .i64 p1.2.2.1, .int .i64 p1.2.2.2])] [row v3 64 DY x6] w := W
  rw [DO] at H
  refine Ak (Ae ?_)
  refine ls F W Aa (BM F Aa Aa).q fun a w F W => ?_
  refine Af (Ad (Ak ?_))
  refine AA F Aa (fun hb => ?_) fun hb => ?_
  ·
   have H := AM (Ba hb) H
   rw [hb] at F
   clear hb
   refine Ax (Ad ?_)
   obtain ⟨o3, G3, K3⟩ := Ao H
   refine AF (fun a w => ∃ x12 : List (Int × (Int × Int × Int × Int)), ∃ x13 : Int, ∃ x14 : Int, ∃ x15 : Int, ∃ x16 : Int, ∃ v4 : Value, some ((x12, x13, x14, x15, x16)) = some o3 ∧ Fr 40 [] [(3, .pointer (some ⟨b1, 0, none⟩)), (4, .slice none 0 0), (5, v4), (6, .pointer (some ⟨b2, 0, none⟩)), (10, v1), (11, .int .i64 (p0.length : Int)), (12, .int .i64 x7)] a ∧ Stw ⟨Y, [], w0⟩ [(b2, [.int .i64 x13, .int .i64 x14, .int .i64 x15, .int .i64 x16]), (b1, [.int .i64 p1.1, .int .i64 p1.2.1, .int .i64 p1.2.2.1, .int .i64 p1.2.2.2])] [row v4 64 DY x12] w) ?_ ?_
   ·
    have H := G3
    clear G3 K3
    refine AC (Ak (Ae ?_))
    obtain ⟨x17, h1, H⟩ := Ao H
    refine ls F W Aa (A1 (r := Bw) J1 F Aa Aa (Aq h_v1) h1).q fun a w F W => ?_
    refine ls F W Aa (AR (y := Value.agg #[.int .i64 x17.1, .int .i64 x17.2.1, .int .i64 x17.2.2]) (j := 0) (i := x7) F Aa Aa (Aq h_v1) h1 Kp.to Mn Aa).q fun a w F W => ?_
    refine B9 (cs := [.int .i64 0, .int .i64 0, .int .i64 0]) F W Aa Ng Aa fun b3 a w F W => ?_
    refine Br (vs := [.int .i64 x17.1, .int .i64 x17.2.1, .int .i64 x17.2.2]) (M' := [(b3, [.int .i64 x17.1, .int .i64 x17.2.1, .int .i64 x17.2.2]), (b2, [.int .i64 x8, .int .i64 x9, .int .i64 x10, .int .i64 x11]), (b1, [.int .i64 p1.1, .int .i64 p1.2.1, .int .i64 p1.2.2.1, .int .i64 p1.2.2.2])]) 0 F W Aa Aa Aa Mn Aa Aa Aa Aa Aa fun w W => ?_
    refine Af (Ad (Ak (Ae ?_)))
    refine ls F W Aa (Al Df Aa Aa Aa T3 F Aa 0 Aa).q fun a w F W => ?_
    refine ls F W Aa (As (v := Value.int .i64 x17.1) 0 F Aa Aa T3 Aa).q fun a w F W => ?_
    refine Af (Ad (AC (Ak (Ae ?_))))
    refine ls F W Aa (BL F Aa Aa).q fun a w F W => ?_
    refine ls F W Aa (Ag F Aa).q fun a w F W => ?_
    refine Af (Ad ?_)
    refine AA F Aa (fun hb => ?_) fun hb => ?_
    ·
     have H := AM (Ba hb) H
     rw [hb] at F
     clear hb
     refine Ae ?_
     refine ls F W Aa (As (v := Value.agg #[.int .i64 x8, .int .i64 x9, .int .i64 x10, .int .i64 x11]) 1 F Aa Aa GD Aa).q fun a w F W => ?_
     refine ls F W Aa (Al Df Aa Aa Aa T3 F Aa 1 Aa).q fun a w F W => ?_
     refine ls F W Aa (As (v := Value.int .i64 x17.2.1) 0 F Aa Aa T3 Aa).q fun a w F W => ?_
     refine ls F W Aa (Al Df Aa Aa Aa T3 F Aa 2 Aa).q fun a w F W => ?_
     refine ls F W Aa (As (v := Value.int .i64 x17.2.2) 0 F Aa Aa T3 Aa).q fun a w F W => ?_
     obtain ⟨x18, h2, H⟩ := Ao H
     refine ls F W Aa (AQ (v := Value.agg #[.int .i64 x18.1, .int .i64 x18.2.1, .int .i64 x18.2.2.1, .int .i64 x18.2.2.2]) F Pi Aa (fun w W => IF any w (x8, x9, x10, x11) x17.2.1 x17.2.2 _ h2)) fun a w F W => ?_
     refine Br (vs := [.int .i64 x18.1, .int .i64 x18.2.1, .int .i64 x18.2.2.1, .int .i64 x18.2.2.2]) (M' := [(b3, [.int .i64 x17.1, .int .i64 x17.2.1, .int .i64 x17.2.2]), (b2, [.int .i64 x18.1, .int .i64 x18.2.1, .int .i64 x18.2.2.1, .int .i64 x18.2.2.2]), (b1, [.int .i64 p1.1, .int .i64 p1.2.1, .int .i64 p1.2.2.1, .int .i64 p1.2.2.2])]) 1 F W Aa Aa Aa GD Aa Aa Aa Aa Aa fun w W => ?_
     refine Af ?_
     iterate 2 refine AS ?_
     refine Ad ?_
     have W := W.frontM (i := 2) Aa Aa
     have W := W.frontM (i := 2) Aa Aa
     have W := W.sub (M' := [(b2, [.int .i64 x18.1, .int .i64 x18.2.1, .int .i64 x18.2.2.1, .int .i64 x18.2.2.2]), (b1, [.int .i64 p1.1, .int .i64 p1.2.1, .int .i64 p1.2.2.1, .int .i64 p1.2.2.2])]) (Z' := [row v3 64 DY x6]) (List.Sublist.cons_cons _ (List.Sublist.cons_cons _ (List.nil_sublist _))) (List.Sublist.refl _)
     exact ⟨_, _, _, _, _, (v3), H, F.re ⟨rfl, Aa, Aa, Aa, Aa, Aa, Aa, trivial⟩, W⟩
    have H := AL (A8 hb) H
    rw [hb] at F
    clear hb
    refine Ak (Ae ?_)
    refine ls F W Aa (BL F Aa Aa).q fun a w F W => ?_
    refine ls F W Aa (Ag F Aa).q fun a w F W => ?_
    refine Af (Ad ?_)
    refine AA F Aa (fun hb => ?_) fun hb => ?_
    ·
     have H := AM (Ba hb) H
     rw [hb] at F
     clear hb
     refine Ae ?_
     refine ls F W Aa (Ah F Aa).q fun a w F W => ?_
     refine ls F W Aa (Al Df Aa Aa Aa T3 F Aa 2 Aa).q fun a w F W => ?_
     refine ls F W Aa (As (v := Value.int .i64 x17.2.2) 0 F Aa Aa T3 Aa).q fun a w F W => ?_
     refine ls F W Aa (As (v := Value.agg #[.int .i64 x8, .int .i64 x9, .int .i64 x10, .int .i64 x11]) 1 F Aa Aa GD Aa).q fun a w F W => ?_
     refine ls F W Aa (Dx (v := Value.agg #[.int .i64 x17.2.2, .int .i64 x8, .int .i64 x9, .int .i64 x10, .int .i64 x11]) Oy F Aa Aa Aa).q fun a w F W => ?_
     refine Il (z := Value.agg #[.int .i64 0, .int .i64 0, .int .i64 0, .int .i64 0, .int .i64 0]) (cs := [.int .i64 x17.2.2, .int .i64 x8, .int .i64 x9, .int .i64 x10, .int .i64 x11]) DY ([(x17.2.2, (x8, x9, x10, x11))] : List (Int × (Int × Int × Int × Int))) F W Aa MG Oj Aa Aa Aa Aa Aa Aa (M3.repL _ _ ([(x17.2.2, (x8, x9, x10, x11))] : List (Int × (Int × Int × Int × Int)))) fun v5 a w F W => ?_
     obtain ⟨x19, h3, H⟩ := Ao H
     refine HY (r := DY) (i := 1) F W Aa MG Aa Aa Aa Aa (Kj W 0 Aa) h3 Aa fun v6 a w F W => ?_
     have W : Stw ⟨Y, [], w0⟩ [(b3, [.int .i64 x17.1, .int .i64 x17.2.1, .int .i64 x17.2.2]), (b2, [.int .i64 x8, .int .i64 x9, .int .i64 x10, .int .i64 x11]), (b1, [.int .i64 p1.1, .int .i64 p1.2.1, .int .i64 p1.2.2.1, .int .i64 p1.2.2.2])] [row v6 64 DY x19, row v5 64 DY ([(x17.2.2, (x8, x9, x10, x11))] : List (Int × (Int × Int × Int × Int)))] w := W
     refine ls F W Aa (Ag F Aa).q fun a w F W => ?_
     refine Af ?_
     iterate 2 refine AS ?_
     refine Ad ?_
     have W := W.frontM (i := 2) Aa Aa
     have W := W.frontM (i := 2) Aa Aa
     have W := W.sub (M' := [(b2, [.int .i64 x8, .int .i64 x9, .int .i64 x10, .int .i64 x11]), (b1, [.int .i64 p1.1, .int .i64 p1.2.1, .int .i64 p1.2.2.1, .int .i64 p1.2.2.2])]) (Z' := [row v6 64 DY x19]) (List.Sublist.cons_cons _ (List.Sublist.cons_cons _ (List.nil_sublist _))) (List.Sublist.cons_cons _ (List.nil_sublist _))
     exact ⟨_, _, _, _, _, (v6), H, F.re ⟨rfl, Aa, Aa, Aa, Aa, Aa, Aa, trivial⟩, W⟩
    have H := AL (A8 hb) H
    rw [hb] at F
    clear hb
    refine Ak (Ae ?_)
    refine ls F W Aa (BL F Aa Aa).q fun a w F W => ?_
    refine ls F W Aa (Ag F Aa).q fun a w F W => ?_
    refine Af (Ad ?_)
    refine AA F Aa (fun hb => ?_) fun hb => ?_
    ·
     have H := AM (Ba hb) H
     rw [hb] at F
     clear hb
     refine Ae ?_
     refine ls F W Aa (As (v := Value.agg #[.int .i64 p1.1, .int .i64 p1.2.1, .int .i64 p1.2.2.1, .int .i64 p1.2.2.2]) 2 F Aa Aa GD Aa).q fun a w F W => ?_
     refine Br (vs := [.int .i64 p1.1, .int .i64 p1.2.1, .int .i64 p1.2.2.1, .int .i64 p1.2.2.2]) (M' := [(b3, [.int .i64 x17.1, .int .i64 x17.2.1, .int .i64 x17.2.2]), (b2, [.int .i64 p1.1, .int .i64 p1.2.1, .int .i64 p1.2.2.1, .int .i64 p1.2.2.2]), (b1, [.int .i64 p1.1, .int .i64 p1.2.1, .int .i64 p1.2.2.1, .int .i64 p1.2.2.2])]) 1 F W Aa Aa Aa GD Aa Aa Aa Aa Aa fun w W => ?_
     refine Af ?_
     iterate 2 refine AS ?_
     refine Ad ?_
     have W := W.frontM (i := 2) Aa Aa
     have W := W.frontM (i := 2) Aa Aa
     have W := W.sub (M' := [(b2, [.int .i64 p1.1, .int .i64 p1.2.1, .int .i64 p1.2.2.1, .int .i64 p1.2.2.2]), (b1, [.int .i64 p1.1, .int .i64 p1.2.1, .int .i64 p1.2.2.1, .int .i64 p1.2.2.2])]) (Z' := [row v3 64 DY x6]) (List.Sublist.cons_cons _ (List.Sublist.cons_cons _ (List.nil_sublist _))) (List.Sublist.refl _)
     exact ⟨_, _, _, _, _, (v3), H, F.re ⟨rfl, Aa, Aa, Aa, Aa, Aa, Aa, trivial⟩, W⟩
    have H := AL (A8 hb) H
    rw [hb] at F
    clear hb
    refine Ax ?_
    iterate 2 refine AS ?_
    refine Ad ?_
    have W := W.frontM (i := 2) Aa Aa
    have W := W.frontM (i := 2) Aa Aa
    have W := W.sub (M' := [(b2, [.int .i64 x8, .int .i64 x9, .int .i64 x10, .int .i64 x11]), (b1, [.int .i64 p1.1, .int .i64 p1.2.1, .int .i64 p1.2.2.1, .int .i64 p1.2.2.2])]) (Z' := [row v3 64 DY x6]) (List.Sublist.cons_cons _ (List.Sublist.cons_cons _ (List.nil_sublist _))) (List.Sublist.refl _)
    exact ⟨_, _, _, _, _, (v3), H, F.re ⟨rfl, Aa, Aa, Aa, Aa, Aa, Aa, trivial⟩, W⟩
   rintro a w ⟨x12, x13, x14, x15, x16, v4, hj, F, W⟩
   have hj := AG hj
   subst hj
   have H := K3
   clear G3 K3
   refine Ae ?_
   refine ls F W Aa (Cf F Aa Aa Aa).q fun a w F W => ?_
   refine ls F W Aa (Ah F Aa).q fun a w F W => ?_
   refine Af (Ad ?_)
   have W := W.frontM (i := 1) Aa Aa
   have W := W.frontM (i := 1) Aa Aa
   exact ⟨_, H, (v4), F.re ⟨rfl, Aa, Aa, Aa, Aa, Aa, Aa, trivial⟩, W⟩
  have H := AL (A8 hb) H
  rw [hb] at F
  clear hb
  refine Bz ?_
  iterate 2 refine B1 ?_
  refine BA (Ad ?_)
  have W := W.frontM (i := 1) Aa Aa
  have W := W.frontM (i := 1) Aa Aa
  have H := L2 _ H
  exact ⟨_, _, _, _, _, (v3), H, F.re ⟨rfl, Aa, trivial⟩, W⟩
 rintro a w ⟨x1, x2, x3, x4, x5, v2, hj, F, W⟩
 have hj := AG hj
 subst hj
 have H := K1
 clear G1 K1
 refine Ak (Ae ?_)
 refine ls F W Aa (Ah F Aa).q fun a w F W => ?_
 refine ls F W Aa (Ag F Aa).q fun a w F W => ?_
 refine Af (Ad (Aw ?_))
 have H := AG H
 subst H
 refine AE (.inl Aa) F W Aa (Av F Aa) ?_
 have W := W.sub (M' := []) (Z' := [row v2 64 DY x1]) (List.nil_sublist _) (List.Sublist.refl _)
 exact ⟨(v2), Aa, W⟩
theorem OS : Has Try.prog 39 := ⟨fun args w => An Try.func39 rfl (by decide) args w⟩
noncomputable def DS (p0 : List (Int × (Int × (Int × Int × Int × Int) × (Int × Int × Int × Int)) × (List (Int × Int × Int)))) (p1 : Int) (p2 : Int × Int × Int × Int) : Option (List (Int × (Int × Int × Int × Int))) := (CY p0 p1 p2).bind fun x1 => (if x1 < 0 then some ([] : List (Int × (Int × Int × Int × Int))) else (ix p0 x1).bind fun x2 => (FX x2.2.2 p2).bind fun x3 => some x3)
theorem Hp (Y : Nat → Prop) (w0 : World) (v1 : Value) (p0 : List (Int × (Int × (Int × Int × Int × Int) × (Int × Int × Int × Int)) × (List (Int × Int × Int)))) (p1 : Int) (p2 : Int × Int × Int × Int) (r : (List (Int × (Int × Int × Int × Int)))) (H : DS p0 p1 p2 = some r) (h_v1 : Sl w0 (NX []) A2 v1 p0) :
    Calls Try.prog 17 #[v1, .int .i64 p1, .agg #[.int .i64 p2.1, .int .i64 p2.2.1, .int .i64 p2.2.2.1, .int .i64 p2.2.2.2]] w0 fun e w' => ∃ x : Value, e = .returned (x) ∧ Stw ⟨Y, [], w0⟩ [] [row (x) 64 DY r] w' := by
 refine enter Try.func17 Aa Try.ntmps17 Aa fun a F => ?_
 have W := Stw.start Y w0
 obtain ⟨v2, h1, h_v1⟩ := h_v1.ex Bd
 unfold DS at H
 refine Ak (Ae ?_)
 refine BT (cs := [.int .i64 p2.1, .int .i64 p2.2.1, .int .i64 p2.2.2.1, .int .i64 p2.2.2.2]) F W Aa Aa Aa fun b1 a w F W => ?_
 refine ls F W Aa (Ag F Aa).q fun a w F W => ?_
 refine Af (Ad (Ak (Ae ?_)))
 iterate 2 refine ls F W Aa (Ah F Aa).q fun a w F W => ?_
 refine ls F W Aa (As (v := Value.agg #[.int .i64 p2.1, .int .i64 p2.2.1, .int .i64 p2.2.2.1, .int .i64 p2.2.2.2]) 0 F Aa Aa GD Aa).q fun a w F W => ?_
 obtain ⟨x1, h2, H⟩ := Ao H
 refine ls F W Aa (AQ (v := Value.int .i64 x1) F NP Aa (fun w W => FT any w (v1) p0 p1 p2 _ h2 (((AU Bd h1 (Aq h_v1)) : CB _ _ _ _ _ _) w W).nx)) fun a w F W => ?_
 refine ls F W Aa (Ag F Aa).q fun a w F W => ?_
 refine Af (Ad (Ak (Ak (Ae ?_))))
 refine ls F W Aa (Ah F Aa).q fun a w F W => ?_
 refine ls F W Aa (BM F Aa Aa).q fun a w F W => ?_
 refine Af (Ad ?_)
 refine AA F Aa (fun hb => ?_) fun hb => ?_
 ·
  have H := AM (Ba hb) H
  rw [hb] at F
  clear hb
  refine Ak (Ae ?_)
  refine ls F W Aa (Ag F Aa).q fun a w F W => ?_
  refine Af (Ad (Aw (AD ?_)))
  have H := AG H
  subst H
  refine AE (.inl Aa) F W Aa (Av F Aa) ?_
  have W := W.nilRow 64 DY
  have W := W.sub (M' := []) (Z' := [row (Value.slice none 0 0) 64 DY ([])]) (List.nil_sublist _) (List.Sublist.refl _)
  exact ⟨(Value.slice none 0 0), Aa, W⟩
 have H := AL (A8 hb) H
 rw [hb] at F
 clear hb
 refine Ax (Ad (Ak ?_))
 refine FM 6 W MO (by kernel_rfl) ?_
 iterate 2 refine qs F Aa (Ah F Aa).q fun a F => ?_
 obtain ⟨x2, h3, H⟩ := Ao H
 obtain ⟨v3, h4, h5⟩ := Cv h1 h3
 have h6 : Ce v3 = [.int .i64 x2.1, .int .i64 x2.2.1.1, .int .i64 x2.2.1.2.1.1, .int .i64 x2.2.1.2.1.2.1, .int .i64 x2.2.1.2.1.2.2.1, .int .i64 x2.2.1.2.1.2.2.2, .int .i64 x2.2.1.2.2.1, .int .i64 x2.2.1.2.2.2.1, .int .i64 x2.2.1.2.2.2.2.1, .int .i64 x2.2.1.2.2.2.2.2, (v3.2.2.1)] := congrArg (fun q : Int × (Int × (Int × Int × Int × Int) × (Int × Int × Int × Int)) × (List (Int × Int × Int)) => ([.int .i64 q.1, .int .i64 q.2.1.1, .int .i64 q.2.1.2.1.1, .int .i64 q.2.1.2.1.2.1, .int .i64 q.2.1.2.1.2.2.1, .int .i64 q.2.1.2.1.2.2.2, .int .i64 q.2.1.2.2.1, .int .i64 q.2.1.2.2.2.1, .int .i64 q.2.1.2.2.2.2.1, .int .i64 q.2.1.2.2.2.2.2, (v3.2.2.1)] : List Value)) h5
 refine qs F Aa (A1 (r := CC) Fb F Aa Aa (Aq h_v1) h4).q fun a F => ?_
 refine qs F Aa (Al Cw Aa Aa Aa HN F Aa (DW v1 + (x1).toNat * 11 + 10) Aa).q fun a F => ?_
 refine qs F Aa (AR (y := (v3.2.2.1)) (j := 10) (i := x1) (enc := Ce) F Aa Aa (Aq h_v1) h4 D9 HN (by rw [h6]; rfl)).q fun a F => ?_
 refine qs F Aa (As (v := Value.agg #[.int .i64 p2.1, .int .i64 p2.2.1, .int .i64 p2.2.2.1, .int .i64 p2.2.2.2]) 0 F Aa Aa GD Aa).q fun a F => ?_
 refine AY fun w W => ?_
 obtain ⟨x3, h7, H⟩ := Ao H
 refine BE (Ml := []) (Zl := []) (M := [(b1, [.int .i64 p2.1, .int .i64 p2.2.1, .int .i64 p2.2.2.1, .int .i64 p2.2.2.2])]) (Z := []) (β := Value) (rv := fun x => x) (MM := fun x => []) (ZZ := fun x => [row x 64 DY x3]) F W OS Aa Aa (fun hL => Kx _ w ((v3.2.2.1)) x2.2.2 p2 _ h7 ((CH (Aq h_v1) h4 (Bh.snd (Bh.snd Bh.here)) (congrArg (fun q : Int × (Int × (Int × Int × Int × Int) × (Int × Int × Int × Int)) × (List (Int × Int × Int)) => q.2.2) h5)) w W).nx) fun x a w F W => ?_
 obtain ⟨v4, rfl⟩ : ∃ y, y = x := ⟨x, rfl⟩
 have W : Stw ⟨Y, [], w0⟩ [(b1, [.int .i64 p2.1, .int .i64 p2.2.1, .int .i64 p2.2.2.1, .int .i64 p2.2.2.2])] [row v4 64 DY x3] w := W
 refine ls F W Aa (Ag F Aa).q fun a w F W => ?_
 refine Af (Ad (Aw ?_))
 have H := AG H
 subst H
 refine AE (.inl Aa) F W Aa (Av F Aa) ?_
 have W := W.sub (M' := []) (Z' := [row v4 64 DY x3]) (List.nil_sublist _) (List.Sublist.refl _)
 exact ⟨(v4), Aa, W⟩
theorem Od : Has Try.prog 17 := ⟨fun args w => An Try.func17 rfl (by decide) args w⟩
noncomputable def DT  : Option Bool := (E9 1 3 20 2).bind fun x1 => (Fc ([] : List (Int × (Int × (Int × Int × Int × Int) × (Int × Int × Int × Int)) × (List (Int × Int × Int)))) ([(1, (10, Ac, ([(2, 0, 1)] : List (Int × Int × Int))), false), (1, x1, false)] : List (Int × (Int × (Int × (Int × Int × Int × Int) × (Int × Int × Int × Int)) × (List (Int × Int × Int))) × Bool)) 4 9).bind fun x2 => (DS x2.1 0 (1, 3, 0, 0)).bind fun x3 => (if (x2.1.length : Int) = 2 then (if x2.2.1 = (-1) then (if x2.2.2 = 0 then (ix x2.1 0).bind fun x5 => (if x5.1 = 20 then (if (x3.length : Int) = 1 then (ix x3 0).bind fun x6 => (if x6.1 = 2 then (CY x2.1 0 (0, 0, 0, 0)).bind fun x7 => some (decide (x7 = 1)) else some false) else some false) else some false) else some false) else some false) else some false).bind fun x4 => some x4
theorem Gm (Y : Nat → Prop) (w0 : World)   (r : Bool) (H : DT  = some r)  :
    Calls Try.prog 9 #[] w0 fun e w' => e = .returned (.bool r) ∧ Below w0.heap.size w0 w' := by
 refine enter Try.func9 Aa Try.ntmps9 Aa fun a F => ?_
 have W := Stw.start Y w0
 unfold DT at H
 refine Ak (Ae ?_)
 refine ls F W Aa (Ag F Aa).q fun a w F W => ?_
 refine Af (Ad (Ak (Ae ?_)))
 refine ls F W Aa (AQ (v := Value.agg #[.int .i64 Ac.1, .int .i64 Ac.2.1.1, .int .i64 Ac.2.1.2.1, .int .i64 Ac.2.1.2.2.1, .int .i64 Ac.2.1.2.2.2, .int .i64 Ac.2.2.1, .int .i64 Ac.2.2.2.1, .int .i64 Ac.2.2.2.2.1, .int .i64 Ac.2.2.2.2.2]) F Oq Aa (fun w W => Hx any w _ Aa)) fun a w F W => ?_
 refine ls F W Aa (Dx (v := Value.agg #[.int .i64 2, .int .i64 0, .int .i64 1]) N9 F Aa Aa Aa).q fun a w F W => ?_
 refine Il (z := Value.agg #[.int .i64 0, .int .i64 0, .int .i64 0]) (cs := [.int .i64 2, .int .i64 0, .int .i64 1]) Bw ([(2, 0, 1)] : List (Int × Int × Int)) F W Aa J1 Ng Aa Aa Aa Aa Aa Aa (Kp.repL _ _ ([(2, 0, 1)] : List (Int × Int × Int))) fun v1 a w F W => ?_
 refine ls F W Aa (Dx (v := Value.agg #[.int .i64 10, .int .i64 Ac.1, .int .i64 Ac.2.1.1, .int .i64 Ac.2.1.2.1, .int .i64 Ac.2.1.2.2.1, .int .i64 Ac.2.1.2.2.2, .int .i64 Ac.2.2.1, .int .i64 Ac.2.2.2.1, .int .i64 Ac.2.2.2.2.1, .int .i64 Ac.2.2.2.2.2, v1]) Oe F Aa (Cp Aa Aa Aa (Cp Aa Aa Aa (Cp Aa (FI (W.one (k := 0) Aa)) Aa FP))) Aa).q fun a w F W => ?_
 refine B9 (cs := [.int .i64 0, .int .i64 0, .int .i64 0, .int .i64 0, .int .i64 0, .int .i64 0, .int .i64 0, .int .i64 0, .int .i64 0, .int .i64 0, .slice none 0 0]) F W Aa JR Aa fun b1 a w F W => ?_
 refine Br (vs := [.int .i64 10, .int .i64 Ac.1, .int .i64 Ac.2.1.1, .int .i64 Ac.2.1.2.1, .int .i64 Ac.2.1.2.2.1, .int .i64 Ac.2.1.2.2.2, .int .i64 Ac.2.2.1, .int .i64 Ac.2.2.2.1, .int .i64 Ac.2.2.2.2.1, .int .i64 Ac.2.2.2.2.2, v1]) (M' := [(b1, [.int .i64 10, .int .i64 Ac.1, .int .i64 Ac.2.1.1, .int .i64 Ac.2.1.2.1, .int .i64 Ac.2.1.2.2.1, .int .i64 Ac.2.1.2.2.2, .int .i64 Ac.2.2.1, .int .i64 Ac.2.2.2.1, .int .i64 Ac.2.2.2.2.1, .int .i64 Ac.2.2.2.2.2, v1])]) 0 F W Aa Aa Aa CE Aa Aa Aa (Am Aa (Am Aa (Am Aa (Am Aa (Am Aa (Am Aa (Am Aa (Am Aa (Am Aa (Am Aa (Am (W.one (k := 0) Aa) CA))))))))))) Aa fun w W => ?_
 refine Af (Ad (Ak ?_))
 refine FN [(true, 0), (true, 1), (false, 2), (true, 3), (false, 4), (false, 5), (true, 6), (true, 7), (true, 8), (true, 9), (false, 10), (false, 11), (false, 12)] (CN ⟨Y, [], w0⟩ [(some 4, b1, [.int .i64 10, .int .i64 Ac.1, .int .i64 Ac.2.1.1, .int .i64 Ac.2.1.2.1, .int .i64 Ac.2.1.2.2.1, .int .i64 Ac.2.1.2.2.2, .int .i64 Ac.2.2.1, .int .i64 Ac.2.2.2.1, .int .i64 Ac.2.2.2.2.1, .int .i64 Ac.2.2.2.2.2, v1])] []) (fun ch a d v w h => by cases d <;> exact h) MO (by kernel_rfl) W (fun w W => ⟨_, _, W, (all_cons (fun _ => (.head _)) AB), AB⟩) fun w W => ?_
 refine CO (R := [4, 1]) F Aa Aa (yC fun M Z hN hZ => Dv (cs := [.int .i64 10, .int .i64 Ac.1, .int .i64 Ac.2.1.1, .int .i64 Ac.2.1.2.1, .int .i64 Ac.2.1.2.2.1, .int .i64 Ac.2.1.2.2.2, .int .i64 Ac.2.2.1, .int .i64 Ac.2.2.2.1, .int .i64 Ac.2.2.2.2.1, .int .i64 Ac.2.2.2.2.2, v1]) (v := Value.agg #[.int .i64 10, .int .i64 Ac.1, .int .i64 Ac.2.1.1, .int .i64 Ac.2.1.2.1, .int .i64 Ac.2.1.2.2.1, .int .i64 Ac.2.1.2.2.2, .int .i64 Ac.2.2.1, .int .i64 Ac.2.2.2.1, .int .i64 Ac.2.2.2.2.1, .int .i64 Ac.2.2.2.2.2, v1]) F Aa (hN ((some 4), b1, [.int .i64 10, .int .i64 Ac.1, .int .i64 Ac.2.1.1, .int .i64 Ac.2.1.2.1, .int .i64 Ac.2.1.2.2.1, .int .i64 Ac.2.1.2.2.2, .int .i64 Ac.2.2.1, .int .i64 Ac.2.2.2.1, .int .i64 Ac.2.2.2.2.1, .int .i64 Ac.2.2.2.2.2, v1]) (.head _) Aa) CE Aa) (by kernel_rfl) Aa fun a F => ?_
 refine CO (R := []) F Aa Aa (yC fun M Z hN hZ => Dx (v := Value.agg #[.int .i64 1, .int .i64 10, .int .i64 Ac.1, .int .i64 Ac.2.1.1, .int .i64 Ac.2.1.2.1, .int .i64 Ac.2.1.2.2.1, .int .i64 Ac.2.1.2.2.2, .int .i64 Ac.2.2.1, .int .i64 Ac.2.2.2.1, .int .i64 Ac.2.2.2.2.1, .int .i64 Ac.2.2.2.2.2, v1, .bool false]) Ol F Aa (Cp Aa Aa Aa (Cp Aa Aa Aa FP)) Aa) Aa Aa fun a F => ?_
 refine Ds Aa ?_
 obtain ⟨x1, h1, H⟩ := Ao H
 refine BE (Ml := []) (Zl := []) (M := [(b1, [.int .i64 10, .int .i64 Ac.1, .int .i64 Ac.2.1.1, .int .i64 Ac.2.1.2.1, .int .i64 Ac.2.1.2.2.1, .int .i64 Ac.2.1.2.2.2, .int .i64 Ac.2.2.1, .int .i64 Ac.2.2.2.1, .int .i64 Ac.2.2.2.2.1, .int .i64 Ac.2.2.2.2.2, v1])]) (Z := [row v1 61 Bw ([(2, 0, 1)] : List (Int × Int × Int))]) (β := Value) (rv := fun x => .agg #[.int .i64 x1.1, .int .i64 x1.2.1.1, .int .i64 x1.2.1.2.1.1, .int .i64 x1.2.1.2.1.2.1, .int .i64 x1.2.1.2.1.2.2.1, .int .i64 x1.2.1.2.1.2.2.2, .int .i64 x1.2.1.2.2.1, .int .i64 x1.2.1.2.2.2.1, .int .i64 x1.2.1.2.2.2.2.1, .int .i64 x1.2.1.2.2.2.2.2, x]) (MM := fun x => []) (ZZ := fun x => [row x 61 Bw x1.2.2]) F W Po Aa Aa (fun hL => I2 _ w 1 3 20 2 _ h1) fun x a w F W => ?_
 obtain ⟨v2, rfl⟩ : ∃ y, y = x := ⟨x, rfl⟩
 have W : Stw ⟨Y, [], w0⟩ [(b1, [.int .i64 10, .int .i64 Ac.1, .int .i64 Ac.2.1.1, .int .i64 Ac.2.1.2.1, .int .i64 Ac.2.1.2.2.1, .int .i64 Ac.2.1.2.2.2, .int .i64 Ac.2.2.1, .int .i64 Ac.2.2.2.1, .int .i64 Ac.2.2.2.2.1, .int .i64 Ac.2.2.2.2.2, v1])] [row v2 61 Bw x1.2.2, row v1 61 Bw ([(2, 0, 1)] : List (Int × Int × Int))] w := W
 refine Bp (N2 := []) (NZ2 := []) (N3 := [(some 4, b1, [.int .i64 10, .int .i64 Ac.1, .int .i64 Ac.2.1.1, .int .i64 Ac.2.1.2.1, .int .i64 Ac.2.1.2.2.1, .int .i64 Ac.2.1.2.2.2, .int .i64 Ac.2.2.1, .int .i64 Ac.2.2.2.1, .int .i64 Ac.2.2.2.2.1, .int .i64 Ac.2.2.2.2.2, v1])]) (NZ3 := []) W Aa Aa (all_cons (fun _ => (.head _)) AB) AB ?_
 refine CO (R := []) F Aa Aa (yC fun M Z hN hZ => Dx (v := Value.agg #[.int .i64 1, .int .i64 x1.1, .int .i64 x1.2.1.1, .int .i64 x1.2.1.2.1.1, .int .i64 x1.2.1.2.1.2.1, .int .i64 x1.2.1.2.1.2.2.1, .int .i64 x1.2.1.2.1.2.2.2, .int .i64 x1.2.1.2.2.1, .int .i64 x1.2.1.2.2.2.1, .int .i64 x1.2.1.2.2.2.2.1, .int .i64 x1.2.1.2.2.2.2.2, v2, .bool false]) Ol F Aa (Cp Aa Aa Aa (Cp Aa Aa Aa FP)) Aa) Aa Aa fun a F => ?_
 refine Ds Aa ?_
 have W := W.frontZ (i := 1) Aa Aa
 have W := W.freeze
 have W := W.frontZ (i := 1) Aa Aa
 have W := W.freeze
 refine Il (z := Value.agg #[.int .i64 0, .int .i64 0, .int .i64 0, .int .i64 0, .int .i64 0, .int .i64 0, .int .i64 0, .int .i64 0, .int .i64 0, .int .i64 0, .int .i64 0, .slice none 0 0, .bool false]) (cs := [.int .i64 1, .int .i64 10, .int .i64 Ac.1, .int .i64 Ac.2.1.1, .int .i64 Ac.2.1.2.1, .int .i64 Ac.2.1.2.2.1, .int .i64 Ac.2.1.2.2.2, .int .i64 Ac.2.2.1, .int .i64 Ac.2.2.2.1, .int .i64 Ac.2.2.2.2.1, .int .i64 Ac.2.2.2.2.2, v1, .bool false, .int .i64 1, .int .i64 x1.1, .int .i64 x1.2.1.1, .int .i64 x1.2.1.2.1.1, .int .i64 x1.2.1.2.1.2.1, .int .i64 x1.2.1.2.1.2.2.1, .int .i64 x1.2.1.2.1.2.2.2, .int .i64 x1.2.1.2.2.1, .int .i64 x1.2.1.2.2.2.1, .int .i64 x1.2.1.2.2.2.2.1, .int .i64 x1.2.1.2.2.2.2.2, v2, .bool false]) Mi ([(1, (10, Ac, ([(2, 0, 1)] : List (Int × Int × Int))), false), (1, x1, false)] : List (Int × (Int × (Int × (Int × Int × Int × Int) × (Int × Int × Int × Int)) × (List (Int × Int × Int))) × Bool)) F W Aa N7 N8 Aa Aa Aa (Cp Aa Aa Aa (Cp Aa Aa Aa FP)) Aa Aa ⟨[Value.int .i64 1, Value.int .i64 10, Value.int .i64 Ac.1, Value.int .i64 Ac.2.1.1, Value.int .i64 Ac.2.1.2.1, Value.int .i64 Ac.2.1.2.2.1, Value.int .i64 Ac.2.1.2.2.2, Value.int .i64 Ac.2.2.1, Value.int .i64 Ac.2.2.2.1, Value.int .i64 Ac.2.2.2.2.1, Value.int .i64 Ac.2.2.2.2.2, v1, Value.bool false], _, Aa, ⟨[Value.int .i64 1], [Value.int .i64 10, Value.int .i64 Ac.1, Value.int .i64 Ac.2.1.1, Value.int .i64 Ac.2.1.2.1, Value.int .i64 Ac.2.1.2.2.1, Value.int .i64 Ac.2.1.2.2.2, Value.int .i64 Ac.2.2.1, Value.int .i64 Ac.2.2.2.1, Value.int .i64 Ac.2.2.2.2.1, Value.int .i64 Ac.2.2.2.2.2, v1, Value.bool false], Aa, Aa, ⟨[Value.int .i64 10, Value.int .i64 Ac.1, Value.int .i64 Ac.2.1.1, Value.int .i64 Ac.2.1.2.1, Value.int .i64 Ac.2.1.2.2.1, Value.int .i64 Ac.2.1.2.2.2, Value.int .i64 Ac.2.2.1, Value.int .i64 Ac.2.2.2.1, Value.int .i64 Ac.2.2.2.2.1, Value.int .i64 Ac.2.2.2.2.2, v1], [Value.bool false], Aa, ⟨[Value.int .i64 10], [Value.int .i64 Ac.1, Value.int .i64 Ac.2.1.1, Value.int .i64 Ac.2.1.2.1, Value.int .i64 Ac.2.1.2.2.1, Value.int .i64 Ac.2.1.2.2.2, Value.int .i64 Ac.2.2.1, Value.int .i64 Ac.2.2.2.1, Value.int .i64 Ac.2.2.2.2.1, Value.int .i64 Ac.2.2.2.2.2, v1], Aa, Aa, ⟨[Value.int .i64 Ac.1, Value.int .i64 Ac.2.1.1, Value.int .i64 Ac.2.1.2.1, Value.int .i64 Ac.2.1.2.2.1, Value.int .i64 Ac.2.1.2.2.2, Value.int .i64 Ac.2.2.1, Value.int .i64 Ac.2.2.2.1, Value.int .i64 Ac.2.2.2.2.1, Value.int .i64 Ac.2.2.2.2.2], [v1], Aa, ⟨[Value.int .i64 Ac.1], [Value.int .i64 Ac.2.1.1, Value.int .i64 Ac.2.1.2.1, Value.int .i64 Ac.2.1.2.2.1, Value.int .i64 Ac.2.1.2.2.2, Value.int .i64 Ac.2.2.1, Value.int .i64 Ac.2.2.2.1, Value.int .i64 Ac.2.2.2.2.1, Value.int .i64 Ac.2.2.2.2.2], Aa, Aa, ⟨[Value.int .i64 Ac.2.1.1, Value.int .i64 Ac.2.1.2.1, Value.int .i64 Ac.2.1.2.2.1, Value.int .i64 Ac.2.1.2.2.2], [Value.int .i64 Ac.2.2.1, Value.int .i64 Ac.2.2.2.1, Value.int .i64 Ac.2.2.2.2.1, Value.int .i64 Ac.2.2.2.2.2], Aa, ⟨[Value.int .i64 Ac.2.1.1], [Value.int .i64 Ac.2.1.2.1, Value.int .i64 Ac.2.1.2.2.1, Value.int .i64 Ac.2.1.2.2.2], Aa, Aa, ⟨[Value.int .i64 Ac.2.1.2.1], [Value.int .i64 Ac.2.1.2.2.1, Value.int .i64 Ac.2.1.2.2.2], Aa, Aa, ⟨[Value.int .i64 Ac.2.1.2.2.1], [Value.int .i64 Ac.2.1.2.2.2], Aa, Aa, Aa⟩⟩⟩, ⟨[Value.int .i64 Ac.2.2.1], [Value.int .i64 Ac.2.2.2.1, Value.int .i64 Ac.2.2.2.2.1, Value.int .i64 Ac.2.2.2.2.2], Aa, Aa, ⟨[Value.int .i64 Ac.2.2.2.1], [Value.int .i64 Ac.2.2.2.2.1, Value.int .i64 Ac.2.2.2.2.2], Aa, Aa, ⟨[Value.int .i64 Ac.2.2.2.2.1], [Value.int .i64 Ac.2.2.2.2.2], Aa, Aa, Aa⟩⟩⟩⟩⟩, ⟨_, Aa, (W.item (i := 1) Aa)⟩⟩⟩, Aa⟩⟩, ⟨[Value.int .i64 1, Value.int .i64 x1.1, Value.int .i64 x1.2.1.1, Value.int .i64 x1.2.1.2.1.1, Value.int .i64 x1.2.1.2.1.2.1, Value.int .i64 x1.2.1.2.1.2.2.1, Value.int .i64 x1.2.1.2.1.2.2.2, Value.int .i64 x1.2.1.2.2.1, Value.int .i64 x1.2.1.2.2.2.1, Value.int .i64 x1.2.1.2.2.2.2.1, Value.int .i64 x1.2.1.2.2.2.2.2, v2, Value.bool false], _, Aa, ⟨[Value.int .i64 1], [Value.int .i64 x1.1, Value.int .i64 x1.2.1.1, Value.int .i64 x1.2.1.2.1.1, Value.int .i64 x1.2.1.2.1.2.1, Value.int .i64 x1.2.1.2.1.2.2.1, Value.int .i64 x1.2.1.2.1.2.2.2, Value.int .i64 x1.2.1.2.2.1, Value.int .i64 x1.2.1.2.2.2.1, Value.int .i64 x1.2.1.2.2.2.2.1, Value.int .i64 x1.2.1.2.2.2.2.2, v2, Value.bool false], Aa, Aa, ⟨[Value.int .i64 x1.1, Value.int .i64 x1.2.1.1, Value.int .i64 x1.2.1.2.1.1, Value.int .i64 x1.2.1.2.1.2.1, Value.int .i64 x1.2.1.2.1.2.2.1, Value.int .i64 x1.2.1.2.1.2.2.2, Value.int .i64 x1.2.1.2.2.1, Value.int .i64 x1.2.1.2.2.2.1, Value.int .i64 x1.2.1.2.2.2.2.1, Value.int .i64 x1.2.1.2.2.2.2.2, v2], [Value.bool false], Aa, ⟨[Value.int .i64 x1.1], [Value.int .i64 x1.2.1.1, Value.int .i64 x1.2.1.2.1.1, Value.int .i64 x1.2.1.2.1.2.1, Value.int .i64 x1.2.1.2.1.2.2.1, Value.int .i64 x1.2.1.2.1.2.2.2, Value.int .i64 x1.2.1.2.2.1, Value.int .i64 x1.2.1.2.2.2.1, Value.int .i64 x1.2.1.2.2.2.2.1, Value.int .i64 x1.2.1.2.2.2.2.2, v2], Aa, Aa, ⟨[Value.int .i64 x1.2.1.1, Value.int .i64 x1.2.1.2.1.1, Value.int .i64 x1.2.1.2.1.2.1, Value.int .i64 x1.2.1.2.1.2.2.1, Value.int .i64 x1.2.1.2.1.2.2.2, Value.int .i64 x1.2.1.2.2.1, Value.int .i64 x1.2.1.2.2.2.1, Value.int .i64 x1.2.1.2.2.2.2.1, Value.int .i64 x1.2.1.2.2.2.2.2], [v2], Aa, ⟨[Value.int .i64 x1.2.1.1], [Value.int .i64 x1.2.1.2.1.1, Value.int .i64 x1.2.1.2.1.2.1, Value.int .i64 x1.2.1.2.1.2.2.1, Value.int .i64 x1.2.1.2.1.2.2.2, Value.int .i64 x1.2.1.2.2.1, Value.int .i64 x1.2.1.2.2.2.1, Value.int .i64 x1.2.1.2.2.2.2.1, Value.int .i64 x1.2.1.2.2.2.2.2], Aa, Aa, ⟨[Value.int .i64 x1.2.1.2.1.1, Value.int .i64 x1.2.1.2.1.2.1, Value.int .i64 x1.2.1.2.1.2.2.1, Value.int .i64 x1.2.1.2.1.2.2.2], [Value.int .i64 x1.2.1.2.2.1, Value.int .i64 x1.2.1.2.2.2.1, Value.int .i64 x1.2.1.2.2.2.2.1, Value.int .i64 x1.2.1.2.2.2.2.2], Aa, ⟨[Value.int .i64 x1.2.1.2.1.1], [Value.int .i64 x1.2.1.2.1.2.1, Value.int .i64 x1.2.1.2.1.2.2.1, Value.int .i64 x1.2.1.2.1.2.2.2], Aa, Aa, ⟨[Value.int .i64 x1.2.1.2.1.2.1], [Value.int .i64 x1.2.1.2.1.2.2.1, Value.int .i64 x1.2.1.2.1.2.2.2], Aa, Aa, ⟨[Value.int .i64 x1.2.1.2.1.2.2.1], [Value.int .i64 x1.2.1.2.1.2.2.2], Aa, Aa, Aa⟩⟩⟩, ⟨[Value.int .i64 x1.2.1.2.2.1], [Value.int .i64 x1.2.1.2.2.2.1, Value.int .i64 x1.2.1.2.2.2.2.1, Value.int .i64 x1.2.1.2.2.2.2.2], Aa, Aa, ⟨[Value.int .i64 x1.2.1.2.2.2.1], [Value.int .i64 x1.2.1.2.2.2.2.1, Value.int .i64 x1.2.1.2.2.2.2.2], Aa, Aa, ⟨[Value.int .i64 x1.2.1.2.2.2.2.1], [Value.int .i64 x1.2.1.2.2.2.2.2], Aa, Aa, Aa⟩⟩⟩⟩⟩, ⟨_, Aa, (W.item (i := 0) Aa)⟩⟩⟩, Aa⟩⟩, Aa⟩⟩ fun v3 a w F W => ?_
 refine Bp (N2 := []) (NZ2 := []) (N3 := [(some 4, b1, [.int .i64 10, .int .i64 Ac.1, .int .i64 Ac.2.1.1, .int .i64 Ac.2.1.2.1, .int .i64 Ac.2.1.2.2.1, .int .i64 Ac.2.1.2.2.2, .int .i64 Ac.2.2.1, .int .i64 Ac.2.2.2.1, .int .i64 Ac.2.2.2.2.1, .int .i64 Ac.2.2.2.2.2, v1])]) (NZ3 := []) W Aa Aa (all_cons (fun h => Ay (by kernel_rfl) h) AB) AB ?_
 refine Ds Aa ?_
 obtain ⟨x2, h2, H⟩ := Ao H
 have W := W.freeze
 refine BE (Ml := []) (Zl := []) (M := [(b1, [.int .i64 10, .int .i64 Ac.1, .int .i64 Ac.2.1.1, .int .i64 Ac.2.1.2.1, .int .i64 Ac.2.1.2.2.1, .int .i64 Ac.2.1.2.2.2, .int .i64 Ac.2.2.1, .int .i64 Ac.2.2.2.1, .int .i64 Ac.2.2.2.2.1, .int .i64 Ac.2.2.2.2.2, v1])]) (Z := [B7 v3 Mi ([(1, (10, Ac, ([(2, 0, 1)] : List (Int × Int × Int))), false), (1, x1, false)] : List (Int × (Int × (Int × (Int × Int × Int × Int) × (Int × Int × Int × Int)) × (List (Int × Int × Int))) × Bool)), B7 v2 Bw x1.2.2, B7 v1 Bw ([(2, 0, 1)] : List (Int × Int × Int))]) (β := Value) (rv := fun x => .tuple #[x, .int .i64 x2.2.1, .int .i64 x2.2.2]) (MM := fun x => []) (ZZ := fun x => [B7 x A2 x2.1]) F W OQ Aa Aa (fun hL => Jb _ w (Value.slice none 0 0) (v3) ([] : List (Int × (Int × (Int × Int × Int × Int) × (Int × Int × Int × Int)) × (List (Int × Int × Int)))) ([(1, (10, Ac, ([(2, 0, 1)] : List (Int × Int × Int))), false), (1, x1, false)] : List (Int × (Int × (Int × (Int × Int × Int × Int) × (Int × Int × Int × Int)) × (List (Int × Int × Int))) × Bool)) 4 9 _ h2 Sl.nil (W.item (i := 0) Aa)) fun x a w F W => ?_
 obtain ⟨v4, rfl⟩ : ∃ y, y = x := ⟨x, rfl⟩
 have W : Stw ⟨Y, [], w0⟩ [(b1, [.int .i64 10, .int .i64 Ac.1, .int .i64 Ac.2.1.1, .int .i64 Ac.2.1.2.1, .int .i64 Ac.2.1.2.2.1, .int .i64 Ac.2.1.2.2.2, .int .i64 Ac.2.2.1, .int .i64 Ac.2.2.2.1, .int .i64 Ac.2.2.2.2.1, .int .i64 Ac.2.2.2.2.2, v1])] [B7 v4 A2 x2.1, B7 v3 Mi ([(1, (10, Ac, ([(2, 0, 1)] : List (Int × Int × Int))), false), (1, x1, false)] : List (Int × (Int × (Int × (Int × Int × Int × Int) × (Int × Int × Int × Int)) × (List (Int × Int × Int))) × Bool)), B7 v2 Bw x1.2.2, B7 v1 Bw ([(2, 0, 1)] : List (Int × Int × Int))] w := W
 refine Bp (N2 := []) (NZ2 := []) (N3 := [(some 4, b1, [.int .i64 10, .int .i64 Ac.1, .int .i64 Ac.2.1.1, .int .i64 Ac.2.1.2.1, .int .i64 Ac.2.1.2.2.1, .int .i64 Ac.2.1.2.2.2, .int .i64 Ac.2.2.1, .int .i64 Ac.2.2.2.1, .int .i64 Ac.2.2.2.2.1, .int .i64 Ac.2.2.2.2.2, v1])]) (NZ3 := []) W Aa Aa (all_cons (fun h => Ay (by kernel_rfl) h) AB) AB ?_
 refine CO (R := []) F Aa Aa (yC fun M Z hN hZ => Ah F Aa) Aa Aa fun a F => ?_
 refine CO (R := []) F Aa Aa (yC fun M Z hN hZ => CI (v := v4) F Aa Aa) Aa Aa fun a F => ?_
 refine CO (R := []) F Aa Aa (yC fun M Z hN hZ => CI (v := Value.int .i64 x2.2.1) F Aa Aa) Aa Aa fun a F => ?_
 refine CO (R := []) F Aa Aa (yC fun M Z hN hZ => CI (v := Value.int .i64 x2.2.2) F Aa Aa) Aa Aa fun a F => ?_
 refine Ds Aa ?_
 refine ls F W Aa (Ag F Aa).q fun a w F W => ?_
 refine Bp (N2 := []) (NZ2 := []) (N3 := [(some 4, b1, [.int .i64 10, .int .i64 Ac.1, .int .i64 Ac.2.1.1, .int .i64 Ac.2.1.2.1, .int .i64 Ac.2.1.2.2.1, .int .i64 Ac.2.1.2.2.2, .int .i64 Ac.2.2.1, .int .i64 Ac.2.2.2.1, .int .i64 Ac.2.2.2.2.1, .int .i64 Ac.2.2.2.2.2, v1])]) (NZ3 := []) W Aa Aa (all_cons (fun h => Ay (by kernel_rfl) h) AB) AB ?_
 refine Ds Aa ?_
 refine ls F W Aa (Ag F Aa).q fun a w F W => ?_
 refine Bp (N2 := []) (NZ2 := []) (N3 := [(some 4, b1, [.int .i64 10, .int .i64 Ac.1, .int .i64 Ac.2.1.1, .int .i64 Ac.2.1.2.1, .int .i64 Ac.2.1.2.2.1, .int .i64 Ac.2.1.2.2.2, .int .i64 Ac.2.2.1, .int .i64 Ac.2.2.2.1, .int .i64 Ac.2.2.2.2.1, .int .i64 Ac.2.2.2.2.2, v1])]) (NZ3 := []) W Aa Aa (all_cons (fun h => Ay (by kernel_rfl) h) AB) AB ?_
 refine Ds Aa ?_
 refine ls F W Aa (Ag F Aa).q fun a w F W => ?_
 refine Bp (N2 := []) (NZ2 := []) (N3 := [(some 4, b1, [.int .i64 10, .int .i64 Ac.1, .int .i64 Ac.2.1.1, .int .i64 Ac.2.1.2.1, .int .i64 Ac.2.1.2.2.1, .int .i64 Ac.2.1.2.2.2, .int .i64 Ac.2.2.1, .int .i64 Ac.2.2.2.1, .int .i64 Ac.2.2.2.2.1, .int .i64 Ac.2.2.2.2.2, v1])]) (NZ3 := []) W Aa Aa (all_cons (fun h => Ay (by kernel_rfl) h) AB) AB ?_
 refine Gt (Ad (Ak (Ae ?_)))
 refine ls F W Aa (Ah F Aa).q fun a w F W => ?_
 refine ls F W Aa (Js (v := Value.agg #[.int .i64 1, .int .i64 3, .int .i64 0, .int .i64 0]) Jj Nq F Aa Aa Aa).q fun a w F W => ?_
 obtain ⟨x3, h3, H⟩ := Ao H
 refine BE (Ml := []) (Zl := []) (M := [(b1, [.int .i64 10, .int .i64 Ac.1, .int .i64 Ac.2.1.1, .int .i64 Ac.2.1.2.1, .int .i64 Ac.2.1.2.2.1, .int .i64 Ac.2.1.2.2.2, .int .i64 Ac.2.2.1, .int .i64 Ac.2.2.2.1, .int .i64 Ac.2.2.2.2.1, .int .i64 Ac.2.2.2.2.2, v1])]) (Z := [B7 v4 A2 x2.1, B7 v3 Mi ([(1, (10, Ac, ([(2, 0, 1)] : List (Int × Int × Int))), false), (1, x1, false)] : List (Int × (Int × (Int × (Int × Int × Int × Int) × (Int × Int × Int × Int)) × (List (Int × Int × Int))) × Bool)), B7 v2 Bw x1.2.2, B7 v1 Bw ([(2, 0, 1)] : List (Int × Int × Int))]) (β := Value) (rv := fun x => x) (MM := fun x => []) (ZZ := fun x => [row x 64 DY x3]) F W Od Aa Aa (fun hL => Hp _ w (v4) x2.1 0 (1, 3, 0, 0) _ h3 ((DL 0 Aa) w W).nx) fun x a w F W => ?_
 obtain ⟨v5, rfl⟩ : ∃ y, y = x := ⟨x, rfl⟩
 have W : Stw ⟨Y, [], w0⟩ [(b1, [.int .i64 10, .int .i64 Ac.1, .int .i64 Ac.2.1.1, .int .i64 Ac.2.1.2.1, .int .i64 Ac.2.1.2.2.1, .int .i64 Ac.2.1.2.2.2, .int .i64 Ac.2.2.1, .int .i64 Ac.2.2.2.1, .int .i64 Ac.2.2.2.2.1, .int .i64 Ac.2.2.2.2.2, v1])] [row v5 64 DY x3, B7 v4 A2 x2.1, B7 v3 Mi ([(1, (10, Ac, ([(2, 0, 1)] : List (Int × Int × Int))), false), (1, x1, false)] : List (Int × (Int × (Int × (Int × Int × Int × Int) × (Int × Int × Int × Int)) × (List (Int × Int × Int))) × Bool)), B7 v2 Bw x1.2.2, B7 v1 Bw ([(2, 0, 1)] : List (Int × Int × Int))] w := W
 refine ls F W Aa (Ag F Aa).q fun a w F W => ?_
 refine Af (Ad ?_)
 obtain ⟨o1, G1, K1⟩ := Ao H
 refine AF (fun a w => ∃ x4 : Bool, some (x4) = some o1 ∧ Fr 59 [] [(0, .bool x4)] a ∧ Stw ⟨Y, [], w0⟩ [(b1, [.int .i64 10, .int .i64 Ac.1, .int .i64 Ac.2.1.1, .int .i64 Ac.2.1.2.1, .int .i64 Ac.2.1.2.2.1, .int .i64 Ac.2.1.2.2.2, .int .i64 Ac.2.2.1, .int .i64 Ac.2.2.2.1, .int .i64 Ac.2.2.2.2.1, .int .i64 Ac.2.2.2.2.2, v1])] [B7 v1 Bw ([(2, 0, 1)] : List (Int × Int × Int))] w) ?_ ?_
 ·
  have H := G1
  clear G1 K1
  have W := W.frontZ (i := 1) Aa Aa
  obtain ⟨v6, h4, W⟩ := W.exF Bd
  have W := W.frontZ (i := 2) Aa Aa
  obtain ⟨v7, h5, W⟩ := W.exF MK
  refine Ae ?_
  refine ls F W Aa (Ah F Aa).q fun a w F W => ?_
  refine ls F W Aa (B6 (r := A2) (l := x2.1) D1 Aa F Aa (AU Bd h4 (DL 1 Aa))).q fun a w F W => ?_
  refine ls F W Aa (BL F Aa Aa).q fun a w F W => ?_
  refine ls F W Aa (Ah F Aa).q fun a w F W => ?_
  rcases Bool.eq_false_or_eq_true (decide ((x2.1.length : Int) = 2)) with hb | hb
  ·
   have H := AM (Ba hb) H
   rw [hb] at F
   clear hb
   refine AK F W (Aj F Aa Aa Aa Aa) Aa (Ap Aa) (Ah F Aa).q fun a w F W => ?_
   refine AK F W (Aj F Aa Aa Aa Aa) Aa (Ap Aa) (BL F Aa Aa).q fun a w F W => ?_
   refine ls F W Aa (Az F Aa Aa Aa).q fun a w F W => ?_
   refine ls F W Aa (Ah F Aa).q fun a w F W => ?_
   rcases Bool.eq_false_or_eq_true (decide (x2.2.1 = (-1))) with hb | hb
   ·
    have H := AM (Ba hb) H
    rw [hb] at F
    clear hb
    refine AK F W (Aj F Aa Aa Aa Aa) Aa (Ap Aa) (Ah F Aa).q fun a w F W => ?_
    refine AK F W (Aj F Aa Aa Aa Aa) Aa (Ap Aa) (BL F Aa Aa).q fun a w F W => ?_
    refine ls F W Aa (Az F Aa Aa Aa).q fun a w F W => ?_
    refine ls F W Aa (Ah F Aa).q fun a w F W => ?_
    rcases Bool.eq_false_or_eq_true (decide (x2.2.2 = 0)) with hb | hb
    ·
     have H := AM (Ba hb) H
     rw [hb] at F
     clear hb
     refine AK F W (Aj F Aa Aa Aa Aa) Aa (Ap Aa) (Ah F Aa).q fun a w F W => ?_
     obtain ⟨x5, h6, H⟩ := Ao H
     obtain ⟨v8, h7, h8⟩ := Cv h4 h6
     have h9 : Ce v8 = [.int .i64 x5.1, .int .i64 x5.2.1.1, .int .i64 x5.2.1.2.1.1, .int .i64 x5.2.1.2.1.2.1, .int .i64 x5.2.1.2.1.2.2.1, .int .i64 x5.2.1.2.1.2.2.2, .int .i64 x5.2.1.2.2.1, .int .i64 x5.2.1.2.2.2.1, .int .i64 x5.2.1.2.2.2.2.1, .int .i64 x5.2.1.2.2.2.2.2, (v8.2.2.1)] := congrArg (fun q : Int × (Int × (Int × Int × Int × Int) × (Int × Int × Int × Int)) × (List (Int × Int × Int)) => ([.int .i64 q.1, .int .i64 q.2.1.1, .int .i64 q.2.1.2.1.1, .int .i64 q.2.1.2.1.2.1, .int .i64 q.2.1.2.1.2.2.1, .int .i64 q.2.1.2.1.2.2.2, .int .i64 q.2.1.2.2.1, .int .i64 q.2.1.2.2.2.1, .int .i64 q.2.1.2.2.2.2.1, .int .i64 q.2.1.2.2.2.2.2, (v8.2.2.1)] : List Value)) h8
     refine AK F W (Aj F Aa Aa Aa Aa) Aa (Ap Aa) (A1 (r := CC) Fb F Aa Aa (DL 1 Aa) h7).q fun a w F W => ?_
     refine AK F W (Aj F Aa Aa Aa Aa) Aa (Ap Aa) (Al Cw Aa Aa Aa T3 F Aa (DW v4 + (0 : Int).toNat * 11) Aa).q fun a w F W => ?_
     refine AK F W (Aj F Aa Aa Aa Aa) Aa (Ap Aa) (AR (y := Value.int .i64 x5.1) (j := 0) (i := 0) (enc := Ce) F Aa Aa (DL 1 Aa) h7 D9 T3 (by rw [h9]; rfl)).q fun a w F W => ?_
     refine AK F W (Aj F Aa Aa Aa Aa) Aa (Ap Aa) (BL F Aa Aa).q fun a w F W => ?_
     refine ls F W Aa (Az F Aa Aa Aa).q fun a w F W => ?_
     refine ls F W Aa (Ah F Aa).q fun a w F W => ?_
     rcases Bool.eq_false_or_eq_true (decide (x5.1 = 20)) with hb | hb
     ·
      have H := AM (Ba hb) H
      rw [hb] at F
      clear hb
      refine AK F W (Aj F Aa Aa Aa Aa) Aa (Ap Aa) (Ah F Aa).q fun a w F W => ?_
      refine AK F W (Aj F Aa Aa Aa Aa) Aa (Ap Aa) (B6 (r := DY) (l := x3) Ll Aa F Aa (A7 2 Aa)).q fun a w F W => ?_
      refine AK F W (Aj F Aa Aa Aa Aa) Aa (Ap Aa) (BL F Aa Aa).q fun a w F W => ?_
      refine ls F W Aa (Az F Aa Aa Aa).q fun a w F W => ?_
      refine ls F W Aa (Ah F Aa).q fun a w F W => ?_
      rcases Bool.eq_false_or_eq_true (decide ((x3.length : Int) = 1)) with hb | hb
      ·
       have H := AM (Ba hb) H
       rw [hb] at F
       clear hb
       refine AK F W (Aj F Aa Aa Aa Aa) Aa (Ap Aa) (Ah F Aa).q fun a w F W => ?_
       obtain ⟨x6, h10, H⟩ := Ao H
       refine AK F W (Aj F Aa Aa Aa Aa) Aa (Ap Aa) (A1 (r := DY) MG F Aa Aa (A7 2 Aa) h10).q fun a w F W => ?_
       refine AK F W (Aj F Aa Aa Aa Aa) Aa (Ap Aa) (Al MB Aa Aa Aa T3 F Aa (DW v5 + (0 : Int).toNat * 5) Aa).q fun a w F W => ?_
       refine AK F W (Aj F Aa Aa Aa Aa) Aa (Ap Aa) (AR (y := Value.int .i64 x6.1) (j := 0) (i := 0) F Aa Aa (A7 2 Aa) h10 M3.to T3 Aa).q fun a w F W => ?_
       refine AK F W (Aj F Aa Aa Aa Aa) Aa (Ap Aa) (BL F Aa Aa).q fun a w F W => ?_
       refine ls F W Aa (Az F Aa Aa Aa).q fun a w F W => ?_
       refine ls F W Aa (Ah F Aa).q fun a w F W => ?_
       rcases Bool.eq_false_or_eq_true (decide (x6.1 = 2)) with hb | hb
       ·
        have H := AM (Ba hb) H
        rw [hb] at F
        clear hb
        refine AK F W (Aj F Aa Aa Aa Aa) Aa (Ap Aa) (Ah F Aa).q fun a w F W => ?_
        refine AK F W (Aj F Aa Aa Aa Aa) Aa (Ap Aa) (Js (v := Value.agg #[.int .i64 0, .int .i64 0, .int .i64 0, .int .i64 0]) Jj Nq F Aa Aa Aa).q fun a w F W => ?_
        refine F8 (Aj F Aa Aa Aa Aa) ?_
        obtain ⟨x7, h11, H⟩ := Ao H
        refine ls F W Aa (AQ (v := Value.int .i64 x7) F NP Aa (fun w W => FT any w (v4) x2.1 0 (0, 0, 0, 0) _ h11 (((AU Bd h4 (DL 1 Aa)) : CB _ _ _ _ _ _) w W).nx)) fun a w F W => ?_
        refine AK F W (Aj F Aa Aa Aa Aa) Aa (Ap Aa) (BL F Aa Aa).q fun a w F W => ?_
        refine ls F W Aa (Az F Aa Aa Aa).q fun a w F W => ?_
        refine ls F W Aa (Ag F Aa).q fun a w F W => ?_
        refine Af (Ad ?_)
        have W := W.frontZ (i := 4) Aa Aa
        have W := W.sub (M' := [(b1, [.int .i64 10, .int .i64 Ac.1, .int .i64 Ac.2.1.1, .int .i64 Ac.2.1.2.1, .int .i64 Ac.2.1.2.2.1, .int .i64 Ac.2.1.2.2.2, .int .i64 Ac.2.2.1, .int .i64 Ac.2.2.2.1, .int .i64 Ac.2.2.2.2.1, .int .i64 Ac.2.2.2.2.2, v1])]) (Z' := [B7 v1 Bw ([(2, 0, 1)] : List (Int × Int × Int))]) (List.Sublist.refl _) (List.Sublist.cons_cons _ (List.nil_sublist _))
        exact ⟨_, H, F.re ⟨rfl, trivial⟩, W⟩
       have H := AL (A8 hb) H
       rw [hb] at F
       clear hb
       iterate 4 refine Cx F Aa Aa Aa Aa Aa Aa Aa fun a F => ?_
       refine ls F W Aa (Au F Aa Aa Aa).q fun a w F W => ?_
       refine ls F W Aa (Ag F Aa).q fun a w F W => ?_
       refine Af (Ad ?_)
       have W := W.frontZ (i := 4) Aa Aa
       have W := W.sub (M' := [(b1, [.int .i64 10, .int .i64 Ac.1, .int .i64 Ac.2.1.1, .int .i64 Ac.2.1.2.1, .int .i64 Ac.2.1.2.2.1, .int .i64 Ac.2.1.2.2.2, .int .i64 Ac.2.2.1, .int .i64 Ac.2.2.2.1, .int .i64 Ac.2.2.2.2.1, .int .i64 Ac.2.2.2.2.2, v1])]) (Z' := [B7 v1 Bw ([(2, 0, 1)] : List (Int × Int × Int))]) (List.Sublist.refl _) (List.Sublist.cons_cons _ (List.nil_sublist _))
       exact ⟨_, H, F.re ⟨rfl, trivial⟩, W⟩
      have H := AL (A8 hb) H
      rw [hb] at F
      clear hb
      iterate 5 refine Cx F Aa Aa Aa Aa Aa Aa Aa fun a F => ?_
      refine ls F W Aa (Au F Aa Aa Aa).q fun a w F W => ?_
      refine ls F W Aa (Ah F Aa).q fun a w F W => ?_
      iterate 4 refine Cx F Aa Aa Aa Aa Aa Aa Aa fun a F => ?_
      refine ls F W Aa (Au F Aa Aa Aa).q fun a w F W => ?_
      refine ls F W Aa (Ag F Aa).q fun a w F W => ?_
      refine Af (Ad ?_)
      have W := W.frontZ (i := 4) Aa Aa
      have W := W.sub (M' := [(b1, [.int .i64 10, .int .i64 Ac.1, .int .i64 Ac.2.1.1, .int .i64 Ac.2.1.2.1, .int .i64 Ac.2.1.2.2.1, .int .i64 Ac.2.1.2.2.2, .int .i64 Ac.2.2.1, .int .i64 Ac.2.2.2.1, .int .i64 Ac.2.2.2.2.1, .int .i64 Ac.2.2.2.2.2, v1])]) (Z' := [B7 v1 Bw ([(2, 0, 1)] : List (Int × Int × Int))]) (List.Sublist.refl _) (List.Sublist.cons_cons _ (List.nil_sublist _))
      exact ⟨_, H, F.re ⟨rfl, trivial⟩, W⟩
     have H := AL (A8 hb) H
     rw [hb] at F
     clear hb
     iterate 3 refine Cx F Aa Aa Aa Aa Aa Aa Aa fun a F => ?_
     refine ls F W Aa (Au F Aa Aa Aa).q fun a w F W => ?_
     refine ls F W Aa (Ah F Aa).q fun a w F W => ?_
     iterate 5 refine Cx F Aa Aa Aa Aa Aa Aa Aa fun a F => ?_
     refine ls F W Aa (Au F Aa Aa Aa).q fun a w F W => ?_
     refine ls F W Aa (Ah F Aa).q fun a w F W => ?_
     iterate 4 refine Cx F Aa Aa Aa Aa Aa Aa Aa fun a F => ?_
     refine ls F W Aa (Au F Aa Aa Aa).q fun a w F W => ?_
     refine ls F W Aa (Ag F Aa).q fun a w F W => ?_
     refine Af (Ad ?_)
     have W := W.frontZ (i := 4) Aa Aa
     have W := W.sub (M' := [(b1, [.int .i64 10, .int .i64 Ac.1, .int .i64 Ac.2.1.1, .int .i64 Ac.2.1.2.1, .int .i64 Ac.2.1.2.2.1, .int .i64 Ac.2.1.2.2.2, .int .i64 Ac.2.2.1, .int .i64 Ac.2.2.2.1, .int .i64 Ac.2.2.2.2.1, .int .i64 Ac.2.2.2.2.2, v1])]) (Z' := [B7 v1 Bw ([(2, 0, 1)] : List (Int × Int × Int))]) (List.Sublist.refl _) (List.Sublist.cons_cons _ (List.nil_sublist _))
     exact ⟨_, H, F.re ⟨rfl, trivial⟩, W⟩
    have H := AL (A8 hb) H
    rw [hb] at F
    clear hb
    iterate 5 refine Cx F Aa Aa Aa Aa Aa Aa Aa fun a F => ?_
    refine ls F W Aa (Au F Aa Aa Aa).q fun a w F W => ?_
    refine ls F W Aa (Ah F Aa).q fun a w F W => ?_
    iterate 3 refine Cx F Aa Aa Aa Aa Aa Aa Aa fun a F => ?_
    refine ls F W Aa (Au F Aa Aa Aa).q fun a w F W => ?_
    refine ls F W Aa (Ah F Aa).q fun a w F W => ?_
    iterate 5 refine Cx F Aa Aa Aa Aa Aa Aa Aa fun a F => ?_
    refine ls F W Aa (Au F Aa Aa Aa).q fun a w F W => ?_
    refine ls F W Aa (Ah F Aa).q fun a w F W => ?_
    iterate 4 refine Cx F Aa Aa Aa Aa Aa Aa Aa fun a F => ?_
    refine ls F W Aa (Au F Aa Aa Aa).q fun a w F W => ?_
    refine ls F W Aa (Ag F Aa).q fun a w F W => ?_
    refine Af (Ad ?_)
    have W := W.frontZ (i := 4) Aa Aa
    have W := W.sub (M' := [(b1, [.int .i64 10, .int .i64 Ac.1, .int .i64 Ac.2.1.1, .int .i64 Ac.2.1.2.1, .int .i64 Ac.2.1.2.2.1, .int .i64 Ac.2.1.2.2.2, .int .i64 Ac.2.2.1, .int .i64 Ac.2.2.2.1, .int .i64 Ac.2.2.2.2.1, .int .i64 Ac.2.2.2.2.2, v1])]) (Z' := [B7 v1 Bw ([(2, 0, 1)] : List (Int × Int × Int))]) (List.Sublist.refl _) (List.Sublist.cons_cons _ (List.nil_sublist _))
    exact ⟨_, H, F.re ⟨rfl, trivial⟩, W⟩
   have H := AL (A8 hb) H
   rw [hb] at F
   clear hb
   iterate 2 refine Cx F Aa Aa Aa Aa Aa Aa Aa fun a F => ?_
   refine ls F W Aa (Au F Aa Aa Aa).q fun a w F W => ?_
   refine ls F W Aa (Ah F Aa).q fun a w F W => ?_
   iterate 5 refine Cx F Aa Aa Aa Aa Aa Aa Aa fun a F => ?_
   refine ls F W Aa (Au F Aa Aa Aa).q fun a w F W => ?_
   refine ls F W Aa (Ah F Aa).q fun a w F W => ?_
   iterate 3 refine Cx F Aa Aa Aa Aa Aa Aa Aa fun a F => ?_
   refine ls F W Aa (Au F Aa Aa Aa).q fun a w F W => ?_
   refine ls F W Aa (Ah F Aa).q fun a w F W => ?_
   iterate 5 refine Cx F Aa Aa Aa Aa Aa Aa Aa fun a F => ?_
   refine ls F W Aa (Au F Aa Aa Aa).q fun a w F W => ?_
   refine ls F W Aa (Ah F Aa).q fun a w F W => ?_
   iterate 4 refine Cx F Aa Aa Aa Aa Aa Aa Aa fun a F => ?_
   refine ls F W Aa (Au F Aa Aa Aa).q fun a w F W => ?_
   refine ls F W Aa (Ag F Aa).q fun a w F W => ?_
   refine Af (Ad ?_)
   have W := W.frontZ (i := 4) Aa Aa
   have W := W.sub (M' := [(b1, [.int .i64 10, .int .i64 Ac.1, .int .i64 Ac.2.1.1, .int .i64 Ac.2.1.2.1, .int .i64 Ac.2.1.2.2.1, .int .i64 Ac.2.1.2.2.2, .int .i64 Ac.2.2.1, .int .i64 Ac.2.2.2.1, .int .i64 Ac.2.2.2.2.1, .int .i64 Ac.2.2.2.2.2, v1])]) (Z' := [B7 v1 Bw ([(2, 0, 1)] : List (Int × Int × Int))]) (List.Sublist.refl _) (List.Sublist.cons_cons _ (List.nil_sublist _))
   exact ⟨_, H, F.re ⟨rfl, trivial⟩, W⟩
  have H := AL (A8 hb) H
  rw [hb] at F
  clear hb
  iterate 2 refine Cx F Aa Aa Aa Aa Aa Aa Aa fun a F => ?_
  refine ls F W Aa (Au F Aa Aa Aa).q fun a w F W => ?_
  refine ls F W Aa (Ah F Aa).q fun a w F W => ?_
  iterate 2 refine Cx F Aa Aa Aa Aa Aa Aa Aa fun a F => ?_
  refine ls F W Aa (Au F Aa Aa Aa).q fun a w F W => ?_
  refine ls F W Aa (Ah F Aa).q fun a w F W => ?_
  iterate 5 refine Cx F Aa Aa Aa Aa Aa Aa Aa fun a F => ?_
  refine ls F W Aa (Au F Aa Aa Aa).q fun a w F W => ?_
  refine ls F W Aa (Ah F Aa).q fun a w F W => ?_
  iterate 3 refine Cx F Aa Aa Aa Aa Aa Aa Aa fun a F => ?_
  refine ls F W Aa (Au F Aa Aa Aa).q fun a w F W => ?_
  refine ls F W Aa (Ah F Aa).q fun a w F W => ?_
  iterate 5 refine Cx F Aa Aa Aa Aa Aa Aa Aa fun a F => ?_
  refine ls F W Aa (Au F Aa Aa Aa).q fun a w F W => ?_
  refine ls F W Aa (Ah F Aa).q fun a w F W => ?_
  iterate 4 refine Cx F Aa Aa Aa Aa Aa Aa Aa fun a F => ?_
  refine ls F W Aa (Au F Aa Aa Aa).q fun a w F W => ?_
  refine ls F W Aa (Ag F Aa).q fun a w F W => ?_
  refine Af (Ad ?_)
  have W := W.frontZ (i := 4) Aa Aa
  have W := W.sub (M' := [(b1, [.int .i64 10, .int .i64 Ac.1, .int .i64 Ac.2.1.1, .int .i64 Ac.2.1.2.1, .int .i64 Ac.2.1.2.2.1, .int .i64 Ac.2.1.2.2.2, .int .i64 Ac.2.2.1, .int .i64 Ac.2.2.2.1, .int .i64 Ac.2.2.2.2.1, .int .i64 Ac.2.2.2.2.2, v1])]) (Z' := [B7 v1 Bw ([(2, 0, 1)] : List (Int × Int × Int))]) (List.Sublist.refl _) (List.Sublist.cons_cons _ (List.nil_sublist _))
  exact ⟨_, H, F.re ⟨rfl, trivial⟩, W⟩
 rintro a w ⟨x4, hj, F, W⟩
 have hj := AG hj
 subst hj
 have H := K1
 clear G1 K1
 refine Aw ?_
 have H := AG H
 subst H
 refine AE (.inl Aa) F W Aa (Av F Aa) ?_
 exact ⟨rfl, W.done⟩
theorem Nm : type_of% Try.underlying65 := Try.underlying65
theorem NG : type_of% Try.underlying66 := Try.underlying66
theorem MI : type_of% Try.underlying68 := Try.underlying68
theorem H9 : Has Try.prog 9 := ⟨fun args w => An Try.func9 rfl (by decide) args w⟩
abbrev HT (x : Int × (Int × (Int × Int × Int × Int) × (Int × Int × Int × Int))) : Value := .agg #[.int .i64 x.1, .int .i64 x.2.1, .int .i64 x.2.2.1.1, .int .i64 x.2.2.1.2.1, .int .i64 x.2.2.1.2.2.1, .int .i64 x.2.2.1.2.2.2, .int .i64 x.2.2.2.1, .int .i64 x.2.2.2.2.1, .int .i64 x.2.2.2.2.2.1, .int .i64 x.2.2.2.2.2.2]
abbrev IG (x : Unit) : Value := .agg #[]
theorem O9 : Bt Try.prog 68 [.int .i64 0, .int .i64 0, .int .i64 0, .int .i64 0, .int .i64 0, .int .i64 0, .int .i64 0, .int .i64 0, .int .i64 0, .int .i64 0] [(0, 1), (1, 9)] := ⟨⟨.agg #[.int .i64 0, .int .i64 0, .int .i64 0, .int .i64 0, .int .i64 0, .int .i64 0, .int .i64 0, .int .i64 0, .int .i64 0, .int .i64 0], by kernel_rfl, rfl⟩, ⟨_, MI, fun w => by kernel_rfl⟩⟩
theorem Pa : Bt Try.prog 66 [] [] := ⟨⟨.agg #[], by kernel_rfl, rfl⟩, ⟨_, NG, fun w => by kernel_rfl⟩⟩
theorem NI (dd : Nat) (x0 : Int) (x1 : Int) (x2 : Int) (x3 : Int) (x4 : Int) (x5 : Int) (x6 : Int) (x7 : Int) (x8 : Int) (x9 : Int) (y0 : Int) (y1 : Int) (y2 : Int) (y3 : Int) (y4 : Int) (y5 : Int) (y6 : Int) (y7 : Int) (y8 : Int) (y9 : Int) (w : World) : (Op.equalIn (dd + 4) 68 (.agg #[.int .i64 x0, .int .i64 x1, .int .i64 x2, .int .i64 x3, .int .i64 x4, .int .i64 x5, .int .i64 x6, .int .i64 x7, .int .i64 x8, .int .i64 x9]) (.agg #[.int .i64 y0, .int .i64 y1, .int .i64 y2, .int .i64 y3, .int .i64 y4, .int .i64 y5, .int .i64 y6, .int .i64 y7, .int .i64 y8, .int .i64 y9])).run Try.prog w = .ok (decide (x0 = y0 ∧ x1 = y1 ∧ x2 = y2 ∧ x3 = y3 ∧ x4 = y4 ∧ x5 = y5 ∧ x6 = y6 ∧ x7 = y7 ∧ x8 = y8 ∧ x9 = y9)) w :=
  Gx (d := dd + 3) (rs := [decide (x0 = y0), decide (x1 = y1 ∧ x2 = y2 ∧ x3 = y3 ∧ x4 = y4 ∧ x5 = y5 ∧ x6 = y6 ∧ x7 = y7 ∧ x8 = y8 ∧ x9 = y9)]) MI (by kernel_rfl) ⟨rfl, Gy (d := dd + 2) rfl rfl LY T3 rfl rfl, rfl, HQ (d := dd + 3) (sz := 9) (xs' := [.int .i64 x1, .int .i64 x2, .int .i64 x3, .int .i64 x4, .int .i64 x5, .int .i64 x6, .int .i64 x7, .int .i64 x8, .int .i64 x9]) (ys' := [.int .i64 y1, .int .i64 y2, .int .i64 y3, .int .i64 y4, .int .i64 y5, .int .i64 y6, .int .i64 y7, .int .i64 y8, .int .i64 y9]) rfl rfl ED rfl rfl (fun w => M7 (dd + 0) x1 x2 x3 x4 x5 x6 x7 x8 x9 y1 y2 y3 y4 y5 y6 y7 y8 y9 w), trivial⟩ (by rw [Bool.eq_iff_iff]; simp [and_assoc]) w
theorem Ph (x0 : Int) (x1 : Int) (x2 : Int) (x3 : Int) (x4 : Int) (x5 : Int) (x6 : Int) (x7 : Int) (x8 : Int) (x9 : Int) (y0 : Int) (y1 : Int) (y2 : Int) (y3 : Int) (y4 : Int) (y5 : Int) (y6 : Int) (y7 : Int) (y8 : Int) (y9 : Int) (w : World) : (Op.equalIn 10000 68 (.agg #[.int .i64 x0, .int .i64 x1, .int .i64 x2, .int .i64 x3, .int .i64 x4, .int .i64 x5, .int .i64 x6, .int .i64 x7, .int .i64 x8, .int .i64 x9]) (.agg #[.int .i64 y0, .int .i64 y1, .int .i64 y2, .int .i64 y3, .int .i64 y4, .int .i64 y5, .int .i64 y6, .int .i64 y7, .int .i64 y8, .int .i64 y9])).run Try.prog w = .ok (decide (x0 = y0 ∧ x1 = y1 ∧ x2 = y2 ∧ x3 = y3 ∧ x4 = y4 ∧ x5 = y5 ∧ x6 = y6 ∧ x7 = y7 ∧ x8 = y8 ∧ x9 = y9)) w := NI 9996 x0 x1 x2 x3 x4 x5 x6 x7 x8 x9 y0 y1 y2 y3 y4 y5 y6 y7 y8 y9 w
instance : DecidableEq (Int × Int) := inferInstance
instance : DecidableEq (Int × Int × Int) := inferInstance
instance : DecidableEq (Int × Int × Int × Int) := inferInstance
instance : DecidableEq ((Int × Int × Int × Int) × (Int × Int × Int × Int)) := inferInstance
instance : DecidableEq (Int × (Int × Int × Int × Int) × (Int × Int × Int × Int)) := inferInstance
instance : DecidableEq (Int × (Int × (Int × Int × Int × Int) × (Int × Int × Int × Int))) := inferInstance
theorem NQ : KeyEnc Try.prog 68 HT := ⟨⟨_, MI, .inl fun _ _ => rfl⟩, fun x y w => (Ph x.1 x.2.1 x.2.2.1.1 x.2.2.1.2.1 x.2.2.1.2.2.1 x.2.2.1.2.2.2 x.2.2.2.1 x.2.2.2.2.1 x.2.2.2.2.2.1 x.2.2.2.2.2.2 y.1 y.2.1 y.2.2.1.1 y.2.2.1.2.1 y.2.2.1.2.2.1 y.2.2.1.2.2.2 y.2.2.2.1 y.2.2.2.2.1 y.2.2.2.2.2.1 y.2.2.2.2.2.2 w).trans (by congr 1; exact decide_eq_decide.2 (by simp only [Prod.ext_iff, and_assoc])), fun b x w => by kernel_rfl, fun x => by simp [Instr.sameBits]⟩
noncomputable def Dq (p0 : List (Int × (Int × (Int × Int × Int × Int) × (Int × Int × Int × Int)) × (List (Int × Int × Int)))) (p1 : Int) : (Int × (List ((Int × (Int × (Int × Int × Int × Int) × (Int × Int × Int × Int))) × Unit))) → Option ((Int × (List ((Int × (Int × (Int × Int × Int × Int) × (Int × Int × Int × Int))) × Unit))) ⊕ ((List ((Int × (Int × (Int × Int × Int × Int) × (Int × Int × Int × Int))) × Unit)) ⊕ Bool))
  | (x2, x3) => (if x2 < (p0.length : Int) then (ix p0 x2).bind fun x4 => ((Dg x4 p1).bind fun x6 => (if (!x6) = true then some true else (if 0 < x2 then (ix p0 (CL (x2 - 1))).bind fun x7 => some (DQ x4 x7) else some false))).bind fun x5 => (if x5 = true then some (.inr (.inr false)) else some (.inl (CL (x2 + 1), GB x3 (x4.1, x4.2.1) ()))) else some (.inr (.inl x3)))
noncomputable def EH (p0 : List (Int × (Int × (Int × Int × Int × Int) × (Int × Int × Int × Int)) × (List (Int × Int × Int)))) (p1 : Int) (p2 : Int) : Option Bool := (if p2 < (p0.length : Int) then some false else Fw (Bi (Dq p0 p1) (0, ([] : List ((Int × (Int × (Int × Int × Int × Int) × (Int × Int × Int × Int))) × Unit)))) fun x1 => some (decide ((x1.length : Int) = (p0.length : Int))))
theorem Ix (Y : Nat → Prop) (w0 : World) (v1 : Value) (p0 : List (Int × (Int × (Int × Int × Int × Int) × (Int × Int × Int × Int)) × (List (Int × Int × Int)))) (p1 : Int) (p2 : Int) (r : Bool) (H : EH p0 p1 p2 = some r) (h_v1 : Sl w0 (NX []) A2 v1 p0) :
    Calls Try.prog 10 #[v1, .int .i64 p1, .int .i64 p2] w0 fun e w' => e = .returned (.bool r) ∧ Below w0.heap.size w0 w' := by
 refine enter Try.func10 Aa Try.ntmps10 Aa fun a F => ?_
 have W := Stw.start Y w0
 obtain ⟨v2, h1, h_v1⟩ := h_v1.ex Bd
 unfold EH at H
 refine Ak (Ae ?_)
 refine ls F W Aa (Ag F Aa).q fun a w F W => ?_
 refine Af (Ad (Ak (Ak (Ae ?_))))
 refine ls F W Aa (Ah F Aa).q fun a w F W => ?_
 refine ls F W Aa (B6 (r := A2) (l := p0) D1 Aa F Aa (AU Bd h1 (Aq h_v1))).q fun a w F W => ?_
 refine ls F W Aa (Ah F Aa).q fun a w F W => ?_
 refine ls F W Aa (Fy F Aa Aa).q fun a w F W => ?_
 refine Af (Ad ?_)
 refine AA F Aa (fun hb => ?_) fun hb => ?_
 ·
  have H := AM (Ba hb) H
  rw [hb] at F
  clear hb
  refine Ak (Ae ?_)
  refine ls F W Aa (Ag F Aa).q fun a w F W => ?_
  refine Af (Ad (Aw (AD ?_)))
  have H := AG H
  subst H
  refine AE (.inl Aa) F W Aa (Av F Aa) ?_
  exact ⟨rfl, W.done⟩
 have H := AL (A8 hb) H
 rw [hb] at F
 clear hb
 refine Ax (Ad (Ak (Ae ?_)))
 refine KK HT IG F W Aa fun b1 a w F W => ?_
 have W : Stw ⟨Y, [], w0⟩ [] [mp b1 HT IG ([] : List ((Int × (Int × (Int × Int × Int × Int) × (Int × Int × Int × Int))) × Unit))] w := W
 refine ls F W Aa (Ag F Aa).q fun a w F W => ?_
 refine Af (Ad ?_)
 obtain ⟨o1, G1, K1, L1⟩ := HR H
 refine AF (fun a w => ∃ x1 : List ((Int × (Int × (Int × Int × Int × Int) × (Int × Int × Int × Int))) × Unit), some (Sum.inl x1) = some o1 ∧ Fr 52 [] [(0, v1), (6, .bool false), (7, .map (some b1))] a ∧ Stw ⟨Y, [], w0⟩ [] [mp b1 HT IG x1] w) ?_ ?_
 ·
  have H := G1
  clear G1 K1
  refine Ak (Ae ?_)
  refine ls F W Aa (Ah F Aa).q fun a w F W => ?_
  refine ls F W Aa (B6 (r := A2) (l := p0) D1 Aa F Aa (AU Bd h1 (Aq h_v1))).q fun a w F W => ?_
  refine ls F W Aa (Ah F Aa).q fun a w F W => ?_
  refine Af (Ad (AC ?_))
  refine Bx H (fun s a w => Fr 52 [] [(0, v1), (1, .int .i64 p1), (6, .bool false), (7, .map (some b1)), (15, v1), (16, .int .i64 (p0.length : Int)), (17, .int .i64 s.1)] a ∧ Stw ⟨Y, [], w0⟩ [] [mp b1 HT IG s.2] w) ⟨F.re ⟨rfl, Aa, Aa, Aa, Aa, Aa, Aa, trivial⟩, W⟩ fun s o a w H L2 hR => ?_
  obtain ⟨x2, x3⟩ := s
  obtain ⟨F, W⟩ := hR
  have F : Fr 52 [] [(0, v1), (1, .int .i64 p1), (6, .bool false), (7, .map (some b1)), (15, v1), (16, .int .i64 (p0.length : Int)), (17, .int .i64 x2)] a := F
  have W : Stw ⟨Y, [], w0⟩ [] [mp b1 HT IG x3] w := W
  rw [Dq] at H
  refine Ak (Ae ?_)
  refine ls F W Aa (BM F Aa Aa).q fun a w F W => ?_
  refine Af (Ad (Ak ?_))
  refine AA F Aa (fun hb => ?_) fun hb => ?_
  ·
   have H := AM (Ba hb) H
   rw [hb] at F
   clear hb
   refine Ax (Ad (Ak (AC (Ak (Ae ?_)))))
   refine ls F W Aa (Ah F Aa).q fun a w F W => ?_
   obtain ⟨x4, h2, H⟩ := Ao H
   obtain ⟨v3, h3, h4⟩ := Cv h1 h2
   have h5 : Ce v3 = [.int .i64 x4.1, .int .i64 x4.2.1.1, .int .i64 x4.2.1.2.1.1, .int .i64 x4.2.1.2.1.2.1, .int .i64 x4.2.1.2.1.2.2.1, .int .i64 x4.2.1.2.1.2.2.2, .int .i64 x4.2.1.2.2.1, .int .i64 x4.2.1.2.2.2.1, .int .i64 x4.2.1.2.2.2.2.1, .int .i64 x4.2.1.2.2.2.2.2, (v3.2.2.1)] := congrArg (fun q : Int × (Int × (Int × Int × Int × Int) × (Int × Int × Int × Int)) × (List (Int × Int × Int)) => ([.int .i64 q.1, .int .i64 q.2.1.1, .int .i64 q.2.1.2.1.1, .int .i64 q.2.1.2.1.2.1, .int .i64 q.2.1.2.1.2.2.1, .int .i64 q.2.1.2.1.2.2.2, .int .i64 q.2.1.2.2.1, .int .i64 q.2.1.2.2.2.1, .int .i64 q.2.1.2.2.2.2.1, .int .i64 q.2.1.2.2.2.2.2, (v3.2.2.1)] : List Value)) h4
   refine ls F W Aa (A1 (r := CC) Fb F Aa Aa (Aq h_v1) h3).q fun a w F W => ?_
   refine ls F W Aa (AR (y := Value.agg #[.int .i64 x4.1, .int .i64 x4.2.1.1, .int .i64 x4.2.1.2.1.1, .int .i64 x4.2.1.2.1.2.1, .int .i64 x4.2.1.2.1.2.2.1, .int .i64 x4.2.1.2.1.2.2.2, .int .i64 x4.2.1.2.2.1, .int .i64 x4.2.1.2.2.2.1, .int .i64 x4.2.1.2.2.2.2.1, .int .i64 x4.2.1.2.2.2.2.2, (v3.2.2.1)]) (j := 0) (i := x2) (enc := Ce) F Aa Aa (Aq h_v1) h3 D9 CE (by rw [h5]; rfl)).q fun a w F W => ?_
   refine B9 (cs := [.int .i64 0, .int .i64 0, .int .i64 0, .int .i64 0, .int .i64 0, .int .i64 0, .int .i64 0, .int .i64 0, .int .i64 0, .int .i64 0, .slice none 0 0]) F W Aa JR Aa fun b2 a w F W => ?_
   refine ls F W Aa (Ag F Aa).q fun a w F W => ?_
   refine Br (vs := [.int .i64 x4.1, .int .i64 x4.2.1.1, .int .i64 x4.2.1.2.1.1, .int .i64 x4.2.1.2.1.2.1, .int .i64 x4.2.1.2.1.2.2.1, .int .i64 x4.2.1.2.1.2.2.2, .int .i64 x4.2.1.2.2.1, .int .i64 x4.2.1.2.2.2.1, .int .i64 x4.2.1.2.2.2.2.1, .int .i64 x4.2.1.2.2.2.2.2, (v3.2.2.1)]) (M' := [(b2, [.int .i64 x4.1, .int .i64 x4.2.1.1, .int .i64 x4.2.1.2.1.1, .int .i64 x4.2.1.2.1.2.1, .int .i64 x4.2.1.2.1.2.2.1, .int .i64 x4.2.1.2.1.2.2.2, .int .i64 x4.2.1.2.2.1, .int .i64 x4.2.1.2.2.2.1, .int .i64 x4.2.1.2.2.2.2.1, .int .i64 x4.2.1.2.2.2.2.2, (v3.2.2.1)])]) 0 F W Aa Aa Aa CE Aa Aa Aa (Am Aa (Am Aa (Am Aa (Am Aa (Am Aa (Am Aa (Am Aa (Am Aa (Am Aa (Am Aa (Am ((CH (Aq h_v1) h3 (Bh.snd (Bh.snd Bh.here)) (congrArg (fun q : Int × (Int × (Int × Int × Int × Int) × (Int × Int × Int × Int)) × (List (Int × Int × Int)) => q.2.2) h4)) _ W).one CA))))))))))) Aa fun w W => ?_
   refine Af (Ad (Ak ?_))
   obtain ⟨o3, G3, K3⟩ := Ao H
   refine AF (fun a w => ∃ x5 : Bool, some (x5) = some o3 ∧ Fr 52 [] [(0, v1), (1, .int .i64 p1), (6, .bool false), (7, .map (some b1)), (9, .pointer (some ⟨b2, 0, none⟩)), (15, v1), (16, .int .i64 (p0.length : Int)), (17, .int .i64 x2), (38, .bool x5)] a ∧ Stw ⟨Y, [], w0⟩ [(b2, [.int .i64 x4.1, .int .i64 x4.2.1.1, .int .i64 x4.2.1.2.1.1, .int .i64 x4.2.1.2.1.2.1, .int .i64 x4.2.1.2.1.2.2.1, .int .i64 x4.2.1.2.1.2.2.2, .int .i64 x4.2.1.2.2.1, .int .i64 x4.2.1.2.2.2.1, .int .i64 x4.2.1.2.2.2.2.1, .int .i64 x4.2.1.2.2.2.2.2, (v3.2.2.1)])] [mp b1 HT IG x3] w) ?_ ?_
   ·
    have H := G3
    clear G3 K3
    refine Cq W MO (by kernel_rfl) ?_
    refine qs F Aa (As (v := Value.agg #[.int .i64 x4.1, .int .i64 x4.2.1.1, .int .i64 x4.2.1.2.1.1, .int .i64 x4.2.1.2.1.2.1, .int .i64 x4.2.1.2.1.2.2.1, .int .i64 x4.2.1.2.1.2.2.2, .int .i64 x4.2.1.2.2.1, .int .i64 x4.2.1.2.2.2.1, .int .i64 x4.2.1.2.2.2.2.1, .int .i64 x4.2.1.2.2.2.2.2, (v3.2.2.1)]) 0 F Aa Aa CE Aa).q fun a F => ?_
    refine qs F Aa (Ah F Aa).q fun a F => ?_
    obtain ⟨x6, h6, H⟩ := Ao H
    refine qs F Aa (AQ (v := Value.bool x6) F Ot Aa (fun w W => G6 any w ((v3.2.2.1)) x4 p1 _ h6 (((CH (Aq h_v1) h3 (Bh.snd (Bh.snd Bh.here)) (congrArg (fun q : Int × (Int × (Int × Int × Int × Int) × (Int × Int × Int × Int)) × (List (Int × Int × Int)) => q.2.2) h4)) : CB _ _ _ _ _ _) w W).nx)) fun a F => ?_
    refine qs F Aa (Fm F Aa).q fun a F => ?_
    refine qs F Aa (Ah F Aa).q fun a F => ?_
    rcases Bool.eq_false_or_eq_true (!x6) with hb | hb
    ·
     have H := AM hb H
     rw [hb] at F
     clear hb
     iterate 3 refine B5 F (BC F Aa Aa Aa Aa Aa) Aa Aa fun a F => ?_
     iterate 7 refine B5 F (G7 F Aa Aa Aa Aa) Aa Aa fun a F => ?_
     refine B5 F (BC F Aa Aa Aa Aa Aa) Aa Aa fun a F => ?_
     refine qs F Aa (Az F Aa Aa Aa).q fun a F => ?_
     refine AY fun w W => ?_
     refine Ad ?_
     exact ⟨_, H, F.re ⟨rfl, Aa, Aa, Aa, Aa, Aa, Aa, Aa, Aa, trivial⟩, W⟩
    have H := AL (by rw [hb]; decide) H
    rw [hb] at F
    clear hb
    refine BB F (Aj F Aa Aa Aa Aa) Aa (Ap Aa) (Ah F Aa).q fun a F => ?_
    refine BB F (Aj F Aa Aa Aa Aa) Aa (Ap Aa) (Fy F Aa Aa).q fun a F => ?_
    refine BB F (Aj F Aa Aa Aa Aa) Aa (Ap Aa) (Ah F Aa).q fun a F => ?_
    rcases Bool.eq_false_or_eq_true (decide (0 < x2)) with hb | hb
    ·
     have H := AM (Ba hb) H
     rw [hb] at F
     clear hb
     refine BB F (Aj F Aa Aa Aa Aa) Aa (Ap Aa) (As (v := Value.agg #[.int .i64 x4.1, .int .i64 x4.2.1.1, .int .i64 x4.2.1.2.1.1, .int .i64 x4.2.1.2.1.2.1, .int .i64 x4.2.1.2.1.2.2.1, .int .i64 x4.2.1.2.1.2.2.2, .int .i64 x4.2.1.2.2.1, .int .i64 x4.2.1.2.2.2.1, .int .i64 x4.2.1.2.2.2.2.1, .int .i64 x4.2.1.2.2.2.2.2, (v3.2.2.1)]) 0 F Aa Aa CE Aa).q fun a F => ?_
     iterate 2 refine BB F (Aj F Aa Aa Aa Aa) Aa (Ap Aa) (Ah F Aa).q fun a F => ?_
     refine BB F (Aj F Aa Aa Aa Aa) Aa (Ap Aa) (Lf F Aa Aa Aa).q fun a F => ?_
     obtain ⟨x7, h7, H⟩ := Ao H
     obtain ⟨v4, h8, h9⟩ := Cv h1 h7
     have h10 : Ce v4 = [.int .i64 x7.1, .int .i64 x7.2.1.1, .int .i64 x7.2.1.2.1.1, .int .i64 x7.2.1.2.1.2.1, .int .i64 x7.2.1.2.1.2.2.1, .int .i64 x7.2.1.2.1.2.2.2, .int .i64 x7.2.1.2.2.1, .int .i64 x7.2.1.2.2.2.1, .int .i64 x7.2.1.2.2.2.2.1, .int .i64 x7.2.1.2.2.2.2.2, (v4.2.2.1)] := congrArg (fun q : Int × (Int × (Int × Int × Int × Int) × (Int × Int × Int × Int)) × (List (Int × Int × Int)) => ([.int .i64 q.1, .int .i64 q.2.1.1, .int .i64 q.2.1.2.1.1, .int .i64 q.2.1.2.1.2.1, .int .i64 q.2.1.2.1.2.2.1, .int .i64 q.2.1.2.1.2.2.2, .int .i64 q.2.1.2.2.1, .int .i64 q.2.1.2.2.2.1, .int .i64 q.2.1.2.2.2.2.1, .int .i64 q.2.1.2.2.2.2.2, (v4.2.2.1)] : List Value)) h9
     refine BB F (Aj F Aa Aa Aa Aa) Aa (Ap Aa) (A1 (r := CC) Fb F Aa Aa (Aq h_v1) h8).q fun a F => ?_
     refine BB F (Aj F Aa Aa Aa Aa) Aa (Ap Aa) (AR (y := Value.agg #[.int .i64 x7.1, .int .i64 x7.2.1.1, .int .i64 x7.2.1.2.1.1, .int .i64 x7.2.1.2.1.2.1, .int .i64 x7.2.1.2.1.2.2.1, .int .i64 x7.2.1.2.1.2.2.2, .int .i64 x7.2.1.2.2.1, .int .i64 x7.2.1.2.2.2.1, .int .i64 x7.2.1.2.2.2.2.1, .int .i64 x7.2.1.2.2.2.2.2, (v4.2.2.1)]) (j := 0) (i := CL (x2 - 1)) (enc := Ce) F Aa Aa (Aq h_v1) h8 D9 CE (by rw [h10]; rfl)).q fun a F => ?_
     refine BB F (Aj F Aa Aa Aa Aa) Aa (Ap Aa) (AQ (v := Value.bool (DQ x4 x7)) F N6 Aa (fun w W => GT any w ((v3.2.2.1)) ((v4.2.2.1)) x4 x7 _ Aa (((CH (Aq h_v1) h3 (Bh.snd (Bh.snd Bh.here)) (congrArg (fun q : Int × (Int × (Int × Int × Int × Int) × (Int × Int × Int × Int)) × (List (Int × Int × Int)) => q.2.2) h4)) : CB _ _ _ _ _ _) w W).nx (((CH (Aq h_v1) h8 (Bh.snd (Bh.snd Bh.here)) (congrArg (fun q : Int × (Int × (Int × Int × Int × Int) × (Int × Int × Int × Int)) × (List (Int × Int × Int)) => q.2.2) h9)) : CB _ _ _ _ _ _) w W).nx)) fun a F => ?_
     refine BB F (Aj F Aa Aa Aa Aa) Aa (Ap Aa) (Az F Aa Aa Aa).q fun a F => ?_
     refine qs F Aa (Au F Aa Aa Aa).q fun a F => ?_
     refine AY fun w W => ?_
     refine Ad ?_
     exact ⟨_, H, F.re ⟨rfl, Aa, Aa, Aa, Aa, Aa, Aa, Aa, Aa, trivial⟩, W⟩
    have H := AL (A8 hb) H
    rw [hb] at F
    clear hb
    iterate 7 refine B5 F (BC F Aa Aa Aa Aa Aa) Aa Aa fun a F => ?_
    refine BB F (Aj F Aa Aa Aa Aa) Aa (Ap Aa) (Au F Aa Aa Aa).q fun a F => ?_
    refine qs F Aa (Au F Aa Aa Aa).q fun a F => ?_
    refine AY fun w W => ?_
    refine Ad ?_
    exact ⟨_, H, F.re ⟨rfl, Aa, Aa, Aa, Aa, Aa, Aa, Aa, Aa, trivial⟩, W⟩
   rintro a w ⟨x5, hj, F, W⟩
   have hj := AG hj
   subst hj
   have H := K3
   clear G3 K3
   refine AA F Aa (fun hb => ?_) fun hb => ?_
   ·
    have H := AM hb H
    rw [hb] at F
    clear hb
    refine Ak (Ae ?_)
    refine ls F W Aa (Ag F Aa).q fun a w F W => ?_
    refine Af (Ad (Aw (AD (AJ ?_))))
    iterate 2 refine AD ?_
    refine AJ (AD ?_)
    have H := L2 _ H
    have H := L1 _ H
    have H := AG H
    subst H
    refine AE (.inl Aa) F W Aa (Av F Aa) ?_
    exact ⟨rfl, W.done⟩
   have H := AL (by rw [hb]; decide) H
   rw [hb] at F
   clear hb
   refine Ax (Ad (Ae ?_))
   refine ls F W Aa (Ah F Aa).q fun a w F W => ?_
   refine ls F W Aa (Al Cw Aa Aa Aa T3 F Aa 0 Aa).q fun a w F W => ?_
   refine ls F W Aa (As (v := Value.int .i64 x4.1) 0 F Aa Aa T3 Aa).q fun a w F W => ?_
   refine ls F W Aa (Al Cw Aa Aa Aa ED F Aa 1 Aa).q fun a w F W => ?_
   refine ls F W Aa (As (v := Value.agg #[.int .i64 x4.2.1.1, .int .i64 x4.2.1.2.1.1, .int .i64 x4.2.1.2.1.2.1, .int .i64 x4.2.1.2.1.2.2.1, .int .i64 x4.2.1.2.1.2.2.2, .int .i64 x4.2.1.2.2.1, .int .i64 x4.2.1.2.2.2.1, .int .i64 x4.2.1.2.2.2.2.1, .int .i64 x4.2.1.2.2.2.2.2]) 0 F Aa Aa ED Aa).q fun a w F W => ?_
   refine ls F W Aa (Dx (v := Value.agg #[.int .i64 x4.1, .int .i64 x4.2.1.1, .int .i64 x4.2.1.2.1.1, .int .i64 x4.2.1.2.1.2.1, .int .i64 x4.2.1.2.1.2.2.1, .int .i64 x4.2.1.2.1.2.2.2, .int .i64 x4.2.1.2.2.1, .int .i64 x4.2.1.2.2.2.1, .int .i64 x4.2.1.2.2.2.2.1, .int .i64 x4.2.1.2.2.2.2.2]) O9 F Aa Aa Aa).q fun a w F W => ?_
   refine ls F W Aa (Dx (v := Value.agg #[]) Pa F Aa Aa Aa).q fun a w F W => ?_
   refine KP (q := 0) (kx := ((x4.1, x4.2.1) : Int × (Int × (Int × Int × Int × Int) × (Int × Int × Int × Int)))) (vx := (() : Unit)) (E := HT) (V := IG) F W Aa Aa Aa Aa Aa NQ Nm fun w W => ?_
   have W : Stw ⟨Y, [], w0⟩ [(b2, [.int .i64 x4.1, .int .i64 x4.2.1.1, .int .i64 x4.2.1.2.1.1, .int .i64 x4.2.1.2.1.2.1, .int .i64 x4.2.1.2.1.2.2.1, .int .i64 x4.2.1.2.1.2.2.2, .int .i64 x4.2.1.2.2.1, .int .i64 x4.2.1.2.2.2.1, .int .i64 x4.2.1.2.2.2.2.1, .int .i64 x4.2.1.2.2.2.2.2, (v3.2.2.1)])] [mp b1 HT IG (GB x3 (x4.1, x4.2.1) ())] w := W
   refine Af (AS (Ad (Ae ?_)))
   refine ls F W Aa (Cf F Aa Aa Aa).q fun a w F W => ?_
   refine ls F W Aa (Ah F Aa).q fun a w F W => ?_
   refine Af (Ad ?_)
   have W := W.sub (M' := []) (Z' := [mp b1 HT IG (GB x3 (x4.1, x4.2.1) ())]) (List.nil_sublist _) (List.Sublist.refl _)
   exact ⟨_, H, F.re ⟨rfl, Aa, Aa, Aa, Aa, Aa, Aa, trivial⟩, W⟩
  have H := AL (A8 hb) H
  rw [hb] at F
  clear hb
  refine Bz ?_
  iterate 2 refine B1 ?_
  refine BA (Ad ?_)
  have H := L2 _ H
  exact ⟨_, H, F.re ⟨rfl, Aa, Aa, trivial⟩, W⟩
 rintro a w ⟨x1, hj, F, W⟩
 have H := K1 _ hj
 clear hj G1 K1 L1
 refine Ak (Ae ?_)
 refine ls F W Aa (Ah F Aa).q fun a w F W => ?_
 refine ls F W Aa (Lc (q := 0) (E := HT) (V := IG) F Aa Aa Aa Nm).q fun a w F W => ?_
 refine ls F W Aa (Ah F Aa).q fun a w F W => ?_
 refine ls F W Aa (B6 (r := A2) (l := p0) D1 Aa F Aa (AU Bd h1 (Aq h_v1))).q fun a w F W => ?_
 refine ls F W Aa (BL F Aa Aa).q fun a w F W => ?_
 refine ls F W Aa (Ag F Aa).q fun a w F W => ?_
 refine Af (Ad (Aw ?_))
 have H := AG H
 subst H
 refine AE (.inl Aa) F W Aa (Av F Aa) ?_
 exact ⟨rfl, W.done⟩
theorem Pp : Has Try.prog 10 := ⟨fun args w => An Try.func10 rfl (by decide) args w⟩
def A0 (p0 : Int) : Int := (if p0 = 2 then 15 else (if (decide (p0 = 0) || (decide (p0 = 1) || decide (p0 = 3))) = true then 255 else 0))
theorem FO (Y : Nat → Prop) (w0 : World)  (p0 : Int) (r : Int) (H : A0 p0 = r)  :
    Calls Try.prog 35 #[.int .i64 p0] w0 fun e w' => e = .returned (.int .i64 r) ∧ Below w0.heap.size w0 w' := by
 refine enter Try.func35 Aa Try.ntmps35 Aa fun a F => ?_
 have W := Stw.start Y w0
 unfold A0 at H
 refine Ak (Ae ?_)
 refine ls F W Aa (Ag F Aa).q fun a w F W => ?_
 refine Af (Ad (Ak (Ak (Ae ?_))))
 refine ls F W Aa (Ah F Aa).q fun a w F W => ?_
 refine ls F W Aa (BL F Aa Aa).q fun a w F W => ?_
 refine Af (Ad ?_)
 refine AA F Aa (fun hb => ?_) fun hb => ?_
 ·
  have H := AM (Ba hb) H
  rw [hb] at F
  clear hb
  refine Ak (Ae ?_)
  refine ls F W Aa (Ag F Aa).q fun a w F W => ?_
  refine Af (Ad (Aw (AD ?_)))
  subst H
  refine AE (.inl Aa) F W Aa (Av F Aa) ?_
  exact ⟨rfl, W.done⟩
 have H := AL (A8 hb) H
 rw [hb] at F
 clear hb
 refine Ax (Ad (Ak ?_))
 refine AF (fun a w => Fr 15 [] [(2, .int .i64 0), (14, .bool (decide (p0 = 0) || (decide (p0 = 1) || decide (p0 = 3))))] a ∧ Stw ⟨Y, [], w0⟩ [] [] w) ?_ ?_
 ·
  refine Ae ?_
  refine ls F W Aa (Ah F Aa).q fun a w F W => ?_
  refine ls F W Aa (BL F Aa Aa).q fun a w F W => ?_
  refine ls F W Aa (Ah F Aa).q fun a w F W => ?_
  rcases Bool.eq_false_or_eq_true (decide (p0 = 0)) with hb0 | hb0
  ·
   rw [hb0] at F
   iterate 2 refine Cx F Aa Aa Aa Aa Aa Aa Aa fun a F => ?_
   refine ls F W Aa (Az F Aa Aa Aa).q fun a w F W => ?_
   refine ls F W Aa (Ah F Aa).q fun a w F W => ?_
   iterate 2 refine Cx F Aa Aa Aa Aa Aa Aa Aa fun a F => ?_
   refine ls F W Aa (Az F Aa Aa Aa).q fun a w F W => ?_
   refine Af (Ad ?_)
   exact ⟨F.re ⟨rfl, (by show some (Value.bool true) = some (Value.bool (decide (p0 = 0) || (decide (p0 = 1) || decide (p0 = 3)))); try rw [hb0]; all_goals simp only [Bool.not_true, Bool.not_false, Bool.true_and, Bool.false_and, Bool.true_or, Bool.false_or, Bool.and_true, Bool.or_false, cond_true, cond_false]), trivial⟩, W⟩
  rw [hb0] at F
  refine AK F W (Aj F Aa Aa Aa Aa) Aa (Ap Aa) (Ah F Aa).q fun a w F W => ?_
  refine AK F W (Aj F Aa Aa Aa Aa) Aa (Ap Aa) (BL F Aa Aa).q fun a w F W => ?_
  refine ls F W Aa (Au F Aa Aa Aa).q fun a w F W => ?_
  refine ls F W Aa (Ah F Aa).q fun a w F W => ?_
  rcases Bool.eq_false_or_eq_true (decide (p0 = 1)) with hb1 | hb1
  ·
   rw [hb1] at F
   iterate 2 refine Cx F Aa Aa Aa Aa Aa Aa Aa fun a F => ?_
   refine ls F W Aa (Az F Aa Aa Aa).q fun a w F W => ?_
   refine Af (Ad ?_)
   exact ⟨F.re ⟨rfl, (by show some (Value.bool true) = some (Value.bool (decide (p0 = 0) || (decide (p0 = 1) || decide (p0 = 3)))); try rw [hb0]; try rw [hb1]; all_goals simp only [Bool.not_true, Bool.not_false, Bool.true_and, Bool.false_and, Bool.true_or, Bool.false_or, Bool.and_true, Bool.or_false, cond_true, cond_false]), trivial⟩, W⟩
  rw [hb1] at F
  refine AK F W (Aj F Aa Aa Aa Aa) Aa (Ap Aa) (Ah F Aa).q fun a w F W => ?_
  refine AK F W (Aj F Aa Aa Aa Aa) Aa (Ap Aa) (BL F Aa Aa).q fun a w F W => ?_
  refine ls F W Aa (Au F Aa Aa Aa).q fun a w F W => ?_
  refine Af (Ad ?_)
  exact ⟨F.re ⟨rfl, (by show some (Value.bool (decide (p0 = 3))) = some (Value.bool (decide (p0 = 0) || (decide (p0 = 1) || decide (p0 = 3)))); try rw [hb0]; try rw [hb1]; all_goals simp only [Bool.not_true, Bool.not_false, Bool.true_and, Bool.false_and, Bool.true_or, Bool.false_or, Bool.and_true, Bool.or_false, cond_true, cond_false]), trivial⟩, W⟩
 rintro a w ⟨F, W⟩
 refine AA F Aa (fun hb => ?_) fun hb => ?_
 ·
  have H := AM hb H
  rw [hb] at F
  clear hb
  refine Ak (Ae ?_)
  refine ls F W Aa (Ag F Aa).q fun a w F W => ?_
  refine Af (Ad (Aw (AD ?_)))
  subst H
  refine AE (.inl Aa) F W Aa (Av F Aa) ?_
  exact ⟨rfl, W.done⟩
 have H := AL (by rw [hb]; decide) H
 rw [hb] at F
 clear hb
 refine Ax (Ad (Ak (Ae ?_)))
 refine ls F W Aa (Ag F Aa).q fun a w F W => ?_
 refine Af (Ad (Aw ?_))
 subst H
 refine AE (.inl Aa) F W Aa (Av F Aa) ?_
 exact ⟨rfl, W.done⟩
theorem Np : Has Try.prog 35 := ⟨fun args w => An Try.func35 rfl (by decide) args w⟩
noncomputable def E7 (p1 : Int) : (Int × Int) → Option ((Int × Int) ⊕ Int)
  | (x2, x3) => (if x3 < p1 then some (.inl (CL (Int.tdiv x2 2), CL (x3 + 1))) else some (.inr x2))
noncomputable def ES (p0 : Int) (p1 : Int) : Option Int := (Bi (E7 p1) (p0, 0)).bind fun x1 => some (Int.tmod x1 2)
theorem FJ (Y : Nat → Prop) (w0 : World)  (p0 : Int) (p1 : Int) (r : Int) (H : ES p0 p1 = some r)  :
    Calls Try.prog 57 #[.int .i64 p0, .int .i64 p1] w0 fun e w' => e = .returned (.int .i64 r) ∧ Below w0.heap.size w0 w' := by
 refine enter Try.func57 Aa Try.ntmps57 Aa fun a F => ?_
 have W := Stw.start Y w0
 unfold ES at H
 refine Ak (Ae ?_)
 refine ls F W Aa (Ag F Aa).q fun a w F W => ?_
 refine Af (Ad ?_)
 obtain ⟨o1, G1, K1⟩ := Ao H
 refine AF (fun a w => ∃ x1 : Int, some (x1) = some o1 ∧ Fr 15 [] [(0, .int .i64 x1), (4, .int .i64 0)] a ∧ Stw ⟨Y, [], w0⟩ [] [] w) ?_ ?_
 ·
  have H := G1
  clear G1 K1
  refine Ak (Ae ?_)
  refine ls F W Aa (Ag F Aa).q fun a w F W => ?_
  refine Af (Ad (AC ?_))
  refine Bx H (fun s a w => Fr 15 [] [(0, .int .i64 s.1), (1, .int .i64 p1), (4, .int .i64 0), (5, .int .i64 s.2)] a ∧ Stw ⟨Y, [], w0⟩ [] [] w) ⟨F.re ⟨rfl, Aa, Aa, Aa, trivial⟩, W⟩ fun s o a w H L2 hR => ?_
  obtain ⟨x2, x3⟩ := s
  obtain ⟨F, W⟩ := hR
  have F : Fr 15 [] [(0, .int .i64 x2), (1, .int .i64 p1), (4, .int .i64 0), (5, .int .i64 x3)] a := F
  have W : Stw ⟨Y, [], w0⟩ [] [] w := W
  rw [E7] at H
  refine Ak (Ak (Ae ?_))
  iterate 2 refine ls F W Aa (Ah F Aa).q fun a w F W => ?_
  refine ls F W Aa (BM F Aa Aa).q fun a w F W => ?_
  refine Af (Ad ?_)
  refine AA F Aa (fun hb => ?_) fun hb => ?_
  ·
   have H := AM (Ba hb) H
   rw [hb] at F
   clear hb
   refine Ax (Ad (Ak (AC (Ae ?_))))
   refine ls F W Aa (Ah F Aa).q fun a w F W => ?_
   refine ls F W Aa (M5 F Aa Aa (by decide) Aa).q fun a w F W => ?_
   refine ls F W Aa (Ag F Aa).q fun a w F W => ?_
   refine Af (AS (Ad (Ae ?_)))
   refine ls F W Aa (Ah F Aa).q fun a w F W => ?_
   refine ls F W Aa (Cf F Aa Aa Aa).q fun a w F W => ?_
   refine ls F W Aa (Ag F Aa).q fun a w F W => ?_
   refine Af (Ad ?_)
   exact ⟨_, H, F.re ⟨rfl, Aa, Aa, Aa, trivial⟩, W⟩
  have H := AL (A8 hb) H
  rw [hb] at F
  clear hb
  refine Bz ?_
  iterate 2 refine B1 ?_
  refine BA (Ad ?_)
  have H := L2 _ H
  exact ⟨_, H, F.re ⟨rfl, Aa, trivial⟩, W⟩
 rintro a w ⟨x1, hj, F, W⟩
 have hj := AG hj
 subst hj
 have H := K1
 clear G1 K1
 refine Ak (Ae ?_)
 refine ls F W Aa (Ah F Aa).q fun a w F W => ?_
 refine ls F W Aa (Nk F Aa Aa (by decide) Aa).q fun a w F W => ?_
 refine ls F W Aa (Ag F Aa).q fun a w F W => ?_
 refine Af (Ad (Aw ?_))
 have H := AG H
 subst H
 refine AE (.inl Aa) F W Aa (Av F Aa) ?_
 exact ⟨rfl, W.done⟩
end Go.Proofs.Ytkjjioigbpkifaa
