/- The functions of layer 11, Ez. Conditions: none. -/
import Derived.Test.YtkjjioigbpkifaacA3
namespace Go.Proofs.Ytkjjioigbpkifaa
open Go Go.RowKit
set_option linter.unusedVariables false
set_option linter.unusedSimpArgs false
set_option maxRecDepth 20000
set_option maxHeartbeats 2000000
theorem PS : Has Try.prog 37 := ⟨fun args w => An Try.func37 rfl (by decide) args w⟩
noncomputable def Bv (p0 : List (Int × (Int × (Int × Int × Int × Int) × (Int × Int × Int × Int)) × (List (Int × Int × Int)))) (p1c0 : Int) (p1c1 : Int × Int × Int × Int) : Int → Option (Int ⊕ (Unit ⊕ Int))
  | x1 => (if x1 < (p0.length : Int) then (ix p0 x1).bind fun x2 => (Em x2 p1c0 p1c1).bind fun x3 => (if x3 = true then some (.inr (.inr x1)) else some (.inl (BT (x1 + 1)))) else some (.inr (.inl ())))
noncomputable def Bm (p0 : List (Int × (Int × (Int × Int × Int × Int) × (Int × Int × Int × Int)) × (List (Int × Int × Int)))) (p1c0 : Int) (p1c1 : Int × Int × Int × Int) : Option Int := FB (A9 (Bv p0 p1c0 p1c1) 0) fun _ => some (-1)
theorem Dy (Y : Nat → Prop) (w0 : World) (v1 : Value) (q_p1c0 : Nat) (q_p1c1 : Nat) (p0 : List (Int × (Int × (Int × Int × Int × Int) × (Int × Int × Int × Int)) × (List (Int × Int × Int)))) (p1c0 : Int) (p1c1 : Int × Int × Int × Int) (r : Int) (H : Bm p0 p1c0 p1c1 = some r) (h_v1 : Sl w0 (NX []) AV v1 p0) (a_q_p1c0 : At ⟨Y, [], w0⟩ q_p1c0 0 [.int .i64 p1c0]) (a_q_p1c1 : At ⟨Y, [], w0⟩ q_p1c1 0 [.int .i64 p1c1.1, .int .i64 p1c1.2.1, .int .i64 p1c1.2.2.1, .int .i64 p1c1.2.2.2]) :
    Calls Try.prog 36 #[v1, .func (.func 37) #[] #[.pointer (some ⟨q_p1c0, 0, none⟩), .pointer (some ⟨q_p1c1, 0, none⟩)]] w0 fun e w' => e = .returned (.int .i64 r) ∧ Below w0.heap.size w0 w' := by
 refine enter Try.func36 Aa Try.ntmps36 Aa fun a F => ?_
 have W := Stw.start Y w0
 obtain ⟨v2, h1, h_v1⟩ := h_v1.ex Ba
 unfold Bm at H
 refine Al (Ae ?_)
 refine ls F W Aa (Ag F Aa).q fun a w F W => ?_
 refine Af (Ad ?_)
 obtain ⟨o1, G1, K1, L1⟩ := Ih H
 refine AF (fun a w => some (Sum.inl ()) = some o1 ∧ Fr 19 [] [(4, .int .i64 0)] a ∧ Stw ⟨Y, [], w0⟩ [] [] w) ?_ ?_
 ·
  have H := G1
  clear G1 K1
  refine Al (Ae ?_)
  refine ls F W Aa (Ah F Aa).q fun a w F W => ?_
  refine ls F W Aa (B7 (r := AV) (l := p0) DW Aa F Aa (Bc Ba h1 (Aw h_v1))).q fun a w F W => ?_
  refine ls F W Aa (Ah F Aa).q fun a w F W => ?_
  refine Af (Ad (AC ?_))
  refine Bz H (fun s a w => Fr 19 [] [(0, v1), (1, .func (.func 37) #[] #[.pointer (some ⟨q_p1c0, 0, none⟩), .pointer (some ⟨q_p1c1, 0, none⟩)]), (4, .int .i64 0), (7, .int .i64 (p0.length : Int)), (8, .int .i64 s)] a ∧ Stw ⟨Y, [], w0⟩ [] [] w) ⟨F.re ⟨rfl, Aa, Aa, Aa, Aa, trivial⟩, W⟩ fun s o a w H L2 hR => ?_
  obtain ⟨x1, rfl⟩ : ∃ x, x = s := ⟨s, rfl⟩
  obtain ⟨F, W⟩ := hR
  have F : Fr 19 [] [(0, v1), (1, .func (.func 37) #[] #[.pointer (some ⟨q_p1c0, 0, none⟩), .pointer (some ⟨q_p1c1, 0, none⟩)]), (4, .int .i64 0), (7, .int .i64 (p0.length : Int)), (8, .int .i64 x1)] a := F
  have W : Stw ⟨Y, [], w0⟩ [] [] w := W
  rw [Bv] at H
  refine Al (Ae ?_)
  refine ls F W Aa (BI F Aa Aa).q fun a w F W => ?_
  refine Af (Ad (Al ?_))
  refine AA F Aa (fun hb => ?_) fun hb => ?_
  ·
   have H := AH (Bj hb) H
   rw [hb] at F
   clear hb
   refine Ax (Ad (Al (AC (Al (Ae ?_)))))
   refine ls F W Aa (Ah F Aa).q fun a w F W => ?_
   refine ls F W Aa (Ag F Aa).q fun a w F W => ?_
   refine Af (Ad (Al (Ae ?_)))
   iterate 3 refine ls F W Aa (Ah F Aa).q fun a w F W => ?_
   obtain ⟨x2, h2, H⟩ := Ap H
   obtain ⟨v3, h3, h4⟩ := Ck h1 h2
   have h5 : B5 v3 = [.int .i64 x2.1, .int .i64 x2.2.1.1, .int .i64 x2.2.1.2.1.1, .int .i64 x2.2.1.2.1.2.1, .int .i64 x2.2.1.2.1.2.2.1, .int .i64 x2.2.1.2.1.2.2.2, .int .i64 x2.2.1.2.2.1, .int .i64 x2.2.1.2.2.2.1, .int .i64 x2.2.1.2.2.2.2.1, .int .i64 x2.2.1.2.2.2.2.2, (v3.2.2.1)] := congrArg (fun q : Int × (Int × (Int × Int × Int × Int) × (Int × Int × Int × Int)) × (List (Int × Int × Int)) => ([.int .i64 q.1, .int .i64 q.2.1.1, .int .i64 q.2.1.2.1.1, .int .i64 q.2.1.2.1.2.1, .int .i64 q.2.1.2.1.2.2.1, .int .i64 q.2.1.2.1.2.2.2, .int .i64 q.2.1.2.2.1, .int .i64 q.2.1.2.2.2.1, .int .i64 q.2.1.2.2.2.2.1, .int .i64 q.2.1.2.2.2.2.2, (v3.2.2.1)] : List Value)) h4
   refine ls F W Aa (Bg (r := Cz) D7 F Aa Aa (Aw h_v1) h3).q fun a w F W => ?_
   refine ls F W Aa (A0 (y := Value.agg #[.int .i64 x2.1, .int .i64 x2.2.1.1, .int .i64 x2.2.1.2.1.1, .int .i64 x2.2.1.2.1.2.1, .int .i64 x2.2.1.2.1.2.2.1, .int .i64 x2.2.1.2.1.2.2.2, .int .i64 x2.2.1.2.2.1, .int .i64 x2.2.1.2.2.2.1, .int .i64 x2.2.1.2.2.2.2.1, .int .i64 x2.2.1.2.2.2.2.2, (v3.2.2.1)]) (j := 0) (i := x1) (enc := B5) F Aa Aa (Aw h_v1) h3 DS CH (by rw [h5]; rfl)).q fun a w F W => ?_
   obtain ⟨x3, h6, H⟩ := Ap H
   refine ls F W Aa (Fb (ws := [.agg #[.int .i64 x2.1, .int .i64 x2.2.1.1, .int .i64 x2.2.1.2.1.1, .int .i64 x2.2.1.2.1.2.1, .int .i64 x2.2.1.2.1.2.2.1, .int .i64 x2.2.1.2.1.2.2.2, .int .i64 x2.2.1.2.2.1, .int .i64 x2.2.1.2.2.2.1, .int .i64 x2.2.1.2.2.2.2.1, .int .i64 x2.2.1.2.2.2.2.2, (v3.2.2.1)], .pointer (some ⟨q_p1c0, 0, none⟩), .pointer (some ⟨q_p1c1, 0, none⟩)]) (v := Value.bool x3) F PS Aa (fun w W => IX any w ((v3.2.2.1)) q_p1c0 q_p1c1 x2 p1c0 p1c1 _ h6 (((CT (Aw h_v1) h3 (Bb.snd (Bb.snd Bb.here)) (congrArg (fun q : Int × (Int × (Int × Int × Int × Int) × (Int × Int × Int × Int)) × (List (Int × Int × Int)) => q.2.2) h4)) : C2 _ _ _ _ _ _) w W).nx (At.re a_q_p1c0 W) (At.re a_q_p1c1 W))) fun a w F W => ?_
   refine Af (Ad ?_)
   refine AA F Aa (fun hb => ?_) fun hb => ?_
   ·
    have H := AH hb H
    rw [hb] at F
    clear hb
    refine Al (Ae ?_)
    refine ls F W Aa (Ah F Aa).q fun a w F W => ?_
    refine ls F W Aa (Ag F Aa).q fun a w F W => ?_
    refine Af (Ad (Ay (AK ?_)))
    iterate 2 refine AD ?_
    refine AK (AD ?_)
    have H := L2 _ H
    have H := L1 _ H
    have H := AJ H
    subst H
    refine AL (.inl Aa) F W Aa (Av F Aa) ?_
    exact ⟨rfl, W.done⟩
   have H := AG (by rw [hb]; decide) H
   rw [hb] at F
   clear hb
   refine Ax (A1 (Ad (Ae ?_)))
   refine ls F W Aa (B6 F Aa Aa Aa).q fun a w F W => ?_
   refine ls F W Aa (Ah F Aa).q fun a w F W => ?_
   refine Af (Ad ?_)
   exact ⟨_, H, F.re ⟨rfl, Aa, Aa, Aa, Aa, trivial⟩, W⟩
  have H := AG (Bi hb) H
  rw [hb] at F
  clear hb
  refine Bu ?_
  iterate 2 refine BX ?_
  refine Br (Ad ?_)
  have H := L2 _ H
  exact ⟨H, F.re ⟨rfl, trivial⟩, W⟩
 rintro a w ⟨hj, F, W⟩
 have H := K1 _ hj
 clear hj G1 K1 L1
 refine Al (Ae ?_)
 refine ls F W Aa (Ag F Aa).q fun a w F W => ?_
 refine Af (Ad (Ay ?_))
 have H := AJ H
 subst H
 refine AL (.inl Aa) F W Aa (Av F Aa) ?_
 exact ⟨rfl, W.done⟩
noncomputable def EF (p0 : List (Int × (Int × (Int × Int × Int × Int) × (Int × Int × Int × Int)) × (List (Int × Int × Int)))) (p1 : Int) (p2 : Int × Int × Int × Int) : Option Int := (Bm p0 p1 p2).bind fun x1 => some x1
theorem Ho (Y : Nat → Prop) (w0 : World) (v1 : Value) (p0 : List (Int × (Int × (Int × Int × Int × Int) × (Int × Int × Int × Int)) × (List (Int × Int × Int)))) (p1 : Int) (p2 : Int × Int × Int × Int) (r : Int) (H : EF p0 p1 p2 = some r) (h_v1 : Sl w0 (NX []) AV v1 p0) :
    Calls Try.prog 14 #[v1, .int .i64 p1, .agg #[.int .i64 p2.1, .int .i64 p2.2.1, .int .i64 p2.2.2.1, .int .i64 p2.2.2.2]] w0 fun e w' => e = .returned (.int .i64 r) ∧ Below w0.heap.size w0 w' := by
 refine enter Try.func14 Aa Try.ntmps14 Aa fun a F => ?_
 have W := Stw.start Y w0
 obtain ⟨v2, h1, h_v1⟩ := h_v1.ex Ba
 unfold EF at H
 refine Al (Ae ?_)
 refine BS (cs := [.int .i64 p1]) F W Aa Aa Aa fun b1 a w F W => ?_
 refine BS (cs := [.int .i64 p2.1, .int .i64 p2.2.1, .int .i64 p2.2.2.1, .int .i64 p2.2.2.2]) F W Aa Aa Aa fun b2 a w F W => ?_
 refine ls F W Aa (Ag F Aa).q fun a w F W => ?_
 refine Af (Ad (Al (Ae ?_)))
 refine ls F W Aa (Ah F Aa).q fun a w F W => ?_
 refine ls F W Aa (Fk (us := []) (vs := [.pointer (some ⟨b1, 0, none⟩), .pointer (some ⟨b2, 0, none⟩)]) F Aa Aa).q fun a w F W => ?_
 obtain ⟨x1, h2, H⟩ := Ap H
 refine ls F W Aa (AR (v := Value.int .i64 x1) F Ol Aa (fun w W => Dy any w (v1) b1 b2 p0 p1 p2 _ h2 (((Bc Ba h1 (Aw h_v1)) : C2 _ _ _ _ _ _) w W).nx (KY W 1 Aa) (KY W 0 Aa))) fun a w F W => ?_
 refine ls F W Aa (Ag F Aa).q fun a w F W => ?_
 refine Af (Ad (Ay ?_))
 have H := AJ H
 subst H
 refine AL (.inl Aa) F W Aa (Av F Aa) ?_
 exact ⟨rfl, W.done⟩
theorem Pn : Has Try.prog 14 := ⟨fun args w => An Try.func14 rfl (by decide) args w⟩
theorem Pu : (Try.prog.info? 24).bind (·.zero) = some (.agg #[.int .i64 0, .int .i64 0, .int .i64 0, .int .i64 0]) := by kernel_rfl
def DO (p0 : Int) : Bool := (decide (0 ≤ p0) && decide (p0 < 4))
theorem IJ (Y : Nat → Prop) (w0 : World)  (p0 : Int) (r : Bool) (H : DO p0 = r)  :
    Calls Try.prog 76 #[.int .i64 p0] w0 fun e w' => e = .returned (.bool r) ∧ Below w0.heap.size w0 w' := by
 refine enter Try.func76 Aa Try.ntmps76 Aa fun a F => ?_
 have W := Stw.start Y w0
 unfold DO at H
 refine Al (Ae ?_)
 refine ls F W Aa (Ag F Aa).q fun a w F W => ?_
 refine Af (Ad ?_)
 refine AF (fun a w => Fr 9 [] [(2, .bool (decide (0 ≤ p0) && decide (p0 < 4)))] a ∧ Stw ⟨Y, [], w0⟩ [] [] w) ?_ ?_
 ·
  refine Ae ?_
  refine ls F W Aa (Ah F Aa).q fun a w F W => ?_
  refine ls F W Aa (EN F Aa Aa).q fun a w F W => ?_
  refine ls F W Aa (Ah F Aa).q fun a w F W => ?_
  rcases Bool.eq_false_or_eq_true (decide (0 ≤ p0)) with hb0 | hb0
  ·
   rw [hb0] at F
   refine AE F W (Ai F Aa Aa Aa Aa) Aa (Ao Aa) (Ah F Aa).q fun a w F W => ?_
   refine AE F W (Ai F Aa Aa Aa Aa) Aa (Ao Aa) (BI F Aa Aa).q fun a w F W => ?_
   refine ls F W Aa (Az F Aa Aa Aa).q fun a w F W => ?_
   refine ls F W Aa (Ag F Aa).q fun a w F W => ?_
   refine Af (Ad ?_)
   exact ⟨F.re ⟨(by show some (Value.bool (decide (p0 < 4))) = some (Value.bool (decide (0 ≤ p0) && decide (p0 < 4))); try rw [hb0]; all_goals simp only [Bool.not_true, Bool.not_false, Bool.true_and, Bool.false_and, Bool.true_or, Bool.false_or, Bool.and_true, Bool.or_false, cond_true, cond_false]), trivial⟩, W⟩
  rw [hb0] at F
  iterate 2 refine CD F Aa Aa Aa Aa Aa Aa Aa fun a F => ?_
  refine ls F W Aa (Au F Aa Aa Aa).q fun a w F W => ?_
  refine ls F W Aa (Ag F Aa).q fun a w F W => ?_
  refine Af (Ad ?_)
  exact ⟨F.re ⟨(by show some (Value.bool false) = some (Value.bool (decide (0 ≤ p0) && decide (p0 < 4))); try rw [hb0]; all_goals simp only [Bool.not_true, Bool.not_false, Bool.true_and, Bool.false_and, Bool.true_or, Bool.false_or, Bool.and_true, Bool.or_false, cond_true, cond_false]), trivial⟩, W⟩
 rintro a w ⟨F, W⟩
 refine Ay ?_
 subst H
 refine AL (.inl Aa) F W Aa (Av F Aa) ?_
 exact ⟨rfl, W.done⟩
theorem Qp : Has Try.prog 76 := ⟨fun args w => An Try.func76 rfl (by decide) args w⟩
noncomputable def EO (p0 : Int) (p1 : Int) : Option Bool := (if 0 ≤ p1 then (CM p0).bind fun x2 => some (decide (p1 ≤ x2)) else some false).bind fun x1 => some x1
theorem Ji (Y : Nat → Prop) (w0 : World)  (p0 : Int) (p1 : Int) (r : Bool) (H : EO p0 p1 = some r)  :
    Calls Try.prog 77 #[.int .i64 p0, .int .i64 p1] w0 fun e w' => e = .returned (.bool r) ∧ Below w0.heap.size w0 w' := by
 refine enter Try.func77 Aa Try.ntmps77 Aa fun a F => ?_
 have W := Stw.start Y w0
 unfold EO at H
 refine Al (Ae ?_)
 refine ls F W Aa (Ag F Aa).q fun a w F W => ?_
 refine Af (Ad ?_)
 obtain ⟨o1, G1, K1⟩ := Ap H
 refine AF (fun a w => ∃ x1 : Bool, some (x1) = some o1 ∧ Fr 13 [] [(4, .bool x1)] a ∧ Stw ⟨Y, [], w0⟩ [] [] w) ?_ ?_
 ·
  have H := G1
  clear G1 K1
  refine Ae ?_
  refine ls F W Aa (Ah F Aa).q fun a w F W => ?_
  refine ls F W Aa (EN F Aa Aa).q fun a w F W => ?_
  refine ls F W Aa (Ah F Aa).q fun a w F W => ?_
  rcases Bool.eq_false_or_eq_true (decide (0 ≤ p1)) with hb | hb
  ·
   have H := AH (Bj hb) H
   rw [hb] at F
   clear hb
   iterate 2 refine AE F W (Ai F Aa Aa Aa Aa) Aa (Ao Aa) (Ah F Aa).q fun a w F W => ?_
   refine Gr (Ai F Aa Aa Aa Aa) ?_
   obtain ⟨x2, h1, H⟩ := Ap H
   refine ls F W Aa (AR (v := Value.int .i64 x2) F OC Aa (fun w W => Eo any w p0 _ h1)) fun a w F W => ?_
   refine AE F W (Ai F Aa Aa Aa Aa) Aa (Ao Aa) (Ib F Aa Aa).q fun a w F W => ?_
   refine ls F W Aa (Az F Aa Aa Aa).q fun a w F W => ?_
   refine ls F W Aa (Ag F Aa).q fun a w F W => ?_
   refine Af (Ad ?_)
   exact ⟨_, H, F.re ⟨rfl, trivial⟩, W⟩
  have H := AG (Bi hb) H
  rw [hb] at F
  clear hb
  iterate 4 refine CD F Aa Aa Aa Aa Aa Aa Aa fun a F => ?_
  refine ls F W Aa (Au F Aa Aa Aa).q fun a w F W => ?_
  refine ls F W Aa (Ag F Aa).q fun a w F W => ?_
  refine Af (Ad ?_)
  exact ⟨_, H, F.re ⟨rfl, trivial⟩, W⟩
 rintro a w ⟨x1, hj, F, W⟩
 have hj := AJ hj
 subst hj
 have H := K1
 clear G1 K1
 refine Ay ?_
 have H := AJ H
 subst H
 refine AL (.inl Aa) F W Aa (Av F Aa) ?_
 exact ⟨rfl, W.done⟩
theorem QE : Has Try.prog 77 := ⟨fun args w => An Try.func77 rfl (by decide) args w⟩
noncomputable def ER (p0 : Int × Int × Int × Int) (p1 : Int) (p2 : Int) : Option (Int × Int × Int × Int) := ((if (DO p1) = true then (EO p1 p2).bind fun x6 => some x6 else some false).bind fun x5 => (if x5 = true then (ix ([p0.1, p0.2.1, p0.2.2.1, p0.2.2.2] : List Int) p1).bind fun x7 => some ((if p1 = 0 then p2 else p0.1), (if p1 = 1 then p2 else p0.2.1), (if p1 = 2 then p2 else p0.2.2.1), (if p1 = 3 then p2 else p0.2.2.2)) else some (p0.1, p0.2.1, p0.2.2.1, p0.2.2.2))).bind fun (x1, x2, x3, x4) => some (x1, x2, x3, x4)
theorem I8 (Y : Nat → Prop) (w0 : World)  (p0 : Int × Int × Int × Int) (p1 : Int) (p2 : Int) (r : (Int × Int × Int × Int)) (H : ER p0 p1 p2 = some r)  :
    Calls Try.prog 58 #[.agg #[.int .i64 p0.1, .int .i64 p0.2.1, .int .i64 p0.2.2.1, .int .i64 p0.2.2.2], .int .i64 p1, .int .i64 p2] w0 fun e w' => e = .returned (.agg #[.int .i64 r.1, .int .i64 r.2.1, .int .i64 r.2.2.1, .int .i64 r.2.2.2]) ∧ Below w0.heap.size w0 w' := by
 refine enter Try.func58 Aa Try.ntmps58 Aa fun a F => ?_
 have W := Stw.start Y w0
 unfold ER at H
 refine Al (Ae ?_)
 refine BS (cs := [.int .i64 p0.1, .int .i64 p0.2.1, .int .i64 p0.2.2.1, .int .i64 p0.2.2.2]) F W Aa Aa Aa fun b1 a w F W => ?_
 refine Cf (cs := [.int .i64 0, .int .i64 0, .int .i64 0, .int .i64 0]) F W Aa Pu Aa fun b2 a w F W => ?_
 refine Af (Ad ?_)
 obtain ⟨o1, G1, K1⟩ := Ap H
 refine AF (fun a w => ∃ x1 : Int, ∃ x2 : Int, ∃ x3 : Int, ∃ x4 : Int, some ((x1, x2, x3, x4)) = some o1 ∧ Fr 18 [] [(3, .pointer (some ⟨b1, 0, none⟩)), (6, .pointer (some ⟨b2, 0, none⟩))] a ∧ Stw ⟨Y, [], w0⟩ [(b2, [.int .i64 0, .int .i64 0, .int .i64 0, .int .i64 0]), (b1, [.int .i64 x1, .int .i64 x2, .int .i64 x3, .int .i64 x4])] [] w) ?_ ?_
 ·
  have H := G1
  clear G1 K1
  obtain ⟨o2, G2, K2⟩ := Ap H
  refine AF (fun a w => ∃ x5 : Bool, some (x5) = some o2 ∧ Fr 18 [] [(1, .int .i64 p1), (2, .int .i64 p2), (3, .pointer (some ⟨b1, 0, none⟩)), (6, .pointer (some ⟨b2, 0, none⟩)), (13, .bool x5)] a ∧ Stw ⟨Y, [], w0⟩ [(b2, [.int .i64 0, .int .i64 0, .int .i64 0, .int .i64 0]), (b1, [.int .i64 p0.1, .int .i64 p0.2.1, .int .i64 p0.2.2.1, .int .i64 p0.2.2.2])] [] w) ?_ ?_
  ·
   have H := G2
   clear G2 K2
   refine Ae ?_
   refine ls F W Aa (Ah F Aa).q fun a w F W => ?_
   refine ls F W Aa (AR (v := Value.bool (DO p1)) F Qp Aa (fun w W => IJ any w p1 _ Aa)) fun a w F W => ?_
   refine ls F W Aa (Ah F Aa).q fun a w F W => ?_
   rcases Bool.eq_false_or_eq_true (DO p1) with hb | hb
   ·
    have H := AH hb H
    rw [hb] at F
    clear hb
    iterate 2 refine AE F W (Ai F Aa Aa Aa Aa) Aa (Ao Aa) (Ah F Aa).q fun a w F W => ?_
    refine Gr (Ai F Aa Aa Aa Aa) ?_
    obtain ⟨x6, h1, H⟩ := Ap H
    refine ls F W Aa (AR (v := Value.bool x6) F QE Aa (fun w W => Ji any w p1 p2 _ h1)) fun a w F W => ?_
    refine ls F W Aa (Az F Aa Aa Aa).q fun a w F W => ?_
    refine Af (Ad ?_)
    have W := W.frontM (i := 1) Aa Aa
    have W := W.frontM (i := 1) Aa Aa
    exact ⟨_, H, F.re ⟨rfl, Aa, Aa, Aa, Aa, trivial⟩, W⟩
   have H := AG (by rw [hb]; decide) H
   rw [hb] at F
   clear hb
   iterate 3 refine CD F Aa Aa Aa Aa Aa Aa Aa fun a F => ?_
   refine ls F W Aa (Au F Aa Aa Aa).q fun a w F W => ?_
   refine Af (Ad ?_)
   have W := W.frontM (i := 1) Aa Aa
   have W := W.frontM (i := 1) Aa Aa
   exact ⟨_, H, F.re ⟨rfl, Aa, Aa, Aa, Aa, trivial⟩, W⟩
  rintro a w ⟨x5, hj, F, W⟩
  have hj := AJ hj
  subst hj
  have H := K2
  clear G2 K2
  refine AA F Aa (fun hb => ?_) fun hb => ?_
  ·
   have H := AH hb H
   rw [hb] at F
   clear hb
   refine Ae ?_
   iterate 2 refine ls F W Aa (Ah F Aa).q fun a w F W => ?_
   obtain ⟨x7, h2, H⟩ := Ap H
   refine ls F W Aa (Bd (0 + (p1).toNat * 1) Nw F Aa Aa Aa h2 Aa).q fun a w F W => ?_
   refine Dz (o := 0) (m := 4) (i := p1) (l := ([p0.1, p0.2.1, p0.2.2.1, p0.2.2.2] : List Int)) (x := x7) (cs := [.int .i64 p0.1, .int .i64 p0.2.1, .int .i64 p0.2.2.1, .int .i64 p0.2.2.2]) (cs' := [.int .i64 (if p1 = 0 then p2 else p0.1), .int .i64 (if p1 = 1 then p2 else p0.2.1), .int .i64 (if p1 = 2 then p2 else p0.2.2.1), .int .i64 (if p1 = 3 then p2 else p0.2.2.2)]) 1 F W Aa Aa Aa T3 Aa Aa Aa Aa h2 (by intro k hk hn; rw [hk]; match k, hn with | 0, _ => rfl | 1, _ => rfl | 2, _ => rfl | 3, _ => rfl | (z + 4), h => exact absurd h (by omega)) fun w W => ?_
   have W : Stw ⟨Y, [], w0⟩ [(b2, [.int .i64 0, .int .i64 0, .int .i64 0, .int .i64 0]), (b1, [.int .i64 (if p1 = 0 then p2 else p0.1), .int .i64 (if p1 = 1 then p2 else p0.2.1), .int .i64 (if p1 = 2 then p2 else p0.2.2.1), .int .i64 (if p1 = 3 then p2 else p0.2.2.2)])] [] w := W
   refine Af (Ad ?_)
   have W := W.frontM (i := 1) Aa Aa
   have W := W.frontM (i := 1) Aa Aa
   exact ⟨_, _, _, _, H, F.re ⟨rfl, Aa, trivial⟩, W⟩
  have H := AG (by rw [hb]; decide) H
  rw [hb] at F
  clear hb
  refine Ax (Ad ?_)
  have W := W.frontM (i := 1) Aa Aa
  have W := W.frontM (i := 1) Aa Aa
  exact ⟨_, _, _, _, H, F.re ⟨rfl, Aa, trivial⟩, W⟩
 rintro a w ⟨x1, x2, x3, x4, hj, F, W⟩
 have hj := AJ hj
 subst hj
 have H := K1
 clear G1 K1
 refine Al (Ae ?_)
 refine ls F W Aa (Aq (v := Value.agg #[.int .i64 x1, .int .i64 x2, .int .i64 x3, .int .i64 x4]) 1 F Aa Aa LU Aa).q fun a w F W => ?_
 refine BA (vs := [.int .i64 x1, .int .i64 x2, .int .i64 x3, .int .i64 x4]) (M' := [(b2, [.int .i64 x1, .int .i64 x2, .int .i64 x3, .int .i64 x4]), (b1, [.int .i64 x1, .int .i64 x2, .int .i64 x3, .int .i64 x4])]) 0 F W Aa Aa Aa LU Aa Aa Aa Aa Aa fun w W => ?_
 refine Af (Ad (Ay ?_))
 have H := AJ H
 subst H
 refine AL (.inl Aa) F W Aa (DQ 0 F Aa Aa LU Aa) ?_
 exact ⟨rfl, W.done⟩
theorem Ou : type_of% Try.underlying32 := Try.underlying32
theorem OP : type_of% Try.underlying64 := Try.underlying64
theorem QI : Has Try.prog 58 := ⟨fun args w => An Try.func58 rfl (by decide) args w⟩
theorem PQ : Bt Try.prog 64 [.int .i64 0, .int .i64 0, .int .i64 0, .int .i64 0, .int .i64 0] [(0, 1), (1, 4)] := ⟨⟨.agg #[.int .i64 0, .int .i64 0, .int .i64 0, .int .i64 0, .int .i64 0], by kernel_rfl, rfl⟩, ⟨_, OP, fun w => by kernel_rfl⟩⟩
theorem Qv : (Try.prog.info? 64).bind (·.zero) = some (.agg #[.int .i64 0, .int .i64 0, .int .i64 0, .int .i64 0, .int .i64 0]) := by kernel_rfl
abbrev PL : Rp (Int × Int × Int × Int) := (Rp.pair (Rp.int .i64) (Rp.pair (Rp.int .i64) (Rp.pair (Rp.int .i64) (Rp.int .i64))))
abbrev Ig : Rp (Int × (Int × Int × Int × Int)) := (Rp.pair (Rp.int .i64) PL)
def Qd (a : Int × Int × Int × Int) : List Value := [.int .i64 a.1, .int .i64 a.2.1, .int .i64 a.2.2.1, .int .i64 a.2.2.2]
theorem Qs : Fl PL Qd := (Fl.pair Fl.int (Fl.pair Fl.int (Fl.pair Fl.int Fl.int)))
def Qh (a : Int × (Int × Int × Int × Int)) : List Value := [.int .i64 a.1, .int .i64 a.2.1, .int .i64 a.2.2.1, .int .i64 a.2.2.2.1, .int .i64 a.2.2.2.2]
theorem Py : Fl Ig Qh := (Fl.pair Fl.int Qs)
theorem O8 : Et Try.prog 32 64 5 40 := Et.of Ou (by kernel_rfl) (by kernel_rfl) (by kernel_rfl) (by decide)
noncomputable def F7 (p0 : List (Int × Int × Int)) (p1 : Int × Int × Int × Int) : ((List (Int × (Int × Int × Int × Int))) × Int × Int × Int × Int × Int) → Option (((List (Int × (Int × Int × Int × Int))) × Int × Int × Int × Int × Int) ⊕ ((List (Int × (Int × Int × Int × Int))) × Int × Int × Int × Int))
  | (x6, x7, x8, x9, x10, x11) => (if x7 < (p0.length : Int) then ((ix p0 x7).bind fun x17 => (if x17.1 = 1 then (ER (x8, x9, x10, x11) x17.2.1 x17.2.2).bind fun x18 => some (x6, x18.1, x18.2.1, x18.2.2.1, x18.2.2.2) else (if x17.1 = 2 then (Js x6 ([(x17.2.2, (x8, x9, x10, x11))] : List (Int × (Int × Int × Int × Int)))).bind fun x19 => some (x19, x8, x9, x10, x11) else (if x17.1 = 3 then some (x6, p1.1, p1.2.1, p1.2.2.1, p1.2.2.2) else some (x6, x8, x9, x10, x11))))).bind fun (x12, x13, x14, x15, x16) => some (.inl (x12, BT (x7 + 1), x13, x14, x15, x16)) else some (.inr (x6, x8, x9, x10, x11)))
noncomputable def HG (p0 : List (Int × Int × Int)) (p1 : Int × Int × Int × Int) : Option (List (Int × (Int × Int × Int × Int))) := (A9 (F7 p0 p1) ([], 0, p1.1, p1.2.1, p1.2.2.1, p1.2.2.2)).bind fun (x1, x2, x3, x4, x5) => some x1
theorem LK (Y : Nat → Prop) (w0 : World) (v1 : Value) (p0 : List (Int × Int × Int)) (p1 : Int × Int × Int × Int) (r : (List (Int × (Int × Int × Int × Int)))) (H : HG p0 p1 = some r) (h_v1 : Sl w0 (NX []) BD v1 p0) :
    Calls Try.prog 39 #[v1, .agg #[.int .i64 p1.1, .int .i64 p1.2.1, .int .i64 p1.2.2.1, .int .i64 p1.2.2.2]] w0 fun e w' => ∃ x : Value, e = .returned (x) ∧ Stw ⟨Y, [], w0⟩ [] [row (x) 64 Ig r] w' := by
 refine enter Try.func39 Aa Try.ntmps39 Aa fun a F => ?_
 have W := Stw.start Y w0
 unfold HG at H
 refine Al (Ae ?_)
 refine BS (cs := [.int .i64 p1.1, .int .i64 p1.2.1, .int .i64 p1.2.2.1, .int .i64 p1.2.2.2]) F W Aa Aa Aa fun b1 a w F W => ?_
 refine ls F W Aa (Ag F Aa).q fun a w F W => ?_
 refine Af (Ad (Al (Ae ?_)))
 refine ls F W Aa (Ag F Aa).q fun a w F W => ?_
 refine Af (Ad (Al (Ae ?_)))
 refine ls F W Aa (Aq (v := Value.agg #[.int .i64 p1.1, .int .i64 p1.2.1, .int .i64 p1.2.2.1, .int .i64 p1.2.2.2]) 0 F Aa Aa LU Aa).q fun a w F W => ?_
 refine Cf (cs := [.int .i64 0, .int .i64 0, .int .i64 0, .int .i64 0]) F W Aa Pu Aa fun b2 a w F W => ?_
 refine BA (vs := [.int .i64 p1.1, .int .i64 p1.2.1, .int .i64 p1.2.2.1, .int .i64 p1.2.2.2]) (M' := [(b2, [.int .i64 p1.1, .int .i64 p1.2.1, .int .i64 p1.2.2.1, .int .i64 p1.2.2.2]), (b1, [.int .i64 p1.1, .int .i64 p1.2.1, .int .i64 p1.2.2.1, .int .i64 p1.2.2.2])]) 0 F W Aa Aa Aa LU Aa Aa Aa Aa Aa fun w W => ?_
 refine Af (Ad ?_)
 obtain ⟨o1, G1, K1⟩ := Ap H
 refine AF (fun a w => ∃ x1 : List (Int × (Int × Int × Int × Int)), ∃ x2 : Int, ∃ x3 : Int, ∃ x4 : Int, ∃ x5 : Int, ∃ v2 : Value, some ((x1, x2, x3, x4, x5)) = some o1 ∧ Fr 40 [] [(4, .slice none 0 0), (5, v2)] a ∧ Stw ⟨Y, [], w0⟩ [(b2, [.int .i64 x2, .int .i64 x3, .int .i64 x4, .int .i64 x5]), (b1, [.int .i64 p1.1, .int .i64 p1.2.1, .int .i64 p1.2.2.1, .int .i64 p1.2.2.2])] [row v2 64 Ig x1] w) ?_ ?_
 ·
  have H := G1
  clear G1 K1
  refine Al (Ae ?_)
  refine ls F W Aa (Ah F Aa).q fun a w F W => ?_
  refine ls F W Aa (B7 (r := BD) (l := p0) In Aa F Aa (Aw h_v1)).q fun a w F W => ?_
  refine ls F W Aa (Ah F Aa).q fun a w F W => ?_
  refine Af (Ad (AC ?_))
  have W := W.nilRow 64 Ig
  have W := W.frontM (i := 1) Aa Aa
  have W := W.frontM (i := 1) Aa Aa
  refine Bz H (fun s a w => ∃ v3 : Value, Fr 40 [] [(3, .pointer (some ⟨b1, 0, none⟩)), (4, .slice none 0 0), (5, v3), (6, .pointer (some ⟨b2, 0, none⟩)), (10, v1), (11, .int .i64 (p0.length : Int)), (12, .int .i64 s.2.1)] a ∧ Stw ⟨Y, [], w0⟩ [(b2, [.int .i64 s.2.2.1, .int .i64 s.2.2.2.1, .int .i64 s.2.2.2.2.1, .int .i64 s.2.2.2.2.2]), (b1, [.int .i64 p1.1, .int .i64 p1.2.1, .int .i64 p1.2.2.1, .int .i64 p1.2.2.2])] [row v3 64 Ig s.1] w) ⟨(Value.slice none 0 0), F.re ⟨rfl, Aa, Aa, Aa, Aa, Aa, Aa, trivial⟩, W⟩ fun s o a w H L2 hR => ?_
  obtain ⟨x6, x7, x8, x9, x10, x11⟩ := s
  obtain ⟨v3, F, W⟩ := hR
  have F : Fr 40 [] [(3, .pointer (some ⟨b1, 0, none⟩)), (4, .slice none 0 0), (5, v3), (6, .pointer (some ⟨b2, 0, none⟩)), (10, v1), (11, .int .i64 (p0.length : Int)), (12, .int .i64 x7)] a := F
  have W : Stw ⟨Y, [], w0⟩ [(b2, [.int .i64 x8, .int .i64 x9, .int .i64 x10, .int .i64 x11]), (b1, [.int .i64 p1.1, .int .i64 p1.2.1, .int .i64 p1.2.2.1, .int .i64 p1.2.2.2])] [row v3 64 Ig x6] w := W
  rw [F7] at H
  refine Al (Ae ?_)
  refine ls F W Aa (BI F Aa Aa).q fun a w F W => ?_
  refine Af (Ad (Al ?_))
  refine AA F Aa (fun hb => ?_) fun hb => ?_
  ·
   have H := AH (Bj hb) H
   rw [hb] at F
   clear hb
   refine Ax (Ad ?_)
   obtain ⟨o3, G3, K3⟩ := Ap H
   refine AF (fun a w => ∃ x12 : List (Int × (Int × Int × Int × Int)), ∃ x13 : Int, ∃ x14 : Int, ∃ x15 : Int, ∃ x16 : Int, ∃ v4 : Value, some ((x12, x13, x14, x15, x16)) = some o3 ∧ Fr 40 [] [(3, .pointer (some ⟨b1, 0, none⟩)), (4, .slice none 0 0), (5, v4), (6, .pointer (some ⟨b2, 0, none⟩)), (10, v1), (11, .int .i64 (p0.length : Int)), (12, .int .i64 x7)] a ∧ Stw ⟨Y, [], w0⟩ [(b2, [.int .i64 x13, .int .i64 x14, .int .i64 x15, .int .i64 x16]), (b1, [.int .i64 p1.1, .int .i64 p1.2.1, .int .i64 p1.2.2.1, .int .i64 p1.2.2.2])] [row v4 64 Ig x12] w) ?_ ?_
   ·
    have H := G3
    clear G3 K3
    refine AC (Al (Ae ?_))
    obtain ⟨x17, h1, H⟩ := Ap H
    refine ls F W Aa (Bg (r := BD) Nb F Aa Aa (Aw h_v1) h1).q fun a w F W => ?_
    refine ls F W Aa (A0 (y := Value.agg #[.int .i64 x17.1, .int .i64 x17.2.1, .int .i64 x17.2.2]) (j := 0) (i := x7) F Aa Aa (Aw h_v1) h1 NO.to NN Aa).q fun a w F W => ?_
    refine Cf (cs := [.int .i64 0, .int .i64 0, .int .i64 0]) F W Aa OD Aa fun b3 a w F W => ?_
    refine BA (vs := [.int .i64 x17.1, .int .i64 x17.2.1, .int .i64 x17.2.2]) (M' := [(b3, [.int .i64 x17.1, .int .i64 x17.2.1, .int .i64 x17.2.2]), (b2, [.int .i64 x8, .int .i64 x9, .int .i64 x10, .int .i64 x11]), (b1, [.int .i64 p1.1, .int .i64 p1.2.1, .int .i64 p1.2.2.1, .int .i64 p1.2.2.2])]) 0 F W Aa Aa Aa NN Aa Aa Aa Aa Aa fun w W => ?_
    refine Af (Ad (Al (Ae ?_)))
    refine ls F W Aa (Aj Eb Aa Aa Aa T3 F Aa 0 Aa).q fun a w F W => ?_
    refine ls F W Aa (Aq (v := Value.int .i64 x17.1) 0 F Aa Aa T3 Aa).q fun a w F W => ?_
    refine Af (Ad (AC (Al (Ae ?_))))
    refine ls F W Aa (BB F Aa Aa).q fun a w F W => ?_
    refine ls F W Aa (Ag F Aa).q fun a w F W => ?_
    refine Af (Ad ?_)
    refine AA F Aa (fun hb => ?_) fun hb => ?_
    ·
     have H := AH (Bj hb) H
     rw [hb] at F
     clear hb
     refine Ae ?_
     refine ls F W Aa (Aq (v := Value.agg #[.int .i64 x8, .int .i64 x9, .int .i64 x10, .int .i64 x11]) 1 F Aa Aa LU Aa).q fun a w F W => ?_
     refine ls F W Aa (Aj Eb Aa Aa Aa T3 F Aa 1 Aa).q fun a w F W => ?_
     refine ls F W Aa (Aq (v := Value.int .i64 x17.2.1) 0 F Aa Aa T3 Aa).q fun a w F W => ?_
     refine ls F W Aa (Aj Eb Aa Aa Aa T3 F Aa 2 Aa).q fun a w F W => ?_
     refine ls F W Aa (Aq (v := Value.int .i64 x17.2.2) 0 F Aa Aa T3 Aa).q fun a w F W => ?_
     obtain ⟨x18, h2, H⟩ := Ap H
     refine ls F W Aa (AR (v := Value.agg #[.int .i64 x18.1, .int .i64 x18.2.1, .int .i64 x18.2.2.1, .int .i64 x18.2.2.2]) F QI Aa (fun w W => I8 any w (x8, x9, x10, x11) x17.2.1 x17.2.2 _ h2)) fun a w F W => ?_
     refine BA (vs := [.int .i64 x18.1, .int .i64 x18.2.1, .int .i64 x18.2.2.1, .int .i64 x18.2.2.2]) (M' := [(b3, [.int .i64 x17.1, .int .i64 x17.2.1, .int .i64 x17.2.2]), (b2, [.int .i64 x18.1, .int .i64 x18.2.1, .int .i64 x18.2.2.1, .int .i64 x18.2.2.2]), (b1, [.int .i64 p1.1, .int .i64 p1.2.1, .int .i64 p1.2.2.1, .int .i64 p1.2.2.2])]) 1 F W Aa Aa Aa LU Aa Aa Aa Aa Aa fun w W => ?_
     refine Af ?_
     iterate 2 refine A1 ?_
     refine Ad ?_
     have W := W.frontM (i := 2) Aa Aa
     have W := W.frontM (i := 2) Aa Aa
     have W := W.sub (M' := [(b2, [.int .i64 x18.1, .int .i64 x18.2.1, .int .i64 x18.2.2.1, .int .i64 x18.2.2.2]), (b1, [.int .i64 p1.1, .int .i64 p1.2.1, .int .i64 p1.2.2.1, .int .i64 p1.2.2.2])]) (Z' := [row v3 64 Ig x6]) (List.Sublist.cons_cons _ (List.Sublist.cons_cons _ (List.nil_sublist _))) (List.Sublist.refl _)
     exact ⟨_, _, _, _, _, (v3), H, F.re ⟨rfl, Aa, Aa, Aa, Aa, Aa, Aa, trivial⟩, W⟩
    have H := AG (Bi hb) H
    rw [hb] at F
    clear hb
    refine Al (Ae ?_)
    refine ls F W Aa (BB F Aa Aa).q fun a w F W => ?_
    refine ls F W Aa (Ag F Aa).q fun a w F W => ?_
    refine Af (Ad ?_)
    refine AA F Aa (fun hb => ?_) fun hb => ?_
    ·
     have H := AH (Bj hb) H
     rw [hb] at F
     clear hb
     refine Ae ?_
     refine ls F W Aa (Ah F Aa).q fun a w F W => ?_
     refine ls F W Aa (Aj Eb Aa Aa Aa T3 F Aa 2 Aa).q fun a w F W => ?_
     refine ls F W Aa (Aq (v := Value.int .i64 x17.2.2) 0 F Aa Aa T3 Aa).q fun a w F W => ?_
     refine ls F W Aa (Aq (v := Value.agg #[.int .i64 x8, .int .i64 x9, .int .i64 x10, .int .i64 x11]) 1 F Aa Aa LU Aa).q fun a w F W => ?_
     refine ls F W Aa (Dp (v := Value.agg #[.int .i64 x17.2.2, .int .i64 x8, .int .i64 x9, .int .i64 x10, .int .i64 x11]) PQ F Aa Aa Aa).q fun a w F W => ?_
     refine Gm (z := Value.agg #[.int .i64 0, .int .i64 0, .int .i64 0, .int .i64 0, .int .i64 0]) (cs := [.int .i64 x17.2.2, .int .i64 x8, .int .i64 x9, .int .i64 x10, .int .i64 x11]) Ig ([(x17.2.2, (x8, x9, x10, x11))] : List (Int × (Int × Int × Int × Int))) F W Aa O8 Qv Aa Aa Aa Aa Aa Aa (Py.repL _ _ ([(x17.2.2, (x8, x9, x10, x11))] : List (Int × (Int × Int × Int × Int)))) fun v5 a w F W => ?_
     obtain ⟨x19, h3, H⟩ := Ap H
     refine Fy (r := Ig) (i := 1) F W Aa O8 Aa Aa Aa Aa (GO W 0 Aa) h3 Aa fun v6 a w F W => ?_
     have W : Stw ⟨Y, [], w0⟩ [(b3, [.int .i64 x17.1, .int .i64 x17.2.1, .int .i64 x17.2.2]), (b2, [.int .i64 x8, .int .i64 x9, .int .i64 x10, .int .i64 x11]), (b1, [.int .i64 p1.1, .int .i64 p1.2.1, .int .i64 p1.2.2.1, .int .i64 p1.2.2.2])] [row v6 64 Ig x19, row v5 64 Ig ([(x17.2.2, (x8, x9, x10, x11))] : List (Int × (Int × Int × Int × Int)))] w := W
     refine ls F W Aa (Ag F Aa).q fun a w F W => ?_
     refine Af ?_
     iterate 2 refine A1 ?_
     refine Ad ?_
     have W := W.frontM (i := 2) Aa Aa
     have W := W.frontM (i := 2) Aa Aa
     have W := W.sub (M' := [(b2, [.int .i64 x8, .int .i64 x9, .int .i64 x10, .int .i64 x11]), (b1, [.int .i64 p1.1, .int .i64 p1.2.1, .int .i64 p1.2.2.1, .int .i64 p1.2.2.2])]) (Z' := [row v6 64 Ig x19]) (List.Sublist.cons_cons _ (List.Sublist.cons_cons _ (List.nil_sublist _))) (List.Sublist.cons_cons _ (List.nil_sublist _))
     exact ⟨_, _, _, _, _, (v6), H, F.re ⟨rfl, Aa, Aa, Aa, Aa, Aa, Aa, trivial⟩, W⟩
    have H := AG (Bi hb) H
    rw [hb] at F
    clear hb
    refine Al (Ae ?_)
    refine ls F W Aa (BB F Aa Aa).q fun a w F W => ?_
    refine ls F W Aa (Ag F Aa).q fun a w F W => ?_
    refine Af (Ad ?_)
    refine AA F Aa (fun hb => ?_) fun hb => ?_
    ·
     have H := AH (Bj hb) H
     rw [hb] at F
     clear hb
     refine Ae ?_
     refine ls F W Aa (Aq (v := Value.agg #[.int .i64 p1.1, .int .i64 p1.2.1, .int .i64 p1.2.2.1, .int .i64 p1.2.2.2]) 2 F Aa Aa LU Aa).q fun a w F W => ?_
     refine BA (vs := [.int .i64 p1.1, .int .i64 p1.2.1, .int .i64 p1.2.2.1, .int .i64 p1.2.2.2]) (M' := [(b3, [.int .i64 x17.1, .int .i64 x17.2.1, .int .i64 x17.2.2]), (b2, [.int .i64 p1.1, .int .i64 p1.2.1, .int .i64 p1.2.2.1, .int .i64 p1.2.2.2]), (b1, [.int .i64 p1.1, .int .i64 p1.2.1, .int .i64 p1.2.2.1, .int .i64 p1.2.2.2])]) 1 F W Aa Aa Aa LU Aa Aa Aa Aa Aa fun w W => ?_
     refine Af ?_
     iterate 2 refine A1 ?_
     refine Ad ?_
     have W := W.frontM (i := 2) Aa Aa
     have W := W.frontM (i := 2) Aa Aa
     have W := W.sub (M' := [(b2, [.int .i64 p1.1, .int .i64 p1.2.1, .int .i64 p1.2.2.1, .int .i64 p1.2.2.2]), (b1, [.int .i64 p1.1, .int .i64 p1.2.1, .int .i64 p1.2.2.1, .int .i64 p1.2.2.2])]) (Z' := [row v3 64 Ig x6]) (List.Sublist.cons_cons _ (List.Sublist.cons_cons _ (List.nil_sublist _))) (List.Sublist.refl _)
     exact ⟨_, _, _, _, _, (v3), H, F.re ⟨rfl, Aa, Aa, Aa, Aa, Aa, Aa, trivial⟩, W⟩
    have H := AG (Bi hb) H
    rw [hb] at F
    clear hb
    refine Ax ?_
    iterate 2 refine A1 ?_
    refine Ad ?_
    have W := W.frontM (i := 2) Aa Aa
    have W := W.frontM (i := 2) Aa Aa
    have W := W.sub (M' := [(b2, [.int .i64 x8, .int .i64 x9, .int .i64 x10, .int .i64 x11]), (b1, [.int .i64 p1.1, .int .i64 p1.2.1, .int .i64 p1.2.2.1, .int .i64 p1.2.2.2])]) (Z' := [row v3 64 Ig x6]) (List.Sublist.cons_cons _ (List.Sublist.cons_cons _ (List.nil_sublist _))) (List.Sublist.refl _)
    exact ⟨_, _, _, _, _, (v3), H, F.re ⟨rfl, Aa, Aa, Aa, Aa, Aa, Aa, trivial⟩, W⟩
   rintro a w ⟨x12, x13, x14, x15, x16, v4, hj, F, W⟩
   have hj := AJ hj
   subst hj
   have H := K3
   clear G3 K3
   refine Ae ?_
   refine ls F W Aa (B6 F Aa Aa Aa).q fun a w F W => ?_
   refine ls F W Aa (Ah F Aa).q fun a w F W => ?_
   refine Af (Ad ?_)
   have W := W.frontM (i := 1) Aa Aa
   have W := W.frontM (i := 1) Aa Aa
   exact ⟨_, H, (v4), F.re ⟨rfl, Aa, Aa, Aa, Aa, Aa, Aa, trivial⟩, W⟩
  have H := AG (Bi hb) H
  rw [hb] at F
  clear hb
  refine Bu ?_
  iterate 2 refine BX ?_
  refine Br (Ad ?_)
  have W := W.frontM (i := 1) Aa Aa
  have W := W.frontM (i := 1) Aa Aa
  have H := L2 _ H
  exact ⟨_, _, _, _, _, (v3), H, F.re ⟨rfl, Aa, trivial⟩, W⟩
 rintro a w ⟨x1, x2, x3, x4, x5, v2, hj, F, W⟩
 have hj := AJ hj
 subst hj
 have H := K1
 clear G1 K1
 refine Al (Ae ?_)
 refine ls F W Aa (Ah F Aa).q fun a w F W => ?_
 refine ls F W Aa (Ag F Aa).q fun a w F W => ?_
 refine Af (Ad (Ay ?_))
 have H := AJ H
 subst H
 refine AL (.inl Aa) F W Aa (Av F Aa) ?_
 have W := W.sub (M' := []) (Z' := [row v2 64 Ig x1]) (List.nil_sublist _) (List.Sublist.refl _)
 exact ⟨(v2), Aa, W⟩
theorem Qj : Has Try.prog 39 := ⟨fun args w => An Try.func39 rfl (by decide) args w⟩
noncomputable def F3 (p0 : List (Int × (Int × (Int × Int × Int × Int) × (Int × Int × Int × Int)) × (List (Int × Int × Int)))) (p1 : Int) (p2 : Int × Int × Int × Int) : Option (List (Int × (Int × Int × Int × Int))) := (EF p0 p1 p2).bind fun x1 => (if x1 < 0 then some ([] : List (Int × (Int × Int × Int × Int))) else (ix p0 x1).bind fun x2 => (HG x2.2.2 p2).bind fun x3 => some x3)
theorem Kz (Y : Nat → Prop) (w0 : World) (v1 : Value) (p0 : List (Int × (Int × (Int × Int × Int × Int) × (Int × Int × Int × Int)) × (List (Int × Int × Int)))) (p1 : Int) (p2 : Int × Int × Int × Int) (r : (List (Int × (Int × Int × Int × Int)))) (H : F3 p0 p1 p2 = some r) (h_v1 : Sl w0 (NX []) AV v1 p0) :
    Calls Try.prog 17 #[v1, .int .i64 p1, .agg #[.int .i64 p2.1, .int .i64 p2.2.1, .int .i64 p2.2.2.1, .int .i64 p2.2.2.2]] w0 fun e w' => ∃ x : Value, e = .returned (x) ∧ Stw ⟨Y, [], w0⟩ [] [row (x) 64 Ig r] w' := by
 refine enter Try.func17 Aa Try.ntmps17 Aa fun a F => ?_
 have W := Stw.start Y w0
 obtain ⟨v2, h1, h_v1⟩ := h_v1.ex Ba
 unfold F3 at H
 refine Al (Ae ?_)
 refine BS (cs := [.int .i64 p2.1, .int .i64 p2.2.1, .int .i64 p2.2.2.1, .int .i64 p2.2.2.2]) F W Aa Aa Aa fun b1 a w F W => ?_
 refine ls F W Aa (Ag F Aa).q fun a w F W => ?_
 refine Af (Ad (Al (Ae ?_)))
 iterate 2 refine ls F W Aa (Ah F Aa).q fun a w F W => ?_
 refine ls F W Aa (Aq (v := Value.agg #[.int .i64 p2.1, .int .i64 p2.2.1, .int .i64 p2.2.2.1, .int .i64 p2.2.2.2]) 0 F Aa Aa LU Aa).q fun a w F W => ?_
 obtain ⟨x1, h2, H⟩ := Ap H
 refine ls F W Aa (AR (v := Value.int .i64 x1) F Pn Aa (fun w W => Ho any w (v1) p0 p1 p2 _ h2 (((Bc Ba h1 (Aw h_v1)) : C2 _ _ _ _ _ _) w W).nx)) fun a w F W => ?_
 refine ls F W Aa (Ag F Aa).q fun a w F W => ?_
 refine Af (Ad (Al (Al (Ae ?_))))
 refine ls F W Aa (Ah F Aa).q fun a w F W => ?_
 refine ls F W Aa (BI F Aa Aa).q fun a w F W => ?_
 refine Af (Ad ?_)
 refine AA F Aa (fun hb => ?_) fun hb => ?_
 ·
  have H := AH (Bj hb) H
  rw [hb] at F
  clear hb
  refine Al (Ae ?_)
  refine ls F W Aa (Ag F Aa).q fun a w F W => ?_
  refine Af (Ad (Ay (AD ?_)))
  have H := AJ H
  subst H
  refine AL (.inl Aa) F W Aa (Av F Aa) ?_
  have W := W.nilRow 64 Ig
  have W := W.sub (M' := []) (Z' := [row (Value.slice none 0 0) 64 Ig ([])]) (List.nil_sublist _) (List.Sublist.refl _)
  exact ⟨(Value.slice none 0 0), Aa, W⟩
 have H := AG (Bi hb) H
 rw [hb] at F
 clear hb
 refine Ax (Ad (Al ?_))
 refine GA 6 W MO (by kernel_rfl) ?_
 iterate 2 refine qs F Aa (Ah F Aa).q fun a F => ?_
 obtain ⟨x2, h3, H⟩ := Ap H
 obtain ⟨v3, h4, h5⟩ := Ck h1 h3
 have h6 : B5 v3 = [.int .i64 x2.1, .int .i64 x2.2.1.1, .int .i64 x2.2.1.2.1.1, .int .i64 x2.2.1.2.1.2.1, .int .i64 x2.2.1.2.1.2.2.1, .int .i64 x2.2.1.2.1.2.2.2, .int .i64 x2.2.1.2.2.1, .int .i64 x2.2.1.2.2.2.1, .int .i64 x2.2.1.2.2.2.2.1, .int .i64 x2.2.1.2.2.2.2.2, (v3.2.2.1)] := congrArg (fun q : Int × (Int × (Int × Int × Int × Int) × (Int × Int × Int × Int)) × (List (Int × Int × Int)) => ([.int .i64 q.1, .int .i64 q.2.1.1, .int .i64 q.2.1.2.1.1, .int .i64 q.2.1.2.1.2.1, .int .i64 q.2.1.2.1.2.2.1, .int .i64 q.2.1.2.1.2.2.2, .int .i64 q.2.1.2.2.1, .int .i64 q.2.1.2.2.2.1, .int .i64 q.2.1.2.2.2.2.1, .int .i64 q.2.1.2.2.2.2.2, (v3.2.2.1)] : List Value)) h5
 refine qs F Aa (Bg (r := Cz) D7 F Aa Aa (Aw h_v1) h4).q fun a F => ?_
 refine qs F Aa (Aj Ci Aa Aa Aa HK F Aa (EM v1 + (x1).toNat * 11 + 10) Aa).q fun a F => ?_
 refine qs F Aa (A0 (y := (v3.2.2.1)) (j := 10) (i := x1) (enc := B5) F Aa Aa (Aw h_v1) h4 DS HK (by rw [h6]; rfl)).q fun a F => ?_
 refine qs F Aa (Aq (v := Value.agg #[.int .i64 p2.1, .int .i64 p2.2.1, .int .i64 p2.2.2.1, .int .i64 p2.2.2.2]) 0 F Aa Aa LU Aa).q fun a F => ?_
 refine A4 fun w W => ?_
 obtain ⟨x3, h7, H⟩ := Ap H
 refine Bp (Ml := []) (Zl := []) (M := [(b1, [.int .i64 p2.1, .int .i64 p2.2.1, .int .i64 p2.2.2.1, .int .i64 p2.2.2.2])]) (Z := []) (β := Value) (rv := fun x => x) (MM := fun x => []) (ZZ := fun x => [row x 64 Ig x3]) F W Qj Aa Aa (fun hL => LK _ w ((v3.2.2.1)) x2.2.2 p2 _ h7 ((CT (Aw h_v1) h4 (Bb.snd (Bb.snd Bb.here)) (congrArg (fun q : Int × (Int × (Int × Int × Int × Int) × (Int × Int × Int × Int)) × (List (Int × Int × Int)) => q.2.2) h5)) w W).nx) fun x a w F W => ?_
 obtain ⟨v4, rfl⟩ : ∃ y, y = x := ⟨x, rfl⟩
 have W : Stw ⟨Y, [], w0⟩ [(b1, [.int .i64 p2.1, .int .i64 p2.2.1, .int .i64 p2.2.2.1, .int .i64 p2.2.2.2])] [row v4 64 Ig x3] w := W
 refine ls F W Aa (Ag F Aa).q fun a w F W => ?_
 refine Af (Ad (Ay ?_))
 have H := AJ H
 subst H
 refine AL (.inl Aa) F W Aa (Av F Aa) ?_
 have W := W.sub (M' := []) (Z' := [row v4 64 Ig x3]) (List.nil_sublist _) (List.Sublist.refl _)
 exact ⟨(v4), Aa, W⟩
theorem PR : Has Try.prog 17 := ⟨fun args w => An Try.func17 rfl (by decide) args w⟩
noncomputable def D4  : Option Bool := (Fm 1 3 20 2).bind fun x1 => (Dw ([] : List (Int × (Int × (Int × Int × Int × Int) × (Int × Int × Int × Int)) × (List (Int × Int × Int)))) ([(1, (10, Ac, ([(2, 0, 1)] : List (Int × Int × Int))), false), (1, x1, false)] : List (Int × (Int × (Int × (Int × Int × Int × Int) × (Int × Int × Int × Int)) × (List (Int × Int × Int))) × Bool)) 4 9).bind fun x2 => (F3 x2.1 0 (1, 3, 0, 0)).bind fun x3 => (if (x2.1.length : Int) = 2 then (if x2.2.1 = (-1) then (if x2.2.2 = 0 then (ix x2.1 0).bind fun x5 => (if x5.1 = 20 then (if (x3.length : Int) = 1 then (ix x3 0).bind fun x6 => (if x6.1 = 2 then (EF x2.1 0 (0, 0, 0, 0)).bind fun x7 => some (decide (x7 = 1)) else some false) else some false) else some false) else some false) else some false) else some false).bind fun x4 => some x4
theorem GH (Y : Nat → Prop) (w0 : World)   (r : Bool) (H : D4  = some r)  :
    Calls Try.prog 9 #[] w0 fun e w' => e = .returned (.bool r) ∧ Below w0.heap.size w0 w' := by
 refine enter Try.func9 Aa Try.ntmps9 Aa fun a F => ?_
 have W := Stw.start Y w0
 unfold D4 at H
 refine Al (Ae ?_)
 refine ls F W Aa (Ag F Aa).q fun a w F W => ?_
 refine Af (Ad (Al (Ae ?_)))
 refine ls F W Aa (AR (v := Value.agg #[.int .i64 Ac.1, .int .i64 Ac.2.1.1, .int .i64 Ac.2.1.2.1, .int .i64 Ac.2.1.2.2.1, .int .i64 Ac.2.1.2.2.2, .int .i64 Ac.2.2.1, .int .i64 Ac.2.2.2.1, .int .i64 Ac.2.2.2.2.1, .int .i64 Ac.2.2.2.2.2]) F Px Aa (fun w W => Ic any w _ Aa)) fun a w F W => ?_
 refine ls F W Aa (Dp (v := Value.agg #[.int .i64 2, .int .i64 0, .int .i64 1]) Pp F Aa Aa Aa).q fun a w F W => ?_
 refine Gm (z := Value.agg #[.int .i64 0, .int .i64 0, .int .i64 0]) (cs := [.int .i64 2, .int .i64 0, .int .i64 1]) BD ([(2, 0, 1)] : List (Int × Int × Int)) F W Aa Nb OD Aa Aa Aa Aa Aa Aa (NO.repL _ _ ([(2, 0, 1)] : List (Int × Int × Int))) fun v1 a w F W => ?_
 refine ls F W Aa (Dp (v := Value.agg #[.int .i64 10, .int .i64 Ac.1, .int .i64 Ac.2.1.1, .int .i64 Ac.2.1.2.1, .int .i64 Ac.2.1.2.2.1, .int .i64 Ac.2.1.2.2.2, .int .i64 Ac.2.2.1, .int .i64 Ac.2.2.2.1, .int .i64 Ac.2.2.2.2.1, .int .i64 Ac.2.2.2.2.2, v1]) Pt F Aa (Ca Aa Aa Aa (Ca Aa Aa Aa (Ca Aa (FW (W.one (k := 0) Aa)) Aa DJ))) Aa).q fun a w F W => ?_
 refine Cf (cs := [.int .i64 0, .int .i64 0, .int .i64 0, .int .i64 0, .int .i64 0, .int .i64 0, .int .i64 0, .int .i64 0, .int .i64 0, .int .i64 0, .slice none 0 0]) F W Aa JC Aa fun b1 a w F W => ?_
 refine BA (vs := [.int .i64 10, .int .i64 Ac.1, .int .i64 Ac.2.1.1, .int .i64 Ac.2.1.2.1, .int .i64 Ac.2.1.2.2.1, .int .i64 Ac.2.1.2.2.2, .int .i64 Ac.2.2.1, .int .i64 Ac.2.2.2.1, .int .i64 Ac.2.2.2.2.1, .int .i64 Ac.2.2.2.2.2, v1]) (M' := [(b1, [.int .i64 10, .int .i64 Ac.1, .int .i64 Ac.2.1.1, .int .i64 Ac.2.1.2.1, .int .i64 Ac.2.1.2.2.1, .int .i64 Ac.2.1.2.2.2, .int .i64 Ac.2.2.1, .int .i64 Ac.2.2.2.1, .int .i64 Ac.2.2.2.2.1, .int .i64 Ac.2.2.2.2.2, v1])]) 0 F W Aa Aa Aa CH Aa Aa Aa (Am Aa (Am Aa (Am Aa (Am Aa (Am Aa (Am Aa (Am Aa (Am Aa (Am Aa (Am Aa (Am (W.one (k := 0) Aa) CX))))))))))) Aa fun w W => ?_
 refine Af (Ad (Al ?_))
 refine Gs [(true, 0), (true, 1), (false, 2), (true, 3), (false, 4), (false, 5), (true, 6), (true, 7), (true, 8), (true, 9), (false, 10), (false, 11), (false, 12)] (CN ⟨Y, [], w0⟩ [(some 4, b1, [.int .i64 10, .int .i64 Ac.1, .int .i64 Ac.2.1.1, .int .i64 Ac.2.1.2.1, .int .i64 Ac.2.1.2.2.1, .int .i64 Ac.2.1.2.2.2, .int .i64 Ac.2.2.1, .int .i64 Ac.2.2.2.1, .int .i64 Ac.2.2.2.2.1, .int .i64 Ac.2.2.2.2.2, v1])] []) (fun ch a d v w h => by cases d <;> exact h) MO (by kernel_rfl) W (fun w W => ⟨_, _, W, (all_cons (fun _ => (.head _)) A6), A6⟩) fun w W => ?_
 refine Ew (R := [4, 1]) F Aa Aa (yC fun M Z hN hZ => Fx (cs := [.int .i64 10, .int .i64 Ac.1, .int .i64 Ac.2.1.1, .int .i64 Ac.2.1.2.1, .int .i64 Ac.2.1.2.2.1, .int .i64 Ac.2.1.2.2.2, .int .i64 Ac.2.2.1, .int .i64 Ac.2.2.2.1, .int .i64 Ac.2.2.2.2.1, .int .i64 Ac.2.2.2.2.2, v1]) (v := Value.agg #[.int .i64 10, .int .i64 Ac.1, .int .i64 Ac.2.1.1, .int .i64 Ac.2.1.2.1, .int .i64 Ac.2.1.2.2.1, .int .i64 Ac.2.1.2.2.2, .int .i64 Ac.2.2.1, .int .i64 Ac.2.2.2.1, .int .i64 Ac.2.2.2.2.1, .int .i64 Ac.2.2.2.2.2, v1]) F Aa (hN ((some 4), b1, [.int .i64 10, .int .i64 Ac.1, .int .i64 Ac.2.1.1, .int .i64 Ac.2.1.2.1, .int .i64 Ac.2.1.2.2.1, .int .i64 Ac.2.1.2.2.2, .int .i64 Ac.2.2.1, .int .i64 Ac.2.2.2.1, .int .i64 Ac.2.2.2.2.1, .int .i64 Ac.2.2.2.2.2, v1]) (.head _) Aa) CH Aa) (by kernel_rfl) Aa fun a F => ?_
 refine Ew (R := []) F Aa Aa (yC fun M Z hN hZ => Dp (v := Value.agg #[.int .i64 1, .int .i64 10, .int .i64 Ac.1, .int .i64 Ac.2.1.1, .int .i64 Ac.2.1.2.1, .int .i64 Ac.2.1.2.2.1, .int .i64 Ac.2.1.2.2.2, .int .i64 Ac.2.2.1, .int .i64 Ac.2.2.2.1, .int .i64 Ac.2.2.2.2.1, .int .i64 Ac.2.2.2.2.2, v1, .bool false]) PE F Aa (Ca Aa Aa Aa (Ca Aa Aa Aa DJ)) Aa) Aa Aa fun a F => ?_
 refine FK Aa ?_
 obtain ⟨x1, h1, H⟩ := Ap H
 refine Bp (Ml := []) (Zl := []) (M := [(b1, [.int .i64 10, .int .i64 Ac.1, .int .i64 Ac.2.1.1, .int .i64 Ac.2.1.2.1, .int .i64 Ac.2.1.2.2.1, .int .i64 Ac.2.1.2.2.2, .int .i64 Ac.2.2.1, .int .i64 Ac.2.2.2.1, .int .i64 Ac.2.2.2.2.1, .int .i64 Ac.2.2.2.2.2, v1])]) (Z := [row v1 61 BD ([(2, 0, 1)] : List (Int × Int × Int))]) (β := Value) (rv := fun x => .agg #[.int .i64 x1.1, .int .i64 x1.2.1.1, .int .i64 x1.2.1.2.1.1, .int .i64 x1.2.1.2.1.2.1, .int .i64 x1.2.1.2.1.2.2.1, .int .i64 x1.2.1.2.1.2.2.2, .int .i64 x1.2.1.2.2.1, .int .i64 x1.2.1.2.2.2.1, .int .i64 x1.2.1.2.2.2.2.1, .int .i64 x1.2.1.2.2.2.2.2, x]) (MM := fun x => []) (ZZ := fun x => [row x 61 BD x1.2.2]) F W Qf Aa Aa (fun hL => JQ _ w 1 3 20 2 _ h1) fun x a w F W => ?_
 obtain ⟨v2, rfl⟩ : ∃ y, y = x := ⟨x, rfl⟩
 have W : Stw ⟨Y, [], w0⟩ [(b1, [.int .i64 10, .int .i64 Ac.1, .int .i64 Ac.2.1.1, .int .i64 Ac.2.1.2.1, .int .i64 Ac.2.1.2.2.1, .int .i64 Ac.2.1.2.2.2, .int .i64 Ac.2.2.1, .int .i64 Ac.2.2.2.1, .int .i64 Ac.2.2.2.2.1, .int .i64 Ac.2.2.2.2.2, v1])] [row v2 61 BD x1.2.2, row v1 61 BD ([(2, 0, 1)] : List (Int × Int × Int))] w := W
 refine Cy (N2 := []) (NZ2 := []) (N3 := [(some 4, b1, [.int .i64 10, .int .i64 Ac.1, .int .i64 Ac.2.1.1, .int .i64 Ac.2.1.2.1, .int .i64 Ac.2.1.2.2.1, .int .i64 Ac.2.1.2.2.2, .int .i64 Ac.2.2.1, .int .i64 Ac.2.2.2.1, .int .i64 Ac.2.2.2.2.1, .int .i64 Ac.2.2.2.2.2, v1])]) (NZ3 := []) W Aa Aa (all_cons (fun _ => (.head _)) A6) A6 ?_
 refine Ew (R := []) F Aa Aa (yC fun M Z hN hZ => Dp (v := Value.agg #[.int .i64 1, .int .i64 x1.1, .int .i64 x1.2.1.1, .int .i64 x1.2.1.2.1.1, .int .i64 x1.2.1.2.1.2.1, .int .i64 x1.2.1.2.1.2.2.1, .int .i64 x1.2.1.2.1.2.2.2, .int .i64 x1.2.1.2.2.1, .int .i64 x1.2.1.2.2.2.1, .int .i64 x1.2.1.2.2.2.2.1, .int .i64 x1.2.1.2.2.2.2.2, v2, .bool false]) PE F Aa (Ca Aa Aa Aa (Ca Aa Aa Aa DJ)) Aa) Aa Aa fun a F => ?_
 refine FK Aa ?_
 have W := W.frontZ (i := 1) Aa Aa
 have W := W.freeze
 have W := W.frontZ (i := 1) Aa Aa
 have W := W.freeze
 refine Gm (z := Value.agg #[.int .i64 0, .int .i64 0, .int .i64 0, .int .i64 0, .int .i64 0, .int .i64 0, .int .i64 0, .int .i64 0, .int .i64 0, .int .i64 0, .int .i64 0, .slice none 0 0, .bool false]) (cs := [.int .i64 1, .int .i64 10, .int .i64 Ac.1, .int .i64 Ac.2.1.1, .int .i64 Ac.2.1.2.1, .int .i64 Ac.2.1.2.2.1, .int .i64 Ac.2.1.2.2.2, .int .i64 Ac.2.2.1, .int .i64 Ac.2.2.2.1, .int .i64 Ac.2.2.2.2.1, .int .i64 Ac.2.2.2.2.2, v1, .bool false, .int .i64 1, .int .i64 x1.1, .int .i64 x1.2.1.1, .int .i64 x1.2.1.2.1.1, .int .i64 x1.2.1.2.1.2.1, .int .i64 x1.2.1.2.1.2.2.1, .int .i64 x1.2.1.2.1.2.2.2, .int .i64 x1.2.1.2.2.1, .int .i64 x1.2.1.2.2.2.1, .int .i64 x1.2.1.2.2.2.2.1, .int .i64 x1.2.1.2.2.2.2.2, v2, .bool false]) KJ ([(1, (10, Ac, ([(2, 0, 1)] : List (Int × Int × Int))), false), (1, x1, false)] : List (Int × (Int × (Int × (Int × Int × Int × Int) × (Int × Int × Int × Int)) × (List (Int × Int × Int))) × Bool)) F W Aa Oj PD Aa Aa Aa (Ca Aa Aa Aa (Ca Aa Aa Aa DJ)) Aa Aa ⟨[Value.int .i64 1, Value.int .i64 10, Value.int .i64 Ac.1, Value.int .i64 Ac.2.1.1, Value.int .i64 Ac.2.1.2.1, Value.int .i64 Ac.2.1.2.2.1, Value.int .i64 Ac.2.1.2.2.2, Value.int .i64 Ac.2.2.1, Value.int .i64 Ac.2.2.2.1, Value.int .i64 Ac.2.2.2.2.1, Value.int .i64 Ac.2.2.2.2.2, v1, Value.bool false], _, Aa, ⟨[Value.int .i64 1], [Value.int .i64 10, Value.int .i64 Ac.1, Value.int .i64 Ac.2.1.1, Value.int .i64 Ac.2.1.2.1, Value.int .i64 Ac.2.1.2.2.1, Value.int .i64 Ac.2.1.2.2.2, Value.int .i64 Ac.2.2.1, Value.int .i64 Ac.2.2.2.1, Value.int .i64 Ac.2.2.2.2.1, Value.int .i64 Ac.2.2.2.2.2, v1, Value.bool false], Aa, Aa, ⟨[Value.int .i64 10, Value.int .i64 Ac.1, Value.int .i64 Ac.2.1.1, Value.int .i64 Ac.2.1.2.1, Value.int .i64 Ac.2.1.2.2.1, Value.int .i64 Ac.2.1.2.2.2, Value.int .i64 Ac.2.2.1, Value.int .i64 Ac.2.2.2.1, Value.int .i64 Ac.2.2.2.2.1, Value.int .i64 Ac.2.2.2.2.2, v1], [Value.bool false], Aa, ⟨[Value.int .i64 10], [Value.int .i64 Ac.1, Value.int .i64 Ac.2.1.1, Value.int .i64 Ac.2.1.2.1, Value.int .i64 Ac.2.1.2.2.1, Value.int .i64 Ac.2.1.2.2.2, Value.int .i64 Ac.2.2.1, Value.int .i64 Ac.2.2.2.1, Value.int .i64 Ac.2.2.2.2.1, Value.int .i64 Ac.2.2.2.2.2, v1], Aa, Aa, ⟨[Value.int .i64 Ac.1, Value.int .i64 Ac.2.1.1, Value.int .i64 Ac.2.1.2.1, Value.int .i64 Ac.2.1.2.2.1, Value.int .i64 Ac.2.1.2.2.2, Value.int .i64 Ac.2.2.1, Value.int .i64 Ac.2.2.2.1, Value.int .i64 Ac.2.2.2.2.1, Value.int .i64 Ac.2.2.2.2.2], [v1], Aa, ⟨[Value.int .i64 Ac.1], [Value.int .i64 Ac.2.1.1, Value.int .i64 Ac.2.1.2.1, Value.int .i64 Ac.2.1.2.2.1, Value.int .i64 Ac.2.1.2.2.2, Value.int .i64 Ac.2.2.1, Value.int .i64 Ac.2.2.2.1, Value.int .i64 Ac.2.2.2.2.1, Value.int .i64 Ac.2.2.2.2.2], Aa, Aa, ⟨[Value.int .i64 Ac.2.1.1, Value.int .i64 Ac.2.1.2.1, Value.int .i64 Ac.2.1.2.2.1, Value.int .i64 Ac.2.1.2.2.2], [Value.int .i64 Ac.2.2.1, Value.int .i64 Ac.2.2.2.1, Value.int .i64 Ac.2.2.2.2.1, Value.int .i64 Ac.2.2.2.2.2], Aa, ⟨[Value.int .i64 Ac.2.1.1], [Value.int .i64 Ac.2.1.2.1, Value.int .i64 Ac.2.1.2.2.1, Value.int .i64 Ac.2.1.2.2.2], Aa, Aa, ⟨[Value.int .i64 Ac.2.1.2.1], [Value.int .i64 Ac.2.1.2.2.1, Value.int .i64 Ac.2.1.2.2.2], Aa, Aa, ⟨[Value.int .i64 Ac.2.1.2.2.1], [Value.int .i64 Ac.2.1.2.2.2], Aa, Aa, Aa⟩⟩⟩, ⟨[Value.int .i64 Ac.2.2.1], [Value.int .i64 Ac.2.2.2.1, Value.int .i64 Ac.2.2.2.2.1, Value.int .i64 Ac.2.2.2.2.2], Aa, Aa, ⟨[Value.int .i64 Ac.2.2.2.1], [Value.int .i64 Ac.2.2.2.2.1, Value.int .i64 Ac.2.2.2.2.2], Aa, Aa, ⟨[Value.int .i64 Ac.2.2.2.2.1], [Value.int .i64 Ac.2.2.2.2.2], Aa, Aa, Aa⟩⟩⟩⟩⟩, ⟨_, Aa, (W.item (i := 1) Aa)⟩⟩⟩, Aa⟩⟩, ⟨[Value.int .i64 1, Value.int .i64 x1.1, Value.int .i64 x1.2.1.1, Value.int .i64 x1.2.1.2.1.1, Value.int .i64 x1.2.1.2.1.2.1, Value.int .i64 x1.2.1.2.1.2.2.1, Value.int .i64 x1.2.1.2.1.2.2.2, Value.int .i64 x1.2.1.2.2.1, Value.int .i64 x1.2.1.2.2.2.1, Value.int .i64 x1.2.1.2.2.2.2.1, Value.int .i64 x1.2.1.2.2.2.2.2, v2, Value.bool false], _, Aa, ⟨[Value.int .i64 1], [Value.int .i64 x1.1, Value.int .i64 x1.2.1.1, Value.int .i64 x1.2.1.2.1.1, Value.int .i64 x1.2.1.2.1.2.1, Value.int .i64 x1.2.1.2.1.2.2.1, Value.int .i64 x1.2.1.2.1.2.2.2, Value.int .i64 x1.2.1.2.2.1, Value.int .i64 x1.2.1.2.2.2.1, Value.int .i64 x1.2.1.2.2.2.2.1, Value.int .i64 x1.2.1.2.2.2.2.2, v2, Value.bool false], Aa, Aa, ⟨[Value.int .i64 x1.1, Value.int .i64 x1.2.1.1, Value.int .i64 x1.2.1.2.1.1, Value.int .i64 x1.2.1.2.1.2.1, Value.int .i64 x1.2.1.2.1.2.2.1, Value.int .i64 x1.2.1.2.1.2.2.2, Value.int .i64 x1.2.1.2.2.1, Value.int .i64 x1.2.1.2.2.2.1, Value.int .i64 x1.2.1.2.2.2.2.1, Value.int .i64 x1.2.1.2.2.2.2.2, v2], [Value.bool false], Aa, ⟨[Value.int .i64 x1.1], [Value.int .i64 x1.2.1.1, Value.int .i64 x1.2.1.2.1.1, Value.int .i64 x1.2.1.2.1.2.1, Value.int .i64 x1.2.1.2.1.2.2.1, Value.int .i64 x1.2.1.2.1.2.2.2, Value.int .i64 x1.2.1.2.2.1, Value.int .i64 x1.2.1.2.2.2.1, Value.int .i64 x1.2.1.2.2.2.2.1, Value.int .i64 x1.2.1.2.2.2.2.2, v2], Aa, Aa, ⟨[Value.int .i64 x1.2.1.1, Value.int .i64 x1.2.1.2.1.1, Value.int .i64 x1.2.1.2.1.2.1, Value.int .i64 x1.2.1.2.1.2.2.1, Value.int .i64 x1.2.1.2.1.2.2.2, Value.int .i64 x1.2.1.2.2.1, Value.int .i64 x1.2.1.2.2.2.1, Value.int .i64 x1.2.1.2.2.2.2.1, Value.int .i64 x1.2.1.2.2.2.2.2], [v2], Aa, ⟨[Value.int .i64 x1.2.1.1], [Value.int .i64 x1.2.1.2.1.1, Value.int .i64 x1.2.1.2.1.2.1, Value.int .i64 x1.2.1.2.1.2.2.1, Value.int .i64 x1.2.1.2.1.2.2.2, Value.int .i64 x1.2.1.2.2.1, Value.int .i64 x1.2.1.2.2.2.1, Value.int .i64 x1.2.1.2.2.2.2.1, Value.int .i64 x1.2.1.2.2.2.2.2], Aa, Aa, ⟨[Value.int .i64 x1.2.1.2.1.1, Value.int .i64 x1.2.1.2.1.2.1, Value.int .i64 x1.2.1.2.1.2.2.1, Value.int .i64 x1.2.1.2.1.2.2.2], [Value.int .i64 x1.2.1.2.2.1, Value.int .i64 x1.2.1.2.2.2.1, Value.int .i64 x1.2.1.2.2.2.2.1, Value.int .i64 x1.2.1.2.2.2.2.2], Aa, ⟨[Value.int .i64 x1.2.1.2.1.1], [Value.int .i64 x1.2.1.2.1.2.1, Value.int .i64 x1.2.1.2.1.2.2.1, Value.int .i64 x1.2.1.2.1.2.2.2], Aa, Aa, ⟨[Value.int .i64 x1.2.1.2.1.2.1], [Value.int .i64 x1.2.1.2.1.2.2.1, Value.int .i64 x1.2.1.2.1.2.2.2], Aa, Aa, ⟨[Value.int .i64 x1.2.1.2.1.2.2.1], [Value.int .i64 x1.2.1.2.1.2.2.2], Aa, Aa, Aa⟩⟩⟩, ⟨[Value.int .i64 x1.2.1.2.2.1], [Value.int .i64 x1.2.1.2.2.2.1, Value.int .i64 x1.2.1.2.2.2.2.1, Value.int .i64 x1.2.1.2.2.2.2.2], Aa, Aa, ⟨[Value.int .i64 x1.2.1.2.2.2.1], [Value.int .i64 x1.2.1.2.2.2.2.1, Value.int .i64 x1.2.1.2.2.2.2.2], Aa, Aa, ⟨[Value.int .i64 x1.2.1.2.2.2.2.1], [Value.int .i64 x1.2.1.2.2.2.2.2], Aa, Aa, Aa⟩⟩⟩⟩⟩, ⟨_, Aa, (W.item (i := 0) Aa)⟩⟩⟩, Aa⟩⟩, Aa⟩⟩ fun v3 a w F W => ?_
 refine Cy (N2 := []) (NZ2 := []) (N3 := [(some 4, b1, [.int .i64 10, .int .i64 Ac.1, .int .i64 Ac.2.1.1, .int .i64 Ac.2.1.2.1, .int .i64 Ac.2.1.2.2.1, .int .i64 Ac.2.1.2.2.2, .int .i64 Ac.2.2.1, .int .i64 Ac.2.2.2.1, .int .i64 Ac.2.2.2.2.1, .int .i64 Ac.2.2.2.2.2, v1])]) (NZ3 := []) W Aa Aa (all_cons (fun h => BH (by kernel_rfl) h) A6) A6 ?_
 refine FK Aa ?_
 obtain ⟨x2, h2, H⟩ := Ap H
 have W := W.freeze
 refine Bp (Ml := []) (Zl := []) (M := [(b1, [.int .i64 10, .int .i64 Ac.1, .int .i64 Ac.2.1.1, .int .i64 Ac.2.1.2.1, .int .i64 Ac.2.1.2.2.1, .int .i64 Ac.2.1.2.2.2, .int .i64 Ac.2.2.1, .int .i64 Ac.2.2.2.1, .int .i64 Ac.2.2.2.2.1, .int .i64 Ac.2.2.2.2.2, v1])]) (Z := [BG v3 KJ ([(1, (10, Ac, ([(2, 0, 1)] : List (Int × Int × Int))), false), (1, x1, false)] : List (Int × (Int × (Int × (Int × Int × Int × Int) × (Int × Int × Int × Int)) × (List (Int × Int × Int))) × Bool)), BG v2 BD x1.2.2, BG v1 BD ([(2, 0, 1)] : List (Int × Int × Int))]) (β := Value) (rv := fun x => .tuple #[x, .int .i64 x2.2.1, .int .i64 x2.2.2]) (MM := fun x => []) (ZZ := fun x => [BG x AV x2.1]) F W Pw Aa Aa (fun hL => Hv _ w (Value.slice none 0 0) (v3) ([] : List (Int × (Int × (Int × Int × Int × Int) × (Int × Int × Int × Int)) × (List (Int × Int × Int)))) ([(1, (10, Ac, ([(2, 0, 1)] : List (Int × Int × Int))), false), (1, x1, false)] : List (Int × (Int × (Int × (Int × Int × Int × Int) × (Int × Int × Int × Int)) × (List (Int × Int × Int))) × Bool)) 4 9 _ h2 Sl.nil (W.item (i := 0) Aa)) fun x a w F W => ?_
 obtain ⟨v4, rfl⟩ : ∃ y, y = x := ⟨x, rfl⟩
 have W : Stw ⟨Y, [], w0⟩ [(b1, [.int .i64 10, .int .i64 Ac.1, .int .i64 Ac.2.1.1, .int .i64 Ac.2.1.2.1, .int .i64 Ac.2.1.2.2.1, .int .i64 Ac.2.1.2.2.2, .int .i64 Ac.2.2.1, .int .i64 Ac.2.2.2.1, .int .i64 Ac.2.2.2.2.1, .int .i64 Ac.2.2.2.2.2, v1])] [BG v4 AV x2.1, BG v3 KJ ([(1, (10, Ac, ([(2, 0, 1)] : List (Int × Int × Int))), false), (1, x1, false)] : List (Int × (Int × (Int × (Int × Int × Int × Int) × (Int × Int × Int × Int)) × (List (Int × Int × Int))) × Bool)), BG v2 BD x1.2.2, BG v1 BD ([(2, 0, 1)] : List (Int × Int × Int))] w := W
 refine Cy (N2 := []) (NZ2 := []) (N3 := [(some 4, b1, [.int .i64 10, .int .i64 Ac.1, .int .i64 Ac.2.1.1, .int .i64 Ac.2.1.2.1, .int .i64 Ac.2.1.2.2.1, .int .i64 Ac.2.1.2.2.2, .int .i64 Ac.2.2.1, .int .i64 Ac.2.2.2.1, .int .i64 Ac.2.2.2.2.1, .int .i64 Ac.2.2.2.2.2, v1])]) (NZ3 := []) W Aa Aa (all_cons (fun h => BH (by kernel_rfl) h) A6) A6 ?_
 refine Ew (R := []) F Aa Aa (yC fun M Z hN hZ => Ah F Aa) Aa Aa fun a F => ?_
 refine Ew (R := []) F Aa Aa (yC fun M Z hN hZ => Bk (v := v4) F Aa Aa) Aa Aa fun a F => ?_
 refine Ew (R := []) F Aa Aa (yC fun M Z hN hZ => Bk (v := Value.int .i64 x2.2.1) F Aa Aa) Aa Aa fun a F => ?_
 refine Ew (R := []) F Aa Aa (yC fun M Z hN hZ => Bk (v := Value.int .i64 x2.2.2) F Aa Aa) Aa Aa fun a F => ?_
 refine FK Aa ?_
 refine ls F W Aa (Ag F Aa).q fun a w F W => ?_
 refine Cy (N2 := []) (NZ2 := []) (N3 := [(some 4, b1, [.int .i64 10, .int .i64 Ac.1, .int .i64 Ac.2.1.1, .int .i64 Ac.2.1.2.1, .int .i64 Ac.2.1.2.2.1, .int .i64 Ac.2.1.2.2.2, .int .i64 Ac.2.2.1, .int .i64 Ac.2.2.2.1, .int .i64 Ac.2.2.2.2.1, .int .i64 Ac.2.2.2.2.2, v1])]) (NZ3 := []) W Aa Aa (all_cons (fun h => BH (by kernel_rfl) h) A6) A6 ?_
 refine FK Aa ?_
 refine ls F W Aa (Ag F Aa).q fun a w F W => ?_
 refine Cy (N2 := []) (NZ2 := []) (N3 := [(some 4, b1, [.int .i64 10, .int .i64 Ac.1, .int .i64 Ac.2.1.1, .int .i64 Ac.2.1.2.1, .int .i64 Ac.2.1.2.2.1, .int .i64 Ac.2.1.2.2.2, .int .i64 Ac.2.2.1, .int .i64 Ac.2.2.2.1, .int .i64 Ac.2.2.2.2.1, .int .i64 Ac.2.2.2.2.2, v1])]) (NZ3 := []) W Aa Aa (all_cons (fun h => BH (by kernel_rfl) h) A6) A6 ?_
 refine FK Aa ?_
 refine ls F W Aa (Ag F Aa).q fun a w F W => ?_
 refine Cy (N2 := []) (NZ2 := []) (N3 := [(some 4, b1, [.int .i64 10, .int .i64 Ac.1, .int .i64 Ac.2.1.1, .int .i64 Ac.2.1.2.1, .int .i64 Ac.2.1.2.2.1, .int .i64 Ac.2.1.2.2.2, .int .i64 Ac.2.2.1, .int .i64 Ac.2.2.2.1, .int .i64 Ac.2.2.2.2.1, .int .i64 Ac.2.2.2.2.2, v1])]) (NZ3 := []) W Aa Aa (all_cons (fun h => BH (by kernel_rfl) h) A6) A6 ?_
 refine IZ (Ad (Al (Ae ?_)))
 refine ls F W Aa (Ah F Aa).q fun a w F W => ?_
 refine ls F W Aa (KA (v := Value.agg #[.int .i64 1, .int .i64 3, .int .i64 0, .int .i64 0]) Nw Ox F Aa Aa Aa).q fun a w F W => ?_
 obtain ⟨x3, h3, H⟩ := Ap H
 refine Bp (Ml := []) (Zl := []) (M := [(b1, [.int .i64 10, .int .i64 Ac.1, .int .i64 Ac.2.1.1, .int .i64 Ac.2.1.2.1, .int .i64 Ac.2.1.2.2.1, .int .i64 Ac.2.1.2.2.2, .int .i64 Ac.2.2.1, .int .i64 Ac.2.2.2.1, .int .i64 Ac.2.2.2.2.1, .int .i64 Ac.2.2.2.2.2, v1])]) (Z := [BG v4 AV x2.1, BG v3 KJ ([(1, (10, Ac, ([(2, 0, 1)] : List (Int × Int × Int))), false), (1, x1, false)] : List (Int × (Int × (Int × (Int × Int × Int × Int) × (Int × Int × Int × Int)) × (List (Int × Int × Int))) × Bool)), BG v2 BD x1.2.2, BG v1 BD ([(2, 0, 1)] : List (Int × Int × Int))]) (β := Value) (rv := fun x => x) (MM := fun x => []) (ZZ := fun x => [row x 64 Ig x3]) F W PR Aa Aa (fun hL => Kz _ w (v4) x2.1 0 (1, 3, 0, 0) _ h3 ((CP 0 Aa) w W).nx) fun x a w F W => ?_
 obtain ⟨v5, rfl⟩ : ∃ y, y = x := ⟨x, rfl⟩
 have W : Stw ⟨Y, [], w0⟩ [(b1, [.int .i64 10, .int .i64 Ac.1, .int .i64 Ac.2.1.1, .int .i64 Ac.2.1.2.1, .int .i64 Ac.2.1.2.2.1, .int .i64 Ac.2.1.2.2.2, .int .i64 Ac.2.2.1, .int .i64 Ac.2.2.2.1, .int .i64 Ac.2.2.2.2.1, .int .i64 Ac.2.2.2.2.2, v1])] [row v5 64 Ig x3, BG v4 AV x2.1, BG v3 KJ ([(1, (10, Ac, ([(2, 0, 1)] : List (Int × Int × Int))), false), (1, x1, false)] : List (Int × (Int × (Int × (Int × Int × Int × Int) × (Int × Int × Int × Int)) × (List (Int × Int × Int))) × Bool)), BG v2 BD x1.2.2, BG v1 BD ([(2, 0, 1)] : List (Int × Int × Int))] w := W
 refine ls F W Aa (Ag F Aa).q fun a w F W => ?_
 refine Af (Ad ?_)
 obtain ⟨o1, G1, K1⟩ := Ap H
 refine AF (fun a w => ∃ x4 : Bool, some (x4) = some o1 ∧ Fr 59 [] [(0, .bool x4)] a ∧ Stw ⟨Y, [], w0⟩ [(b1, [.int .i64 10, .int .i64 Ac.1, .int .i64 Ac.2.1.1, .int .i64 Ac.2.1.2.1, .int .i64 Ac.2.1.2.2.1, .int .i64 Ac.2.1.2.2.2, .int .i64 Ac.2.2.1, .int .i64 Ac.2.2.2.1, .int .i64 Ac.2.2.2.2.1, .int .i64 Ac.2.2.2.2.2, v1])] [BG v1 BD ([(2, 0, 1)] : List (Int × Int × Int))] w) ?_ ?_
 ·
  have H := G1
  clear G1 K1
  have W := W.frontZ (i := 1) Aa Aa
  obtain ⟨v6, h4, W⟩ := W.exF Ba
  have W := W.frontZ (i := 2) Aa Aa
  obtain ⟨v7, h5, W⟩ := W.exF Jp
  refine Ae ?_
  refine ls F W Aa (Ah F Aa).q fun a w F W => ?_
  refine ls F W Aa (B7 (r := AV) (l := x2.1) DW Aa F Aa (Bc Ba h4 (CP 1 Aa))).q fun a w F W => ?_
  refine ls F W Aa (BB F Aa Aa).q fun a w F W => ?_
  refine ls F W Aa (Ah F Aa).q fun a w F W => ?_
  rcases Bool.eq_false_or_eq_true (decide ((x2.1.length : Int) = 2)) with hb | hb
  ·
   have H := AH (Bj hb) H
   rw [hb] at F
   clear hb
   refine AE F W (Ai F Aa Aa Aa Aa) Aa (Ao Aa) (Ah F Aa).q fun a w F W => ?_
   refine AE F W (Ai F Aa Aa Aa Aa) Aa (Ao Aa) (BB F Aa Aa).q fun a w F W => ?_
   refine ls F W Aa (Az F Aa Aa Aa).q fun a w F W => ?_
   refine ls F W Aa (Ah F Aa).q fun a w F W => ?_
   rcases Bool.eq_false_or_eq_true (decide (x2.2.1 = (-1))) with hb | hb
   ·
    have H := AH (Bj hb) H
    rw [hb] at F
    clear hb
    refine AE F W (Ai F Aa Aa Aa Aa) Aa (Ao Aa) (Ah F Aa).q fun a w F W => ?_
    refine AE F W (Ai F Aa Aa Aa Aa) Aa (Ao Aa) (BB F Aa Aa).q fun a w F W => ?_
    refine ls F W Aa (Az F Aa Aa Aa).q fun a w F W => ?_
    refine ls F W Aa (Ah F Aa).q fun a w F W => ?_
    rcases Bool.eq_false_or_eq_true (decide (x2.2.2 = 0)) with hb | hb
    ·
     have H := AH (Bj hb) H
     rw [hb] at F
     clear hb
     refine AE F W (Ai F Aa Aa Aa Aa) Aa (Ao Aa) (Ah F Aa).q fun a w F W => ?_
     obtain ⟨x5, h6, H⟩ := Ap H
     obtain ⟨v8, h7, h8⟩ := Ck h4 h6
     have h9 : B5 v8 = [.int .i64 x5.1, .int .i64 x5.2.1.1, .int .i64 x5.2.1.2.1.1, .int .i64 x5.2.1.2.1.2.1, .int .i64 x5.2.1.2.1.2.2.1, .int .i64 x5.2.1.2.1.2.2.2, .int .i64 x5.2.1.2.2.1, .int .i64 x5.2.1.2.2.2.1, .int .i64 x5.2.1.2.2.2.2.1, .int .i64 x5.2.1.2.2.2.2.2, (v8.2.2.1)] := congrArg (fun q : Int × (Int × (Int × Int × Int × Int) × (Int × Int × Int × Int)) × (List (Int × Int × Int)) => ([.int .i64 q.1, .int .i64 q.2.1.1, .int .i64 q.2.1.2.1.1, .int .i64 q.2.1.2.1.2.1, .int .i64 q.2.1.2.1.2.2.1, .int .i64 q.2.1.2.1.2.2.2, .int .i64 q.2.1.2.2.1, .int .i64 q.2.1.2.2.2.1, .int .i64 q.2.1.2.2.2.2.1, .int .i64 q.2.1.2.2.2.2.2, (v8.2.2.1)] : List Value)) h8
     refine AE F W (Ai F Aa Aa Aa Aa) Aa (Ao Aa) (Bg (r := Cz) D7 F Aa Aa (CP 1 Aa) h7).q fun a w F W => ?_
     refine AE F W (Ai F Aa Aa Aa Aa) Aa (Ao Aa) (Aj Ci Aa Aa Aa T3 F Aa (EM v4 + (0 : Int).toNat * 11) Aa).q fun a w F W => ?_
     refine AE F W (Ai F Aa Aa Aa Aa) Aa (Ao Aa) (A0 (y := Value.int .i64 x5.1) (j := 0) (i := 0) (enc := B5) F Aa Aa (CP 1 Aa) h7 DS T3 (by rw [h9]; rfl)).q fun a w F W => ?_
     refine AE F W (Ai F Aa Aa Aa Aa) Aa (Ao Aa) (BB F Aa Aa).q fun a w F W => ?_
     refine ls F W Aa (Az F Aa Aa Aa).q fun a w F W => ?_
     refine ls F W Aa (Ah F Aa).q fun a w F W => ?_
     rcases Bool.eq_false_or_eq_true (decide (x5.1 = 20)) with hb | hb
     ·
      have H := AH (Bj hb) H
      rw [hb] at F
      clear hb
      refine AE F W (Ai F Aa Aa Aa Aa) Aa (Ao Aa) (Ah F Aa).q fun a w F W => ?_
      refine AE F W (Ai F Aa Aa Aa Aa) Aa (Ao Aa) (B7 (r := Ig) (l := x3) Ou Aa F Aa (Bn 2 Aa)).q fun a w F W => ?_
      refine AE F W (Ai F Aa Aa Aa Aa) Aa (Ao Aa) (BB F Aa Aa).q fun a w F W => ?_
      refine ls F W Aa (Az F Aa Aa Aa).q fun a w F W => ?_
      refine ls F W Aa (Ah F Aa).q fun a w F W => ?_
      rcases Bool.eq_false_or_eq_true (decide ((x3.length : Int) = 1)) with hb | hb
      ·
       have H := AH (Bj hb) H
       rw [hb] at F
       clear hb
       refine AE F W (Ai F Aa Aa Aa Aa) Aa (Ao Aa) (Ah F Aa).q fun a w F W => ?_
       obtain ⟨x6, h10, H⟩ := Ap H
       refine AE F W (Ai F Aa Aa Aa Aa) Aa (Ao Aa) (Bg (r := Ig) O8 F Aa Aa (Bn 2 Aa) h10).q fun a w F W => ?_
       refine AE F W (Ai F Aa Aa Aa Aa) Aa (Ao Aa) (Aj OP Aa Aa Aa T3 F Aa (EM v5 + (0 : Int).toNat * 5) Aa).q fun a w F W => ?_
       refine AE F W (Ai F Aa Aa Aa Aa) Aa (Ao Aa) (A0 (y := Value.int .i64 x6.1) (j := 0) (i := 0) F Aa Aa (Bn 2 Aa) h10 Py.to T3 Aa).q fun a w F W => ?_
       refine AE F W (Ai F Aa Aa Aa Aa) Aa (Ao Aa) (BB F Aa Aa).q fun a w F W => ?_
       refine ls F W Aa (Az F Aa Aa Aa).q fun a w F W => ?_
       refine ls F W Aa (Ah F Aa).q fun a w F W => ?_
       rcases Bool.eq_false_or_eq_true (decide (x6.1 = 2)) with hb | hb
       ·
        have H := AH (Bj hb) H
        rw [hb] at F
        clear hb
        refine AE F W (Ai F Aa Aa Aa Aa) Aa (Ao Aa) (Ah F Aa).q fun a w F W => ?_
        refine AE F W (Ai F Aa Aa Aa Aa) Aa (Ao Aa) (KA (v := Value.agg #[.int .i64 0, .int .i64 0, .int .i64 0, .int .i64 0]) Nw Ox F Aa Aa Aa).q fun a w F W => ?_
        refine Gr (Ai F Aa Aa Aa Aa) ?_
        obtain ⟨x7, h11, H⟩ := Ap H
        refine ls F W Aa (AR (v := Value.int .i64 x7) F Pn Aa (fun w W => Ho any w (v4) x2.1 0 (0, 0, 0, 0) _ h11 (((Bc Ba h4 (CP 1 Aa)) : C2 _ _ _ _ _ _) w W).nx)) fun a w F W => ?_
        refine AE F W (Ai F Aa Aa Aa Aa) Aa (Ao Aa) (BB F Aa Aa).q fun a w F W => ?_
        refine ls F W Aa (Az F Aa Aa Aa).q fun a w F W => ?_
        refine ls F W Aa (Ag F Aa).q fun a w F W => ?_
        refine Af (Ad ?_)
        have W := W.frontZ (i := 4) Aa Aa
        have W := W.sub (M' := [(b1, [.int .i64 10, .int .i64 Ac.1, .int .i64 Ac.2.1.1, .int .i64 Ac.2.1.2.1, .int .i64 Ac.2.1.2.2.1, .int .i64 Ac.2.1.2.2.2, .int .i64 Ac.2.2.1, .int .i64 Ac.2.2.2.1, .int .i64 Ac.2.2.2.2.1, .int .i64 Ac.2.2.2.2.2, v1])]) (Z' := [BG v1 BD ([(2, 0, 1)] : List (Int × Int × Int))]) (List.Sublist.refl _) (List.Sublist.cons_cons _ (List.nil_sublist _))
        exact ⟨_, H, F.re ⟨rfl, trivial⟩, W⟩
       have H := AG (Bi hb) H
       rw [hb] at F
       clear hb
       iterate 4 refine CD F Aa Aa Aa Aa Aa Aa Aa fun a F => ?_
       refine ls F W Aa (Au F Aa Aa Aa).q fun a w F W => ?_
       refine ls F W Aa (Ag F Aa).q fun a w F W => ?_
       refine Af (Ad ?_)
       have W := W.frontZ (i := 4) Aa Aa
       have W := W.sub (M' := [(b1, [.int .i64 10, .int .i64 Ac.1, .int .i64 Ac.2.1.1, .int .i64 Ac.2.1.2.1, .int .i64 Ac.2.1.2.2.1, .int .i64 Ac.2.1.2.2.2, .int .i64 Ac.2.2.1, .int .i64 Ac.2.2.2.1, .int .i64 Ac.2.2.2.2.1, .int .i64 Ac.2.2.2.2.2, v1])]) (Z' := [BG v1 BD ([(2, 0, 1)] : List (Int × Int × Int))]) (List.Sublist.refl _) (List.Sublist.cons_cons _ (List.nil_sublist _))
       exact ⟨_, H, F.re ⟨rfl, trivial⟩, W⟩
      have H := AG (Bi hb) H
      rw [hb] at F
      clear hb
      iterate 5 refine CD F Aa Aa Aa Aa Aa Aa Aa fun a F => ?_
      refine ls F W Aa (Au F Aa Aa Aa).q fun a w F W => ?_
      refine ls F W Aa (Ah F Aa).q fun a w F W => ?_
      iterate 4 refine CD F Aa Aa Aa Aa Aa Aa Aa fun a F => ?_
      refine ls F W Aa (Au F Aa Aa Aa).q fun a w F W => ?_
      refine ls F W Aa (Ag F Aa).q fun a w F W => ?_
      refine Af (Ad ?_)
      have W := W.frontZ (i := 4) Aa Aa
      have W := W.sub (M' := [(b1, [.int .i64 10, .int .i64 Ac.1, .int .i64 Ac.2.1.1, .int .i64 Ac.2.1.2.1, .int .i64 Ac.2.1.2.2.1, .int .i64 Ac.2.1.2.2.2, .int .i64 Ac.2.2.1, .int .i64 Ac.2.2.2.1, .int .i64 Ac.2.2.2.2.1, .int .i64 Ac.2.2.2.2.2, v1])]) (Z' := [BG v1 BD ([(2, 0, 1)] : List (Int × Int × Int))]) (List.Sublist.refl _) (List.Sublist.cons_cons _ (List.nil_sublist _))
      exact ⟨_, H, F.re ⟨rfl, trivial⟩, W⟩
     have H := AG (Bi hb) H
     rw [hb] at F
     clear hb
     iterate 3 refine CD F Aa Aa Aa Aa Aa Aa Aa fun a F => ?_
     refine ls F W Aa (Au F Aa Aa Aa).q fun a w F W => ?_
     refine ls F W Aa (Ah F Aa).q fun a w F W => ?_
     iterate 5 refine CD F Aa Aa Aa Aa Aa Aa Aa fun a F => ?_
     refine ls F W Aa (Au F Aa Aa Aa).q fun a w F W => ?_
     refine ls F W Aa (Ah F Aa).q fun a w F W => ?_
     iterate 4 refine CD F Aa Aa Aa Aa Aa Aa Aa fun a F => ?_
     refine ls F W Aa (Au F Aa Aa Aa).q fun a w F W => ?_
     refine ls F W Aa (Ag F Aa).q fun a w F W => ?_
     refine Af (Ad ?_)
     have W := W.frontZ (i := 4) Aa Aa
     have W := W.sub (M' := [(b1, [.int .i64 10, .int .i64 Ac.1, .int .i64 Ac.2.1.1, .int .i64 Ac.2.1.2.1, .int .i64 Ac.2.1.2.2.1, .int .i64 Ac.2.1.2.2.2, .int .i64 Ac.2.2.1, .int .i64 Ac.2.2.2.1, .int .i64 Ac.2.2.2.2.1, .int .i64 Ac.2.2.2.2.2, v1])]) (Z' := [BG v1 BD ([(2, 0, 1)] : List (Int × Int × Int))]) (List.Sublist.refl _) (List.Sublist.cons_cons _ (List.nil_sublist _))
     exact ⟨_, H, F.re ⟨rfl, trivial⟩, W⟩
    have H := AG (Bi hb) H
    rw [hb] at F
    clear hb
    iterate 5 refine CD F Aa Aa Aa Aa Aa Aa Aa fun a F => ?_
    refine ls F W Aa (Au F Aa Aa Aa).q fun a w F W => ?_
    refine ls F W Aa (Ah F Aa).q fun a w F W => ?_
    iterate 3 refine CD F Aa Aa Aa Aa Aa Aa Aa fun a F => ?_
    refine ls F W Aa (Au F Aa Aa Aa).q fun a w F W => ?_
    refine ls F W Aa (Ah F Aa).q fun a w F W => ?_
    iterate 5 refine CD F Aa Aa Aa Aa Aa Aa Aa fun a F => ?_
    refine ls F W Aa (Au F Aa Aa Aa).q fun a w F W => ?_
    refine ls F W Aa (Ah F Aa).q fun a w F W => ?_
    iterate 4 refine CD F Aa Aa Aa Aa Aa Aa Aa fun a F => ?_
    refine ls F W Aa (Au F Aa Aa Aa).q fun a w F W => ?_
    refine ls F W Aa (Ag F Aa).q fun a w F W => ?_
    refine Af (Ad ?_)
    have W := W.frontZ (i := 4) Aa Aa
    have W := W.sub (M' := [(b1, [.int .i64 10, .int .i64 Ac.1, .int .i64 Ac.2.1.1, .int .i64 Ac.2.1.2.1, .int .i64 Ac.2.1.2.2.1, .int .i64 Ac.2.1.2.2.2, .int .i64 Ac.2.2.1, .int .i64 Ac.2.2.2.1, .int .i64 Ac.2.2.2.2.1, .int .i64 Ac.2.2.2.2.2, v1])]) (Z' := [BG v1 BD ([(2, 0, 1)] : List (Int × Int × Int))]) (List.Sublist.refl _) (List.Sublist.cons_cons _ (List.nil_sublist _))
    exact ⟨_, H, F.re ⟨rfl, trivial⟩, W⟩
   have H := AG (Bi hb) H
   rw [hb] at F
   clear hb
   iterate 2 refine CD F Aa Aa Aa Aa Aa Aa Aa fun a F => ?_
   refine ls F W Aa (Au F Aa Aa Aa).q fun a w F W => ?_
   refine ls F W Aa (Ah F Aa).q fun a w F W => ?_
   iterate 5 refine CD F Aa Aa Aa Aa Aa Aa Aa fun a F => ?_
   refine ls F W Aa (Au F Aa Aa Aa).q fun a w F W => ?_
   refine ls F W Aa (Ah F Aa).q fun a w F W => ?_
   iterate 3 refine CD F Aa Aa Aa Aa Aa Aa Aa fun a F => ?_
   refine ls F W Aa (Au F Aa Aa Aa).q fun a w F W => ?_
   refine ls F W Aa (Ah F Aa).q fun a w F W => ?_
   iterate 5 refine CD F Aa Aa Aa Aa Aa Aa Aa fun a F => ?_
   refine ls F W Aa (Au F Aa Aa Aa).q fun a w F W => ?_
   refine ls F W Aa (Ah F Aa).q fun a w F W => ?_
   iterate 4 refine CD F Aa Aa Aa Aa Aa Aa Aa fun a F => ?_
   refine ls F W Aa (Au F Aa Aa Aa).q fun a w F W => ?_
   refine ls F W Aa (Ag F Aa).q fun a w F W => ?_
   refine Af (Ad ?_)
   have W := W.frontZ (i := 4) Aa Aa
   have W := W.sub (M' := [(b1, [.int .i64 10, .int .i64 Ac.1, .int .i64 Ac.2.1.1, .int .i64 Ac.2.1.2.1, .int .i64 Ac.2.1.2.2.1, .int .i64 Ac.2.1.2.2.2, .int .i64 Ac.2.2.1, .int .i64 Ac.2.2.2.1, .int .i64 Ac.2.2.2.2.1, .int .i64 Ac.2.2.2.2.2, v1])]) (Z' := [BG v1 BD ([(2, 0, 1)] : List (Int × Int × Int))]) (List.Sublist.refl _) (List.Sublist.cons_cons _ (List.nil_sublist _))
   exact ⟨_, H, F.re ⟨rfl, trivial⟩, W⟩
  have H := AG (Bi hb) H
  rw [hb] at F
  clear hb
  iterate 2 refine CD F Aa Aa Aa Aa Aa Aa Aa fun a F => ?_
  refine ls F W Aa (Au F Aa Aa Aa).q fun a w F W => ?_
  refine ls F W Aa (Ah F Aa).q fun a w F W => ?_
  iterate 2 refine CD F Aa Aa Aa Aa Aa Aa Aa fun a F => ?_
  refine ls F W Aa (Au F Aa Aa Aa).q fun a w F W => ?_
  refine ls F W Aa (Ah F Aa).q fun a w F W => ?_
  iterate 5 refine CD F Aa Aa Aa Aa Aa Aa Aa fun a F => ?_
  refine ls F W Aa (Au F Aa Aa Aa).q fun a w F W => ?_
  refine ls F W Aa (Ah F Aa).q fun a w F W => ?_
  iterate 3 refine CD F Aa Aa Aa Aa Aa Aa Aa fun a F => ?_
  refine ls F W Aa (Au F Aa Aa Aa).q fun a w F W => ?_
  refine ls F W Aa (Ah F Aa).q fun a w F W => ?_
  iterate 5 refine CD F Aa Aa Aa Aa Aa Aa Aa fun a F => ?_
  refine ls F W Aa (Au F Aa Aa Aa).q fun a w F W => ?_
  refine ls F W Aa (Ah F Aa).q fun a w F W => ?_
  iterate 4 refine CD F Aa Aa Aa Aa Aa Aa Aa fun a F => ?_
  refine ls F W Aa (Au F Aa Aa Aa).q fun a w F W => ?_
  refine ls F W Aa (Ag F Aa).q fun a w F W => ?_
  refine Af (Ad ?_)
  have W := W.frontZ (i := 4) Aa Aa
  have W := W.sub (M' := [(b1, [.int .i64 10, .int .i64 Ac.1, .int .i64 Ac.2.1.1, .int .i64 Ac.2.1.2.1, .int .i64 Ac.2.1.2.2.1, .int .i64 Ac.2.1.2.2.2, .int .i64 Ac.2.2.1, .int .i64 Ac.2.2.2.1, .int .i64 Ac.2.2.2.2.1, .int .i64 Ac.2.2.2.2.2, v1])]) (Z' := [BG v1 BD ([(2, 0, 1)] : List (Int × Int × Int))]) (List.Sublist.refl _) (List.Sublist.cons_cons _ (List.nil_sublist _))
  exact ⟨_, H, F.re ⟨rfl, trivial⟩, W⟩
 rintro a w ⟨x4, hj, F, W⟩
 have hj := AJ hj
 subst hj
 have H := K1
 clear G1 K1
 refine Ay ?_
 have H := AJ H
 subst H
 refine AL (.inl Aa) F W Aa (Av F Aa) ?_
 exact ⟨rfl, W.done⟩
theorem OE : type_of% Try.underlying65 := Try.underlying65
theorem O5 : type_of% Try.underlying66 := Try.underlying66
theorem NY : type_of% Try.underlying68 := Try.underlying68
theorem H9 : Has Try.prog 9 := ⟨fun args w => An Try.func9 rfl (by decide) args w⟩
abbrev IK (x : Int × (Int × (Int × Int × Int × Int) × (Int × Int × Int × Int))) : Value := .agg #[.int .i64 x.1, .int .i64 x.2.1, .int .i64 x.2.2.1.1, .int .i64 x.2.2.1.2.1, .int .i64 x.2.2.1.2.2.1, .int .i64 x.2.2.1.2.2.2, .int .i64 x.2.2.2.1, .int .i64 x.2.2.2.2.1, .int .i64 x.2.2.2.2.2.1, .int .i64 x.2.2.2.2.2.2]
abbrev Jn (x : Unit) : Value := .agg #[]
theorem Qx : Bt Try.prog 68 [.int .i64 0, .int .i64 0, .int .i64 0, .int .i64 0, .int .i64 0, .int .i64 0, .int .i64 0, .int .i64 0, .int .i64 0, .int .i64 0] [(0, 1), (1, 9)] := ⟨⟨.agg #[.int .i64 0, .int .i64 0, .int .i64 0, .int .i64 0, .int .i64 0, .int .i64 0, .int .i64 0, .int .i64 0, .int .i64 0, .int .i64 0], by kernel_rfl, rfl⟩, ⟨_, NY, fun w => by kernel_rfl⟩⟩
theorem PY : Bt Try.prog 66 [] [] := ⟨⟨.agg #[], by kernel_rfl, rfl⟩, ⟨_, O5, fun w => by kernel_rfl⟩⟩
theorem O9 (dd : Nat) (x0 : Int) (x1 : Int) (x2 : Int) (x3 : Int) (x4 : Int) (x5 : Int) (x6 : Int) (x7 : Int) (x8 : Int) (x9 : Int) (y0 : Int) (y1 : Int) (y2 : Int) (y3 : Int) (y4 : Int) (y5 : Int) (y6 : Int) (y7 : Int) (y8 : Int) (y9 : Int) (w : World) : (Op.equalIn (dd + 4) 68 (.agg #[.int .i64 x0, .int .i64 x1, .int .i64 x2, .int .i64 x3, .int .i64 x4, .int .i64 x5, .int .i64 x6, .int .i64 x7, .int .i64 x8, .int .i64 x9]) (.agg #[.int .i64 y0, .int .i64 y1, .int .i64 y2, .int .i64 y3, .int .i64 y4, .int .i64 y5, .int .i64 y6, .int .i64 y7, .int .i64 y8, .int .i64 y9])).run Try.prog w = .ok (decide (x0 = y0 ∧ x1 = y1 ∧ x2 = y2 ∧ x3 = y3 ∧ x4 = y4 ∧ x5 = y5 ∧ x6 = y6 ∧ x7 = y7 ∧ x8 = y8 ∧ x9 = y9)) w :=
  HS (d := dd + 3) (rs := [decide (x0 = y0), decide (x1 = y1 ∧ x2 = y2 ∧ x3 = y3 ∧ x4 = y4 ∧ x5 = y5 ∧ x6 = y6 ∧ x7 = y7 ∧ x8 = y8 ∧ x9 = y9)]) NY (by kernel_rfl) ⟨rfl, Hj (d := dd + 2) rfl rfl Oc T3 rfl rfl, rfl, JW (d := dd + 3) (sz := 9) (xs' := [.int .i64 x1, .int .i64 x2, .int .i64 x3, .int .i64 x4, .int .i64 x5, .int .i64 x6, .int .i64 x7, .int .i64 x8, .int .i64 x9]) (ys' := [.int .i64 y1, .int .i64 y2, .int .i64 y3, .int .i64 y4, .int .i64 y5, .int .i64 y6, .int .i64 y7, .int .i64 y8, .int .i64 y9]) rfl rfl Dk rfl rfl (fun w => OH (dd + 0) x1 x2 x3 x4 x5 x6 x7 x8 x9 y1 y2 y3 y4 y5 y6 y7 y8 y9 w), trivial⟩ (by rw [Bool.eq_iff_iff]; simp [and_assoc]) w
theorem PV (x0 : Int) (x1 : Int) (x2 : Int) (x3 : Int) (x4 : Int) (x5 : Int) (x6 : Int) (x7 : Int) (x8 : Int) (x9 : Int) (y0 : Int) (y1 : Int) (y2 : Int) (y3 : Int) (y4 : Int) (y5 : Int) (y6 : Int) (y7 : Int) (y8 : Int) (y9 : Int) (w : World) : (Op.equalIn 10000 68 (.agg #[.int .i64 x0, .int .i64 x1, .int .i64 x2, .int .i64 x3, .int .i64 x4, .int .i64 x5, .int .i64 x6, .int .i64 x7, .int .i64 x8, .int .i64 x9]) (.agg #[.int .i64 y0, .int .i64 y1, .int .i64 y2, .int .i64 y3, .int .i64 y4, .int .i64 y5, .int .i64 y6, .int .i64 y7, .int .i64 y8, .int .i64 y9])).run Try.prog w = .ok (decide (x0 = y0 ∧ x1 = y1 ∧ x2 = y2 ∧ x3 = y3 ∧ x4 = y4 ∧ x5 = y5 ∧ x6 = y6 ∧ x7 = y7 ∧ x8 = y8 ∧ x9 = y9)) w := O9 9996 x0 x1 x2 x3 x4 x5 x6 x7 x8 x9 y0 y1 y2 y3 y4 y5 y6 y7 y8 y9 w
instance : DecidableEq (Int × Int) := inferInstance
instance : DecidableEq (Int × Int × Int) := inferInstance
instance : DecidableEq (Int × Int × Int × Int) := inferInstance
instance : DecidableEq ((Int × Int × Int × Int) × (Int × Int × Int × Int)) := inferInstance
instance : DecidableEq (Int × (Int × Int × Int × Int) × (Int × Int × Int × Int)) := inferInstance
instance : DecidableEq (Int × (Int × (Int × Int × Int × Int) × (Int × Int × Int × Int))) := inferInstance
theorem Pb : KeyEnc Try.prog 68 IK := ⟨⟨_, NY, .inl fun _ _ => rfl⟩, fun x y w => (PV x.1 x.2.1 x.2.2.1.1 x.2.2.1.2.1 x.2.2.1.2.2.1 x.2.2.1.2.2.2 x.2.2.2.1 x.2.2.2.2.1 x.2.2.2.2.2.1 x.2.2.2.2.2.2 y.1 y.2.1 y.2.2.1.1 y.2.2.1.2.1 y.2.2.1.2.2.1 y.2.2.1.2.2.2 y.2.2.2.1 y.2.2.2.2.1 y.2.2.2.2.2.1 y.2.2.2.2.2.2 w).trans (by congr 1; exact decide_eq_decide.2 (by simp only [Prod.ext_iff, and_assoc])), fun b x w => by kernel_rfl, fun x => by simp [Instr.sameBits]⟩
noncomputable def DB (p0 : List (Int × (Int × (Int × Int × Int × Int) × (Int × Int × Int × Int)) × (List (Int × Int × Int)))) (p1 : Int) : (Int × (List ((Int × (Int × (Int × Int × Int × Int) × (Int × Int × Int × Int))) × Unit))) → Option ((Int × (List ((Int × (Int × (Int × Int × Int × Int) × (Int × Int × Int × Int))) × Unit))) ⊕ ((List ((Int × (Int × (Int × Int × Int × Int) × (Int × Int × Int × Int))) × Unit)) ⊕ Bool))
  | (x2, x3) => (if x2 < (p0.length : Int) then (ix p0 x2).bind fun x4 => ((Dx x4 p1).bind fun x6 => (if (!x6) = true then some true else (if 0 < x2 then (ix p0 (BT (x2 - 1))).bind fun x7 => some (DZ x4 x7) else some false))).bind fun x5 => (if x5 = true then some (.inr (.inr false)) else some (.inl (BT (x2 + 1), GP x3 (x4.1, x4.2.1) ()))) else some (.inr (.inl x3)))
noncomputable def D8 (p0 : List (Int × (Int × (Int × Int × Int × Int) × (Int × Int × Int × Int)) × (List (Int × Int × Int)))) (p1 : Int) (p2 : Int) : Option Bool := (if p2 < (p0.length : Int) then some false else FB (A9 (DB p0 p1) (0, ([] : List ((Int × (Int × (Int × Int × Int × Int) × (Int × Int × Int × Int))) × Unit)))) fun x1 => some (decide ((x1.length : Int) = (p0.length : Int))))
theorem GU (Y : Nat → Prop) (w0 : World) (v1 : Value) (p0 : List (Int × (Int × (Int × Int × Int × Int) × (Int × Int × Int × Int)) × (List (Int × Int × Int)))) (p1 : Int) (p2 : Int) (r : Bool) (H : D8 p0 p1 p2 = some r) (h_v1 : Sl w0 (NX []) AV v1 p0) :
    Calls Try.prog 10 #[v1, .int .i64 p1, .int .i64 p2] w0 fun e w' => e = .returned (.bool r) ∧ Below w0.heap.size w0 w' := by
 refine enter Try.func10 Aa Try.ntmps10 Aa fun a F => ?_
 have W := Stw.start Y w0
 obtain ⟨v2, h1, h_v1⟩ := h_v1.ex Ba
 unfold D8 at H
 refine Al (Ae ?_)
 refine ls F W Aa (Ag F Aa).q fun a w F W => ?_
 refine Af (Ad (Al (Al (Ae ?_))))
 refine ls F W Aa (Ah F Aa).q fun a w F W => ?_
 refine ls F W Aa (B7 (r := AV) (l := p0) DW Aa F Aa (Bc Ba h1 (Aw h_v1))).q fun a w F W => ?_
 refine ls F W Aa (Ah F Aa).q fun a w F W => ?_
 refine ls F W Aa (E3 F Aa Aa).q fun a w F W => ?_
 refine Af (Ad ?_)
 refine AA F Aa (fun hb => ?_) fun hb => ?_
 ·
  have H := AH (Bj hb) H
  rw [hb] at F
  clear hb
  refine Al (Ae ?_)
  refine ls F W Aa (Ag F Aa).q fun a w F W => ?_
  refine Af (Ad (Ay (AD ?_)))
  have H := AJ H
  subst H
  refine AL (.inl Aa) F W Aa (Av F Aa) ?_
  exact ⟨rfl, W.done⟩
 have H := AG (Bi hb) H
 rw [hb] at F
 clear hb
 refine Ax (Ad (Al (Ae ?_)))
 refine LI IK Jn F W Aa fun b1 a w F W => ?_
 have W : Stw ⟨Y, [], w0⟩ [] [mp b1 IK Jn ([] : List ((Int × (Int × (Int × Int × Int × Int) × (Int × Int × Int × Int))) × Unit))] w := W
 refine ls F W Aa (Ag F Aa).q fun a w F W => ?_
 refine Af (Ad ?_)
 obtain ⟨o1, G1, K1, L1⟩ := Ih H
 refine AF (fun a w => ∃ x1 : List ((Int × (Int × (Int × Int × Int × Int) × (Int × Int × Int × Int))) × Unit), some (Sum.inl x1) = some o1 ∧ Fr 52 [] [(0, v1), (6, .bool false), (7, .map (some b1))] a ∧ Stw ⟨Y, [], w0⟩ [] [mp b1 IK Jn x1] w) ?_ ?_
 ·
  have H := G1
  clear G1 K1
  refine Al (Ae ?_)
  refine ls F W Aa (Ah F Aa).q fun a w F W => ?_
  refine ls F W Aa (B7 (r := AV) (l := p0) DW Aa F Aa (Bc Ba h1 (Aw h_v1))).q fun a w F W => ?_
  refine ls F W Aa (Ah F Aa).q fun a w F W => ?_
  refine Af (Ad (AC ?_))
  refine Bz H (fun s a w => Fr 52 [] [(0, v1), (1, .int .i64 p1), (6, .bool false), (7, .map (some b1)), (15, v1), (16, .int .i64 (p0.length : Int)), (17, .int .i64 s.1)] a ∧ Stw ⟨Y, [], w0⟩ [] [mp b1 IK Jn s.2] w) ⟨F.re ⟨rfl, Aa, Aa, Aa, Aa, Aa, Aa, trivial⟩, W⟩ fun s o a w H L2 hR => ?_
  obtain ⟨x2, x3⟩ := s
  obtain ⟨F, W⟩ := hR
  have F : Fr 52 [] [(0, v1), (1, .int .i64 p1), (6, .bool false), (7, .map (some b1)), (15, v1), (16, .int .i64 (p0.length : Int)), (17, .int .i64 x2)] a := F
  have W : Stw ⟨Y, [], w0⟩ [] [mp b1 IK Jn x3] w := W
  rw [DB] at H
  refine Al (Ae ?_)
  refine ls F W Aa (BI F Aa Aa).q fun a w F W => ?_
  refine Af (Ad (Al ?_))
  refine AA F Aa (fun hb => ?_) fun hb => ?_
  ·
   have H := AH (Bj hb) H
   rw [hb] at F
   clear hb
   refine Ax (Ad (Al (AC (Al (Ae ?_)))))
   refine ls F W Aa (Ah F Aa).q fun a w F W => ?_
   obtain ⟨x4, h2, H⟩ := Ap H
   obtain ⟨v3, h3, h4⟩ := Ck h1 h2
   have h5 : B5 v3 = [.int .i64 x4.1, .int .i64 x4.2.1.1, .int .i64 x4.2.1.2.1.1, .int .i64 x4.2.1.2.1.2.1, .int .i64 x4.2.1.2.1.2.2.1, .int .i64 x4.2.1.2.1.2.2.2, .int .i64 x4.2.1.2.2.1, .int .i64 x4.2.1.2.2.2.1, .int .i64 x4.2.1.2.2.2.2.1, .int .i64 x4.2.1.2.2.2.2.2, (v3.2.2.1)] := congrArg (fun q : Int × (Int × (Int × Int × Int × Int) × (Int × Int × Int × Int)) × (List (Int × Int × Int)) => ([.int .i64 q.1, .int .i64 q.2.1.1, .int .i64 q.2.1.2.1.1, .int .i64 q.2.1.2.1.2.1, .int .i64 q.2.1.2.1.2.2.1, .int .i64 q.2.1.2.1.2.2.2, .int .i64 q.2.1.2.2.1, .int .i64 q.2.1.2.2.2.1, .int .i64 q.2.1.2.2.2.2.1, .int .i64 q.2.1.2.2.2.2.2, (v3.2.2.1)] : List Value)) h4
   refine ls F W Aa (Bg (r := Cz) D7 F Aa Aa (Aw h_v1) h3).q fun a w F W => ?_
   refine ls F W Aa (A0 (y := Value.agg #[.int .i64 x4.1, .int .i64 x4.2.1.1, .int .i64 x4.2.1.2.1.1, .int .i64 x4.2.1.2.1.2.1, .int .i64 x4.2.1.2.1.2.2.1, .int .i64 x4.2.1.2.1.2.2.2, .int .i64 x4.2.1.2.2.1, .int .i64 x4.2.1.2.2.2.1, .int .i64 x4.2.1.2.2.2.2.1, .int .i64 x4.2.1.2.2.2.2.2, (v3.2.2.1)]) (j := 0) (i := x2) (enc := B5) F Aa Aa (Aw h_v1) h3 DS CH (by rw [h5]; rfl)).q fun a w F W => ?_
   refine Cf (cs := [.int .i64 0, .int .i64 0, .int .i64 0, .int .i64 0, .int .i64 0, .int .i64 0, .int .i64 0, .int .i64 0, .int .i64 0, .int .i64 0, .slice none 0 0]) F W Aa JC Aa fun b2 a w F W => ?_
   refine ls F W Aa (Ag F Aa).q fun a w F W => ?_
   refine BA (vs := [.int .i64 x4.1, .int .i64 x4.2.1.1, .int .i64 x4.2.1.2.1.1, .int .i64 x4.2.1.2.1.2.1, .int .i64 x4.2.1.2.1.2.2.1, .int .i64 x4.2.1.2.1.2.2.2, .int .i64 x4.2.1.2.2.1, .int .i64 x4.2.1.2.2.2.1, .int .i64 x4.2.1.2.2.2.2.1, .int .i64 x4.2.1.2.2.2.2.2, (v3.2.2.1)]) (M' := [(b2, [.int .i64 x4.1, .int .i64 x4.2.1.1, .int .i64 x4.2.1.2.1.1, .int .i64 x4.2.1.2.1.2.1, .int .i64 x4.2.1.2.1.2.2.1, .int .i64 x4.2.1.2.1.2.2.2, .int .i64 x4.2.1.2.2.1, .int .i64 x4.2.1.2.2.2.1, .int .i64 x4.2.1.2.2.2.2.1, .int .i64 x4.2.1.2.2.2.2.2, (v3.2.2.1)])]) 0 F W Aa Aa Aa CH Aa Aa Aa (Am Aa (Am Aa (Am Aa (Am Aa (Am Aa (Am Aa (Am Aa (Am Aa (Am Aa (Am Aa (Am ((CT (Aw h_v1) h3 (Bb.snd (Bb.snd Bb.here)) (congrArg (fun q : Int × (Int × (Int × Int × Int × Int) × (Int × Int × Int × Int)) × (List (Int × Int × Int)) => q.2.2) h4)) _ W).one CX))))))))))) Aa fun w W => ?_
   refine Af (Ad (Al ?_))
   obtain ⟨o3, G3, K3⟩ := Ap H
   refine AF (fun a w => ∃ x5 : Bool, some (x5) = some o3 ∧ Fr 52 [] [(0, v1), (1, .int .i64 p1), (6, .bool false), (7, .map (some b1)), (9, .pointer (some ⟨b2, 0, none⟩)), (15, v1), (16, .int .i64 (p0.length : Int)), (17, .int .i64 x2), (38, .bool x5)] a ∧ Stw ⟨Y, [], w0⟩ [(b2, [.int .i64 x4.1, .int .i64 x4.2.1.1, .int .i64 x4.2.1.2.1.1, .int .i64 x4.2.1.2.1.2.1, .int .i64 x4.2.1.2.1.2.2.1, .int .i64 x4.2.1.2.1.2.2.2, .int .i64 x4.2.1.2.2.1, .int .i64 x4.2.1.2.2.2.1, .int .i64 x4.2.1.2.2.2.2.1, .int .i64 x4.2.1.2.2.2.2.2, (v3.2.2.1)])] [mp b1 IK Jn x3] w) ?_ ?_
   ·
    have H := G3
    clear G3 K3
    refine Co W MO (by kernel_rfl) ?_
    refine qs F Aa (Aq (v := Value.agg #[.int .i64 x4.1, .int .i64 x4.2.1.1, .int .i64 x4.2.1.2.1.1, .int .i64 x4.2.1.2.1.2.1, .int .i64 x4.2.1.2.1.2.2.1, .int .i64 x4.2.1.2.1.2.2.2, .int .i64 x4.2.1.2.2.1, .int .i64 x4.2.1.2.2.2.1, .int .i64 x4.2.1.2.2.2.2.1, .int .i64 x4.2.1.2.2.2.2.2, (v3.2.2.1)]) 0 F Aa Aa CH Aa).q fun a F => ?_
    refine qs F Aa (Ah F Aa).q fun a F => ?_
    obtain ⟨x6, h6, H⟩ := Ap H
    refine qs F Aa (AR (v := Value.bool x6) F PH Aa (fun w W => HA any w ((v3.2.2.1)) x4 p1 _ h6 (((CT (Aw h_v1) h3 (Bb.snd (Bb.snd Bb.here)) (congrArg (fun q : Int × (Int × (Int × Int × Int × Int) × (Int × Int × Int × Int)) × (List (Int × Int × Int)) => q.2.2) h4)) : C2 _ _ _ _ _ _) w W).nx)) fun a F => ?_
    refine qs F Aa (Ec F Aa).q fun a F => ?_
    refine qs F Aa (Ah F Aa).q fun a F => ?_
    rcases Bool.eq_false_or_eq_true (!x6) with hb | hb
    ·
     have H := AH hb H
     rw [hb] at F
     clear hb
     iterate 3 refine BK F (Bq F Aa Aa Aa Aa Aa) Aa Aa fun a F => ?_
     iterate 7 refine BK F (Ge F Aa Aa Aa Aa) Aa Aa fun a F => ?_
     refine BK F (Bq F Aa Aa Aa Aa Aa) Aa Aa fun a F => ?_
     refine qs F Aa (Az F Aa Aa Aa).q fun a F => ?_
     refine A4 fun w W => ?_
     refine Ad ?_
     exact ⟨_, H, F.re ⟨rfl, Aa, Aa, Aa, Aa, Aa, Aa, Aa, Aa, trivial⟩, W⟩
    have H := AG (by rw [hb]; decide) H
    rw [hb] at F
    clear hb
    refine Bh F (Ai F Aa Aa Aa Aa) Aa (Ao Aa) (Ah F Aa).q fun a F => ?_
    refine Bh F (Ai F Aa Aa Aa Aa) Aa (Ao Aa) (E3 F Aa Aa).q fun a F => ?_
    refine Bh F (Ai F Aa Aa Aa Aa) Aa (Ao Aa) (Ah F Aa).q fun a F => ?_
    rcases Bool.eq_false_or_eq_true (decide (0 < x2)) with hb | hb
    ·
     have H := AH (Bj hb) H
     rw [hb] at F
     clear hb
     refine Bh F (Ai F Aa Aa Aa Aa) Aa (Ao Aa) (Aq (v := Value.agg #[.int .i64 x4.1, .int .i64 x4.2.1.1, .int .i64 x4.2.1.2.1.1, .int .i64 x4.2.1.2.1.2.1, .int .i64 x4.2.1.2.1.2.2.1, .int .i64 x4.2.1.2.1.2.2.2, .int .i64 x4.2.1.2.2.1, .int .i64 x4.2.1.2.2.2.1, .int .i64 x4.2.1.2.2.2.2.1, .int .i64 x4.2.1.2.2.2.2.2, (v3.2.2.1)]) 0 F Aa Aa CH Aa).q fun a F => ?_
     iterate 2 refine Bh F (Ai F Aa Aa Aa Aa) Aa (Ao Aa) (Ah F Aa).q fun a F => ?_
     refine Bh F (Ai F Aa Aa Aa Aa) Aa (Ao Aa) (MQ F Aa Aa Aa).q fun a F => ?_
     obtain ⟨x7, h7, H⟩ := Ap H
     obtain ⟨v4, h8, h9⟩ := Ck h1 h7
     have h10 : B5 v4 = [.int .i64 x7.1, .int .i64 x7.2.1.1, .int .i64 x7.2.1.2.1.1, .int .i64 x7.2.1.2.1.2.1, .int .i64 x7.2.1.2.1.2.2.1, .int .i64 x7.2.1.2.1.2.2.2, .int .i64 x7.2.1.2.2.1, .int .i64 x7.2.1.2.2.2.1, .int .i64 x7.2.1.2.2.2.2.1, .int .i64 x7.2.1.2.2.2.2.2, (v4.2.2.1)] := congrArg (fun q : Int × (Int × (Int × Int × Int × Int) × (Int × Int × Int × Int)) × (List (Int × Int × Int)) => ([.int .i64 q.1, .int .i64 q.2.1.1, .int .i64 q.2.1.2.1.1, .int .i64 q.2.1.2.1.2.1, .int .i64 q.2.1.2.1.2.2.1, .int .i64 q.2.1.2.1.2.2.2, .int .i64 q.2.1.2.2.1, .int .i64 q.2.1.2.2.2.1, .int .i64 q.2.1.2.2.2.2.1, .int .i64 q.2.1.2.2.2.2.2, (v4.2.2.1)] : List Value)) h9
     refine Bh F (Ai F Aa Aa Aa Aa) Aa (Ao Aa) (Bg (r := Cz) D7 F Aa Aa (Aw h_v1) h8).q fun a F => ?_
     refine Bh F (Ai F Aa Aa Aa Aa) Aa (Ao Aa) (A0 (y := Value.agg #[.int .i64 x7.1, .int .i64 x7.2.1.1, .int .i64 x7.2.1.2.1.1, .int .i64 x7.2.1.2.1.2.1, .int .i64 x7.2.1.2.1.2.2.1, .int .i64 x7.2.1.2.1.2.2.2, .int .i64 x7.2.1.2.2.1, .int .i64 x7.2.1.2.2.2.1, .int .i64 x7.2.1.2.2.2.2.1, .int .i64 x7.2.1.2.2.2.2.2, (v4.2.2.1)]) (j := 0) (i := BT (x2 - 1)) (enc := B5) F Aa Aa (Aw h_v1) h8 DS CH (by rw [h10]; rfl)).q fun a F => ?_
     refine Bh F (Ai F Aa Aa Aa Aa) Aa (Ao Aa) (AR (v := Value.bool (DZ x4 x7)) F Pk Aa (fun w W => Hw any w ((v3.2.2.1)) ((v4.2.2.1)) x4 x7 _ Aa (((CT (Aw h_v1) h3 (Bb.snd (Bb.snd Bb.here)) (congrArg (fun q : Int × (Int × (Int × Int × Int × Int) × (Int × Int × Int × Int)) × (List (Int × Int × Int)) => q.2.2) h4)) : C2 _ _ _ _ _ _) w W).nx (((CT (Aw h_v1) h8 (Bb.snd (Bb.snd Bb.here)) (congrArg (fun q : Int × (Int × (Int × Int × Int × Int) × (Int × Int × Int × Int)) × (List (Int × Int × Int)) => q.2.2) h9)) : C2 _ _ _ _ _ _) w W).nx)) fun a F => ?_
     refine Bh F (Ai F Aa Aa Aa Aa) Aa (Ao Aa) (Az F Aa Aa Aa).q fun a F => ?_
     refine qs F Aa (Au F Aa Aa Aa).q fun a F => ?_
     refine A4 fun w W => ?_
     refine Ad ?_
     exact ⟨_, H, F.re ⟨rfl, Aa, Aa, Aa, Aa, Aa, Aa, Aa, Aa, trivial⟩, W⟩
    have H := AG (Bi hb) H
    rw [hb] at F
    clear hb
    iterate 7 refine BK F (Bq F Aa Aa Aa Aa Aa) Aa Aa fun a F => ?_
    refine Bh F (Ai F Aa Aa Aa Aa) Aa (Ao Aa) (Au F Aa Aa Aa).q fun a F => ?_
    refine qs F Aa (Au F Aa Aa Aa).q fun a F => ?_
    refine A4 fun w W => ?_
    refine Ad ?_
    exact ⟨_, H, F.re ⟨rfl, Aa, Aa, Aa, Aa, Aa, Aa, Aa, Aa, trivial⟩, W⟩
   rintro a w ⟨x5, hj, F, W⟩
   have hj := AJ hj
   subst hj
   have H := K3
   clear G3 K3
   refine AA F Aa (fun hb => ?_) fun hb => ?_
   ·
    have H := AH hb H
    rw [hb] at F
    clear hb
    refine Al (Ae ?_)
    refine ls F W Aa (Ag F Aa).q fun a w F W => ?_
    refine Af (Ad (Ay (AD (AK ?_))))
    iterate 2 refine AD ?_
    refine AK (AD ?_)
    have H := L2 _ H
    have H := L1 _ H
    have H := AJ H
    subst H
    refine AL (.inl Aa) F W Aa (Av F Aa) ?_
    exact ⟨rfl, W.done⟩
   have H := AG (by rw [hb]; decide) H
   rw [hb] at F
   clear hb
   refine Ax (Ad (Ae ?_))
   refine ls F W Aa (Ah F Aa).q fun a w F W => ?_
   refine ls F W Aa (Aj Ci Aa Aa Aa T3 F Aa 0 Aa).q fun a w F W => ?_
   refine ls F W Aa (Aq (v := Value.int .i64 x4.1) 0 F Aa Aa T3 Aa).q fun a w F W => ?_
   refine ls F W Aa (Aj Ci Aa Aa Aa Dk F Aa 1 Aa).q fun a w F W => ?_
   refine ls F W Aa (Aq (v := Value.agg #[.int .i64 x4.2.1.1, .int .i64 x4.2.1.2.1.1, .int .i64 x4.2.1.2.1.2.1, .int .i64 x4.2.1.2.1.2.2.1, .int .i64 x4.2.1.2.1.2.2.2, .int .i64 x4.2.1.2.2.1, .int .i64 x4.2.1.2.2.2.1, .int .i64 x4.2.1.2.2.2.2.1, .int .i64 x4.2.1.2.2.2.2.2]) 0 F Aa Aa Dk Aa).q fun a w F W => ?_
   refine ls F W Aa (Dp (v := Value.agg #[.int .i64 x4.1, .int .i64 x4.2.1.1, .int .i64 x4.2.1.2.1.1, .int .i64 x4.2.1.2.1.2.1, .int .i64 x4.2.1.2.1.2.2.1, .int .i64 x4.2.1.2.1.2.2.2, .int .i64 x4.2.1.2.2.1, .int .i64 x4.2.1.2.2.2.1, .int .i64 x4.2.1.2.2.2.2.1, .int .i64 x4.2.1.2.2.2.2.2]) Qx F Aa Aa Aa).q fun a w F W => ?_
   refine ls F W Aa (Dp (v := Value.agg #[]) PY F Aa Aa Aa).q fun a w F W => ?_
   refine MK (q := 0) (kx := ((x4.1, x4.2.1) : Int × (Int × (Int × Int × Int × Int) × (Int × Int × Int × Int)))) (vx := (() : Unit)) (E := IK) (V := Jn) F W Aa Aa Aa Aa Aa Pb OE fun w W => ?_
   have W : Stw ⟨Y, [], w0⟩ [(b2, [.int .i64 x4.1, .int .i64 x4.2.1.1, .int .i64 x4.2.1.2.1.1, .int .i64 x4.2.1.2.1.2.1, .int .i64 x4.2.1.2.1.2.2.1, .int .i64 x4.2.1.2.1.2.2.2, .int .i64 x4.2.1.2.2.1, .int .i64 x4.2.1.2.2.2.1, .int .i64 x4.2.1.2.2.2.2.1, .int .i64 x4.2.1.2.2.2.2.2, (v3.2.2.1)])] [mp b1 IK Jn (GP x3 (x4.1, x4.2.1) ())] w := W
   refine Af (A1 (Ad (Ae ?_)))
   refine ls F W Aa (B6 F Aa Aa Aa).q fun a w F W => ?_
   refine ls F W Aa (Ah F Aa).q fun a w F W => ?_
   refine Af (Ad ?_)
   have W := W.sub (M' := []) (Z' := [mp b1 IK Jn (GP x3 (x4.1, x4.2.1) ())]) (List.nil_sublist _) (List.Sublist.refl _)
   exact ⟨_, H, F.re ⟨rfl, Aa, Aa, Aa, Aa, Aa, Aa, trivial⟩, W⟩
  have H := AG (Bi hb) H
  rw [hb] at F
  clear hb
  refine Bu ?_
  iterate 2 refine BX ?_
  refine Br (Ad ?_)
  have H := L2 _ H
  exact ⟨_, H, F.re ⟨rfl, Aa, Aa, trivial⟩, W⟩
 rintro a w ⟨x1, hj, F, W⟩
 have H := K1 _ hj
 clear hj G1 K1 L1
 refine Al (Ae ?_)
 refine ls F W Aa (Ah F Aa).q fun a w F W => ?_
 refine ls F W Aa (MV (q := 0) (E := IK) (V := Jn) F Aa Aa Aa OE).q fun a w F W => ?_
 refine ls F W Aa (Ah F Aa).q fun a w F W => ?_
 refine ls F W Aa (B7 (r := AV) (l := p0) DW Aa F Aa (Bc Ba h1 (Aw h_v1))).q fun a w F W => ?_
 refine ls F W Aa (BB F Aa Aa).q fun a w F W => ?_
 refine ls F W Aa (Ag F Aa).q fun a w F W => ?_
 refine Af (Ad (Ay ?_))
 have H := AJ H
 subst H
 refine AL (.inl Aa) F W Aa (Av F Aa) ?_
 exact ⟨rfl, W.done⟩
theorem Pj : Has Try.prog 10 := ⟨fun args w => An Try.func10 rfl (by decide) args w⟩
def Bo (p0 : Int) : Int := (if p0 = 2 then 15 else (if (decide (p0 = 0) || (decide (p0 = 1) || decide (p0 = 3))) = true then 255 else 0))
theorem HV (Y : Nat → Prop) (w0 : World)  (p0 : Int) (r : Int) (H : Bo p0 = r)  :
    Calls Try.prog 35 #[.int .i64 p0] w0 fun e w' => e = .returned (.int .i64 r) ∧ Below w0.heap.size w0 w' := by
 refine enter Try.func35 Aa Try.ntmps35 Aa fun a F => ?_
 have W := Stw.start Y w0
 unfold Bo at H
 refine Al (Ae ?_)
 refine ls F W Aa (Ag F Aa).q fun a w F W => ?_
 refine Af (Ad (Al (Al (Ae ?_))))
 refine ls F W Aa (Ah F Aa).q fun a w F W => ?_
 refine ls F W Aa (BB F Aa Aa).q fun a w F W => ?_
 refine Af (Ad ?_)
 refine AA F Aa (fun hb => ?_) fun hb => ?_
 ·
  have H := AH (Bj hb) H
  rw [hb] at F
  clear hb
  refine Al (Ae ?_)
  refine ls F W Aa (Ag F Aa).q fun a w F W => ?_
  refine Af (Ad (Ay (AD ?_)))
  subst H
  refine AL (.inl Aa) F W Aa (Av F Aa) ?_
  exact ⟨rfl, W.done⟩
 have H := AG (Bi hb) H
 rw [hb] at F
 clear hb
 refine Ax (Ad (Al ?_))
 refine AF (fun a w => Fr 15 [] [(2, .int .i64 0), (14, .bool (decide (p0 = 0) || (decide (p0 = 1) || decide (p0 = 3))))] a ∧ Stw ⟨Y, [], w0⟩ [] [] w) ?_ ?_
 ·
  refine Ae ?_
  refine ls F W Aa (Ah F Aa).q fun a w F W => ?_
  refine ls F W Aa (BB F Aa Aa).q fun a w F W => ?_
  refine ls F W Aa (Ah F Aa).q fun a w F W => ?_
  rcases Bool.eq_false_or_eq_true (decide (p0 = 0)) with hb0 | hb0
  ·
   rw [hb0] at F
   iterate 2 refine CD F Aa Aa Aa Aa Aa Aa Aa fun a F => ?_
   refine ls F W Aa (Az F Aa Aa Aa).q fun a w F W => ?_
   refine ls F W Aa (Ah F Aa).q fun a w F W => ?_
   iterate 2 refine CD F Aa Aa Aa Aa Aa Aa Aa fun a F => ?_
   refine ls F W Aa (Az F Aa Aa Aa).q fun a w F W => ?_
   refine Af (Ad ?_)
   exact ⟨F.re ⟨rfl, (by show some (Value.bool true) = some (Value.bool (decide (p0 = 0) || (decide (p0 = 1) || decide (p0 = 3)))); try rw [hb0]; all_goals simp only [Bool.not_true, Bool.not_false, Bool.true_and, Bool.false_and, Bool.true_or, Bool.false_or, Bool.and_true, Bool.or_false, cond_true, cond_false]), trivial⟩, W⟩
  rw [hb0] at F
  refine AE F W (Ai F Aa Aa Aa Aa) Aa (Ao Aa) (Ah F Aa).q fun a w F W => ?_
  refine AE F W (Ai F Aa Aa Aa Aa) Aa (Ao Aa) (BB F Aa Aa).q fun a w F W => ?_
  refine ls F W Aa (Au F Aa Aa Aa).q fun a w F W => ?_
  refine ls F W Aa (Ah F Aa).q fun a w F W => ?_
  rcases Bool.eq_false_or_eq_true (decide (p0 = 1)) with hb1 | hb1
  ·
   rw [hb1] at F
   iterate 2 refine CD F Aa Aa Aa Aa Aa Aa Aa fun a F => ?_
   refine ls F W Aa (Az F Aa Aa Aa).q fun a w F W => ?_
   refine Af (Ad ?_)
   exact ⟨F.re ⟨rfl, (by show some (Value.bool true) = some (Value.bool (decide (p0 = 0) || (decide (p0 = 1) || decide (p0 = 3)))); try rw [hb0]; try rw [hb1]; all_goals simp only [Bool.not_true, Bool.not_false, Bool.true_and, Bool.false_and, Bool.true_or, Bool.false_or, Bool.and_true, Bool.or_false, cond_true, cond_false]), trivial⟩, W⟩
  rw [hb1] at F
  refine AE F W (Ai F Aa Aa Aa Aa) Aa (Ao Aa) (Ah F Aa).q fun a w F W => ?_
  refine AE F W (Ai F Aa Aa Aa Aa) Aa (Ao Aa) (BB F Aa Aa).q fun a w F W => ?_
  refine ls F W Aa (Au F Aa Aa Aa).q fun a w F W => ?_
  refine Af (Ad ?_)
  exact ⟨F.re ⟨rfl, (by show some (Value.bool (decide (p0 = 3))) = some (Value.bool (decide (p0 = 0) || (decide (p0 = 1) || decide (p0 = 3)))); try rw [hb0]; try rw [hb1]; all_goals simp only [Bool.not_true, Bool.not_false, Bool.true_and, Bool.false_and, Bool.true_or, Bool.false_or, Bool.and_true, Bool.or_false, cond_true, cond_false]), trivial⟩, W⟩
 rintro a w ⟨F, W⟩
 refine AA F Aa (fun hb => ?_) fun hb => ?_
 ·
  have H := AH hb H
  rw [hb] at F
  clear hb
  refine Al (Ae ?_)
  refine ls F W Aa (Ag F Aa).q fun a w F W => ?_
  refine Af (Ad (Ay (AD ?_)))
  subst H
  refine AL (.inl Aa) F W Aa (Av F Aa) ?_
  exact ⟨rfl, W.done⟩
 have H := AG (by rw [hb]; decide) H
 rw [hb] at F
 clear hb
 refine Ax (Ad (Al (Ae ?_)))
 refine ls F W Aa (Ag F Aa).q fun a w F W => ?_
 refine Af (Ad (Ay ?_))
 subst H
 refine AL (.inl Aa) F W Aa (Av F Aa) ?_
 exact ⟨rfl, W.done⟩
theorem Pd : Has Try.prog 35 := ⟨fun args w => An Try.func35 rfl (by decide) args w⟩
noncomputable def Fq (p1 : Int) : (Int × Int) → Option ((Int × Int) ⊕ Int)
  | (x2, x3) => (if x3 < p1 then some (.inl (BT (Int.tdiv x2 2), BT (x3 + 1))) else some (.inr x2))
noncomputable def CR (p0 : Int) (p1 : Int) : Option Int := (A9 (Fq p1) (p0, 0)).bind fun x1 => some (Int.tmod x1 2)
theorem CK (Y : Nat → Prop) (w0 : World)  (p0 : Int) (p1 : Int) (r : Int) (H : CR p0 p1 = some r)  :
    Calls Try.prog 57 #[.int .i64 p0, .int .i64 p1] w0 fun e w' => e = .returned (.int .i64 r) ∧ Below w0.heap.size w0 w' := by
 refine enter Try.func57 Aa Try.ntmps57 Aa fun a F => ?_
 have W := Stw.start Y w0
 unfold CR at H
 refine Al (Ae ?_)
 refine ls F W Aa (Ag F Aa).q fun a w F W => ?_
 refine Af (Ad ?_)
 obtain ⟨o1, G1, K1⟩ := Ap H
 refine AF (fun a w => ∃ x1 : Int, some (x1) = some o1 ∧ Fr 15 [] [(0, .int .i64 x1), (4, .int .i64 0)] a ∧ Stw ⟨Y, [], w0⟩ [] [] w) ?_ ?_
 ·
  have H := G1
  clear G1 K1
  refine Al (Ae ?_)
  refine ls F W Aa (Ag F Aa).q fun a w F W => ?_
  refine Af (Ad (AC ?_))
  refine Bz H (fun s a w => Fr 15 [] [(0, .int .i64 s.1), (1, .int .i64 p1), (4, .int .i64 0), (5, .int .i64 s.2)] a ∧ Stw ⟨Y, [], w0⟩ [] [] w) ⟨F.re ⟨rfl, Aa, Aa, Aa, trivial⟩, W⟩ fun s o a w H L2 hR => ?_
  obtain ⟨x2, x3⟩ := s
  obtain ⟨F, W⟩ := hR
  have F : Fr 15 [] [(0, .int .i64 x2), (1, .int .i64 p1), (4, .int .i64 0), (5, .int .i64 x3)] a := F
  have W : Stw ⟨Y, [], w0⟩ [] [] w := W
  rw [Fq] at H
  refine Al (Al (Ae ?_))
  iterate 2 refine ls F W Aa (Ah F Aa).q fun a w F W => ?_
  refine ls F W Aa (BI F Aa Aa).q fun a w F W => ?_
  refine Af (Ad ?_)
  refine AA F Aa (fun hb => ?_) fun hb => ?_
  ·
   have H := AH (Bj hb) H
   rw [hb] at F
   clear hb
   refine Ax (Ad (Al (AC (Ae ?_))))
   refine ls F W Aa (Ah F Aa).q fun a w F W => ?_
   refine ls F W Aa (OK F Aa Aa (by decide) Aa).q fun a w F W => ?_
   refine ls F W Aa (Ag F Aa).q fun a w F W => ?_
   refine Af (A1 (Ad (Ae ?_)))
   refine ls F W Aa (Ah F Aa).q fun a w F W => ?_
   refine ls F W Aa (B6 F Aa Aa Aa).q fun a w F W => ?_
   refine ls F W Aa (Ag F Aa).q fun a w F W => ?_
   refine Af (Ad ?_)
   exact ⟨_, H, F.re ⟨rfl, Aa, Aa, Aa, trivial⟩, W⟩
  have H := AG (Bi hb) H
  rw [hb] at F
  clear hb
  refine Bu ?_
  iterate 2 refine BX ?_
  refine Br (Ad ?_)
  have H := L2 _ H
  exact ⟨_, H, F.re ⟨rfl, Aa, trivial⟩, W⟩
 rintro a w ⟨x1, hj, F, W⟩
 have hj := AJ hj
 subst hj
 have H := K1
 clear G1 K1
 refine Al (Ae ?_)
 refine ls F W Aa (Ah F Aa).q fun a w F W => ?_
 refine ls F W Aa (OQ F Aa Aa (by decide) Aa).q fun a w F W => ?_
 refine ls F W Aa (Ag F Aa).q fun a w F W => ?_
 refine Af (Ad (Ay ?_))
 have H := AJ H
 subst H
 refine AL (.inl Aa) F W Aa (Av F Aa) ?_
 exact ⟨rfl, W.done⟩
end Go.Proofs.Ytkjjioigbpkifaa
